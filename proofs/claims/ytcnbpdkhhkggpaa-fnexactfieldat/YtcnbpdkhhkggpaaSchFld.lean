/- FieldAt: a field found by its type's name and its own, in new memory; the program's side. -/
import Derived.Test.YtcnbpdkhhkggpaaSchAt
import Derived.Test.YtcnbpdkhhkggpaaSchClone
namespace Go.Proofs.Ytcnbpdkhhkggpaa.G
open Go.ChangeShapes Go.WideShapes Go.ChangeAt Go.RowKit
set_option linter.unusedVariables false

def fd0 : Fd := ⟨⟨#[]⟩, [], ⟨#[]⟩, false, false⟩
/-- What FieldAt answers: a field and a code. -/
def FlR (l : List Td) (s t : ByteArray) (x : Fd) (y : Int) : Prop :=
  ((65536 < s.size ∨ 65536 < t.size) ∧ x = fd0 ∧ y = 2) ∨
  (¬ (65536 < s.size ∨ 65536 < t.size) ∧ ¬ SchOK l ∧ x = fd0 ∧ y = 1) ∨
  (¬ (65536 < s.size ∨ 65536 < t.size) ∧ SchOK l ∧ seen (l.map Td.nm) s = false ∧ x = fd0 ∧ y = 5) ∨
  (¬ (65536 < s.size ∨ 65536 < t.size) ∧ SchOK l ∧ ∃ j, ∃ hj : j < l.length, (l[j].nm.toList == s.toList) = true ∧
    ((seen (l[j].fs.map Fd.nm) t = false ∧ x = fd0 ∧ y = 9) ∨ ∃ i, ∃ hi : i < l[j].fs.length, (l[j].fs[i].nm.toList == t.toList) = true ∧ x = l[j].fs[i] ∧ y = 0))
theorem FlR.one {l : List Td} {s t : ByteArray} {x x' : Fd} {y y' : Int} (h : FlR l s t x y) (h' : FlR l s t x' y') : x = x' ∧ y = y' := by
  rcases h with ⟨p1, rfl, rfl⟩ | ⟨p1, p2, rfl, rfl⟩ | ⟨p1, p2, p3, rfl, rfl⟩ | ⟨p1, p2, j, hj, p3, p4⟩ <;>
  rcases h' with ⟨q1, rfl, rfl⟩ | ⟨q1, q2, rfl, rfl⟩ | ⟨q1, q2, q3, rfl, rfl⟩ | ⟨q1, q2, k, hk, q3, q4⟩ <;>
  first
    | exact ⟨rfl, rfl⟩
    | exact absurd p1 q1
    | exact absurd q1 p1
    | exact absurd p2 q2
    | exact absurd q2 p2
    | (rw [seen_of' (ns := l.map Td.nm) (k := k) (by simpa using hk) (by simpa using q3)] at p3; cases p3)
    | (rw [seen_of' (ns := l.map Td.nm) (k := j) (by simpa using hj) (by simpa using p3)] at q3; cases q3)
    | skip
  have e : j = k := once (ns := l.map Td.nm) p2.2.2.2.2.1 (by simpa using hj) (by simpa using hk) (by simpa using p3) (by simpa using q3)
  subst e
  have ok := (p2.2.2.2.2.2 l[j] (List.getElem_mem hj)).2.2.1
  rcases p4 with ⟨p4, rfl, rfl⟩ | ⟨i, hi, p4, rfl, rfl⟩ <;> rcases q4 with ⟨q4, rfl, rfl⟩ | ⟨m, hm, q4, rfl, rfl⟩
  · exact ⟨rfl, rfl⟩
  · rw [seen_of' (ns := l[j].fs.map Fd.nm) (k := m) (by simpa using hm) (by simpa using q4)] at p4; cases p4
  · rw [seen_of' (ns := l[j].fs.map Fd.nm) (k := i) (by simpa using hi) (by simpa using p4)] at q4; cases q4
  · have e : i = m := once (ns := l[j].fs.map Fd.nm) ok (by simpa using hi) (by simpa using hm) (by simpa using p4) (by simpa using q4)
    subst e
    exact ⟨rfl, rfl⟩
/-- A field as a value. -/
def fdV (x : Fd) (a : Option Addr) (c : Nat) : Value := .agg #[.string x.nm, .slice a x.args.length c, .string x.ty, .bool x.ls, .bool x.bg]
def SaysF (lo : Nat) (w' : World) (p : Fd → Int → Prop) (e : Ending) : Prop := ∃ x y a c, e = .returned (.tuple #[fdV x a c, .int .i64 y]) ∧ p x y ∧ AgMine lo w'.heap.size w' a x.args
theorem mine_nil (lo hi : Nat) (w : World) (a : Option Addr) : AgMine lo hi w a [] := ⟨[], .inl ⟨rfl, rfl⟩, by simp, by simp⟩
theorem SaysF.zero {lo : Nat} {w' : World} {p : Fd → Int → Prop} {y : Int} (h : p fd0 y) : SaysF lo w' p (.returned (.tuple #[.agg #[.string ⟨#[]⟩, .slice none 0 0, .string ⟨#[]⟩, .bool false, .bool false], .int .i64 y])) := ⟨fd0, y, none, 0, rfl, h, mine_nil _ _ _ _⟩

set_option maxHeartbeats 4000000 in
set_option maxRecDepth 40000 in
theorem impl_fieldAt (a : Option Addr) (c : Nat) (l : List Td) (s t : ByteArray) (w : World) (hr : TdRow 0 w.heap.size w a l) (hb : TdsBd 1048576 l) (hs : s.size ≤ 1048576) (ht : t.size ≤ 1048576) :
    Calls Try.prog 7 #[.agg #[.slice a l.length c], .string s, .string t] w fun e w' => SaysF w.heap.size w' (FlR l s t) e ∧ Below w.heap.size w w' := by
  have K1 : Hid (∀ W0, Below w.heap.size w W0 → TdRow 0 W0.heap.size W0 a l) := fun W0 hB => TdRow.up hr hB
  have HB : Hid (TdsBd 1048576 l) := hb
  clear hr hb
  by_cases hl : 65536 < t.size
  · have HN : Hid (FlR l s t fd0 2) := .inl ⟨.inr hl, rfl, rfl⟩
    go_enter Try.func7, Try.ntmps7
    go_wp2_with fail
    refine bodyPost_ret (v := .tuple #[.agg #[.string ⟨#[]⟩, .slice none 0 0, .string ⟨#[]⟩, .bool false, .bool false], .int .i64 2]) (by simp [results, Try.results7, go_sem]) rfl ⟨SaysF.zero HN.out, ?_⟩
    repeat (first | exact Below.refl _ _ | refine Below.setCell ?_ (by first | omega | (simp <;> omega)) _ | refine Below.alloc ?_ (by first | omega | (simp <;> omega)) _)
  go_enter Try.func7, Try.ntmps7
  go_wp2_with fail
  refine (impl_typeAt a c l s _ (K1.out _ ?b0) HB.out hs).mono ?_
  case b0 => repeat (first | exact Below.refl _ _ | refine Below.setCell ?_ (by first | omega | (simp <;> omega)) _ | refine Below.alloc ?_ (by first | omega | (simp <;> omega)) _)
  rintro e w1 ⟨⟨x1, y1, rfl, hty⟩, hb1⟩
  have z1 : w.heap.size + 2 ≤ w1.heap.size := by have := hb1.size; simp at this; omega
  have Q1 : Hid (Below w.heap.size w w1) := by
    refine Below.trans ?_ (hb1.mono (by first | omega | (simp <;> omega)))
    repeat (first | exact Below.refl _ _ | refine Below.setCell ?_ (by first | omega | (simp <;> omega)) _ | refine Below.alloc ?_ (by first | omega | (simp <;> omega)) _)
  have k10 := fun o => hb1.cell (p := ⟨w.heap.size, o, none⟩) (by first | omega | (simp <;> omega))
  have k11 := fun o => hb1.cell (p := ⟨w.heap.size + 1, o, none⟩) (by first | omega | (simp <;> omega))
  have j11 := fun o => hb1.frozen (p := ⟨w.heap.size + 1, o, none⟩) (by first | omega | (simp <;> omega))
  clear hb1
  rcases hty with ⟨p1, rfl, rfl⟩ | ⟨p1, p2, rfl, rfl⟩ | ⟨p1, p2, p3, rfl, rfl⟩ | ⟨p1, p2, j, hj, p3, rfl, rfl⟩
  · have HN : Hid (FlR l s t fd0 2) := .inl ⟨.inl p1, rfl, rfl⟩
    go_wp2_with fail
    refine bodyPost_ret (v := .tuple #[.agg #[.string ⟨#[]⟩, .slice none 0 0, .string ⟨#[]⟩, .bool false, .bool false], .int .i64 2]) (by simp [results, Try.results7, go_sem, k11]) rfl ⟨SaysF.zero HN.out, ?_⟩
    repeat (first | exact Q1.out | refine Below.setCell ?_ (by first | omega | (simp <;> omega)) _ | refine Below.alloc ?_ (by first | omega | (simp <;> omega)) _)
  · have HN : Hid (FlR l s t fd0 1) := .inr (.inl ⟨by omega, p2, rfl, rfl⟩)
    go_wp2_with fail
    refine bodyPost_ret (v := .tuple #[.agg #[.string ⟨#[]⟩, .slice none 0 0, .string ⟨#[]⟩, .bool false, .bool false], .int .i64 1]) (by simp [results, Try.results7, go_sem, k11]) rfl ⟨SaysF.zero HN.out, ?_⟩
    repeat (first | exact Q1.out | refine Below.setCell ?_ (by first | omega | (simp <;> omega)) _ | refine Below.alloc ?_ (by first | omega | (simp <;> omega)) _)
  · have HN : Hid (FlR l s t fd0 5) := .inr (.inr (.inl ⟨by omega, p2, p3, rfl, rfl⟩))
    go_wp2_with fail
    refine bodyPost_ret (v := .tuple #[.agg #[.string ⟨#[]⟩, .slice none 0 0, .string ⟨#[]⟩, .bool false, .bool false], .int .i64 5]) (by simp [results, Try.results7, go_sem, k11]) rfl ⟨SaysF.zero HN.out, ?_⟩
    repeat (first | exact Q1.out | refine Below.setCell ?_ (by first | omega | (simp <;> omega)) _ | refine Below.alloc ?_ (by first | omega | (simp <;> omega)) _)
  have hj : j < l.length := by simpa using hj
  have p3 : Hid ((l[j].nm.toList == s.toList) = true) := by unfold Hid; simpa using p3
  have HO : Hid (SchOK l) := p2
  have HBT : Hid (TdBd 1048576 l[j]) := HB.out.2 _ (List.getElem_mem hj)
  have HOT : Hid (TdOK (l.map Td.nm) l[j]) := p2.2.2.2.2.2 _ (List.getElem_mem hj)
  have hsh : ¬ (65536 < s.size ∨ 65536 < t.size) := by omega
  clear p2
  obtain ⟨b, o, a3, c3, ha, _, hbl, d0, d1, r3⟩ := TdRow.cells (K1.out _ Q1.out) j hj
  subst ha
  have R3 : Hid (∀ W0, Below w1.heap.size w1 W0 → FdRow 0 W0.heap.size W0 a3 l[j].fs) := fun W0 hB => FdRow.up r3 hB
  clear r3
  go_wp2_with fail
  refine (impl_places_Fd a3 c3 l[j].fs _ (R3.out _ ((Below.refl _ _).alloc (Nat.le_refl _) _)) HBT.out.2.1 (Bd_nm HBT.out.2.2)).mono ?_
  rintro e w2 ⟨hb2, ⟨C, rfl, h1, hC, h2⟩ | ⟨rfl, h1⟩⟩
  case inr => exact absurd HOT.out.2.2.1 h1
  have z2 : w1.heap.size + 1 ≤ w2.heap.size := size_one hb2
  have P2 : Hid (Below w1.heap.size w1 w2) := below_one hb2
  have k21 := fun o => P2.out.cell (p := ⟨w.heap.size + 1, o, none⟩) (show w.heap.size + 1 < w1.heap.size by omega)
  have j21 := fun o => P2.out.frozen (p := ⟨w.heap.size + 1, o, none⟩) (show w.heap.size + 1 < w1.heap.size by omega)
  have k2d := fun o => hb2.cell (p := ⟨w1.heap.size, o, none⟩) (by first | omega | (simp <;> omega))
  have Q2 : Hid (Below w.heap.size w w2) := Q1.out.trans (P2.out.mono (by omega))
  obtain ⟨D, hown, hh, hat0⟩ := h2
  have sx : t.size ≤ maxLen := by unfold maxLen; omega
  have hkey := key_of sx
  have HN : Hid (Maps.has D (.string t.toList) = seen (l[j].fs.map Fd.nm) t) := hh t
  have HA : Hid _ := hat0
  clear hh hat0 hb2 hC h1
  cases hsn : seen (l[j].fs.map Fd.nm) t
  · have hno : Maps.has D (.string t.toList) = false := by rw [HN.out, hsn]
    have HR : Hid (FlR l s t fd0 9) := .inr (.inr (.inr ⟨hsh, HO.out, j, hj, p3.out, .inl ⟨hsn, rfl, rfl⟩⟩))
    clear hsn
    go_wp2_with (first
      | (at_lookup; refine wpList_lookup_own_ok_int _ rfl _ _ 50 rfl 9 3 .i64 law9 Try.underlying50 Try.underlying3 (zero3 _) C (l[j].fs.map Fd.nm).length _ rfl hown _ _ rfl hkey ?_; intro v hat hwc; rw [hno])
      | fail)
    refine bodyPost_ret (v := .tuple #[.agg #[.string ⟨#[]⟩, .slice none 0 0, .string ⟨#[]⟩, .bool false, .bool false], .int .i64 9]) (by simp [results, Try.results7, go_sem, k21, k11]) rfl ⟨SaysF.zero HR.out, ?_⟩
    repeat (first | exact Q2.out | refine Below.setCell ?_ (by first | omega | (simp <;> omega)) _ | refine Below.alloc ?_ (by first | exact Q2.out.size | omega | (simp <;> omega)) _)
  · have hyes : Maps.has D (.string t.toList) = true := by rw [HN.out, hsn]
    obtain ⟨i, hi, he⟩ : ∃ i, ∃ h : i < (l[j].fs.map Fd.nm).length, ((l[j].fs.map Fd.nm)[i].toList == t.toList) = true := by
      unfold seen at hsn
      rw [List.any_eq_true] at hsn
      obtain ⟨t', ht', he⟩ := hsn
      obtain ⟨i, hi, rfl⟩ := List.getElem_of_mem ht'
      exact ⟨i, hi, he⟩
    have hA := HA.out i hi
    rw [beq_iff_eq.1 he] at hA
    have HV : Hid (∀ v : Int, D.atKey (.string t.toList) (.lit (.int .i64 0)) = .lit (.int .i64 v) → v = i) := by
      intro v hv
      rw [hA] at hv
      simp only [DataW.lit.injEq, Lit.int.injEq, true_and] at hv
      exact hv.symm
    have hi2 : i < l[j].fs.length := by simpa using hi
    have HR : Hid (FlR l s t l[j].fs[i] 0) := .inr (.inr (.inr ⟨hsh, HO.out, j, hj, p3.out, .inr ⟨i, hi2, by simpa using he, rfl, rfl⟩⟩))
    have HBF : Hid (FdBd 1048576 l[j].fs[i]) := HBT.out.2.2 _ (List.getElem_mem hi2)
    obtain ⟨b4, o4, a4, c4, ha4, _, hbl4, e0, e1, e2, e3, e4, r4⟩ := FdRow.cells (R3.out _ P2.out) i hi2
    subst ha4
    have R4 : Hid (AgRow 0 w2.heap.size w2 a4 l[j].fs[i].args) := r4
    clear hA he hi hsn r4 d0 d1
    go_wp2_with (first
      | (at_lookup; refine wpList_lookup_own_ok_int _ rfl _ _ 50 rfl 9 3 .i64 law9 Try.underlying50 Try.underlying3 (zero3 _) C (l[j].fs.map Fd.nm).length _ rfl hown _ _ rfl hkey ?_; intro v hat hwc; rw [hyes]; obtain rfl := HV.out v hat)
      | fail)
    refine (clone_Fd l[j].fs[i] a4 c4 _ R4.out HBF.out).mono ?_
    rintro e w3 ⟨b5, d5, rfl, A5, hb3⟩
    have A5 : Hid (AgMine w2.heap.size w3.heap.size w3 b5 l[j].fs[i].args) := A5
    have k31 := fun o => hb3.cell (p := ⟨w.heap.size + 1, o, none⟩) (by first | omega | (simp <;> omega))
    have j31 := fun o => hb3.frozen (p := ⟨w.heap.size + 1, o, none⟩) (by first | omega | (simp <;> omega))
    have z3 := hb3.size
    have Q3 : Hid (Below w.heap.size w w3) := Q2.out.trans (hb3.mono (by omega))
    clear hb3
    go_wp2_with fail
    refine bodyPost_ret (v := .tuple #[fdV l[j].fs[i] b5 d5, .int .i64 0]) (by simp [results, Try.results7, go_sem, k31, k21, k11, fdV]) rfl ?_
    have G : ∀ W' : World, W'.heap.size = w3.heap.size → Agree (w.heap.size + 2) w3.heap.size w3 W' → Below w.heap.size w W' → SaysF w.heap.size W' (FlR l s t) (.returned (.tuple #[fdV l[j].fs[i] b5 d5, .int .i64 0])) ∧ Below w.heap.size w W' :=
      fun W' hw ha hB => ⟨⟨_, _, _, _, rfl, HR.out, AgMine.wide (AgMine.keep (AgMine.wide A5.out (by omega) (Nat.le_refl _)) ha) (by omega) (by omega)⟩, hB⟩
    refine G _ (by simp) ?_ ?_
    · intro g h1 h2
      repeat rw [heap_set _ _ _ _ _ (by omega)]
    · repeat (refine Below.setCell ?_ (by first | omega | (simp <;> omega)) _)
      exact Q3.out
end Go.Proofs.Ytcnbpdkhhkggpaa.G
