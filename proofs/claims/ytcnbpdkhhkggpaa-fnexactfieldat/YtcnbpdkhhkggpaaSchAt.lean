/- A type's place in a schema: the specification's and the program's finding. -/
import Derived.Test.YtcnbpdkhhkggpaaSchSpec
namespace Go.Proofs.Ytcnbpdkhhkggpaa.G
open Go.ChangeShapes Go.WideShapes Go.ChangeAt Go.RowKit Go.Maps
open Go.WideMaps (keyOf_string_mk)
set_option linter.unusedVariables false

/-- The answer of TypeAt. -/
def TyR (l : List Td) (s : ByteArray) (x y : Int) : Prop :=
  (65536 < s.size ∧ x = 0 ∧ y = 2) ∨ (¬ 65536 < s.size ∧ ¬ SchOK l ∧ x = 0 ∧ y = 1) ∨ (¬ 65536 < s.size ∧ SchOK l ∧ seen (l.map Td.nm) s = false ∧ x = 0 ∧ y = 5) ∨
  (¬ 65536 < s.size ∧ SchOK l ∧ ∃ j, ∃ h : j < (l.map Td.nm).length, ((l.map Td.nm)[j].toList == s.toList) = true ∧ x = j ∧ y = 0)
def SaysI (p : Int → Int → Prop) (e : Ending) : Prop := ∃ x y, e = .returned (.tuple #[.int .i64 x, .int .i64 y]) ∧ p x y
theorem SaysI.of {p : Int → Int → Prop} {x y : Int} (h : p x y) : SaysI p (.returned (.tuple #[.int .i64 x, .int .i64 y])) := ⟨_, _, rfl, h⟩
theorem once {ns : List ByteArray} (hn : OkN ns) {s : ByteArray} {i j : Nat} (hi : i < ns.length) (hj : j < ns.length) (h1 : (ns[i].toList == s.toList) = true) (h2 : (ns[j].toList == s.toList) = true) : i = j := by
  rw [beq_iff_eq] at h1 h2
  have key : ∀ {i j : Nat} (hi : i < ns.length) (hj : j < ns.length), ns[i].toList = ns[j].toList → ¬ i < j := by
    intro i j hi hj h hlt
    have := (hn j hj).2
    rw [seen_of hi hlt (by rw [beq_iff_eq]; exact h)] at this
    cases this
  have a1 := key hi hj (h1.trans h2.symm)
  have a2 := key hj hi (h2.trans h1.symm)
  omega
theorem TyR.one {l : List Td} {s : ByteArray} {x y x' y' : Int} (h : TyR l s x y) (h' : TyR l s x' y') : x = x' ∧ y = y' := by
  rcases h with ⟨p1, rfl, rfl⟩ | ⟨p1, p2, rfl, rfl⟩ | ⟨p1, p2, p3, rfl, rfl⟩ | ⟨p1, p2, j, hj, p3, rfl, rfl⟩ <;>
  rcases h' with ⟨q1, rfl, rfl⟩ | ⟨q1, q2, rfl, rfl⟩ | ⟨q1, q2, q3, rfl, rfl⟩ | ⟨q1, q2, i, hi, q3, rfl, rfl⟩ <;>
  first
    | exact ⟨rfl, rfl⟩
    | exact absurd p1 q1
    | exact absurd q1 p1
    | exact absurd p2 q2
    | exact absurd q2 p2
    | (rw [seen_of' hi q3] at p3; cases p3)
    | (rw [seen_of' hj p3] at q3; cases q3)
    | exact ⟨by rw [once p2.2.2.2.2.1 hj hi p3 q3], rfl⟩

set_option maxHeartbeats 2000000 in
set_option maxRecDepth 40000 in
theorem impl_typeAt (a : Option Addr) (c : Nat) (l : List Td) (s : ByteArray) (w : World) (hr : TdRow 0 w.heap.size w a l) (hb : TdsBd 1048576 l) (hs : s.size ≤ 1048576) :
    Calls Try.prog 18 #[.agg #[.slice a l.length c], .string s] w fun e w' => SaysI (TyR l s) e ∧ Below w.heap.size w w' := by
  have B0 : Hid (Below w.heap.size w (w.alloc (.cells #[.slice a l.length c] 33))) := (Below.refl _ _).alloc (Nat.le_refl _) _
  have K1 : Hid (∀ W0, Below w.heap.size w W0 → TdRow 0 W0.heap.size W0 a l) := fun W0 hB => TdRow.up hr hB
  have HB : Hid (TdsBd 1048576 l) := hb
  clear hr hb
  by_cases hl : 65536 < s.size
  · have HN : Hid (TyR l s 0 2) := .inl ⟨hl, rfl, rfl⟩
    go_enter Try.func18, Try.ntmps18
    go_wp2_with fail
    go_ret2
    exact ⟨SaysI.of HN.out, B0.out⟩
  go_enter Try.func18, Try.ntmps18
  go_wp2_with fail
  refine (impl_schema a c l _ (K1.out _ B0.out) HB.out).mono ?_
  rintro e w1 ⟨⟨bb, rfl, ⟨rfl, hf⟩ | ⟨rfl, hf⟩⟩, hb1⟩
  case inr =>
    have HN : Hid (TyR l s 0 1) := .inr (.inl ⟨hl, hf, rfl, rfl⟩)
    go_wp2_with fail
    go_ret2
    exact ⟨SaysI.of HN.out, below_one hb1⟩
  have HS : Hid (SchOK l) := hf
  have k1 := fun o => hb1.cell (p := ⟨w.heap.size, o, none⟩) (by simp)
  have z1 := size_one hb1
  have Q1 : Hid (Below w.heap.size w w1) := below_one hb1
  clear hb1 hf
  go_wp2_with fail
  refine (impl_places_Td a c l _ (K1.out _ Q1.out) HB.out.1 (Bd_nmT HB.out.2)).mono ?_
  rintro e w2 ⟨hb2, ⟨C, rfl, h1, hC, h2⟩ | ⟨rfl, h1⟩⟩
  case inr => exact absurd HS.out.2.2.2.2.1 h1
  have Q2 : Hid (Below w.heap.size w w2) := Q1.out.trans (hb2.mono (by omega))
  obtain ⟨D, hown, hh, hat0⟩ := h2
  have sx : s.size ≤ maxLen := by unfold maxLen; omega
  have hkey := key_of sx
  have HN : Hid (Maps.has D (.string s.toList) = seen (l.map Td.nm) s) := hh s
  have HA : Hid _ := hat0
  clear hh hat0 hb2 k1 hC
  cases hsn : seen (l.map Td.nm) s
  · have hno : Maps.has D (.string s.toList) = false := by rw [HN.out, hsn]
    have HR : Hid (TyR l s 0 5) := .inr (.inr (.inl ⟨hl, HS.out, hsn, rfl, rfl⟩))
    go_wp2_with (first
      | (at_lookup; refine wpList_lookup_own_ok_int _ rfl _ _ 50 rfl 9 3 .i64 law9 Try.underlying50 Try.underlying3 (zero3 _) C (l.map Td.nm).length _ rfl (by first | exact hown | exact hown.alloc _) _ _ rfl hkey ?_; intro v hat hwc; rw [hno])
      | go_in)
    go_ret2
    exact ⟨SaysI.of HR.out, by first | exact Q2.out | exact Q2.out.alloc Q2.out.size _⟩
  · have hyes : Maps.has D (.string s.toList) = true := by rw [HN.out, hsn]
    have HJ : Hid (∃ j, ∃ h : j < (l.map Td.nm).length, ((l.map Td.nm)[j].toList == s.toList) = true) := by
      unfold seen at hsn
      rw [List.any_eq_true] at hsn
      obtain ⟨t, ht, he⟩ := hsn
      obtain ⟨j, hj, rfl⟩ := List.getElem_of_mem ht
      exact ⟨j, hj, he⟩
    go_wp2_with (first
      | (at_lookup; refine wpList_lookup_own_ok_int _ rfl _ _ 50 rfl 9 3 .i64 law9 Try.underlying50 Try.underlying3 (zero3 _) C (l.map Td.nm).length _ rfl (by first | exact hown | exact hown.alloc _) _ _ rfl hkey ?_; intro v hat hwc; rw [hyes])
      | go_in)
    go_ret2
    have HR : TyR l s v 0 := by
      obtain ⟨j, hj, he⟩ := HJ.out
      have e1 := HA.out j hj
      rw [beq_iff_eq] at he
      rw [he, hat] at e1
      simp only [DataW.lit.injEq, Lit.int.injEq, true_and] at e1
      exact .inr (.inr (.inr ⟨hl, HS.out, j, hj, by rw [beq_iff_eq]; exact he, e1, rfl⟩))
    exact ⟨SaysI.of HR, by first | exact Q2.out | exact Q2.out.alloc Q2.out.size _⟩
end Go.Proofs.Ytcnbpdkhhkggpaa.G
