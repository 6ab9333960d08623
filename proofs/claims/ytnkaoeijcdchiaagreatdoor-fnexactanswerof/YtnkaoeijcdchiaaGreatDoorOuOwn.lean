/- Answers' values that a call owns: each list in a block of its own, between two block numbers, those of one value ahead of those of the next. -/
import Derived.Test.YtnkaoeijcdchiaaGreatDoorOuRows
import Derived.Deep.CutBlock
import Derived.Deep.CutRange
import Derived.Test.YtnkaoeijcdchiaaGreatDoorStMark
import Derived.Lib.ItoaNum
import Derived.Lib.ItoaLen
namespace Go.Proofs.YtnkaoeijcdchiaaGreatDoor.G
open Go.ChangeShapes Go.WideShapes Go.ChangeAt Go.RowKit
set_option linter.unusedVariables false

theorem appO_snoc : ∀ (p : List (Oh × Ous)) (h : Oh) (sub rest : Ous), appO (p ++ [(h, sub)]) rest = appO p (.cons h sub rest)
  | [], h, sub, rest => rfl
  | x :: p, h, sub, rest => by simp only [List.cons_append, appO]; rw [appO_snoc p]
theorem OuPre.more {lo hi : Nat} {w : World} {rd : Nat → Option Value} {h : Oh} {sub rest : Ous} : ∀ (pre : List (Oh × Ous)) {o : Nat}, OuPre lo hi w (appO pre (.cons h sub rest)) rd o pre.length →
    OhAt lo hi w rd (o + 5 * pre.length) h → (∃ a c, rd (o + 5 * pre.length + 4) = some (.slice a sub.len c) ∧ OuRow lo hi w a sub) → OuPre lo hi w (appO pre (.cons h sub rest)) rd o (pre.length + 1)
  | [], o, _, h1, h2 => .inr ⟨by simpa using h1, by simpa [OuRow] using h2, by
      cases rest with
      | nil => exact trivial
      | cons _ _ _ => exact .inl rfl⟩
  | x :: pre, o, hp, h1, h2 => by
    rcases hp with hp | ⟨p1, p2, p3⟩
    · simp at hp
    · refine .inr ⟨p1, p2, ?_⟩
      have e : (x :: pre).length + 1 - 1 = pre.length + 1 := by simp
      rw [e]
      refine OuPre.more pre (by simpa using p3) ?_ ?_
      · rw [show o + 5 + 5 * pre.length = o + 5 * (x :: pre).length by simp; omega]; exact h1
      · rw [show o + 5 + 5 * pre.length = o + 5 * (x :: pre).length by simp; omega]; exact h2
theorem OuPre.cells {lo hi : Nat} {w : World} {rd rd' : Nat → Option Value} : ∀ {l : Ous} {o k : Nat}, OuPre lo hi w l rd o k → (∀ j, o ≤ j → j < o + 5 * k → rd' j = rd j) → OuPre lo hi w l rd' o k
  | .nil, _, _, _, _ => trivial
  | .cons h sub rest, o, k, hp, hj => by
    rcases hp with hp | ⟨⟨p0, p1, p2, a, c, p3, pc, p4⟩, ⟨a2, c2, p5, p6⟩, p7⟩
    · exact .inl hp
    · by_cases hk : k = 0
      · exact .inl hk
      refine .inr ⟨⟨?_, ?_, ?_, a, c, ?_, pc, p4⟩, ⟨a2, c2, ?_, p6⟩, OuPre.cells p7 (fun j h1 h2 => hj j (by omega) (by omega))⟩
      · rw [hj _ (by omega) (by omega)]; exact p0
      · rw [hj _ (by omega) (by omega)]; exact p1
      · rw [hj _ (by omega) (by omega)]; exact p2
      · rw [hj _ (by omega) (by omega)]; exact p3
      · rw [hj _ (by omega) (by omega)]; exact p5
theorem agree_set {lo hi : Nat} {w : World} {b o : Nat} {v : Value} (h : b < lo) : Agree lo hi w (w.setCell ⟨b, o, none⟩ v) := fun g h1 _ => heap_set _ _ _ _ _ (by omega)
set_option maxRecDepth 100000 in
theorem info_str : ∃ i, Tryz.prog.info? 9 = some i ∧ i.zero = some (.string ⟨#[]⟩) ∧ i.size = 1 ∧ i.bytes = 16 := by
  refine ⟨_, rfl, ?_, ?_, ?_⟩ <;> kernel_rfl
set_option maxRecDepth 100000 in
theorem info_out : ∃ i, Tryz.prog.info? 44 = some i ∧ i.zero = some (.agg #[.int .i64 0, .int .i64 0, .string ⟨#[]⟩, .slice none 0 0, .slice none 0 0]) ∧ i.size = 5 ∧ i.bytes = 80 := by
  refine ⟨_, rfl, ?_, ?_, ?_⟩ <;> kernel_rfl
set_option maxHeartbeats 1000000 in
theorem to_keys (a : Option Addr) (c : Nat) (l : List ByteArray) (w : World) (hr : KeRow 0 w.heap.size w a l) (hl : l.length ≤ 1048576) :
    Calls Tryz.prog 31 #[.slice a l.length c] w fun e w' => ∃ a', e = .returned (.slice a' l.length l.length) ∧ KeRow w.heap.size w'.heap.size w' a' l ∧ Below w.heap.size w w' := by
  have HR : Hid (KeRow 0 w.heap.size w a l) := hr
  clear hr
  obtain ⟨i27, hi, hz, hsz, hby⟩ := info_str
  have hmk := run_make (P := Tryz.prog) w 27 9 i27 _ Tryz.underlying27 hi hz .i64 .i64 (l.length : Int) (l.length : Int) (by omega) (by omega) (by rw [hby]; omega) (by omega)
  rw [hsz, Int.toNat_natCast, Nat.mul_one] at hmk
  clear hi hz hsz hby
  have hs0 := size_madeCells (Value.string ⟨#[]⟩).cells l.length
  generalize madeCells (Value.string ⟨#[]⟩).cells l.length = cs0 at *
  go_enter Tryz.func31, Tryz.ntmps31
  go_wp2_with fail
  go_loopw [4] (fun i w' => ∃ (k : Nat) (cs : Array Value), k ≤ l.length ∧ i = .int .i64 k ∧ Below w.heap.size w w' ∧ Hid (w'.heap[w.heap.size]? = some (.cells cs 9 (0, 0))) ∧ cs.size = l.length ∧ Hid (∀ i (h : i < l.length), i < k → cs[i]? = some (.string l[i]))) (fun i _ => l.length - (intOf i).toNat)
  case atStart => exact ⟨0, cs0, by omega, rfl, (Below.refl _ _).alloc (Nat.le_refl _) _, heap_alloc_new _ _, hs0, fun i _ h => by omega⟩
  case round =>
    obtain ⟨wo, rfl⟩ : ∃ x, x = wr := ⟨_, rfl⟩
    obtain ⟨k, cs, hk, rfl, hb, HH, hcs, HL⟩ := hrel
    clear hmk hs0
    by_cases hlt : k < l.length
    · obtain ⟨b, o, ha, _, hbl, c0⟩ := KeRow.cells (KeRow.keep HR.out (agree hb (Nat.le_refl _))) k hlt
      subst ha
      obtain ⟨v0, hv0⟩ : ∃ v, wo.cell? ⟨w.heap.size, k, none⟩ = some v := ⟨_, (row_cell HH.out _).trans (Array.getElem?_eq_getElem (by omega))⟩
      have hf0 := row_frozen HH.out k
      go_wp2_with fail
      refine ⟨⟨k + 1, _, by omega, by go_num, hb.setCell (Nat.le_refl _) _, row_set HH.out _ _, by simp [hcs], ?_⟩, by simp [intOf]; omega⟩
      intro i hi1 hi2
      by_cases e : i = k
      · subst e; simp [Array.getElem?_setIfInBounds]; omega
      · rw [Array.getElem?_setIfInBounds_ne (by omega)]; exact HL.out i hi1 (by omega)
    · go_wp2_with fail
      go_ret
      refine ⟨_, rfl, .inr ⟨w.heap.size, 0, rfl, Nat.le_refl _, (Array.getElem?_eq_some_iff.1 HH.out).1, fun i x hx => ?_⟩, hb⟩
      obtain ⟨hi, rfl⟩ := List.getElem?_eq_some_iff.1 hx
      rw [row_rd HH.out]
      show cs[0 + i * 1]? = _
      rw [Nat.mul_one, Nat.zero_add]
      exact HL.out i hi (by omega)
def ToOus (l : Ous) : Prop := ∀ (a : Option Addr) (c : Nat) (w : World), OuRow 0 w.heap.size w a l → l.len ≤ 1048576 → OusBd 1048576 l →
    Calls Tryz.prog 57 #[.slice a l.len c] w fun e w' => ∃ a', e = .returned (.slice a' l.len l.len) ∧ OuRow w.heap.size w'.heap.size w' a' l ∧ Below w.heap.size w w'
set_option maxHeartbeats 2000000 in
theorem to_out (h : Oh) (sub : Ous) (ih : ToOus sub) (a1 a2 : Option Addr) (c1 c2 : Nat) (w : World) (r1 : KeRow 0 w.heap.size w a1 h.keys) (r2 : OuRow 0 w.heap.size w a2 sub)
    (hb : OhBd 1048576 h) (hl : sub.len ≤ 1048576) (hs : OusBd 1048576 sub) :
    Calls Tryz.prog 30 #[.agg #[.int .i64 h.k, .int .i64 h.n, .string h.t, .slice a1 h.keys.length c1, .slice a2 sub.len c2]] w fun e w' =>
      ∃ b1 b2, e = .returned (.agg #[.int .i64 h.k, .int .i64 h.n, .string h.t, .slice b1 h.keys.length h.keys.length, .slice b2 sub.len sub.len]) ∧
        KeRow w.heap.size w'.heap.size w' b1 h.keys ∧ OuRow w.heap.size w'.heap.size w' b2 sub ∧ Below w.heap.size w w' := by
  obtain ⟨x1, x2, x3⟩ := hb
  have K1 : Hid (∀ W0, Below w.heap.size w W0 → KeRow 0 W0.heap.size W0 a1 h.keys) := fun W0 hB => KeRow.up r1 hB
  have K2 : Hid (∀ W0, Below w.heap.size w W0 → OuRow 0 W0.heap.size W0 a2 sub) := fun W0 hB => OuRow.up r2 hB
  have HI : Hid (ToOus sub) := ih
  have HS : Hid (OusBd 1048576 sub) := hs
  clear r1 r2 ih hs x3
  go_enter Tryz.func30, Tryz.ntmps30
  go_wp2_with fail
  refine (to_keys a1 c1 h.keys _ (K1.out _ ?b0) x2).mono ?_
  case b0 => repeat (first | exact Below.refl _ _ | refine Below.setCell ?_ (by simp <;> omega) _ | refine Below.alloc ?_ (by simp <;> omega) _)
  rintro e w1 ⟨b1, rfl, A1, hb1⟩
  have hz1 : w.heap.size + 3 ≤ w1.heap.size := by have := hb1.size; simp at this; omega
  have A1 : Hid (KeRow (w.heap.size + 3) w1.heap.size w1 b1 h.keys) := KeRow.wide A1 (by simp <;> omega) (Nat.le_refl _)
  have q1 : Below w.heap.size w w1 := by
    refine Below.trans ?_ (hb1.mono (by simp <;> omega))
    repeat (first | exact Below.refl _ _ | refine Below.setCell ?_ (by simp <;> omega) _ | refine Below.alloc ?_ (by simp <;> omega) _)
  have k10 := fun o => hb1.cell (p := ⟨w.heap.size, o, none⟩) (by simp <;> omega)
  have k11 := fun o => hb1.cell (p := ⟨w.heap.size + 1, o, none⟩) (by simp <;> omega)
  have k12 := fun o => hb1.cell (p := ⟨w.heap.size + 1 + 1, o, none⟩) (by simp <;> omega)
  have j11 := fun o => hb1.frozen (p := ⟨w.heap.size + 1, o, none⟩) (by simp <;> omega)
  have j12 := fun o => hb1.frozen (p := ⟨w.heap.size + 1 + 1, o, none⟩) (by simp <;> omega)
  have Q1 : Hid _ := q1
  clear hb1 q1
  go_wp2_with fail
  refine (HI.out a2 c2 _ (K2.out _ ?b0) hl HS.out).mono ?_
  case b0 => exact Below.setCell Q1.out (by simp <;> omega) _
  rintro e w3 ⟨b3, rfl, A3, hb3⟩
  have hz3 : w1.heap.size ≤ w3.heap.size := by have := hb3.size; simpa using this
  have A3 : Hid (OuRow (w.heap.size + 3) w3.heap.size w3 b3 sub) := OuRow.wide A3 (by simp <;> omega) (Nat.le_refl _)
  have A1 : Hid (KeRow (w.heap.size + 3) w3.heap.size w3 b1 h.keys) := KeRow.wide (KeRow.keep A1.out (fun g h1 h2 => (agree hb3 (lo := w.heap.size + 3) (hi := w1.heap.size) (by simp) g h1 h2).trans (heap_set _ _ _ _ _ (by omega)))) (Nat.le_refl _) hz3
  have q3 : Below w.heap.size w w3 := (Below.setCell Q1.out (by simp <;> omega) _).trans (hb3.mono (by simp <;> omega))
  have k31 := fun o => hb3.cell (p := ⟨w.heap.size + 1, o, none⟩) (by simp <;> omega)
  have k32 := fun o => hb3.cell (p := ⟨w.heap.size + 1 + 1, o, none⟩) (by simp <;> omega)
  have j31 := fun o => hb3.frozen (p := ⟨w.heap.size + 1, o, none⟩) (by simp <;> omega)
  have j32 := fun o => hb3.frozen (p := ⟨w.heap.size + 1 + 1, o, none⟩) (by simp <;> omega)
  have Q3 : Hid _ := q3
  clear hb3 q3
  go_wp2_with fail
  refine bodyPost_ret (v := .agg #[.int .i64 h.k, .int .i64 h.n, .string h.t, .slice b1 h.keys.length h.keys.length, .slice b3 sub.len sub.len]) (by simp [results, Tryz.results30, go_sem, k11, k31]) rfl ⟨b1, b3, rfl, ?_⟩
  have G : ∀ W' : World, W'.heap.size = w3.heap.size → Agree (w.heap.size + 3) w3.heap.size w3 W' → Below w.heap.size w W' → KeRow w.heap.size W'.heap.size W' b1 h.keys ∧ OuRow w.heap.size W'.heap.size W' b3 sub ∧ Below w.heap.size w W' :=
    fun W' hw ha hB => ⟨KeRow.wide (KeRow.keep A1.out ha) (by omega) (by omega), OuRow.wide (OuRow.keep A3.out ha) (by omega) (by omega), hB⟩
  refine G _ (by simp) ?_ ?_
  · intro g h1 h2
    repeat rw [heap_set _ _ _ _ _ (by omega)]
  · repeat (refine Below.setCell ?_ (by simp <;> omega) _)
    exact Q3.out
def put5 (cs : Array Value) (k : Nat) (v0 v1 v2 v3 v4 : Value) : Array Value := (((((cs.setIfInBounds k v0).setIfInBounds (k + 1) v1).setIfInBounds (k + 2) v2).setIfInBounds (k + 3) v3).setIfInBounds (k + 4) v4)
theorem put5_at {cs : Array Value} {k : Nat} {v0 v1 v2 v3 v4 : Value} (h : k + 4 < cs.size) : (put5 cs k v0 v1 v2 v3 v4)[k]? = some v0 ∧ (put5 cs k v0 v1 v2 v3 v4)[k + 1]? = some v1 ∧ (put5 cs k v0 v1 v2 v3 v4)[k + 2]? = some v2 ∧ (put5 cs k v0 v1 v2 v3 v4)[k + 3]? = some v3 ∧ (put5 cs k v0 v1 v2 v3 v4)[k + 4]? = some v4 := by
  unfold put5
  refine ⟨?_, ?_, ?_, ?_, ?_⟩ <;> simp [Array.getElem?_setIfInBounds] <;> omega
theorem put5_else {cs : Array Value} {k : Nat} {v0 v1 v2 v3 v4 : Value} {j : Nat} (h : j < k) : (put5 cs k v0 v1 v2 v3 v4)[j]? = cs[j]? := by
  unfold put5
  rw [Array.getElem?_setIfInBounds_ne (by omega), Array.getElem?_setIfInBounds_ne (by omega), Array.getElem?_setIfInBounds_ne (by omega), Array.getElem?_setIfInBounds_ne (by omega), Array.getElem?_setIfInBounds_ne (by omega)]
set_option maxHeartbeats 2000000 in
theorem to_ous (l : Ous) : ToOus l := by
  induction hN : l.size using Nat.strongRecOn generalizing l with
  | _ N ih =>
  subst hN
  intro a c w hr hl hbd
  have IH : Hid (∀ sub : Ous, sub.size < l.size → ToOus sub) := fun sub hsub => ih sub.size hsub sub rfl
  have HR : Hid (OuFrom 0 w.heap.size w a 0 l) := hr.from_
  have HB : Hid (OusBd 1048576 l) := hbd
  clear hr ih hbd
  obtain ⟨i27, hi, hz, hsz, hby⟩ := info_out
  have hmk := run_make (P := Tryz.prog) w 42 44 i27 _ Tryz.underlying42 hi hz .i64 .i64 (l.len : Int) (l.len : Int) (by omega) (by omega) (by rw [hby]; omega) (by omega)
  rw [hsz, Int.toNat_natCast] at hmk
  clear hi hz hsz hby
  have hs0 := size_madeCells (Value.agg #[.int .i64 0, .int .i64 0, .string ⟨#[]⟩, .slice none 0 0, .slice none 0 0]).cells (l.len * 5)
  generalize madeCells (Value.agg #[.int .i64 0, .int .i64 0, .string ⟨#[]⟩, .slice none 0 0, .slice none 0 0]).cells (l.len * 5) = cs0 at *
  go_enter Tryz.func57, Tryz.ntmps57
  go_wp2_with fail
  go_loopw [4] (fun i w' => ∃ (k : Nat) (cs : Array Value) (pre : List (Oh × Ous)) (rest : Ous), Hid (l.len = k + rest.len) ∧ i = .int .i64 k ∧ Below w.heap.size w w' ∧ Hid (l = appO pre rest ∧ pre.length = k) ∧ Hid (rest.size ≤ l.size) ∧ Hid (OusBd 1048576 rest) ∧ Hid (OuFrom 0 w.heap.size w a k rest) ∧ Hid (w'.heap[w.heap.size]? = some (.cells cs 44 (0, 0))) ∧ cs.size = l.len * 5 ∧ Hid (OuPre (w.heap.size + 1) w'.heap.size w' l (fun j => cs[j]?) 0 k)) (fun i _ => l.len - (intOf i).toNat)
  case atStart => exact ⟨0, cs0, [], l, by simp [Hid], rfl, (Below.refl _ _).alloc (Nat.le_refl _) _, ⟨rfl, rfl⟩, Nat.le_refl _, HB, HR, heap_alloc_new _ _, hs0, by
      unfold Hid
      cases l with
      | nil => exact trivial
      | cons _ _ _ => exact .inl rfl⟩
  case round =>
    obtain ⟨wo, rfl⟩ : ∃ x, x = wr := ⟨_, rfl⟩
    obtain ⟨k, cs, pre, rest, HK, rfl, hb, HP, HZ, HD, HF, HH, hcs, HL⟩ := hrel
    clear hmk hs0
    cases rest with
    | nil =>
      have hk' : ¬ k < l.len := by rw [HK.out]; simp only [Ous.len]; omega
      go_wp2_with fail
      go_ret
      refine ⟨_, rfl, ?_, hb⟩
      have hkl : l.len = k := by rw [HK.out]; rfl
      refine .inr ⟨w.heap.size, 0, rfl, Nat.le_refl _, (Array.getElem?_eq_some_iff.1 HH.out).1, ?_⟩
      rw [row_rd HH.out, hkl]
      exact HL.out.wide (by omega) (Nat.le_refl _)
    | cons h sub rest =>
      have hlt : k < l.len := by rw [HK.out]; simp only [Ous.len]; omega
      have HK2 : Hid (l.len = k + 1 + rest.len) := by rw [Hid, HK.out]; simp only [Ous.len]; omega
      obtain ⟨b, o, a1, c1, a2, c2, ha, _, hbl, d0, d1, d2, d3, d4, hc, r1, r2, _⟩ := OuFrom.step (OuFrom.keep HF.out (agree hb (Nat.le_refl _)))
      have HF2 : Hid (OuFrom 0 w.heap.size w a (k + 1) rest) := by
        obtain ⟨_, _, _, _, _, _, _, _, _, _, _, _, _, _, _, _, _, rf9⟩ := OuFrom.step HF.out
        exact rf9
      subst ha
      have R1 : Hid (KeRow 0 wo.heap.size wo a1 h.keys) := KeRow.wide r1 (Nat.le_refl _) hb.size
      have R2 : Hid (OuRow 0 wo.heap.size wo a2 sub) := OuRow.wide r2 (Nat.le_refl _) hb.size
      obtain ⟨e1, e2, e3, e4⟩ := HD.out
      have E1 : Hid (OhBd 1048576 h) := e1
      have E3 : Hid (OusBd 1048576 sub) := e3
      have E4 : Hid (OusBd 1048576 rest) := e4
      have HZ2 : Hid (rest.size ≤ l.size) := by have := HZ.out; simp only [Ous.size] at this; unfold Hid; omega
      have IS : Hid (ToOus sub) := IH.out sub (by have := HZ.out; simp only [Ous.size] at this; omega)
      clear r1 r2 e1 e3 e4
      go_wp2_with fail
      refine (to_out h sub IS.out a1 a2 c1 c2 _ R1.out R2.out E1.out e2 E3.out).mono ?_
      rintro e w1 ⟨b1, b3, rfl, A1, A3, hb1⟩
      have A1 : Hid (KeRow wo.heap.size w1.heap.size w1 b1 h.keys) := A1
      have A3 : Hid (OuRow wo.heap.size w1.heap.size w1 b3 sub) := A3
      have hN : w.heap.size < wo.heap.size := (Array.getElem?_eq_some_iff.1 HH.out).1
      have HH1 : Hid (w1.heap[w.heap.size]? = some (.cells cs 44 (0, 0))) := (hb1.block _ hN).trans HH.out
      have HL1 : Hid (OuPre (w.heap.size + 1) w1.heap.size w1 l (fun j => cs[j]?) 0 k) := OuPre.wide (Nat.le_refl _) hb1.size (OuPre.keep (agree hb1 (Nat.le_refl _)) HL.out)
      obtain ⟨v0, hv0⟩ : ∃ v, w1.cell? ⟨w.heap.size, k * 5, none⟩ = some v := ⟨_, (row_cell HH1.out _).trans (Array.getElem?_eq_getElem (by omega))⟩
      obtain ⟨v1, hv1⟩ : ∃ v, w1.cell? ⟨w.heap.size, k * 5 + 1, none⟩ = some v := ⟨_, (row_cell HH1.out _).trans (Array.getElem?_eq_getElem (by omega))⟩
      obtain ⟨v2, hv2⟩ : ∃ v, w1.cell? ⟨w.heap.size, k * 5 + 2, none⟩ = some v := ⟨_, (row_cell HH1.out _).trans (Array.getElem?_eq_getElem (by omega))⟩
      obtain ⟨v3, hv3⟩ : ∃ v, w1.cell? ⟨w.heap.size, k * 5 + 3, none⟩ = some v := ⟨_, (row_cell HH1.out _).trans (Array.getElem?_eq_getElem (by omega))⟩
      obtain ⟨v4, hv4⟩ : ∃ v, w1.cell? ⟨w.heap.size, k * 5 + 4, none⟩ = some v := ⟨_, (row_cell HH1.out _).trans (Array.getElem?_eq_getElem (by omega))⟩
      have hf0 := row_frozen HH1.out (k * 5)
      have hf1 := row_frozen HH1.out (k * 5 + 1)
      have hf2 := row_frozen HH1.out (k * 5 + 2)
      have hf3 := row_frozen HH1.out (k * 5 + 3)
      have hf4 := row_frozen HH1.out (k * 5 + 4)
      have qb : Hid _ := hb.trans (hb1.mono hb.size)
      have hz1 := hb1.size
      clear d0 d1 d2 d3 d4
      go_wp2_with fail
      have G : ∀ W' : World, W'.heap.size = w1.heap.size → Agree (w.heap.size + 1) w1.heap.size w1 W' → Hid (OuPre (w.heap.size + 1) W'.heap.size W' l (fun j => (put5 cs (k * 5) (.int .i64 h.k) (.int .i64 h.n) (.string h.t) (.slice b1 h.keys.length h.keys.length) (.slice b3 sub.len sub.len))[j]?) 0 (k + 1)) := by
        intro W' hw ha
        obtain ⟨hp1, hp2⟩ := HP.out
        have P1 := OuPre.cells (rd' := fun j => (put5 cs (k * 5) (.int .i64 h.k) (.int .i64 h.n) (.string h.t) (.slice b1 h.keys.length h.keys.length) (.slice b3 sub.len sub.len))[j]?) (OuPre.keep ha HL1.out) (fun j _ hj => put5_else (by omega))
        obtain ⟨g0, g1, g2, g3, g4⟩ := put5_at (cs := cs) (k := k * 5) (v0 := .int .i64 h.k) (v1 := .int .i64 h.n) (v2 := .string h.t) (v3 := .slice b1 h.keys.length h.keys.length) (v4 := .slice b3 sub.len sub.len) (by omega)
        have wA1 : KeRow (w.heap.size + 1) w1.heap.size W' b1 h.keys := KeRow.wide (KeRow.keep A1.out (fun g h1 h2 => ha g (by omega) h2)) (by omega) (Nat.le_refl _)
        have wA3 : OuRow (w.heap.size + 1) w1.heap.size W' b3 sub := OuRow.wide (OuRow.keep A3.out (fun g h1 h2 => ha g (by omega) h2)) (by omega) (Nat.le_refl _)
        unfold Hid
        rw [hw]
        rw [hp1] at P1 ⊢
        rw [← hp2] at P1 g0 g1 g2 g3 g4 ⊢
        refine OuPre.more pre P1 ?_ ?_
        · rw [show 0 + 5 * pre.length = pre.length * 5 by omega]
          exact ⟨g0, g1, g2, b1, _, g3, Nat.le_refl _, wA1⟩
        · rw [show 0 + 5 * pre.length + 4 = pre.length * 5 + 4 by omega]
          exact ⟨b3, _, g4, wA3⟩
      refine ⟨⟨k + 1, _, pre ++ [(h, sub)], rest, HK2, by go_num, ((((qb.out.setCell (Nat.le_refl _) _).setCell (Nat.le_refl _) _).setCell (Nat.le_refl _) _).setCell (Nat.le_refl _) _).setCell (Nat.le_refl _) _, ⟨by rw [appO_snoc]; exact HP.out.1, by simp [HP.out.2]⟩, HZ2, E4, HF2, row_set (row_set (row_set (row_set (row_set HH1.out _ _) _ _) _ _) _ _) _ _, by simp [hcs], ?_⟩, by simp [intOf]; omega⟩
      refine G _ (by simp) ?_
      intro g h1 h2
      repeat rw [heap_set _ _ _ _ _ (by omega)]
end Go.Proofs.YtnkaoeijcdchiaaGreatDoor.G
namespace Go.Proofs.YtnkaoeijcdchiaaGreatDoor.G
open Go.ChangeShapes Go.WideShapes Go.ChangeAt Go.RowKit
set_option linter.unusedVariables false

theorem conv1 (n : Int) (W : World) (b : Nat) (hc : W.cell? ⟨b, 0, none⟩ = some (.int .u8 n)) :
    (convert 142 9 (.slice (some ⟨b, 0, none⟩) 1 1)).run Tryz.prog W = .ok (.string ⟨#[UInt8.ofNat n.toNat]⟩) W := by
  rw [run_convert_bytes_string W 142 9 5 _ 1 1 Tryz.underlying142 Tryz.underlying5 Tryz.underlying9]
  rw [run_bytesToString W ⟨b, 0, none⟩ 1 1 [n] (run_loadCells_list W ⟨b, 0, none⟩ [.int .u8 n] (fun j v hv => by
    cases j with
    | zero => simp at hv; subst hv; simpa [Addr.add] using hc
    | succ j => simp at hv))]
  rfl
theorem ret_str {a b : ByteArray} (h : a = b) : Ending.returned (.string a) = .returned (.string b) := by rw [h]
theorem quo10 (n : Int) (h0 : 0 ≤ n) (h1 : n ≤ 9223372036854775807) : IntKind.i64.wrap (n.tdiv 10) = n / 10 := by
  rw [Int.tdiv_eq_ediv_of_nonneg h0, wrap_small _ (by omega) (by omega)]
theorem rem10 (n : Int) (h0 : 0 ≤ n) : IntKind.u8.wrap (IntKind.i64.wrap (48 + n.tmod 10)) = 48 + n % 10 := by
  rw [Int.tmod_eq_emod_of_nonneg h0, wrap_small _ (by omega) (by omega), IntKind.wrap_u8]; omega
/-- A mark's text. -/
def mkT (k : Nat) : ByteArray := ⟨(109 :: Lib.decDigits k).toArray⟩
theorem digits_len20 (k : Nat) (h : (k : Int) ≤ 4611686018427387904) : (Lib.decDigits k).length ≤ 20 := by
  rw [Lib.decDigits_length]; exact Lib.nDigits_le20 k (by omega)
theorem rem10' (n : Nat) : IntKind.u8.wrap (IntKind.i64.wrap (48 + (n : Int).tmod 10)) = 48 + (n : Int) % 10 := rem10 n (by omega)

set_option maxHeartbeats 1000000 in
theorem mark_text (K : Nat) (w : World) (h0 : 0 < K) (h1 : (K : Int) ≤ 4611686018427387904) :
    Calls Tryz.prog 71 #[.int .i64 K] w fun e w' => e = .returned (.string (mkT K)) ∧ Below w.heap.size w w' := by
  have hK := digits_len20 K h1
  go_enter Tryz.func71, Tryz.ntmps71
  go_wp2_with fail
  go_loopw [0, 3] (fun k o wr => ∃ (m : Nat) (l : List UInt8), m ≤ K ∧ k = .int .i64 m ∧ o = .string ⟨l.toArray⟩ ∧ l.length ≤ 20 ∧ Below w.heap.size w wr ∧ Hid ((m = 0 ∧ l = Lib.decDigits K) ∨ (0 < m ∧ Lib.decDigits m ++ l = Lib.decDigits K))) (fun k _ _ => (intOf k).toNat)
  case atStart => exact ⟨K, [], Nat.le_refl _, rfl, rfl, by simp, Below.refl _ _, .inr ⟨h0, by simp⟩⟩
  case round =>
    rename_i wr
    obtain ⟨m, l, hm, rfl, rfl, hl, hb, HD⟩ := hrel
    by_cases hp : 0 < m
    · have HE : Lib.decDigits m ++ l = Lib.decDigits K := by
        rcases HD.out with ⟨h, _⟩ | ⟨_, h⟩
        · omega
        · exact h
      have HF : Hid ((m / 10 = 0 ∧ (UInt8.ofNat (48 + m % 10) :: l) = Lib.decDigits K) ∨ (0 < m / 10 ∧ Lib.decDigits (m / 10) ++ (UInt8.ofNat (48 + m % 10) :: l) = Lib.decDigits K)) := by
        unfold Hid
        rw [Lib.decDigits.eq_def m] at HE
        split at HE
        · rename_i hs
          left
          refine ⟨by omega, ?_⟩
          rw [← HE, show m % 10 = m by omega]; rfl
        · right
          refine ⟨by omega, ?_⟩
          rw [← HE]; simp
      have hl2 : (UInt8.ofNat (48 + m % 10) :: l).length ≤ 20 := by
        rcases HF.out with ⟨_, h⟩ | ⟨_, h⟩
        · rw [h]; exact hK
        · have := congrArg List.length h
          rw [List.length_append] at this
          omega
      have hcv := conv1 (48 + (m : Int) % 10)
      have HS : Hid ((⟨#[UInt8.ofNat (48 + (m : Int) % 10).toNat]⟩ : ByteArray) ++ ⟨l.toArray⟩ = ⟨(UInt8.ofNat (48 + m % 10) :: l).toArray⟩) := by
        unfold Hid
        rw [show (48 + (m : Int) % 10).toNat = 48 + m % 10 by omega]
        apply ByteArray.ext
        simp
      have hs1 : (⟨#[UInt8.ofNat (48 + (m : Int) % 10).toNat]⟩ : ByteArray).size = 1 := rfl
      have hs2 : (⟨l.toArray⟩ : ByteArray).size = l.length := by simp [ByteArray.size]
      have hno : ¬ (9223372036854775807 < (⟨#[UInt8.ofNat (48 + (m : Int) % 10).toNat]⟩ : ByteArray).size + (⟨l.toArray⟩ : ByteArray).size) := by omega
      clear HE HD hs1 hs2 hK
      generalize (⟨#[UInt8.ofNat (48 + (m : Int) % 10).toNat]⟩ : ByteArray) = D at *
      generalize (⟨l.toArray⟩ : ByteArray) = O at *
      go_wp2_with fail
      exact ⟨⟨m / 10, _, by omega, by go_num, by rw [HS.out], hl2, hb.alloc hb.size _, HF⟩, by simp [intOf]; omega⟩
    · have HE : Hid ((⟨#[109]⟩ : ByteArray) ++ ⟨l.toArray⟩ = mkT K) := by
        unfold Hid mkT
        rcases HD.out with ⟨_, h⟩ | ⟨h, _⟩
        · rw [h]; apply ByteArray.ext; simp
        · omega
      have hs2 : (⟨l.toArray⟩ : ByteArray).size = l.length := by simp [ByteArray.size]
      have hs1 : (⟨#[109]⟩ : ByteArray).size = 1 := rfl
      have hno : ¬ (9223372036854775807 < (⟨#[109]⟩ : ByteArray).size + (⟨l.toArray⟩ : ByteArray).size) := by omega
      clear hs1 hs2 HD
      generalize (⟨l.toArray⟩ : ByteArray) = O at *
      go_wp2_with fail
      go_ret
      exact ⟨ret_str HE.out, hb⟩
theorem mark_text_int (K : Int) (w : World) (h0 : 0 < K) (h1 : K ≤ 4611686018427387904) :
    Calls Tryz.prog 71 #[.int .i64 K] w fun e w' => e = .returned (.string (mkT K.toNat)) ∧ Below w.heap.size w w' := by
  obtain ⟨n, rfl⟩ : ∃ n : Nat, K = n := ⟨K.toNat, by omega⟩
  exact mark_text n w (by omega) (by omega)
end Go.Proofs.YtnkaoeijcdchiaaGreatDoor.G
namespace Go.Proofs.YtnkaoeijcdchiaaGreatDoor.G
open Go.ChangeShapes Go.WideShapes Go.ChangeAt Go.RowKit
set_option linter.unusedVariables false

/-- Nothing has turned but some blocks, and new ones were made. -/
structure Kept (bs : List Nat) (w w' : World) : Prop where
  os : w'.os = w.os
  tape : w'.tape = w.tape
  output : w'.output = w.output
  size : w.heap.size ≤ w'.heap.size
  block : ∀ k, k < w.heap.size → ¬ k ∈ bs → w'.heap[k]? = w.heap[k]?
theorem Kept.refl (bs : List Nat) (w : World) : Kept bs w w := ⟨rfl, rfl, rfl, Nat.le_refl _, fun _ _ _ => rfl⟩
theorem Kept.trans {bs : List Nat} {a b c : World} (h : Kept bs a b) (k : Kept bs b c) : Kept bs a c :=
  ⟨k.os.trans h.os, k.tape.trans h.tape, k.output.trans h.output, Nat.le_trans h.size k.size, fun g hg hn => (k.block g (Nat.lt_of_lt_of_le hg h.size) hn).trans (h.block g hg hn)⟩
theorem Kept.mono {bs cs : List Nat} {a b : World} (h : Kept bs a b) (hs : ∀ x ∈ bs, x ∈ cs) : Kept cs a b :=
  ⟨h.os, h.tape, h.output, h.size, fun g hg hn => h.block g hg (fun hx => hn (hs g hx))⟩
theorem Kept.of {bs : List Nat} {a b : World} (h : Below a.heap.size a b) : Kept bs a b := ⟨h.os, h.tape, h.output, h.size, fun g hg _ => h.block g hg⟩
theorem Kept.set {bs : List Nat} {a b : World} (h : Kept bs a b) {p : Addr} (hp : p.block ∈ bs) (v : Value) : Kept bs a (b.setCell p v) := by
  have hb : Below (p.block) b (b.setCell p v) := (Below.refl _ _).setCell (Nat.le_refl _) v
  exact h.trans ⟨hb.os, hb.tape, hb.output, hb.size, fun g _ hn => Below.heap_setCell _ _ _ _ (fun e => hn (e ▸ hp))⟩
theorem Kept.below {bs : List Nat} {a b : World} (h : Kept bs a b) {B : Nat} (hB : B ≤ a.heap.size) (hs : ∀ x ∈ bs, B ≤ x) : Below B a b :=
  ⟨h.os, h.tape, h.output, h.size, fun g hg => h.block g (by omega) (fun hx => by have := hs g hx; omega)⟩

def mks {α : Type} (f : Nat → α → α) (c : α → Nat) : Nat → List α → List α
  | _, [] => []
  | k, x :: r => f k x :: mks f c (k + c x) r
def cnt {α : Type} (c : α → Nat) : List α → Nat
  | [] => 0
  | x :: r => c x + cnt c r
theorem mks_length {α : Type} (f : Nat → α → α) (c : α → Nat) : ∀ (k : Nat) (l : List α), (mks f c k l).length = l.length
  | _, [] => rfl
  | k, x :: r => by simp [mks, mks_length f c (k + c x) r]
theorem mks_get {α : Type} (f : Nat → α → α) (c : α → Nat) : ∀ (k : Nat) (l : List α) (i : Nat) (h : i < l.length), (mks f c k l)[i]? = some (f (k + cnt c (l.take i)) l[i])
  | k, [], i, h => by simp at h
  | k, x :: r, 0, h => by simp [mks, cnt]
  | k, x :: r, i + 1, h => by
    have := mks_get f c (k + c x) r i (by simpa using h)
    simp only [mks, List.getElem?_cons_succ, this, List.take_succ_cons, cnt, List.getElem_cons_succ]
    congr 2; omega
theorem cnt_append {α : Type} (c : α → Nat) (a b : List α) : cnt c (a ++ b) = cnt c a + cnt c b := by
  induction a with
  | nil => simp [cnt]
  | cons x a ih => simp only [List.cons_append, cnt, ih]; omega
theorem cnt_take {α : Type} (c : α → Nat) {l : List α} {i : Nat} (h : i < l.length) : cnt c (l.take (i + 1)) = cnt c (l.take i) + c l[i] := by
  rw [List.take_succ_eq_append_getElem h, cnt_append]; simp [cnt]
theorem cnt_le {α : Type} (c : α → Nat) (l : List α) (i : Nat) : cnt c (l.take i) ≤ cnt c l := by
  have : cnt c l = cnt c (l.take i) + cnt c (l.drop i) := by rw [← cnt_append, List.take_append_drop]
  omega
/-- The first i of one list, the rest of another. -/
def mix {α : Type} (m l : List α) (i : Nat) : List α := m.take i ++ l.drop i
theorem mix_len {α : Type} {m l : List α} {i : Nat} (h : m.length = l.length) (hi : i ≤ l.length) : (mix m l i).length = l.length := by simp [mix]; omega
theorem mix_zero {α : Type} (m l : List α) : mix m l 0 = l := by simp [mix]
theorem mix_all {α : Type} {m l : List α} (h : m.length = l.length) : mix m l l.length = m := by
  unfold mix; rw [List.drop_length, ← h, List.take_length]; simp
theorem mix_at {α : Type} {m l : List α} {i : Nat} (h : m.length = l.length) (hi : i < l.length) : (mix m l i)[i]? = some l[i] := by
  unfold mix
  rw [List.getElem?_append_right (by simp; omega)]
  simp only [List.length_take, List.getElem?_drop]
  rw [show i + (i - min i m.length) = i by omega, List.getElem?_eq_getElem hi]
theorem mix_next {α : Type} {m l : List α} {i : Nat} (h : m.length = l.length) (hi : i < l.length) (j : Nat) (hj : j ≠ i) : (mix m l (i + 1))[j]? = (mix m l i)[j]? := by
  unfold mix
  by_cases hlt : j < i
  · rw [List.getElem?_append_left (by simp; omega), List.getElem?_append_left (by simp; omega), List.getElem?_take, List.getElem?_take]
    simp [show j < i + 1 by omega, hlt]
  · rw [List.getElem?_append_right (by simp; omega), List.getElem?_append_right (by simp; omega)]
    simp only [List.length_take, List.getElem?_drop]
    congr 1; omega
theorem mix_new {α : Type} {m l : List α} {i : Nat} (h : m.length = l.length) (hi : i < l.length) : (mix m l (i + 1))[i]? = m[i]? := by
  unfold mix
  rw [List.getElem?_append_left (by simp; omega), List.getElem?_take]; simp
def m3 (k : Nat) : Bool := decide (k % 3 = 0)
theorem m3_eq (k : Nat) : ((k : Int).tmod 3 == 0) = m3 k := by
  unfold m3
  rw [Bool.eq_iff_iff]
  simp only [beq_iff_eq, decide_eq_true_eq]
  rw [Int.tmod_eq_emod_of_nonneg (by omega)]
  omega
end Go.Proofs.YtnkaoeijcdchiaaGreatDoor.G
namespace Go.Proofs.YtnkaoeijcdchiaaGreatDoor.G
open Go.ChangeShapes Go.WideShapes Go.ChangeAt Go.RowKit
set_option linter.unusedVariables false

def OwnR {α : Type} (at_ : (Nat → Option Value) → Nat → α → Prop) (z : Nat) (ty : TypeId) (lo hi : Nat) (w : World) (a : Option Addr) (l : List α) : Prop :=
  l = [] ∨ ∃ b cs, a = some ⟨b, 0, none⟩ ∧ lo ≤ b ∧ b < hi ∧ w.heap[b]? = some (.cells cs ty (0, 0)) ∧ l.length * z ≤ cs.size ∧ ∀ i x, l[i]? = some x → at_ (fun j => cs[j]?) (i * z) x
abbrev KeOwn := OwnR KeAt 1 9
theorem OwnR.keep {α : Type} {at_ : (Nat → Option Value) → Nat → α → Prop} {z : Nat} {ty : TypeId} {lo hi : Nat} {w w' : World} {a : Option Addr} {l : List α} (h : OwnR at_ z ty lo hi w a l) (hk : Agree lo hi w w') : OwnR at_ z ty lo hi w' a l := by
  rcases h with h | ⟨b, cs, rfl, h1, h2, h3, h4, h5⟩
  · exact .inl h
  · exact .inr ⟨b, cs, rfl, h1, h2, (hk b h1 h2).trans h3, h4, h5⟩
theorem OwnR.wide {α : Type} {at_ : (Nat → Option Value) → Nat → α → Prop} {z : Nat} {ty : TypeId} {lo hi lo' hi' : Nat} {w : World} {a : Option Addr} {l : List α} (h : OwnR at_ z ty lo hi w a l) (e1 : lo' ≤ lo) (e2 : hi ≤ hi') : OwnR at_ z ty lo' hi' w a l := by
  rcases h with h | ⟨b, cs, rfl, h1, h2, h3, h4, h5⟩
  · exact .inl h
  · exact .inr ⟨b, cs, rfl, by omega, by omega, h3, h4, h5⟩
theorem OwnR.row {α : Type} {at_ : (Nat → Option Value) → Nat → α → Prop} {z : Nat} {ty : TypeId} {lo hi : Nat} {w : World} {a : Option Addr} {l : List α} (h : OwnR at_ z ty lo hi w a l) : Row at_ z lo hi w a l := by
  rcases h with h | ⟨b, cs, rfl, h1, h2, h3, h4, h5⟩
  · exact .inl h
  · exact .inr ⟨b, 0, rfl, h1, h2, fun i x hx => by rw [row_rd h3, Nat.zero_add]; exact h5 i x hx⟩
theorem ke_row {lo hi : Nat} {w : World} {a : Option Addr} {l : List ByteArray} (h : KeOwn lo hi w a l) : KeRow lo hi w a l := OwnR.row h

/-- Values in a block's cells from a place on; their lists lie from lo up and below hi, in order. -/
def OuSeq (w : World) : Ous → Array Value → Nat → Nat → Nat → Prop
  | .nil, _, _, lo, hi => lo ≤ hi
  | .cons h sub rest, cs, o, lo, hi => ∃ m1 m3, lo ≤ m1 ∧ m1 ≤ m3 ∧ cs[o]? = some (.int .i64 h.k) ∧ cs[o + 1]? = some (.int .i64 h.n) ∧ cs[o + 2]? = some (.string h.t) ∧
      (∃ a c, cs[o + 3]? = some (.slice a h.keys.length c) ∧ h.keys.length ≤ c ∧ KeOwn lo m1 w a h.keys) ∧
      (∃ a c, cs[o + 4]? = some (.slice a sub.len c) ∧ (sub = .nil ∨ ∃ b ds, a = some ⟨b, 0, none⟩ ∧ m1 ≤ b ∧ b < m3 ∧ w.heap[b]? = some (.cells ds 44 (0, 0)) ∧ sub.len * 5 ≤ ds.size ∧ OuSeq w sub ds 0 (b + 1) m3)) ∧
      OuSeq w rest cs (o + 5) m3 hi
def OuOwn (lo hi : Nat) (w : World) (a : Option Addr) (l : Ous) : Prop :=
  l = .nil ∨ ∃ b ds, a = some ⟨b, 0, none⟩ ∧ lo ≤ b ∧ b < hi ∧ w.heap[b]? = some (.cells ds 44 (0, 0)) ∧ l.len * 5 ≤ ds.size ∧ OuSeq w l ds 0 (b + 1) hi
/-- One value's cells and lists. -/
def OuOne (w : World) (h : Oh) (sub : Ous) (cs : Array Value) (o lo hi : Nat) : Prop :=
  ∃ m1, lo ≤ m1 ∧ m1 ≤ hi ∧ cs[o]? = some (.int .i64 h.k) ∧ cs[o + 1]? = some (.int .i64 h.n) ∧ cs[o + 2]? = some (.string h.t) ∧
      (∃ a c, cs[o + 3]? = some (.slice a h.keys.length c) ∧ h.keys.length ≤ c ∧ KeOwn lo m1 w a h.keys) ∧
      (∃ a c, cs[o + 4]? = some (.slice a sub.len c) ∧ OuOwn m1 hi w a sub)
theorem OuSeq.uncons {w : World} {h : Oh} {sub rest : Ous} {cs : Array Value} {o lo hi : Nat} (H : OuSeq w (.cons h sub rest) cs o lo hi) : ∃ m, OuOne w h sub cs o lo m ∧ OuSeq w rest cs (o + 5) m hi := by
  obtain ⟨m1, m3, e1, e2, c0, c1, c2, p3, p4, pr⟩ := H
  exact ⟨m3, ⟨m1, e1, e2, c0, c1, c2, p3, p4⟩, pr⟩
theorem OuSeq.cons {w : World} {h : Oh} {sub rest : Ous} {cs : Array Value} {o lo m hi : Nat} (H : OuOne w h sub cs o lo m) (R : OuSeq w rest cs (o + 5) m hi) : OuSeq w (.cons h sub rest) cs o lo hi := by
  obtain ⟨m1, e1, e2, c0, c1, c2, p3, p4⟩ := H
  exact ⟨m1, m, e1, e2, c0, c1, c2, p3, p4, R⟩
theorem OuSeq.le {w : World} : ∀ {l : Ous} {cs : Array Value} {o lo hi : Nat}, OuSeq w l cs o lo hi → lo ≤ hi
  | .nil, _, _, _, _, h => h
  | .cons h sub rest, cs, o, lo, hi, H => by
    obtain ⟨m1, m3, e1, e2, c0, c1, c2, p3, p4, pr⟩ := H
    have := OuSeq.le pr
    omega
theorem OuSeq.keep {w w' : World} : ∀ {l : Ous} {cs : Array Value} {o lo hi : Nat}, OuSeq w l cs o lo hi → Agree lo hi w w' → OuSeq w' l cs o lo hi
  | .nil, _, _, _, _, h, _ => h
  | .cons h sub rest, cs, o, lo, hi, H, hk => by
    obtain ⟨m1, m3, e1, e2, c0, c1, c2, ⟨a3, d3, p3, pc, q3⟩, ⟨a5, d5, p5, q5⟩, pr⟩ := H
    have hm := OuSeq.le pr
    refine ⟨m1, m3, e1, e2, c0, c1, c2, ⟨a3, d3, p3, pc, q3.keep fun g h1 h2 => hk g (by omega) (by omega)⟩, ⟨a5, d5, p5, ?_⟩, OuSeq.keep pr fun g h1 h2 => hk g (by omega) (by omega)⟩
    rcases q5 with q5 | ⟨b, ds, rfl, f1, f2, f3, f4, f5⟩
    · exact .inl q5
    · exact .inr ⟨b, ds, rfl, f1, f2, (hk b (by omega) (by omega)).trans f3, f4, OuSeq.keep f5 fun g h1 h2 => hk g (by omega) (by omega)⟩
theorem OuSeq.widen {w : World} : ∀ {l : Ous} {cs : Array Value} {o lo hi hi' : Nat}, OuSeq w l cs o lo hi → hi ≤ hi' → OuSeq w l cs o lo hi'
  | .nil, _, _, _, _, _, h, e => Nat.le_trans h e
  | .cons h sub rest, cs, o, lo, hi, hi', H, e => by
    obtain ⟨m, H1, H2⟩ := H.uncons
    exact OuSeq.cons H1 (OuSeq.widen H2 e)
theorem OuOwn.keep {lo hi : Nat} {w w' : World} {a : Option Addr} {l : Ous} (h : OuOwn lo hi w a l) (hk : Agree lo hi w w') : OuOwn lo hi w' a l := by
  rcases h with h | ⟨b, ds, rfl, f1, f2, f3, f4, f5⟩
  · exact .inl h
  · exact .inr ⟨b, ds, rfl, f1, f2, (hk b (by omega) (by omega)).trans f3, f4, OuSeq.keep f5 fun g h1 h2 => hk g (by omega) (by omega)⟩
theorem OuOwn.wide {lo hi lo' hi' : Nat} {w : World} {a : Option Addr} {l : Ous} (h : OuOwn lo hi w a l) (e1 : lo' ≤ lo) (e2 : hi ≤ hi') : OuOwn lo' hi' w a l := by
  rcases h with h | ⟨b, ds, rfl, f1, f2, f3, f4, f5⟩
  · exact .inl h
  · exact .inr ⟨b, ds, rfl, by omega, by omega, f3, f4, OuSeq.widen f5 e2⟩
theorem OuOne.keep {w w' : World} {h : Oh} {sub : Ous} {cs : Array Value} {o lo hi : Nat} (H : OuOne w h sub cs o lo hi) (hk : Agree lo hi w w') : OuOne w' h sub cs o lo hi := by
  obtain ⟨m1, e1, e2, c0, c1, c2, ⟨a3, d3, p3, pc, q3⟩, ⟨a5, d5, p5, q5⟩⟩ := H
  exact ⟨m1, e1, e2, c0, c1, c2, ⟨a3, d3, p3, pc, q3.keep fun g h1 h2 => hk g (by omega) (by omega)⟩, ⟨a5, d5, p5, q5.keep fun g h1 h2 => hk g (by omega) (by omega)⟩⟩
theorem OuOne.widen {w : World} {h : Oh} {sub : Ous} {cs : Array Value} {o lo hi hi' lo' : Nat} (H : OuOne w h sub cs o lo hi) (e : hi ≤ hi') (e' : lo' ≤ lo) : OuOne w h sub cs o lo' hi' := by
  obtain ⟨m1, e1, e2, c0, c1, c2, ⟨a3, d3, p3, pc, q3⟩, ⟨a5, d5, p5, q5⟩⟩ := H
  exact ⟨m1, by omega, by omega, c0, c1, c2, ⟨a3, d3, p3, pc, q3.wide e' (Nat.le_refl _)⟩, ⟨a5, d5, p5, q5.wide (Nat.le_refl _) e⟩⟩
/-- Only the cells of a list count. -/
theorem OuSeq.cells {w : World} {cs cs' : Array Value} : ∀ {l : Ous} {o lo hi : Nat}, OuSeq w l cs o lo hi → (∀ j, o ≤ j → j < o + 5 * l.len → cs'[j]? = cs[j]?) → OuSeq w l cs' o lo hi
  | .nil, _, _, _, h, _ => h
  | .cons h sub rest, o, lo, hi, H, hc => by
    obtain ⟨m1, m3, e1, e2, c0, c1, c2, ⟨a3, d3, p3, pc, q3⟩, ⟨a5, d5, p5, q5⟩, pr⟩ := H
    simp only [Ous.len] at hc
    exact ⟨m1, m3, e1, e2, (hc _ (by omega) (by omega)).trans c0, (hc _ (by omega) (by omega)).trans c1, (hc _ (by omega) (by omega)).trans c2, ⟨a3, d3, (hc _ (by omega) (by omega)).trans p3, pc, q3⟩, ⟨a5, d5, (hc _ (by omega) (by omega)).trans p5, q5⟩, OuSeq.cells pr fun j h1 h2 => hc j (by omega) (by omega)⟩
theorem OuOwn.toRow {lo hi : Nat} {w : World} : ∀ {l : Ous} {cs : Array Value} {rd : Nat → Option Value} {o p m : Nat}, OuSeq w l cs o p m → (∀ j, rd j = cs[j]?) → lo ≤ p → m ≤ hi → OuPre lo hi w l rd o l.len
  | .nil, _, _, _, _, _, _, _, _, _ => trivial
  | .cons h sub rest, cs, rd, o, p, m, H, hrd, h1, h2 => by
    obtain ⟨m1, m3, e1, e2, c0, c1, c2, ⟨a3, d3, p3, pc, q3⟩, ⟨a5, d5, p5, q5⟩, pr⟩ := H
    have hm := OuSeq.le pr
    refine .inr ⟨⟨(hrd _).trans c0, (hrd _).trans c1, (hrd _).trans c2, a3, d3, (hrd _).trans p3, pc, ke_row (q3.wide h1 (by omega))⟩, ⟨a5, d5, (hrd _).trans p5, ?_⟩, ?_⟩
    · rcases q5 with q5 | ⟨b, ds, rfl, f1, f2, f3, f4, f5⟩
      · exact .inl q5
      · exact .inr ⟨b, 0, rfl, by omega, by omega, OuOwn.toRow f5 (fun j => row_cell f3 j) (by omega) (by omega)⟩
    · simp only [Ous.len, Nat.add_sub_cancel]
      exact OuOwn.toRow pr hrd (by omega) h2
theorem OuOwn.row {lo hi : Nat} {w : World} {a : Option Addr} {l : Ous} (h : OuOwn lo hi w a l) : OuRow lo hi w a l := by
  rcases h with h | ⟨b, ds, rfl, f1, f2, f3, f4, f5⟩
  · exact .inl h
  · exact .inr ⟨b, 0, rfl, f1, f2, OuOwn.toRow f5 (fun j => row_cell f3 j) (by omega) (Nat.le_refl _)⟩
/-- One more value behind a list. -/
theorem OuSeq.snoc {w : World} {cs : Array Value} {h : Oh} {sub : Ous} : ∀ (pre : List (Oh × Ous)) {o lo m hi : Nat}, OuSeq w (appO pre .nil) cs o lo m → OuOne w h sub cs (o + 5 * pre.length) m hi → OuSeq w (appO (pre ++ [(h, sub)]) .nil) cs o lo hi
  | [], o, lo, m, hi, H, R => by
    have H : lo ≤ m := H
    have R' : OuOne w h sub cs o lo hi := OuOne.widen (by simpa using R) (Nat.le_refl _) H
    exact OuSeq.cons (rest := .nil) R' (Nat.le_refl hi)
  | x :: pre, o, lo, m, hi, H, R => by
    obtain ⟨m', H1, H2⟩ := OuSeq.uncons (rest := appO pre .nil) H
    refine OuSeq.cons (rest := appO (pre ++ [(h, sub)]) .nil) H1 (OuSeq.snoc pre H2 ?_)
    rw [show o + 5 + 5 * pre.length = o + 5 * (x :: pre).length by simp only [List.length_cons]; omega]
    exact R
/-- Nothing has turned but blocks from lo up and below hi, and new ones were made. -/
structure KeptR (lo hi : Nat) (w w' : World) : Prop where
  os : w'.os = w.os
  tape : w'.tape = w.tape
  output : w'.output = w.output
  size : w.heap.size ≤ w'.heap.size
  block : ∀ k, k < w.heap.size → (k < lo ∨ hi ≤ k) → w'.heap[k]? = w.heap[k]?
theorem KeptR.refl (lo hi : Nat) (w : World) : KeptR lo hi w w := ⟨rfl, rfl, rfl, Nat.le_refl _, fun _ _ _ => rfl⟩
theorem KeptR.trans {lo hi : Nat} {a b c : World} (h : KeptR lo hi a b) (k : KeptR lo hi b c) : KeptR lo hi a c :=
  ⟨k.os.trans h.os, k.tape.trans h.tape, k.output.trans h.output, Nat.le_trans h.size k.size, fun g hg hn => (k.block g (Nat.lt_of_lt_of_le hg h.size) hn).trans (h.block g hg hn)⟩
theorem KeptR.mono {lo hi lo' hi' : Nat} {a b : World} (h : KeptR lo hi a b) (e1 : lo' ≤ lo) (e2 : hi ≤ hi') : KeptR lo' hi' a b :=
  ⟨h.os, h.tape, h.output, h.size, fun g hg hn => h.block g hg (by omega)⟩
theorem KeptR.of {lo hi : Nat} {a b : World} (h : Below a.heap.size a b) : KeptR lo hi a b := ⟨h.os, h.tape, h.output, h.size, fun g hg _ => h.block g hg⟩
theorem KeptR.set {lo hi : Nat} {a b : World} (h : KeptR lo hi a b) {p : Addr} (h1 : lo ≤ p.block) (h2 : p.block < hi) (v : Value) : KeptR lo hi a (b.setCell p v) := by
  have hb : Below (p.block) b (b.setCell p v) := (Below.refl _ _).setCell (Nat.le_refl _) v
  exact h.trans ⟨hb.os, hb.tape, hb.output, hb.size, fun g _ hn => Below.heap_setCell _ _ _ _ (by omega)⟩
theorem KeptR.below {lo hi : Nat} {a b : World} (h : KeptR lo hi a b) {B : Nat} (hB : B ≤ a.heap.size) (hs : B ≤ lo) : Below B a b :=
  ⟨h.os, h.tape, h.output, h.size, fun g hg => h.block g (by omega) (.inl (by omega))⟩

/-- The marks of the law. -/
def fKe (k : Nat) (_ : ByteArray) : ByteArray := mkT k
def c1K (_ : ByteArray) : Nat := 1
def mkKe (k : Nat) (l : List ByteArray) : List ByteArray := mks fKe c1K k l
theorem cnt1 : ∀ l : List ByteArray, cnt c1K l = l.length
  | [] => rfl
  | x :: r => by simp only [cnt, c1K, List.length_cons, cnt1 r]; omega
theorem mkKe_len (k : Nat) (l : List ByteArray) : (mkKe k l).length = l.length := mks_length _ _ _ _
theorem mkKe_get (k : Nat) (l : List ByteArray) (i : Nat) (h : i < l.length) : (mkKe k l)[i]? = some (mkT (k + i)) := by
  rw [mkKe, mks_get _ _ _ _ _ h, cnt1, List.length_take, show min i l.length = i by omega]; rfl
def mkOh (k : Nat) (h : Oh) : Oh := ⟨(k : Int), ((k + 1 : Nat) : Int), mkT (k + 2), mkKe (k + 3) h.keys⟩
def cOh (h : Oh) : Nat := 3 + h.keys.length
def cO : Ous → Nat
  | .nil => 0
  | .cons h sub rest => cOh h + cO sub + cO rest
def mkO : Nat → Ous → Ous
  | _, .nil => .nil
  | k, .cons h sub rest => .cons (mkOh k h) (mkO (k + cOh h) sub) (mkO (k + cOh h + cO sub) rest)
theorem mkO_len : ∀ (k : Nat) (l : Ous), (mkO k l).len = l.len
  | _, .nil => rfl
  | k, .cons h sub rest => by simp only [mkO, Ous.len, mkO_len]
def cPo : List (Oh × Ous) → Nat
  | [] => 0
  | x :: p => cOh x.1 + cO x.2 + cPo p
def mkPo : Nat → List (Oh × Ous) → List (Oh × Ous)
  | _, [] => []
  | k, x :: p => (mkOh k x.1, mkO (k + cOh x.1) x.2) :: mkPo (k + cOh x.1 + cO x.2) p
theorem mkPo_len : ∀ (k : Nat) (p : List (Oh × Ous)), (mkPo k p).length = p.length
  | _, [] => rfl
  | k, x :: p => by simp [mkPo, mkPo_len]
theorem mkPo_snoc : ∀ (k : Nat) (p : List (Oh × Ous)) (h : Oh) (sub : Ous), mkPo k (p ++ [(h, sub)]) = mkPo k p ++ [(mkOh (k + cPo p) h, mkO (k + cPo p + cOh h) sub)]
  | k, [], h, sub => by simp [mkPo, cPo]
  | k, x :: p, h, sub => by
    simp only [List.cons_append, mkPo, cPo, mkPo_snoc, List.cons.injEq, true_and]
    rw [show k + cOh x.1 + cO x.2 + cPo p = k + (cOh x.1 + cO x.2 + cPo p) by omega]
theorem cPo_snoc : ∀ (p : List (Oh × Ous)) (h : Oh) (sub : Ous), cPo (p ++ [(h, sub)]) = cPo p + cOh h + cO sub
  | [], h, sub => by simp [cPo]
  | x :: p, h, sub => by simp only [List.cons_append, cPo, cPo_snoc]; omega
theorem cO_app : ∀ (p : List (Oh × Ous)) (r : Ous), cO (appO p r) = cPo p + cO r
  | [], r => by simp [appO, cPo]
  | x :: p, r => by simp only [appO, cO, cPo, cO_app]; omega
theorem mkO_app : ∀ (k : Nat) (p : List (Oh × Ous)) (r : Ous), mkO k (appO p r) = appO (mkPo k p) (mkO (k + cPo p) r)
  | k, [], r => by simp [appO, mkPo, cPo]
  | k, x :: p, r => by
    simp only [appO, mkO, mkPo, cPo, mkO_app]
    rw [show k + cOh x.1 + cO x.2 + cPo p = k + (cOh x.1 + cO x.2 + cPo p) by omega]
theorem len_cO : ∀ l : Ous, l.len ≤ cO l
  | .nil => Nat.le_refl _
  | .cons h sub rest => by have := len_cO rest; simp only [Ous.len, cO, cOh]; omega
theorem val_mk {z : Int} {k : Nat} (h : z = k) : Value.string (mkT z.toNat) = .string (mkT k) := by subst h; simp
theorem val_mkn {a b : Nat} (h : a = b) : Value.string (mkT a) = .string (mkT b) := by rw [h]
theorem val_int {z : Int} {k : Nat} (h : z = k) : Value.int .i64 z = .int .i64 (k : Int) := by rw [h]
end Go.Proofs.YtnkaoeijcdchiaaGreatDoor.G
