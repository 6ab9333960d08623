/- What the law compares: one value in two places. -/
import Derived.Test.YtoaeggfnlenjkaaGreatDoorOuRows
import Derived.Deep.CutBlock
import Derived.Deep.CutRange
namespace Go.Proofs.YtoaeggfnlenjkaaGreatDoor.G
open Go.ChangeShapes Go.WideShapes Go.ChangeAt Go.RowKit
set_option linter.unusedVariables false

set_option maxHeartbeats 1000000 in
theorem eq_keys (a a' : Option Addr) (c c' : Nat) (l : List ByteArray) (w : World) (hr : KeRow 0 w.heap.size w a l) (hr' : KeRow 0 w.heap.size w a' l) (hl : l.length ≤ 1048576) :
    Calls Tryz.prog 23 #[.slice a l.length c, .slice a' l.length c'] w fun e w' => e = .returned (.bool true) ∧ Below w.heap.size w w' := by
  have HR : Hid _ := hr
  have HR' : Hid _ := hr'
  clear hr hr'
  go_enter Tryz.func23, Tryz.ntmps23
  go_wp2_with fail
  go_loopw [5] (fun i w' => ∃ (k q : Nat), k ≤ l.length ∧ i = .int .i64 k ∧ w' = w.drewN q) (fun i _ => l.length - (intOf i).toNat)
  case atStart => exact ⟨0, 0, by omega, rfl, rfl⟩
  case round =>
    obtain ⟨k, q, hk, rfl, rfl⟩ := hrel
    by_cases hlt : k < l.length
    · obtain ⟨b, o, ha, _, hbl, d0⟩ := KeRow.cells HR.out k hlt
      obtain ⟨b', o', ha', _, hbl', d1⟩ := KeRow.cells HR'.out k hlt
      subst ha ha'
      have hlt' : (k : Int) < l.length := by omega
      go_wp2_with fail
      go_quiet (fail)
      go_wp2_with fail
      exact ⟨⟨k + 1, q + nq, by omega, by go_num, by simp⟩, by simp [intOf]; omega⟩
    · go_wp2_with fail
      go_ret
      refine ⟨rfl, ?_⟩
      exact ⟨rfl, rfl, rfl, Nat.le_refl _, fun _ _ => rfl⟩
def EqOus (l : Ous) : Prop := ∀ (a a' : Option Addr) (c c' : Nat) (w : World), OuRow 0 w.heap.size w a l → OuRow 0 w.heap.size w a' l → l.len ≤ 1048576 → OusBd 1048576 l →
    Calls Tryz.prog 55 #[.slice a l.len c, .slice a' l.len c'] w fun e w' => e = .returned (.bool true) ∧ Below w.heap.size w w'
set_option maxHeartbeats 1000000 in
theorem eq_out (h : Oh) (sub : Ous) (ih : EqOus sub) (a1 a2 b1 b2 : Option Addr) (c1 c2 d1 d2 : Nat) (w : World) (r1 : KeRow 0 w.heap.size w a1 h.keys) (r2 : OuRow 0 w.heap.size w a2 sub) (s1 : KeRow 0 w.heap.size w b1 h.keys) (s2 : OuRow 0 w.heap.size w b2 sub)
    (hb : OhBd 1048576 h) (hl : sub.len ≤ 1048576) (hs : OusBd 1048576 sub) :
    Calls Tryz.prog 22 #[.agg #[.int .i64 h.k, .int .i64 h.n, .string h.t, .slice a1 h.keys.length c1, .slice a2 sub.len c2], .agg #[.int .i64 h.k, .int .i64 h.n, .string h.t, .slice b1 h.keys.length d1, .slice b2 sub.len d2]] w fun e w' => e = .returned (.bool true) ∧ Below w.heap.size w w' := by
  obtain ⟨x1, x2, x3⟩ := hb
  obtain ⟨V, hV⟩ : ∃ V, V = (w.alloc (.cells #[.int .i64 h.k, .int .i64 h.n, .string h.t, .slice a1 h.keys.length c1, .slice a2 sub.len c2] 26)).alloc (.cells #[.int .i64 h.k, .int .i64 h.n, .string h.t, .slice b1 h.keys.length d1, .slice b2 sub.len d2] 26) := ⟨_, rfl⟩
  have bV : Below w.heap.size w V := by
    rw [hV]
    repeat (first | exact Below.refl _ _ | refine Below.alloc ?_ (by first | omega | (simp <;> omega)) _)
  have zV : w.heap.size + 2 ≤ V.heap.size := by rw [hV]; simp
  have c0 : V.heap[w.heap.size]? = some (.cells #[.int .i64 h.k, .int .i64 h.n, .string h.t, .slice a1 h.keys.length c1, .slice a2 sub.len c2] 26 (0, 0)) := by
    rw [hV, Below.heap_alloc _ _ _ (by simp)]; exact heap_alloc_new _ _
  have c9 : V.heap[w.heap.size + 1]? = some (.cells #[.int .i64 h.k, .int .i64 h.n, .string h.t, .slice b1 h.keys.length d1, .slice b2 sub.len d2] 26 (0, 0)) := by
    rw [hV]
    have := heap_alloc_new (w.alloc (.cells #[.int .i64 h.k, .int .i64 h.n, .string h.t, .slice a1 h.keys.length c1, .slice a2 sub.len c2] 26)) (.cells #[.int .i64 h.k, .int .i64 h.n, .string h.t, .slice b1 h.keys.length d1, .slice b2 sub.len d2] 26)
    simpa using this
  have KV : Hid (∀ W, Below V.heap.size V W → W.heap[w.heap.size]? = some (.cells #[.int .i64 h.k, .int .i64 h.n, .string h.t, .slice a1 h.keys.length c1, .slice a2 sub.len c2] 26 (0, 0)) ∧ W.heap[w.heap.size + 1]? = some (.cells #[.int .i64 h.k, .int .i64 h.n, .string h.t, .slice b1 h.keys.length d1, .slice b2 sub.len d2] 26 (0, 0)) ∧ KeRow 0 W.heap.size W a1 h.keys ∧ OuRow 0 W.heap.size W a2 sub ∧ KeRow 0 W.heap.size W b1 h.keys ∧ OuRow 0 W.heap.size W b2 sub ∧ Below w.heap.size w W) := fun W hW =>
    have hw := bV.trans (hW.mono (by omega))
    ⟨(hW.block _ (by omega)).trans c0, (hW.block _ (by omega)).trans c9, KeRow.up r1 hw, OuRow.up r2 hw, KeRow.up s1 hw, OuRow.up s2 hw, hw⟩
  have HI : Hid _ := ih
  have HS : Hid _ := hs
  have y0 := fun o => row_cell c0 o
  have y1 := fun o => row_cell c9 o
  clear r1 r2 s1 s2 ih hs c0 c9 bV x3
  go_enter Tryz.func22, Tryz.ntmps22
  go_upto_region 1 with fail
  rw [← hV]
  clear hV
  have T0 := KV.out _ (Below.refl _ _)
  go_wp2_with fail
  refine (eq_keys a1 b1 c1 d1 h.keys _ T0.2.2.1 T0.2.2.2.2.1 x2).mono ?_
  clear T0
  rintro e w1 ⟨rfl, hb1⟩
  have Q1 : Hid _ := hb1
  have T1 := KV.out _ hb1
  clear hb1 y0 y1
  have y0 := fun o => row_cell T1.1 o
  have y1 := fun o => row_cell T1.2.1 o
  have TT : Hid _ := T1.2.2.2.1
  have TU : Hid _ := T1.2.2.2.2.2.1
  clear T1
  go_wp2_with fail
  refine (HI.out a2 b2 c2 d2 _ TT.out TU.out hl HS.out).mono ?_
  rintro e w2 ⟨rfl, hb2⟩
  have Q2 : Hid (Below w.heap.size w w2) := (KV.out _ (Q1.out.trans (hb2.mono Q1.out.size))).2.2.2.2.2.2
  clear hb2 y0 y1
  go_wp2_with fail
  go_ret
  exact ⟨rfl, Q2.out⟩
set_option maxHeartbeats 2000000 in
theorem eq_ous (l : Ous) : EqOus l := by
  induction hN : l.size using Nat.strongRecOn generalizing l with
  | _ N ih =>
  subst hN
  intro a a' c c' w hr hr' hl hbd
  have IH : Hid (∀ sub : Ous, sub.size < l.size → EqOus sub) := fun sub hsub => ih sub.size hsub sub rfl
  have HR : Hid (OuFrom 0 w.heap.size w a 0 l) := hr.from_
  have HR' : Hid (OuFrom 0 w.heap.size w a' 0 l) := hr'.from_
  have HB : Hid (OusBd 1048576 l) := hbd
  clear hr hr' ih hbd
  go_enter Tryz.func55, Tryz.ntmps55
  go_wp2_with fail
  go_loopw [5] (fun i w' => ∃ (k : Nat) (rest : Ous), Hid (l.len = k + rest.len) ∧ i = .int .i64 k ∧ Below w.heap.size w w' ∧ Hid (rest.size ≤ l.size) ∧ Hid (OusBd 1048576 rest) ∧ Hid (OuFrom 0 w.heap.size w a k rest) ∧ Hid (OuFrom 0 w.heap.size w a' k rest)) (fun i _ => l.len - (intOf i).toNat)
  case atStart => exact ⟨0, l, by simp [Hid], rfl, Below.refl _ _, Nat.le_refl _, HB, HR, HR'⟩
  case round =>
    obtain ⟨wo, rfl⟩ : ∃ x, x = wr := ⟨_, rfl⟩
    obtain ⟨k, rest, HK, rfl, hb, HZ, HD, HF, HF'⟩ := hrel
    cases rest with
    | nil =>
      have hk' : ¬ k < l.len := by rw [HK.out]; simp only [Ous.len]; omega
      go_wp2_with fail
      go_ret
      exact ⟨rfl, hb⟩
    | cons h sub rest =>
      have hlt : k < l.len := by rw [HK.out]; simp only [Ous.len]; omega
      have hlt' : (k : Int) < l.len := by omega
      have HK2 : Hid (l.len = k + 1 + rest.len) := by rw [Hid, HK.out]; simp only [Ous.len]; omega
      obtain ⟨b, o, a1, c1, a2, c2, ha, _, hbl, d0, d1, d2, d3, d4, _, r1, r2, _⟩ := OuFrom.step (OuFrom.keep HF.out (agree hb (Nat.le_refl _)))
      obtain ⟨b', o', b1, e1, b2, e2, ha', _, hbl', f0, f1, f2, f3, f4, _, s1, s2, _⟩ := OuFrom.step (OuFrom.keep HF'.out (agree hb (Nat.le_refl _)))
      have HF2 : Hid (OuFrom 0 w.heap.size w a (k + 1) rest) := by
        obtain ⟨_, _, _, _, _, _, _, _, _, _, _, _, _, _, _, _, _, rf9⟩ := OuFrom.step HF.out
        exact rf9
      have HF2' : Hid (OuFrom 0 w.heap.size w a' (k + 1) rest) := by
        obtain ⟨_, _, _, _, _, _, _, _, _, _, _, _, _, _, _, _, _, rf9⟩ := OuFrom.step HF'.out
        exact rf9
      subst ha
      subst ha'
      have R1 : Hid (KeRow 0 wo.drew.heap.size wo.drew a1 h.keys) := KeRow.wide r1 (Nat.le_refl _) hb.size
      have R2 : Hid (OuRow 0 wo.drew.heap.size wo.drew a2 sub) := OuRow.wide (OuRow.keep r2 (fun g _ _ => rfl)) (Nat.le_refl _) hb.size
      have S1 : Hid (KeRow 0 wo.drew.heap.size wo.drew b1 h.keys) := KeRow.wide s1 (Nat.le_refl _) hb.size
      have S2 : Hid (OuRow 0 wo.drew.heap.size wo.drew b2 sub) := OuRow.wide (OuRow.keep s2 (fun g _ _ => rfl)) (Nat.le_refl _) hb.size
      obtain ⟨g1, g2, g3, g4⟩ := HD.out
      have E1 : Hid (OhBd 1048576 h) := g1
      have E2 : Hid (sub.len ≤ 1048576) := g2
      have E3 : Hid (OusBd 1048576 sub) := g3
      have E4 : Hid (OusBd 1048576 rest) := g4
      have HZ2 : Hid (rest.size ≤ l.size) := by have := HZ.out; simp only [Ous.size] at this; unfold Hid; omega
      have IS : Hid (EqOus sub) := IH.out sub (by have := HZ.out; simp only [Ous.size] at this; omega)
      clear r1 r2 s1 s2 g1 g2 g3 g4
      go_wp2_with fail
      go_region_with (go_at_call 22; refine (eq_out h sub IS.out a1 a2 b1 b2 c1 c2 e1 e2 _ R1.out R2.out S1.out S2.out E1.out E2.out E3.out).mono ?_; rintro e w1 ⟨rfl, hb1⟩)
      all_goals
        go_wp2_with fail
        exact ⟨⟨k + 1, rest, HK2, by go_num, hb.drew.trans (hb1.mono hb.size), HZ2, E4, HF2, HF2'⟩, by simp [intOf]; omega⟩
end Go.Proofs.YtoaeggfnlenjkaaGreatDoor.G
