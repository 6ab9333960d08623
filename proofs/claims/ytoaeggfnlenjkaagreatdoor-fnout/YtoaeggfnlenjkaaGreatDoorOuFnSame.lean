/- What FnOut's law compares and chooses: one value in two places, a place among some; a drawn value is of small texts. -/
import Derived.Test.YtoaeggfnlenjkaaGreatDoorOuDrawThree
import Derived.Deep.CutBlock
import Derived.Deep.CutRange
namespace Go.Proofs.YtoaeggfnlenjkaaGreatDoor.G
open Go.ChangeShapes Go.WideShapes Go.ChangeAt Go.RowKit
set_option linter.unusedVariables false

set_option maxHeartbeats 1000000 in
theorem same_texts (a a' : Option Addr) (c c' : Nat) (l : List ByteArray) (w : World) (hr : KeRow 0 w.heap.size w a l) (hr' : KeRow 0 w.heap.size w a' l) (hl : l.length ≤ 1048576) :
    Calls Tryz.prog 50 #[.slice a l.length c, .slice a' l.length c'] w fun e w' => e = .returned (.bool true) ∧ Below w.heap.size w w' := by
  have HR : Hid _ := hr
  have HR' : Hid _ := hr'
  clear hr hr'
  go_enter Tryz.func50, Tryz.ntmps50
  go_wp2_with fail
  go_loopw [5] (fun i w' => ∃ (k q : Nat), k ≤ l.length ∧ i = .int .i64 k ∧ w' = w.drewN q) (fun i _ => l.length - (intOf i).toNat)
  case atStart => exact ⟨0, 0, by omega, rfl, rfl⟩
  case round =>
    obtain ⟨k, q, hk, rfl, rfl⟩ := hrel
    by_cases hlt : k < l.length
    · obtain ⟨b, o, ha, _, hbl, d0⟩ := KeRow.cells HR.out k hlt
      obtain ⟨b', o', ha', _, hbl', d1⟩ := KeRow.cells HR'.out k hlt
      subst ha ha'
      have hlt' : (k : Int) < l.length := by omega
      go_wp2_with fail
      go_quiet (fail)
      go_wp2_with fail
      exact ⟨⟨k + 1, q + nq, by omega, by go_num, by simp⟩, by simp [intOf]; omega⟩
    · go_wp2_with fail
      go_ret
      refine ⟨rfl, ?_⟩
      exact ⟨rfl, rfl, rfl, Nat.le_refl _, fun _ _ => rfl⟩
def SameW (h : Oh) (sub : Ous) : Prop := ∀ (a1 a2 b1 b2 : Option Addr) (c1 c2 d1 d2 : Nat) (w : World), KeRow 0 w.heap.size w a1 h.keys → OuRow 0 w.heap.size w a2 sub → KeRow 0 w.heap.size w b1 h.keys → OuRow 0 w.heap.size w b2 sub → OhBd 1048576 h → sub.len ≤ 1048576 → OusBd 1048576 sub →
    Calls Tryz.prog 15 #[.agg #[.int .i64 h.k, .int .i64 h.n, .string h.t, .slice a1 h.keys.length c1, .slice a2 sub.len c2], .agg #[.int .i64 h.k, .int .i64 h.n, .string h.t, .slice b1 h.keys.length d1, .slice b2 sub.len d2]] w fun e w' => e = .returned (.bool true) ∧ Below w.heap.size w w'
set_option maxHeartbeats 4000000 in
theorem same_out (sub : Ous) : ∀ h : Oh, SameW h sub := by
  induction hN : sub.size using Nat.strongRecOn generalizing sub with
  | _ N ih =>
  subst hN
  intro h a1 a2 b1 b2 c1 c2 d1 d2 w r1 r2 s1 s2 hb hl hs
  have IH : Hid (∀ (s : Ous) (h' : Oh), s.size < sub.size → SameW h' s) := fun s h' hlt => ih s.size hlt s rfl h'
  obtain ⟨x1, x2, x3⟩ := hb
  obtain ⟨V, hV⟩ : ∃ V, V = (w.alloc (.cells #[.int .i64 h.k, .int .i64 h.n, .string h.t, .slice a1 h.keys.length c1, .slice a2 sub.len c2] 26)).alloc (.cells #[.int .i64 h.k, .int .i64 h.n, .string h.t, .slice b1 h.keys.length d1, .slice b2 sub.len d2] 26) := ⟨_, rfl⟩
  have bV : Below w.heap.size w V := by
    rw [hV]
    repeat (first | exact Below.refl _ _ | refine Below.alloc ?_ (by first | omega | (simp <;> omega)) _)
  have zV : w.heap.size + 2 ≤ V.heap.size := by rw [hV]; simp
  have c0 : V.heap[w.heap.size]? = some (.cells #[.int .i64 h.k, .int .i64 h.n, .string h.t, .slice a1 h.keys.length c1, .slice a2 sub.len c2] 26 (0, 0)) := by
    rw [hV, Below.heap_alloc _ _ _ (by simp)]; exact heap_alloc_new _ _
  have c9 : V.heap[w.heap.size + 1]? = some (.cells #[.int .i64 h.k, .int .i64 h.n, .string h.t, .slice b1 h.keys.length d1, .slice b2 sub.len d2] 26 (0, 0)) := by
    rw [hV]
    have := heap_alloc_new (w.alloc (.cells #[.int .i64 h.k, .int .i64 h.n, .string h.t, .slice a1 h.keys.length c1, .slice a2 sub.len c2] 26)) (.cells #[.int .i64 h.k, .int .i64 h.n, .string h.t, .slice b1 h.keys.length d1, .slice b2 sub.len d2] 26)
    simpa using this
  have KV : Hid (∀ W, Below V.heap.size V W → W.heap[w.heap.size]? = some (.cells #[.int .i64 h.k, .int .i64 h.n, .string h.t, .slice a1 h.keys.length c1, .slice a2 sub.len c2] 26 (0, 0)) ∧ W.heap[w.heap.size + 1]? = some (.cells #[.int .i64 h.k, .int .i64 h.n, .string h.t, .slice b1 h.keys.length d1, .slice b2 sub.len d2] 26 (0, 0)) ∧ KeRow 0 W.heap.size W a1 h.keys ∧ KeRow 0 W.heap.size W b1 h.keys ∧ Below w.heap.size w W) := fun W hW =>
    have hw := bV.trans (hW.mono (by omega))
    ⟨(hW.block _ (by omega)).trans c0, (hW.block _ (by omega)).trans c9, KeRow.up r1 hw, KeRow.up s1 hw, hw⟩
  have HS : Hid _ := hs
  have HR : Hid (OuFrom 0 w.heap.size w a2 0 sub) := r2.from_
  have HR' : Hid (OuFrom 0 w.heap.size w b2 0 sub) := s2.from_
  have y0 := fun o => row_cell c0 o
  have y1 := fun o => row_cell c9 o
  clear r1 r2 s1 s2 hs c0 c9 bV x3 ih
  go_enter Tryz.func15, Tryz.ntmps15
  go_upto_region 1 with fail
  rw [← hV]
  clear hV
  have T0 := KV.out _ (Below.refl _ _)
  go_wp2_with fail
  refine (same_texts a1 b1 c1 d1 h.keys _ T0.2.2.1 T0.2.2.2.1 x2).mono ?_
  clear T0
  rintro e w1 ⟨rfl, hb1⟩
  have Q1 : Hid _ := hb1
  have T1 := KV.out _ hb1
  clear hb1 y0 y1
  have y0 := fun o => row_cell T1.1 o
  have y1 := fun o => row_cell T1.2.1 o
  clear T1
  go_wp2_with fail
  clear y0 y1
  go_loopw [5] (fun i w' => ∃ (k : Nat) (rest : Ous), Hid (sub.len = k + rest.len) ∧ i = .int .i64 k ∧ Hid (Below V.heap.size V w') ∧ Hid (rest.size ≤ sub.size) ∧ Hid (OusBd 1048576 rest) ∧ Hid (OuFrom 0 w.heap.size w a2 k rest) ∧ Hid (OuFrom 0 w.heap.size w b2 k rest)) (fun i _ => sub.len - (intOf i).toNat)
  case atStart => exact ⟨0, sub, by simp [Hid], rfl, Q1, Nat.le_refl _, HS, HR, HR'⟩
  case round =>
    obtain ⟨wo, rfl⟩ : ∃ x, x = wr := ⟨_, rfl⟩
    obtain ⟨k, rest, HK, rfl, HBV, HZ, HD, HF, HF'⟩ := hrel
    have T2 := KV.out _ HBV.out
    have y0 := fun o => row_cell T2.1 o
    have y1 := fun o => row_cell T2.2.1 o
    have hzo := HBV.out.size
    have hb : Below w.heap.size w wo := T2.2.2.2.2
    clear T2
    cases rest with
    | nil =>
      have hk' : ¬ (k : Int) < sub.len := by rw [HK.out]; simp only [Ous.len]; omega
      have HB9 : Hid _ := hb
      clear hb
      go_wp2_with fail
      go_ret
      exact ⟨rfl, HB9.out⟩
    | cons h' s' rest =>
      have hlt' : (k : Int) < sub.len := by rw [HK.out]; simp only [Ous.len]; omega
      have HK2 : Hid (sub.len = k + 1 + rest.len) := by rw [Hid, HK.out]; simp only [Ous.len]; omega
      obtain ⟨b, o, e1, f1, e2, f2, ha, _, hbl, g0, g1, g2, g3, g4, _, r1, r2, _⟩ := OuFrom.step (OuFrom.keep HF.out (agree hb (Nat.le_refl _)))
      obtain ⟨b', o', e1', f1', e2', f2', ha', _, hbl', g0', g1', g2', g3', g4', _, s1, s2, _⟩ := OuFrom.step (OuFrom.keep HF'.out (agree hb (Nat.le_refl _)))
      have HF2 : Hid (OuFrom 0 w.heap.size w a2 (k + 1) rest) := by
        obtain ⟨_, _, _, _, _, _, _, _, _, _, _, _, _, _, _, _, _, rf9⟩ := OuFrom.step HF.out
        exact rf9
      have HF2' : Hid (OuFrom 0 w.heap.size w b2 (k + 1) rest) := by
        obtain ⟨_, _, _, _, _, _, _, _, _, _, _, _, _, _, _, _, _, rf9⟩ := OuFrom.step HF'.out
        exact rf9
      subst ha
      subst ha'
      have R1 : Hid (KeRow 0 wo.drew.heap.size wo.drew e1 h'.keys) := KeRow.wide r1 (Nat.le_refl _) hb.size
      have R2 : Hid (OuRow 0 wo.drew.heap.size wo.drew e2 s') := OuRow.wide (OuRow.keep r2 (fun g _ _ => rfl)) (Nat.le_refl _) hb.size
      have S1 : Hid (KeRow 0 wo.drew.heap.size wo.drew e1' h'.keys) := KeRow.wide s1 (Nat.le_refl _) hb.size
      have S2 : Hid (OuRow 0 wo.drew.heap.size wo.drew e2' s') := OuRow.wide (OuRow.keep s2 (fun g _ _ => rfl)) (Nat.le_refl _) hb.size
      obtain ⟨q1, q2, q3, q4⟩ := HD.out
      have E1 : Hid (OhBd 1048576 h') := q1
      have E2 : Hid (s'.len ≤ 1048576) := q2
      have E3 : Hid (OusBd 1048576 s') := q3
      have E4 : Hid (OusBd 1048576 rest) := q4
      have HZ2 : Hid (rest.size ≤ sub.size) := by have := HZ.out; simp only [Ous.size] at this; unfold Hid; omega
      have IS : Hid (SameW h' s') := IH.out s' h' (by have := HZ.out; simp only [Ous.size] at this; omega)
      clear r1 r2 s1 s2 q1 q2 q3 q4 hb
      go_wp2_with fail
      go_region_with (go_at_call 15; refine (IS.out e1 e2 e1' e2' f1 f2 f1' f2' _ R1.out R2.out S1.out S2.out E1.out E2.out E3.out).mono ?_; rintro e w1 ⟨rfl, hb1⟩)
      all_goals
        go_wp2_with fail
        exact ⟨⟨k + 1, rest, HK2, by go_num, HBV.out.drew.trans (hb1.mono hzo), HZ2, E4, HF2, HF2'⟩, by simp [intOf]; omega⟩
theorem at_zero2 (a : Option Addr) (m c N : Nat) (w : World) (hr : ByteRow w.heap.size w a m) (hm : m ≤ 1048576) (hN : 1 ≤ N) (hN2 : N ≤ 100000) :
    Calls Tryz.prog 10 #[.slice a m c, .int .i64 0, .int .i64 N] w fun e w' => (∃ v : Nat, v < N ∧ e = .returned (.int .i64 v)) ∧ Below w.heap.size w w' := by
  by_cases h1 : N = 1
  · subst h1
    clear hr
    go_enter Tryz.func10, Tryz.ntmps10
    go_wp2_with fail
    go_ret
    exact ⟨⟨0, by omega, rfl⟩, Below.refl _ _⟩
  have hNi : ¬ (N : Int) ≤ 1 := by omega
  have hNz : (N : Int) ≠ 0 := by omega
  by_cases h0 : m = 0
  · subst h0
    clear hr
    go_enter Tryz.func10, Tryz.ntmps10
    go_wp2_with fail
    go_ret
    exact ⟨⟨0, by omega, by simp⟩, Below.refl _ _⟩
  · obtain ⟨b, o, rfl, hb, hc⟩ := hr.at_ (by omega)
    obtain ⟨r2, q2, b2⟩ := tmod_nat 1 m (by omega)
    obtain ⟨c1, l1, e1⟩ := hc 0 (by omega)
    obtain ⟨c2, l2, e2⟩ := hc r2 b2
    obtain ⟨r4, q4, b4⟩ := tmod_int (x := (c1 : Int) * 31 + c2) (m := N) (by omega) (by omega)
    have HR : Hid _ := q4
    have hb2 : (r2 : Int) < m := by omega
    have hmz : (m : Int) ≠ 0 := by omega
    have hm1 : (0 : Int) < m := by omega
    have q2' : (1 : Int).tmod m = r2 := q2
    have hz0 : (0 : Int).tmod m = 0 := Int.zero_tmod _
    have hz1 : (0 : Int).tdiv m = 0 := Int.zero_tdiv _
    rw [Nat.add_zero] at e1
    clear hc hr q4 q2
    go_enter Tryz.func10, Tryz.ntmps10
    go_wp2_with fail
    go_quiet (fail)
    go_wp2_with fail
    go_ret
    exact ⟨⟨r4, b4, by rw [← HR.out]; rfl⟩, ⟨rfl, rfl, rfl, Nat.le_refl _, fun _ _ => rfl⟩⟩
theorem at_one (a : Option Addr) (m c N : Nat) (w : World) (hr : ByteRow w.heap.size w a m) (hm : m ≤ 1048576) (hN : 2 ≤ N) (hN2 : N ≤ 100000) :
    ∃ v : Nat, v < N ∧ ∀ W, Below w.heap.size w W → Calls Tryz.prog 10 #[.slice a m c, .int .i64 1, .int .i64 N] W fun e w' => e = .returned (.int .i64 v) ∧ Below W.heap.size W w' := by
  have hNi : ¬ (N : Int) ≤ 1 := by omega
  have hNz : (N : Int) ≠ 0 := by omega
  by_cases h0 : m = 0
  · subst h0
    clear hr
    obtain ⟨r, q, b⟩ := tmod_nat 7 N (by omega)
    have q' : (7 : Int).tmod N = r := q
    clear q
    refine ⟨r, b, fun W hW => ?_⟩
    clear hW
    go_enter Tryz.func10, Tryz.ntmps10
    go_wp2_with fail
    go_ret
    exact ⟨rfl, Below.refl _ _⟩
  · obtain ⟨b, o, rfl, hb, hc⟩ := hr.at_ (by omega)
    obtain ⟨r1, q1, b1⟩ := tmod_nat 1 m (by omega)
    obtain ⟨r2, q2, b2⟩ := tmod_nat 2 m (by omega)
    obtain ⟨r3, q3, b3⟩ := tdiv_nat 1 m
    obtain ⟨c1, l1, f1⟩ := hc r1 b1
    obtain ⟨c2, l2, f2⟩ := hc r2 b2
    obtain ⟨r4, q4, b4⟩ := tmod_int (x := (c1 : Int) * 31 + c2 + r3) (m := N) (by omega) (by omega)
    have HR : Hid ((((c1 : Int) * 31 + c2 + r3) % (N : Int)) = r4) := by rw [Hid, ← q4]; exact (Int.tmod_eq_emod_of_nonneg (by omega)).symm
    have hb1 : (r1 : Int) < m := by omega
    have hb2 : (r2 : Int) < m := by omega
    have hmz : (m : Int) ≠ 0 := by omega
    have q1' : (1 : Int).tmod m = r1 := q1
    have q2' : (2 : Int).tmod m = r2 := q2
    have q3' : (1 : Int).tdiv m = r3 := q3
    refine ⟨r4, b4, fun W hW => ?_⟩
    have e1 : W.cell? ⟨b, o + r1, none⟩ = some (.int .u8 (c1 : Int)) := (World.cell?_of_block (w := w) (hW.block b hb)).trans f1
    have e2 : W.cell? ⟨b, o + r2, none⟩ = some (.int .u8 (c2 : Int)) := (World.cell?_of_block (w := w) (hW.block b hb)).trans f2
    clear hc hr q4 q2 q1 q3 f1 f2 hW
    go_enter Tryz.func10, Tryz.ntmps10
    go_wp2_with fail
    go_quiet (fail)
    go_wp2_with fail
    go_ret
    exact ⟨by rw [← HR.out]; rfl, ⟨rfl, rfl, rfl, Nat.le_refl _, fun _ _ => rfl⟩⟩
end Go.Proofs.YtoaeggfnlenjkaaGreatDoor.G
