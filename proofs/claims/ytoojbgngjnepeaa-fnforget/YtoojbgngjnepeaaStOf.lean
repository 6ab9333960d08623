/- The law's draws: a store of a code; a number that bytes choose. -/
import Derived.Test.YtoojbgngjnepeaaStStoreTwo
namespace Go.Proofs.Ytoojbgngjnepeaa.G
open Go.ChangeShapes Go.WideShapes Go.ChangeAt Go.RowKit
set_option linter.unusedVariables false

set_option maxHeartbeats 1000000 in
theorem storeOf_any (n c : Nat) (a : Option Addr) (w : World) (hr : ByteRow w.heap.size w a n) (hn : n ≤ 1048576) :
    Calls Try.prog 4 #[.slice a n c] w fun e w' => (∃ (l : Chs) (now : Nat) (v : Value), e = .returned (.agg #[v, .int .i64 now]) ∧ OwnK w.heap.size w' v l ∧ storeB l now = true ∧ now ≤ 13) ∧ Below w.heap.size w w' := by
  obtain ⟨wa, hwa⟩ : ∃ x : World, x = w.alloc (.cells #[.slice none 0 0, .int .i64 0] 25) := ⟨_, rfl⟩
  have za : w.heap.size + 1 ≤ wa.heap.size := by rw [hwa]; simp
  have ba : Below w.heap.size w wa := by rw [hwa]; exact (Below.refl _ _).alloc (Nat.le_refl _) _
  have ca : wa.heap[w.heap.size]? = some (.cells #[.slice none 0 0, .int .i64 0] 25 (0, 0)) := by rw [hwa]; exact heap_alloc_new _ _
  have HR : Hid _ := ByteRow.up hr (Nat.le_refl _) ba
  have BA : Hid _ := ba
  have CA : Hid _ := ca
  clear hr ba ca
  go_enter Try.func4, Try.ntmps4
  go_wp2_with fail
  rw [← hwa]
  clear hwa
  refine (source_any n c a _ hn).mono ?_
  rintro e w1 ⟨rfl, s1, b1⟩
  have z1 := b1.size
  have HR1 : Hid (ByteRow wa.heap.size w1 a n) := by
    rcases HR.out with h | ⟨b, o, e, h1, h2, h3⟩
    · exact .inl h
    · refine .inr ⟨b, o, e, by omega, by omega, fun i hi => ?_⟩
      obtain ⟨x, hx, e⟩ := h3 i hi
      exact ⟨x, hx, (World.cell?_of_block (w := wa) (b1.block b (by omega))).trans e⟩
  have HS1 : Hid _ := s1
  have B1 : Hid (Below w.heap.size w w1) := BA.out.trans (b1.mono (by omega))
  have C1 : Hid _ := (b1.block w.heap.size (by omega)).trans CA.out
  clear s1 b1 HR BA CA
  go_wp2_with fail
  refine (store_any wa.heap.size n 0 a _ HS1.out HR1.out (by omega) hn).mono ?_
  rintro e w2 ⟨⟨l, now, v, rfl, o2, s2, n2⟩, g2⟩
  have z2 := g2.size
  have c2 := (g2.block w.heap.size (by omega) (by simp; omega)).trans C1.out
  have x2 := fun o => row_cell c2 o
  have y2 := fun o => row_frozen c2 o
  obtain ⟨a9, c9, hv9, _⟩ := OwnK.chRow o2
  subst hv9
  have O2 : Hid _ := o2
  have S2 : Hid _ := s2
  have B2 : Hid (Below w.heap.size w w2) := B1.out.grown g2 (by omega) (fun k hk => by simp only [Option.some.injEq] at hk; omega)
  clear o2 s2 g2 c2 HS1 HR1 B1 C1
  go_wp2_with fail
  refine bodyPost_ret (v := .agg #[.slice a9 l.length c9, .int .i64 now]) (by simp [results, Try.results4, go_sem, x2]) rfl ⟨⟨l, now, _, rfl, ?_, S2.out, by omega⟩, ?_⟩
  · obtain ⟨vs, h1, h2⟩ := OwnK.move O2.out (w' := (w2.setCell ⟨w.heap.size, 0, none⟩ (.slice a9 l.length c9)).setCell ⟨w.heap.size, 1, none⟩ (.int .i64 now)) (by simp) (fun k hk => by rw [heap_set _ _ _ _ _ (by omega), heap_set _ _ _ _ _ (by omega)])
    exact ⟨vs, own_low h1 (by omega), h2.low (by omega)⟩
  · repeat (refine Below.setCell ?_ (by first | omega | (simp <;> omega)) _)
    exact B2.out
set_option maxHeartbeats 2000000 in
theorem at_zero (a : Option Addr) (m c N : Nat) (w : World) (hr : ByteRow w.heap.size w a m) (hm : m ≤ 1048576) (hN : 1 ≤ N) (hN2 : N ≤ 100000) :
    Calls Try.prog 5 #[.slice a m c, .int .i64 0, .int .i64 N] w fun e w' => (∃ v : Nat, v < N ∧ e = .returned (.int .i64 v)) ∧ Below w.heap.size w w' := by
  by_cases h1 : N = 1
  · subst h1
    clear hr
    go_enter Try.func5, Try.ntmps5
    go_wp2_with fail
    go_ret
    exact ⟨⟨0, by omega, rfl⟩, Below.refl _ _⟩
  have hNi : ¬ (N : Int) ≤ 1 := by omega
  have hNz : (N : Int) ≠ 0 := by omega
  by_cases h0 : m = 0
  · subst h0
    clear hr
    go_enter Try.func5, Try.ntmps5
    go_wp2_with fail
    go_ret
    exact ⟨⟨0, by omega, by simp⟩, Below.refl _ _⟩
  · obtain ⟨b, o, rfl, hb, hc⟩ := hr.at_ (by omega)
    obtain ⟨r2, q2, b2⟩ := tmod_nat 1 m (by omega)
    obtain ⟨c1, l1, e1⟩ := hc 0 (by omega)
    obtain ⟨c2, l2, e2⟩ := hc r2 b2
    obtain ⟨r4, q4, b4⟩ := tmod_int (x := (c1 : Int) * 31 + c2) (m := N) (by omega) (by omega)
    have HR : Hid _ := q4
    have hb2 : (r2 : Int) < m := by omega
    have hmz : (m : Int) ≠ 0 := by omega
    have hm1 : (0 : Int) < m := by omega
    have q2' : (1 : Int).tmod m = r2 := q2
    have hz0 : (0 : Int).tmod m = 0 := Int.zero_tmod _
    have hz1 : (0 : Int).tdiv m = 0 := Int.zero_tdiv _
    rw [Nat.add_zero] at e1
    clear hc hr q4 q2
    go_enter Try.func5, Try.ntmps5
    go_wp2_with fail
    go_quiet (fail)
    go_wp2_with fail
    go_ret
    exact ⟨⟨r4, b4, by rw [← HR.out]; rfl⟩, ⟨rfl, rfl, rfl, Nat.le_refl _, fun _ _ => rfl⟩⟩
end Go.Proofs.Ytoojbgngjnepeaa.G
