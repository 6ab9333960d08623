/- The specification's Forget: its two answers. -/
import Derived.Test.YtoojbgngjnepeaaStFgSpec
namespace Go.Proofs.Ytoojbgngjnepeaa.G
open Go.ChangeShapes Go.WideShapes Go.ChangeAt Go.RowKit
set_option linter.unusedVariables false

theorem ask_hour (l : Chs) (now low : Int) : askN l now 0 low = hourN l now low := by
  unfold askN
  rw [if_pos (show keyB 0 = true from rfl)]
  split
  · rename_i h; exact h.symm
  · rfl
set_option maxHeartbeats 2000000 in
theorem spec_forget_no (a : Option Addr) (c : Nat) (l : Chs) (now low : Int) (w : World) (hr : ChRow 0 w.heap.size w a l) (hbd : ChsBd 1048576 l) (h0 : hourN l now low ≠ 0) :
    Calls Try.prog 7 #[.agg #[.slice a l.length c, .int .i64 now], .int .i64 low] w fun e w' => e = .returned (.tuple #[.agg #[.slice none 0 0, .int .i64 0], .int .i64 0, .int .i64 (hourN l now low)]) ∧ Below w.heap.size w w' := by
  have HR : Hid (∀ W0, Below w.heap.size w W0 → ChRow 0 W0.heap.size W0 a l) := fun W0 hB => ChRow.up hr hB
  have HE : Hid _ := hbd
  have h0' : (hourN l now low != 0) = true := by simpa using h0
  have HA : Hid _ := ask_hour l now low
  clear hr hbd h0
  go_enter Try.func7, Try.ntmps7
  go_wp2_with fail
  refine (spec_ask a c l now 0 low _ (HR.out _ ?b0) HE.out).mono ?_
  case b0 => repeat (first | exact Below.refl _ _ | refine Below.setCell ?_ (by first | omega | (simp <;> omega)) _ | refine Below.alloc ?_ (by first | omega | (simp <;> omega)) _)
  rintro e w1 ⟨rfl, hb1⟩
  rw [HA.out]
  have q1 : Below w.heap.size w w1 := by
    refine Below.trans ?_ (hb1.mono (by first | omega | (simp <;> omega)))
    repeat (first | exact Below.refl _ _ | refine Below.setCell ?_ (by first | omega | (simp <;> omega)) _ | refine Below.alloc ?_ (by first | omega | (simp <;> omega)) _)
  have k2 := fun o => hb1.cell (p := ⟨w.heap.size + 1, o, none⟩) (by first | omega | (simp <;> omega))
  have j2 := fun o => hb1.frozen (p := ⟨w.heap.size + 1, o, none⟩) (by first | omega | (simp <;> omega))
  have Q : Hid _ := q1
  clear hb1 q1
  obtain ⟨z, hz⟩ : ∃ z, z = hourN l now low := ⟨_, rfl⟩
  have HZ : Hid _ := hz
  rw [← hz] at h0' ⊢
  clear hz
  go_wp2_with fail
  refine bodyPost_ret (v := .tuple #[.agg #[.slice none 0 0, .int .i64 0], .int .i64 0, .int .i64 z]) (by simp [results, Try.results7, go_sem, k2]) rfl ⟨by rw [HZ.out], ?_⟩
  repeat (refine Below.setCell ?_ (by first | omega | (simp <;> omega)) _)
  exact Q.out
set_option maxHeartbeats 4000000 in
theorem spec_forget (a : Option Addr) (c : Nat) (l : Chs) (now low : Int) (w : World) (hr : ChRow 0 w.heap.size w a l) (hbd : ChsBd 1048576 l) (h0 : hourN l now low = 0) :
    Calls Try.prog 7 #[.agg #[.slice a l.length c, .int .i64 now], .int .i64 low] w fun e w' => ∃ a' c', e = .returned (.tuple #[.agg #[.slice a' (fgS low l).length c', .int .i64 now], .int .i64 (goS low l), .int .i64 0]) ∧ ChRow w.heap.size w'.heap.size w' a' (fgS low l) ∧ Below w.heap.size w w' := by
  have HR : Hid (∀ W0, Below w.heap.size w W0 → ChRow 0 W0.heap.size W0 a l) := fun W0 hB => ChRow.up hr hB
  have HE : Hid _ := hbd
  have hs := (hourN_zero h0).1
  have H16 : Hid (l.length = 16) := (storeB_all hs).1
  have HS : Hid (∀ i (h : i < l.length), Rise l[i]) := fun i h => store_rise hs h
  have HA : Hid (askN l now 0 low = 0) := by rw [Hid, ask_hour]; exact h0
  clear hr hbd h0 hs
  go_enter Try.func7, Try.ntmps7
  go_wp2_with fail
  obtain ⟨V, hV⟩ : ∃ V : World, V = (w.alloc (.cells #[.slice a l.length c, .int .i64 now] 25)).alloc (.cells #[.slice none 0 0, .int .i64 0] 25) := ⟨_, rfl⟩
  have zV : V.heap.size = w.heap.size + 2 := by rw [hV]; simp
  have bV : Below w.heap.size w V := by
    rw [hV]
    repeat (first | exact Below.refl _ _ | refine Below.alloc ?_ (by first | omega | (simp <;> omega)) _)
  have c0 : V.heap[w.heap.size]? = some (.cells #[.slice a l.length c, .int .i64 now] 25 (0, 0)) := by
    rw [hV, Below.heap_alloc _ _ _ (by simp <;> omega)]; exact heap_alloc_new _ _
  have c1 : V.heap[w.heap.size + 1]? = some (.cells #[.slice none 0 0, .int .i64 0] 25 (0, 0)) := by
    rw [hV]
    have := heap_alloc_new (w.alloc (.cells #[.slice a l.length c, .int .i64 now] 25)) (.cells #[.slice none 0 0, .int .i64 0] 25)
    simpa using this
  rw [← hV]
  have KV : Hid (∀ W, Below V.heap.size V W → W.heap[w.heap.size]? = some (.cells #[.slice a l.length c, .int .i64 now] 25 (0, 0)) ∧ W.heap[w.heap.size + 1]? = some (.cells #[.slice none 0 0, .int .i64 0] 25 (0, 0)) ∧ Below w.heap.size w W) := fun W h =>
    ⟨(h.block _ (by omega)).trans c0, (h.block _ (by omega)).trans c1, bV.trans (h.mono (by omega))⟩
  have BV : Hid _ := bV
  clear c0 c1 bV hV
  refine (spec_ask a c l now 0 low _ (HR.out _ BV.out) HE.out).mono ?_
  rintro e w1 ⟨rfl, hb1⟩
  rw [HA.out]
  obtain ⟨d0, _, _⟩ := KV.out _ hb1
  have x0 := fun o => row_cell d0 o
  have Q1 : Hid (Below V.heap.size V w1) := hb1
  have z1 := hb1.size
  clear hb1 d0
  go_wp2_with fail
  refine (spec_l06Forget a c l now low _ (HR.out _ (KV.out _ Q1.out).2.2) HE.out H16.out HS.out).mono ?_
  rintro e w2 ⟨a', c', rfl, r2, hb2⟩
  have Q2 : Hid (Below V.heap.size V w2) := Q1.out.trans (hb2.mono (by omega))
  obtain ⟨_, d1, _⟩ := KV.out _ Q2.out
  have R2 : Hid _ := r2
  have z2 := hb2.size
  have x1 := fun o => row_cell d1 o
  have y1 := fun o => row_frozen d1 o
  have p0 := fun ob => (World.cell?_alloc_past (w := w2) ob (w.heap.size + 1) 0 (by omega)).trans (row_cell d1 0)
  have p1 := fun ob => (World.cell?_alloc_past (w := w2) ob (w.heap.size + 1) 1 (by omega)).trans (row_cell d1 1)
  have f0 : ∀ ob o, (w2.alloc ob).frozen? ⟨w.heap.size + 1, o, none⟩ = false := fun ob o => (((Below.refl w2.heap.size w2).alloc (Nat.le_refl _) ob).frozen (p := ⟨w.heap.size + 1, o, none⟩) (show w.heap.size + 1 < w2.heap.size by omega)).trans (y1 o)
  clear hb2 r2 d1 x0 x1
  go_wp2_with fail
  refine bodyPost_ret (v := .tuple #[.agg #[.slice a' (fgS low l).length c', .int .i64 now], .int .i64 (goS low l), .int .i64 0]) (by simp [results, Try.results7, go_sem, p0, p1]) rfl ⟨a', c', rfl, ?_, ?_⟩
  · refine ChRow.wide (ChRow.keep R2.out ?_) (by omega) (by simp)
    intro g h1 h2
    rw [heap_set _ _ _ _ _ (by omega), heap_set _ _ _ _ _ (by omega)]
    exact Below.heap_alloc _ _ _ h2
  · repeat (refine Below.setCell ?_ (by first | omega | (simp <;> omega)) _)
    exact ((KV.out _ Q2.out).2.2).alloc (by omega) _
end Go.Proofs.Ytoojbgngjnepeaa.G
