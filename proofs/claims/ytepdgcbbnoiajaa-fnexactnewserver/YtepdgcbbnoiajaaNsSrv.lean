/- Servers that nothing has come to: made, compared, marked. -/
import Derived.Test.YtepdgcbbnoiajaaStNew
import Derived.Test.YtepdgcbbnoiajaaStEq
import Derived.Deep.CutRange
import Derived.Deep.CutBlock
namespace Go.Proofs.Ytepdgcbbnoiajaa.G
open Go.ChangeShapes Go.WideShapes Go.ChangeAt Go.RowKit
set_option linter.unusedVariables false

theorem eq_live0 (a a' : Option Addr) (c c' : Nat) (w : World) : Calls Try.prog 12 #[.slice a 0 c, .slice a' 0 c'] w fun e w' => e = .returned (.bool true) ∧ w' = w := by
  go_enter Try.func12, Try.ntmps12
  go_wp2_with fail
  go_loopw [5] (fun i w' => i = .int .i64 0 ∧ w' = w) (fun _ _ => 0)
  case atStart => exact ⟨rfl, rfl⟩
  case round =>
    obtain ⟨rfl, rfl⟩ := hrel
    go_wp2_with fail
    go_ret
    exact ⟨rfl, rfl⟩
theorem eq_done0 (a a' : Option Addr) (c c' : Nat) (w : World) : Calls Try.prog 13 #[.slice a 0 c, .slice a' 0 c'] w fun e w' => e = .returned (.bool true) ∧ w' = w := by
  go_enter Try.func13, Try.ntmps13
  go_wp2_with fail
  go_loopw [5] (fun i w' => i = .int .i64 0 ∧ w' = w) (fun _ _ => 0)
  case atStart => exact ⟨rfl, rfl⟩
  case round =>
    obtain ⟨rfl, rfl⟩ := hrel
    go_wp2_with fail
    go_ret
    exact ⟨rfl, rfl⟩
theorem mark_live0 (a : Option Addr) (c : Nat) (k : Int) (w : World) : Calls Try.prog 15 #[.slice a 0 c, .int .i64 k] w fun e w' => e = .returned (.int .i64 k) ∧ w' = w := by
  go_enter Try.func15, Try.ntmps15
  go_wp2_with fail
  go_loopw [1, 5] (fun s i w' => s = .int .i64 k ∧ i = .int .i64 0 ∧ w' = w) (fun _ _ _ => 0)
  case atStart => exact ⟨rfl, rfl, rfl⟩
  case round =>
    obtain ⟨rfl, rfl, rfl⟩ := hrel
    go_wp2_with fail
    go_ret
    exact ⟨rfl, rfl⟩
theorem mark_done0 (a : Option Addr) (c : Nat) (k : Int) (w : World) : Calls Try.prog 16 #[.slice a 0 c, .int .i64 k] w fun e w' => e = .returned (.int .i64 k) ∧ w' = w := by
  go_enter Try.func16, Try.ntmps16
  go_wp2_with fail
  go_loopw [1, 5] (fun s i w' => s = .int .i64 k ∧ i = .int .i64 0 ∧ w' = w) (fun _ _ _ => 0)
  case atStart => exact ⟨rfl, rfl, rfl⟩
  case round =>
    obtain ⟨rfl, rfl, rfl⟩ := hrel
    go_wp2_with fail
    go_ret
    exact ⟨rfl, rfl⟩
theorem held_live0 (a : Option Addr) (c : Nat) (k : Int) (w : World) : Calls Try.prog 18 #[.slice a 0 c, .int .i64 k] w fun e w' => e = .returned (.int .i64 k) ∧ w' = w := by
  go_enter Try.func18, Try.ntmps18
  go_wp2_with fail
  go_loopw [1, 5] (fun s i w' => s = .int .i64 k ∧ i = .int .i64 0 ∧ w' = w) (fun _ _ _ => 0)
  case atStart => exact ⟨rfl, rfl, rfl⟩
  case round =>
    obtain ⟨rfl, rfl, rfl⟩ := hrel
    go_wp2_with fail
    go_ret
    exact ⟨rfl, rfl⟩
theorem held_done0 (a : Option Addr) (c : Nat) (k : Int) (w : World) : Calls Try.prog 19 #[.slice a 0 c, .int .i64 k] w fun e w' => e = .returned (.int .i64 k) ∧ w' = w := by
  go_enter Try.func19, Try.ntmps19
  go_wp2_with fail
  go_loopw [1, 5] (fun s i w' => s = .int .i64 k ∧ i = .int .i64 0 ∧ w' = w) (fun _ _ _ => 0)
  case atStart => exact ⟨rfl, rfl, rfl⟩
  case round =>
    obtain ⟨rfl, rfl, rfl⟩ := hrel
    go_wp2_with fail
    go_ret
    exact ⟨rfl, rfl⟩
theorem results_srvI (tmps : Array Value) (W : World) (N : Nat) (cs : Array Value) (h2 : tmps.getD 0 undef = .pointer (some ⟨N, 0, none⟩)) (hrow : W.heap[N]? = some (.cells cs 28 (0, 0))) (hsz : cs.size = 5) :
    (results Try.f5 tmps).run Try.prog W = .ok (.agg cs) W := by
  have c39 : (Try.prog.info? 28).map (·.size) = some 5 := by kernel_rfl
  exact results_cell_row Try.results5 tmps W N 28 cs (0, 0) _ h2 hrow Try.underlying28 rfl (by rw [hsz]; exact c39)
theorem results_srvS (tmps : Array Value) (W : World) (N : Nat) (cs : Array Value) (h2 : tmps.getD 0 undef = .pointer (some ⟨N, 0, none⟩)) (hrow : W.heap[N]? = some (.cells cs 28 (0, 0))) (hsz : cs.size = 5) :
    (results Try.f4 tmps).run Try.prog W = .ok (.agg cs) W := by
  have c39 : (Try.prog.info? 28).map (·.size) = some 5 := by kernel_rfl
  exact results_cell_row Try.results4 tmps W N 28 cs (0, 0) _ h2 hrow Try.underlying28 rfl (by rw [hsz]; exact c39)
set_option maxHeartbeats 1000000 in
theorem impl_srv (l : Chs) (hn : NoCh l) (w : World) :
    Calls Try.prog 5 #[] w fun e w' => ∃ a, e = .returned (.agg #[.slice a l.length 16, .int .i64 0, .slice none 0 0, .slice none 0 0, .int .i64 1]) ∧ StOwn (w.heap.size + 1) w'.heap.size w' a l (fun _ => 0) ∧ Below w.heap.size w w' := by
  obtain ⟨V, hV⟩ : ∃ V, V = w.alloc (.cells #[.slice none 0 0, .int .i64 0, .slice none 0 0, .slice none 0 0, .int .i64 0] 28) := ⟨_, rfl⟩
  have BV : Hid (Below w.heap.size w V) := by rw [Hid, hV]; exact (Below.refl _ _).alloc (Nat.le_refl _) _
  have cV : Hid (V.heap[w.heap.size]? = some (.cells #[.slice none 0 0, .int .i64 0, .slice none 0 0, .slice none 0 0, .int .i64 0] 28 (0, 0))) := by rw [Hid, hV]; exact heap_alloc_new _ _
  have zV : Hid (V.heap.size = w.heap.size + 1) := by rw [Hid, hV]; simp
  have HN : Hid _ := hn
  clear hn
  go_enter Try.func5, Try.ntmps5
  go_upto_region 1 with fail
  rw [← hV]
  clear hV
  go_wp2_with fail
  refine (impl_new l HN.out _).mono ?_
  rintro e w1 ⟨a, rfl, o1, hb1⟩
  have z1 := hb1.size
  have z0 := zV.out
  have C1 : Hid (w1.heap[w.heap.size]? = _) := (hb1.block _ (by omega)).trans cV.out
  have B1 : Hid (Below w.heap.size w w1) := BV.out.trans (hb1.mono (by omega))
  have O1 : Hid (StOwn (w.heap.size + 1) w1.heap.size w1 a l (fun _ => 0)) := by rw [Hid, ← z0]; exact o1
  clear o1 hb1 cV BV z0
  have fr := fun o => row_frozen C1.out o
  have xr := fun o => row_cell C1.out o
  go_wp2_with fail
  refine bodyPost_ret (v := .agg #[.slice a l.length 16, .int .i64 0, .slice none 0 0, .slice none 0 0, .int .i64 1]) (results_srvI _ _ w.heap.size _ rfl (row_set (row_set (row_set (row_set (row_set C1.out 0 (.slice a l.length 16)) 1 (.int .i64 0)) 2 (.slice none 0 0)) 3 (.slice none 0 0)) 4 (.int .i64 1)) rfl) rfl ⟨a, rfl, ?_, ?_⟩
  · refine StOwn.wide (hi := w1.heap.size) (StOwn.keep O1.out fun g h1 h2 => ?_) (Nat.le_refl _) (by simp)
    rw [heap_set _ _ _ _ _ (by omega), heap_set _ _ _ _ _ (by omega), heap_set _ _ _ _ _ (by omega), heap_set _ _ _ _ _ (by omega), heap_set _ _ _ _ _ (by omega)]
  · repeat (refine Below.setCell ?_ (by simp) _)
    exact B1.out
set_option maxHeartbeats 1000000 in
theorem spec_srv (l : Chs) (hn : NoCh l) (w : World) :
    Calls Try.prog 4 #[] w fun e w' => ∃ a p q, e = .returned (.agg #[.slice a l.length 16, .int .i64 0, .slice p 0 0, .slice q 0 0, .int .i64 1]) ∧ StOwn (w.heap.size + 1) w'.heap.size w' a l (fun _ => 0) ∧ Below w.heap.size w w' := by
  obtain ⟨V, hV⟩ : ∃ V, V = w.alloc (.cells #[.slice none 0 0, .int .i64 0, .slice none 0 0, .slice none 0 0, .int .i64 0] 28) := ⟨_, rfl⟩
  have BV : Hid (Below w.heap.size w V) := by rw [Hid, hV]; exact (Below.refl _ _).alloc (Nat.le_refl _) _
  have cV : Hid (V.heap[w.heap.size]? = some (.cells #[.slice none 0 0, .int .i64 0, .slice none 0 0, .slice none 0 0, .int .i64 0] 28 (0, 0))) := by rw [Hid, hV]; exact heap_alloc_new _ _
  have zV : Hid (V.heap.size = w.heap.size + 1) := by rw [Hid, hV]; simp
  have HN : Hid _ := hn
  clear hn
  go_enter Try.func4, Try.ntmps4
  go_upto_region 1 with fail
  rw [← hV]
  clear hV
  go_wp2_with fail
  refine (spec_new l HN.out _).mono ?_
  rintro e w1 ⟨a, rfl, o1, hb1⟩
  have z1 := hb1.size
  have z0 := zV.out
  obtain ⟨U, hU⟩ : ∃ U, U = (w1.alloc (.cells #[] 50)).alloc (.cells #[] 55) := ⟨_, rfl⟩
  have BU : Below w1.heap.size w1 U := by rw [hU]; exact ((Below.refl _ _).alloc (Nat.le_refl _) _).alloc (by simp) _
  have C1 : Hid (U.heap[w.heap.size]? = some (.cells #[.slice none 0 0, .int .i64 0, .slice none 0 0, .slice none 0 0, .int .i64 0] 28 (0, 0))) := (BU.block _ (by omega)).trans ((hb1.block _ (by omega)).trans cV.out)
  have B1 : Hid (Below w.heap.size w U) := (BV.out.trans (hb1.mono (by omega))).trans (BU.mono (by omega))
  have O1 : Hid (StOwn (w.heap.size + 1) w1.heap.size U a l (fun _ => 0)) := by rw [Hid, ← z0]; exact StOwn.keep o1 (agree BU (Nat.le_refl _))
  have zU : Hid (w1.heap.size ≤ U.heap.size) := BU.size
  have HU : Hid (U = (w1.alloc (.cells #[] 50)).alloc (.cells #[] 55)) := hU
  have C2 : ((w1.alloc (.cells #[] 50)).alloc (.cells #[] 55)).heap[w.heap.size]? = some (.cells #[.slice none 0 0, .int .i64 0, .slice none 0 0, .slice none 0 0, .int .i64 0] 28 (0, 0)) := by rw [← hU]; exact C1.out
  have fr := fun o => row_frozen C2 o
  have xr := fun o => row_cell C2 o
  clear o1 hb1 cV BV z0 BU hU C2
  go_wp2_with fail
  rw [← HU.out]
  clear fr xr
  refine bodyPost_ret (v := .agg #[.slice a l.length 16, .int .i64 0, .slice (some ⟨w1.heap.size, 0, none⟩) 0 0, .slice (some ⟨w1.heap.size + 1, 0, none⟩) 0 0, .int .i64 1]) (results_srvS _ _ w.heap.size _ rfl (row_set (row_set (row_set (row_set (row_set C1.out 0 (.slice a l.length 16)) 1 (.int .i64 0)) 2 (.slice (some ⟨w1.heap.size, 0, none⟩) 0 0)) 3 (.slice (some ⟨w1.heap.size + 1, 0, none⟩) 0 0)) 4 (.int .i64 1)) rfl) rfl ⟨a, _, _, rfl, ?_, ?_⟩
  · refine StOwn.wide (hi := w1.heap.size) (StOwn.keep O1.out fun g h1 h2 => ?_) (Nat.le_refl _) (by have := zU.out; simp; omega)
    rw [heap_set _ _ _ _ _ (by omega), heap_set _ _ _ _ _ (by omega), heap_set _ _ _ _ _ (by omega), heap_set _ _ _ _ _ (by omega), heap_set _ _ _ _ _ (by omega)]
  · repeat (refine Below.setCell ?_ (by simp) _)
    exact B1.out
set_option maxHeartbeats 1000000 in
theorem eq_srv (a a' p p' q q' : Option Addr) (l : Chs) (w : World) (hr : ChRow 0 w.heap.size w a l) (hr' : ChRow 0 w.heap.size w a' l) (hbd : ChsBd 1048576 l) :
    Calls Try.prog 6 #[.agg #[.slice a l.length 16, .int .i64 0, .slice p 0 0, .slice q 0 0, .int .i64 1], .agg #[.slice a' l.length 16, .int .i64 0, .slice p' 0 0, .slice q' 0 0, .int .i64 1]] w fun e w' => e = .returned (.bool true) ∧ Below w.heap.size w w' := by
  obtain ⟨U, hU⟩ : ∃ U, U = (w.alloc (.cells #[.slice a l.length 16, .int .i64 0, .slice p 0 0, .slice q 0 0, .int .i64 1] 28)).alloc (.cells #[.slice a' l.length 16, .int .i64 0, .slice p' 0 0, .slice q' 0 0, .int .i64 1] 28) := ⟨_, rfl⟩
  have BU : Hid (Below w.heap.size w U) := by rw [Hid, hU]; exact ((Below.refl _ _).alloc (Nat.le_refl _) _).alloc (by simp) _
  have zU : w.heap.size + 1 + 1 ≤ U.heap.size := by rw [hU]; simp
  have c1 : Hid (U.heap[w.heap.size]? = some (.cells #[.slice a l.length 16, .int .i64 0, .slice p 0 0, .slice q 0 0, .int .i64 1] 28 (0, 0))) := by rw [Hid, hU, Below.heap_alloc _ _ _ (by simp)]; exact heap_alloc_new _ _
  have c2 : Hid (U.heap[w.heap.size + 1]? = some (.cells #[.slice a' l.length 16, .int .i64 0, .slice p' 0 0, .slice q' 0 0, .int .i64 1] 28 (0, 0))) := by
    rw [Hid, hU]
    have := heap_alloc_new (w.alloc (.cells #[.slice a l.length 16, .int .i64 0, .slice p 0 0, .slice q 0 0, .int .i64 1] 28)) (.cells #[.slice a' l.length 16, .int .i64 0, .slice p' 0 0, .slice q' 0 0, .int .i64 1] 28)
    simpa using this
  have HQ : Hid _ := eq_store a a' 16 16 l 0 U (ChRow.up hr BU.out) (ChRow.up hr' BU.out) hbd
  have x1 := fun o => row_cell c1.out o
  have x2 := fun o => row_cell c2.out o
  clear hr hr' hbd
  go_enter Try.func6, Try.ntmps6
  go_upto_region 1 with fail
  rw [← hU]
  clear hU
  go_wp2_with fail
  refine Calls.mono HQ.out ?_
  rintro e w1 ⟨rfl, hb1⟩
  have y1 := fun o => row_cell ((hb1.block _ (by omega)).trans c1.out) o
  have y2 := fun o => row_cell ((hb1.block _ (by omega)).trans c2.out) o
  have B1 : Hid (Below w.heap.size w w1) := BU.out.trans (hb1.mono (by omega))
  clear hb1 x1 x2 HQ
  go_wp2_with (first | (go_at_call 12; refine (eq_live0 _ _ _ _ _).mono ?_; rintro e w9 ⟨rfl, rfl⟩) | (go_at_call 13; refine (eq_done0 _ _ _ _ _).mono ?_; rintro e w9 ⟨rfl, rfl⟩) | fail)
  go_ret
  exact ⟨rfl, B1.out⟩
set_option maxHeartbeats 1000000 in
theorem mark_srv (a p q : Option Addr) (l : Chs) (lo hi : Nat) (K : Int) (w : World) (ho : StOwn lo hi w a l (fun _ => 0)) (hbd : ChsBd 1048576 l) (hs0 : sizeN l = 0) (hhi : hi ≤ w.heap.size) (h0 : 0 ≤ K) (h1 : K ≤ 1073741824) :
    Calls Try.prog 7 #[.agg #[.slice a l.length 16, .int .i64 0, .slice p 0 0, .slice q 0 0, .int .i64 1], .int .i64 K] w fun e w' => ∃ r : Int, e = .returned (.int .i64 r) ∧ r = K ∧ StMk lo hi w' a l (fun _ => 0) K l.length ∧ KeptS lo hi w w' := by
  obtain ⟨U, hU⟩ : ∃ U, U = w.alloc (.cells #[.slice a l.length 16, .int .i64 0, .slice p 0 0, .slice q 0 0, .int .i64 1] 28) := ⟨_, rfl⟩
  have BU : Hid (Below w.heap.size w U) := by rw [Hid, hU]; exact (Below.refl _ _).alloc (Nat.le_refl _) _
  have zU : w.heap.size + 1 ≤ U.heap.size := by rw [hU]; simp
  have c1 : Hid (U.heap[w.heap.size]? = some (.cells #[.slice a l.length 16, .int .i64 0, .slice p 0 0, .slice q 0 0, .int .i64 1] 28 (0, 0))) := by rw [Hid, hU]; exact heap_alloc_new _ _
  have HQ : Hid _ := mark_store a 16 l 0 lo hi (fun _ => 0) K U (StOwn.keep ho (agree BU.out hhi)) hbd (by omega) (by omega) h0 h1
  have x1 := fun o => row_cell c1.out o
  have HS0 : Hid _ := hs0
  clear ho hbd hs0
  go_enter Try.func7, Try.ntmps7
  go_upto_region 1 with fail
  rw [← hU]
  clear hU
  go_wp2_with fail
  refine Calls.mono HQ.out ?_
  rintro e w1 ⟨r, rfl, hr, m1, k1⟩
  obtain rfl : r = K := by have := HS0.out; omega
  have M1 : Hid _ := m1
  have K1 : Hid (KeptS lo hi w w1) := (KeptS.of BU.out).trans k1
  have y1 := fun o => row_cell ((k1.block _ (by omega) (by omega)).trans c1.out) o
  clear m1 k1 hr x1 HQ
  go_wp2_with (first | (go_at_call 15; refine (mark_live0 _ _ _ _).mono ?_; rintro e w9 ⟨rfl, rfl⟩) | (go_at_call 16; refine (mark_done0 _ _ _ _).mono ?_; rintro e w9 ⟨rfl, rfl⟩) | fail)
  go_ret
  exact ⟨_, rfl, rfl, M1.out, K1.out⟩
set_option maxHeartbeats 1000000 in
theorem held_srv (a p q : Option Addr) (l : Chs) (lo hi : Nat) (K : Int) (w : World) (ho : StMk lo hi w a l (fun _ => 0) K l.length) (hbd : ChsBd 1048576 l) (hs0 : sizeN l = 0) (hhi : hi ≤ w.heap.size) (h0 : 0 ≤ K) (h1 : K ≤ 1073741824) :
    Calls Try.prog 8 #[.agg #[.slice a l.length 16, .int .i64 0, .slice p 0 0, .slice q 0 0, .int .i64 1], .int .i64 K] w fun e w' => ∃ r : Int, e = .returned (.int .i64 r) ∧ r = K ∧ Below w.heap.size w w' := by
  obtain ⟨U, hU⟩ : ∃ U, U = w.alloc (.cells #[.slice a l.length 16, .int .i64 0, .slice p 0 0, .slice q 0 0, .int .i64 1] 28) := ⟨_, rfl⟩
  have BU : Hid (Below w.heap.size w U) := by rw [Hid, hU]; exact (Below.refl _ _).alloc (Nat.le_refl _) _
  have zU : w.heap.size + 1 ≤ U.heap.size := by rw [hU]; simp
  have c1 : Hid (U.heap[w.heap.size]? = some (.cells #[.slice a l.length 16, .int .i64 0, .slice p 0 0, .slice q 0 0, .int .i64 1] 28 (0, 0))) := by rw [Hid, hU]; exact heap_alloc_new _ _
  have HQ : Hid _ := held_store a 16 l 0 lo hi (fun _ => 0) K U (StMk.keep ho (agree BU.out hhi)) hbd (by omega) (by omega) h0 h1
  have x1 := fun o => row_cell c1.out o
  have HS0 : Hid _ := hs0
  have hn : ¬ K < 0 := by omega
  clear ho hbd hs0
  go_enter Try.func8, Try.ntmps8
  go_upto_region 1 with fail
  rw [← hU]
  clear hU
  go_wp2_with fail
  refine Calls.mono HQ.out ?_
  rintro e w1 ⟨r, rfl, hr, hb1⟩
  obtain rfl : r = K := by have := HS0.out; omega
  have y1 := fun o => row_cell ((hb1.block _ (by omega)).trans c1.out) o
  have B1 : Hid (Below w.heap.size w w1) := BU.out.trans (hb1.mono (by omega))
  clear hb1 hr x1 HQ
  go_wp2_with (first | (go_at_call 18; refine (held_live0 _ _ _ _).mono ?_; rintro e w9 ⟨rfl, rfl⟩) | (go_at_call 19; refine (held_done0 _ _ _ _).mono ?_; rintro e w9 ⟨rfl, rfl⟩) | fail)
  go_ret
  exact ⟨_, rfl, rfl, B1.out⟩
end Go.Proofs.Ytepdgcbbnoiajaa.G
