/- compareHours, as the sort asks it. -/
import Derived.Test.YtgnonbghgcpnoaaDoorWiMath
import Derived.Shelf.SlSortCmp.KitK
import Derived.Deep.LoopGhost
import Derived.Deep.CutRange
namespace Go.Proofs.YtgnonbghgcpnoaaDoor
open Go.ChangeShapes Go.WideShapes Go.ChangeAt Go.RowKit
set_option linter.unusedVariables false

/-- A world with draws and new blocks alone. -/
def GrC (w W : World) : Prop := ∃ q os, W = Sort.grow (w.drewN q) os
theorem GrC.refl (w : World) : GrC w w := ⟨0, #[], by rw [Sort.grow_empty]; rfl⟩
theorem GrC.alloc {w W : World} (h : GrC w W) (o : Obj) : GrC w (W.alloc o) := by
  obtain ⟨q, os, rfl⟩ := h
  exact ⟨q, os ++ #[o], by rw [Sort.alloc_eq_grow, Sort.grow_grow]⟩
def cmI (a b : Int) : Int := if a < b then -1 else if b < a then 1 else 0
set_option maxHeartbeats 1000000 in
theorem nan_int (a : Int) (w : World) : Calls Tryd.prog 60 #[.int .i64 a] w fun e w' => e = .returned (.bool false) ∧ w' = w := by
  go_enter Tryd.func60, Tryd.ntmps60
  go_wp2_with fail
  go_ret
  exact ⟨ret_b (by simp), rfl⟩
set_option maxHeartbeats 1000000 in
theorem cmp_int (a b : Int) (w : World) : Calls Tryd.prog 52 #[.int .i64 a, .int .i64 b] w fun e w' => e = .returned (.int .i64 (cmI a b)) ∧ w' = w := by
  go_enter Tryd.func52, Tryd.ntmps52
  go_wp2_with fail
  refine (nan_int a w).mono ?_
  rintro e w1 ⟨rfl, rfl⟩
  go_wp2_with fail
  refine (nan_int b _).mono ?_
  rintro e w1 ⟨rfl, rfl⟩
  by_cases h1 : a < b
  · have H : Hid (-1 = cmI a b) := by rw [Hid, cmI, if_pos h1]
    go_wp2_with fail
    go_ret
    exact ⟨ret_i H.out, rfl⟩
  by_cases h2 : b < a
  · have H : Hid (1 = cmI a b) := by rw [Hid, cmI, if_neg h1, if_pos h2]
    go_wp2_with fail
    go_ret
    exact ⟨ret_i H.out, rfl⟩
  have H : Hid (0 = cmI a b) := by rw [Hid, cmI, if_neg h1, if_neg h2]
  go_wp2_with fail
  go_ret
  exact ⟨ret_i H.out, rfl⟩
set_option maxHeartbeats 4000000 in
set_option maxRecDepth 40000 in
theorem cmp_hours (x y : Cm) (w : World) : Calls Tryd.prog 42 #[.agg (cmV x).toArray, .agg (cmV y).toArray] w fun e w' => e = .returned (.int .i64 (cfH x y)) ∧ GrC w w' := by
  obtain ⟨w9, hw9⟩ : ∃ V, V = (w.alloc (.cells (cmV x).toArray 68)).alloc (.cells (cmV y).toArray 68) := ⟨_, rfl⟩
  have G9 : Hid (GrC w w9) := by rw [Hid, hw9]; exact ((GrC.refl w).alloc _).alloc _
  have c0 : w9.heap[w.heap.size]? = some (.cells (cmV x).toArray 68 (0, 0)) := by
    rw [hw9, Below.heap_alloc _ _ _ (by simp)]; exact heap_alloc_new _ _
  have c1 : w9.heap[w.heap.size + 1]? = some (.cells (cmV y).toArray 68 (0, 0)) := by
    rw [hw9]
    have := heap_alloc_new (w.alloc (.cells (cmV x).toArray 68)) (.cells (cmV y).toArray 68)
    simpa using this
  have x2 : w9.cell? ⟨w.heap.size, 2, none⟩ = some (.int .i64 x.x.ts) := (row_cell c0 2).trans rfl
  have x4 : w9.cell? ⟨w.heap.size, 4, none⟩ = some (.bool x.x.wr) := (row_cell c0 4).trans rfl
  have y2 : w9.cell? ⟨w.heap.size + 1, 2, none⟩ = some (.int .i64 y.x.ts) := (row_cell c1 2).trans rfl
  have y4 : w9.cell? ⟨w.heap.size + 1, 4, none⟩ = some (.bool y.x.wr) := (row_cell c1 4).trans rfl
  clear c0 c1
  subst hw9
  unfold cmV at *
  go_enter Tryd.func42, Tryd.ntmps42
  by_cases h1 : x.x.ts = y.x.ts
  · have h1' : (x.x.ts != y.x.ts) = false := by simpa using h1
    cases h2 : x.x.wr <;> cases h3 : y.x.wr <;> rw [h2] at x4 <;> rw [h3] at y4
    · have H : Hid (0 = cfH x y) := by rw [Hid, cfH, if_neg (by simpa using h1), if_pos (by rw [h2, h3])]
      clear h2 h3 h1
      go_wp2_with fail
      go_ret
      exact ⟨ret_i H.out, ((GrC.refl w).alloc _).alloc _⟩
    · have H : Hid (1 = cfH x y) := by rw [Hid, cfH, if_neg (by simpa using h1), if_neg (by rw [h2, h3]; decide), if_neg (by rw [h2]; decide)]
      clear h2 h3 h1
      go_wp2_with fail
      go_ret
      exact ⟨ret_i H.out, ((GrC.refl w).alloc _).alloc _⟩
    · have H : Hid (-1 = cfH x y) := by rw [Hid, cfH, if_neg (by simpa using h1), if_neg (by rw [h2, h3]; decide), if_pos h2]
      clear h2 h3 h1
      go_wp2_with fail
      go_ret
      exact ⟨ret_i H.out, ((GrC.refl w).alloc _).alloc _⟩
    · have H : Hid (0 = cfH x y) := by rw [Hid, cfH, if_neg (by simpa using h1), if_pos (by rw [h2, h3])]
      clear h2 h3 h1
      go_wp2_with fail
      go_ret
      exact ⟨ret_i H.out, ((GrC.refl w).alloc _).alloc _⟩
  · have h1' : (x.x.ts != y.x.ts) = true := by simpa using h1
    have H : Hid (cmI x.x.ts y.x.ts = cfH x y) := by
      rw [Hid, cfH, if_pos h1, cmI]
      by_cases h2 : x.x.ts < y.x.ts
      · rw [if_pos h2, if_pos h2]
      · rw [if_neg h2, if_neg h2, if_pos (by omega)]
    clear h1
    go_wp2_with fail
    refine (cmp_int _ _ _).mono ?_
    rintro e w1 ⟨rfl, rfl⟩
    go_wp2_with fail
    go_ret
    exact ⟨ret_i H.out, ((GrC.refl w).alloc _).alloc _⟩
theorem cm_lays (g : Nat) (n : Nat) (w : World) : CmpLays Tryd.prog 42 #[] cmV 9 cfH g 0 n w := fun m os dk hd x y => by
  refine Calls.mono (cmp_hours x y _) ?_
  rintro e w' ⟨rfl, q, os', rfl⟩
  exact ⟨rfl, q, os', rfl⟩
theorem cm_one : ∀ x, ∀ v ∈ cmV x, v.oneCell' = true := fun x v hv => by
  unfold cmV at hv
  simp only [List.mem_cons, List.not_mem_nil, or_false] at hv
  rcases hv with rfl | rfl | rfl | rfl | rfl | rfl | rfl | rfl | rfl <;> rfl
end Go.Proofs.YtgnonbghgcpnoaaDoor
