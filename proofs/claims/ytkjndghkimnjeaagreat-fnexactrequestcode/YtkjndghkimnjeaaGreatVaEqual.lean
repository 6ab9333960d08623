/- slices.Equal of arguments. -/
import Derived.Test.YtkjndghkimnjeaaGreatVaSorted
import Derived.Test.YtkjndghkimnjeaaGreatVaGrp
namespace Go.Proofs.YtkjndghkimnjeaaGreat
open Go.ChangeShapes Go.WideShapes Go.ChangeAt Go.RowKit Go.Maps Go.Shelf Go.Sort
set_option linter.unusedVariables false

theorem allEq_iff : ∀ xs ys : List Ar, Lib.allEq arE xs ys = true ↔ xs = ys
  | [], [] => by simp [Lib.allEq]
  | [], _ :: _ => by simp [Lib.allEq]
  | _ :: _, [] => by simp [Lib.allEq]
  | x :: xs, y :: ys => by
    simp only [Lib.allEq, Bool.and_eq_true, allEq_iff xs ys, arE_iff, List.cons.injEq]
theorem neq_ar : NeqAt Tryz.prog 134 (fun x => .agg (arC x).toArray) arE :=
  ⟨fun x y w => by
    show (binOp .neq 134 (.agg #[.string x.nm, .int .i64 x.v.k, .int .i64 x.v.n, .string x.v.t]) (.agg #[.string y.nm, .int .i64 y.v.k, .int .i64 y.v.n, .string y.v.t])).run Tryz.prog w = _
    rw [run_neq_struct, eq_ar]; rfl, GuardAt.agg _ (by kernel_rfl)⟩
theorem ar_rowcells {w : World} {b o : Nat} {xs : List Ar} (h : ArRow 0 w.heap.size w (some ⟨b, o, none⟩) xs) : ∀ j, j < xs.length → ∀ i v, (arC xs[j]!)[i]? = some v → w.cell? ⟨b, o + j * 4 + i, none⟩ = some v := by
  intro j hj i v hv
  obtain ⟨b', o', he, _, _, q0, q1, q2, q3⟩ := Row.cells_ar h j hj
  cases he
  have e : xs[j]! = xs[j] := by simp [hj]
  rw [e] at hv
  have hi : i < 4 := by have := (List.getElem?_eq_some_iff.1 hv).1; simpa [arC] using this
  have : i = 0 ∨ i = 1 ∨ i = 2 ∨ i = 3 := by omega
  rcases this with rfl | rfl | rfl | rfl <;> simp [arC] at hv <;> subst hv <;> assumption
set_option maxHeartbeats 1000000 in
theorem equal_args (xs ys : List Ar) (a1 a2 : Option Addr) (c1 c2 : Nat) (w : World) (r1 : ArRow 0 w.heap.size w a1 xs) (r2 : ArRow 0 w.heap.size w a2 ys) (h1 : xs.length ≤ 1048576) (h2 : ys.length ≤ 1048576) :
    Calls Tryz.prog 148 #[.slice a1 xs.length c1, .slice a2 ys.length c2] w fun e w' => e = .returned (.bool (Lib.allEq arE xs ys)) ∧ Below w.heap.size w w' := by
  by_cases hne : xs.length = ys.length
  case neg =>
    have hb : ((xs.length : Int) != (ys.length : Int)) = true := by simp [bne]; omega
    have HE : Hid (Lib.allEq arE xs ys = false) := Lib.allEq_len arE xs ys hne
    rw [HE.out]
    clear r1 r2
    go_enter Tryz.func148, Tryz.ntmps148
    go_wp2_with fail
    go_ret
    exact ⟨rfl, Below.refl _ _⟩
  by_cases h0 : xs.length = 0
  · have hx : xs = [] := List.length_eq_zero_iff.1 h0
    have hy : ys = [] := List.length_eq_zero_iff.1 (hne ▸ h0)
    subst hx hy
    clear r1 r2
    show Calls Tryz.prog 148 #[.slice a1 0 c1, .slice a2 0 c2] w fun e w' => e = .returned (.bool true) ∧ Below w.heap.size w w'
    go_enter Tryz.func148, Tryz.ntmps148
    go_wp2_with fail
    go_loopw [13] (fun i w' => i = .int .i64 0 ∧ w' = w) (fun _ _ => 0)
    case atStart => exact ⟨rfl, rfl⟩
    case round =>
      obtain ⟨rfl, hw⟩ := hrel
      have hw' := hw.symm
      clear hw
      subst hw'
      go_wp2_with fail
      go_ret
      exact ⟨rfl, Below.refl _ _⟩
  · obtain ⟨b1, o1, rfl, _⟩ := Row.cells_ar r1 0 (by omega)
    obtain ⟨b2, o2, rfl, _⟩ := Row.cells_ar r2 0 (by omega)
    have hcon := AnyQ.slices_Equal Tryz.equalAr 4 Tryz.isAgg134 Tryz.sizeOf134 arC (fun _ => rfl) arE neq_ar b1 o1 xs.length c1 b2 o2 ys.length c2 xs ys w (Nat.le_refl _) (Nat.le_refl _) (by omega) (by omega) (ar_rowcells r1) (ar_rowcells r2)
    change Calls Tryz.prog 148 _ _ _ at hcon
    refine hcon.mono ?_
    rintro e w' ⟨rfl, q, rfl⟩
    rw [List.take_length, List.take_length]
    exact ⟨rfl, ⟨rfl, rfl, rfl, Nat.le_refl _, fun _ _ => rfl⟩⟩
end Go.Proofs.YtkjndghkimnjeaaGreat
