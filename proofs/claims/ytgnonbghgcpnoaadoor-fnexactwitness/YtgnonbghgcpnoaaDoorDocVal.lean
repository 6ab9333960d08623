/- Values: the Go texts of ValueOK on both sides, and what the law does with a value. -/
import Derived.Test.YtgnonbghgcpnoaaDoorDocMath
import Derived.Deep.QuietTactic
import Derived.BigQuiet
namespace Go.Proofs.YtgnonbghgcpnoaaDoor
open Go.ChangeShapes Go.WideShapes Go.ChangeAt Go.RowKit
set_option linter.unusedVariables false

def inB (n a b : Int) : Bool := decide (a ≤ n ∧ n ≤ b)
set_option maxHeartbeats 400000 in
theorem spec_in (n a b : Int) (w : World) : Calls Tryd.prog 36 #[.int .i64 n, .int .i64 a, .int .i64 b] w fun e w' => e = .returned (.bool (inB n a b)) ∧ w' = w := by
  go_enter Tryd.func36, Tryd.ntmps36
  go_wp2
  all_goals (go_ret; exact ⟨ret_bool (by unfold inB; rw [Bool.eq_iff_iff]; simp; omega), rfl⟩)

theorem no_of {s : ByteArray} (h : s.toList = []) : noB s = true := by unfold noB; rw [h]; rfl
theorem no_not {s : ByteArray} (h : ¬ s.toList = []) : noB s = false := by unfold noB; cases hs : s.toList with | nil => exact absurd hs h | cons a l => rfl

/-- What is left of n, and what is known then. -/
def Sz (n m : Int) (p : Prop) : Prop := m ≤ n ∧ -1 ≤ m ∧ (0 ≤ m → p)
set_option maxHeartbeats 1000000 in
theorem sz_val (v : Va) (n : Int) (w : World) (hs : v.t.size ≤ maxLen) (h0 : 0 ≤ n) (h1 : n ≤ 1048576) :
    Calls Tryd.prog 63 #[.agg #[.int .i64 v.k, .int .i64 v.n, .string v.t], .int .i64 n] w fun e w' => ∃ m, e = .returned (.int .i64 m) ∧ Sz n m (VaBd 1048576 v) ∧ Below w.heap.size w w' := by
  obtain ⟨a, b, s⟩ := v
  simp only at hs ⊢
  unfold maxLen at hs
  by_cases h : n - s.size < 0
  · go_enter Tryd.func63, Tryd.ntmps63
    go_wp2
    go_ret
    exact ⟨-1, rfl, ⟨by omega, by omega, fun h => by omega⟩, (Below.refl _ _).alloc (Nat.le_refl _) _⟩
  · go_enter Tryd.func63, Tryd.ntmps63
    go_wp2
    go_ret
    exact ⟨n - s.size, rfl, ⟨by omega, by omega, fun _ => by unfold VaBd; simp only; omega⟩, (Below.refl _ _).alloc (Nat.le_refl _) _⟩
set_option maxHeartbeats 1000000 in
theorem to_val (a b : Int) (s : ByteArray) (w : World) :
    Calls Tryd.prog 65 #[.agg #[.int .i64 a, .int .i64 b, .string s]] w fun e w' => e = .returned (.agg #[.int .i64 a, .int .i64 b, .string s]) ∧ Below w.heap.size w w' := by
  go_enter Tryd.func65, Tryd.ntmps65
  go_wp2
  refine bodyPost_ret (v := .agg #[.int .i64 a, .int .i64 b, .string s]) (by simp [results, Tryd.results65, go_sem]) rfl ⟨rfl, ?_⟩
  repeat (first | exact Below.refl _ _ | refine Below.setCell ?_ (by simp <;> omega) _ | refine Below.alloc ?_ (by simp <;> omega) _)
end Go.Proofs.YtgnonbghgcpnoaaDoor
