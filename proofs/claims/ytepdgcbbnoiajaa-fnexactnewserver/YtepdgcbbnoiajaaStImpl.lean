/- What the program's text of StoreOK computes. -/
import Derived.Test.YtepdgcbbnoiajaaStMath
namespace Go.Proofs.Ytepdgcbbnoiajaa.G
open Go.ChangeShapes Go.WideShapes Go.ChangeAt Go.RowKit
set_option linter.unusedVariables false

theorem ret_b {a b : Bool} (h : a = b) : Ending.returned (.bool a) = .returned (.bool b) := by rw [h]
theorem keyB_iff (key : Int) : keyS key = true ↔ 0 ≤ key ∧ key < 16 := by simp [keyS]
end Go.Proofs.Ytepdgcbbnoiajaa.G
