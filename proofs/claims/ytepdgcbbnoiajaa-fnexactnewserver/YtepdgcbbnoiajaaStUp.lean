/- The program's questions to a store: their codes, the search for an hour. -/
import Derived.Test.YtepdgcbbnoiajaaStUpMath
import Derived.Laws.EntriesVeiled
import Derived.WalkSmall
namespace Go.Proofs.Ytepdgcbbnoiajaa.G
open Go.ChangeShapes Go.WideShapes Go.ChangeAt Go.RowKit
set_option linter.unusedVariables false

theorem ret_i {a b : Int} (h : a = b) : Ending.returned (.int .i64 a) = .returned (.int .i64 b) := by rw [h]
/-- A chain and an hour that lie boxed. -/
def UpAt (w : World) (B : Nat) (a : Option Addr) (len c : Nat) (ts : Int) : Prop := w.cell? ⟨B, 0, none⟩ = some (.slice a len c) ∧ w.cell? ⟨B + 1, 0, none⟩ = some (.int .i64 ts)
theorem UpAt.drewN {w : World} {B : Nat} {a : Option Addr} {len c : Nat} {ts : Int} (h : UpAt w B a len c ts) (q : Nat) : UpAt (w.drewN q) B a len c ts := h
theorem VeRow.drewN {w : World} {a : Option Addr} {l : List Ve} (h : VeRow 0 w.heap.size w a l) (q : Nat) : VeRow 0 (w.drewN q).heap.size (w.drewN q) a l := h
end Go.Proofs.Ytepdgcbbnoiajaa.G
