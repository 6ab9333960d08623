/- The token at a place: names, numbers and marks. -/
import Derived.Test.YtjbogjoadcikhaaDoorLexNext
namespace Go.Proofs.YtjbogjoadcikhaaDoor.L
open Go.ChangeShapes Go.WideShapes Go.ChangeAt Go.RowKit
set_option linter.unusedVariables false

theorem row_cell {w : World} {N : Nat} {e : TypeId} {cs : Array Value} (h : w.heap[N]? = some (.cells cs e (0, 0))) (j : Nat) : w.cell? ⟨N, j, none⟩ = cs[j]? := cell_of_row w N j cs e _ h
theorem row_frozen {w : World} {N : Nat} {e : TypeId} {cs : Array Value} (h : w.heap[N]? = some (.cells cs e (0, 0))) (j : Nat) : w.frozen? ⟨N, j, none⟩ = false := by
  simp [World.frozen?, h]
theorem row_set {w : World} {N : Nat} {e : TypeId} {cs : Array Value} (h : w.heap[N]? = some (.cells cs e (0, 0))) (j : Nat) (v : Value) : (w.setCell ⟨N, j, none⟩ v).heap[N]? = some (.cells (cs.setIfInBounds j v) e (0, 0)) := by
  rw [setCell_eq_setRow w N j cs e _ v h]; exact setRow_heap w N cs _ e _ h
theorem fin_int (s : ByteArray) (p : Nat) (T : ByteArray) (q : Nat) (n : Int) (h1 : tokAt s p = (numT T.toList).map fun n => (⟨2, n, ⟨#[]⟩⟩, q)) (h2 : ∀ m, numT T.toList = some m → n = m) :
    ((numT T.toList).isSome = true → tokAt s p = some (⟨2, n, ⟨#[]⟩⟩, q)) ∧ ((numT T.toList).isSome = false → tokAt s p = none) := by
  cases hn : numT T.toList with
  | none =>
    rw [hn] at h1
    constructor
    · intro h; cases h
    · intro _; exact h1
  | some m =>
    rw [hn] at h1
    constructor
    · intro _; rw [h2 m hn]; exact h1
    · intro h; cases h

end Go.Proofs.YtjbogjoadcikhaaDoor.L
