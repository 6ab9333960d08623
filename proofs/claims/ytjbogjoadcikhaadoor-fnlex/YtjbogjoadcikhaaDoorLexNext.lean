/- The token at a place: that the specification's text of it computes it. -/
import Derived.Test.YtjbogjoadcikhaaDoorLexNum
namespace Go.Proofs.YtjbogjoadcikhaaDoor.L
open Go.ChangeShapes Go.WideShapes Go.ChangeAt Go.RowKit
set_option linter.unusedVariables false

theorem numN_bound {neg : Bool} {l : List UInt8} {n : Int} (h : numN neg l = some n) : -1000000000000000000 < n ∧ n < 1000000000000000000 := by
  unfold numN at h
  split at h
  · cases h
  · rename_i hc
    obtain ⟨m, hm, rfl⟩ := Option.map_eq_some_iff.1 h
    have := Lib.decFrom_lt18 hm (by omega)
    split <;> omega
theorem numF_bound {l : List UInt8} {n : Int} (h : numF l = some n) : -1000000000000000000 < n ∧ n < 1000000000000000000 := by
  cases l with
  | nil => cases h
  | cons c r =>
    rw [numF] at h
    split at h
    · exact numN_bound h
    · exact numN_bound h

def NextIs (s : ByteArray) (p : Nat) (w : World) (e : Ending) (w' : World) : Prop :=
  ∃ (x : Tk) (q : Nat) (b : Bool), e = .returned (.tuple #[.agg #[.int .i64 x.k, .int .i64 x.n, .string x.t], .int .i64 q, .bool b]) ∧ (b = true → tokAt s p = some (x, q)) ∧ (b = false → tokAt s p = none) ∧ Below w.heap.size w w'

end Go.Proofs.YtjbogjoadcikhaaDoor.L
