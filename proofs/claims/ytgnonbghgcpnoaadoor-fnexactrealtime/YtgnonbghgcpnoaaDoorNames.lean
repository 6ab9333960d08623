/- What the tests on letters, digits and names compute, and that the Go texts compute it. -/
import Derived.Test.YtgnonbghgcpnoaaDoorRows
import Derived.WalkKit
import Derived.ProofKit
import Derived.OpenShut
import Derived.ShutString
namespace Go.Proofs.YtgnonbghgcpnoaaDoor
open Go.ChangeShapes Go.WideShapes Go.ChangeAt Go.RowKit
set_option linter.unusedVariables false

def letB (c : Int) : Bool := decide (97 ≤ c ∧ c ≤ 122) || decide (65 ≤ c ∧ c ≤ 90) || decide (c = 95)
def digB (c : Int) : Bool := decide (48 ≤ c ∧ c ≤ 57)

theorem ret_bool {a b : Bool} (h : a = b) : Ending.returned (.bool a) = .returned (.bool b) := by rw [h]

/-- Byte i of a string, as a number; 0 behind its end. -/
def bt (s : ByteArray) (i : Nat) : Int := if h : i < s.size then (s[i].toNat : Int) else 0
def tailB (s : ByteArray) : Nat → Nat → Bool
  | 0, _ => true
  | f + 1, i => (letB (bt s i) || digB (bt s i)) && tailB s f (i + 1)
def nameB (s : ByteArray) : Bool := decide (1 ≤ s.size) && decide (s.size ≤ 40) && letB (bt s 0) && tailB s (s.size - 1) 1

theorem bt_lt {s : ByteArray} {i : Nat} (h : i < s.size) : bt s i = (s[i].toNat : Int) := by simp [bt, h]

theorem tail_step (s : ByteArray) (k : Nat) (h : k < s.size) : tailB s (s.size - k) k = ((letB (bt s k) || digB (bt s k)) && tailB s (s.size - (k + 1)) (k + 1)) := by
  obtain ⟨n, hn⟩ : ∃ n, s.size - k = n + 1 := ⟨s.size - k - 1, by omega⟩
  rw [hn, show s.size - (k + 1) = n by omega]; rfl
theorem tail_end (s : ByteArray) (k : Nat) (h : ¬ k < s.size) : tailB s (s.size - k) k = true := by
  rw [show s.size - k = 0 by omega]; rfl

end Go.Proofs.YtgnonbghgcpnoaaDoor
