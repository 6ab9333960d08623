/- ReadAt, ChangedSince, SizeOf: what both sides compute. -/
import Derived.Test.YtepdgcbbnoiajaaStTells
import Derived.Test.YtepdgcbbnoiajaaStSpecTwo
namespace Go.Proofs.Ytepdgcbbnoiajaa.G
open Go.ChangeShapes Go.WideShapes Go.ChangeAt Go.RowKit
set_option linter.unusedVariables false

def readR (l : Chs) (now key ts : Int) : Int := if askN l now key ts = 0 then readV (chAt l key.toNat) ts else 0
def chgR (l : Chs) (now key ts : Int) : Bool := if askN l now key ts = 0 then chgB (chAt l key.toNat) ts else false
def sizeN (l : Chs) : Nat := (l.map List.length).sum
def sizeR (l : Chs) (now : Int) : Int := if storeB l now = true then sizeN l else 0
def badN (l : Chs) (now : Int) : Int := if storeB l now = true then 0 else 1
theorem sizeN_take {l : Chs} {k : Nat} (hk : k < l.length) : sizeN (l.take (k + 1)) = sizeN (l.take k) + l[k].length := by
  unfold sizeN; rw [List.take_succ_eq_append_getElem hk, List.map_append, List.sum_append]; simp only [List.map_cons, List.map_nil, List.sum_cons, List.sum_nil]; omega
theorem sizeN_le {l : Chs} (h : ∀ x ∈ l, x.length ≤ 1048576) : sizeN l ≤ l.length * 1048576 := by
  induction l with
  | nil => simp [sizeN]
  | cons x l ih =>
    have h1 := h x (by simp)
    have h2 := ih (fun y hy => h y (by simp [hy]))
    unfold sizeN at h2 ⊢
    simp only [List.map_cons, List.sum_cons, List.length_cons]
    omega
theorem ret_2 {a b c d : Int} (h1 : a = b) (h2 : c = d) : Ending.returned (.tuple #[.int .i64 a, .int .i64 c]) = .returned (.tuple #[.int .i64 b, .int .i64 d]) := by rw [h1, h2]
theorem ret_b2 {a b : Bool} {c d : Int} (h1 : a = b) (h2 : c = d) : Ending.returned (.tuple #[.bool a, .int .i64 c]) = .returned (.tuple #[.bool b, .int .i64 d]) := by rw [h1, h2]
end Go.Proofs.Ytepdgcbbnoiajaa.G
