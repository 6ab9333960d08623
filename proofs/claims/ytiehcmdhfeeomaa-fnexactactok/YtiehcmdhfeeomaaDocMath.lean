/- What is a right value, selection, definition, document; and counts of them. -/
import Derived.Test.YtiehcmdhfeeomaaSelOpen
namespace Go.Proofs.Ytiehcmdhfeeomaa
open Go.ChangeShapes Go.WideShapes Go.ChangeAt Go.RowKit
set_option linter.unusedVariables false

def noB (s : ByteArray) : Bool := s.toList.isEmpty
def onB (s : ByteArray) : Bool := s.toList == [111, 110]
def valB (v : Va) : Bool :=
  if v.k = 1 then intB v.n && noB v.t
  else if v.k = 2 then (v.n == 0 || v.n == 1) && noB v.t
  else if v.k = 3 then (v.n == 0) && noB v.t
  else if v.k = 4 then (v.n == 0) && nameB v.t
  else false
def arB (x : Ar) : Bool := nameB x.nm && valB x.v
def diB (x : Di) : Bool := valB x.v
def argsB (l : List Ar) : Bool := decide (l.length ≤ 4) && l.all arB
def dirsB (l : List Di) : Bool := decide (l.length ≤ 4) && l.all diB
def kindB (h : Hd) (z : Bool) : Bool :=
  if h.k = 1 then nameB h.nm && (noB h.al || nameB h.al)
  else if h.k = 2 then nameB h.nm && !onB h.nm && noB h.al && h.args.isEmpty && z
  else if h.k = 3 then (noB h.nm || nameB h.nm) && noB h.al && h.args.isEmpty && !z
  else false
def hdB (h : Hd) (z : Bool) : Bool := argsB h.args && dirsB h.dirs && kindB h z
def okS : Nat → Sels → Bool
  | _, .nil => true
  | d, .cons h sub rest => decide (0 < d) && hdB h sub.isNil && okS (d - 1) sub && okS d rest
def headB (x : De) : Bool :=
  if x.k = 1 ∨ x.k = 2 then (noB x.nm || nameB x.nm) && noB x.on
  else if x.k = 3 then nameB x.nm && !onB x.nm && nameB x.on
  else false
def defB (x : De) : Bool := headB x && !x.sels.isNil && okS 7 x.sels
def sizeL : List De → Nat
  | [] => 0
  | x :: l => x.sels.size + sizeL l
def docB (l : List De) : Bool := decide (1 ≤ l.length) && decide (l.length ≤ 6) && l.all defB && decide (sizeL l ≤ 60)
namespace Sels
def depth : Sels → Nat
  | .nil => 0
  | .cons _ sub rest => max (1 + sub.depth) rest.depth
theorem depth_le : ∀ {d : Nat} {l : Sels}, okS d l = true → l.depth ≤ d
  | _, .nil, _ => Nat.zero_le _
  | d, .cons h sub rest, hk => by
    simp only [okS, Bool.and_eq_true, decide_eq_true_eq] at hk
    have h1 := depth_le hk.1.2
    have h2 := depth_le hk.2
    simp only [depth]; omega
end Sels
def depthL : List De → Nat
  | [] => 0
  | x :: l => max x.sels.depth (depthL l)
theorem sizeL_append (a b : List De) : sizeL (a ++ b) = sizeL a + sizeL b := by
  induction a with
  | nil => simp [sizeL]
  | cons x a ih => simp only [List.cons_append, sizeL, ih]; omega
theorem sizeL_take {l : List De} {k : Nat} (hk : k < l.length) : sizeL (l.take (k + 1)) = sizeL (l.take k) + l[k].sels.size := by
  rw [List.take_succ_eq_append_getElem hk, sizeL_append]; simp [sizeL]
theorem sizeL_le (l : List De) (k : Nat) : sizeL (l.take k) ≤ sizeL l := by
  have : sizeL l = sizeL (l.take k) + sizeL (l.drop k) := by rw [← sizeL_append, List.take_append_drop]
  omega
end Go.Proofs.Ytiehcmdhfeeomaa
