/- What CheckTypes tells: selections of a type. -/
import Derived.Test.YtjkkphfdcoejlaaGreatDocFrs
import Derived.Test.YtjkkphfdcoejlaaGreatSchImpl
namespace Go.Proofs.YtjkkphfdcoejlaaGreat
open Go.ChangeShapes Go.WideShapes Go.ChangeAt Go.RowKit
set_option linter.unusedVariables false

def isTn (s : ByteArray) : Bool := s.toList == [95, 95, 116, 121, 112, 101, 110, 97, 109, 101]
def fdTn : G.Fd := ⟨G.bTn, [], G.bIn, false, false⟩
def fd0 : G.Fd := ⟨⟨#[]⟩, [], ⟨#[]⟩, false, false⟩
def td0 : G.Td := ⟨⟨#[]⟩, []⟩
def fldOf (t : G.Td) (n : ByteArray) : Option G.Fd := if isTn n = true then some fdTn else t.fs.find? fun f => f.nm.toList == n.toList
def tdIn (S : List G.Td) (n : ByteArray) : Option G.Td := S.find? fun t => t.nm.toList == n.toList
def dirB (x : Di) : Bool := (x.v.k == 2) || (x.v.k == 4)
def frOK (D : List De) (n tn : ByteArray) : Bool := match D.find? (isFr n) with
  | none => false
  | some f => f.on.toList == tn.toList
def inlOK (n tn : ByteArray) : Bool := (n.toList == []) || (n.toList == tn.toList)
def fitB (v : Va) (need : Bool) : Bool := (v.k == 1) || (v.k == 4) || ((v.k == 3) && !need)
def argB (f : G.Fd) (x : Ar) : Bool := f.args.any fun d => (d.nm.toList == x.nm.toList) && fitB x.v d.need
def seenA (l : List Ar) (n : ByteArray) : Bool := l.any fun a => a.nm.toList == n.toList
def argsN (f : G.Fd) : List Ar → List Ar → Bool
  | _, [] => true
  | ahead, x :: l => !seenA ahead x.nm && argB f x && argsN f (ahead ++ [x]) l
def needsB (f : G.Fd) (l : List Ar) : Bool := f.args.all fun d => !d.need || seenA l d.nm
/-- A field's own code. -/
def fldC (f : G.Fd) (args : List Ar) (none : Bool) : Int :=
  if argsN f [] args = false then 10 else if needsB f args = false then 10 else if (G.isIn f.ty != none) = true then 11 else 0
/-- One selection's code, without what is in it. -/
def selC (D : List De) (t : G.Td) (h : Hd) (none : Bool) : Int :=
  if h.dirs.all dirB = false then 10
  else if (h.k == 2) = true then (if frOK D h.nm t.nm = true then 0 else 12)
  else if (h.k == 3) = true then (if inlOK h.nm t.nm = true then 0 else 12)
  else match fldOf t h.nm with
    | Option.none => 9
    | some f => fldC f h.args none
/-- The type of what is in a selection. -/
def inT (S : List G.Td) (t : G.Td) (h : Hd) : G.Td := if (h.k == 1) = true then (match fldOf t h.nm with
    | Option.none => td0
    | some f => (tdIn S f.ty).getD td0) else t
def setC (S : List G.Td) (D : List De) : G.Td → Sels → Int
  | _, .nil => 0
  | t, .cons h sub rest => if selC D t h sub.isNil = 0 then (if setC S D (inT S t h) sub = 0 then setC S D t rest else setC S D (inT S t h) sub) else selC D t h sub.isNil
def tyNm (x : De) : ByteArray := if x.k = 1 then ⟨#[81, 117, 101, 114, 121]⟩ else if x.k = 2 then ⟨#[77, 117, 116, 97, 116, 105, 111, 110]⟩ else x.on
def defC (S : List G.Td) (D : List De) (x : De) : Int := match tdIn S (tyNm x) with
  | none => 12
  | some t => setC S D t x.sels
def docC (S : List G.Td) (D : List De) : List De → Int
  | [] => 0
  | x :: l => if defC S D x = 0 then docC S D l else defC S D x
/-- Each of the fragments by name is the first of its name. -/
theorem frs_find (l : List De) : ∀ x ∈ frsOf l, l.find? (isFr x.nm) = some x := by
  refine foldl_snoc_ind (P := fun l => ∀ x ∈ frsOf l, l.find? (isFr x.nm) = some x) (by simp [frsOf]) ?_ l
  intro l y ih x hx
  rw [frs_snoc] at hx
  rw [List.find?_append]
  unfold addFr at hx
  split at hx
  · rename_i hc
    rcases List.mem_append.1 hx with hx | hx
    · rw [ih x hx]; rfl
    · simp only [List.mem_singleton] at hx
      subst hx
      simp only [Bool.and_eq_true, Bool.not_eq_true'] at hc
      have h0 : l.find? (isFr x.nm) = none := by
        rw [List.find?_eq_none]
        intro z hz hf
        have h1 := frs_any l x.nm
        rw [hc.2] at h1
        have : l.any (isFr x.nm) = true := List.any_eq_true.2 ⟨z, hz, hf⟩
        rw [← h1] at this; cases this
      rw [h0]
      have : isFr x.nm x = true := by unfold isFr; rw [hc.1]; simp
      simp [this]
  · rw [ih x hx]; rfl
theorem frs_none {l : List De} {n : ByteArray} (h : hasNm (frsOf l) n = false) : l.find? (isFr n) = none := by
  rw [List.find?_eq_none]
  intro z hz hf
  rw [frs_any] at h
  have : l.any (isFr n) = true := List.any_eq_true.2 ⟨z, hz, hf⟩
  rw [h] at this; cases this
theorem isFr_same {x : De} {n : ByteArray} (h : (x.nm.toList == n.toList) = true) : isFr x.nm = isFr n := by
  rw [beq_iff_eq] at h
  funext z; unfold isFr; rw [h]
end Go.Proofs.YtjkkphfdcoejlaaGreat
