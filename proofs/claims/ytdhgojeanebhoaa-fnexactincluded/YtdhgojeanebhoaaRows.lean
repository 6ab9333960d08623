/-
  NARROWER THAN 'FOR EVERY INPUT', by the rows' own cells (each row's printed sentence says how): FnExactIncluded: loops · FnExactVarsFit: loops.
  DERIVED. THE GIVEN ROWS OF THIS SEAT. 4 by the template 'for every input the law returns true; each argument reads behind the call as it read before'; 0 by the template 'total and deterministic' (their statements: YtdhgojeanebhoaaTotals.lean).
  GIVEN WITH THE SEED: the statements are not yours to turn. If you find one false, say at which input.
  Laid BY PROGRAM, IN A SANDBOX (cutbox-rows.mjs): the forced cells as the released guide's own fill.sh prints them over the translation d0cba410f69cb412… (all of the seat's roots in one cut). By AI agents, Wed Nov 11 2026. No macro, syntax, notation, axiom, sorry.
-/
import Derived.Test.YtdhgojeanebhoaaChecked
import GoSem.Claim
import GoSem.ClaimJoined
import GoSem.ClaimMapViews
import Derived.JoinedTies
import Derived.KernelRfl
namespace Go.Proofs.Ytdhgojeanebhoaa
/- THE CELL 'sum', in the pinned program and in every row, IS THE sha256 OF THE DUMP (.gsa) THAT YtdhgojeanebhoaaProg.lean LOADS. Nothing in Lean hashes anything: it is a label: what it is worth is what the hold of that sum in a sandbox is worth. -/
noncomputable def Try.pinned : Pinned := { name := "ytdhgojeanebhoaa", sum := "d0cba410f69cb4123ea99f46106234a786c920bce75648d7813679966c0b1ee6", checked := Try.checked }
namespace Rows
def none {H : Type} : Left H := { results := [], args := [] }

/-- 'laws.FnExactBindingsOK': WHATEVER THE INPUT: true; the input reads as it did. -/
def fnExactBindingsOKSpec : ChangeSpec := { name := "fnExactBindingsOK", fn := fun _ => fun
  | [d] => { results := [.lit (.bool true)], args := [d] }
  | _ => none }
def fnExactBindingsOKRow : OpenClaim := { program := "ytdhgojeanebhoaa", sum := "d0cba410f69cb4123ea99f46106234a786c920bce75648d7813679966c0b1ee6", func := "loop.example/g00540/laws.FnExactBindingsOK", spec := "fnExactBindingsOK", unfollowed := true, recurses := true, apart := false }
def FnExactBindingsOKSaid : Prop := fnExactBindingsOKRow.holds Try.pinned (OpenSpec.ofChange fnExactBindingsOKSpec)

/-- ITS FALSE NEIGHBOUR: 'it returns false'. Refute it at one input. -/
def fnExactBindingsOKWrong : ChangeSpec := { name := "fnExactBindingsOK", fn := fun _ => fun
  | [d] => { results := [.lit (.bool false)], args := [d] }
  | _ => none }
def FnExactBindingsOKWrongFalsely : Prop := fnExactBindingsOKRow.holds Try.pinned (OpenSpec.ofChange fnExactBindingsOKWrong)

/-- 'laws.FnExactValueOf': WHATEVER THE INPUT: true; the input reads as it did. -/
def fnExactValueOfSpec : ChangeSpec := { name := "fnExactValueOf", fn := fun _ => fun
  | [d1, d2] => { results := [.lit (.bool true)], args := [d1, d2] }
  | _ => none }
def fnExactValueOfRow : OpenClaim := { program := "ytdhgojeanebhoaa", sum := "d0cba410f69cb4123ea99f46106234a786c920bce75648d7813679966c0b1ee6", func := "loop.example/g00540/laws.FnExactValueOf", spec := "fnExactValueOf", unfollowed := true, recurses := true, apart := false }
def FnExactValueOfSaid : Prop := fnExactValueOfRow.holds Try.pinned (OpenSpec.ofChange fnExactValueOfSpec)

/-- ITS FALSE NEIGHBOUR: 'it returns false'. Refute it at one input. -/
def fnExactValueOfWrong : ChangeSpec := { name := "fnExactValueOf", fn := fun _ => fun
  | [d1, d2] => { results := [.lit (.bool false)], args := [d1, d2] }
  | _ => none }
def FnExactValueOfWrongFalsely : Prop := fnExactValueOfRow.holds Try.pinned (OpenSpec.ofChange fnExactValueOfWrong)

/-- 'laws.FnExactIncluded': WHATEVER THE INPUT: true; the input reads as it did. -/
def fnExactIncludedSpec : ChangeSpec := { name := "fnExactIncluded", fn := fun _ => fun
  | [d1, d2] => { results := [.lit (.bool true)], args := [d1, d2] }
  | _ => none }
def fnExactIncludedRow : OpenClaim := { program := "ytdhgojeanebhoaa", sum := "d0cba410f69cb4123ea99f46106234a786c920bce75648d7813679966c0b1ee6", func := "loop.example/g00540/laws.FnExactIncluded", spec := "fnExactIncluded", unfollowed := true, recurses := true, loops := true, apart := false }
def FnExactIncludedSaid : Prop := fnExactIncludedRow.holds Try.pinned (OpenSpec.ofChange fnExactIncludedSpec)

/-- ITS FALSE NEIGHBOUR: 'it returns false'. Refute it at one input. -/
def fnExactIncludedWrong : ChangeSpec := { name := "fnExactIncluded", fn := fun _ => fun
  | [d1, d2] => { results := [.lit (.bool false)], args := [d1, d2] }
  | _ => none }
def FnExactIncludedWrongFalsely : Prop := fnExactIncludedRow.holds Try.pinned (OpenSpec.ofChange fnExactIncludedWrong)

/-- 'laws.FnExactVarsFit': WHATEVER THE INPUT: true; the input reads as it did. -/
def fnExactVarsFitSpec : ChangeSpec := { name := "fnExactVarsFit", fn := fun _ => fun
  | [d1, d2] => { results := [.lit (.bool true)], args := [d1, d2] }
  | _ => none }
def fnExactVarsFitRow : OpenClaim := { program := "ytdhgojeanebhoaa", sum := "d0cba410f69cb4123ea99f46106234a786c920bce75648d7813679966c0b1ee6", func := "loop.example/g00540/laws.FnExactVarsFit", spec := "fnExactVarsFit", unfollowed := true, recurses := true, loops := true, apart := false }
def FnExactVarsFitSaid : Prop := fnExactVarsFitRow.holds Try.pinned (OpenSpec.ofChange fnExactVarsFitSpec)

/-- ITS FALSE NEIGHBOUR: 'it returns false'. Refute it at one input. -/
def fnExactVarsFitWrong : ChangeSpec := { name := "fnExactVarsFit", fn := fun _ => fun
  | [d1, d2] => { results := [.lit (.bool false)], args := [d1, d2] }
  | _ => none }
def FnExactVarsFitWrongFalsely : Prop := fnExactVarsFitRow.holds Try.pinned (OpenSpec.ofChange fnExactVarsFitWrong)

/- THE SECOND FORM. 'bulk': how many values and letters a reading holds, each counted each time it is reached (what is shared counts as often as it is met; a slice's spare places count too). A statement '..UptoSaid' is the law's where the arguments, and the package variables that the reading takes, are together of bulk at most 1048576: NARROWER than '..Said'. Prove '..Said' where nothing that the law and all that it calls make is longer than what came in: it says more and counts as full. Else prove '..UptoSaid'. A law counts once. -/
mutual
def uptoBulk {H : Type} : DataW H → Nat
  | .lit (.string bytes) => bytes.length + 1
  | .lit _ => 1
  | .nil => 1
  | .ptr d => uptoBulk d + 1
  | .slice elems spare => uptoBulkAll elems + uptoBulkAll spare + 1
  | .agg parts => uptoBulkAll parts + 1
  | .iface _ d => uptoBulk d + 1
  | .map entries => uptoBulkEntries entries + 1
  | .held _ => 1
def uptoBulkAll {H : Type} : List (DataW H) → Nat
  | [] => 0
  | d :: r => uptoBulk d + uptoBulkAll r
def uptoBulkEntries {H : Type} : List (Lit × DataW H) → Nat
  | [] => 0
  | x :: r => uptoBulkEntry x + uptoBulkEntries r
def uptoBulkEntry {H : Type} : Lit × DataW H → Nat
  | (.string bytes, d) => bytes.length + uptoBulk d + 1
  | (_, d) => uptoBulk d + 1
 end
def uptoSmall : (H : Type) → List (DataW H) → Bool := fun _ ds => decide (uptoBulkAll ds ≤ 1048576)
def OpenSpec.upto (s : _root_.Go.ChangeSpec) : _root_.Go.OpenSpec := { _root_.Go.OpenSpec.ofChange s with cond := some uptoSmall }

/-- 'laws.FnExactBindingsOK', WHERE WHAT IT READS IS OF BULK AT MOST 1048576: true; the input reads as it did. -/
def fnExactBindingsOKUptoRow : OpenClaim := { program := "ytdhgojeanebhoaa", sum := "d0cba410f69cb4123ea99f46106234a786c920bce75648d7813679966c0b1ee6", func := "loop.example/g00540/laws.FnExactBindingsOK", spec := "fnExactBindingsOK", unfollowed := true, recurses := true, apart := false, narrowed := true }
def FnExactBindingsOKUptoSaid : Prop := fnExactBindingsOKUptoRow.holds Try.pinned (OpenSpec.upto fnExactBindingsOKSpec)

/-- 'laws.FnExactValueOf', WHERE WHAT IT READS IS OF BULK AT MOST 1048576: true; the input reads as it did. -/
def fnExactValueOfUptoRow : OpenClaim := { program := "ytdhgojeanebhoaa", sum := "d0cba410f69cb4123ea99f46106234a786c920bce75648d7813679966c0b1ee6", func := "loop.example/g00540/laws.FnExactValueOf", spec := "fnExactValueOf", unfollowed := true, recurses := true, apart := false, narrowed := true }
def FnExactValueOfUptoSaid : Prop := fnExactValueOfUptoRow.holds Try.pinned (OpenSpec.upto fnExactValueOfSpec)

/-- 'laws.FnExactIncluded', WHERE WHAT IT READS IS OF BULK AT MOST 1048576: true; the input reads as it did. -/
def fnExactIncludedUptoRow : OpenClaim := { program := "ytdhgojeanebhoaa", sum := "d0cba410f69cb4123ea99f46106234a786c920bce75648d7813679966c0b1ee6", func := "loop.example/g00540/laws.FnExactIncluded", spec := "fnExactIncluded", unfollowed := true, recurses := true, loops := true, apart := false, narrowed := true }
def FnExactIncludedUptoSaid : Prop := fnExactIncludedUptoRow.holds Try.pinned (OpenSpec.upto fnExactIncludedSpec)

/-- 'laws.FnExactVarsFit', WHERE WHAT IT READS IS OF BULK AT MOST 1048576: true; the input reads as it did. -/
def fnExactVarsFitUptoRow : OpenClaim := { program := "ytdhgojeanebhoaa", sum := "d0cba410f69cb4123ea99f46106234a786c920bce75648d7813679966c0b1ee6", func := "loop.example/g00540/laws.FnExactVarsFit", spec := "fnExactVarsFit", unfollowed := true, recurses := true, loops := true, apart := false, narrowed := true }
def FnExactVarsFitUptoSaid : Prop := fnExactVarsFitUptoRow.holds Try.pinned (OpenSpec.upto fnExactVarsFitSpec)

end Rows
end Go.Proofs.Ytdhgojeanebhoaa
