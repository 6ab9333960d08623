/-
  NARROWER THAN 'FOR EVERY INPUT', by the rows' own cells (each row's printed sentence says how): FnExactOutOK: loops · FnExactSameOut: loops · FnExactOutAt: loops.
  DERIVED. THE GIVEN ROWS OF THIS SEAT. 3 by the template 'for every input the law returns true; each argument reads behind the call as it read before'; 0 by the template 'total and deterministic' (their statements: YtjmkcbjfjejaaaaTotals.lean).
  GIVEN WITH THE SEED: the statements are not yours to turn. If you find one false, say at which input.
  Laid BY PROGRAM, IN A SANDBOX (cutbox-rows.mjs): the forced cells as the released guide's own fill.sh prints them over the translation 4b700da845ec7ee6… (all of the seat's roots in one cut). By AI agents, Wed Nov 11 2026. No macro, syntax, notation, axiom, sorry.
-/
import Derived.Test.YtjmkcbjfjejaaaaChecked
import GoSem.Claim
import GoSem.ClaimJoined
import GoSem.ClaimMapViews
import Derived.JoinedTies
import Derived.KernelRfl
namespace Go.Proofs.Ytjmkcbjfjejaaaa
/- THE CELL 'sum', in the pinned program and in every row, IS THE sha256 OF THE DUMP (.gsa) THAT YtjmkcbjfjejaaaaProg.lean LOADS. Nothing in Lean hashes anything: it is a label: what it is worth is what the hold of that sum in a sandbox is worth. -/
noncomputable def Try.pinned : Pinned := { name := "ytjmkcbjfjejaaaa", sum := "4b700da845ec7ee61c01e79387a73d2dd30d9ae3f05bf2deca2169bbbe0c2932", checked := Try.checked }
namespace Rows
def none {H : Type} : Left H := { results := [], args := [] }

/-- 'laws.FnExactOutOK': WHATEVER THE INPUT: true; the input reads as it did. -/
def fnExactOutOKSpec : ChangeSpec := { name := "fnExactOutOK", fn := fun _ => fun
  | [d] => { results := [.lit (.bool true)], args := [d] }
  | _ => none }
def fnExactOutOKRow : OpenClaim := { program := "ytjmkcbjfjejaaaa", sum := "4b700da845ec7ee61c01e79387a73d2dd30d9ae3f05bf2deca2169bbbe0c2932", func := "loop.example/g00540/laws.FnExactOutOK", spec := "fnExactOutOK", unfollowed := true, recurses := true, loops := true, apart := false }
def FnExactOutOKSaid : Prop := fnExactOutOKRow.holds Try.pinned (OpenSpec.ofChange fnExactOutOKSpec)

/-- ITS FALSE NEIGHBOUR: 'it returns false'. Refute it at one input. -/
def fnExactOutOKWrong : ChangeSpec := { name := "fnExactOutOK", fn := fun _ => fun
  | [d] => { results := [.lit (.bool false)], args := [d] }
  | _ => none }
def FnExactOutOKWrongFalsely : Prop := fnExactOutOKRow.holds Try.pinned (OpenSpec.ofChange fnExactOutOKWrong)

/-- 'laws.FnExactSameOut': WHATEVER THE INPUT: true; the input reads as it did. -/
def fnExactSameOutSpec : ChangeSpec := { name := "fnExactSameOut", fn := fun _ => fun
  | [d1, d2] => { results := [.lit (.bool true)], args := [d1, d2] }
  | _ => none }
def fnExactSameOutRow : OpenClaim := { program := "ytjmkcbjfjejaaaa", sum := "4b700da845ec7ee61c01e79387a73d2dd30d9ae3f05bf2deca2169bbbe0c2932", func := "loop.example/g00540/laws.FnExactSameOut", spec := "fnExactSameOut", unfollowed := true, recurses := true, loops := true, apart := false }
def FnExactSameOutSaid : Prop := fnExactSameOutRow.holds Try.pinned (OpenSpec.ofChange fnExactSameOutSpec)

/-- ITS FALSE NEIGHBOUR: 'it returns false'. Refute it at one input. -/
def fnExactSameOutWrong : ChangeSpec := { name := "fnExactSameOut", fn := fun _ => fun
  | [d1, d2] => { results := [.lit (.bool false)], args := [d1, d2] }
  | _ => none }
def FnExactSameOutWrongFalsely : Prop := fnExactSameOutRow.holds Try.pinned (OpenSpec.ofChange fnExactSameOutWrong)

/-- 'laws.FnExactOutAt': WHATEVER THE INPUT: true; the input reads as it did. -/
def fnExactOutAtSpec : ChangeSpec := { name := "fnExactOutAt", fn := fun _ => fun
  | [d1, d2] => { results := [.lit (.bool true)], args := [d1, d2] }
  | _ => none }
def fnExactOutAtRow : OpenClaim := { program := "ytjmkcbjfjejaaaa", sum := "4b700da845ec7ee61c01e79387a73d2dd30d9ae3f05bf2deca2169bbbe0c2932", func := "loop.example/g00540/laws.FnExactOutAt", spec := "fnExactOutAt", unfollowed := true, recurses := true, loops := true, apart := false }
def FnExactOutAtSaid : Prop := fnExactOutAtRow.holds Try.pinned (OpenSpec.ofChange fnExactOutAtSpec)

/-- ITS FALSE NEIGHBOUR: 'it returns false'. Refute it at one input. -/
def fnExactOutAtWrong : ChangeSpec := { name := "fnExactOutAt", fn := fun _ => fun
  | [d1, d2] => { results := [.lit (.bool false)], args := [d1, d2] }
  | _ => none }
def FnExactOutAtWrongFalsely : Prop := fnExactOutAtRow.holds Try.pinned (OpenSpec.ofChange fnExactOutAtWrong)

/- THE SECOND FORM. 'bulk': how many values and letters a reading holds, each counted each time it is reached (what is shared counts as often as it is met; a slice's spare places count too). A statement '..UptoSaid' is the law's where the arguments, and the package variables that the reading takes, are together of bulk at most 1048576: NARROWER than '..Said'. Prove '..Said' where nothing that the law and all that it calls make is longer than what came in: it says more and counts as full. Else prove '..UptoSaid'. A law counts once. -/
mutual
def uptoBulk {H : Type} : DataW H → Nat
  | .lit (.string bytes) => bytes.length + 1
  | .lit _ => 1
  | .nil => 1
  | .ptr d => uptoBulk d + 1
  | .slice elems spare => uptoBulkAll elems + uptoBulkAll spare + 1
  | .agg parts => uptoBulkAll parts + 1
  | .iface _ d => uptoBulk d + 1
  | .map entries => uptoBulkEntries entries + 1
  | .held _ => 1
def uptoBulkAll {H : Type} : List (DataW H) → Nat
  | [] => 0
  | d :: r => uptoBulk d + uptoBulkAll r
def uptoBulkEntries {H : Type} : List (Lit × DataW H) → Nat
  | [] => 0
  | x :: r => uptoBulkEntry x + uptoBulkEntries r
def uptoBulkEntry {H : Type} : Lit × DataW H → Nat
  | (.string bytes, d) => bytes.length + uptoBulk d + 1
  | (_, d) => uptoBulk d + 1
 end
def uptoSmall : (H : Type) → List (DataW H) → Bool := fun _ ds => decide (uptoBulkAll ds ≤ 1048576)
def OpenSpec.upto (s : _root_.Go.ChangeSpec) : _root_.Go.OpenSpec := { _root_.Go.OpenSpec.ofChange s with cond := some uptoSmall }

/-- 'laws.FnExactOutOK', WHERE WHAT IT READS IS OF BULK AT MOST 1048576: true; the input reads as it did. -/
def fnExactOutOKUptoRow : OpenClaim := { program := "ytjmkcbjfjejaaaa", sum := "4b700da845ec7ee61c01e79387a73d2dd30d9ae3f05bf2deca2169bbbe0c2932", func := "loop.example/g00540/laws.FnExactOutOK", spec := "fnExactOutOK", unfollowed := true, recurses := true, loops := true, apart := false, narrowed := true }
def FnExactOutOKUptoSaid : Prop := fnExactOutOKUptoRow.holds Try.pinned (OpenSpec.upto fnExactOutOKSpec)

/-- 'laws.FnExactSameOut', WHERE WHAT IT READS IS OF BULK AT MOST 1048576: true; the input reads as it did. -/
def fnExactSameOutUptoRow : OpenClaim := { program := "ytjmkcbjfjejaaaa", sum := "4b700da845ec7ee61c01e79387a73d2dd30d9ae3f05bf2deca2169bbbe0c2932", func := "loop.example/g00540/laws.FnExactSameOut", spec := "fnExactSameOut", unfollowed := true, recurses := true, loops := true, apart := false, narrowed := true }
def FnExactSameOutUptoSaid : Prop := fnExactSameOutUptoRow.holds Try.pinned (OpenSpec.upto fnExactSameOutSpec)

/-- 'laws.FnExactOutAt', WHERE WHAT IT READS IS OF BULK AT MOST 1048576: true; the input reads as it did. -/
def fnExactOutAtUptoRow : OpenClaim := { program := "ytjmkcbjfjejaaaa", sum := "4b700da845ec7ee61c01e79387a73d2dd30d9ae3f05bf2deca2169bbbe0c2932", func := "loop.example/g00540/laws.FnExactOutAt", spec := "fnExactOutAt", unfollowed := true, recurses := true, loops := true, apart := false, narrowed := true }
def FnExactOutAtUptoSaid : Prop := fnExactOutAtUptoRow.holds Try.pinned (OpenSpec.upto fnExactOutAtSpec)

end Rows
end Go.Proofs.Ytjmkcbjfjejaaaa
