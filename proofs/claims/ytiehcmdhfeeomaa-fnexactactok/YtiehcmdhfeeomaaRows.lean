/-
  NARROWER THAN 'FOR EVERY INPUT', by the rows' own cells (each row's printed sentence says how): FnExactSameDoc: loops · FnExactSameRequest: loops.
  DERIVED. THE GIVEN ROWS OF THIS SEAT. 3 by the template 'for every input the law returns true; each argument reads behind the call as it read before'; 0 by the template 'total and deterministic' (their statements: YtiehcmdhfeeomaaTotals.lean).
  GIVEN WITH THE SEED: the statements are not yours to turn. If you find one false, say at which input.
  Laid BY PROGRAM, IN A SANDBOX (cutbox-rows.mjs): the forced cells as the released guide's own fill.sh prints them over the translation bae6d1d4612206cf… (all of the seat's roots in one cut). By AI agents, Wed Nov 11 2026. No macro, syntax, notation, axiom, sorry.
-/
import Derived.Test.YtiehcmdhfeeomaaChecked
import GoSem.Claim
import GoSem.ClaimJoined
import GoSem.ClaimMapViews
import Derived.JoinedTies
import Derived.KernelRfl
namespace Go.Proofs.Ytiehcmdhfeeomaa
/- THE CELL 'sum', in the pinned program and in every row, IS THE sha256 OF THE DUMP (.gsa) THAT YtiehcmdhfeeomaaProg.lean LOADS. Nothing in Lean hashes anything: it is a label: what it is worth is what the hold of that sum in a sandbox is worth. -/
noncomputable def Try.pinned : Pinned := { name := "ytiehcmdhfeeomaa", sum := "bae6d1d4612206cf9e84a4fa96215cc420a873bea391a0488e4953bb2795f34f", checked := Try.checked }
namespace Rows
def none {H : Type} : Left H := { results := [], args := [] }

/-- 'laws.FnExactSameDoc': WHATEVER THE INPUT: true; the input reads as it did. -/
def fnExactSameDocSpec : ChangeSpec := { name := "fnExactSameDoc", fn := fun _ => fun
  | [d1, d2] => { results := [.lit (.bool true)], args := [d1, d2] }
  | _ => none }
def fnExactSameDocRow : OpenClaim := { program := "ytiehcmdhfeeomaa", sum := "bae6d1d4612206cf9e84a4fa96215cc420a873bea391a0488e4953bb2795f34f", func := "loop.example/g00540/laws.FnExactSameDoc", spec := "fnExactSameDoc", unfollowed := true, recurses := true, loops := true, apart := false }
def FnExactSameDocSaid : Prop := fnExactSameDocRow.holds Try.pinned (OpenSpec.ofChange fnExactSameDocSpec)

/-- ITS FALSE NEIGHBOUR: 'it returns false'. Refute it at one input. -/
def fnExactSameDocWrong : ChangeSpec := { name := "fnExactSameDoc", fn := fun _ => fun
  | [d1, d2] => { results := [.lit (.bool false)], args := [d1, d2] }
  | _ => none }
def FnExactSameDocWrongFalsely : Prop := fnExactSameDocRow.holds Try.pinned (OpenSpec.ofChange fnExactSameDocWrong)

/-- 'laws.FnExactSameRequest': WHATEVER THE INPUT: true; the input reads as it did. -/
def fnExactSameRequestSpec : ChangeSpec := { name := "fnExactSameRequest", fn := fun _ => fun
  | [d1, d2] => { results := [.lit (.bool true)], args := [d1, d2] }
  | _ => none }
def fnExactSameRequestRow : OpenClaim := { program := "ytiehcmdhfeeomaa", sum := "bae6d1d4612206cf9e84a4fa96215cc420a873bea391a0488e4953bb2795f34f", func := "loop.example/g00540/laws.FnExactSameRequest", spec := "fnExactSameRequest", unfollowed := true, recurses := true, loops := true, apart := false }
def FnExactSameRequestSaid : Prop := fnExactSameRequestRow.holds Try.pinned (OpenSpec.ofChange fnExactSameRequestSpec)

/-- ITS FALSE NEIGHBOUR: 'it returns false'. Refute it at one input. -/
def fnExactSameRequestWrong : ChangeSpec := { name := "fnExactSameRequest", fn := fun _ => fun
  | [d1, d2] => { results := [.lit (.bool false)], args := [d1, d2] }
  | _ => none }
def FnExactSameRequestWrongFalsely : Prop := fnExactSameRequestRow.holds Try.pinned (OpenSpec.ofChange fnExactSameRequestWrong)

/-- 'laws.FnExactActOK': WHATEVER THE INPUT: true; the input reads as it did. -/
def fnExactActOKSpec : ChangeSpec := { name := "fnExactActOK", fn := fun _ => fun
  | [d] => { results := [.lit (.bool true)], args := [d] }
  | _ => none }
def fnExactActOKRow : OpenClaim := { program := "ytiehcmdhfeeomaa", sum := "bae6d1d4612206cf9e84a4fa96215cc420a873bea391a0488e4953bb2795f34f", func := "loop.example/g00540/laws.FnExactActOK", spec := "fnExactActOK", unfollowed := true, recurses := true, apart := false }
def FnExactActOKSaid : Prop := fnExactActOKRow.holds Try.pinned (OpenSpec.ofChange fnExactActOKSpec)

/-- ITS FALSE NEIGHBOUR: 'it returns false'. Refute it at one input. -/
def fnExactActOKWrong : ChangeSpec := { name := "fnExactActOK", fn := fun _ => fun
  | [d] => { results := [.lit (.bool false)], args := [d] }
  | _ => none }
def FnExactActOKWrongFalsely : Prop := fnExactActOKRow.holds Try.pinned (OpenSpec.ofChange fnExactActOKWrong)

/- THE SECOND FORM. 'bulk': how many values and letters a reading holds, each counted each time it is reached (what is shared counts as often as it is met; a slice's spare places count too). A statement '..UptoSaid' is the law's where the arguments, and the package variables that the reading takes, are together of bulk at most 1048576: NARROWER than '..Said'. Prove '..Said' where nothing that the law and all that it calls make is longer than what came in: it says more and counts as full. Else prove '..UptoSaid'. A law counts once. -/
mutual
def uptoBulk {H : Type} : DataW H → Nat
  | .lit (.string bytes) => bytes.length + 1
  | .lit _ => 1
  | .nil => 1
  | .ptr d => uptoBulk d + 1
  | .slice elems spare => uptoBulkAll elems + uptoBulkAll spare + 1
  | .agg parts => uptoBulkAll parts + 1
  | .iface _ d => uptoBulk d + 1
  | .map entries => uptoBulkEntries entries + 1
  | .held _ => 1
def uptoBulkAll {H : Type} : List (DataW H) → Nat
  | [] => 0
  | d :: r => uptoBulk d + uptoBulkAll r
def uptoBulkEntries {H : Type} : List (Lit × DataW H) → Nat
  | [] => 0
  | x :: r => uptoBulkEntry x + uptoBulkEntries r
def uptoBulkEntry {H : Type} : Lit × DataW H → Nat
  | (.string bytes, d) => bytes.length + uptoBulk d + 1
  | (_, d) => uptoBulk d + 1
 end
def uptoSmall : (H : Type) → List (DataW H) → Bool := fun _ ds => decide (uptoBulkAll ds ≤ 1048576)
def OpenSpec.upto (s : _root_.Go.ChangeSpec) : _root_.Go.OpenSpec := { _root_.Go.OpenSpec.ofChange s with cond := some uptoSmall }

/-- 'laws.FnExactSameDoc', WHERE WHAT IT READS IS OF BULK AT MOST 1048576: true; the input reads as it did. -/
def fnExactSameDocUptoRow : OpenClaim := { program := "ytiehcmdhfeeomaa", sum := "bae6d1d4612206cf9e84a4fa96215cc420a873bea391a0488e4953bb2795f34f", func := "loop.example/g00540/laws.FnExactSameDoc", spec := "fnExactSameDoc", unfollowed := true, recurses := true, loops := true, apart := false, narrowed := true }
def FnExactSameDocUptoSaid : Prop := fnExactSameDocUptoRow.holds Try.pinned (OpenSpec.upto fnExactSameDocSpec)

/-- 'laws.FnExactSameRequest', WHERE WHAT IT READS IS OF BULK AT MOST 1048576: true; the input reads as it did. -/
def fnExactSameRequestUptoRow : OpenClaim := { program := "ytiehcmdhfeeomaa", sum := "bae6d1d4612206cf9e84a4fa96215cc420a873bea391a0488e4953bb2795f34f", func := "loop.example/g00540/laws.FnExactSameRequest", spec := "fnExactSameRequest", unfollowed := true, recurses := true, loops := true, apart := false, narrowed := true }
def FnExactSameRequestUptoSaid : Prop := fnExactSameRequestUptoRow.holds Try.pinned (OpenSpec.upto fnExactSameRequestSpec)

/-- 'laws.FnExactActOK', WHERE WHAT IT READS IS OF BULK AT MOST 1048576: true; the input reads as it did. -/
def fnExactActOKUptoRow : OpenClaim := { program := "ytiehcmdhfeeomaa", sum := "bae6d1d4612206cf9e84a4fa96215cc420a873bea391a0488e4953bb2795f34f", func := "loop.example/g00540/laws.FnExactActOK", spec := "fnExactActOK", unfollowed := true, recurses := true, apart := false, narrowed := true }
def FnExactActOKUptoSaid : Prop := fnExactActOKUptoRow.holds Try.pinned (OpenSpec.upto fnExactActOKSpec)

end Rows
end Go.Proofs.Ytiehcmdhfeeomaa
