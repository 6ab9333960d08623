/-
  NARROWER THAN 'FOR EVERY INPUT', by the rows' own cells (each row's printed sentence says how): FnExactDocOK: loops.
  DERIVED. THE GIVEN ROWS OF THIS SEAT. 3 by the template 'for every input the law returns true; each argument reads behind the call as it read before'; 0 by the template 'total and deterministic' (their statements: YtbhkcgmlkahodahTotals.lean).
  GIVEN WITH THE SEED: the statements are not yours to turn. If you find one false, say at which input.
  Laid BY PROGRAM, IN A SANDBOX (cutbox-rows.mjs): the forced cells as the released guide's own fill.sh prints them over the translation d08c0b3487d93a32… (all of the seat's roots in one cut). By AI agents, Wed Nov 11 2026. No macro, syntax, notation, axiom, sorry.
-/
import Derived.Test.YtbhkcgmlkahodahChecked
import GoSem.Claim
import GoSem.ClaimJoined
import GoSem.ClaimMapViews
import Derived.JoinedTies
import Derived.KernelRfl
namespace Go.Proofs.Ytbhkcgmlkahodah
/- THE CELL 'sum', in the pinned program and in every row, IS THE sha256 OF THE DUMP (.gsa) THAT YtbhkcgmlkahodahProg.lean LOADS. Nothing in Lean hashes anything: it is a label: what it is worth is what the hold of that sum in a sandbox is worth. -/
noncomputable def Try.pinned : Pinned := { name := "ytbhkcgmlkahodah", sum := "d08c0b3487d93a3256c361db145ab7c584dc1d2de2754b4a60e282d1084e1722", checked := Try.checked }
namespace Rows
def none {H : Type} : Left H := { results := [], args := [] }

/-- 'laws.FnExactIsInt': WHATEVER THE INPUT: true; the input reads as it did. -/
def fnExactIsIntSpec : ChangeSpec := { name := "fnExactIsInt", fn := fun _ => fun
  | [d] => { results := [.lit (.bool true)], args := [d] }
  | _ => none }
def fnExactIsIntRow : OpenClaim := { program := "ytbhkcgmlkahodah", sum := "d08c0b3487d93a3256c361db145ab7c584dc1d2de2754b4a60e282d1084e1722", func := "loop.example/g00540/laws.FnExactIsInt", spec := "fnExactIsInt", apart := false }
def FnExactIsIntSaid : Prop := fnExactIsIntRow.holds Try.pinned (OpenSpec.ofChange fnExactIsIntSpec)

/-- ITS FALSE NEIGHBOUR: 'it returns false'. Refute it at one input. -/
def fnExactIsIntWrong : ChangeSpec := { name := "fnExactIsInt", fn := fun _ => fun
  | [d] => { results := [.lit (.bool false)], args := [d] }
  | _ => none }
def FnExactIsIntWrongFalsely : Prop := fnExactIsIntRow.holds Try.pinned (OpenSpec.ofChange fnExactIsIntWrong)

/-- 'laws.FnExactValueOK': WHATEVER THE INPUT: true; the input reads as it did. -/
def fnExactValueOKSpec : ChangeSpec := { name := "fnExactValueOK", fn := fun _ => fun
  | [d] => { results := [.lit (.bool true)], args := [d] }
  | _ => none }
def fnExactValueOKRow : OpenClaim := { program := "ytbhkcgmlkahodah", sum := "d08c0b3487d93a3256c361db145ab7c584dc1d2de2754b4a60e282d1084e1722", func := "loop.example/g00540/laws.FnExactValueOK", spec := "fnExactValueOK", apart := false }
def FnExactValueOKSaid : Prop := fnExactValueOKRow.holds Try.pinned (OpenSpec.ofChange fnExactValueOKSpec)

/-- ITS FALSE NEIGHBOUR: 'it returns false'. Refute it at one input. -/
def fnExactValueOKWrong : ChangeSpec := { name := "fnExactValueOK", fn := fun _ => fun
  | [d] => { results := [.lit (.bool false)], args := [d] }
  | _ => none }
def FnExactValueOKWrongFalsely : Prop := fnExactValueOKRow.holds Try.pinned (OpenSpec.ofChange fnExactValueOKWrong)

/-- 'laws.FnExactDocOK': WHATEVER THE INPUT: true; the input reads as it did. -/
def fnExactDocOKSpec : ChangeSpec := { name := "fnExactDocOK", fn := fun _ => fun
  | [d] => { results := [.lit (.bool true)], args := [d] }
  | _ => none }
def fnExactDocOKRow : OpenClaim := { program := "ytbhkcgmlkahodah", sum := "d08c0b3487d93a3256c361db145ab7c584dc1d2de2754b4a60e282d1084e1722", func := "loop.example/g00540/laws.FnExactDocOK", spec := "fnExactDocOK", recurses := true, loops := true, apart := false }
def FnExactDocOKSaid : Prop := fnExactDocOKRow.holds Try.pinned (OpenSpec.ofChange fnExactDocOKSpec)

/-- ITS FALSE NEIGHBOUR: 'it returns false'. Refute it at one input. -/
def fnExactDocOKWrong : ChangeSpec := { name := "fnExactDocOK", fn := fun _ => fun
  | [d] => { results := [.lit (.bool false)], args := [d] }
  | _ => none }
def FnExactDocOKWrongFalsely : Prop := fnExactDocOKRow.holds Try.pinned (OpenSpec.ofChange fnExactDocOKWrong)

/- THE SECOND FORM. 'bulk': how many values and letters a reading holds, each counted each time it is reached (what is shared counts as often as it is met; a slice's spare places count too). A statement '..UptoSaid' is the law's where the arguments, and the package variables that the reading takes, are together of bulk at most 1048576: NARROWER than '..Said'. Prove '..Said' where nothing that the law and all that it calls make is longer than what came in: it says more and counts as full. Else prove '..UptoSaid'. A law counts once. -/
mutual
def uptoBulk {H : Type} : DataW H → Nat
  | .lit (.string bytes) => bytes.length + 1
  | .lit _ => 1
  | .nil => 1
  | .ptr d => uptoBulk d + 1
  | .slice elems spare => uptoBulkAll elems + uptoBulkAll spare + 1
  | .agg parts => uptoBulkAll parts + 1
  | .iface _ d => uptoBulk d + 1
  | .map entries => uptoBulkEntries entries + 1
  | .held _ => 1
def uptoBulkAll {H : Type} : List (DataW H) → Nat
  | [] => 0
  | d :: r => uptoBulk d + uptoBulkAll r
def uptoBulkEntries {H : Type} : List (Lit × DataW H) → Nat
  | [] => 0
  | x :: r => uptoBulkEntry x + uptoBulkEntries r
def uptoBulkEntry {H : Type} : Lit × DataW H → Nat
  | (.string bytes, d) => bytes.length + uptoBulk d + 1
  | (_, d) => uptoBulk d + 1
 end
def uptoSmall : (H : Type) → List (DataW H) → Bool := fun _ ds => decide (uptoBulkAll ds ≤ 1048576)
def OpenSpec.upto (s : _root_.Go.ChangeSpec) : _root_.Go.OpenSpec := { _root_.Go.OpenSpec.ofChange s with cond := some uptoSmall }

/-- 'laws.FnExactIsInt', WHERE WHAT IT READS IS OF BULK AT MOST 1048576: true; the input reads as it did. -/
def fnExactIsIntUptoRow : OpenClaim := { program := "ytbhkcgmlkahodah", sum := "d08c0b3487d93a3256c361db145ab7c584dc1d2de2754b4a60e282d1084e1722", func := "loop.example/g00540/laws.FnExactIsInt", spec := "fnExactIsInt", apart := false, narrowed := true }
def FnExactIsIntUptoSaid : Prop := fnExactIsIntUptoRow.holds Try.pinned (OpenSpec.upto fnExactIsIntSpec)

/-- 'laws.FnExactValueOK', WHERE WHAT IT READS IS OF BULK AT MOST 1048576: true; the input reads as it did. -/
def fnExactValueOKUptoRow : OpenClaim := { program := "ytbhkcgmlkahodah", sum := "d08c0b3487d93a3256c361db145ab7c584dc1d2de2754b4a60e282d1084e1722", func := "loop.example/g00540/laws.FnExactValueOK", spec := "fnExactValueOK", apart := false, narrowed := true }
def FnExactValueOKUptoSaid : Prop := fnExactValueOKUptoRow.holds Try.pinned (OpenSpec.upto fnExactValueOKSpec)

/-- 'laws.FnExactDocOK', WHERE WHAT IT READS IS OF BULK AT MOST 1048576: true; the input reads as it did. -/
def fnExactDocOKUptoRow : OpenClaim := { program := "ytbhkcgmlkahodah", sum := "d08c0b3487d93a3256c361db145ab7c584dc1d2de2754b4a60e282d1084e1722", func := "loop.example/g00540/laws.FnExactDocOK", spec := "fnExactDocOK", recurses := true, loops := true, apart := false, narrowed := true }
def FnExactDocOKUptoSaid : Prop := fnExactDocOKUptoRow.holds Try.pinned (OpenSpec.upto fnExactDocOKSpec)

end Rows
end Go.Proofs.Ytbhkcgmlkahodah
