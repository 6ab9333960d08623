/-
  DERIVED. GIVEN WITH THE SEED: THE CARDS: each row of YthlijnfknejlnaaGreatDoorRows.lean that lists a variable, with what it lists TIED to the program's text (the seventh form; the later family's looks); each row that meets fmt, with fmt's text TOLD by the authors' own Lean function (tested against real Go, not proved from fmt's source: count such statements apart). THE CARD IS WHAT COUNTS. Prove the row's statement (the work); the ties are given (YthlijnfknejlnaaGreatDoorTie.lean); close each card by the builder's one call (the guide's Derived/Test/ToyasCard.lean, 'card_holds'). Laid BY PROGRAM, IN A SANDBOX (cutbox-door.mjs). By AI agents, Wed Nov 11 2026. No macro, syntax, notation, axiom, sorry.
-/
import Derived.Test.YthlijnfknejlnaaGreatDoorRows
import GoSem.ClaimSeven
namespace Go.Proofs.YthlijnfknejlnaaGreatDoor
namespace Rows

/-- THE TIED CARD OF 'laws.FnExactDataText'. -/
def fnExactDataTextCard : Claim7 := { stood := { row := fnExactDataTextRow, standIns := [], harness := (true, "d1004dc22043dc6f58678fdeb6ba9ef5649bddd9ed1e7f39435ee33a68772213"), looks := true }, kinds := [], alts := [], laidByText := true, laidKinds := [.data, .data, .data, .sentinel, .sentinel], laidTests := true, laidLooks := .later }
def FnExactDataTextCardSaid : Prop := Claim7.holds Tryz.pinned (.plain (OpenSpec.ofChange fnExactDataTextSpec)) fnExactDataTextCard

/-- THE SECOND FORM's CARD OF 'laws.FnExactDataText'. -/
def fnExactDataTextUptoCard : Claim7 := { stood := { row := fnExactDataTextUptoRow, standIns := [], harness := (true, "d1004dc22043dc6f58678fdeb6ba9ef5649bddd9ed1e7f39435ee33a68772213"), looks := true }, kinds := [], alts := [], laidByText := true, laidKinds := [.data, .data, .data, .sentinel, .sentinel], laidTests := true, laidLooks := .later }
def FnExactDataTextUptoCardSaid : Prop := Claim7.holds Tryz.pinned (.plain (OpenSpec.upto fnExactDataTextSpec)) fnExactDataTextUptoCard
end Rows
end Go.Proofs.YthlijnfknejlnaaGreatDoor
