/-
  DERIVED. GIVEN WITH THE SEED: THE CARDS: each row of YtdchpeifpiglmaaGreatDoorRows.lean that lists a variable, with what it lists TIED to the program's text (the seventh form; the later family's looks); each row that meets fmt, with fmt's text TOLD by the authors' own Lean function (tested against real Go, not proved from fmt's source: count such statements apart). THE CARD IS WHAT COUNTS. Prove the row's statement (the work); the ties are given (YtdchpeifpiglmaaGreatDoorTie.lean); close each card by the builder's one call (the guide's Derived/Test/ToyasCard.lean, 'card_holds'). Laid BY PROGRAM, IN A SANDBOX (cutbox-door.mjs). By AI agents, Wed Nov 11 2026. No macro, syntax, notation, axiom, sorry.
-/
import Derived.Test.YtdchpeifpiglmaaGreatDoorRows
import GoSem.ClaimSeven
namespace Go.Proofs.YtdchpeifpiglmaaGreatDoor
namespace Rows

/-- THE TIED CARD OF 'laws.FnExactWritesOf'. -/
def fnExactWritesOfCard : Claim7 := { stood := { row := fnExactWritesOfRow, standIns := [], harness := (true, "8e82b164a2d517d8862e366bb6f0a3ab04ec38210e59bb1a6364c296d517ba24"), looks := true }, kinds := [], alts := [], laidByText := true, laidKinds := [.data, .data, .data, .sentinel, .sentinel], laidTests := true, laidLooks := .later }
def FnExactWritesOfCardSaid : Prop := Claim7.holds Tryz.pinned (.plain (OpenSpec.ofChange fnExactWritesOfSpec)) fnExactWritesOfCard

/-- THE SECOND FORM's CARD OF 'laws.FnExactWritesOf'. -/
def fnExactWritesOfUptoCard : Claim7 := { stood := { row := fnExactWritesOfUptoRow, standIns := [], harness := (true, "8e82b164a2d517d8862e366bb6f0a3ab04ec38210e59bb1a6364c296d517ba24"), looks := true }, kinds := [], alts := [], laidByText := true, laidKinds := [.data, .data, .data, .sentinel, .sentinel], laidTests := true, laidLooks := .later }
def FnExactWritesOfUptoCardSaid : Prop := Claim7.holds Tryz.pinned (.plain (OpenSpec.upto fnExactWritesOfSpec)) fnExactWritesOfUptoCard
end Rows
end Go.Proofs.YtdchpeifpiglmaaGreatDoor
