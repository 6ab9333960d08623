/-
  DERIVED. GIVEN WITH THE SEED: THE CARDS: each row of YtlilfbcngncllaaGreatDoorRows.lean that lists a variable, with what it lists TIED to the program's text (the seventh form; the later family's looks); each row that meets fmt, with fmt's text TOLD by the authors' own Lean function (tested against real Go, not proved from fmt's source: count such statements apart). THE CARD IS WHAT COUNTS. Prove the row's statement (the work); the ties are given (YtlilfbcngncllaaGreatDoorTie.lean); close each card by the builder's one call (the guide's Derived/Test/ToyasCard.lean, 'card_holds'). Laid BY PROGRAM, IN A SANDBOX (cutbox-door.mjs). By AI agents, Wed Nov 11 2026. No macro, syntax, notation, axiom, sorry.
-/
import Derived.Test.YtlilfbcngncllaaGreatDoorRows
import GoSem.ClaimSeven
namespace Go.Proofs.YtlilfbcngncllaaGreatDoor
namespace Rows

/-- THE TIED CARD OF 'laws.FnExactParseDoc'. -/
def fnExactParseDocCard : Claim7 := { stood := { row := fnExactParseDocRow, standIns := [], harness := (true, "e005b77d6baca1887096e67d08560af59188cd09de4bec97a4487d27245e0b2c"), looks := true }, kinds := [], alts := [], laidByText := true, laidKinds := [.data, .data, .data, .sentinel, .sentinel], laidTests := true, laidLooks := .later }
def FnExactParseDocCardSaid : Prop := Claim7.holds Tryz.pinned (.plain (OpenSpec.ofChange fnExactParseDocSpec)) fnExactParseDocCard

/-- THE SECOND FORM's CARD OF 'laws.FnExactParseDoc'. -/
def fnExactParseDocUptoCard : Claim7 := { stood := { row := fnExactParseDocUptoRow, standIns := [], harness := (true, "e005b77d6baca1887096e67d08560af59188cd09de4bec97a4487d27245e0b2c"), looks := true }, kinds := [], alts := [], laidByText := true, laidKinds := [.data, .data, .data, .sentinel, .sentinel], laidTests := true, laidLooks := .later }
def FnExactParseDocUptoCardSaid : Prop := Claim7.holds Tryz.pinned (.plain (OpenSpec.upto fnExactParseDocSpec)) fnExactParseDocUptoCard
end Rows
end Go.Proofs.YtlilfbcngncllaaGreatDoor
