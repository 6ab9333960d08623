/-
  DERIVED. GIVEN WITH THE SEED: THE CARDS: each row of YtnfoinmccigdfaaGreatDoorRows.lean that lists a variable, with what it lists TIED to the program's text (the seventh form; the later family's looks); each row that meets fmt, with fmt's text TOLD by the authors' own Lean function (tested against real Go, not proved from fmt's source: count such statements apart). THE CARD IS WHAT COUNTS. Prove the row's statement (the work); the ties are given (YtnfoinmccigdfaaGreatDoorTie.lean); close each card by the builder's one call (the guide's Derived/Test/ToyasCard.lean, 'card_holds'). Laid BY PROGRAM, IN A SANDBOX (cutbox-door.mjs). By AI agents, Wed Nov 11 2026. No macro, syntax, notation, axiom, sorry.
-/
import Derived.Test.YtnfoinmccigdfaaGreatDoorRows
import GoSem.ClaimSeven
namespace Go.Proofs.YtnfoinmccigdfaaGreatDoor
namespace Rows

/-- THE TIED CARD OF 'laws.FnExactParseSchema'. -/
def fnExactParseSchemaCard : Claim7 := { stood := { row := fnExactParseSchemaRow, standIns := [], harness := (true, "15278c7b0db5f75baf706f60b233cae29d0922bcde484467666ff07badfd7f0a"), looks := true }, kinds := [], alts := [], laidByText := true, laidKinds := [.data, .data, .data, .sentinel, .sentinel], laidTests := true, laidLooks := .later }
def FnExactParseSchemaCardSaid : Prop := Claim7.holds Tryz.pinned (.plain (OpenSpec.ofChange fnExactParseSchemaSpec)) fnExactParseSchemaCard

/-- THE SECOND FORM's CARD OF 'laws.FnExactParseSchema'. -/
def fnExactParseSchemaUptoCard : Claim7 := { stood := { row := fnExactParseSchemaUptoRow, standIns := [], harness := (true, "15278c7b0db5f75baf706f60b233cae29d0922bcde484467666ff07badfd7f0a"), looks := true }, kinds := [], alts := [], laidByText := true, laidKinds := [.data, .data, .data, .sentinel, .sentinel], laidTests := true, laidLooks := .later }
def FnExactParseSchemaUptoCardSaid : Prop := Claim7.holds Tryz.pinned (.plain (OpenSpec.upto fnExactParseSchemaSpec)) fnExactParseSchemaUptoCard
end Rows
end Go.Proofs.YtnfoinmccigdfaaGreatDoor
