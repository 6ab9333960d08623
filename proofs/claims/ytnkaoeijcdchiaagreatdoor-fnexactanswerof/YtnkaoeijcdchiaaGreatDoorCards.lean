/-
  DERIVED. GIVEN WITH THE SEED: THE CARDS: each row of YtnkaoeijcdchiaaGreatDoorRows.lean that lists a variable, with what it lists TIED to the program's text (the seventh form; the later family's looks); each row that meets fmt, with fmt's text TOLD by the authors' own Lean function (tested against real Go, not proved from fmt's source: count such statements apart). THE CARD IS WHAT COUNTS. Prove the row's statement (the work); the ties are given (YtnkaoeijcdchiaaGreatDoorTie.lean); close each card by the builder's one call (the guide's Derived/Test/ToyasCard.lean, 'card_holds'). Laid BY PROGRAM, IN A SANDBOX (cutbox-door.mjs). By AI agents, Wed Nov 11 2026. No macro, syntax, notation, axiom, sorry.
-/
import Derived.Test.YtnkaoeijcdchiaaGreatDoorRows
import GoSem.ClaimSeven
namespace Go.Proofs.YtnkaoeijcdchiaaGreatDoor
namespace Rows

/-- THE TIED CARD OF 'laws.FnExactAnswerOf'. -/
def fnExactAnswerOfCard : Claim7 := { stood := { row := fnExactAnswerOfRow, standIns := [], harness := (true, "d2b7afe25f3144c56d15d6bc6b44b222247e7d8b99ad40469190d88581c85ab0"), looks := true }, kinds := [], alts := [], laidByText := true, laidKinds := [.data, .data, .data, .sentinel, .sentinel], laidTests := true, laidLooks := .later }
def FnExactAnswerOfCardSaid : Prop := Claim7.holds Tryz.pinned (.plain (OpenSpec.ofChange fnExactAnswerOfSpec)) fnExactAnswerOfCard

/-- THE TIED CARD OF 'laws.FnExactWritesOf'. -/
def fnExactWritesOfCard : Claim7 := { stood := { row := fnExactWritesOfRow, standIns := [], harness := (true, "d2b7afe25f3144c56d15d6bc6b44b222247e7d8b99ad40469190d88581c85ab0"), looks := true }, kinds := [], alts := [], laidByText := true, laidKinds := [.data, .data, .data, .sentinel, .sentinel], laidTests := true, laidLooks := .later }
def FnExactWritesOfCardSaid : Prop := Claim7.holds Tryz.pinned (.plain (OpenSpec.ofChange fnExactWritesOfSpec)) fnExactWritesOfCard

/-- THE SECOND FORM's CARD OF 'laws.FnExactAnswerOf'. -/
def fnExactAnswerOfUptoCard : Claim7 := { stood := { row := fnExactAnswerOfUptoRow, standIns := [], harness := (true, "d2b7afe25f3144c56d15d6bc6b44b222247e7d8b99ad40469190d88581c85ab0"), looks := true }, kinds := [], alts := [], laidByText := true, laidKinds := [.data, .data, .data, .sentinel, .sentinel], laidTests := true, laidLooks := .later }
def FnExactAnswerOfUptoCardSaid : Prop := Claim7.holds Tryz.pinned (.plain (OpenSpec.upto fnExactAnswerOfSpec)) fnExactAnswerOfUptoCard

/-- THE SECOND FORM's CARD OF 'laws.FnExactWritesOf'. -/
def fnExactWritesOfUptoCard : Claim7 := { stood := { row := fnExactWritesOfUptoRow, standIns := [], harness := (true, "d2b7afe25f3144c56d15d6bc6b44b222247e7d8b99ad40469190d88581c85ab0"), looks := true }, kinds := [], alts := [], laidByText := true, laidKinds := [.data, .data, .data, .sentinel, .sentinel], laidTests := true, laidLooks := .later }
def FnExactWritesOfUptoCardSaid : Prop := Claim7.holds Tryz.pinned (.plain (OpenSpec.upto fnExactWritesOfSpec)) fnExactWritesOfUptoCard
end Rows
end Go.Proofs.YtnkaoeijcdchiaaGreatDoor
