/-
  DERIVED. GIVEN WITH THE SEED: THE CARDS: each row of YthlijnfknejlnaaDoorRows.lean that lists a variable, with what it lists TIED to the program's text (the seventh form; the later family's looks); each row that meets fmt, with fmt's text TOLD by the authors' own Lean function (tested against real Go, not proved from fmt's source: count such statements apart). THE CARD IS WHAT COUNTS. Prove the row's statement (the work); the ties are given (YthlijnfknejlnaaDoorTie.lean); close each card by the builder's one call (the guide's Derived/Test/ToyasCard.lean, 'card_holds'). Laid BY PROGRAM, IN A SANDBOX (cutbox-door.mjs). By AI agents, Wed Nov 11 2026. No macro, syntax, notation, axiom, sorry.
-/
import Derived.Test.YthlijnfknejlnaaDoorRows
import GoSem.ClaimSeven
namespace Go.Proofs.YthlijnfknejlnaaDoor
namespace Rows

/-- THE TIED CARD OF 'laws.FnExactOutText'. -/
def fnExactOutTextCard : Claim7 := { stood := { row := fnExactOutTextRow, standIns := [], harness := (true, "2d7a9c72f918f4059af2d61b96982ad924eebc83e96c14ae3edc2f43a591fe12"), looks := true }, kinds := [], alts := [], laidByText := true, laidKinds := [.data, .data, .data], laidTests := true, laidLooks := .later }
def FnExactOutTextCardSaid : Prop := Claim7.holds Tryd.pinned (.plain (OpenSpec.ofChange fnExactOutTextSpec)) fnExactOutTextCard

/-- THE TIED CARD OF 'laws.FnExactErrorText'. -/
def fnExactErrorTextCard : Claim7 := { stood := { row := fnExactErrorTextRow, standIns := [], harness := (true, "2d7a9c72f918f4059af2d61b96982ad924eebc83e96c14ae3edc2f43a591fe12"), looks := true }, kinds := [], alts := [], laidByText := true, laidKinds := [.data], laidTests := true, laidLooks := .later }
def FnExactErrorTextCardSaid : Prop := Claim7.holds Tryd.pinned (.plain (OpenSpec.ofChange fnExactErrorTextSpec)) fnExactErrorTextCard

/-- THE SECOND FORM's CARD OF 'laws.FnExactOutText'. -/
def fnExactOutTextUptoCard : Claim7 := { stood := { row := fnExactOutTextUptoRow, standIns := [], harness := (true, "2d7a9c72f918f4059af2d61b96982ad924eebc83e96c14ae3edc2f43a591fe12"), looks := true }, kinds := [], alts := [], laidByText := true, laidKinds := [.data, .data, .data], laidTests := true, laidLooks := .later }
def FnExactOutTextUptoCardSaid : Prop := Claim7.holds Tryd.pinned (.plain (OpenSpec.upto fnExactOutTextSpec)) fnExactOutTextUptoCard

/-- THE SECOND FORM's CARD OF 'laws.FnExactErrorText'. -/
def fnExactErrorTextUptoCard : Claim7 := { stood := { row := fnExactErrorTextUptoRow, standIns := [], harness := (true, "2d7a9c72f918f4059af2d61b96982ad924eebc83e96c14ae3edc2f43a591fe12"), looks := true }, kinds := [], alts := [], laidByText := true, laidKinds := [.data], laidTests := true, laidLooks := .later }
def FnExactErrorTextUptoCardSaid : Prop := Claim7.holds Tryd.pinned (.plain (OpenSpec.upto fnExactErrorTextSpec)) fnExactErrorTextUptoCard
end Rows
end Go.Proofs.YthlijnfknejlnaaDoor
