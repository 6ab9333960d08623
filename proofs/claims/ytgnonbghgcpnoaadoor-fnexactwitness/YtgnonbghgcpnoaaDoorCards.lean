/-
  DERIVED. GIVEN WITH THE SEED: THE CARDS: each row of YtgnonbghgcpnoaaDoorRows.lean that lists a variable, with what it lists TIED to the program's text (the seventh form; the later family's looks); each row that meets fmt, with fmt's text TOLD by the authors' own Lean function (tested against real Go, not proved from fmt's source: count such statements apart). THE CARD IS WHAT COUNTS. Prove the row's statement (the work); the ties are given (YtgnonbghgcpnoaaDoorTie.lean); close each card by the builder's one call (the guide's Derived/Test/ToyasCard.lean, 'card_holds'). Laid BY PROGRAM, IN A SANDBOX (cutbox-door.mjs). By AI agents, Wed Nov 11 2026. No macro, syntax, notation, axiom, sorry.
-/
import Derived.Test.YtgnonbghgcpnoaaDoorRows
import GoSem.ClaimSeven
namespace Go.Proofs.YtgnonbghgcpnoaaDoor
namespace Rows

/-- THE TIED CARD OF 'laws.FnExactCommittedOf'. -/
def fnExactCommittedOfCard : Claim7 := { stood := { row := fnExactCommittedOfRow, standIns := [], harness := (true, "975907a7192785783465cc6ae4623ee3a8a558d8cd03f242c1f0ab853130161a"), looks := false }, kinds := [], alts := [], laidByText := true, laidKinds := [.data], laidTests := true, laidLooks := .later }
def FnExactCommittedOfCardSaid : Prop := Claim7.holds Tryd.pinned (.plain (OpenSpec.ofChange fnExactCommittedOfSpec)) fnExactCommittedOfCard

/-- THE TIED CARD OF 'laws.FnExactWitness'. -/
def fnExactWitnessCard : Claim7 := { stood := { row := fnExactWitnessRow, standIns := [], harness := (true, "975907a7192785783465cc6ae4623ee3a8a558d8cd03f242c1f0ab853130161a"), looks := false }, kinds := [], alts := [], laidByText := true, laidKinds := [.data], laidTests := true, laidLooks := .later }
def FnExactWitnessCardSaid : Prop := Claim7.holds Tryd.pinned (.plain (OpenSpec.ofChange fnExactWitnessSpec)) fnExactWitnessCard

/-- THE TIED CARD OF 'laws.FnExactRealTime'. -/
def fnExactRealTimeCard : Claim7 := { stood := { row := fnExactRealTimeRow, standIns := [], harness := (true, "975907a7192785783465cc6ae4623ee3a8a558d8cd03f242c1f0ab853130161a"), looks := false }, kinds := [], alts := [], laidByText := true, laidKinds := [.data], laidTests := true, laidLooks := .later }
def FnExactRealTimeCardSaid : Prop := Claim7.holds Tryd.pinned (.plain (OpenSpec.ofChange fnExactRealTimeSpec)) fnExactRealTimeCard

/-- THE SECOND FORM's CARD OF 'laws.FnExactCommittedOf'. -/
def fnExactCommittedOfUptoCard : Claim7 := { stood := { row := fnExactCommittedOfUptoRow, standIns := [], harness := (true, "975907a7192785783465cc6ae4623ee3a8a558d8cd03f242c1f0ab853130161a"), looks := false }, kinds := [], alts := [], laidByText := true, laidKinds := [.data], laidTests := true, laidLooks := .later }
def FnExactCommittedOfUptoCardSaid : Prop := Claim7.holds Tryd.pinned (.plain (OpenSpec.upto fnExactCommittedOfSpec)) fnExactCommittedOfUptoCard

/-- THE SECOND FORM's CARD OF 'laws.FnExactWitness'. -/
def fnExactWitnessUptoCard : Claim7 := { stood := { row := fnExactWitnessUptoRow, standIns := [], harness := (true, "975907a7192785783465cc6ae4623ee3a8a558d8cd03f242c1f0ab853130161a"), looks := false }, kinds := [], alts := [], laidByText := true, laidKinds := [.data], laidTests := true, laidLooks := .later }
def FnExactWitnessUptoCardSaid : Prop := Claim7.holds Tryd.pinned (.plain (OpenSpec.upto fnExactWitnessSpec)) fnExactWitnessUptoCard

/-- THE SECOND FORM's CARD OF 'laws.FnExactRealTime'. -/
def fnExactRealTimeUptoCard : Claim7 := { stood := { row := fnExactRealTimeUptoRow, standIns := [], harness := (true, "975907a7192785783465cc6ae4623ee3a8a558d8cd03f242c1f0ab853130161a"), looks := false }, kinds := [], alts := [], laidByText := true, laidKinds := [.data], laidTests := true, laidLooks := .later }
def FnExactRealTimeUptoCardSaid : Prop := Claim7.holds Tryd.pinned (.plain (OpenSpec.upto fnExactRealTimeSpec)) fnExactRealTimeUptoCard
end Rows
end Go.Proofs.YtgnonbghgcpnoaaDoor
