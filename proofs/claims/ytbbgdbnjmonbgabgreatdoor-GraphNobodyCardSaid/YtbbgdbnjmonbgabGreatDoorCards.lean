/-
  DERIVED. GIVEN WITH THE SEED: THE CARDS: each row of YtbbgdbnjmonbgabGreatDoorRows.lean that lists a variable, with what it lists TIED to the program's text (the seventh form; the later family's looks); each row that meets fmt, with fmt's text TOLD by the authors' own Lean function (tested against real Go, not proved from fmt's source: count such statements apart). THE CARD IS WHAT COUNTS. Prove the row's statement (the work); the ties are given (YtbbgdbnjmonbgabGreatDoorTie.lean); close each card by the builder's one call (the guide's Derived/Test/ToyasCard.lean, 'card_holds'). Laid BY PROGRAM, IN A SANDBOX (cutbox-door.mjs). By AI agents, Wed Nov 11 2026. No macro, syntax, notation, axiom, sorry.
-/
import Derived.Test.YtbbgdbnjmonbgabGreatDoorRows
import GoSem.ClaimSeven
namespace Go.Proofs.YtbbgdbnjmonbgabGreatDoor
namespace Rows

/-- THE TIED CARD OF 'cobweblaw16.GraphNobody'. -/
def graphNobodyCard : Claim7 := { stood := { row := graphNobodyRow, standIns := [], harness := (true, "2dded5eb81f3e610a076af22daf8bfbfef43de91e8680d22526569124b5566ae"), looks := false }, kinds := [], alts := [], laidByText := true, laidKinds := [.data], laidTests := true, laidLooks := .later }
def GraphNobodyCardSaid : Prop := Claim7.holds Tryz.pinned (.plain (OpenSpec.ofChange graphNobodySpec)) graphNobodyCard

/-- THE SECOND FORM's CARD OF 'cobweblaw16.GraphNobody'. -/
def graphNobodyUptoCard : Claim7 := { stood := { row := graphNobodyUptoRow, standIns := [], harness := (true, "2dded5eb81f3e610a076af22daf8bfbfef43de91e8680d22526569124b5566ae"), looks := false }, kinds := [], alts := [], laidByText := true, laidKinds := [.data], laidTests := true, laidLooks := .later }
def GraphNobodyUptoCardSaid : Prop := Claim7.holds Tryz.pinned (.plain (OpenSpec.upto graphNobodySpec)) graphNobodyUptoCard
end Rows
end Go.Proofs.YtbbgdbnjmonbgabGreatDoor
