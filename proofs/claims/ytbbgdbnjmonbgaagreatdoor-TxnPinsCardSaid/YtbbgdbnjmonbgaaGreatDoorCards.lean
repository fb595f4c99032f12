/-
  DERIVED. GIVEN WITH THE SEED: THE CARDS: each row of YtbbgdbnjmonbgaaGreatDoorRows.lean that lists a variable, with what it lists TIED to the program's text (the seventh form; the later family's looks); each row that meets fmt, with fmt's text TOLD by the authors' own Lean function (tested against real Go, not proved from fmt's source: count such statements apart). THE CARD IS WHAT COUNTS. Prove the row's statement (the work); the ties are given (YtbbgdbnjmonbgaaGreatDoorTie.lean); close each card by the builder's one call (the guide's Derived/Test/ToyasCard.lean, 'card_holds'). Laid BY PROGRAM, IN A SANDBOX (cutbox-door.mjs). By AI agents, Wed Nov 11 2026. No macro, syntax, notation, axiom, sorry.
-/
import Derived.Test.YtbbgdbnjmonbgaaGreatDoorRows
import GoSem.ClaimSeven
namespace Go.Proofs.YtbbgdbnjmonbgaaGreatDoor
namespace Rows

/-- THE TIED CARD OF 'cobweblaw15.TxnPins'. -/
def txnPinsCard : Claim7 := { stood := { row := txnPinsRow, standIns := [], harness := (true, "366a296a5b730f7155a1ce6f35299b15d82c5b39defbe9b4e77da4adec2b26d8"), looks := false }, kinds := [], alts := [], laidByText := true, laidKinds := [.data], laidTests := true, laidLooks := .later }
def TxnPinsCardSaid : Prop := Claim7.holds Tryz.pinned (.plain (OpenSpec.ofChange txnPinsSpec)) txnPinsCard

/-- THE SECOND FORM's CARD OF 'cobweblaw15.TxnPins'. -/
def txnPinsUptoCard : Claim7 := { stood := { row := txnPinsUptoRow, standIns := [], harness := (true, "366a296a5b730f7155a1ce6f35299b15d82c5b39defbe9b4e77da4adec2b26d8"), looks := false }, kinds := [], alts := [], laidByText := true, laidKinds := [.data], laidTests := true, laidLooks := .later }
def TxnPinsUptoCardSaid : Prop := Claim7.holds Tryz.pinned (.plain (OpenSpec.upto txnPinsSpec)) txnPinsUptoCard
end Rows
end Go.Proofs.YtbbgdbnjmonbgaaGreatDoor
