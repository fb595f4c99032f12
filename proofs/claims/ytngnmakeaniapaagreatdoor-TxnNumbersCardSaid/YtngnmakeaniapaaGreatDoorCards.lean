/-
  DERIVED. GIVEN WITH THE SEED: THE CARDS: each row of YtngnmakeaniapaaGreatDoorRows.lean that lists a variable, with what it lists TIED to the program's text (the seventh form; the later family's looks); each row that meets fmt, with fmt's text TOLD by the authors' own Lean function (tested against real Go, not proved from fmt's source: count such statements apart). THE CARD IS WHAT COUNTS. Prove the row's statement (the work); the ties are given (YtngnmakeaniapaaGreatDoorTie.lean); close each card by the builder's one call (the guide's Derived/Test/ToyasCard.lean, 'card_holds'). Laid BY PROGRAM, IN A SANDBOX (cutbox-door.mjs). By AI agents, Wed Nov 11 2026. No macro, syntax, notation, axiom, sorry.
-/
import Derived.Test.YtngnmakeaniapaaGreatDoorRows
import GoSem.ClaimSeven
namespace Go.Proofs.YtngnmakeaniapaaGreatDoor
namespace Rows

/-- THE TIED CARD OF 'cobweblaw15.TxnMeans'. -/
def txnMeansCard : Claim7 := { stood := { row := txnMeansRow, standIns := [], harness := (true, "b0a5551657a68ab3553854ae63109459ca680708daf8cd5d19df54b04c65e421"), looks := true }, kinds := [], alts := [], laidByText := true, laidKinds := [.data], laidTests := true, laidLooks := .later }
def TxnMeansCardSaid : Prop := Claim7.holds Tryz.pinned (.plain (OpenSpec.ofChange txnMeansSpec)) txnMeansCard

/-- THE TIED CARD OF 'cobweblaw15.TxnCrash'. -/
def txnCrashCard : Claim7 := { stood := { row := txnCrashRow, standIns := [], harness := (true, "b0a5551657a68ab3553854ae63109459ca680708daf8cd5d19df54b04c65e421"), looks := true }, kinds := [], alts := [], laidByText := true, laidKinds := [.data], laidTests := true, laidLooks := .later }
def TxnCrashCardSaid : Prop := Claim7.holds Tryz.pinned (.plain (OpenSpec.ofChange txnCrashSpec)) txnCrashCard

/-- THE TIED CARD OF 'cobweblaw15.TxnNobody'. -/
def txnNobodyCard : Claim7 := { stood := { row := txnNobodyRow, standIns := [], harness := (true, "b0a5551657a68ab3553854ae63109459ca680708daf8cd5d19df54b04c65e421"), looks := true }, kinds := [], alts := [], laidByText := true, laidKinds := [.data], laidTests := true, laidLooks := .later }
def TxnNobodyCardSaid : Prop := Claim7.holds Tryz.pinned (.plain (OpenSpec.ofChange txnNobodySpec)) txnNobodyCard

/-- THE TIED CARD OF 'cobweblaw15.TxnNumbers'. -/
def txnNumbersCard : Claim7 := { stood := { row := txnNumbersRow, standIns := [], harness := (true, "b0a5551657a68ab3553854ae63109459ca680708daf8cd5d19df54b04c65e421"), looks := true }, kinds := [], alts := [], laidByText := true, laidKinds := [.data], laidTests := true, laidLooks := .later }
def TxnNumbersCardSaid : Prop := Claim7.holds Tryz.pinned (.plain (OpenSpec.ofChange txnNumbersSpec)) txnNumbersCard

/-- THE TIED CARD OF 'cobweblaw15.TxnBacks'. -/
def txnBacksCard : Claim7 := { stood := { row := txnBacksRow, standIns := [], harness := (true, "b0a5551657a68ab3553854ae63109459ca680708daf8cd5d19df54b04c65e421"), looks := true }, kinds := [], alts := [], laidByText := true, laidKinds := [.data], laidTests := true, laidLooks := .later }
def TxnBacksCardSaid : Prop := Claim7.holds Tryz.pinned (.plain (OpenSpec.ofChange txnBacksSpec)) txnBacksCard

/-- THE TIED CARD OF 'cobweblaw15.TxnPins'. -/
def txnPinsCard : Claim7 := { stood := { row := txnPinsRow, standIns := [], harness := (true, "b0a5551657a68ab3553854ae63109459ca680708daf8cd5d19df54b04c65e421"), looks := true }, kinds := [], alts := [], laidByText := true, laidKinds := [.data], laidTests := true, laidLooks := .later }
def TxnPinsCardSaid : Prop := Claim7.holds Tryz.pinned (.plain (OpenSpec.ofChange txnPinsSpec)) txnPinsCard

/-- THE SECOND FORM's CARD OF 'cobweblaw15.TxnMeans'. -/
def txnMeansUptoCard : Claim7 := { stood := { row := txnMeansUptoRow, standIns := [], harness := (true, "b0a5551657a68ab3553854ae63109459ca680708daf8cd5d19df54b04c65e421"), looks := true }, kinds := [], alts := [], laidByText := true, laidKinds := [.data], laidTests := true, laidLooks := .later }
def TxnMeansUptoCardSaid : Prop := Claim7.holds Tryz.pinned (.plain (OpenSpec.upto txnMeansSpec)) txnMeansUptoCard

/-- THE SECOND FORM's CARD OF 'cobweblaw15.TxnCrash'. -/
def txnCrashUptoCard : Claim7 := { stood := { row := txnCrashUptoRow, standIns := [], harness := (true, "b0a5551657a68ab3553854ae63109459ca680708daf8cd5d19df54b04c65e421"), looks := true }, kinds := [], alts := [], laidByText := true, laidKinds := [.data], laidTests := true, laidLooks := .later }
def TxnCrashUptoCardSaid : Prop := Claim7.holds Tryz.pinned (.plain (OpenSpec.upto txnCrashSpec)) txnCrashUptoCard

/-- THE SECOND FORM's CARD OF 'cobweblaw15.TxnNobody'. -/
def txnNobodyUptoCard : Claim7 := { stood := { row := txnNobodyUptoRow, standIns := [], harness := (true, "b0a5551657a68ab3553854ae63109459ca680708daf8cd5d19df54b04c65e421"), looks := true }, kinds := [], alts := [], laidByText := true, laidKinds := [.data], laidTests := true, laidLooks := .later }
def TxnNobodyUptoCardSaid : Prop := Claim7.holds Tryz.pinned (.plain (OpenSpec.upto txnNobodySpec)) txnNobodyUptoCard

/-- THE SECOND FORM's CARD OF 'cobweblaw15.TxnNumbers'. -/
def txnNumbersUptoCard : Claim7 := { stood := { row := txnNumbersUptoRow, standIns := [], harness := (true, "b0a5551657a68ab3553854ae63109459ca680708daf8cd5d19df54b04c65e421"), looks := true }, kinds := [], alts := [], laidByText := true, laidKinds := [.data], laidTests := true, laidLooks := .later }
def TxnNumbersUptoCardSaid : Prop := Claim7.holds Tryz.pinned (.plain (OpenSpec.upto txnNumbersSpec)) txnNumbersUptoCard

/-- THE SECOND FORM's CARD OF 'cobweblaw15.TxnBacks'. -/
def txnBacksUptoCard : Claim7 := { stood := { row := txnBacksUptoRow, standIns := [], harness := (true, "b0a5551657a68ab3553854ae63109459ca680708daf8cd5d19df54b04c65e421"), looks := true }, kinds := [], alts := [], laidByText := true, laidKinds := [.data], laidTests := true, laidLooks := .later }
def TxnBacksUptoCardSaid : Prop := Claim7.holds Tryz.pinned (.plain (OpenSpec.upto txnBacksSpec)) txnBacksUptoCard

/-- THE SECOND FORM's CARD OF 'cobweblaw15.TxnPins'. -/
def txnPinsUptoCard : Claim7 := { stood := { row := txnPinsUptoRow, standIns := [], harness := (true, "b0a5551657a68ab3553854ae63109459ca680708daf8cd5d19df54b04c65e421"), looks := true }, kinds := [], alts := [], laidByText := true, laidKinds := [.data], laidTests := true, laidLooks := .later }
def TxnPinsUptoCardSaid : Prop := Claim7.holds Tryz.pinned (.plain (OpenSpec.upto txnPinsSpec)) txnPinsUptoCard
end Rows
end Go.Proofs.YtngnmakeaniapaaGreatDoor
