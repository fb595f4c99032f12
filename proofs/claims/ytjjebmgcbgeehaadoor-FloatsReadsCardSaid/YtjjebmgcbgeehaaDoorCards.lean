/-
  DERIVED. GIVEN WITH THE SEED: THE CARDS: each row of YtjjebmgcbgeehaaDoorRows.lean that lists a variable, with what it lists TIED to the program's text (the seventh form; the later family's looks); each row that meets fmt, with fmt's text TOLD by the authors' own Lean function (tested against real Go, not proved from fmt's source: count such statements apart). THE CARD IS WHAT COUNTS. Prove the row's statement (the work); the ties are given (YtjjebmgcbgeehaaDoorTie.lean); close each card by the builder's one call (the guide's Derived/Test/ToyasCard.lean, 'card_holds'). Laid BY PROGRAM, IN A SANDBOX (cutbox-door.mjs). By AI agents, Wed Nov 11 2026. No macro, syntax, notation, axiom, sorry.
-/
import Derived.Test.YtjjebmgcbgeehaaDoorRows
import GoSem.ClaimSeven
namespace Go.Proofs.YtjjebmgcbgeehaaDoor
namespace Rows

/-- THE TIED CARD OF 'cobweblaw02.FloatsTells'. -/
def floatsTellsCard : Claim7 := { stood := { row := floatsTellsRow, standIns := [], harness := (true, "449328b9bed3e5e199a5b6f10a7e914e1d7b17c26d3b1458a0b3526d6c509e73"), looks := false }, kinds := [], alts := [], laidByText := true, laidKinds := [.data], laidTests := true, laidLooks := .later }
def FloatsTellsCardSaid : Prop := Claim7.holds Tryd.pinned (.plain (OpenSpec.ofChange floatsTellsSpec)) floatsTellsCard

/-- THE TIED CARD OF 'cobweblaw02.FloatsReads'. -/
def floatsReadsCard : Claim7 := { stood := { row := floatsReadsRow, standIns := [], harness := (true, "449328b9bed3e5e199a5b6f10a7e914e1d7b17c26d3b1458a0b3526d6c509e73"), looks := false }, kinds := [], alts := [], laidByText := true, laidKinds := [.data], laidTests := true, laidLooks := .later }
def FloatsReadsCardSaid : Prop := Claim7.holds Tryd.pinned (.plain (OpenSpec.ofChange floatsReadsSpec)) floatsReadsCard

/-- THE TIED CARD OF 'cobweblaw02.FloatsHex'. -/
def floatsHexCard : Claim7 := { stood := { row := floatsHexRow, standIns := [], harness := (true, "449328b9bed3e5e199a5b6f10a7e914e1d7b17c26d3b1458a0b3526d6c509e73"), looks := false }, kinds := [], alts := [], laidByText := true, laidKinds := [.data], laidTests := true, laidLooks := .later }
def FloatsHexCardSaid : Prop := Claim7.holds Tryd.pinned (.plain (OpenSpec.ofChange floatsHexSpec)) floatsHexCard

/-- THE SECOND FORM's CARD OF 'cobweblaw02.FloatsTells'. -/
def floatsTellsUptoCard : Claim7 := { stood := { row := floatsTellsUptoRow, standIns := [], harness := (true, "449328b9bed3e5e199a5b6f10a7e914e1d7b17c26d3b1458a0b3526d6c509e73"), looks := false }, kinds := [], alts := [], laidByText := true, laidKinds := [.data], laidTests := true, laidLooks := .later }
def FloatsTellsUptoCardSaid : Prop := Claim7.holds Tryd.pinned (.plain (OpenSpec.upto floatsTellsSpec)) floatsTellsUptoCard

/-- THE SECOND FORM's CARD OF 'cobweblaw02.FloatsReads'. -/
def floatsReadsUptoCard : Claim7 := { stood := { row := floatsReadsUptoRow, standIns := [], harness := (true, "449328b9bed3e5e199a5b6f10a7e914e1d7b17c26d3b1458a0b3526d6c509e73"), looks := false }, kinds := [], alts := [], laidByText := true, laidKinds := [.data], laidTests := true, laidLooks := .later }
def FloatsReadsUptoCardSaid : Prop := Claim7.holds Tryd.pinned (.plain (OpenSpec.upto floatsReadsSpec)) floatsReadsUptoCard

/-- THE SECOND FORM's CARD OF 'cobweblaw02.FloatsHex'. -/
def floatsHexUptoCard : Claim7 := { stood := { row := floatsHexUptoRow, standIns := [], harness := (true, "449328b9bed3e5e199a5b6f10a7e914e1d7b17c26d3b1458a0b3526d6c509e73"), looks := false }, kinds := [], alts := [], laidByText := true, laidKinds := [.data], laidTests := true, laidLooks := .later }
def FloatsHexUptoCardSaid : Prop := Claim7.holds Tryd.pinned (.plain (OpenSpec.upto floatsHexSpec)) floatsHexUptoCard
end Rows
end Go.Proofs.YtjjebmgcbgeehaaDoor
