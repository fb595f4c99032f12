/-
  DERIVED. GIVEN WITH THE SEED: THE CARDS: each row of YtpmiakcngjihnaaDoorRows.lean that lists a variable, with what it lists TIED to the program's text (the seventh form; the later family's looks); each row that meets fmt, with fmt's text TOLD by the authors' own Lean function (tested against real Go, not proved from fmt's source: count such statements apart). THE CARD IS WHAT COUNTS. Prove the row's statement (the work); the ties are given (YtpmiakcngjihnaaDoorTie.lean); close each card by the builder's one call (the guide's Derived/Test/ToyasCard.lean, 'card_holds'). Laid BY PROGRAM, IN A SANDBOX (cutbox-door.mjs). By AI agents, Wed Nov 11 2026. No macro, syntax, notation, axiom, sorry.
-/
import Derived.Test.YtpmiakcngjihnaaDoorRows
import GoSem.ClaimSeven
namespace Go.Proofs.YtpmiakcngjihnaaDoor
namespace Rows

/-- THE TIED CARD OF 'cobweblaw10.PagerHolds'. -/
def pagerHoldsCard : Claim7 := { stood := { row := pagerHoldsRow, standIns := [], harness := (true, "6923456433afffc2575af79398e96a191c6fcb3a2bec873f7c874831f3814fc3"), looks := true }, kinds := [], alts := [], laidByText := true, laidKinds := [.data], laidTests := true, laidLooks := .later }
def PagerHoldsCardSaid : Prop := Claim7.holds Tryd.pinned (.plain (OpenSpec.ofChange pagerHoldsSpec)) pagerHoldsCard

/-- THE TIED CARD OF 'cobweblaw10.PagerNobody'. -/
def pagerNobodyCard : Claim7 := { stood := { row := pagerNobodyRow, standIns := [], harness := (true, "6923456433afffc2575af79398e96a191c6fcb3a2bec873f7c874831f3814fc3"), looks := true }, kinds := [], alts := [], laidByText := true, laidKinds := [.data], laidTests := true, laidLooks := .later }
def PagerNobodyCardSaid : Prop := Claim7.holds Tryd.pinned (.plain (OpenSpec.ofChange pagerNobodySpec)) pagerNobodyCard

/-- THE TIED CARD OF 'cobweblaw10.PagerOpens'. -/
def pagerOpensCard : Claim7 := { stood := { row := pagerOpensRow, standIns := [], harness := (true, "6923456433afffc2575af79398e96a191c6fcb3a2bec873f7c874831f3814fc3"), looks := true }, kinds := [], alts := [], laidByText := true, laidKinds := [.data], laidTests := true, laidLooks := .later }
def PagerOpensCardSaid : Prop := Claim7.holds Tryd.pinned (.plain (OpenSpec.ofChange pagerOpensSpec)) pagerOpensCard

/-- THE TIED CARD OF 'cobweblaw10.PagerPins'. -/
def pagerPinsCard : Claim7 := { stood := { row := pagerPinsRow, standIns := [], harness := (true, "6923456433afffc2575af79398e96a191c6fcb3a2bec873f7c874831f3814fc3"), looks := true }, kinds := [], alts := [], laidByText := true, laidKinds := [.data], laidTests := true, laidLooks := .later }
def PagerPinsCardSaid : Prop := Claim7.holds Tryd.pinned (.plain (OpenSpec.ofChange pagerPinsSpec)) pagerPinsCard

/-- THE TIED CARD OF 'cobweblaw10.PagerAborts'. -/
def pagerAbortsCard : Claim7 := { stood := { row := pagerAbortsRow, standIns := [], harness := (true, "6923456433afffc2575af79398e96a191c6fcb3a2bec873f7c874831f3814fc3"), looks := true }, kinds := [], alts := [], laidByText := true, laidKinds := [.data], laidTests := true, laidLooks := .later }
def PagerAbortsCardSaid : Prop := Claim7.holds Tryd.pinned (.plain (OpenSpec.ofChange pagerAbortsSpec)) pagerAbortsCard

/-- THE SECOND FORM's CARD OF 'cobweblaw10.PagerHolds'. -/
def pagerHoldsUptoCard : Claim7 := { stood := { row := pagerHoldsUptoRow, standIns := [], harness := (true, "6923456433afffc2575af79398e96a191c6fcb3a2bec873f7c874831f3814fc3"), looks := true }, kinds := [], alts := [], laidByText := true, laidKinds := [.data], laidTests := true, laidLooks := .later }
def PagerHoldsUptoCardSaid : Prop := Claim7.holds Tryd.pinned (.plain (OpenSpec.upto pagerHoldsSpec)) pagerHoldsUptoCard

/-- THE SECOND FORM's CARD OF 'cobweblaw10.PagerNobody'. -/
def pagerNobodyUptoCard : Claim7 := { stood := { row := pagerNobodyUptoRow, standIns := [], harness := (true, "6923456433afffc2575af79398e96a191c6fcb3a2bec873f7c874831f3814fc3"), looks := true }, kinds := [], alts := [], laidByText := true, laidKinds := [.data], laidTests := true, laidLooks := .later }
def PagerNobodyUptoCardSaid : Prop := Claim7.holds Tryd.pinned (.plain (OpenSpec.upto pagerNobodySpec)) pagerNobodyUptoCard

/-- THE SECOND FORM's CARD OF 'cobweblaw10.PagerOpens'. -/
def pagerOpensUptoCard : Claim7 := { stood := { row := pagerOpensUptoRow, standIns := [], harness := (true, "6923456433afffc2575af79398e96a191c6fcb3a2bec873f7c874831f3814fc3"), looks := true }, kinds := [], alts := [], laidByText := true, laidKinds := [.data], laidTests := true, laidLooks := .later }
def PagerOpensUptoCardSaid : Prop := Claim7.holds Tryd.pinned (.plain (OpenSpec.upto pagerOpensSpec)) pagerOpensUptoCard

/-- THE SECOND FORM's CARD OF 'cobweblaw10.PagerPins'. -/
def pagerPinsUptoCard : Claim7 := { stood := { row := pagerPinsUptoRow, standIns := [], harness := (true, "6923456433afffc2575af79398e96a191c6fcb3a2bec873f7c874831f3814fc3"), looks := true }, kinds := [], alts := [], laidByText := true, laidKinds := [.data], laidTests := true, laidLooks := .later }
def PagerPinsUptoCardSaid : Prop := Claim7.holds Tryd.pinned (.plain (OpenSpec.upto pagerPinsSpec)) pagerPinsUptoCard

/-- THE SECOND FORM's CARD OF 'cobweblaw10.PagerAborts'. -/
def pagerAbortsUptoCard : Claim7 := { stood := { row := pagerAbortsUptoRow, standIns := [], harness := (true, "6923456433afffc2575af79398e96a191c6fcb3a2bec873f7c874831f3814fc3"), looks := true }, kinds := [], alts := [], laidByText := true, laidKinds := [.data], laidTests := true, laidLooks := .later }
def PagerAbortsUptoCardSaid : Prop := Claim7.holds Tryd.pinned (.plain (OpenSpec.upto pagerAbortsSpec)) pagerAbortsUptoCard
end Rows
end Go.Proofs.YtpmiakcngjihnaaDoor
