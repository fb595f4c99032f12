/-
  DERIVED. GIVEN WITH THE SEED: THE CARDS: each row of YtmlnpgbnbchbkaaDoorRows.lean that lists a variable, with what it lists TIED to the program's text (the seventh form; the later family's looks); each row that meets fmt, with fmt's text TOLD by the authors' own Lean function (tested against real Go, not proved from fmt's source: count such statements apart). THE CARD IS WHAT COUNTS. Prove the row's statement (the work); the ties are given (YtmlnpgbnbchbkaaDoorTie.lean); close each card by the builder's one call (the guide's Derived/Test/ToyasCard.lean, 'card_holds'). Laid BY PROGRAM, IN A SANDBOX (cutbox-door.mjs). By AI agents, Wed Nov 11 2026. No macro, syntax, notation, axiom, sorry.
-/
import Derived.Test.YtmlnpgbnbchbkaaDoorRows
import GoSem.ClaimSeven
namespace Go.Proofs.YtmlnpgbnbchbkaaDoor
namespace Rows

/-- THE TIED CARD OF 'cobweblaw10.PagerHolds'. -/
def pagerHoldsCard : Claim7 := { stood := { row := pagerHoldsRow, standIns := [], harness := (true, "fdcdc094307d0bbdcd5d92344a3b5a35546c9ba6f33d25ed7e9511908be977b7"), looks := true }, kinds := [], alts := [], laidByText := true, laidKinds := [.data], laidTests := true, laidLooks := .later }
def PagerHoldsCardSaid : Prop := Claim7.holds Tryd.pinned (.plain (OpenSpec.ofChange pagerHoldsSpec)) pagerHoldsCard

/-- THE SECOND FORM's CARD OF 'cobweblaw10.PagerHolds'. -/
def pagerHoldsUptoCard : Claim7 := { stood := { row := pagerHoldsUptoRow, standIns := [], harness := (true, "fdcdc094307d0bbdcd5d92344a3b5a35546c9ba6f33d25ed7e9511908be977b7"), looks := true }, kinds := [], alts := [], laidByText := true, laidKinds := [.data], laidTests := true, laidLooks := .later }
def PagerHoldsUptoCardSaid : Prop := Claim7.holds Tryd.pinned (.plain (OpenSpec.upto pagerHoldsSpec)) pagerHoldsUptoCard
end Rows
end Go.Proofs.YtmlnpgbnbchbkaaDoor
