/-
  DERIVED. GIVEN WITH THE SEED: THE CARDS: each row of YtpklapgcdilghaaDoorRows.lean that lists a variable, with what it lists TIED to the program's text (the seventh form; the later family's looks); each row that meets fmt, with fmt's text TOLD by the authors' own Lean function (tested against real Go, not proved from fmt's source: count such statements apart). THE CARD IS WHAT COUNTS. Prove the row's statement (the work); the ties are given (YtpklapgcdilghaaDoorTie.lean); close each card by the builder's one call (the guide's Derived/Test/ToyasCard.lean, 'card_holds'). Laid BY PROGRAM, IN A SANDBOX (cutbox-door.mjs). By AI agents, Wed Nov 11 2026. No macro, syntax, notation, axiom, sorry.
-/
import Derived.Test.YtpklapgcdilghaaDoorRows
import GoSem.ClaimSeven
namespace Go.Proofs.YtpklapgcdilghaaDoor
namespace Rows

/-- THE TIED CARD OF 'cobweblaw08.MetaTells'. -/
def metaTellsCard : Claim7 := { stood := { row := metaTellsRow, standIns := [], harness := (true, "72eea7a654f4d71e2a290f415ce46e37e9bc32e2214bf6f0ccb2577df654d1d0"), looks := false }, kinds := [], alts := [], laidByText := true, laidKinds := [.data], laidTests := true, laidLooks := .later }
def MetaTellsCardSaid : Prop := Claim7.holds Tryd.pinned (.plain (OpenSpec.ofChange metaTellsSpec)) metaTellsCard

/-- THE TIED CARD OF 'cobweblaw08.MetaNewest'. -/
def metaNewestCard : Claim7 := { stood := { row := metaNewestRow, standIns := [], harness := (true, "72eea7a654f4d71e2a290f415ce46e37e9bc32e2214bf6f0ccb2577df654d1d0"), looks := false }, kinds := [], alts := [], laidByText := true, laidKinds := [.data], laidTests := true, laidLooks := .later }
def MetaNewestCardSaid : Prop := Claim7.holds Tryd.pinned (.plain (OpenSpec.ofChange metaNewestSpec)) metaNewestCard

/-- THE TIED CARD OF 'cobweblaw08.MetaTorn'. -/
def metaTornCard : Claim7 := { stood := { row := metaTornRow, standIns := [], harness := (true, "72eea7a654f4d71e2a290f415ce46e37e9bc32e2214bf6f0ccb2577df654d1d0"), looks := false }, kinds := [], alts := [], laidByText := true, laidKinds := [.data], laidTests := true, laidLooks := .later }
def MetaTornCardSaid : Prop := Claim7.holds Tryd.pinned (.plain (OpenSpec.ofChange metaTornSpec)) metaTornCard

/-- THE TIED CARD OF 'cobweblaw08.MetaRises'. -/
def metaRisesCard : Claim7 := { stood := { row := metaRisesRow, standIns := [], harness := (true, "72eea7a654f4d71e2a290f415ce46e37e9bc32e2214bf6f0ccb2577df654d1d0"), looks := false }, kinds := [], alts := [], laidByText := true, laidKinds := [.data], laidTests := true, laidLooks := .later }
def MetaRisesCardSaid : Prop := Claim7.holds Tryd.pinned (.plain (OpenSpec.ofChange metaRisesSpec)) metaRisesCard

/-- THE SECOND FORM's CARD OF 'cobweblaw08.MetaTells'. -/
def metaTellsUptoCard : Claim7 := { stood := { row := metaTellsUptoRow, standIns := [], harness := (true, "72eea7a654f4d71e2a290f415ce46e37e9bc32e2214bf6f0ccb2577df654d1d0"), looks := false }, kinds := [], alts := [], laidByText := true, laidKinds := [.data], laidTests := true, laidLooks := .later }
def MetaTellsUptoCardSaid : Prop := Claim7.holds Tryd.pinned (.plain (OpenSpec.upto metaTellsSpec)) metaTellsUptoCard

/-- THE SECOND FORM's CARD OF 'cobweblaw08.MetaNewest'. -/
def metaNewestUptoCard : Claim7 := { stood := { row := metaNewestUptoRow, standIns := [], harness := (true, "72eea7a654f4d71e2a290f415ce46e37e9bc32e2214bf6f0ccb2577df654d1d0"), looks := false }, kinds := [], alts := [], laidByText := true, laidKinds := [.data], laidTests := true, laidLooks := .later }
def MetaNewestUptoCardSaid : Prop := Claim7.holds Tryd.pinned (.plain (OpenSpec.upto metaNewestSpec)) metaNewestUptoCard

/-- THE SECOND FORM's CARD OF 'cobweblaw08.MetaTorn'. -/
def metaTornUptoCard : Claim7 := { stood := { row := metaTornUptoRow, standIns := [], harness := (true, "72eea7a654f4d71e2a290f415ce46e37e9bc32e2214bf6f0ccb2577df654d1d0"), looks := false }, kinds := [], alts := [], laidByText := true, laidKinds := [.data], laidTests := true, laidLooks := .later }
def MetaTornUptoCardSaid : Prop := Claim7.holds Tryd.pinned (.plain (OpenSpec.upto metaTornSpec)) metaTornUptoCard

/-- THE SECOND FORM's CARD OF 'cobweblaw08.MetaRises'. -/
def metaRisesUptoCard : Claim7 := { stood := { row := metaRisesUptoRow, standIns := [], harness := (true, "72eea7a654f4d71e2a290f415ce46e37e9bc32e2214bf6f0ccb2577df654d1d0"), looks := false }, kinds := [], alts := [], laidByText := true, laidKinds := [.data], laidTests := true, laidLooks := .later }
def MetaRisesUptoCardSaid : Prop := Claim7.holds Tryd.pinned (.plain (OpenSpec.upto metaRisesSpec)) metaRisesUptoCard
end Rows
end Go.Proofs.YtpklapgcdilghaaDoor
