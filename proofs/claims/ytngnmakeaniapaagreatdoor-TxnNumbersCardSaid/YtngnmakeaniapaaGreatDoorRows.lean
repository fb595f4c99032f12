/-
  NARROWER THAN 'FOR EVERY INPUT', by the rows' own cells (each row's printed sentence says how): TxnMeans: laid · TxnCrash: laid · TxnNobody: laid · TxnNumbers: laid · TxnBacks: laid · TxnPins: laid.
  DERIVED. THE GIVEN ROWS OF THIS SEAT. 6 by the template 'for every input the law returns true; each argument reads behind the call as it read before'; 0 by the template 'total and deterministic' (their statements: YtngnmakeaniapaaGreatDoorTotals.lean).
  GIVEN WITH THE SEED: the statements are not yours to turn. If you find one false, say at which input.
  Laid BY PROGRAM, IN A SANDBOX (cutbox-rows.mjs): the forced cells as the released guide's own fill.sh prints them over the translation d1f37e6361cf04aa… (all of the seat's roots in one cut). By AI agents, Wed Nov 11 2026. No macro, syntax, notation, axiom, sorry.
-/
import Derived.Test.YtngnmakeaniapaaGreatDoorChecked
import GoSem.Claim
import GoSem.ClaimJoined
import GoSem.ClaimMapViews
import Derived.JoinedTies
import Derived.KernelRfl
namespace Go.Proofs.YtngnmakeaniapaaGreatDoor
/- THE CELL 'sum', in the pinned program and in every row, IS THE sha256 OF THE DUMP (.gsa) THAT YtngnmakeaniapaaGreatDoorProg.lean LOADS. Nothing in Lean hashes anything: it is a label: what it is worth is what the hold of that sum in a sandbox is worth. -/
noncomputable def Tryz.pinned : Pinned := { name := "ytngnmakeaniapaagreatdoor", sum := "d1f37e6361cf04aa813ac53e76c36ceeb4c5d5b9a13b80d5b42659742f1e43d5", checked := Tryz.checked }
namespace Rows
def none {H : Type} : Left H := { results := [], args := [] }

/- WHAT THE LISTED PACKAGE-LEVEL VARIABLES READ AS WHEN THE CALL BEGINS. Each datum BY PROGRAM (the guide's laid-datum.mjs) off the statement by which the dump's own 'gosem.cut.vars' lays the variable. In a bare row this is a premise. The card (YtngnmakeaniapaaGreatDoorCards.lean) ties it to the program's text. -/
def laid_cobweb_page_turns {H : Type} : DataW H := .agg [.lit (.int .u32 0), .lit (.int .u32 498536548), .lit (.int .u32 997073096), .lit (.int .u32 651767980), .lit (.int .u32 1994146192), .lit (.int .u32 1802195444), .lit (.int .u32 1303535960), .lit (.int .u32 1342533948), .lit (.int .u32 3988292384), .lit (.int .u32 4027552580), .lit (.int .u32 3604390888), .lit (.int .u32 3412177804), .lit (.int .u32 2607071920), .lit (.int .u32 2262029012), .lit (.int .u32 2685067896), .lit (.int .u32 3183342108)]

/-- 'cobweblaw15.TxnMeans': WHATEVER THE INPUT: true; the input reads as it did. -/
def txnMeansSpec : ChangeSpec := { name := "txnMeans", fn := fun _ => fun
  | [d] => { results := [.lit (.bool true)], args := [d] }
  | _ => none }
def txnMeansRow : OpenClaim := { program := "ytngnmakeaniapaagreatdoor", sum := "d1f37e6361cf04aa813ac53e76c36ceeb4c5d5b9a13b80d5b42659742f1e43d5", func := "cobweb/cobweblaw15.TxnMeans", spec := "txnMeans", inPlace := ["internal/bytealg.Compare"], unfollowed := true, recurses := true, named := ["cobweb/page.turns"], apart := false, laid := [("cobweb/page.turns", laid_cobweb_page_turns)] }
def TxnMeansSaid : Prop := txnMeansRow.holds Tryz.pinned (OpenSpec.ofChange txnMeansSpec)

/-- ITS FALSE NEIGHBOUR: 'it returns false'. Refute it at one input. -/
def txnMeansWrong : ChangeSpec := { name := "txnMeans", fn := fun _ => fun
  | [d] => { results := [.lit (.bool false)], args := [d] }
  | _ => none }
def TxnMeansWrongFalsely : Prop := txnMeansRow.holds Tryz.pinned (OpenSpec.ofChange txnMeansWrong)

/-- 'cobweblaw15.TxnCrash': WHATEVER THE INPUT: true; the input reads as it did. -/
def txnCrashSpec : ChangeSpec := { name := "txnCrash", fn := fun _ => fun
  | [d] => { results := [.lit (.bool true)], args := [d] }
  | _ => none }
def txnCrashRow : OpenClaim := { program := "ytngnmakeaniapaagreatdoor", sum := "d1f37e6361cf04aa813ac53e76c36ceeb4c5d5b9a13b80d5b42659742f1e43d5", func := "cobweb/cobweblaw15.TxnCrash", spec := "txnCrash", inPlace := ["internal/bytealg.Compare", "maps.clone"], unfollowed := true, recurses := true, named := ["cobweb/page.turns"], apart := false, laid := [("cobweb/page.turns", laid_cobweb_page_turns)] }
def TxnCrashSaid : Prop := txnCrashRow.holds Tryz.pinned (OpenSpec.ofChange txnCrashSpec)

/-- ITS FALSE NEIGHBOUR: 'it returns false'. Refute it at one input. -/
def txnCrashWrong : ChangeSpec := { name := "txnCrash", fn := fun _ => fun
  | [d] => { results := [.lit (.bool false)], args := [d] }
  | _ => none }
def TxnCrashWrongFalsely : Prop := txnCrashRow.holds Tryz.pinned (OpenSpec.ofChange txnCrashWrong)

/-- 'cobweblaw15.TxnNobody': WHATEVER THE INPUT: true; the input reads as it did. -/
def txnNobodySpec : ChangeSpec := { name := "txnNobody", fn := fun _ => fun
  | [d1, d2] => { results := [.lit (.bool true)], args := [d1, d2] }
  | _ => none }
def txnNobodyRow : OpenClaim := { program := "ytngnmakeaniapaagreatdoor", sum := "d1f37e6361cf04aa813ac53e76c36ceeb4c5d5b9a13b80d5b42659742f1e43d5", func := "cobweb/cobweblaw15.TxnNobody", spec := "txnNobody", inPlace := ["internal/bytealg.Compare"], unfollowed := true, recurses := true, named := ["cobweb/page.turns"], apart := false, laid := [("cobweb/page.turns", laid_cobweb_page_turns)] }
def TxnNobodySaid : Prop := txnNobodyRow.holds Tryz.pinned (OpenSpec.ofChange txnNobodySpec)

/-- ITS FALSE NEIGHBOUR: 'it returns false'. Refute it at one input. -/
def txnNobodyWrong : ChangeSpec := { name := "txnNobody", fn := fun _ => fun
  | [d1, d2] => { results := [.lit (.bool false)], args := [d1, d2] }
  | _ => none }
def TxnNobodyWrongFalsely : Prop := txnNobodyRow.holds Tryz.pinned (OpenSpec.ofChange txnNobodyWrong)

/-- 'cobweblaw15.TxnNumbers': WHATEVER THE INPUT: true; the input reads as it did. -/
def txnNumbersSpec : ChangeSpec := { name := "txnNumbers", fn := fun _ => fun
  | [d1, d2] => { results := [.lit (.bool true)], args := [d1, d2] }
  | _ => none }
def txnNumbersRow : OpenClaim := { program := "ytngnmakeaniapaagreatdoor", sum := "d1f37e6361cf04aa813ac53e76c36ceeb4c5d5b9a13b80d5b42659742f1e43d5", func := "cobweb/cobweblaw15.TxnNumbers", spec := "txnNumbers", inPlace := ["internal/bytealg.Compare"], unfollowed := true, recurses := true, named := ["cobweb/page.turns"], apart := false, laid := [("cobweb/page.turns", laid_cobweb_page_turns)] }
def TxnNumbersSaid : Prop := txnNumbersRow.holds Tryz.pinned (OpenSpec.ofChange txnNumbersSpec)

/-- ITS FALSE NEIGHBOUR: 'it returns false'. Refute it at one input. -/
def txnNumbersWrong : ChangeSpec := { name := "txnNumbers", fn := fun _ => fun
  | [d1, d2] => { results := [.lit (.bool false)], args := [d1, d2] }
  | _ => none }
def TxnNumbersWrongFalsely : Prop := txnNumbersRow.holds Tryz.pinned (OpenSpec.ofChange txnNumbersWrong)

/-- 'cobweblaw15.TxnBacks': WHATEVER THE INPUT: true; the input reads as it did. -/
def txnBacksSpec : ChangeSpec := { name := "txnBacks", fn := fun _ => fun
  | [d1, d2] => { results := [.lit (.bool true)], args := [d1, d2] }
  | _ => none }
def txnBacksRow : OpenClaim := { program := "ytngnmakeaniapaagreatdoor", sum := "d1f37e6361cf04aa813ac53e76c36ceeb4c5d5b9a13b80d5b42659742f1e43d5", func := "cobweb/cobweblaw15.TxnBacks", spec := "txnBacks", inPlace := ["internal/bytealg.Compare"], unfollowed := true, recurses := true, named := ["cobweb/page.turns"], apart := false, laid := [("cobweb/page.turns", laid_cobweb_page_turns)] }
def TxnBacksSaid : Prop := txnBacksRow.holds Tryz.pinned (OpenSpec.ofChange txnBacksSpec)

/-- ITS FALSE NEIGHBOUR: 'it returns false'. Refute it at one input. -/
def txnBacksWrong : ChangeSpec := { name := "txnBacks", fn := fun _ => fun
  | [d1, d2] => { results := [.lit (.bool false)], args := [d1, d2] }
  | _ => none }
def TxnBacksWrongFalsely : Prop := txnBacksRow.holds Tryz.pinned (OpenSpec.ofChange txnBacksWrong)

/-- 'cobweblaw15.TxnPins': WHATEVER THE INPUT: true; the input reads as it did. -/
def txnPinsSpec : ChangeSpec := { name := "txnPins", fn := fun _ => fun
  | [d1, d2] => { results := [.lit (.bool true)], args := [d1, d2] }
  | _ => none }
def txnPinsRow : OpenClaim := { program := "ytngnmakeaniapaagreatdoor", sum := "d1f37e6361cf04aa813ac53e76c36ceeb4c5d5b9a13b80d5b42659742f1e43d5", func := "cobweb/cobweblaw15.TxnPins", spec := "txnPins", inPlace := ["internal/bytealg.Compare"], unfollowed := true, recurses := true, named := ["cobweb/page.turns"], apart := false, laid := [("cobweb/page.turns", laid_cobweb_page_turns)] }
def TxnPinsSaid : Prop := txnPinsRow.holds Tryz.pinned (OpenSpec.ofChange txnPinsSpec)

/-- ITS FALSE NEIGHBOUR: 'it returns false'. Refute it at one input. -/
def txnPinsWrong : ChangeSpec := { name := "txnPins", fn := fun _ => fun
  | [d1, d2] => { results := [.lit (.bool false)], args := [d1, d2] }
  | _ => none }
def TxnPinsWrongFalsely : Prop := txnPinsRow.holds Tryz.pinned (OpenSpec.ofChange txnPinsWrong)

/- THE SECOND FORM. 'bulk': how many values and letters a reading holds, each counted each time it is reached (what is shared counts as often as it is met; a slice's spare places count too). A statement '..UptoSaid' is the law's where the arguments, and the package variables that the reading takes, are together of bulk at most 1048576: NARROWER than '..Said'. Prove '..Said' where nothing that the law and all that it calls make is longer than what came in: it says more and counts as full. Else prove '..UptoSaid'. A law counts once. -/
mutual
def uptoBulk {H : Type} : DataW H → Nat
  | .lit (.string bytes) => bytes.length + 1
  | .lit _ => 1
  | .nil => 1
  | .ptr d => uptoBulk d + 1
  | .slice elems spare => uptoBulkAll elems + uptoBulkAll spare + 1
  | .agg parts => uptoBulkAll parts + 1
  | .iface _ d => uptoBulk d + 1
  | .map entries => uptoBulkEntries entries + 1
  | .held _ => 1
def uptoBulkAll {H : Type} : List (DataW H) → Nat
  | [] => 0
  | d :: r => uptoBulk d + uptoBulkAll r
def uptoBulkEntries {H : Type} : List (Lit × DataW H) → Nat
  | [] => 0
  | x :: r => uptoBulkEntry x + uptoBulkEntries r
def uptoBulkEntry {H : Type} : Lit × DataW H → Nat
  | (.string bytes, d) => bytes.length + uptoBulk d + 1
  | (_, d) => uptoBulk d + 1
 end
def uptoSmall : (H : Type) → List (DataW H) → Bool := fun _ ds => decide (uptoBulkAll ds ≤ 1048576)
def OpenSpec.upto (s : _root_.Go.ChangeSpec) : _root_.Go.OpenSpec := { _root_.Go.OpenSpec.ofChange s with cond := some uptoSmall }

/-- 'cobweblaw15.TxnMeans', WHERE WHAT IT READS IS OF BULK AT MOST 1048576: true; the input reads as it did. -/
def txnMeansUptoRow : OpenClaim := { program := "ytngnmakeaniapaagreatdoor", sum := "d1f37e6361cf04aa813ac53e76c36ceeb4c5d5b9a13b80d5b42659742f1e43d5", func := "cobweb/cobweblaw15.TxnMeans", spec := "txnMeans", inPlace := ["internal/bytealg.Compare"], unfollowed := true, recurses := true, named := ["cobweb/page.turns"], apart := false, laid := [("cobweb/page.turns", laid_cobweb_page_turns)], narrowed := true }
def TxnMeansUptoSaid : Prop := txnMeansUptoRow.holds Tryz.pinned (OpenSpec.upto txnMeansSpec)

/-- 'cobweblaw15.TxnCrash', WHERE WHAT IT READS IS OF BULK AT MOST 1048576: true; the input reads as it did. -/
def txnCrashUptoRow : OpenClaim := { program := "ytngnmakeaniapaagreatdoor", sum := "d1f37e6361cf04aa813ac53e76c36ceeb4c5d5b9a13b80d5b42659742f1e43d5", func := "cobweb/cobweblaw15.TxnCrash", spec := "txnCrash", inPlace := ["internal/bytealg.Compare", "maps.clone"], unfollowed := true, recurses := true, named := ["cobweb/page.turns"], apart := false, laid := [("cobweb/page.turns", laid_cobweb_page_turns)], narrowed := true }
def TxnCrashUptoSaid : Prop := txnCrashUptoRow.holds Tryz.pinned (OpenSpec.upto txnCrashSpec)

/-- 'cobweblaw15.TxnNobody', WHERE WHAT IT READS IS OF BULK AT MOST 1048576: true; the input reads as it did. -/
def txnNobodyUptoRow : OpenClaim := { program := "ytngnmakeaniapaagreatdoor", sum := "d1f37e6361cf04aa813ac53e76c36ceeb4c5d5b9a13b80d5b42659742f1e43d5", func := "cobweb/cobweblaw15.TxnNobody", spec := "txnNobody", inPlace := ["internal/bytealg.Compare"], unfollowed := true, recurses := true, named := ["cobweb/page.turns"], apart := false, laid := [("cobweb/page.turns", laid_cobweb_page_turns)], narrowed := true }
def TxnNobodyUptoSaid : Prop := txnNobodyUptoRow.holds Tryz.pinned (OpenSpec.upto txnNobodySpec)

/-- 'cobweblaw15.TxnNumbers', WHERE WHAT IT READS IS OF BULK AT MOST 1048576: true; the input reads as it did. -/
def txnNumbersUptoRow : OpenClaim := { program := "ytngnmakeaniapaagreatdoor", sum := "d1f37e6361cf04aa813ac53e76c36ceeb4c5d5b9a13b80d5b42659742f1e43d5", func := "cobweb/cobweblaw15.TxnNumbers", spec := "txnNumbers", inPlace := ["internal/bytealg.Compare"], unfollowed := true, recurses := true, named := ["cobweb/page.turns"], apart := false, laid := [("cobweb/page.turns", laid_cobweb_page_turns)], narrowed := true }
def TxnNumbersUptoSaid : Prop := txnNumbersUptoRow.holds Tryz.pinned (OpenSpec.upto txnNumbersSpec)

/-- 'cobweblaw15.TxnBacks', WHERE WHAT IT READS IS OF BULK AT MOST 1048576: true; the input reads as it did. -/
def txnBacksUptoRow : OpenClaim := { program := "ytngnmakeaniapaagreatdoor", sum := "d1f37e6361cf04aa813ac53e76c36ceeb4c5d5b9a13b80d5b42659742f1e43d5", func := "cobweb/cobweblaw15.TxnBacks", spec := "txnBacks", inPlace := ["internal/bytealg.Compare"], unfollowed := true, recurses := true, named := ["cobweb/page.turns"], apart := false, laid := [("cobweb/page.turns", laid_cobweb_page_turns)], narrowed := true }
def TxnBacksUptoSaid : Prop := txnBacksUptoRow.holds Tryz.pinned (OpenSpec.upto txnBacksSpec)

/-- 'cobweblaw15.TxnPins', WHERE WHAT IT READS IS OF BULK AT MOST 1048576: true; the input reads as it did. -/
def txnPinsUptoRow : OpenClaim := { program := "ytngnmakeaniapaagreatdoor", sum := "d1f37e6361cf04aa813ac53e76c36ceeb4c5d5b9a13b80d5b42659742f1e43d5", func := "cobweb/cobweblaw15.TxnPins", spec := "txnPins", inPlace := ["internal/bytealg.Compare"], unfollowed := true, recurses := true, named := ["cobweb/page.turns"], apart := false, laid := [("cobweb/page.turns", laid_cobweb_page_turns)], narrowed := true }
def TxnPinsUptoSaid : Prop := txnPinsUptoRow.holds Tryz.pinned (OpenSpec.upto txnPinsSpec)

end Rows
end Go.Proofs.YtngnmakeaniapaaGreatDoor
