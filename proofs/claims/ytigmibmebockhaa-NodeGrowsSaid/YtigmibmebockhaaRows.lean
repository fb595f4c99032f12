/-
  No cell of these rows narrows 'for every input' (looked for: loops, veiled, ifaces, maps, wideKeys, modest, calm, conditions, laid).
  DERIVED. THE GIVEN ROWS OF THIS SEAT. 6 by the template 'for every input the law returns true; each argument reads behind the call as it read before'; 0 by the template 'total and deterministic' (their statements: YtigmibmebockhaaTotals.lean).
  GIVEN WITH THE SEED: the statements are not yours to turn. If you find one false, say at which input.
  Laid BY PROGRAM, IN A SANDBOX (cutbox-rows.mjs): the forced cells as the released guide's own fill.sh prints them over the translation 1042b80a85c5619c… (all of the seat's roots in one cut). By AI agents, Wed Nov 11 2026. No macro, syntax, notation, axiom, sorry.
-/
import Derived.Test.YtigmibmebockhaaChecked
import GoSem.Claim
import GoSem.ClaimJoined
import GoSem.ClaimMapViews
import Derived.JoinedTies
import Derived.KernelRfl
namespace Go.Proofs.Ytigmibmebockhaa
/- THE CELL 'sum', in the pinned program and in every row, IS THE sha256 OF THE DUMP (.gsa) THAT YtigmibmebockhaaProg.lean LOADS. Nothing in Lean hashes anything: it is a label: what it is worth is what the hold of that sum in a sandbox is worth. -/
noncomputable def Try.pinned : Pinned := { name := "ytigmibmebockhaa", sum := "1042b80a85c5619c359bda3938deffa4e51f7ae3d78baf92bf78cc49ff6b16e2", checked := Try.checked }
namespace Rows
def none {H : Type} : Left H := { results := [], args := [] }

/-- 'cobweblaw11.NodeReads': WHATEVER THE INPUT: true; the input reads as it did. -/
def nodeReadsSpec : ChangeSpec := { name := "nodeReads", fn := fun _ => fun
  | [d1, d2] => { results := [.lit (.bool true)], args := [d1, d2] }
  | _ => none }
def nodeReadsRow : OpenClaim := { program := "ytigmibmebockhaa", sum := "1042b80a85c5619c359bda3938deffa4e51f7ae3d78baf92bf78cc49ff6b16e2", func := "cobweb/cobweblaw11.NodeReads", spec := "nodeReads", inPlace := ["internal/bytealg.Compare"], unfollowed := true, recurses := true, apart := false }
def NodeReadsSaid : Prop := nodeReadsRow.holds Try.pinned (OpenSpec.ofChange nodeReadsSpec)

/-- ITS FALSE NEIGHBOUR: 'it returns false'. Refute it at one input. -/
def nodeReadsWrong : ChangeSpec := { name := "nodeReads", fn := fun _ => fun
  | [d1, d2] => { results := [.lit (.bool false)], args := [d1, d2] }
  | _ => none }
def NodeReadsWrongFalsely : Prop := nodeReadsRow.holds Try.pinned (OpenSpec.ofChange nodeReadsWrong)

/-- 'cobweblaw11.NodeGrows': WHATEVER THE INPUT: true; the input reads as it did. -/
def nodeGrowsSpec : ChangeSpec := { name := "nodeGrows", fn := fun _ => fun
  | [d1, d2, d3] => { results := [.lit (.bool true)], args := [d1, d2, d3] }
  | _ => none }
def nodeGrowsRow : OpenClaim := { program := "ytigmibmebockhaa", sum := "1042b80a85c5619c359bda3938deffa4e51f7ae3d78baf92bf78cc49ff6b16e2", func := "cobweb/cobweblaw11.NodeGrows", spec := "nodeGrows", apart := false }
def NodeGrowsSaid : Prop := nodeGrowsRow.holds Try.pinned (OpenSpec.ofChange nodeGrowsSpec)

/-- ITS FALSE NEIGHBOUR: 'it returns false'. Refute it at one input. -/
def nodeGrowsWrong : ChangeSpec := { name := "nodeGrows", fn := fun _ => fun
  | [d1, d2, d3] => { results := [.lit (.bool false)], args := [d1, d2, d3] }
  | _ => none }
def NodeGrowsWrongFalsely : Prop := nodeGrowsRow.holds Try.pinned (OpenSpec.ofChange nodeGrowsWrong)

/-- 'cobweblaw12.ShareTells': WHATEVER THE INPUT: true; the input reads as it did. -/
def shareTellsSpec : ChangeSpec := { name := "shareTells", fn := fun _ => fun
  | [d1, d2, d3] => { results := [.lit (.bool true)], args := [d1, d2, d3] }
  | _ => none }
def shareTellsRow : OpenClaim := { program := "ytigmibmebockhaa", sum := "1042b80a85c5619c359bda3938deffa4e51f7ae3d78baf92bf78cc49ff6b16e2", func := "cobweb/cobweblaw12.ShareTells", spec := "shareTells", unfollowed := true, recurses := true, apart := false }
def ShareTellsSaid : Prop := shareTellsRow.holds Try.pinned (OpenSpec.ofChange shareTellsSpec)

/-- ITS FALSE NEIGHBOUR: 'it returns false'. Refute it at one input. -/
def shareTellsWrong : ChangeSpec := { name := "shareTells", fn := fun _ => fun
  | [d1, d2, d3] => { results := [.lit (.bool false)], args := [d1, d2, d3] }
  | _ => none }
def ShareTellsWrongFalsely : Prop := shareTellsRow.holds Try.pinned (OpenSpec.ofChange shareTellsWrong)

/-- 'cobweblaw12.ShareHalves': WHATEVER THE INPUT: true; the input reads as it did. -/
def shareHalvesSpec : ChangeSpec := { name := "shareHalves", fn := fun _ => fun
  | [d1, d2] => { results := [.lit (.bool true)], args := [d1, d2] }
  | _ => none }
def shareHalvesRow : OpenClaim := { program := "ytigmibmebockhaa", sum := "1042b80a85c5619c359bda3938deffa4e51f7ae3d78baf92bf78cc49ff6b16e2", func := "cobweb/cobweblaw12.ShareHalves", spec := "shareHalves", unfollowed := true, recurses := true, apart := false }
def ShareHalvesSaid : Prop := shareHalvesRow.holds Try.pinned (OpenSpec.ofChange shareHalvesSpec)

/-- ITS FALSE NEIGHBOUR: 'it returns false'. Refute it at one input. -/
def shareHalvesWrong : ChangeSpec := { name := "shareHalves", fn := fun _ => fun
  | [d1, d2] => { results := [.lit (.bool false)], args := [d1, d2] }
  | _ => none }
def ShareHalvesWrongFalsely : Prop := shareHalvesRow.holds Try.pinned (OpenSpec.ofChange shareHalvesWrong)

/-- 'cobweblaw12.ShareJoins': WHATEVER THE INPUT: true; the input reads as it did. -/
def shareJoinsSpec : ChangeSpec := { name := "shareJoins", fn := fun _ => fun
  | [d1, d2, d3] => { results := [.lit (.bool true)], args := [d1, d2, d3] }
  | _ => none }
def shareJoinsRow : OpenClaim := { program := "ytigmibmebockhaa", sum := "1042b80a85c5619c359bda3938deffa4e51f7ae3d78baf92bf78cc49ff6b16e2", func := "cobweb/cobweblaw12.ShareJoins", spec := "shareJoins", apart := false }
def ShareJoinsSaid : Prop := shareJoinsRow.holds Try.pinned (OpenSpec.ofChange shareJoinsSpec)

/-- ITS FALSE NEIGHBOUR: 'it returns false'. Refute it at one input. -/
def shareJoinsWrong : ChangeSpec := { name := "shareJoins", fn := fun _ => fun
  | [d1, d2, d3] => { results := [.lit (.bool false)], args := [d1, d2, d3] }
  | _ => none }
def ShareJoinsWrongFalsely : Prop := shareJoinsRow.holds Try.pinned (OpenSpec.ofChange shareJoinsWrong)

/-- 'cobweblaw12.ShareBetter': WHATEVER THE INPUT: true; the input reads as it did. -/
def shareBetterSpec : ChangeSpec := { name := "shareBetter", fn := fun _ => fun
  | [d1, d2] => { results := [.lit (.bool true)], args := [d1, d2] }
  | _ => none }
def shareBetterRow : OpenClaim := { program := "ytigmibmebockhaa", sum := "1042b80a85c5619c359bda3938deffa4e51f7ae3d78baf92bf78cc49ff6b16e2", func := "cobweb/cobweblaw12.ShareBetter", spec := "shareBetter", unfollowed := true, recurses := true, apart := false }
def ShareBetterSaid : Prop := shareBetterRow.holds Try.pinned (OpenSpec.ofChange shareBetterSpec)

/-- ITS FALSE NEIGHBOUR: 'it returns false'. Refute it at one input. -/
def shareBetterWrong : ChangeSpec := { name := "shareBetter", fn := fun _ => fun
  | [d1, d2] => { results := [.lit (.bool false)], args := [d1, d2] }
  | _ => none }
def ShareBetterWrongFalsely : Prop := shareBetterRow.holds Try.pinned (OpenSpec.ofChange shareBetterWrong)

/- THE SECOND FORM. 'bulk': how many values and letters a reading holds, each counted each time it is reached (what is shared counts as often as it is met; a slice's spare places count too). A statement '..UptoSaid' is the law's where the arguments, and the package variables that the reading takes, are together of bulk at most 1048576: NARROWER than '..Said'. Prove '..Said' where nothing that the law and all that it calls make is longer than what came in: it says more and counts as full. Else prove '..UptoSaid'. A law counts once. -/
mutual
def uptoBulk {H : Type} : DataW H → Nat
  | .lit (.string bytes) => bytes.length + 1
  | .lit _ => 1
  | .nil => 1
  | .ptr d => uptoBulk d + 1
  | .slice elems spare => uptoBulkAll elems + uptoBulkAll spare + 1
  | .agg parts => uptoBulkAll parts + 1
  | .iface _ d => uptoBulk d + 1
  | .map entries => uptoBulkEntries entries + 1
  | .held _ => 1
def uptoBulkAll {H : Type} : List (DataW H) → Nat
  | [] => 0
  | d :: r => uptoBulk d + uptoBulkAll r
def uptoBulkEntries {H : Type} : List (Lit × DataW H) → Nat
  | [] => 0
  | x :: r => uptoBulkEntry x + uptoBulkEntries r
def uptoBulkEntry {H : Type} : Lit × DataW H → Nat
  | (.string bytes, d) => bytes.length + uptoBulk d + 1
  | (_, d) => uptoBulk d + 1
 end
def uptoSmall : (H : Type) → List (DataW H) → Bool := fun _ ds => decide (uptoBulkAll ds ≤ 1048576)
def OpenSpec.upto (s : _root_.Go.ChangeSpec) : _root_.Go.OpenSpec := { _root_.Go.OpenSpec.ofChange s with cond := some uptoSmall }

/-- 'cobweblaw11.NodeReads', WHERE WHAT IT READS IS OF BULK AT MOST 1048576: true; the input reads as it did. -/
def nodeReadsUptoRow : OpenClaim := { program := "ytigmibmebockhaa", sum := "1042b80a85c5619c359bda3938deffa4e51f7ae3d78baf92bf78cc49ff6b16e2", func := "cobweb/cobweblaw11.NodeReads", spec := "nodeReads", inPlace := ["internal/bytealg.Compare"], unfollowed := true, recurses := true, apart := false, narrowed := true }
def NodeReadsUptoSaid : Prop := nodeReadsUptoRow.holds Try.pinned (OpenSpec.upto nodeReadsSpec)

/-- 'cobweblaw11.NodeGrows', WHERE WHAT IT READS IS OF BULK AT MOST 1048576: true; the input reads as it did. -/
def nodeGrowsUptoRow : OpenClaim := { program := "ytigmibmebockhaa", sum := "1042b80a85c5619c359bda3938deffa4e51f7ae3d78baf92bf78cc49ff6b16e2", func := "cobweb/cobweblaw11.NodeGrows", spec := "nodeGrows", apart := false, narrowed := true }
def NodeGrowsUptoSaid : Prop := nodeGrowsUptoRow.holds Try.pinned (OpenSpec.upto nodeGrowsSpec)

/-- 'cobweblaw12.ShareTells', WHERE WHAT IT READS IS OF BULK AT MOST 1048576: true; the input reads as it did. -/
def shareTellsUptoRow : OpenClaim := { program := "ytigmibmebockhaa", sum := "1042b80a85c5619c359bda3938deffa4e51f7ae3d78baf92bf78cc49ff6b16e2", func := "cobweb/cobweblaw12.ShareTells", spec := "shareTells", unfollowed := true, recurses := true, apart := false, narrowed := true }
def ShareTellsUptoSaid : Prop := shareTellsUptoRow.holds Try.pinned (OpenSpec.upto shareTellsSpec)

/-- 'cobweblaw12.ShareHalves', WHERE WHAT IT READS IS OF BULK AT MOST 1048576: true; the input reads as it did. -/
def shareHalvesUptoRow : OpenClaim := { program := "ytigmibmebockhaa", sum := "1042b80a85c5619c359bda3938deffa4e51f7ae3d78baf92bf78cc49ff6b16e2", func := "cobweb/cobweblaw12.ShareHalves", spec := "shareHalves", unfollowed := true, recurses := true, apart := false, narrowed := true }
def ShareHalvesUptoSaid : Prop := shareHalvesUptoRow.holds Try.pinned (OpenSpec.upto shareHalvesSpec)

/-- 'cobweblaw12.ShareJoins', WHERE WHAT IT READS IS OF BULK AT MOST 1048576: true; the input reads as it did. -/
def shareJoinsUptoRow : OpenClaim := { program := "ytigmibmebockhaa", sum := "1042b80a85c5619c359bda3938deffa4e51f7ae3d78baf92bf78cc49ff6b16e2", func := "cobweb/cobweblaw12.ShareJoins", spec := "shareJoins", apart := false, narrowed := true }
def ShareJoinsUptoSaid : Prop := shareJoinsUptoRow.holds Try.pinned (OpenSpec.upto shareJoinsSpec)

/-- 'cobweblaw12.ShareBetter', WHERE WHAT IT READS IS OF BULK AT MOST 1048576: true; the input reads as it did. -/
def shareBetterUptoRow : OpenClaim := { program := "ytigmibmebockhaa", sum := "1042b80a85c5619c359bda3938deffa4e51f7ae3d78baf92bf78cc49ff6b16e2", func := "cobweb/cobweblaw12.ShareBetter", spec := "shareBetter", unfollowed := true, recurses := true, apart := false, narrowed := true }
def ShareBetterUptoSaid : Prop := shareBetterUptoRow.holds Try.pinned (OpenSpec.upto shareBetterSpec)

end Rows
end Go.Proofs.Ytigmibmebockhaa
