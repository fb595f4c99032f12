/-
  No cell of these rows narrows 'for every input' (looked for: loops, veiled, ifaces, maps, wideKeys, modest, calm, conditions, laid).
  DERIVED. THE GIVEN ROWS OF THIS SEAT. 3 by the template 'for every input the law returns true; each argument reads behind the call as it read before'; 0 by the template 'total and deterministic' (their statements: YtgfdihnpenipjaaTotals.lean).
  GIVEN WITH THE SEED: the statements are not yours to turn. If you find one false, say at which input.
  Laid BY PROGRAM, IN A SANDBOX (cutbox-rows.mjs): the forced cells as the released guide's own fill.sh prints them over the translation 6af181601d59b16c… (all of the seat's roots in one cut). By AI agents, Wed Nov 11 2026. No macro, syntax, notation, axiom, sorry.
-/
import Derived.Test.YtgfdihnpenipjaaChecked
import GoSem.Claim
import GoSem.ClaimJoined
import GoSem.ClaimMapViews
import Derived.JoinedTies
import Derived.KernelRfl
namespace Go.Proofs.Ytgfdihnpenipjaa
/- THE CELL 'sum', in the pinned program and in every row, IS THE sha256 OF THE DUMP (.gsa) THAT YtgfdihnpenipjaaProg.lean LOADS. Nothing in Lean hashes anything: it is a label: what it is worth is what the hold of that sum in a sandbox is worth. -/
noncomputable def Try.pinned : Pinned := { name := "ytgfdihnpenipjaa", sum := "6af181601d59b16c9602a0ed008d9b8ede741ace0525c6b14119689c843e48b9", checked := Try.checked }
namespace Rows
def none {H : Type} : Left H := { results := [], args := [] }

/-- 'cobweblaw14.ForestTells': WHATEVER THE INPUT: true; the input reads as it did. -/
def forestTellsSpec : ChangeSpec := { name := "forestTells", fn := fun _ => fun
  | [d1, d2, d3] => { results := [.lit (.bool true)], args := [d1, d2, d3] }
  | _ => none }
def forestTellsRow : OpenClaim := { program := "ytgfdihnpenipjaa", sum := "6af181601d59b16c9602a0ed008d9b8ede741ace0525c6b14119689c843e48b9", func := "cobweb/cobweblaw14.ForestTells", spec := "forestTells", apart := false }
def ForestTellsSaid : Prop := forestTellsRow.holds Try.pinned (OpenSpec.ofChange forestTellsSpec)

/-- ITS FALSE NEIGHBOUR: 'it returns false'. Refute it at one input. -/
def forestTellsWrong : ChangeSpec := { name := "forestTells", fn := fun _ => fun
  | [d1, d2, d3] => { results := [.lit (.bool false)], args := [d1, d2, d3] }
  | _ => none }
def ForestTellsWrongFalsely : Prop := forestTellsRow.holds Try.pinned (OpenSpec.ofChange forestTellsWrong)

/-- 'cobweblaw14.ForestApart': WHATEVER THE INPUT: true; the input reads as it did. -/
def forestApartSpec : ChangeSpec := { name := "forestApart", fn := fun _ => fun
  | [d1, d2, d3] => { results := [.lit (.bool true)], args := [d1, d2, d3] }
  | _ => none }
def forestApartRow : OpenClaim := { program := "ytgfdihnpenipjaa", sum := "6af181601d59b16c9602a0ed008d9b8ede741ace0525c6b14119689c843e48b9", func := "cobweb/cobweblaw14.ForestApart", spec := "forestApart", unfollowed := true, recurses := true, apart := false }
def ForestApartSaid : Prop := forestApartRow.holds Try.pinned (OpenSpec.ofChange forestApartSpec)

/-- ITS FALSE NEIGHBOUR: 'it returns false'. Refute it at one input. -/
def forestApartWrong : ChangeSpec := { name := "forestApart", fn := fun _ => fun
  | [d1, d2, d3] => { results := [.lit (.bool false)], args := [d1, d2, d3] }
  | _ => none }
def ForestApartWrongFalsely : Prop := forestApartRow.holds Try.pinned (OpenSpec.ofChange forestApartWrong)

/-- 'cobweblaw14.ForestNames': WHATEVER THE INPUT: true; the input reads as it did. -/
def forestNamesSpec : ChangeSpec := { name := "forestNames", fn := fun _ => fun
  | [d1, d2, d3] => { results := [.lit (.bool true)], args := [d1, d2, d3] }
  | _ => none }
def forestNamesRow : OpenClaim := { program := "ytgfdihnpenipjaa", sum := "6af181601d59b16c9602a0ed008d9b8ede741ace0525c6b14119689c843e48b9", func := "cobweb/cobweblaw14.ForestNames", spec := "forestNames", apart := false }
def ForestNamesSaid : Prop := forestNamesRow.holds Try.pinned (OpenSpec.ofChange forestNamesSpec)

/-- ITS FALSE NEIGHBOUR: 'it returns false'. Refute it at one input. -/
def forestNamesWrong : ChangeSpec := { name := "forestNames", fn := fun _ => fun
  | [d1, d2, d3] => { results := [.lit (.bool false)], args := [d1, d2, d3] }
  | _ => none }
def ForestNamesWrongFalsely : Prop := forestNamesRow.holds Try.pinned (OpenSpec.ofChange forestNamesWrong)

/- THE SECOND FORM. 'bulk': how many values and letters a reading holds, each counted each time it is reached (what is shared counts as often as it is met; a slice's spare places count too). A statement '..UptoSaid' is the law's where the arguments, and the package variables that the reading takes, are together of bulk at most 1048576: NARROWER than '..Said'. Prove '..Said' where nothing that the law and all that it calls make is longer than what came in: it says more and counts as full. Else prove '..UptoSaid'. A law counts once. -/
mutual
def uptoBulk {H : Type} : DataW H → Nat
  | .lit (.string bytes) => bytes.length + 1
  | .lit _ => 1
  | .nil => 1
  | .ptr d => uptoBulk d + 1
  | .slice elems spare => uptoBulkAll elems + uptoBulkAll spare + 1
  | .agg parts => uptoBulkAll parts + 1
  | .iface _ d => uptoBulk d + 1
  | .map entries => uptoBulkEntries entries + 1
  | .held _ => 1
def uptoBulkAll {H : Type} : List (DataW H) → Nat
  | [] => 0
  | d :: r => uptoBulk d + uptoBulkAll r
def uptoBulkEntries {H : Type} : List (Lit × DataW H) → Nat
  | [] => 0
  | x :: r => uptoBulkEntry x + uptoBulkEntries r
def uptoBulkEntry {H : Type} : Lit × DataW H → Nat
  | (.string bytes, d) => bytes.length + uptoBulk d + 1
  | (_, d) => uptoBulk d + 1
 end
def uptoSmall : (H : Type) → List (DataW H) → Bool := fun _ ds => decide (uptoBulkAll ds ≤ 1048576)
def OpenSpec.upto (s : _root_.Go.ChangeSpec) : _root_.Go.OpenSpec := { _root_.Go.OpenSpec.ofChange s with cond := some uptoSmall }

/-- 'cobweblaw14.ForestTells', WHERE WHAT IT READS IS OF BULK AT MOST 1048576: true; the input reads as it did. -/
def forestTellsUptoRow : OpenClaim := { program := "ytgfdihnpenipjaa", sum := "6af181601d59b16c9602a0ed008d9b8ede741ace0525c6b14119689c843e48b9", func := "cobweb/cobweblaw14.ForestTells", spec := "forestTells", apart := false, narrowed := true }
def ForestTellsUptoSaid : Prop := forestTellsUptoRow.holds Try.pinned (OpenSpec.upto forestTellsSpec)

/-- 'cobweblaw14.ForestApart', WHERE WHAT IT READS IS OF BULK AT MOST 1048576: true; the input reads as it did. -/
def forestApartUptoRow : OpenClaim := { program := "ytgfdihnpenipjaa", sum := "6af181601d59b16c9602a0ed008d9b8ede741ace0525c6b14119689c843e48b9", func := "cobweb/cobweblaw14.ForestApart", spec := "forestApart", unfollowed := true, recurses := true, apart := false, narrowed := true }
def ForestApartUptoSaid : Prop := forestApartUptoRow.holds Try.pinned (OpenSpec.upto forestApartSpec)

/-- 'cobweblaw14.ForestNames', WHERE WHAT IT READS IS OF BULK AT MOST 1048576: true; the input reads as it did. -/
def forestNamesUptoRow : OpenClaim := { program := "ytgfdihnpenipjaa", sum := "6af181601d59b16c9602a0ed008d9b8ede741ace0525c6b14119689c843e48b9", func := "cobweb/cobweblaw14.ForestNames", spec := "forestNames", apart := false, narrowed := true }
def ForestNamesUptoSaid : Prop := forestNamesUptoRow.holds Try.pinned (OpenSpec.upto forestNamesSpec)

end Rows
end Go.Proofs.Ytgfdihnpenipjaa
