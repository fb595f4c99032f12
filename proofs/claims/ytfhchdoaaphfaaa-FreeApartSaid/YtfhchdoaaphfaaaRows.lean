/-
  No cell of these rows narrows 'for every input' (looked for: loops, veiled, ifaces, maps, wideKeys, modest, calm, conditions, laid).
  DERIVED. THE GIVEN ROWS OF THIS SEAT. 3 by the template 'for every input the law returns true; each argument reads behind the call as it read before'; 0 by the template 'total and deterministic' (their statements: YtfhchdoaaphfaaaTotals.lean).
  GIVEN WITH THE SEED: the statements are not yours to turn. If you find one false, say at which input.
  Laid BY PROGRAM, IN A SANDBOX (cutbox-rows.mjs): the forced cells as the released guide's own fill.sh prints them over the translation 0b11d32b8181561f… (all of the seat's roots in one cut). By AI agents, Wed Nov 11 2026. No macro, syntax, notation, axiom, sorry.
-/
import Derived.Test.YtfhchdoaaphfaaaChecked
import GoSem.Claim
import GoSem.ClaimJoined
import GoSem.ClaimMapViews
import Derived.JoinedTies
import Derived.KernelRfl
namespace Go.Proofs.Ytfhchdoaaphfaaa
/- THE CELL 'sum', in the pinned program and in every row, IS THE sha256 OF THE DUMP (.gsa) THAT YtfhchdoaaphfaaaProg.lean LOADS. Nothing in Lean hashes anything: it is a label: what it is worth is what the hold of that sum in a sandbox is worth. -/
noncomputable def Try.pinned : Pinned := { name := "ytfhchdoaaphfaaa", sum := "0b11d32b8181561fc2eeeb82497bb2c15426959b3369556c404e601f76263ad6", checked := Try.checked }
namespace Rows
def none {H : Type} : Left H := { results := [], args := [] }

/-- 'cobweblaw09.FreeNobody': WHATEVER THE INPUT: true; the input reads as it did. -/
def freeNobodySpec : ChangeSpec := { name := "freeNobody", fn := fun _ => fun
  | [d] => { results := [.lit (.bool true)], args := [d] }
  | _ => none }
def freeNobodyRow : OpenClaim := { program := "ytfhchdoaaphfaaa", sum := "0b11d32b8181561fc2eeeb82497bb2c15426959b3369556c404e601f76263ad6", func := "cobweb/cobweblaw09.FreeNobody", spec := "freeNobody", unfollowed := true, recurses := true, apart := false }
def FreeNobodySaid : Prop := freeNobodyRow.holds Try.pinned (OpenSpec.ofChange freeNobodySpec)

/-- ITS FALSE NEIGHBOUR: 'it returns false'. Refute it at one input. -/
def freeNobodyWrong : ChangeSpec := { name := "freeNobody", fn := fun _ => fun
  | [d] => { results := [.lit (.bool false)], args := [d] }
  | _ => none }
def FreeNobodyWrongFalsely : Prop := freeNobodyRow.holds Try.pinned (OpenSpec.ofChange freeNobodyWrong)

/-- 'cobweblaw09.FreeApart': WHATEVER THE INPUT: true; the input reads as it did. -/
def freeApartSpec : ChangeSpec := { name := "freeApart", fn := fun _ => fun
  | [d1, d2] => { results := [.lit (.bool true)], args := [d1, d2] }
  | _ => none }
def freeApartRow : OpenClaim := { program := "ytfhchdoaaphfaaa", sum := "0b11d32b8181561fc2eeeb82497bb2c15426959b3369556c404e601f76263ad6", func := "cobweb/cobweblaw09.FreeApart", spec := "freeApart", unfollowed := true, recurses := true, apart := false }
def FreeApartSaid : Prop := freeApartRow.holds Try.pinned (OpenSpec.ofChange freeApartSpec)

/-- ITS FALSE NEIGHBOUR: 'it returns false'. Refute it at one input. -/
def freeApartWrong : ChangeSpec := { name := "freeApart", fn := fun _ => fun
  | [d1, d2] => { results := [.lit (.bool false)], args := [d1, d2] }
  | _ => none }
def FreeApartWrongFalsely : Prop := freeApartRow.holds Try.pinned (OpenSpec.ofChange freeApartWrong)

/-- 'cobweblaw09.FreeForgets': WHATEVER THE INPUT: true; the input reads as it did. -/
def freeForgetsSpec : ChangeSpec := { name := "freeForgets", fn := fun _ => fun
  | [d1, d2, d3] => { results := [.lit (.bool true)], args := [d1, d2, d3] }
  | _ => none }
def freeForgetsRow : OpenClaim := { program := "ytfhchdoaaphfaaa", sum := "0b11d32b8181561fc2eeeb82497bb2c15426959b3369556c404e601f76263ad6", func := "cobweb/cobweblaw09.FreeForgets", spec := "freeForgets", unfollowed := true, recurses := true, apart := false }
def FreeForgetsSaid : Prop := freeForgetsRow.holds Try.pinned (OpenSpec.ofChange freeForgetsSpec)

/-- ITS FALSE NEIGHBOUR: 'it returns false'. Refute it at one input. -/
def freeForgetsWrong : ChangeSpec := { name := "freeForgets", fn := fun _ => fun
  | [d1, d2, d3] => { results := [.lit (.bool false)], args := [d1, d2, d3] }
  | _ => none }
def FreeForgetsWrongFalsely : Prop := freeForgetsRow.holds Try.pinned (OpenSpec.ofChange freeForgetsWrong)

/- THE SECOND FORM. 'bulk': how many values and letters a reading holds, each counted each time it is reached (what is shared counts as often as it is met; a slice's spare places count too). A statement '..UptoSaid' is the law's where the arguments, and the package variables that the reading takes, are together of bulk at most 1048576: NARROWER than '..Said'. Prove '..Said' where nothing that the law and all that it calls make is longer than what came in: it says more and counts as full. Else prove '..UptoSaid'. A law counts once. -/
mutual
def uptoBulk {H : Type} : DataW H → Nat
  | .lit (.string bytes) => bytes.length + 1
  | .lit _ => 1
  | .nil => 1
  | .ptr d => uptoBulk d + 1
  | .slice elems spare => uptoBulkAll elems + uptoBulkAll spare + 1
  | .agg parts => uptoBulkAll parts + 1
  | .iface _ d => uptoBulk d + 1
  | .map entries => uptoBulkEntries entries + 1
  | .held _ => 1
def uptoBulkAll {H : Type} : List (DataW H) → Nat
  | [] => 0
  | d :: r => uptoBulk d + uptoBulkAll r
def uptoBulkEntries {H : Type} : List (Lit × DataW H) → Nat
  | [] => 0
  | x :: r => uptoBulkEntry x + uptoBulkEntries r
def uptoBulkEntry {H : Type} : Lit × DataW H → Nat
  | (.string bytes, d) => bytes.length + uptoBulk d + 1
  | (_, d) => uptoBulk d + 1
 end
def uptoSmall : (H : Type) → List (DataW H) → Bool := fun _ ds => decide (uptoBulkAll ds ≤ 1048576)
def OpenSpec.upto (s : _root_.Go.ChangeSpec) : _root_.Go.OpenSpec := { _root_.Go.OpenSpec.ofChange s with cond := some uptoSmall }

/-- 'cobweblaw09.FreeNobody', WHERE WHAT IT READS IS OF BULK AT MOST 1048576: true; the input reads as it did. -/
def freeNobodyUptoRow : OpenClaim := { program := "ytfhchdoaaphfaaa", sum := "0b11d32b8181561fc2eeeb82497bb2c15426959b3369556c404e601f76263ad6", func := "cobweb/cobweblaw09.FreeNobody", spec := "freeNobody", unfollowed := true, recurses := true, apart := false, narrowed := true }
def FreeNobodyUptoSaid : Prop := freeNobodyUptoRow.holds Try.pinned (OpenSpec.upto freeNobodySpec)

/-- 'cobweblaw09.FreeApart', WHERE WHAT IT READS IS OF BULK AT MOST 1048576: true; the input reads as it did. -/
def freeApartUptoRow : OpenClaim := { program := "ytfhchdoaaphfaaa", sum := "0b11d32b8181561fc2eeeb82497bb2c15426959b3369556c404e601f76263ad6", func := "cobweb/cobweblaw09.FreeApart", spec := "freeApart", unfollowed := true, recurses := true, apart := false, narrowed := true }
def FreeApartUptoSaid : Prop := freeApartUptoRow.holds Try.pinned (OpenSpec.upto freeApartSpec)

/-- 'cobweblaw09.FreeForgets', WHERE WHAT IT READS IS OF BULK AT MOST 1048576: true; the input reads as it did. -/
def freeForgetsUptoRow : OpenClaim := { program := "ytfhchdoaaphfaaa", sum := "0b11d32b8181561fc2eeeb82497bb2c15426959b3369556c404e601f76263ad6", func := "cobweb/cobweblaw09.FreeForgets", spec := "freeForgets", unfollowed := true, recurses := true, apart := false, narrowed := true }
def FreeForgetsUptoSaid : Prop := freeForgetsUptoRow.holds Try.pinned (OpenSpec.upto freeForgetsSpec)

end Rows
end Go.Proofs.Ytfhchdoaaphfaaa
