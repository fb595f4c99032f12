/-
  No cell of these rows narrows 'for every input' (looked for: loops, veiled, ifaces, maps, wideKeys, modest, calm, conditions, laid).
  DERIVED. THE GIVEN ROWS OF THIS SEAT. 5 by the template 'for every input the law returns true; each argument reads behind the call as it read before'; 0 by the template 'total and deterministic' (their statements: YtjjebmgcbgeehaaTotals.lean).
  GIVEN WITH THE SEED: the statements are not yours to turn. If you find one false, say at which input.
  Laid BY PROGRAM, IN A SANDBOX (cutbox-rows.mjs): the forced cells as the released guide's own fill.sh prints them over the translation e9100fb89b6cf09b… (all of the seat's roots in one cut). By AI agents, Wed Nov 11 2026. No macro, syntax, notation, axiom, sorry.
-/
import Derived.Test.YtjjebmgcbgeehaaChecked
import GoSem.Claim
import GoSem.ClaimJoined
import GoSem.ClaimMapViews
import Derived.JoinedTies
import Derived.KernelRfl
namespace Go.Proofs.Ytjjebmgcbgeehaa
/- THE CELL 'sum', in the pinned program and in every row, IS THE sha256 OF THE DUMP (.gsa) THAT YtjjebmgcbgeehaaProg.lean LOADS. Nothing in Lean hashes anything: it is a label: what it is worth is what the hold of that sum in a sandbox is worth. -/
noncomputable def Try.pinned : Pinned := { name := "ytjjebmgcbgeehaa", sum := "e9100fb89b6cf09b2bed4ce539222eecd8d05aebcaebb27d7b3a9733d1e31d12", checked := Try.checked }
namespace Rows
def none {H : Type} : Left H := { results := [], args := [] }

/-- 'cobweblaw02.FloatsWholes': WHATEVER THE INPUT: true; the input reads as it did. -/
def floatsWholesSpec : ChangeSpec := { name := "floatsWholes", fn := fun _ => fun
  | [d1, d2] => { results := [.lit (.bool true)], args := [d1, d2] }
  | _ => none }
def floatsWholesRow : OpenClaim := { program := "ytjjebmgcbgeehaa", sum := "e9100fb89b6cf09b2bed4ce539222eecd8d05aebcaebb27d7b3a9733d1e31d12", func := "cobweb/cobweblaw02.FloatsWholes", spec := "floatsWholes", inPlace := ["math.Float64bits"], apart := false }
def FloatsWholesSaid : Prop := floatsWholesRow.holds Try.pinned (OpenSpec.ofChange floatsWholesSpec)

/-- ITS FALSE NEIGHBOUR: 'it returns false'. Refute it at one input. -/
def floatsWholesWrong : ChangeSpec := { name := "floatsWholes", fn := fun _ => fun
  | [d1, d2] => { results := [.lit (.bool false)], args := [d1, d2] }
  | _ => none }
def FloatsWholesWrongFalsely : Prop := floatsWholesRow.holds Try.pinned (OpenSpec.ofChange floatsWholesWrong)

/-- 'cobweblaw02.FloatsOrder': WHATEVER THE INPUT: true; the input reads as it did. -/
def floatsOrderSpec : ChangeSpec := { name := "floatsOrder", fn := fun _ => fun
  | [d1, d2] => { results := [.lit (.bool true)], args := [d1, d2] }
  | _ => none }
def floatsOrderRow : OpenClaim := { program := "ytjjebmgcbgeehaa", sum := "e9100fb89b6cf09b2bed4ce539222eecd8d05aebcaebb27d7b3a9733d1e31d12", func := "cobweb/cobweblaw02.FloatsOrder", spec := "floatsOrder", inPlace := ["math.Float64bits", "math.Float64frombits"], apart := false }
def FloatsOrderSaid : Prop := floatsOrderRow.holds Try.pinned (OpenSpec.ofChange floatsOrderSpec)

/-- ITS FALSE NEIGHBOUR: 'it returns false'. Refute it at one input. -/
def floatsOrderWrong : ChangeSpec := { name := "floatsOrder", fn := fun _ => fun
  | [d1, d2] => { results := [.lit (.bool false)], args := [d1, d2] }
  | _ => none }
def FloatsOrderWrongFalsely : Prop := floatsOrderRow.holds Try.pinned (OpenSpec.ofChange floatsOrderWrong)

/-- 'cobweblaw02.FloatsFloors': WHATEVER THE INPUT: true; the input reads as it did. -/
def floatsFloorsSpec : ChangeSpec := { name := "floatsFloors", fn := fun _ => fun
  | [d] => { results := [.lit (.bool true)], args := [d] }
  | _ => none }
def floatsFloorsRow : OpenClaim := { program := "ytjjebmgcbgeehaa", sum := "e9100fb89b6cf09b2bed4ce539222eecd8d05aebcaebb27d7b3a9733d1e31d12", func := "cobweb/cobweblaw02.FloatsFloors", spec := "floatsFloors", inPlace := ["math.Float64bits", "math.Float64frombits"], apart := false }
def FloatsFloorsSaid : Prop := floatsFloorsRow.holds Try.pinned (OpenSpec.ofChange floatsFloorsSpec)

/-- ITS FALSE NEIGHBOUR: 'it returns false'. Refute it at one input. -/
def floatsFloorsWrong : ChangeSpec := { name := "floatsFloors", fn := fun _ => fun
  | [d] => { results := [.lit (.bool false)], args := [d] }
  | _ => none }
def FloatsFloorsWrongFalsely : Prop := floatsFloorsRow.holds Try.pinned (OpenSpec.ofChange floatsFloorsWrong)

/-- 'cobweblaw02.FloatsTurns': WHATEVER THE INPUT: true; the input reads as it did. -/
def floatsTurnsSpec : ChangeSpec := { name := "floatsTurns", fn := fun _ => fun
  | [d1, d2] => { results := [.lit (.bool true)], args := [d1, d2] }
  | _ => none }
def floatsTurnsRow : OpenClaim := { program := "ytjjebmgcbgeehaa", sum := "e9100fb89b6cf09b2bed4ce539222eecd8d05aebcaebb27d7b3a9733d1e31d12", func := "cobweb/cobweblaw02.FloatsTurns", spec := "floatsTurns", inPlace := ["math.Float64bits", "math.Float64frombits"], apart := false }
def FloatsTurnsSaid : Prop := floatsTurnsRow.holds Try.pinned (OpenSpec.ofChange floatsTurnsSpec)

/-- ITS FALSE NEIGHBOUR: 'it returns false'. Refute it at one input. -/
def floatsTurnsWrong : ChangeSpec := { name := "floatsTurns", fn := fun _ => fun
  | [d1, d2] => { results := [.lit (.bool false)], args := [d1, d2] }
  | _ => none }
def FloatsTurnsWrongFalsely : Prop := floatsTurnsRow.holds Try.pinned (OpenSpec.ofChange floatsTurnsWrong)

/-- 'cobweblaw02.FloatsWhole': WHATEVER THE INPUT: true; the input reads as it did. -/
def floatsWholeSpec : ChangeSpec := { name := "floatsWhole", fn := fun _ => fun
  | [d] => { results := [.lit (.bool true)], args := [d] }
  | _ => none }
def floatsWholeRow : OpenClaim := { program := "ytjjebmgcbgeehaa", sum := "e9100fb89b6cf09b2bed4ce539222eecd8d05aebcaebb27d7b3a9733d1e31d12", func := "cobweb/cobweblaw02.FloatsWhole", spec := "floatsWhole", inPlace := ["math.archTrunc", "math.Float64bits", "math.Float64frombits"], apart := false }
def FloatsWholeSaid : Prop := floatsWholeRow.holds Try.pinned (OpenSpec.ofChange floatsWholeSpec)

/-- ITS FALSE NEIGHBOUR: 'it returns false'. Refute it at one input. -/
def floatsWholeWrong : ChangeSpec := { name := "floatsWhole", fn := fun _ => fun
  | [d] => { results := [.lit (.bool false)], args := [d] }
  | _ => none }
def FloatsWholeWrongFalsely : Prop := floatsWholeRow.holds Try.pinned (OpenSpec.ofChange floatsWholeWrong)

/- THE SECOND FORM. 'bulk': how many values and letters a reading holds, each counted each time it is reached (what is shared counts as often as it is met; a slice's spare places count too). A statement '..UptoSaid' is the law's where the arguments, and the package variables that the reading takes, are together of bulk at most 1048576: NARROWER than '..Said'. Prove '..Said' where nothing that the law and all that it calls make is longer than what came in: it says more and counts as full. Else prove '..UptoSaid'. A law counts once. -/
mutual
def uptoBulk {H : Type} : DataW H → Nat
  | .lit (.string bytes) => bytes.length + 1
  | .lit _ => 1
  | .nil => 1
  | .ptr d => uptoBulk d + 1
  | .slice elems spare => uptoBulkAll elems + uptoBulkAll spare + 1
  | .agg parts => uptoBulkAll parts + 1
  | .iface _ d => uptoBulk d + 1
  | .map entries => uptoBulkEntries entries + 1
  | .held _ => 1
def uptoBulkAll {H : Type} : List (DataW H) → Nat
  | [] => 0
  | d :: r => uptoBulk d + uptoBulkAll r
def uptoBulkEntries {H : Type} : List (Lit × DataW H) → Nat
  | [] => 0
  | x :: r => uptoBulkEntry x + uptoBulkEntries r
def uptoBulkEntry {H : Type} : Lit × DataW H → Nat
  | (.string bytes, d) => bytes.length + uptoBulk d + 1
  | (_, d) => uptoBulk d + 1
 end
def uptoSmall : (H : Type) → List (DataW H) → Bool := fun _ ds => decide (uptoBulkAll ds ≤ 1048576)
def OpenSpec.upto (s : _root_.Go.ChangeSpec) : _root_.Go.OpenSpec := { _root_.Go.OpenSpec.ofChange s with cond := some uptoSmall }

/-- 'cobweblaw02.FloatsWholes', WHERE WHAT IT READS IS OF BULK AT MOST 1048576: true; the input reads as it did. -/
def floatsWholesUptoRow : OpenClaim := { program := "ytjjebmgcbgeehaa", sum := "e9100fb89b6cf09b2bed4ce539222eecd8d05aebcaebb27d7b3a9733d1e31d12", func := "cobweb/cobweblaw02.FloatsWholes", spec := "floatsWholes", inPlace := ["math.Float64bits"], apart := false, narrowed := true }
def FloatsWholesUptoSaid : Prop := floatsWholesUptoRow.holds Try.pinned (OpenSpec.upto floatsWholesSpec)

/-- 'cobweblaw02.FloatsOrder', WHERE WHAT IT READS IS OF BULK AT MOST 1048576: true; the input reads as it did. -/
def floatsOrderUptoRow : OpenClaim := { program := "ytjjebmgcbgeehaa", sum := "e9100fb89b6cf09b2bed4ce539222eecd8d05aebcaebb27d7b3a9733d1e31d12", func := "cobweb/cobweblaw02.FloatsOrder", spec := "floatsOrder", inPlace := ["math.Float64bits", "math.Float64frombits"], apart := false, narrowed := true }
def FloatsOrderUptoSaid : Prop := floatsOrderUptoRow.holds Try.pinned (OpenSpec.upto floatsOrderSpec)

/-- 'cobweblaw02.FloatsFloors', WHERE WHAT IT READS IS OF BULK AT MOST 1048576: true; the input reads as it did. -/
def floatsFloorsUptoRow : OpenClaim := { program := "ytjjebmgcbgeehaa", sum := "e9100fb89b6cf09b2bed4ce539222eecd8d05aebcaebb27d7b3a9733d1e31d12", func := "cobweb/cobweblaw02.FloatsFloors", spec := "floatsFloors", inPlace := ["math.Float64bits", "math.Float64frombits"], apart := false, narrowed := true }
def FloatsFloorsUptoSaid : Prop := floatsFloorsUptoRow.holds Try.pinned (OpenSpec.upto floatsFloorsSpec)

/-- 'cobweblaw02.FloatsTurns', WHERE WHAT IT READS IS OF BULK AT MOST 1048576: true; the input reads as it did. -/
def floatsTurnsUptoRow : OpenClaim := { program := "ytjjebmgcbgeehaa", sum := "e9100fb89b6cf09b2bed4ce539222eecd8d05aebcaebb27d7b3a9733d1e31d12", func := "cobweb/cobweblaw02.FloatsTurns", spec := "floatsTurns", inPlace := ["math.Float64bits", "math.Float64frombits"], apart := false, narrowed := true }
def FloatsTurnsUptoSaid : Prop := floatsTurnsUptoRow.holds Try.pinned (OpenSpec.upto floatsTurnsSpec)

/-- 'cobweblaw02.FloatsWhole', WHERE WHAT IT READS IS OF BULK AT MOST 1048576: true; the input reads as it did. -/
def floatsWholeUptoRow : OpenClaim := { program := "ytjjebmgcbgeehaa", sum := "e9100fb89b6cf09b2bed4ce539222eecd8d05aebcaebb27d7b3a9733d1e31d12", func := "cobweb/cobweblaw02.FloatsWhole", spec := "floatsWhole", inPlace := ["math.archTrunc", "math.Float64bits", "math.Float64frombits"], apart := false, narrowed := true }
def FloatsWholeUptoSaid : Prop := floatsWholeUptoRow.holds Try.pinned (OpenSpec.upto floatsWholeSpec)

end Rows
end Go.Proofs.Ytjjebmgcbgeehaa
