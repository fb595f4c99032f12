/-
  What a law of this layer answers; how much there is of what was read.
-/
import Derived.Test.YtigmibmebockhaaNdRead
set_option linter.unusedVariables false
set_option maxRecDepth 100000
namespace Go.Proofs.Ytigmibmebockhaa
open Go.RowKit

theorem readS_count {k : Nat} {b : List UInt8} {s : NdS} (h : readS k b s) : s.count ≤ 100000 := by
  have hs := h.1
  unfold preS at hs
  split at hs
  · cases hs
  · split at hs
    · cases hs
      exact leafS_count b (by omega)
    · split at hs
      · cases hs
        exact branchS_count b (by omega)
      · cases hs

def LawPost (w : World) (e : Ending) (w' : World) : Prop := e = .returned (.bool true) ∧ Below w.heap.size w w'

end Go.Proofs.Ytigmibmebockhaa
