/-
  GraphNobody's closed facts, one by one.
-/
import Derived.Test.YtbbgdbnjmonbgabGreatDoorGpRow
import Derived.Test.YtbbgdbnjmonbgabGreatDoorCards
import Derived.SevenTiedAt
set_option linter.unusedVariables false
namespace Go.Proofs.YtbbgdbnjmonbgabGreatDoor.gpnobody
open Go.ChangeShapes Go.WideShapes Go.ChangeAt Go.RowKit

set_option maxHeartbeats 4000000 in
theorem closed : joinedFacts Tryz.prog 3 Tryz.f3 Rows.graphNobodySpec Rows.graphNobodyRow = true := by
  unfold joinedFacts
  simp only [Bool.and_eq_true]
  repeat' apply And.intro
  all_goals (as_aux_lemma => kernel_rfl)

end Go.Proofs.YtbbgdbnjmonbgabGreatDoor.gpnobody
