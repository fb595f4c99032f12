/-
  math.IsNaN: its contract.
-/
import Derived.Test.YtinbdneajbommaaDoorFCanon
set_option linter.unusedVariables false
set_option maxRecDepth 100000
namespace Go.Proofs.YtinbdneajbommaaDoor
open Go.RowKit

set_option maxHeartbeats 400000 in
theorem isNaN_any {w : World} (u : Nat) :
    Calls Tryd.prog 59 #[.float .f64 u] w fun e w' => e = .returned (.bool (FloatKind.f64.format.order u u != some Ordering.eq)) ∧ w = w' := by
  go_enter Tryd.func59, Tryd.ntmps59
  go_wp2
  go_ret
  exact ⟨rfl, rfl⟩

end Go.Proofs.YtinbdneajbommaaDoor
