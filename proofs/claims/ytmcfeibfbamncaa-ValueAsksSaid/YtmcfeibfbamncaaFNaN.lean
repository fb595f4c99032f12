/-
  math.IsNaN: its contract.
-/
import Derived.Test.YtmcfeibfbamncaaFCanon
set_option linter.unusedVariables false
set_option maxRecDepth 100000
namespace Go.Proofs.Ytmcfeibfbamncaa
open Go.RowKit

set_option maxHeartbeats 400000 in
theorem isNaN_any {w : World} (u : Nat) :
    Calls Try.prog 45 #[.float .f64 u] w fun e w' => e = .returned (.bool (FloatKind.f64.format.order u u != some Ordering.eq)) ∧ w = w' := by
  go_enter Try.func45, Try.ntmps45
  go_wp2
  go_ret
  exact ⟨rfl, rfl⟩

end Go.Proofs.Ytmcfeibfbamncaa
