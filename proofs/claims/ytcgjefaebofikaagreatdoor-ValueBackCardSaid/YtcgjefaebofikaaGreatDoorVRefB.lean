/-
  The reference's bits: a contract for the walks.
-/
import Derived.Test.YtcgjefaebofikaaGreatDoorFCanon
set_option linter.unusedVariables false
set_option maxRecDepth 100000
namespace Go.Proofs.YtcgjefaebofikaaGreatDoor
open Go.RowKit

set_option maxHeartbeats 400000 in
theorem vBits_any {w : World} (f : Nat) :
    Calls Tryz.prog 13 #[.float .f64 f] w fun e w' => e = .returned (.int .u64 (f : Int)) ∧ w' = w := by
  have hx := run_bits f w
  go_enter Tryz.func13, Tryz.ntmps13
  go_wp2
  go_ret
  exact ⟨rfl, rfl⟩

end Go.Proofs.YtcgjefaebofikaaGreatDoor
