/-
  The reference's bits: a contract for the walks.
-/
import Derived.Test.YtckmajcophpddaaDoorFCanon
set_option linter.unusedVariables false
set_option maxRecDepth 100000
namespace Go.Proofs.YtckmajcophpddaaDoor
open Go.RowKit

set_option maxHeartbeats 400000 in
theorem vBits_any {w : World} (f : Nat) :
    Calls Tryd.prog 27 #[.float .f64 f] w fun e w' => e = .returned (.int .u64 (f : Int)) ∧ w' = w := by
  have hx := run_bits f w
  go_enter Tryd.func27, Tryd.ntmps27
  go_wp2
  go_ret
  exact ⟨rfl, rfl⟩

end Go.Proofs.YtckmajcophpddaaDoor
