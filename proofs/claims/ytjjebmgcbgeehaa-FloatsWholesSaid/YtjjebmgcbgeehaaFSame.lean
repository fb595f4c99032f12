/-
  The law's own comparison of a float with bits: a contract for the walks.
-/
import Derived.Test.YtjjebmgcbgeehaaFKey
set_option linter.unusedVariables false
namespace Go.Proofs.Ytjjebmgcbgeehaa
open Go.RowKit

set_option maxHeartbeats 400000 in
theorem same_any {w : World} (u v : Nat) (b : Bool) (h : ((u : Int) == (v : Int)) = b) :
    Calls Try.prog 15 #[.float .f64 u, .int .u64 (v : Int)] w fun e w' => e = .returned (.bool b) ∧ w = w' := by
  have hx := run_bits u w
  go_enter Try.func15, Try.ntmps15
  go_wp2
  go_ret
  exact ⟨rfl, rfl⟩

end Go.Proofs.Ytjjebmgcbgeehaa
