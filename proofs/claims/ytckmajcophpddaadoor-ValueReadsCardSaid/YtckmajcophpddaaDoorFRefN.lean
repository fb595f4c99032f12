/-
  The reference's Canon: its contract for the walks.
-/
import Derived.Test.YtckmajcophpddaaDoorFCanon
set_option linter.unusedVariables false
set_option maxRecDepth 100000
namespace Go.Proofs.YtckmajcophpddaaDoor
open Go.RowKit

set_option maxHeartbeats 400000 in
theorem refCanon_any {w : World} (u : Nat) (hu : u < 18446744073709551616) :
    Calls Tryd.prog 41 #[.int .u64 (u : Int)] w fun e w' => e = .returned (.int .u64 (canonB u : Nat)) ∧ w = w' := by
  have HU := Lib.hid hu
  clear hu
  go_enter Tryd.func41, Tryd.ntmps41
  go_wp2
  all_goals
    go_ret
    refine ⟨ret_int ?_, rfl⟩
    have h1 := HU.out
    clear HU
    try simp only [beq_iff_eq, beq_eq_false_iff_ne, ne_eq] at *
    unfold canonB
    repeat' split
    all_goals omega

end Go.Proofs.YtckmajcophpddaaDoor
