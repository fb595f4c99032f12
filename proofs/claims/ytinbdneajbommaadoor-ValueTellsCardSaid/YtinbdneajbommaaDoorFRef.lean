/-
  The reference's Key, Of and Compare: contracts for the walks.
-/
import Derived.Test.YtinbdneajbommaaDoorFRefC
import Derived.Test.YtinbdneajbommaaDoorFRefK
set_option linter.unusedVariables false
set_option maxRecDepth 100000
namespace Go.Proofs.YtinbdneajbommaaDoor
open Go.RowKit

set_option maxHeartbeats 400000 in
theorem refCompare_any {w : World} (u v : Nat) (hu : u < 18446744073709551616) (hv : v < 18446744073709551616) :
    Calls Tryd.prog 62 #[.int .u64 (u : Int), .int .u64 (v : Int)] w fun e w' => e = .returned (.int .i64 (cmpI (keyB u) (keyB v))) ∧ w = w' := by
  have H1 := Lib.hid (refKey_any (w := w) u hu)
  have H2 := Lib.hid (refKey_any (w := w) v hv)
  clear hu hv
  generalize keyB u = x at *
  generalize keyB v = y at *
  go_enter Tryd.func62, Tryd.ntmps62
  go_wp2_with fail
  refine H1.out.mono ?_; rintro e w' ⟨rfl, rfl⟩
  go_wp2_with fail
  refine H2.out.mono ?_; rintro e w' ⟨rfl, rfl⟩
  go_wp2
  all_goals
    go_ret
    refine ⟨ret_int ?_, rfl⟩
    clear H1 H2
    unfold cmpI
    repeat' split
    all_goals omega

end Go.Proofs.YtinbdneajbommaaDoor
