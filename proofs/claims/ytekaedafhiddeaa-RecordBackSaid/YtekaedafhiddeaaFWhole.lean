/-
  floats.Whole: its contract.
-/
import Derived.Test.YtekaedafhiddeaaFWholeP
set_option linter.unusedVariables false
set_option maxRecDepth 100000
namespace Go.Proofs.Ytekaedafhiddeaa
open Go.RowKit

set_option maxHeartbeats 400000 in
theorem whole_any {w : World} (u : Nat) (hu : u < 18446744073709551616) :
    Calls Try.prog 120 #[.float .f64 u] w fun e w' => e = .returned (.tuple #[.int .i64 (wholeB u).1, .bool (wholeB u).2]) ∧ w = w' := by
  by_cases h : inR u
  · obtain ⟨t1, t2⟩ := test_in hu h
    have hx := run_tr hu h w
    have hy := run_flt (trB u) w
    have tb := test_back hu h
    by_cases he : fval u = trB u * (U : Int)
    · rw [wholeB_yes h he]
      rw [decide_eq_true he] at tb
      clear h he hu
      generalize fltB (trB u) = g at *
      generalize trB u = n at *
      go_enter Try.func120, Try.ntmps120
      go_wp2
      go_ret2
      exact ⟨rfl, rfl⟩
    · rw [wholeB_no (fun hh => he hh.2)]
      rw [decide_eq_false he] at tb
      clear h he hu
      generalize fltB (trB u) = g at *
      generalize trB u = n at *
      go_enter Try.func120, Try.ntmps120
      go_wp2
      go_ret2
      exact ⟨rfl, rfl⟩
  · rw [wholeB_no (fun hh => h hh.1)]
    rcases test_out hu h with t1 | ⟨t1, t2⟩
    all_goals
      clear h hu
      go_enter Try.func120, Try.ntmps120
      go_wp2
      go_ret2
      exact ⟨rfl, rfl⟩

end Go.Proofs.Ytekaedafhiddeaa
