/-
  value.OfBool at true, OfText at "": contracts for the walks.
-/
import Derived.Test.YtmcfeibfbamncaaVBox
set_option linter.unusedVariables false
set_option maxRecDepth 100000
namespace Go.Proofs.Ytmcfeibfbamncaa
open Go.RowKit

set_option maxHeartbeats 800000 in
theorem ofBool_true {w : World} :
    Calls Try.prog 16 #[.bool true] w fun e w' => e = .returned (.agg #[.int .i64 1, .int .i64 1, .float .f64 0, .string ⟨#[]⟩, .slice none 0 0]) ∧ Below w.heap.size w w' := by
  have hst := store_flt
  go_enter Try.func16, Try.ntmps16
  go_wp2
  exact bodyPost_ret (v := .agg #[.int .i64 1, .int .i64 1, .float .f64 0, .string ⟨#[]⟩, .slice none 0 0]) (by simp [results, Try.results16, go_sem]) rfl ⟨rfl, box2_below (Below.refl _ _)⟩

set_option maxHeartbeats 400000 in
theorem clone_none {w : World} :
    Calls Try.prog 35 #[.string ⟨#[]⟩] w fun e w' => e = .returned (.string ⟨#[]⟩) ∧ w = w' := by
  have HC : ∀ w, Calls Try.prog 49 #[.string ⟨#[]⟩] w fun e w' => e = .returned (.string ⟨#[]⟩) ∧ w = w' := by
    intro w
    go_enter Try.func49, Try.ntmps49
    go_wp2
    go_ret
    exact ⟨rfl, rfl⟩
  replace HC := Lib.hid HC
  go_enter Try.func35, Try.ntmps35
  go_wp2_with fail
  refine (HC.out _).mono ?_; rintro e w' ⟨rfl, rfl⟩
  go_wp2
  go_ret
  exact ⟨rfl, rfl⟩

set_option maxHeartbeats 800000 in
theorem ofText_none {w : World} :
    Calls Try.prog 17 #[.string ⟨#[]⟩] w fun e w' => e = .returned (.agg #[.int .i64 4, .int .i64 0, .float .f64 0, .string ⟨#[]⟩, .slice none 0 0]) ∧ Below w.heap.size w w' := by
  have hst := store_flt
  have HC := Lib.hid (fun w => clone_none (w := w))
  go_enter Try.func17, Try.ntmps17
  go_wp2_with fail
  refine (HC.out _).mono ?_; rintro e w' ⟨rfl, rfl⟩
  go_wp2
  exact bodyPost_ret (v := .agg #[.int .i64 4, .int .i64 0, .float .f64 0, .string ⟨#[]⟩, .slice none 0 0]) (by simp [results, Try.results17, go_sem]) rfl ⟨rfl, box_below (Below.refl _ _)⟩

end Go.Proofs.Ytmcfeibfbamncaa
