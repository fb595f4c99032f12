/-
  value.OfInt, OfReal: contracts for the walks.
-/
import Derived.Test.YtmcfeibfbamncaaVBox
set_option linter.unusedVariables false
set_option maxRecDepth 100000
namespace Go.Proofs.Ytmcfeibfbamncaa
open Go.RowKit

set_option maxHeartbeats 800000 in
theorem ofInt_any {w : World} (n : Int) :
    Calls Try.prog 8 #[.int .i64 n] w fun e w' => e = .returned (.agg #[.int .i64 2, .int .i64 n, .float .f64 0, .string ⟨#[]⟩, .slice none 0 0]) ∧ Below w.heap.size w w' := by
  have hst := store_flt
  go_enter Try.func8, Try.ntmps8
  go_wp2
  exact bodyPost_ret (v := .agg #[.int .i64 2, .int .i64 n, .float .f64 0, .string ⟨#[]⟩, .slice none 0 0]) (by simp [results, Try.results8, go_sem]) rfl ⟨rfl, box_below (Below.refl _ _)⟩

set_option maxHeartbeats 800000 in
theorem ofReal_any {w : World} (f : Nat) (hf : f < 18446744073709551616) :
    Calls Try.prog 9 #[.float .f64 f] w fun e w' => e = .returned (.agg #[.int .i64 3, .int .i64 0, .float .f64 (canonB f), .string ⟨#[]⟩, .slice none 0 0]) ∧ Below w.heap.size w w' := by
  have hst := store_flt
  have HC := Lib.hid (fun w => canon_any (w := w) f hf)
  clear hf
  generalize canonB f = g at *
  go_enter Try.func9, Try.ntmps9
  go_wp2_with fail
  refine (HC.out _).mono ?_; rintro e w' ⟨rfl, rfl⟩
  go_wp2
  exact bodyPost_ret (v := .agg #[.int .i64 3, .int .i64 0, .float .f64 g, .string ⟨#[]⟩, .slice none 0 0]) (by simp [results, Try.results9, go_sem]) rfl ⟨rfl, box_below (Below.refl _ _)⟩

end Go.Proofs.Ytmcfeibfbamncaa
