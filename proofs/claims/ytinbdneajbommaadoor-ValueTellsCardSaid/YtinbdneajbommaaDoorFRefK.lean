/-
  The reference's Key, Of and Compare: contracts for the walks.
-/
import Derived.Test.YtinbdneajbommaaDoorFRefN
set_option linter.unusedVariables false
set_option maxRecDepth 100000
namespace Go.Proofs.YtinbdneajbommaaDoor
open Go.RowKit

set_option maxHeartbeats 400000 in
theorem refKey_any {w : World} (u : Nat) (hu : u < 18446744073709551616) :
    Calls Tryd.prog 85 #[.int .u64 (u : Int)] w fun e w' => e = .returned (.int .u64 (keyB u : Nat)) ∧ w = w' := by
  have HC := Lib.hid (refCanon_any (w := w) u hu)
  have HV := Lib.hid (canonB_lt hu)
  have HE : Hid (keyB u = if canonB u = 9221120237041090560 then 18446744073709551615 else if 9223372036854775808 ≤ canonB u then 18446744073709551615 - canonB u else canonB u + 9223372036854775808) := Lib.hid rfl
  clear hu
  generalize keyB u = k at HE ⊢
  generalize canonB u = v at *
  go_enter Tryd.func85, Tryd.ntmps85
  go_wp2_with fail
  refine HC.out.mono ?_; rintro e w' ⟨rfl, rfl⟩
  by_cases h1 : v = 9221120237041090560
  · have h1' : ((v : Int) == 9221120237041090560) = true := by rw [h1]; rfl
    have H1 := Lib.hid h1
    clear h1
    go_wp2
    go_ret
    refine ⟨ret_int ?_, rfl⟩
    have h2 := HE.out
    rw [if_pos H1.out] at h2
    rw [h2]
    rfl
  · have h1' : ((v : Int) == 9221120237041090560) = false := by rw [beq_eq_false_iff_ne]; omega
    have H1 := Lib.hid h1
    clear h1
    by_cases h2 : 9223372036854775808 ≤ v
    · have h2' : decide ((9223372036854775808 : Int) ≤ (v : Int)) = true := decide_eq_true (by omega)
      have H2 := Lib.hid h2
      have e1 : IntKind.u64.wrap (18446744073709551615 - (v : Int)) = (k : Int) := by
        have h3 := HE.out
        have h4 := HV.out
        rw [if_neg H1.out, if_pos h2] at h3
        rw [IntKind.wrap_u64]
        omega
      clear h2
      go_wp2
      go_ret
      exact ⟨rfl, rfl⟩
    · have h2' : decide ((9223372036854775808 : Int) ≤ (v : Int)) = false := decide_eq_false (by omega)
      have H2 := Lib.hid h2
      have e1 : IntKind.u64.wrap ((v : Int) + 9223372036854775808) = (k : Int) := by
        have h3 := HE.out
        have h4 := HV.out
        rw [if_neg H1.out, if_neg h2] at h3
        rw [IntKind.wrap_u64]
        omega
      clear h2
      go_wp2
      go_ret
      exact ⟨rfl, rfl⟩

end Go.Proofs.YtinbdneajbommaaDoor
