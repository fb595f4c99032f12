/-
  floats.Key, Compare: contracts for the walks, in the words of a float's bits.
-/
import Derived.Test.YtinbdneajbommaaDoorFCanon
set_option linter.unusedVariables false
set_option maxRecDepth 100000
namespace Go.Proofs.YtinbdneajbommaaDoor
open Go.RowKit

set_option maxHeartbeats 400000 in
theorem key_any {w : World} (u : Nat) (hu : u < 18446744073709551616) :
    Calls Tryd.prog 99 #[.float .f64 u] w fun e w' => e = .returned (.int .u64 (keyB u : Nat)) ∧ w = w' := by
  have HC := Lib.hid (canonBits_any (w := w) u hu)
  have HV := Lib.hid (canonB_lt hu)
  have HE : Hid (keyB u = if canonB u = 9221120237041090560 then 18446744073709551615 else if 9223372036854775808 ≤ canonB u then 18446744073709551615 - canonB u else canonB u + 9223372036854775808) := Lib.hid rfl
  clear hu
  generalize keyB u = k at HE ⊢
  generalize canonB u = v at *
  have HO : Hid (v < 9223372036854775808 → bits .or .u64 (v : Int) 9223372036854775808 = (k : Int) ∨ v = 9221120237041090560) := by
    refine Lib.hid fun h => ?_
    by_cases h1 : v = 9221120237041090560
    · exact .inr h1
    · have h2 := HE.out
      rw [if_neg h1, if_neg (by omega)] at h2
      rw [or_sign h, h2]
      exact .inl rfl
  go_enter Tryd.func99, Tryd.ntmps99
  go_wp2_with fail
  refine HC.out.mono ?_; rintro e w' ⟨rfl, rfl⟩
  by_cases h1 : v = 9221120237041090560
  · have h1' : ((v : Int) == 9221120237041090560) = true := by rw [h1]; rfl
    have H1 := Lib.hid h1
    clear h1
    go_wp2
    go_ret
    refine ⟨ret_int ?_, rfl⟩
    have h2 := HE.out
    rw [if_pos H1.out] at h2
    rw [h2]
    rfl
  · have h1' : ((v : Int) == 9221120237041090560) = false := by rw [beq_eq_false_iff_ne]; omega
    have H1 := Lib.hid h1
    clear h1
    by_cases h2 : 9223372036854775808 ≤ v
    · have h2' : (9223372036854775808 : Int) ≤ (v : Int) := by omega
      have H2 := Lib.hid h2
      clear h2
      go_wp2
      go_ret
      refine ⟨ret_int ?_, rfl⟩
      have h2 := HE.out
      rw [if_neg H1.out, if_pos H2.out] at h2
      rw [not_walk HV.out, h2]
    · have h2' : decide ((9223372036854775808 : Int) ≤ (v : Int)) = false := by rw [decide_eq_false_iff_not]; omega
      have ho : bits .or .u64 (v : Int) 9223372036854775808 = (k : Int) := by
        rcases HO.out (by omega) with h | h
        · exact h
        · exact absurd h H1.out
      have HO2 := Lib.hid ho
      clear h2 ho HO HV HE H1
      go_wp2
      go_ret
      exact ⟨ret_int HO2.out, rfl⟩

set_option maxHeartbeats 400000 in
theorem cmpU_any {w : World} (a b : Int) :
    Calls Tryd.prog 98 #[.int .u64 a, .int .u64 b] w fun e w' => e = .returned (.int .i64 (cmpI a b)) ∧ w = w' := by
  have HN : ∀ x : Int, Calls Tryd.prog 113 #[.int .u64 x] w fun e w' => e = .returned (.bool false) ∧ w = w' := by
    intro x
    go_enter Tryd.func113, Tryd.ntmps113
    go_wp2
    go_ret
    exact ⟨rfl, rfl⟩
  have HN := Lib.hid HN
  go_enter Tryd.func98, Tryd.ntmps98
  go_wp2_with (go_at_call 113; refine (HN.out _).mono ?_; rintro e w' ⟨rfl, rfl⟩)
  all_goals
    go_ret
    refine ⟨ret_int ?_, rfl⟩
    unfold cmpI
    repeat' split
    all_goals first | rfl | (exfalso; omega)

set_option maxHeartbeats 400000 in
theorem compare_any {w : World} (u v : Nat) (hu : u < 18446744073709551616) (hv : v < 18446744073709551616) :
    Calls Tryd.prog 81 #[.float .f64 u, .float .f64 v] w fun e w' => e = .returned (.int .i64 (cmpI (keyB u) (keyB v))) ∧ w = w' := by
  have H1 := Lib.hid (key_any (w := w) u hu)
  have H2 := Lib.hid (key_any (w := w) v hv)
  have H3 := Lib.hid (cmpU_any (w := w) (keyB u) (keyB v))
  clear hu hv
  generalize cmpI (keyB u) (keyB v) = r at *
  generalize keyB u = x at *
  generalize keyB v = y at *
  go_enter Tryd.func81, Tryd.ntmps81
  go_wp2_with fail
  refine H1.out.mono ?_; rintro e w' ⟨rfl, rfl⟩
  go_wp2_with fail
  refine H2.out.mono ?_; rintro e w' ⟨rfl, rfl⟩
  go_wp2_with fail
  refine H3.out.mono ?_; rintro e w' ⟨rfl, rfl⟩
  go_wp2
  go_ret
  exact ⟨rfl, rfl⟩

end Go.Proofs.YtinbdneajbommaaDoor
