/-
  The reference's Class: its contract for the walks.
-/
import Derived.Test.YtinbdneajbommaaDoorFRefN
set_option linter.unusedVariables false
set_option maxRecDepth 100000
namespace Go.Proofs.YtinbdneajbommaaDoor
open Go.RowKit

/-- The class, by the bits of the stand-in. -/
theorem classB_canon {u : Nat} (hu : u < 18446744073709551616) : classB u = if canonB u = 9221120237041090560 then 0 else if canonB u = 9218868437227405312 then 5 else if canonB u = 18442240474082181120 then 1 else if canonB u = 0 then 3 else if 9223372036854775808 ≤ canonB u then 2 else 4 := by
  by_cases h : isNum u
  · rw [canonB_num h]
    unfold isNum at h
    unfold classB
    by_cases h0 : u % 9223372036854775808 = 0
    · rw [if_pos h0]
      repeat' split
      all_goals omega
    · rw [if_neg h0]
      repeat' split
      all_goals omega
  · rw [canonB_nan h, if_pos rfl]
    unfold isNum at h
    unfold classB
    rw [if_pos (by omega)]

set_option maxHeartbeats 400000 in
theorem refClass_any {w : World} (u : Nat) (hu : u < 18446744073709551616) :
    Calls Tryd.prog 60 #[.int .u64 (u : Int)] w fun e w' => e = .returned (.int .i64 (classB u)) ∧ w = w' := by
  have HC := Lib.hid (refCanon_any (w := w) u hu)
  have HE := Lib.hid (classB_canon hu)
  clear hu
  generalize classB u = c at *
  generalize canonB u = v at *
  go_enter Tryd.func60, Tryd.ntmps60
  go_wp2_with fail
  refine HC.out.mono ?_; rintro e w' ⟨rfl, rfl⟩
  by_cases h0 : v = 9221120237041090560
  · have g0 : ((v : Int) == 9221120237041090560) = true := by rw [beq_iff_eq]; omega
    have hc : c = 0 := by have := HE.out; repeat' split at this <;> omega
    clear h0 HE
    subst hc
    go_wp2
    go_ret
    exact ⟨rfl, rfl⟩
  have g0 : ((v : Int) == 9221120237041090560) = false := by rw [beq_eq_false_iff_ne]; omega
  by_cases h1 : v = 9218868437227405312
  · have g1 : ((v : Int) == 9218868437227405312) = true := by rw [beq_iff_eq]; omega
    have hc : c = 5 := by have := HE.out; repeat' split at this <;> omega
    clear h1 HE
    subst hc
    go_wp2
    go_ret
    exact ⟨rfl, rfl⟩
  have g1 : ((v : Int) == 9218868437227405312) = false := by rw [beq_eq_false_iff_ne]; omega
  by_cases h2 : v = 18442240474082181120
  · have g2 : ((v : Int) == 18442240474082181120) = true := by rw [beq_iff_eq]; omega
    have hc : c = 1 := by have := HE.out; repeat' split at this <;> omega
    clear h2 HE
    subst hc
    go_wp2
    go_ret
    exact ⟨rfl, rfl⟩
  have g2 : ((v : Int) == 18442240474082181120) = false := by rw [beq_eq_false_iff_ne]; omega
  by_cases h3 : v = 0
  · have g3 : ((v : Int) == 0) = true := by rw [beq_iff_eq]; omega
    have hc : c = 3 := by have := HE.out; repeat' split at this <;> omega
    clear h3 HE
    subst hc
    go_wp2
    go_ret
    exact ⟨rfl, rfl⟩
  have g3 : ((v : Int) == 0) = false := by rw [beq_eq_false_iff_ne]; omega
  by_cases h4 : 9223372036854775808 ≤ v
  · have g4 : decide ((9223372036854775808 : Int) ≤ (v : Int)) = true := decide_eq_true (by omega)
    have hc : c = 2 := by have := HE.out; repeat' split at this <;> omega
    clear h0 h1 h2 h3 h4 HE
    subst hc
    go_wp2
    go_ret
    exact ⟨rfl, rfl⟩
  · have g4 : decide ((9223372036854775808 : Int) ≤ (v : Int)) = false := decide_eq_false (by omega)
    have hc : c = 4 := by have := HE.out; repeat' split at this <;> omega
    clear h0 h1 h2 h3 h4 HE
    subst hc
    go_wp2
    go_ret
    exact ⟨rfl, rfl⟩

end Go.Proofs.YtinbdneajbommaaDoor
