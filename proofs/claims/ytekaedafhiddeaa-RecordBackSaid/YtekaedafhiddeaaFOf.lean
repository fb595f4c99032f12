/-
  floats.Of: its contract.
-/
import Derived.Test.YtekaedafhiddeaaFKey
set_option linter.unusedVariables false
set_option maxRecDepth 100000
namespace Go.Proofs.Ytekaedafhiddeaa
open Go.RowKit

set_option maxHeartbeats 400000 in
theorem of_any {w : World} (k : Nat) (hk : k < 18446744073709551616) :
    Calls Try.prog 118 #[.int .u64 k] w fun e w' => e = .returned (.tuple #[.float .f64 (ofB k).1, .bool (ofB k).2]) ∧ w = w' := by
  have hlt := uncB_lt hk
  have hx := Lib.hid (run_frombits (uncB k) w)
  have H1 := Lib.hid (canon_any (w := w) (uncB k) hlt)
  have H2 := Lib.hid (key_any (w := w) (canonB (uncB k)) (canonB_lt hlt))
  have HE : Hid (ofB k = if keyB (canonB (uncB k)) = k then (canonB (uncB k), true) else (0, false)) := Lib.hid rfl
  have HU : Hid (uncB k = if 9223372036854775808 ≤ k then k - 9223372036854775808 else 18446744073709551615 - k) := Lib.hid rfl
  have HN := Lib.hid (not_walk hk)
  have HA := Lib.hid (andNot_sign hk)
  have HK := Lib.hid hk
  clear hlt hk
  generalize ofB k = r at *
  generalize keyB (canonB (uncB k)) = y at *
  generalize canonB (uncB k) = v at *
  generalize uncB k = u at *
  go_enter Try.func118, Try.ntmps118
  have hu : u = (if 9223372036854775808 ≤ k then k % 9223372036854775808 else 18446744073709551615 - k) := by
    have h1 := HU.out
    have h2 := HK.out
    rw [h1]
    split <;> omega
  have HU' := Lib.hid hu
  clear hu HU
  by_cases h2 : 9223372036854775808 ≤ k
  · have h2' : decide ((9223372036854775808 : Int) ≤ (k : Int)) = true := by rw [decide_eq_true_iff]; omega
    have h3 : bits BinOp.andNot IntKind.u64 (k : Int) 9223372036854775808 = (u : Int) := by
      have h1 := HU'.out
      rw [if_pos h2] at h1
      rw [HA.out, h1]
    clear h2
    have hx1 := hx.out
    go_wp2_with fail
    refine H1.out.mono ?_; rintro e w' ⟨rfl, rfl⟩
    clear h3
    go_wp2_with fail
    refine H2.out.mono ?_; rintro e w' ⟨rfl, rfl⟩
    by_cases h4 : y = k
    · have h4' : ((y : Int) != (k : Int)) = false := by rw [h4]; simp
      have H4 := Lib.hid h4
      clear h4
      go_wp2
      go_ret2
      have h5 := HE.out
      rw [if_pos H4.out] at h5
      subst h5
      exact ⟨rfl, rfl⟩
    · have h4' : ((y : Int) != (k : Int)) = true := by simp; omega
      have H4 := Lib.hid h4
      clear h4
      go_wp2
      go_ret2
      have h5 := HE.out
      rw [if_neg H4.out] at h5
      subst h5
      exact ⟨rfl, rfl⟩
  · have h2' : decide ((9223372036854775808 : Int) ≤ (k : Int)) = false := by rw [decide_eq_false_iff_not]; omega
    have h3 : bits BinOp.xor IntKind.u64 IntKind.u64.max (k : Int) = (u : Int) := by
      have h1 := HU'.out
      rw [if_neg h2] at h1
      rw [HN.out, h1]
    clear h2
    have hx1 := hx.out
    go_wp2_with fail
    refine H1.out.mono ?_; rintro e w' ⟨rfl, rfl⟩
    clear h3
    go_wp2_with fail
    refine H2.out.mono ?_; rintro e w' ⟨rfl, rfl⟩
    by_cases h4 : y = k
    · have h4' : ((y : Int) != (k : Int)) = false := by rw [h4]; simp
      have H4 := Lib.hid h4
      clear h4
      go_wp2
      go_ret2
      have h5 := HE.out
      rw [if_pos H4.out] at h5
      subst h5
      exact ⟨rfl, rfl⟩
    · have h4' : ((y : Int) != (k : Int)) = true := by simp; omega
      have H4 := Lib.hid h4
      clear h4
      go_wp2
      go_ret2
      have h5 := HE.out
      rw [if_neg H4.out] at h5
      subst h5
      exact ⟨rfl, rfl⟩

end Go.Proofs.Ytekaedafhiddeaa
