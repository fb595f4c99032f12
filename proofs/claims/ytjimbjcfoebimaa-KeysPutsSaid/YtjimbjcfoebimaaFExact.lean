/-
  Plain facts: what Whole, Floor and CompareInt tell of a float that is a whole number.
-/
import Derived.Test.YtjimbjcfoebimaaFFloor
import Derived.Test.YtjimbjcfoebimaaFNextP
set_option linter.unusedVariables false
set_option maxRecDepth 100000
namespace Go.Proofs.Ytjimbjcfoebimaa
open Go.RowKit

theorem trB_of {u : Nat} {m : Int} (h : fval u = m * (U : Int)) : trB u = m := by
  have hp : (0 : Int) < (U : Int) := by have := U_pos; omega
  unfold fval at h
  unfold trB whl
  by_cases hs : u < 9223372036854775808
  · rw [if_pos hs] at h ⊢
    rw [Int.natCast_ediv, h, Int.mul_ediv_cancel _ (by omega)]
  · rw [if_neg hs] at h ⊢
    have h1 : (mag u : Int) = (-m) * (U : Int) := by rw [Int.neg_mul]; omega
    rw [Int.natCast_ediv, h1, Int.mul_ediv_cancel _ (by omega)]
    omega
theorem fval_hi : fval 4890909195324358656 = 9223372036854775808 * (U : Int) := by
  have h : 4890909195324358656 % 9223372036854775808 = 4890909195324358656 := by decide
  unfold fval mag
  rw [if_pos (by omega), h, siz_two63, Int.natCast_mul]
  rfl
theorem fval_lo : fval 14114281232179134464 = -9223372036854775808 * (U : Int) := by
  have h : 14114281232179134464 % 9223372036854775808 = 4890909195324358656 := by decide
  unfold fval mag
  rw [if_neg (by omega), h, siz_two63, Int.natCast_mul, Int.neg_mul]
  rfl
theorem inR_of {u : Nat} (hu : u < 18446744073709551616) (hn : isNum u) {m : Int} (h : fval u = m * (U : Int)) (h1 : -9223372036854775808 ≤ m) (h2 : m ≤ 9223372036854775807) : inR u := by
  have hp : (0 : Int) < (U : Int) := by have := U_pos; omega
  have l1 := fval_lt hu (v := 14114281232179134464) (by omega)
  have l2 := fval_lt hu (v := 4890909195324358656) (by omega)
  rw [h, fval_lo, Int.mul_lt_mul_right hp, lo_srung] at l1
  rw [h, fval_hi, Int.mul_lt_mul_right hp, hi_srung] at l2
  exact ⟨hn, by omega, by omega⟩
theorem whole_of {u : Nat} (hu : u < 18446744073709551616) (hn : isNum u) {m : Int} (h : fval u = m * (U : Int)) (h1 : -9223372036854775808 ≤ m) (h2 : m ≤ 9223372036854775807) : wholeB u = (m, true) := by
  have ht := trB_of h
  rw [wholeB_yes (inR_of hu hn h h1 h2) (by rw [ht]; exact h), ht]
/-- The float of the floor. -/
theorem floor_flt {n : Int} (h1 : -9223372036854775808 ≤ n) (h2 : n ≤ 9223372036854775807) : isFin (fltB (n - restI n)) ∧ fval (fltB (n - restI n)) = (n - restI n) * (U : Int) := by
  obtain ⟨r1, r2, r3, r4, r5, r6⟩ := rest_facts h1 h2
  exact (flt_exact r3 (by omega)).2
theorem keyB_fval {u v : Nat} (hu : u < 18446744073709551616) (hv : v < 18446744073709551616) (nu : isNum u) (nv : isNum v) : (keyB u = keyB v ↔ fval u = fval v) ∧ (keyB u < keyB v ↔ fval u < fval v) := by
  have h1 := order_keys hu hv nu nv
  have h2 := order_fval hu hv nu nv
  rw [h2] at h1
  have h3 : compare (fval u) (fval v) = compare (keyB u : Int) (keyB v : Int) := Option.some.inj h1
  have a1 := @Int.compare_eq_lt (fval u) (fval v)
  have a2 := @Int.compare_eq_lt (keyB u : Int) (keyB v : Int)
  have b1 := @Int.compare_eq_eq (fval u) (fval v)
  have b2 := @Int.compare_eq_eq (keyB u : Int) (keyB v : Int)
  rw [h3] at a1 b1
  constructor
  · constructor
    · intro h
      exact b1.1 (b2.2 (by omega))
    · intro h
      have := b2.1 (b1.2 h)
      omega
  · constructor
    · intro h
      exact a1.1 (a2.2 (by omega))
    · intro h
      have := a2.1 (a1.2 h)
      omega
theorem rest_zero {n : Int} (h1 : -9223372036854775808 ≤ n) (h2 : n ≤ 9223372036854775807) (hz : LowZ n.natAbs) : restI n = 0 := by
  obtain ⟨k1, k2, k3⟩ := len_size (x := n.natAbs) 64 (by omega) (by omega)
  unfold restI bey
  generalize Lib.bitLen n.natAbs = l at *
  by_cases h0 : n.natAbs = 0
  · obtain rfl : n = 0 := by omega
    exact Int.zero_emod _
  · obtain ⟨t, e, hM, ht⟩ := hz
    have hk := k3 h0
    have hd : 2 ^ (l - 53) ∣ n.natAbs := by
      rcases Nat.lt_or_ge e (l - 53) with h | h
      · exfalso
        have h53 : (2 : Nat) ^ 53 = 9007199254740992 := by decide
        have hp := Nat.two_pow_pos e
        have a1 : n.natAbs < 2 ^ 53 * 2 ^ e := by
          rw [hM, h53]
          exact Nat.mul_lt_mul_of_pos_right ht hp
        rw [← Nat.pow_add] at a1
        have a2 : 2 ^ (53 + e + 1) ≤ 2 ^ l := Nat.pow_le_pow_right (by decide) (by omega)
        rw [Nat.pow_succ] at a2
        omega
      · have e1 : 2 ^ e = 2 ^ (l - 53) * 2 ^ (e - (l - 53)) := by
          have : l - 53 + (e - (l - 53)) = e := by omega
          rw [← Nat.pow_add, this]
        rw [hM, e1]
        exact ⟨t * 2 ^ (e - (l - 53)), by rw [Nat.mul_left_comm]⟩
    have hd' : ((2 ^ (l - 53) : Nat) : Int) ∣ n := Int.ofNat_dvd_left.2 hd
    rw [Int.natCast_pow] at hd'
    exact Int.emod_eq_zero_of_dvd hd'

end Go.Proofs.Ytjimbjcfoebimaa
