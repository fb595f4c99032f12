/-
  Plain facts: what Whole, Floor and CompareInt tell of a float that is a whole number.
  Plain facts: no float is between a whole number and its floor; CompareInt is exact; which whole numbers are floats.
-/
import Derived.Test.YtinbdneajbommaaDoorFFloor
import Derived.Test.YtinbdneajbommaaDoorFNextP
set_option linter.unusedVariables false
set_option maxRecDepth 100000
namespace Go.Proofs.YtinbdneajbommaaDoor
open Go.RowKit

theorem trB_of {u : Nat} {m : Int} (h : fval u = m * (U : Int)) : trB u = m := by
  have hp : (0 : Int) < (U : Int) := by have := U_pos; omega
  unfold fval at h
  unfold trB whl
  by_cases hs : u < 9223372036854775808
  · rw [if_pos hs] at h ⊢
    rw [Int.natCast_ediv, h, Int.mul_ediv_cancel _ (by omega)]
  · rw [if_neg hs] at h ⊢
    have h1 : (mag u : Int) = (-m) * (U : Int) := by rw [Int.neg_mul]; omega
    rw [Int.natCast_ediv, h1, Int.mul_ediv_cancel _ (by omega)]
    omega
theorem fval_hi : fval 4890909195324358656 = 9223372036854775808 * (U : Int) := by
  have h : 4890909195324358656 % 9223372036854775808 = 4890909195324358656 := by decide
  unfold fval mag
  rw [if_pos (by omega), h, siz_two63, Int.natCast_mul]
  rfl
theorem fval_lo : fval 14114281232179134464 = -9223372036854775808 * (U : Int) := by
  have h : 14114281232179134464 % 9223372036854775808 = 4890909195324358656 := by decide
  unfold fval mag
  rw [if_neg (by omega), h, siz_two63, Int.natCast_mul, Int.neg_mul]
  rfl
theorem inR_of {u : Nat} (hu : u < 18446744073709551616) (hn : isNum u) {m : Int} (h : fval u = m * (U : Int)) (h1 : -9223372036854775808 ≤ m) (h2 : m ≤ 9223372036854775807) : inR u := by
  have hp : (0 : Int) < (U : Int) := by have := U_pos; omega
  have l1 := fval_lt hu (v := 14114281232179134464) (by omega)
  have l2 := fval_lt hu (v := 4890909195324358656) (by omega)
  rw [h, fval_lo, Int.mul_lt_mul_right hp, lo_srung] at l1
  rw [h, fval_hi, Int.mul_lt_mul_right hp, hi_srung] at l2
  exact ⟨hn, by omega, by omega⟩
theorem whole_of {u : Nat} (hu : u < 18446744073709551616) (hn : isNum u) {m : Int} (h : fval u = m * (U : Int)) (h1 : -9223372036854775808 ≤ m) (h2 : m ≤ 9223372036854775807) : wholeB u = (m, true) := by
  have ht := trB_of h
  rw [wholeB_yes (inR_of hu hn h h1 h2) (by rw [ht]; exact h), ht]
/-- The float of the floor. -/
theorem floor_flt {n : Int} (h1 : -9223372036854775808 ≤ n) (h2 : n ≤ 9223372036854775807) : isFin (fltB (n - restI n)) ∧ fval (fltB (n - restI n)) = (n - restI n) * (U : Int) := by
  obtain ⟨r1, r2, r3, r4, r5, r6⟩ := rest_facts h1 h2
  exact (flt_exact r3 (by omega)).2
theorem keyB_fval {u v : Nat} (hu : u < 18446744073709551616) (hv : v < 18446744073709551616) (nu : isNum u) (nv : isNum v) : (keyB u = keyB v ↔ fval u = fval v) ∧ (keyB u < keyB v ↔ fval u < fval v) := by
  have h1 := order_keys hu hv nu nv
  have h2 := order_fval hu hv nu nv
  rw [h2] at h1
  have h3 : compare (fval u) (fval v) = compare (keyB u : Int) (keyB v : Int) := Option.some.inj h1
  have a1 := @Int.compare_eq_lt (fval u) (fval v)
  have a2 := @Int.compare_eq_lt (keyB u : Int) (keyB v : Int)
  have b1 := @Int.compare_eq_eq (fval u) (fval v)
  have b2 := @Int.compare_eq_eq (keyB u : Int) (keyB v : Int)
  rw [h3] at a1 b1
  constructor
  · constructor
    · intro h
      exact b1.1 (b2.2 (by omega))
    · intro h
      have := b2.1 (b1.2 h)
      omega
  · constructor
    · intro h
      exact a1.1 (a2.2 (by omega))
    · intro h
      have := a2.1 (a1.2 h)
      omega
theorem rest_zero {n : Int} (h1 : -9223372036854775808 ≤ n) (h2 : n ≤ 9223372036854775807) (hz : LowZ n.natAbs) : restI n = 0 := by
  obtain ⟨k1, k2, k3⟩ := len_size (x := n.natAbs) 64 (by omega) (by omega)
  unfold restI bey
  generalize Lib.bitLen n.natAbs = l at *
  by_cases h0 : n.natAbs = 0
  · obtain rfl : n = 0 := by omega
    exact Int.zero_emod _
  · obtain ⟨t, e, hM, ht⟩ := hz
    have hk := k3 h0
    have hd : 2 ^ (l - 53) ∣ n.natAbs := by
      rcases Nat.lt_or_ge e (l - 53) with h | h
      · exfalso
        have h53 : (2 : Nat) ^ 53 = 9007199254740992 := by decide
        have hp := Nat.two_pow_pos e
        have a1 : n.natAbs < 2 ^ 53 * 2 ^ e := by
          rw [hM, h53]
          exact Nat.mul_lt_mul_of_pos_right ht hp
        rw [← Nat.pow_add] at a1
        have a2 : 2 ^ (53 + e + 1) ≤ 2 ^ l := Nat.pow_le_pow_right (by decide) (by omega)
        rw [Nat.pow_succ] at a2
        omega
      · have e1 : 2 ^ e = 2 ^ (l - 53) * 2 ^ (e - (l - 53)) := by
          have : l - 53 + (e - (l - 53)) = e := by omega
          rw [← Nat.pow_add, this]
        rw [hM, e1]
        exact ⟨t * 2 ^ (e - (l - 53)), by rw [Nat.mul_left_comm]⟩
    have hd' : ((2 ^ (l - 53) : Nat) : Int) ∣ n := Int.ofNat_dvd_left.2 hd
    rw [Int.natCast_pow] at hd'
    exact Int.emod_eq_zero_of_dvd hd'

end Go.Proofs.YtinbdneajbommaaDoor

set_option linter.unusedVariables false
set_option maxRecDepth 100000
namespace Go.Proofs.YtinbdneajbommaaDoor
open Go.RowKit

/-- A float that is great is a multiple of the numbers of so many low zeros. -/
theorem mag_multiple {u b : Nat} (h : isFin u) (hm : 2 ^ (52 + b) * U ≤ mag u) : ∃ k, mag u = k * (2 ^ b * U) := by
  obtain ⟨m, a, _, he, hlt⟩ := read_shape h
  have hu := ue
  unfold U at *
  generalize UE = E at *
  rcases Nat.lt_or_ge a (E + b) with h1 | h1
  · exfalso
    have h53 : (2 : Nat) ^ 53 = 9007199254740992 := by decide
    have h2 : m * 2 ^ a < 2 ^ 53 * 2 ^ a := by
      rw [h53]
      exact Nat.mul_lt_mul_of_pos_right hlt (Nat.two_pow_pos a)
    have h3 : 2 ^ 53 * 2 ^ a ≤ 2 ^ (52 + b) * 2 ^ E := by
      rw [← Nat.pow_add, ← Nat.pow_add]
      exact Nat.pow_le_pow_right (by decide) (by omega)
    omega
  · refine ⟨m * 2 ^ (a - (E + b)), ?_⟩
    have h2 : 2 ^ a = 2 ^ (a - (E + b)) * (2 ^ b * 2 ^ E) := by
      rw [← Nat.pow_add, ← Nat.pow_add]
      congr 1
      omega
    rw [← he, h2, Nat.mul_assoc]
theorem between {q k D : Int} (hD : 0 < D) (h1 : q * D < k * D) (h2 : k * D < (q + 1) * D) : False := by
  have a1 := Int.lt_of_mul_lt_mul_right h1 (Int.le_of_lt hD)
  have a2 := Int.lt_of_mul_lt_mul_right h2 (Int.le_of_lt hD)
  omega

/-- NO FLOAT IS BETWEEN A WHOLE NUMBER AND ITS FLOOR. -/
theorem floor_gap {n : Int} (h1 : -9223372036854775808 ≤ n) (h2 : n ≤ 9223372036854775807) {u : Nat} (hu : isFin u) (hlo : (n - restI n) * (U : Int) < fval u) : n * (U : Int) < fval u := by
  have hUp : (0 : Int) < (U : Int) := by have := U_pos; omega
  obtain ⟨k1, k2, k3⟩ := len_size (x := n.natAbs) 64 (by omega) (by omega)
  rcases Int.lt_or_le (n * (U : Int)) (fval u) with h | hge
  · exact h
  · exfalso
    by_cases hb : Lib.bitLen n.natAbs ≤ 53
    · have hr : restI n = 0 := by
        unfold restI bey
        have : Lib.bitLen n.natAbs - 53 = 0 := by omega
        rw [this]
        exact Int.emod_one n
      rw [hr, Int.sub_zero] at hlo
      omega
    · obtain ⟨b, hbe⟩ : ∃ b, b = bey n := ⟨_, rfl⟩
      have hbl : Lib.bitLen n.natAbs = 53 + b := by rw [hbe]; unfold bey; omega
      have hn0 : n.natAbs ≠ 0 := by
        intro h0
        rw [h0, len_zero] at hb
        omega
      have hlow : 2 ^ (52 + b) ≤ n.natAbs := by
        have h3 := k3 hn0
        rw [hbl, show 53 + b = 52 + b + 1 from by omega, Nat.pow_succ] at h3
        omega
      have hpz : (0 : Int) < 2 ^ b := by
        have := Nat.two_pow_pos b
        exact_mod_cast this
      have hrest : restI n = n % 2 ^ b := by rw [hbe]; rfl
      have hq : n - restI n = (n / 2 ^ b) * 2 ^ b := by
        rw [hrest]
        have := Int.mul_ediv_add_emod n (2 ^ b)
        rw [Int.mul_comm]
        omega
      have hmod : n % 2 ^ b < 2 ^ b := Int.emod_lt_of_pos _ hpz
      have hD : (0 : Int) < 2 ^ b * (U : Int) := Int.mul_pos hpz hUp
      have hp52 : (2 : Int) ^ (52 + b) = 2 ^ 52 * 2 ^ b := Int.pow_add 2 52 b
      have hlowI : (2 : Int) ^ (52 + b) ≤ (n.natAbs : Int) := by exact_mod_cast hlow
      have hmag : 2 ^ (52 + b) * U ≤ mag u := by
        have key : (2 : Int) ^ (52 + b) * (U : Int) ≤ (mag u : Int) := by
          rcases Int.lt_or_le n 0 with hn | hn
          · have e1 : n * (U : Int) ≤ -(2 ^ (52 + b)) * (U : Int) := Int.mul_le_mul_of_nonneg_right (by omega) (Int.le_of_lt hUp)
            rw [Int.neg_mul] at e1
            unfold fval at hge
            split at hge <;> omega
          · have e0 : (2 : Int) ^ (52 + b) ≤ n - restI n := by
              rw [hq, hp52]
              refine Int.mul_le_mul_of_nonneg_right ?_ (Int.le_of_lt hpz)
              rw [Int.le_ediv_iff_mul_le hpz, ← hp52]
              omega
            have e1 : (2 : Int) ^ (52 + b) * (U : Int) ≤ (n - restI n) * (U : Int) := Int.mul_le_mul_of_nonneg_right e0 (Int.le_of_lt hUp)
            unfold fval at hlo
            split at hlo
            · omega
            · have : (0 : Int) < 2 ^ (52 + b) * (U : Int) := Int.mul_pos (by rw [hp52]; exact Int.mul_pos (by decide) hpz) hUp
              omega
        exact_mod_cast key
      obtain ⟨k, hk⟩ := mag_multiple hu hmag
      obtain ⟨j, hj⟩ : ∃ j : Int, fval u = j * (2 ^ b * (U : Int)) := by
        have hkI : (mag u : Int) = (k : Int) * (2 ^ b * (U : Int)) := by rw [hk]; push_cast; rfl
        unfold fval
        split
        · exact ⟨k, hkI⟩
        · exact ⟨-k, by rw [hkI, Int.neg_mul]⟩
      rw [hq, Int.mul_assoc, hj] at hlo
      rw [hj] at hge
      have hup : n * (U : Int) < (n / 2 ^ b + 1) * (2 ^ b * (U : Int)) := by
        rw [← Int.mul_assoc, Int.add_mul, ← hq, Int.one_mul, Int.mul_lt_mul_right hUp, hrest]
        omega
      exact between hD hlo (Int.lt_of_le_of_lt hge hup)

/-- CompareInt is exact, of a finite float. -/
theorem cmpN_fin {n : Int} (h1 : -9223372036854775808 ≤ n) (h2 : n ≤ 9223372036854775807) {u : Nat} (hu : u < 18446744073709551616) (hf : isFin u) : cmpN n u = cmpI (n * (U : Int)) (fval u) := by
  have hUp : (0 : Int) < (U : Int) := by have := U_pos; omega
  obtain ⟨r1, r2, r3, r4, r5, r6⟩ := rest_facts h1 h2
  obtain ⟨g1, g2⟩ := floor_flt h1 h2
  have hk := keyB_fval (flt_lt64 (n - restI n)) hu g1.num hf.num
  rw [g2] at hk
  have hmul : n * (U : Int) = (n - restI n) * (U : Int) + restI n * (U : Int) := by rw [← Int.add_mul]; congr 1; omega
  have hr0 : 0 ≤ restI n * (U : Int) := Int.mul_nonneg r1 (Int.le_of_lt hUp)
  unfold cmpN
  by_cases he : keyB (fltB (n - restI n)) = keyB u
  · rw [if_pos he]
    have hv := hk.1.1 he
    rcases Int.lt_or_eq_of_le r1 with h | h
    · have hp : 0 < restI n * (U : Int) := Int.mul_pos h hUp
      rw [cmpI_pos h, cmpI_pos (by omega)]
    · have e0 : restI n * (U : Int) = 0 := by rw [← h, Int.zero_mul]
      rw [cmpI_zero h.symm, cmpI_zero (by rw [hmul, e0]; omega)]
  · rw [if_neg he]
    by_cases hl : keyB (fltB (n - restI n)) < keyB u
    · have hv := hk.2.1 hl
      rw [cmpI_neg (by omega), cmpI_neg (floor_gap h1 h2 hf hv)]
    · have hv : fval u < (n - restI n) * (U : Int) := by
        have a1 := hk.1
        have a2 := hk.2
        rcases Int.lt_trichotomy ((n - restI n) * (U : Int)) (fval u) with h | h | h
        · exact absurd (a2.2 h) hl
        · exact absurd (a1.2 h) he
        · exact h
      rw [cmpI_pos (by omega), cmpI_pos (by omega)]
theorem cmpN_key {n : Int} (h1 : -9223372036854775808 ≤ n) (h2 : n ≤ 9223372036854775807) {u : Nat} (c : Int) (hne : keyB (fltB (n - restI n)) ≠ keyB u) (hc : cmpI (keyB (fltB (n - restI n))) (keyB u) = c) : cmpN n u = c := by
  unfold cmpN
  rw [if_neg hne, hc]
theorem keyB_fin {u : Nat} (hu : u < 18446744073709551616) (h : isFin u) : 4503599627370495 < keyB u ∧ keyB u < 18442240474082181120 := by
  rw [keyB_num h.num]
  unfold isFin at h
  repeat' split
  all_goals omega
theorem cmpN_up {n : Int} (h1 : -9223372036854775808 ≤ n) (h2 : n ≤ 9223372036854775807) {u : Nat} (h : classB u = 0 ∨ classB u = 5) : cmpN n u = -1 := by
  have hf := keyB_fin (flt_lt64 _) (floor_flt h1 h2).1
  have hk : 18442240474082181120 ≤ keyB u := by
    rcases h with h | h
    · have hn : ¬ isNum u := by
        unfold classB at h
        unfold isNum
        repeat' split at h
        all_goals omega
      rw [keyB_nan hn]
      omega
    · have hu : u = 9218868437227405312 := by
        unfold classB at h
        repeat' split at h
        all_goals omega
      subst hu
      decide +kernel
  exact cmpN_key h1 h2 (-1) (by omega) (cmpI_neg (by omega))
theorem cmpN_down {n : Int} (h1 : -9223372036854775808 ≤ n) (h2 : n ≤ 9223372036854775807) {u : Nat} (hu : u < 18446744073709551616) (h : classB u = 1) : cmpN n u = 1 := by
  have hf := keyB_fin (flt_lt64 _) (floor_flt h1 h2).1
  have hu : u = 18442240474082181120 := by
    unfold classB at h
    repeat' split at h
    all_goals omega
  have hk : keyB u = 4503599627370495 := by
    subst hu
    decide +kernel
  exact cmpN_key h1 h2 1 (by omega) (cmpI_pos (by omega))

/-- A whole number of many digits is no float just below the number whose floor is lower. -/
theorem no_flt {n : Int} (h1 : -9223372036854775808 ≤ n) (h2 : n ≤ 9223372036854775807) {r : Int} (hr0 : 0 ≤ r) (hr : r < restI n) : ¬ LowZ (n - r).natAbs := by
  intro hz
  have hUp : (0 : Int) < (U : Int) := by have := U_pos; omega
  obtain ⟨r1, r2, r3, r4, r5, r6⟩ := rest_facts h1 h2
  obtain ⟨f1, f2, f3⟩ := flt_exact (n := n - r) hz (by omega)
  have h := floor_gap h1 h2 f2 (by rw [f3]; exact Int.mul_lt_mul_of_pos_right (by omega) hUp)
  rw [f3, Int.mul_lt_mul_right hUp] at h
  omega
/-- The bits of a whole number that is a float are those that say so. -/
theorem flt_unique {n : Int} {u : Nat} (hu : u < 18446744073709551616) (hf : isFin u) (hz : LowZ n.natAbs) (hn : n.natAbs < 18446744073709551616) (h0 : n ≠ 0) (hv : fval u = n * (U : Int)) : fltB n = u := by
  have hUp : (0 : Int) < (U : Int) := by have := U_pos; omega
  obtain ⟨f1, f2, f3⟩ := flt_exact hz hn
  have he := (fval_eq f1 hu).1 (by rw [f3, hv])
  have hne : fval u ≠ 0 := by
    rw [hv]
    intro h
    rcases Int.mul_eq_zero.1 h with h | h
    · exact h0 h
    · omega
  have hr : u % 9223372036854775808 ≠ 0 := by
    intro h
    apply hne
    unfold fval mag
    rw [h]
    split <;> decide
  unfold srung at he
  split at he <;> split at he <;> omega

end Go.Proofs.YtinbdneajbommaaDoor

