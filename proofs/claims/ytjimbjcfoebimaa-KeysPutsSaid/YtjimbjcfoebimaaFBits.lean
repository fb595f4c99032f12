/-
  Plain facts on a float's bits: its class, its stand-in, its key, and how they are reckoned.
-/
import Derived.Test.YtjimbjcfoebimaaFlt
import Derived.Laws.Bits64
import Derived.Laws.Bits64b
import Derived.Laws.BitsAllLaws
import Derived.IntWalk
import Derived.RowKit
set_option linter.unusedVariables false
set_option maxRecDepth 100000
namespace Go.Proofs.Ytjimbjcfoebimaa
open Go.RowKit

/-- The class of a float of the bits u. -/
def classB (u : Nat) : Int :=
  if 9218868437227405312 < u % 9223372036854775808 then 0
  else if u % 9223372036854775808 = 0 then 3
  else if u = 9218868437227405312 then 5
  else if u % 9223372036854775808 = 9218868437227405312 then 1
  else if u < 9223372036854775808 then 4 else 2
/-- The bits of the float that stands for it. -/
def canonB (u : Nat) : Nat :=
  if 9218868437227405312 < u % 9223372036854775808 then 9221120237041090560
  else if u % 9223372036854775808 = 0 then 0 else u
/-- Its key. -/
def keyB (u : Nat) : Nat :=
  if canonB u = 9221120237041090560 then 18446744073709551615
  else if 9223372036854775808 ≤ canonB u then 18446744073709551615 - canonB u
  else canonB u + 9223372036854775808

theorem and_sign {u : Nat} (hu : u < 18446744073709551616) : u &&& (18446744073709551615 - 9223372036854775808) = u % 9223372036854775808 := by
  have := Nat.and_two_pow_sub_one_eq_mod u 63
  exact this
theorem andNot_sign {u : Nat} (hu : u < 18446744073709551616) : bits .andNot .u64 (u : Int) 9223372036854775808 = ((u % 9223372036854775808 : Nat) : Int) := by
  have h := u64_andNot_nat u 9223372036854775808 hu (by omega)
  rw [and_sign hu] at h
  exact h
theorem canonB_lt {u : Nat} (hu : u < 18446744073709551616) : canonB u < 18446744073709551616 := by
  unfold canonB
  repeat' split
  all_goals omega
theorem or_sign {u : Nat} (hu : u < 9223372036854775808) : bits .or .u64 (u : Int) 9223372036854775808 = ((u + 9223372036854775808 : Nat) : Int) := by
  have h := bits_or_u64_nat u 9223372036854775808 (by omega) (by omega)
  have h1 := Nat.two_pow_add_eq_or_of_lt (i := 63) (b := u) hu 1
  rw [Nat.or_comm, Nat.mul_one] at h1
  have h2 : (2 : Nat) ^ 63 = 9223372036854775808 := by decide
  rw [h2] at h1
  rw [← h1, Nat.add_comm] at h
  exact h
theorem not_walk {u : Nat} (hu : u < 18446744073709551616) : bits .xor .u64 IntKind.u64.max (u : Int) = ((18446744073709551615 - u : Nat) : Int) := by
  have h := bits_xor_u64_nat 18446744073709551615 u (by omega) hu
  have h0 : IntKind.u64.max = ((18446744073709551615 : Nat) : Int) := rfl
  rw [h0, h]
  have h1 : (18446744073709551615 : Nat) = 2 ^ 64 - 1 := by decide
  have h2 : 18446744073709551615 ^^^ u = 18446744073709551615 - u := by
    apply Nat.eq_of_testBit_eq
    intro i
    have h3 := Nat.testBit_two_pow_sub_succ (x := u) (n := 64) hu i
    rw [Nat.testBit_xor, h1, Nat.testBit_two_pow_sub_one]
    have h4 : 2 ^ 64 - 1 - u = 2 ^ 64 - (u + 1) := by omega
    rw [h4, h3]
    by_cases hi : i < 64
    · simp [hi]
    · rw [Nat.testBit_lt_two_pow (Nat.lt_of_lt_of_le (show u < 2 ^ 64 from hu) (Nat.pow_le_pow_right (by decide) (by omega)))]
      simp [hi]
  rw [h2]

/-- The order of two numbers as Go's cmp.Compare tells it. -/
def cmpI (a b : Int) : Int := if a < b then -1 else if b < a then 1 else 0

/-- The bits that a key is turned back to. -/
def uncB (k : Nat) : Nat := if 9223372036854775808 ≤ k then k - 9223372036854775808 else 18446744073709551615 - k
theorem uncB_lt {k : Nat} (hk : k < 18446744073709551616) : uncB k < 18446744073709551616 := by unfold uncB; split <;> omega
/-- The float of a key. -/
def ofB (k : Nat) : Nat × Bool := if keyB (canonB (uncB k)) = k then (canonB (uncB k), true) else (0, false)

theorem canonB_idem (u : Nat) : canonB (canonB u) = canonB u := by
  unfold canonB
  repeat' split
  all_goals first | rfl | (exfalso; omega)
theorem keyB_canon (u : Nat) : keyB (canonB u) = keyB u := by
  unfold keyB
  rw [canonB_idem]
theorem canonB_nan {u : Nat} (h : ¬ isNum u) : canonB u = 9221120237041090560 := by
  unfold isNum at h
  unfold canonB
  rw [if_pos (by omega)]
theorem canonB_num {u : Nat} (h : isNum u) : canonB u = if u % 9223372036854775808 = 0 then 0 else u := by
  unfold isNum at h
  unfold canonB
  rw [if_neg (by omega)]
theorem keyB_nan {u : Nat} (h : ¬ isNum u) : keyB u = 18446744073709551615 := by
  unfold keyB
  rw [canonB_nan h, if_pos rfl]
theorem keyB_num {u : Nat} (h : isNum u) : keyB u = if u % 9223372036854775808 = 0 then 9223372036854775808 else if u < 9223372036854775808 then u + 9223372036854775808 else 18446744073709551615 - u := by
  unfold keyB
  rw [canonB_num h]
  unfold isNum at h
  by_cases h0 : u % 9223372036854775808 = 0
  · rw [if_pos h0, if_pos h0]
    repeat' split
    all_goals omega
  · rw [if_neg h0, if_neg h0]
    repeat' split
    all_goals omega
theorem keyB_num_le {u : Nat} (hu : u < 18446744073709551616) (h : isNum u) : keyB u ≤ 18442240474082181120 := by
  rw [keyB_num h]
  unfold isNum at h
  repeat' split
  all_goals omega
theorem keyB_lt {u : Nat} (hu : u < 18446744073709551616) : keyB u < 18446744073709551616 := by
  by_cases h : isNum u
  · have := keyB_num_le hu h
    omega
  · rw [keyB_nan h]
    omega
theorem uncB_keyB {u : Nat} (hu : u < 18446744073709551616) : canonB (uncB (keyB u)) = canonB u := by
  by_cases h : isNum u
  · have hk := keyB_num h
    generalize keyB u = k at hk
    rw [canonB_num h]
    have hi : isNum (uncB k) := by
      unfold isNum at h ⊢
      unfold uncB
      repeat' split at hk
      all_goals split <;> omega
    rw [canonB_num hi]
    unfold isNum at h
    unfold uncB
    repeat' split at hk
    all_goals repeat' split
    all_goals omega
  · rw [keyB_nan h, canonB_nan h]
    have hi : ¬ isNum (uncB 18446744073709551615) := by
      unfold isNum uncB
      split <;> omega
    rw [canonB_nan hi]
theorem ofB_keyB {u : Nat} (hu : u < 18446744073709551616) : ofB (keyB u) = (canonB u, true) := by
  unfold ofB
  rw [uncB_keyB hu, keyB_canon, if_pos rfl]

/-- The order of two floats that are no NaN is that of their keys. -/
theorem order_keys {u v : Nat} (hu : u < 18446744073709551616) (hv : v < 18446744073709551616) (nu : isNum u) (nv : isNum v) : Ieee.double.order u v = some (compare (keyB u : Int) (keyB v : Int)) := by
  rw [order_bits hu hv nu nv, keyB_num nu, keyB_num nv]
  congr 1
  unfold isNum at nu nv
  refine compare_congr ?_ ?_
  · unfold srung
    repeat' split
    all_goals omega
  · unfold srung
    repeat' split
    all_goals omega
theorem read_nan {u : Nat} (h : ¬ isNum u) : ∃ s t, Ieee.double.read u = .nan s t := by
  unfold isNum at h
  unfold Ieee.Format.read
  simp only [dbl_sign, dbl_binade, dbl_inf]
  rw [if_neg (by omega), if_neg (by omega), if_neg (by omega)]
  exact ⟨_, _, rfl⟩
theorem order_nan {u v : Nat} (h : ¬ isNum u ∨ ¬ isNum v) : Ieee.double.order u v = none := by
  unfold Ieee.Format.order
  rcases h with h | h
  · obtain ⟨s, t, h⟩ := read_nan h
    rw [h]
    rfl
  · obtain ⟨s, t, h⟩ := read_nan h
    rw [h]
    cases Ieee.double.read u <;> rfl
theorem fmt64 : FloatKind.f64.format = Ieee.double := rfl
theorem cmpI_neg {a b : Int} (h : a < b) : cmpI a b = -1 := by unfold cmpI; rw [if_pos h]
theorem cmpI_zero {a b : Int} (h : a = b) : cmpI a b = 0 := by unfold cmpI; rw [if_neg (by omega), if_neg (by omega)]
theorem cmpI_pos {a b : Int} (h : b < a) : cmpI a b = 1 := by unfold cmpI; rw [if_neg (by omega), if_pos h]

end Go.Proofs.Ytjimbjcfoebimaa
