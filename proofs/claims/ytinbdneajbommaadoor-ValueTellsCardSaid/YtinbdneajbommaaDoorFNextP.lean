/-
  A float with the other sign, the next float, what the classes are: plain facts.
-/
import Derived.Test.YtinbdneajbommaaDoorFKey
import Derived.Test.YtinbdneajbommaaDoorOrd
import Derived.Test.YtinbdneajbommaaDoorFBits
import Derived.Test.YtinbdneajbommaaDoorFWholeP
set_option linter.unusedVariables false
set_option maxRecDepth 100000
namespace Go.Proofs.YtinbdneajbommaaDoor
open Go.RowKit

/-- The bits with the other sign. -/
def negB (u : Nat) : Nat := if u < 9223372036854775808 then u + 9223372036854775808 else u - 9223372036854775808
theorem neg_walk {u : Nat} (hu : u < 18446744073709551616) : Op.negFloat .f64 u = negB u := by
  unfold Op.negFloat negB
  have h : 2 ^ (FloatKind.f64.format.exponentBits + FloatKind.f64.format.fractionBits) = 9223372036854775808 := by decide
  rw [h]
  split
  · exact xor_top (by omega)
  · exact xor_top' (by omega) hu
theorem negB_lt {u : Nat} (hu : u < 18446744073709551616) : negB u < 18446744073709551616 := by unfold negB; split <;> omega
theorem negB_num {u : Nat} (hu : u < 18446744073709551616) (h : isNum u) : isNum (negB u) := by
  unfold isNum at h ⊢
  unfold negB
  split <;> omega
theorem keyB_neg {u : Nat} (hu : u < 18446744073709551616) (h : isNum u) : keyB (negB u) = if u % 9223372036854775808 = 0 then 9223372036854775808 else 18446744073709551615 - keyB u := by
  rw [keyB_num h, keyB_num (negB_num hu h)]
  unfold isNum at h
  have h1 : negB u % 9223372036854775808 = u % 9223372036854775808 := by
    unfold negB
    split <;> omega
  rw [h1]
  by_cases h0 : u % 9223372036854775808 = 0
  · rw [if_pos h0, if_pos h0]
  · rw [if_neg h0, if_neg h0, if_neg h0]
    unfold negB
    repeat' split
    all_goals omega
theorem keyB_ne {u : Nat} (hu : u < 18446744073709551616) (h : isNum u) : keyB u = 9223372036854775808 ↔ u % 9223372036854775808 = 0 := by
  rw [keyB_num h]
  unfold isNum at h
  repeat' split
  all_goals omega
theorem keyB_gap {u : Nat} (hu : u < 18446744073709551616) (h : isNum u) : keyB u ≠ 9223372036854775807 := by
  rw [keyB_num h]
  unfold isNum at h
  repeat' split
  all_goals omega
theorem keyN_neg {u v : Nat} (hu : u < 18446744073709551616) (hv : v < 18446744073709551616) (nu : isNum u) (nv : isNum v) : cmpI (keyB (negB v)) (keyB (negB u)) = cmpI (keyB u) (keyB v) := by
  rw [keyB_neg hu nu, keyB_neg hv nv]
  have h1 := keyB_ne hu nu
  have h2 := keyB_ne hv nv
  have h3 := keyB_lt hu
  have h4 := keyB_lt hv
  have h5 := keyB_gap hu nu
  have h6 := keyB_gap hv nv
  generalize keyB u = x at *
  generalize keyB v = y at *
  by_cases hx : x = 9223372036854775808
  · rw [if_pos (h1.1 hx)]
    by_cases hy : y = 9223372036854775808
    · rw [if_pos (h2.1 hy), cmpI_zero rfl, cmpI_zero (by omega)]
    · rw [if_neg (fun h => hy (h2.2 h))]
      rcases Nat.lt_trichotomy x y with h | h | h
      · rw [cmpI_neg (by omega), cmpI_neg (by omega)]
      · omega
      · rw [cmpI_pos (by omega), cmpI_pos (by omega)]
  · rw [if_neg (fun h => hx (h1.2 h))]
    by_cases hy : y = 9223372036854775808
    · rw [if_pos (h2.1 hy)]
      rcases Nat.lt_trichotomy x y with h | h | h
      · rw [cmpI_neg (by omega), cmpI_neg (by omega)]
      · omega
      · rw [cmpI_pos (by omega), cmpI_pos (by omega)]
    · rw [if_neg (fun h => hy (h2.2 h))]
      rcases Nat.lt_trichotomy x y with h | h | h
      · rw [cmpI_neg (by omega), cmpI_neg (by omega)]
      · rw [cmpI_zero (by omega), cmpI_zero (by omega)]
      · rw [cmpI_pos (by omega), cmpI_pos (by omega)]
theorem class_neg {u : Nat} (hu : u < 18446744073709551616) (h : isNum u) : classB (negB u) = 6 - classB u := by
  unfold isNum at h
  have h1 : negB u % 9223372036854775808 = u % 9223372036854775808 := by
    unfold negB
    split <;> omega
  unfold classB
  rw [h1]
  unfold negB
  repeat' split
  all_goals first | rfl | omega | (exfalso; omega)

/-- The bits of the next float above a finite one. -/
def nextB (u : Nat) : Nat := if u % 9223372036854775808 = 0 then 1 else if u < 9223372036854775808 then u + 1 else u - 1
theorem nextB_lt {u : Nat} (hu : u < 18446744073709551616) (h : isFin u) : nextB u < 18446744073709551616 := by
  unfold isFin at h
  unfold nextB
  repeat' split
  all_goals omega
theorem nextB_num {u : Nat} (hu : u < 18446744073709551616) (h : isFin u) : isNum (nextB u) := by
  unfold isFin at h
  unfold nextB isNum
  repeat' split
  all_goals omega
theorem keyB_next {u : Nat} (hu : u < 18446744073709551616) (h : isFin u) : keyB (nextB u) = if u = 9223372036854775809 then 9223372036854775808 else keyB u + 1 := by
  rw [keyB_num h.num, keyB_num (nextB_num hu h)]
  unfold isFin at h
  unfold nextB
  repeat' split
  all_goals omega
theorem classB_0 {u : Nat} : classB u = 0 ↔ ¬ isNum u := by
  unfold classB isNum
  repeat' split
  all_goals omega
theorem classB_bd (u : Nat) : 0 ≤ classB u ∧ classB u ≤ 5 := by
  unfold classB
  repeat' split
  all_goals omega
theorem classB_inf {u : Nat} (h : isNum u) : isFin u ∨ classB u = 5 ∨ classB u = 1 := by
  unfold isNum at h
  unfold classB isFin
  repeat' split
  all_goals omega
theorem classB_fin {u : Nat} (h : isFin u) : classB u ≠ 5 ∧ classB u ≠ 1 := by
  unfold isFin at h
  unfold classB
  repeat' split
  all_goals omega
end Go.Proofs.YtinbdneajbommaaDoor
