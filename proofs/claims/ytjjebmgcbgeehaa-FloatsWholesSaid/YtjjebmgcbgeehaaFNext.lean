/-
  math.Inf, math.Nextafter towards it, and a float with the other sign: contracts for the walks, in the words of a float's bits.
-/
import Derived.Test.YtjjebmgcbgeehaaFKey
import Derived.Test.YtjjebmgcbgeehaaNum
import Derived.Test.YtjjebmgcbgeehaaFInt
import Derived.Test.YtjjebmgcbgeehaaFWhole
set_option linter.unusedVariables false
namespace Go.Proofs.Ytjjebmgcbgeehaa
open Go.RowKit

/-- The bits with the other sign. -/
def negB (u : Nat) : Nat := if u < 9223372036854775808 then u + 9223372036854775808 else u - 9223372036854775808
theorem neg_walk {u : Nat} (hu : u < 18446744073709551616) : Op.negFloat .f64 u = negB u := by
  unfold Op.negFloat negB
  have h : 2 ^ (FloatKind.f64.format.exponentBits + FloatKind.f64.format.fractionBits) = 9223372036854775808 := by decide
  rw [h]
  split
  · exact xor_top (by omega)
  · exact xor_top' (by omega) hu
theorem negB_lt {u : Nat} (hu : u < 18446744073709551616) : negB u < 18446744073709551616 := by unfold negB; split <;> omega
theorem negB_num {u : Nat} (hu : u < 18446744073709551616) (h : isNum u) : isNum (negB u) := by
  unfold isNum at h ⊢
  unfold negB
  split <;> omega
theorem keyB_neg {u : Nat} (hu : u < 18446744073709551616) (h : isNum u) : keyB (negB u) = if u % 9223372036854775808 = 0 then 9223372036854775808 else 18446744073709551615 - keyB u := by
  rw [keyB_num h, keyB_num (negB_num hu h)]
  unfold isNum at h
  have h1 : negB u % 9223372036854775808 = u % 9223372036854775808 := by
    unfold negB
    split <;> omega
  rw [h1]
  by_cases h0 : u % 9223372036854775808 = 0
  · rw [if_pos h0, if_pos h0]
  · rw [if_neg h0, if_neg h0, if_neg h0]
    unfold negB
    repeat' split
    all_goals omega
theorem keyB_ne {u : Nat} (hu : u < 18446744073709551616) (h : isNum u) : keyB u = 9223372036854775808 ↔ u % 9223372036854775808 = 0 := by
  rw [keyB_num h]
  unfold isNum at h
  repeat' split
  all_goals omega
theorem keyB_gap {u : Nat} (hu : u < 18446744073709551616) (h : isNum u) : keyB u ≠ 9223372036854775807 := by
  rw [keyB_num h]
  unfold isNum at h
  repeat' split
  all_goals omega
theorem cmp_neg {u v : Nat} (hu : u < 18446744073709551616) (hv : v < 18446744073709551616) (nu : isNum u) (nv : isNum v) : cmpI (keyB (negB v)) (keyB (negB u)) = cmpI (keyB u) (keyB v) := by
  rw [keyB_neg hu nu, keyB_neg hv nv]
  have h1 := keyB_ne hu nu
  have h2 := keyB_ne hv nv
  have h3 := keyB_lt hu
  have h4 := keyB_lt hv
  have h5 := keyB_gap hu nu
  have h6 := keyB_gap hv nv
  generalize keyB u = x at *
  generalize keyB v = y at *
  by_cases hx : x = 9223372036854775808
  · rw [if_pos (h1.1 hx)]
    by_cases hy : y = 9223372036854775808
    · rw [if_pos (h2.1 hy), cmpI_zero rfl, cmpI_zero (by omega)]
    · rw [if_neg (fun h => hy (h2.2 h))]
      rcases Nat.lt_trichotomy x y with h | h | h
      · rw [cmpI_neg (by omega), cmpI_neg (by omega)]
      · omega
      · rw [cmpI_pos (by omega), cmpI_pos (by omega)]
  · rw [if_neg (fun h => hx (h1.2 h))]
    by_cases hy : y = 9223372036854775808
    · rw [if_pos (h2.1 hy)]
      rcases Nat.lt_trichotomy x y with h | h | h
      · rw [cmpI_neg (by omega), cmpI_neg (by omega)]
      · omega
      · rw [cmpI_pos (by omega), cmpI_pos (by omega)]
    · rw [if_neg (fun h => hy (h2.2 h))]
      rcases Nat.lt_trichotomy x y with h | h | h
      · rw [cmpI_neg (by omega), cmpI_neg (by omega)]
      · rw [cmpI_zero (by omega), cmpI_zero (by omega)]
      · rw [cmpI_pos (by omega), cmpI_pos (by omega)]
theorem class_neg {u : Nat} (hu : u < 18446744073709551616) (h : isNum u) : classB (negB u) = 6 - classB u := by
  unfold isNum at h
  have h1 : negB u % 9223372036854775808 = u % 9223372036854775808 := by
    unfold negB
    split <;> omega
  unfold classB
  rw [h1]
  unfold negB
  repeat' split
  all_goals first | rfl | omega | (exfalso; omega)

/-- The bits of the next float above a finite one. -/
def nextB (u : Nat) : Nat := if u % 9223372036854775808 = 0 then 1 else if u < 9223372036854775808 then u + 1 else u - 1
theorem nextB_lt {u : Nat} (hu : u < 18446744073709551616) (h : isFin u) : nextB u < 18446744073709551616 := by
  unfold isFin at h
  unfold nextB
  repeat' split
  all_goals omega
theorem nextB_num {u : Nat} (hu : u < 18446744073709551616) (h : isFin u) : isNum (nextB u) := by
  unfold isFin at h
  unfold nextB isNum
  repeat' split
  all_goals omega
theorem keyB_next {u : Nat} (hu : u < 18446744073709551616) (h : isFin u) : keyB (nextB u) = if u = 9223372036854775809 then 9223372036854775808 else keyB u + 1 := by
  rw [keyB_num h.num, keyB_num (nextB_num hu h)]
  unfold isFin at h
  unfold nextB
  repeat' split
  all_goals omega

set_option maxHeartbeats 400000 in
theorem isNaN_any {w : World} (u : Nat) :
    Calls Try.prog 32 #[.float .f64 u] w fun e w' => e = .returned (.bool (FloatKind.f64.format.order u u != some Ordering.eq)) ∧ w = w' := by
  go_enter Try.func32, Try.ntmps32
  go_wp2
  go_ret
  exact ⟨rfl, rfl⟩
set_option maxHeartbeats 400000 in
theorem inf_any {w : World} :
    Calls Try.prog 20 #[.int .i64 1] w fun e w' => e = .returned (.float .f64 9218868437227405312) ∧ w = w' := by
  have hx : (callFunc 31 #[.int .u64 9218868437227405312]).run Try.prog w = .ok (.value (.float .f64 9218868437227405312)) w := run_frombits 9218868437227405312 w
  go_enter Try.func20, Try.ntmps20
  go_wp2
  go_ret
  exact ⟨rfl, rfl⟩
set_option maxHeartbeats 400000 in
theorem copysign_one {w : World} :
    Calls Try.prog 34 #[.float .f64 1, .float .f64 9218868437227405312] w fun e w' => e = .returned (.float .f64 1) ∧ w = w' := by
  have hx : (callFunc 31 #[.int .u64 1]).run Try.prog w = .ok (.value (.float .f64 1)) w := run_frombits 1 w
  have hy : (callFunc 8 #[.float .f64 1]).run Try.prog w = .ok (.value (.int .u64 1)) w := run_bits 1 w
  have hz : (callFunc 8 #[.float .f64 9218868437227405312]).run Try.prog w = .ok (.value (.int .u64 9218868437227405312)) w := run_bits 9218868437227405312 w
  have e1 : bits BinOp.andNot IntKind.u64 1 9223372036854775808 = 1 := by decide +kernel
  have e2 : bits BinOp.and IntKind.u64 9218868437227405312 9223372036854775808 = 0 := by decide +kernel
  have e3 : bits BinOp.or IntKind.u64 1 0 = 1 := by decide +kernel
  go_enter Try.func34, Try.ntmps34
  go_wp2
  go_ret
  exact ⟨rfl, rfl⟩

set_option maxHeartbeats 1600000 in
theorem next_any {w : World} (u : Nat) (hu : u < 18446744073709551616) (h : isFin u) :
    Calls Try.prog 19 #[.float .f64 u, .float .f64 9218868437227405312] w fun e w' => e = .returned (.float .f64 (nextB u)) ∧ w = w' := by
  have hx : (callFunc 31 #[.int .u64 1]).run Try.prog w = .ok (.value (.float .f64 1)) w := run_frombits 1 w
  have hy := run_bits u w
  have hz := Lib.hid (run_frombits (nextB u) w)
  have HC := Lib.hid (copysign_one (w := w))
  have N1 := isNaN_any (w := w) u
  have o1 := order_keys hu hu h.num h.num
  rw [Int.compare_eq_eq.2 rfl] at o1
  rw [fmt64, o1] at N1
  have N1 := Lib.hid N1
  have N2 := isNaN_any (w := w) 9218868437227405312
  have o2 := order_keys (u := 9218868437227405312) (v := 9218868437227405312) (by omega) (by omega) (by unfold isNum; omega) (by unfold isNum; omega)
  rw [Int.compare_eq_eq.2 rfl] at o2
  rw [fmt64, o2] at N2
  have N2 := Lib.hid N2
  have o3 := order_bits hu (v := 9218868437227405312) (by omega) h.num (by unfold isNum; omega)
  have o4 := order_bits (u := 9218868437227405312) (by omega) hu (by unfold isNum; omega) h.num
  have o5 := order_bits hu (v := 0) (by omega) h.num (by unfold isNum; omega)
  rw [srung_pos (u := 9218868437227405312) (by omega)] at o3 o4
  rw [srung_pos (u := 0) (by omega)] at o5
  unfold isFin at h
  have c3 : compare (srung u) ((9218868437227405312 : Nat) : Int) = .lt := by
    rw [Int.compare_eq_lt]
    unfold srung
    split <;> omega
  have c4 : compare ((9218868437227405312 : Nat) : Int) (srung u) = .gt := by
    rw [Int.compare_eq_gt]
    unfold srung
    split <;> omega
  rw [c3] at o3
  rw [c4] at o4
  have p3 : (FloatKind.f64.format.order u 9218868437227405312 == some Ordering.eq) = false := by rw [fmt64, o3]; rfl
  have p4 : (FloatKind.f64.format.order 9218868437227405312 u == some Ordering.gt) = true := by rw [fmt64, o4]; rfl
  by_cases h0 : u % 9223372036854775808 = 0
  · have c5 : compare (srung u) ((0 : Nat) : Int) = .eq := by
      rw [Int.compare_eq_eq]
      unfold srung
      split <;> omega
    rw [c5] at o5
    have p5 : (FloatKind.f64.format.order u 0 == some Ordering.eq) = true := by rw [fmt64, o5]; rfl
    have HN : Hid (nextB u = 1) := Lib.hid (by unfold nextB; rw [if_pos h0])
    generalize nextB u = n at HN hz ⊢
    clear o1 o2 o3 o4 o5 c3 c4 c5 h h0 hu
    go_enter Try.func19, Try.ntmps19
    go_wp2_with fail
    refine N1.out.mono ?_; rintro e w' ⟨rfl, rfl⟩
    go_wp2_with fail
    refine N2.out.mono ?_; rintro e w' ⟨rfl, rfl⟩
    go_wp2_with fail
    refine HC.out.mono ?_; rintro e w' ⟨rfl, rfl⟩
    go_wp2
    go_ret
    exact ⟨ret_flt HN.out.symm, rfl⟩
  · by_cases h1 : u < 9223372036854775808
    · have c5 : compare (srung u) ((0 : Nat) : Int) = .gt := by
        rw [Int.compare_eq_gt]
        unfold srung
        split <;> omega
      rw [c5] at o5
      have p5 : (FloatKind.f64.format.order u 0 == some Ordering.eq) = false := by rw [fmt64, o5]; rfl
      have p6 : (FloatKind.f64.format.order u 0 == some Ordering.gt) = true := by rw [fmt64, o5]; rfl
      have e1 : IntKind.u64.wrap ((u : Int) + 1) = (nextB u : Int) := by unfold nextB; rw [if_neg h0, if_pos h1, IntKind.wrap_u64]; omega
      have hz' := hz.out
      generalize nextB u = n at e1 hz' hz ⊢
      clear o1 o2 o3 o4 o5 c3 c4 c5 h h0 h1 hu
      go_enter Try.func19, Try.ntmps19
      go_wp2_with fail
      refine N1.out.mono ?_; rintro e w' ⟨rfl, rfl⟩
      go_wp2_with fail
      refine N2.out.mono ?_; rintro e w' ⟨rfl, rfl⟩
      go_wp2
      go_ret
      exact ⟨rfl, rfl⟩
    · have c5 : compare (srung u) ((0 : Nat) : Int) = .lt := by
        rw [Int.compare_eq_lt]
        unfold srung
        split <;> omega
      rw [c5] at o5
      have p5 : (FloatKind.f64.format.order u 0 == some Ordering.eq) = false := by rw [fmt64, o5]; rfl
      have p6 : (FloatKind.f64.format.order u 0 == some Ordering.gt) = false := by rw [fmt64, o5]; rfl
      have e1 : IntKind.u64.wrap ((u : Int) - 1) = (nextB u : Int) := by unfold nextB; rw [if_neg h0, if_neg h1, IntKind.wrap_u64]; omega
      have hz' := hz.out
      generalize nextB u = n at e1 hz' hz ⊢
      clear o1 o2 o3 o4 o5 c3 c4 c5 h h0 h1 hu
      go_enter Try.func19, Try.ntmps19
      go_wp2_with fail
      refine N1.out.mono ?_; rintro e w' ⟨rfl, rfl⟩
      go_wp2_with fail
      refine N2.out.mono ?_; rintro e w' ⟨rfl, rfl⟩
      go_wp2
      go_ret
      exact ⟨rfl, rfl⟩

theorem classB_0 {u : Nat} : classB u = 0 ↔ ¬ isNum u := by
  unfold classB isNum
  repeat' split
  all_goals omega
theorem classB_bd (u : Nat) : 0 ≤ classB u ∧ classB u ≤ 5 := by
  unfold classB
  repeat' split
  all_goals omega
theorem classB_inf {u : Nat} (h : isNum u) : isFin u ∨ classB u = 5 ∨ classB u = 1 := by
  unfold isNum at h
  unfold classB isFin
  repeat' split
  all_goals omega
theorem classB_fin {u : Nat} (h : isFin u) : classB u ≠ 5 ∧ classB u ≠ 1 := by
  unfold isFin at h
  unfold classB
  repeat' split
  all_goals omega
end Go.Proofs.Ytjjebmgcbgeehaa
