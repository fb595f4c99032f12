/-
  FloatsTurns: the order of two floats is the other way round for those with the other sign, but for NaN; the next float above a finite one has the next key. Conditions: none.
-/
import Derived.Test.YtjjebmgcbgeehaaFNext
set_option linter.unusedVariables false
namespace Go.Proofs.Ytjjebmgcbgeehaa
open Go.RowKit

theorem unary_neg_flt {u : Nat} (hu : u < 18446744073709551616) : Op.unary .neg (.float .f64 u) = pure (.float .f64 (negB u)) := by
  rw [← neg_walk hu]
  rfl
theorem classB_0 {u : Nat} : classB u = 0 ↔ ¬ isNum u := by
  unfold classB isNum
  repeat' split
  all_goals omega
theorem classB_bd (u : Nat) : 0 ≤ classB u ∧ classB u ≤ 5 := by
  unfold classB
  repeat' split
  all_goals omega
theorem classB_inf {u : Nat} (h : isNum u) : isFin u ∨ classB u = 5 ∨ classB u = 1 := by
  unfold isNum at h
  unfold classB isFin
  repeat' split
  all_goals omega
theorem classB_fin {u : Nat} (h : isFin u) : classB u ≠ 5 ∧ classB u ≠ 1 := by
  unfold isFin at h
  unfold classB
  repeat' split
  all_goals omega
theorem order_self {u : Nat} (hu : u < 18446744073709551616) (nu : isNum u) : Ieee.double.order u u = some .eq := by
  rw [order_keys hu hu nu nu, Int.compare_eq_eq.2 rfl]

set_option maxHeartbeats 800000 in
theorem lawTurns_nan {w : World} (u v : Nat) (hu : u < 18446744073709551616) (hv : v < 18446744073709551616) (h : ¬ isNum u ∨ ¬ isNum v) :
    Calls Try.prog 6 #[.float .f64 u, .float .f64 v] w fun e w' => e = .returned (.bool true) ∧ w = w' := by
  have K1 := class_any (w := w) 4607182418800017408 (by omega)
  rw [show classB 4607182418800017408 = 4 from by decide +kernel] at K1
  have K1 := Lib.hid K1
  have K2 := class_any (w := w) u hu
  have K3 := class_any (w := w) v hv
  by_cases nu : isNum u
  · have nv : ¬ isNum v := by rcases h with h | h; exact absurd nu h; exact h
    have o1 := order_self hu nu
    have o2 := order_nan (u := v) (v := v) (.inl nv)
    have p1 : (FloatKind.f64.format.order u u != some Ordering.eq) = false := by rw [fmt64, o1]; rfl
    have p2 : (FloatKind.f64.format.order v v != some Ordering.eq) = true := by rw [fmt64, o2]; rfl
    rw [classB_0.2 nv] at K3
    have hc : (classB u == 0) = false := beq_eq_false_iff_ne.2 (fun h => classB_0.1 h nu)
    have K2 := Lib.hid K2
    have K3 := Lib.hid K3
    generalize classB u = c at *
    clear o1 o2 nu nv h hu hv
    go_enter Try.func6, Try.ntmps6
    go_wp2_with fail
    refine K1.out.mono ?_; rintro e w' ⟨rfl, rfl⟩
    go_wp2_with fail
    refine K2.out.mono ?_; rintro e w' ⟨rfl, rfl⟩
    go_wp2_with fail
    refine K3.out.mono ?_; rintro e w' ⟨rfl, rfl⟩
    go_wp2
    go_ret
    exact ⟨rfl, rfl⟩
  · have o1 := order_nan (u := u) (v := u) (.inl nu)
    have p1 : (FloatKind.f64.format.order u u != some Ordering.eq) = true := by rw [fmt64, o1]; rfl
    rw [classB_0.2 nu] at K2
    have K2 := Lib.hid K2
    clear o1 nu h hu hv K3
    go_enter Try.func6, Try.ntmps6
    go_wp2_with fail
    refine K1.out.mono ?_; rintro e w' ⟨rfl, rfl⟩
    go_wp2_with fail
    refine K2.out.mono ?_; rintro e w' ⟨rfl, rfl⟩
    go_wp2
    go_ret
    exact ⟨rfl, rfl⟩

set_option maxHeartbeats 1600000 in
theorem lawTurns_num {w : World} (u v : Nat) (hu : u < 18446744073709551616) (hv : v < 18446744073709551616) (nu : isNum u) (nv : isNum v) :
    Calls Try.prog 6 #[.float .f64 u, .float .f64 v] w fun e w' => e = .returned (.bool true) ∧ w = w' := by
  have K1 := class_any (w := w) 4607182418800017408 (by omega)
  rw [show classB 4607182418800017408 = 4 from by decide +kernel] at K1
  have K1 := Lib.hid K1
  have K2 := Lib.hid (class_any (w := w) u hu)
  have K4 := class_any (w := w) (negB u) (negB_lt hu)
  rw [class_neg hu nu] at K4
  have K4 := Lib.hid K4
  have C1 := Lib.hid (compare_any (w := w) u v hu hv)
  have C2 := compare_any (w := w) (negB v) (negB u) (negB_lt hv) (negB_lt hu)
  rw [cmp_neg hu hv nu nv] at C2
  have C2 := Lib.hid C2
  have o1 := order_self hu nu
  have o2 := order_self hv nv
  have p1 : (FloatKind.f64.format.order u u != some Ordering.eq) = false := by rw [fmt64, o1]; rfl
  have p2 : (FloatKind.f64.format.order v v != some Ordering.eq) = false := by rw [fmt64, o2]; rfl
  have hn1 := unary_neg_flt hu
  have hn2 := unary_neg_flt hv
  have hbd := classB_bd u
  have hsum : IntKind.i64.wrap (classB u + (6 - classB u)) = 6 := by rw [IntWalk.i64_in _ (by omega)]; omega
  have hcc : (cmpI (keyB u) (keyB v) != cmpI (keyB u) (keyB v)) = false := by simp
  have I1 := Lib.hid (inf_any (w := w))
  rcases classB_inf nu with hf | hc
  · have hne := classB_fin hf
    have q1 : (classB u == 5) = false := beq_eq_false_iff_ne.2 hne.1
    have q2 : (classB u == 1) = false := beq_eq_false_iff_ne.2 hne.2
    have X1 := Lib.hid (next_any (w := w) u hu hf)
    have Y1 := Lib.hid (key_any (w := w) (nextB u) (nextB_lt hu hf))
    have Y2 := Lib.hid (key_any (w := w) u hu)
    have C3 := compare_any (w := w) (nextB u) 0 (nextB_lt hu hf) (by omega)
    rw [show keyB 0 = 9223372036854775808 from by decide +kernel] at C3
    have C3 := Lib.hid C3
    have hk := keyB_next hu hf
    have hlt := keyB_lt (nextB_lt hu hf)
    have HNU := Lib.hid hu
    clear hu hv nu nv hf hne hbd o1 o2
    by_cases h9 : u = 9223372036854775809
    · rw [if_pos h9] at hk
      have hx : keyB u = 9223372036854775806 := by rw [h9]; decide +kernel
      rw [hk] at C3
      have C3' := C3.out
      rw [cmpI_zero rfl] at C3'
      have C3' := Lib.hid C3'
      have e1 : IntKind.u64.wrap ((keyB (nextB u) : Int) - (keyB u : Int)) = 2 := by rw [hk, hx, IntKind.wrap_u64]; omega
      clear h9 hk hlt hx C3
      generalize classB u = c at *
      generalize (6 : Int) - c = m at *
      generalize cmpI (keyB u) (keyB v) = r at *
      generalize keyB (nextB u) = y at *
      generalize keyB u = x at *
      generalize nextB u = n at *
      go_enter Try.func6, Try.ntmps6
      go_wp2_with fail
      refine K1.out.mono ?_; rintro e w' ⟨rfl, rfl⟩
      go_wp2_with fail
      refine C1.out.mono ?_; rintro e w' ⟨rfl, rfl⟩
      go_wp2_with fail
      refine C2.out.mono ?_; rintro e w' ⟨rfl, rfl⟩
      go_wp2_with fail
      refine K2.out.mono ?_; rintro e w' ⟨rfl, rfl⟩
      go_wp2_with fail
      refine K4.out.mono ?_; rintro e w' ⟨rfl, rfl⟩
      go_wp2_with fail
      refine K2.out.mono ?_; rintro e w' ⟨rfl, rfl⟩
      go_wp2_with fail
      refine I1.out.mono ?_; rintro e w' ⟨rfl, rfl⟩
      go_wp2_with fail
      refine X1.out.mono ?_; rintro e w' ⟨rfl, rfl⟩
      go_wp2_with fail
      refine Y1.out.mono ?_; rintro e w' ⟨rfl, rfl⟩
      go_wp2_with fail
      refine Y2.out.mono ?_; rintro e w' ⟨rfl, rfl⟩
      go_wp2_with fail
      refine I1.out.mono ?_; rintro e w' ⟨rfl, rfl⟩
      go_wp2_with fail
      refine X1.out.mono ?_; rintro e w' ⟨rfl, rfl⟩
      go_wp2_with fail
      refine C3'.out.mono ?_; rintro e w' ⟨rfl, rfl⟩
      go_wp2
      go_ret
      exact ⟨rfl, rfl⟩
    · rw [if_neg h9] at hk
      generalize classB u = c at *
      generalize (6 : Int) - c = m at *
      generalize cmpI (keyB u) (keyB v) = r at *
      generalize keyB (nextB u) = y at *
      generalize keyB u = x at *
      generalize nextB u = n at *
      have e1 : IntKind.u64.wrap ((y : Int) - (x : Int)) = 1 := by rw [IntKind.wrap_u64]; omega
      clear h9 hk hlt
      go_enter Try.func6, Try.ntmps6
      go_wp2_with fail
      refine K1.out.mono ?_; rintro e w' ⟨rfl, rfl⟩
      go_wp2_with fail
      refine C1.out.mono ?_; rintro e w' ⟨rfl, rfl⟩
      go_wp2_with fail
      refine C2.out.mono ?_; rintro e w' ⟨rfl, rfl⟩
      go_wp2_with fail
      refine K2.out.mono ?_; rintro e w' ⟨rfl, rfl⟩
      go_wp2_with fail
      refine K4.out.mono ?_; rintro e w' ⟨rfl, rfl⟩
      go_wp2_with fail
      refine K2.out.mono ?_; rintro e w' ⟨rfl, rfl⟩
      go_wp2_with fail
      refine I1.out.mono ?_; rintro e w' ⟨rfl, rfl⟩
      go_wp2_with fail
      refine X1.out.mono ?_; rintro e w' ⟨rfl, rfl⟩
      go_wp2_with fail
      refine Y1.out.mono ?_; rintro e w' ⟨rfl, rfl⟩
      go_wp2_with fail
      refine Y2.out.mono ?_; rintro e w' ⟨rfl, rfl⟩
      go_wp2
      go_ret
      exact ⟨rfl, rfl⟩
  · clear hu hv nu nv o1 o2 hbd
    generalize cmpI (keyB u) (keyB v) = r at *
    rcases hc with hc | hc
    all_goals
      rw [hc] at K2 K4 hsum
      clear hc
      go_enter Try.func6, Try.ntmps6
      go_wp2_with fail
      refine K1.out.mono ?_; rintro e w' ⟨rfl, rfl⟩
      go_wp2_with fail
      refine C1.out.mono ?_; rintro e w' ⟨rfl, rfl⟩
      go_wp2_with fail
      refine C2.out.mono ?_; rintro e w' ⟨rfl, rfl⟩
      go_wp2_with fail
      refine K2.out.mono ?_; rintro e w' ⟨rfl, rfl⟩
      go_wp2_with fail
      refine K4.out.mono ?_; rintro e w' ⟨rfl, rfl⟩
      go_wp2_with fail
      refine K2.out.mono ?_; rintro e w' ⟨rfl, rfl⟩
      go_wp2
      go_ret
      exact ⟨rfl, rfl⟩

theorem lawTurns_any {w : World} (u v : Nat) (hu : u < 18446744073709551616) (hv : v < 18446744073709551616) :
    Calls Try.prog 6 #[.float .f64 u, .float .f64 v] w fun e w' => e = .returned (.bool true) ∧ w = w' := by
  by_cases nu : isNum u
  · by_cases nv : isNum v
    · exact lawTurns_num u v hu hv nu nv
    · exact lawTurns_nan u v hu hv (.inr nv)
  · exact lawTurns_nan u v hu hv (.inl nu)

end Go.Proofs.Ytjjebmgcbgeehaa
