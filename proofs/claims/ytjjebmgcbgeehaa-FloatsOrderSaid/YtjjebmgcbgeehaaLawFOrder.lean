/-
  FloatsOrder: keys are in the order of the floats, also of infinities, zeros and NaN; each float is like that of its key. Conditions: none.
-/
import Derived.Test.YtjjebmgcbgeehaaFKey
set_option linter.unusedVariables false
namespace Go.Proofs.Ytjjebmgcbgeehaa
open Go.RowKit

/-- What the law's walk asks: u, v: the floats' bits; x, y: their keys; the tests by their answers. -/
structure OrdFacts (u v x y : Nat) (c : Int) (b1 b2 b3 b4 b5 b6 : Bool) : Prop where
  cmp : cmpI x y = c
  lt : decide (x < y) = b1
  eq : ((x : Int) == (y : Int)) = b2
  uu : (FloatKind.f64.format.order u u == some Ordering.eq) = b3
  nuu : (FloatKind.f64.format.order u u != some Ordering.eq) = !b3
  vv : (FloatKind.f64.format.order v v == some Ordering.eq) = b4
  nvv : (FloatKind.f64.format.order v v != some Ordering.eq) = !b4
  lss : (FloatKind.f64.format.order u v == some Ordering.lt) = b5
  eql : (FloatKind.f64.format.order u v == some Ordering.eq) = b6

theorem fmt64 : FloatKind.f64.format = Ieee.double := rfl
theorem order_self {u : Nat} (hu : u < 18446744073709551616) (nu : isNum u) : Ieee.double.order u u = some .eq := by
  rw [order_keys hu hu nu nu, Int.compare_eq_eq.2 rfl]
theorem facts_nums {u v : Nat} (hu : u < 18446744073709551616) (hv : v < 18446744073709551616) (nu : isNum u) (nv : isNum v) :
    OrdFacts u v (keyB u) (keyB v) (-1) true false true true true false ∨ OrdFacts u v (keyB u) (keyB v) 0 false true true true false true ∨ OrdFacts u v (keyB u) (keyB v) 1 false false true true false false := by
  have h1 := order_self hu nu
  have h2 := order_self hv nv
  have h3 := order_keys hu hv nu nv
  rcases Nat.lt_trichotomy (keyB u) (keyB v) with h | h | h
  · rw [Int.compare_eq_lt.2 (by omega)] at h3
    exact .inl ⟨cmpI_neg (by omega), decide_eq_true (by omega), beq_eq_false_iff_ne.2 (by omega), by rw [fmt64, h1]; rfl, by rw [fmt64, h1]; rfl, by rw [fmt64, h2]; rfl, by rw [fmt64, h2]; rfl, by rw [fmt64, h3]; rfl, by rw [fmt64, h3]; rfl⟩
  · rw [Int.compare_eq_eq.2 (by omega)] at h3
    exact .inr (.inl ⟨cmpI_zero (by omega), decide_eq_false (by omega), beq_iff_eq.2 (by omega), by rw [fmt64, h1]; rfl, by rw [fmt64, h1]; rfl, by rw [fmt64, h2]; rfl, by rw [fmt64, h2]; rfl, by rw [fmt64, h3]; rfl, by rw [fmt64, h3]; rfl⟩)
  · rw [Int.compare_eq_gt.2 (by omega)] at h3
    exact .inr (.inr ⟨cmpI_pos (by omega), decide_eq_false (by omega), beq_eq_false_iff_ne.2 (by omega), by rw [fmt64, h1]; rfl, by rw [fmt64, h1]; rfl, by rw [fmt64, h2]; rfl, by rw [fmt64, h2]; rfl, by rw [fmt64, h3]; rfl, by rw [fmt64, h3]; rfl⟩)
theorem facts_nan {u v : Nat} (hu : u < 18446744073709551616) (hv : v < 18446744073709551616) (h : ¬ isNum u ∨ ¬ isNum v) :
    OrdFacts u v (keyB u) (keyB v) (-1) true false true false false false ∨ OrdFacts u v (keyB u) (keyB v) 0 false true false false false false ∨ OrdFacts u v (keyB u) (keyB v) 1 false false false true false false := by
  have h3 := order_nan h
  by_cases nu : isNum u
  · have nv : ¬ isNum v := by rcases h with h | h; exact absurd nu h; exact h
    have h1 := order_self hu nu
    have h2 := order_nan (v := v) (.inl nv)
    have k1 := keyB_num_le hu nu
    have k2 := keyB_nan nv
    exact .inl ⟨cmpI_neg (by omega), decide_eq_true (by omega), beq_eq_false_iff_ne.2 (by omega), by rw [fmt64, h1]; rfl, by rw [fmt64, h1]; rfl, by rw [fmt64, h2]; rfl, by rw [fmt64, h2]; rfl, by rw [fmt64, h3]; rfl, by rw [fmt64, h3]; rfl⟩
  · have h1 := order_nan (v := u) (.inl nu)
    have k1 := keyB_nan nu
    by_cases nv : isNum v
    · have h2 := order_self hv nv
      have k2 := keyB_num_le hv nv
      exact .inr (.inr ⟨cmpI_pos (by omega), decide_eq_false (by omega), beq_eq_false_iff_ne.2 (by omega), by rw [fmt64, h1]; rfl, by rw [fmt64, h1]; rfl, by rw [fmt64, h2]; rfl, by rw [fmt64, h2]; rfl, by rw [fmt64, h3]; rfl, by rw [fmt64, h3]; rfl⟩)
    · have h2 := order_nan (v := v) (.inl nv)
      have k2 := keyB_nan nv
      exact .inr (.inl ⟨cmpI_zero (by omega), decide_eq_false (by omega), beq_iff_eq.2 (by omega), by rw [fmt64, h1]; rfl, by rw [fmt64, h1]; rfl, by rw [fmt64, h2]; rfl, by rw [fmt64, h2]; rfl, by rw [fmt64, h3]; rfl, by rw [fmt64, h3]; rfl⟩)

set_option maxHeartbeats 1600000 in
theorem lawOrder_of {w : World} (u v : Nat) (hu : u < 18446744073709551616) (hv : v < 18446744073709551616) (c : Int) (lt eq uu vv lss eql : Bool) (F : OrdFacts u v (keyB u) (keyB v) c lt eq uu vv lss eql)
    (hpick : (c = -1 ∧ lt = true ∧ eq = false ∧ uu = true ∧ vv = true ∧ lss = true ∧ eql = false) ∨ (c = 0 ∧ lt = false ∧ eq = true ∧ uu = true ∧ vv = true ∧ lss = false ∧ eql = true) ∨ (c = 1 ∧ lt = false ∧ eq = false ∧ uu = true ∧ vv = true ∧ lss = false ∧ eql = false) ∨
      (c = -1 ∧ lt = true ∧ eq = false ∧ uu = true ∧ vv = false ∧ lss = false ∧ eql = false) ∨ (c = 0 ∧ lt = false ∧ eq = true ∧ uu = false ∧ vv = false ∧ lss = false ∧ eql = false) ∨ (c = 1 ∧ lt = false ∧ eq = false ∧ uu = false ∧ vv = true ∧ lss = false ∧ eql = false)) :
    Calls Try.prog 4 #[.float .f64 u, .float .f64 v] w fun e w' => e = .returned (.bool true) ∧ w = w' := by
  have K1 := Lib.hid (key_any (w := w) u hu)
  have K2 := Lib.hid (key_any (w := w) v hv)
  have C1 := compare_any (w := w) u v hu hv
  rw [F.cmp] at C1
  have C1 := Lib.hid C1
  have O1 := of_any (w := w) (keyB u) (keyB_lt hu)
  rw [ofB_keyB hu] at O1
  have O1 := Lib.hid O1
  have C2 := compare_any (w := w) (canonB u) u (canonB_lt hu) hu
  rw [keyB_canon, cmpI_zero rfl] at C2
  have C2 := Lib.hid C2
  have K3 := key_any (w := w) 4607182418800017408 (by omega)
  rw [show keyB 4607182418800017408 = 13830554455654793216 from by decide +kernel] at K3
  have K3 := Lib.hid K3
  have K4 := key_any (w := w) 13830554455654793216 (by omega)
  rw [show keyB 13830554455654793216 = 4616189618054758399 from by decide +kernel] at K4
  have K4 := Lib.hid K4
  obtain ⟨_, f1, f2, f3, f4, f5, f6, f7, f8⟩ := F
  generalize keyB u = x at *
  generalize keyB v = y at *
  generalize canonB u = k at *
  clear hu hv
  rcases hpick with ⟨rfl, rfl, rfl, rfl, rfl, rfl, rfl⟩ | ⟨rfl, rfl, rfl, rfl, rfl, rfl, rfl⟩ | ⟨rfl, rfl, rfl, rfl, rfl, rfl, rfl⟩ | ⟨rfl, rfl, rfl, rfl, rfl, rfl, rfl⟩ | ⟨rfl, rfl, rfl, rfl, rfl, rfl, rfl⟩ | ⟨rfl, rfl, rfl, rfl, rfl, rfl, rfl⟩
  all_goals
    go_enter Try.func4, Try.ntmps4
    go_wp2_with fail
    refine K1.out.mono ?_; rintro e w' ⟨rfl, rfl⟩
    go_wp2_with fail
    refine K2.out.mono ?_; rintro e w' ⟨rfl, rfl⟩
    go_wp2_with fail
    refine C1.out.mono ?_; rintro e w' ⟨rfl, rfl⟩
    go_wp2_with fail
    refine O1.out.mono ?_; rintro e w' ⟨rfl, rfl⟩
    go_wp2_with fail
    refine C2.out.mono ?_; rintro e w' ⟨rfl, rfl⟩
    go_wp2_with fail
    refine K3.out.mono ?_; rintro e w' ⟨rfl, rfl⟩
    go_wp2_with fail
    refine K4.out.mono ?_; rintro e w' ⟨rfl, rfl⟩
    go_wp2
    go_ret
    exact ⟨rfl, rfl⟩

theorem lawOrder_any {w : World} (u v : Nat) (hu : u < 18446744073709551616) (hv : v < 18446744073709551616) :
    Calls Try.prog 4 #[.float .f64 u, .float .f64 v] w fun e w' => e = .returned (.bool true) ∧ w = w' := by
  by_cases nu : isNum u
  · by_cases nv : isNum v
    · rcases facts_nums hu hv nu nv with h | h | h <;> exact lawOrder_of u v hu hv _ _ _ _ _ _ _ h (by simp)
    · rcases facts_nan hu hv (.inr nv) with h | h | h <;> exact lawOrder_of u v hu hv _ _ _ _ _ _ _ h (by simp)
  · rcases facts_nan hu hv (.inl nu) with h | h | h <;> exact lawOrder_of u v hu hv _ _ _ _ _ _ _ h (by simp)

end Go.Proofs.Ytjjebmgcbgeehaa
