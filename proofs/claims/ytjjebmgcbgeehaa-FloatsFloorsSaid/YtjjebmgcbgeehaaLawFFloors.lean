/-
  FloatsFloors: what Floor tells, and the rest, is the number; the next float is above it; and it is in order with both, exactly. Conditions: none.
-/
import Derived.Test.YtjjebmgcbgeehaaFExact
set_option linter.unusedVariables false
namespace Go.Proofs.Ytjjebmgcbgeehaa
open Go.RowKit

theorem keyB_next_lt {u : Nat} (hu : u < 18446744073709551616) (h : isFin u) : keyB u < keyB (nextB u) := by
  rw [keyB_next hu h]
  split
  · rename_i h9
    subst h9
    decide +kernel
  · omega

set_option maxHeartbeats 1600000 in
theorem lawFloors_any {w : World} (n : Int) (h1 : -9223372036854775808 ≤ n) (h2 : n ≤ 9223372036854775807) :
    Calls Try.prog 5 #[.int .i64 n] w fun e w' => e = .returned (.bool true) ∧ w = w' := by
  obtain ⟨r1, r2, r3, r4, r5, r6⟩ := rest_facts h1 h2
  obtain ⟨g1, g2⟩ := floor_flt h1 h2
  have F1 := Lib.hid (floor_any (w := w) n h1 h2)
  have hfl := flt_lt64 (n - restI n)
  have W1 := whole_any (w := w) (fltB (n - restI n)) hfl
  rw [whole_of hfl g1.num g2 r4 r5] at W1
  replace W1 := Lib.hid W1
  have C1 := compareInt_any (w := w) n h1 h2 (fltB (n - restI n)) hfl
  have hcm : cmpN n (fltB (n - restI n)) = min (restI n) 1 := by
    unfold cmpN
    rw [if_pos rfl]
    unfold cmpI
    repeat' split
    all_goals omega
  rw [hcm] at C1
  have I1 := Lib.hid (inf_any (w := w))
  have X1 := Lib.hid (next_any (w := w) _ hfl g1)
  have C2 := compareInt_any (w := w) n h1 h2 (nextB (fltB (n - restI n))) (nextB_lt hfl g1)
  have hc2 : cmpN n (nextB (fltB (n - restI n))) = -1 := by
    have hk := keyB_next_lt hfl g1
    unfold cmpN
    rw [if_neg (by omega), cmpI_neg (by omega)]
  rw [hc2] at C2
  replace C2 := Lib.hid C2
  have C3 := compareInt_any (w := w) n h1 h2 (fltB n) (flt_lt64 n)
  have hx := run_flt n w
  have hsub : wrap64 (n - restI n) = n - restI n := IntWalk.wrap64_in _ (by omega)
  by_cases h0 : restI n = 0
  · have hfn : fltB (n - restI n) = fltB n := by rw [h0, Int.sub_zero]
    rw [hfn] at g1 g2 F1 W1 C1 X1 C2
    have hn0 : n - restI n = n := by rw [h0, Int.sub_zero]
    replace W1 := W1.out
    replace F1 := F1.out
    rw [hn0] at W1
    rw [h0] at F1 C1
    have e01 : min (0 : Int) 1 = 0 := rfl
    rw [e01] at C1
    replace W1 := Lib.hid W1
    replace F1 := Lib.hid F1
    replace C1 := Lib.hid C1
    have p1 : (FloatKind.f64.format.order (fltB n) (fltB n) != some Ordering.eq) = false := by
      rw [fmt64, order_fval (flt_lt64 n) (flt_lt64 n) g1.num g1.num, Int.compare_eq_eq.2 rfl]
      rfl
    have hc3 : cmpN n (fltB n) = 0 := by
      unfold cmpN
      rw [hfn, if_pos rfl, h0, cmpI_zero rfl]
    rw [hc3] at C3
    replace C3 := Lib.hid C3
    clear hcm hc2 hc3 hsub hn0 hfn h0 g1 g2 hfl r1 r2 r3 r4 r5 r6
    generalize nextB (fltB n) = y at *
    generalize fltB n = f at *
    go_enter Try.func5, Try.ntmps5
    go_wp2_with fail
    refine F1.out.mono ?_; rintro e w' ⟨rfl, rfl⟩
    go_wp2_with fail
    refine W1.out.mono ?_; rintro e w' ⟨rfl, rfl⟩
    go_wp2_with fail
    refine C1.out.mono ?_; rintro e w' ⟨rfl, rfl⟩
    go_wp2_with fail
    refine I1.out.mono ?_; rintro e w' ⟨rfl, rfl⟩
    go_wp2_with fail
    refine X1.out.mono ?_; rintro e w' ⟨rfl, rfl⟩
    go_wp2_with fail
    refine C2.out.mono ?_; rintro e w' ⟨rfl, rfl⟩
    go_wp2_with fail
    refine C3.out.mono ?_; rintro e w' ⟨rfl, rfl⟩
    go_wp2
    go_ret
    exact ⟨rfl, rfl⟩
  · have hpos : decide (0 < restI n) = true := decide_eq_true (by omega)
    have hc3 : (cmpN n (fltB n) != 0) = true := by
      have : cmpN n (fltB n) ≠ 0 := by
        unfold cmpN
        split
        · rw [cmpI_pos (by omega)]
          omega
        · exact cmpI_ne (by omega)
      simpa using this
    replace C3 := Lib.hid C3
    have hmin : min (restI n) 1 = 1 := by omega
    rw [hmin] at C1
    replace C1 := Lib.hid C1
    obtain ⟨m, hm⟩ : ∃ m, m = n - restI n := ⟨_, rfl⟩
    have p0 : (wrap64 (n - restI n) != m) = false := by rw [hsub, hm]; simp
    have p1 : decide (restI n < 0) = false := decide_eq_false (by omega)
    have p2 : decide (2047 < restI n) = false := decide_eq_false (by omega)
    have p3 : (min (restI n) 1 != 1) = false := by rw [hmin]; rfl
    have q1 : 0 ≤ restI n := r1
    have q2 : restI n ≤ 2047 := r2
    replace F1 := F1.out
    replace W1 := W1.out
    replace C1 := C1.out
    rw [← hm] at F1 W1 C1 X1 C2
    replace C1 := Lib.hid C1
    replace F1 := Lib.hid F1
    replace W1 := Lib.hid W1
    have HMIN := Lib.hid hmin
    clear hcm hc2 h0 g1 g2 hfl r1 r2 r3 r6 hmin r4 r5 hsub hm
    generalize cmpN n (fltB n) = c at *
    generalize nextB (fltB m) = y at *
    generalize fltB m = f at *
    generalize fltB n = g at *
    generalize restI n = r at *
    rcases Bool.eq_false_or_eq_true (FloatKind.f64.format.order g f != some Ordering.eq) with hp | hp
    · go_enter Try.func5, Try.ntmps5
      go_wp2_with fail
      (with_reducible refine F1.out.mono ?_); rintro e w' ⟨rfl, rfl⟩
      go_wp2_with fail
      (with_reducible refine W1.out.mono ?_); rintro e w' ⟨rfl, rfl⟩
      go_wp2_with fail
      (with_reducible refine C1.out.mono ?_); rintro e w' ⟨rfl, rfl⟩
      have hm' := HMIN.out
      go_wp2_with fail
      (with_reducible refine I1.out.mono ?_); rintro e w' ⟨rfl, rfl⟩
      go_wp2_with fail
      (with_reducible refine X1.out.mono ?_); rintro e w' ⟨rfl, rfl⟩
      go_wp2_with fail
      (with_reducible refine C2.out.mono ?_); rintro e w' ⟨rfl, rfl⟩
      go_wp2
      go_ret
      exact ⟨rfl, rfl⟩
    · go_enter Try.func5, Try.ntmps5
      go_wp2_with fail
      (with_reducible refine F1.out.mono ?_); rintro e w' ⟨rfl, rfl⟩
      go_wp2_with fail
      (with_reducible refine W1.out.mono ?_); rintro e w' ⟨rfl, rfl⟩
      go_wp2_with fail
      (with_reducible refine C1.out.mono ?_); rintro e w' ⟨rfl, rfl⟩
      have hm' := HMIN.out
      go_wp2_with fail
      (with_reducible refine I1.out.mono ?_); rintro e w' ⟨rfl, rfl⟩
      go_wp2_with fail
      (with_reducible refine X1.out.mono ?_); rintro e w' ⟨rfl, rfl⟩
      go_wp2_with fail
      (with_reducible refine C2.out.mono ?_); rintro e w' ⟨rfl, rfl⟩
      go_wp2_with fail
      (with_reducible refine C3.out.mono ?_); rintro e w' ⟨rfl, rfl⟩
      go_wp2
      go_ret
      exact ⟨rfl, rfl⟩

end Go.Proofs.Ytjjebmgcbgeehaa
