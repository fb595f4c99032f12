/-
  FloatsWhole: a whole number that a float is, is it, and Floor tells it of that, with nothing left; others are none. Conditions: none.
-/
import Derived.Test.YtjjebmgcbgeehaaFTrunc
set_option linter.unusedVariables false
namespace Go.Proofs.Ytjjebmgcbgeehaa
open Go.RowKit

theorem flt3 : fltB 3 = 4613937818241073152 := by decide +kernel
theorem whole3 : wholeB 4613937818241073152 = (3, true) := by
  have h := flt_exact (n := 3) ⟨3, 0, by decide, by decide⟩ (by decide)
  rw [flt3] at h
  exact whole_of h.1 h.2.1.num h.2.2 (by omega) (by omega)

set_option maxHeartbeats 1600000 in
theorem lawWhole_ok {w : World} (u : Nat) (hu : u < 18446744073709551616) (h1 : inR u) (h2 : fval u = trB u * (U : Int)) :
    Calls Try.prog 7 #[.float .f64 u] w fun e w' => e = .returned (.bool true) ∧ Below w.heap.size w w' := by
  have hb := (h1.bound hu).2
  have hn : (trB u).natAbs = whl u := by
    unfold trB
    split <;> omega
  have hz : LowZ (trB u).natAbs := by rw [hn]; exact lowZ_whl (h1.fin hu)
  have hr := rest_zero hb.1 hb.2 hz
  obtain ⟨k1, k2, k3⟩ := flt_tr hu h1
  have hkey : keyB (fltB (trB u)) = keyB u := (keyB_fval k1 hu k2.num h1.1).1.2 (by rw [k3, h2])
  have W1 := whole_any (w := w) u hu
  rw [wholeB_yes h1 h2] at W1
  replace W1 := Lib.hid W1
  have F1 := floor_any (w := w) (trB u) hb.1 hb.2
  rw [hr, Int.sub_zero] at F1
  replace F1 := Lib.hid F1
  have C1 := compareInt_any (w := w) (trB u) hb.1 hb.2 u hu
  have hc : cmpN (trB u) u = 0 := by
    unfold cmpN
    rw [hr, Int.sub_zero, if_pos hkey, cmpI_zero rfl]
  rw [hc] at C1
  replace C1 := Lib.hid C1
  have C2 := compare_any (w := w) u (fltB (trB u)) hu k1
  rw [hkey, cmpI_zero rfl] at C2
  replace C2 := Lib.hid C2
  clear hu h1 h2 hb hn hz hr k1 k2 k3 hkey hc
  generalize fltB (trB u) = g at *
  generalize trB u = n at *
  go_enter Try.func7, Try.ntmps7
  go_wp2_with fail
  (with_reducible refine W1.out.mono ?_); rintro e w' ⟨rfl, rfl⟩
  go_wp2_with fail
  (with_reducible refine F1.out.mono ?_); rintro e w' ⟨rfl, rfl⟩
  go_wp2_with fail
  (with_reducible refine C1.out.mono ?_); rintro e w' ⟨rfl, rfl⟩
  go_wp2_with fail
  (with_reducible refine C2.out.mono ?_); rintro e w' ⟨rfl, rfl⟩
  go_wp2
  go_ret
  exact ⟨rfl, Below.refl _ _⟩

/-- What the tests of the last row tell where the float is no whole number. -/
theorem tests_no {u : Nat} (hu : u < 18446744073709551616) (hn : isNum u) (h : ¬ (inR u ∧ fval u = trB u * (U : Int))) :
    (FloatKind.f64.format.order u u != some Ordering.eq) = false ∧ ((FloatKind.f64.format.order u (truncB u) != some Ordering.eq) = true ∨
    (FloatKind.f64.format.order u 4890909195324358656 == some Ordering.gt || FloatKind.f64.format.order u 4890909195324358656 == some Ordering.eq) = true ∨
    ((FloatKind.f64.format.order u 4890909195324358656 == some Ordering.gt || FloatKind.f64.format.order u 4890909195324358656 == some Ordering.eq) = false ∧ (FloatKind.f64.format.order u 14114281232179134464 == some Ordering.lt) = true)) := by
  constructor
  · rw [fmt64, order_fval hu hu hn hn, Int.compare_eq_eq.2 rfl]
    rfl
  · by_cases hr : inR u
    · left
      have hb := (hr.bound hu).1
      obtain ⟨k1, k2, k3⟩ := integral_fval hu (hr.fin hu) (by omega)
      have he : ¬ fval u = trB u * (U : Int) := fun he => h ⟨hr, he⟩
      rw [fmt64, order_fval hu k1 hn k2.num, k3]
      rcases Int.lt_trichotomy (fval u) (trB u * (U : Int)) with hl | hl | hl
      · rw [Int.compare_eq_lt.2 hl]
        rfl
      · exact absurd hl he
      · rw [Int.compare_eq_gt.2 hl]
        rfl
    · right
      rw [fmt64, order_bits hu (by omega) hn (by unfold isNum; omega), order_bits hu (by omega) hn (by unfold isNum; omega), lo_srung, hi_srung]
      by_cases h3 : 4890909195324358656 ≤ srung u
      · left
        rcases Int.lt_or_eq_of_le h3 with h | h
        · rw [Int.compare_eq_gt.2 h]
          rfl
        · rw [Int.compare_eq_eq.2 h.symm]
          rfl
      · right
        have h4 : srung u < -4890909195324358656 := by
          rcases Int.lt_or_le (srung u) (-4890909195324358656) with h4 | h4
          · exact h4
          · exact absurd ⟨hn, h4, by omega⟩ hr
        have h5 : srung u < 4890909195324358656 := by omega
        rw [Int.compare_eq_lt.2 h5, Int.compare_eq_lt.2 h4]
        exact ⟨rfl, rfl⟩

set_option maxHeartbeats 1600000 in
theorem lawWhole_no {w : World} (u : Nat) (hu : u < 18446744073709551616) (hn : isNum u) (h : ¬ (inR u ∧ fval u = trB u * (U : Int))) :
    Calls Try.prog 7 #[.float .f64 u] w fun e w' => e = .returned (.bool true) ∧ Below w.heap.size w w' := by
  have W1 := whole_any (w := w) u hu
  rw [wholeB_no h] at W1
  replace W1 := Lib.hid W1
  have W3 := whole_any (w := w) 4613937818241073152 (by omega)
  rw [whole3] at W3
  replace W3 := Lib.hid W3
  have T1 := Lib.hid (trunc_num (w := w) u hn)
  obtain ⟨p0, hp⟩ := tests_no hu hn h
  clear hu hn h
  generalize truncB u = y at *
  rcases Bool.eq_false_or_eq_true (FloatKind.f64.format.order u y != some Ordering.eq) with hq | hq
  · clear hp
    go_enter Try.func7, Try.ntmps7
    go_wp2_with fail
    (with_reducible refine W1.out.mono ?_); rintro e w' ⟨rfl, rfl⟩
    go_wp2_with fail
    (with_reducible refine W3.out.mono ?_); rintro e w' ⟨rfl, rfl⟩
    go_wp2_with fail
    (with_reducible refine T1.out.mono ?_); rintro e w' ⟨rfl, rfl⟩
    go_wp2
    go_ret
    exact ⟨rfl, Below.refl _ _⟩
  · rcases hp with hp | hp | ⟨hp1, hp2⟩
    · rw [hq] at hp
      cases hp
    · go_enter Try.func7, Try.ntmps7
      go_wp2_with fail
      (with_reducible refine W1.out.mono ?_); rintro e w' ⟨rfl, rfl⟩
      go_wp2_with fail
      (with_reducible refine W3.out.mono ?_); rintro e w' ⟨rfl, rfl⟩
      go_wp2_with fail
      (with_reducible refine T1.out.mono ?_); rintro e w' ⟨rfl, rfl⟩
      go_wp2
      go_ret
      exact ⟨rfl, Below.refl _ _⟩
    · go_enter Try.func7, Try.ntmps7
      go_wp2_with fail
      (with_reducible refine W1.out.mono ?_); rintro e w' ⟨rfl, rfl⟩
      go_wp2_with fail
      (with_reducible refine W3.out.mono ?_); rintro e w' ⟨rfl, rfl⟩
      go_wp2_with fail
      (with_reducible refine T1.out.mono ?_); rintro e w' ⟨rfl, rfl⟩
      go_wp2
      go_ret
      exact ⟨rfl, Below.refl _ _⟩

set_option maxHeartbeats 1600000 in
theorem lawWhole_nan {w : World} (u : Nat) (hu : u < 18446744073709551616) (hn : ¬ isNum u) :
    Calls Try.prog 7 #[.float .f64 u] w fun e w' => e = .returned (.bool true) ∧ Below w.heap.size w w' := by
  have W1 := whole_any (w := w) u hu
  rw [wholeB_no (fun h => hn h.1.1)] at W1
  replace W1 := Lib.hid W1
  have W3 := whole_any (w := w) 4613937818241073152 (by omega)
  rw [whole3] at W3
  replace W3 := Lib.hid W3
  have T1 := Lib.hid (trunc_nan (w := w) u hn)
  have ho : ∀ y, (FloatKind.f64.format.order u y != some Ordering.eq) = true := by
    intro y
    rw [fmt64, order_nan (.inl hn)]
    rfl
  replace ho := Lib.hid ho
  clear hu hn
  go_enter Try.func7, Try.ntmps7
  go_wp2_with fail
  (with_reducible refine W1.out.mono ?_); rintro e w' ⟨rfl, rfl⟩
  go_wp2_with fail
  (with_reducible refine W3.out.mono ?_); rintro e w' ⟨rfl, rfl⟩
  go_wp2_with fail
  (with_reducible refine T1.out.mono ?_); rintro e w1 ⟨y, rfl, _, hb⟩
  have hy := ho.out y
  have HB := Lib.hid hb
  clear hb
  go_wp2
  go_ret
  exact ⟨rfl, HB.out⟩

theorem lawWhole_any {w : World} (u : Nat) (hu : u < 18446744073709551616) :
    Calls Try.prog 7 #[.float .f64 u] w fun e w' => e = .returned (.bool true) ∧ Below w.heap.size w w' := by
  by_cases hn : isNum u
  · by_cases h : inR u ∧ fval u = trB u * (U : Int)
    · exact lawWhole_ok u hu h.1 h.2
    · exact lawWhole_no u hu hn h
  · exact lawWhole_nan u hu hn

end Go.Proofs.Ytjjebmgcbgeehaa
