/-
  FloatsWholes: any whole number and float are in the document's order, exactly; the greatest float at most the number, and the number that a float is, are its. Conditions: none.
-/
import Derived.Test.YtjjebmgcbgeehaaFWholeR
import Derived.Test.YtjjebmgcbgeehaaFFloorR
import Derived.Test.YtjjebmgcbgeehaaFSame
set_option linter.unusedVariables false
namespace Go.Proofs.Ytjjebmgcbgeehaa
open Go.RowKit

theorem cmp21 : cmpN 2 4607182418800017408 = 1 := by
  have hr : restI 2 = 0 := rest_zero (by omega) (by omega) ⟨2, 0, by decide, by decide⟩
  unfold cmpN
  rw [hr]
  have h2 : fltB (2 - 0) = 4611686018427387904 := by decide +kernel
  rw [h2]
  decide +kernel

set_option maxHeartbeats 1600000 in
theorem lawWholes_any {w : World} (n : Int) (h1 : -9223372036854775808 ≤ n) (h2 : n ≤ 9223372036854775807) (u : Nat) (hu : u < 18446744073709551616) :
    Calls Try.prog 3 #[.int .i64 n, .float .f64 u] w fun e w' => e = .returned (.bool true) ∧ Below w.heap.size w w' := by
  have hx := run_bits u w
  have A1 := Lib.hid (floor_any (w := w) n h1 h2)
  have A2 := Lib.hid (refFloor_any (w := w) n h1 h2)
  have B1 := Lib.hid (whole_any (w := w) u hu)
  have B2 := Lib.hid (refWhole_any (w := w) u hu)
  have C1 : Hid (∀ w : World, Calls Try.prog 13 #[.int .i64 n, .float .f64 u] w fun e w' => e = .returned (.int .i64 (cmpN n u)) ∧ w = w') := Lib.hid fun w => compareInt_any (w := w) n h1 h2 u hu
  have C2 : Hid (∀ w : World, Calls Try.prog 14 #[.int .i64 n, .int .u64 (u : Int)] w (cmpPost n u w)) := Lib.hid fun w => refCompareInt_any (w := w) n h1 h2 u hu
  have D1 : Hid (∀ w : World, Calls Try.prog 15 #[.float .f64 (fltB (n - restI n)), .int .u64 (fltB (n - restI n) : Nat)] w fun e w' => e = .returned (.bool true) ∧ w = w') := Lib.hid fun w => same_any (w := w) _ _ true (by simp)
  have E1 : Hid (∀ w : World, Calls Try.prog 13 #[.int .i64 2, .float .f64 4607182418800017408] w fun e w' => e = .returned (.int .i64 1) ∧ w = w') := by
    refine Lib.hid fun w => ?_
    have h := compareInt_any (w := w) 2 (by omega) (by omega) 4607182418800017408 (by omega)
    rw [cmp21] at h
    exact h
  have hcp : cmpPost n u = fun w e w' => e = .returned (.int .i64 (cmpN n u)) ∧ ∃ k, w' = w.drewN k := rfl
  have hwp : wholePost u = fun w e w' => e = .returned (.tuple #[.int .i64 (wholeB u).1, .bool (wholeB u).2]) ∧ ∃ n, w' = w.drewN n := rfl
  rw [hcp] at C2
  rw [hwp] at B2
  clear h1 h2 hu hcp hwp
  generalize cmpN n u = c at *
  generalize fltB (n - restI n) = f at *
  generalize restI n = r at *
  generalize wholeB u = q at *
  obtain ⟨v, ok⟩ := q
  go_enter Try.func3, Try.ntmps3
  go_wp2_with fail
  (with_reducible refine A1.out.mono ?_); rintro e w' ⟨rfl, rfl⟩
  go_wp2_with fail
  (with_reducible refine A2.out.mono ?_); rintro e w' ⟨rfl, rfl⟩
  go_wp2_with fail
  (with_reducible refine B1.out.mono ?_); rintro e w' ⟨rfl, rfl⟩
  go_wp2_with fail
  (with_reducible refine B2.out.mono ?_); rintro e w' ⟨rfl, n1, rfl⟩
  have HB1 : Hid (Below w.heap.size w (w.drewN n1)) := Lib.hid ((Below.refl _ _).trans ⟨rfl, rfl, rfl, Nat.le_refl _, fun _ _ => rfl⟩)
  obtain ⟨w1, hw1⟩ : ∃ w1, w1 = w.drewN n1 := ⟨_, rfl⟩
  rw [← hw1] at HB1 ⊢
  clear hw1
  go_wp2_with fail
  (with_reducible refine (C1.out _).mono ?_); rintro e w' ⟨rfl, rfl⟩
  go_wp2_with fail
  (with_reducible refine (C2.out _).mono ?_); rintro e w' ⟨rfl, n2, rfl⟩
  have HB2 : Hid (Below w.heap.size w (w1.drewN n2)) := Lib.hid (HB1.out.trans ⟨rfl, rfl, rfl, Nat.le_refl _, fun _ _ => rfl⟩)
  obtain ⟨w2, hw2⟩ : ∃ w2, w2 = w1.drewN n2 := ⟨_, rfl⟩
  rw [← hw2] at HB2 ⊢
  clear hw2
  go_wp2_with fail
  (with_reducible refine (D1.out _).mono ?_); rintro e w' ⟨rfl, rfl⟩
  go_wp2_with fail
  (with_reducible refine (E1.out _).mono ?_); rintro e w' ⟨rfl, rfl⟩
  go_wp2
  go_ret
  exact ⟨rfl, HB2.out⟩

end Go.Proofs.Ytjjebmgcbgeehaa
