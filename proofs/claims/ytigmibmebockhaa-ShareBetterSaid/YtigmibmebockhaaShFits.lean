/-
  Package share: Fits, Poor: contracts.
-/
import Derived.Test.YtigmibmebockhaaShCut
set_option linter.unusedVariables false
set_option maxRecDepth 100000
namespace Go.Proofs.Ytigmibmebockhaa
open Go.RowKit

/-- A Bool that is told. -/
def YesPost (w : World) (b : Bool) (e : Ending) (w' : World) : Prop := e = .returned (.bool b) ∧ Below w.heap.size w w'
def I64 (x : Int) : Prop := -9223372036854775808 ≤ x ∧ x ≤ 9223372036854775807

theorem ks_three {w : World} (x y z : Int) : KsOk (w.alloc (.cells #[.int .i64 x, .int .i64 y, .int .i64 z] 3)) (some ⟨w.heap.size, 0, none⟩) 3 3 [x, y, z] := by
  refine ⟨rfl, Nat.le_refl _, by omega, fun _ => ⟨w.heap.size, 0, rfl, fun i v hz => ?_⟩⟩
  match i, hz with
  | 0, hz => cases hz; exact Joins.cell_of_block (heap_alloc_new w _) 0
  | 1, hz => cases hz; exact Joins.cell_of_block (heap_alloc_new w _) 1
  | 2, hz => cases hz; exact Joins.cell_of_block (heap_alloc_new w _) 2

set_option maxHeartbeats 800000 in
theorem fits_any {w : World} (a b more most : Int) (hm : I64 most) : Calls Try.prog 19 #[.int .i64 a, .int .i64 b, .int .i64 more, .int .i64 most] w (YesPost w (fitsS a b more most)) := by
  have h := within_any (ks_three (w := w) a b more) most hm.2 hm.1
  rw [within_fits] at h
  have HW := Lib.hid h
  generalize fitsS a b more most = B at *
  clear h hm
  go_enter Try.func19, Try.ntmps19
  go_wp2_with fail
  refine HW.out.mono ?_
  rintro e w1 ⟨rfl, rfl⟩
  go_wp2
  go_ret
  exact ⟨rfl, (Below.refl _ _).alloc (Nat.le_refl _) _⟩

def poorS (a most : Int) : Bool := decide (0 ≤ a ∧ 0 < most ∧ 4 * a < most)
set_option maxHeartbeats 800000 in
theorem poor_any {w : World} (a most : Int) (hm : I64 most) : Calls Try.prog 21 #[.int .i64 a, .int .i64 most] w (YesPost w (poorS a most)) := by
  obtain ⟨m1, m2⟩ := hm
  have HE : Hid (∀ b : Bool, b = poorS a most → YesPost w b (.returned (.bool b)) w) := Lib.hid fun b _ => ⟨rfl, Below.refl _ _⟩
  have HP : Hid (poorS a most = decide (0 ≤ a ∧ 0 < most ∧ 4 * a < most)) := Lib.hid rfl
  generalize poorS a most = B at *
  by_cases h0 : 0 ≤ a
  · by_cases h1 : 0 < most
    · have e0 : decide (0 ≤ a) = true := decide_eq_true h0
      have e1 : decide (0 < most) = true := decide_eq_true h1
      have hq : (most - 1).tdiv 4 = (most - 1) / 4 := Int.tdiv_eq_ediv_of_nonneg (by omega)
      have e2 : Hid (decide (a ≤ (most - 1) / 4) = B) := Lib.hid (by rw [HP.out]; exact decide_eq_decide.2 (by omega))
      go_enter Try.func21, Try.ntmps21
      go_wp2
      go_ret
      exact ⟨by rw [← e2.out]; rfl, Below.refl _ _⟩
    · have e0 : decide (0 ≤ a) = true := decide_eq_true h0
      have e1 : decide (0 < most) = false := decide_eq_false h1
      have e2 : false = B := by rw [HP.out]; exact (decide_eq_false (by omega)).symm
      subst e2
      go_enter Try.func21, Try.ntmps21
      go_wp2
      go_ret
      exact ⟨rfl, Below.refl _ _⟩
  · have e0 : decide (0 ≤ a) = false := decide_eq_false h0
    have e2 : false = B := by rw [HP.out]; exact (decide_eq_false (by omega)).symm
    subst e2
    go_enter Try.func21, Try.ntmps21
    go_wp2
    go_ret
    exact ⟨rfl, Below.refl _ _⟩

end Go.Proofs.Ytigmibmebockhaa
