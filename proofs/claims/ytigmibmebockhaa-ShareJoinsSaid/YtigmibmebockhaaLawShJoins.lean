/-
  ShareJoins: the walk of the law.
-/
import Derived.Test.YtigmibmebockhaaShFits
import Derived.Test.YtigmibmebockhaaBand
set_option linter.unusedVariables false
set_option maxRecDepth 100000
namespace Go.Proofs.Ytigmibmebockhaa
open Go.RowKit

theorem band16_in (a : Int) : ∃ x : Int, bits BinOp.and IntKind.i64 a 65535 = x ∧ 0 ≤ x ∧ x ≤ 65535 := by
  have h := band16 a
  have h1 := Int.emod_nonneg a (show (65536 : Int) ≠ 0 by decide)
  have h2 := Int.emod_lt_of_pos a (show (0 : Int) < 65536 by decide)
  exact ⟨_, h, h1, by omega⟩
set_option maxHeartbeats 1600000 in
theorem shareJoins_law {w : World} (a b most : Int) : Calls Try.prog 7 #[.int .i64 a, .int .i64 b, .int .i64 most] w (YesPost w true) := by
  obtain ⟨x, hx, hx1, hx2⟩ := band16_in a
  obtain ⟨y, hy, hy1, hy2⟩ := band16_in b
  obtain ⟨z, hz, hz1, hz2⟩ := band16_in most
  obtain ⟨m, hm, hm1, hm2⟩ : ∃ m : Int, wrap64 (1 + z) = m ∧ 1 ≤ m ∧ m ≤ 65536 := ⟨1 + z, IntWalk.wrap64_in _ (by omega), by omega, by omega⟩
  obtain ⟨v, hv, hv1, hv2⟩ : ∃ v : Int, m.tdiv 2 = v ∧ 2 * v ≤ m ∧ 0 ≤ v := ⟨m / 2, Int.tdiv_eq_ediv_of_nonneg (by omega), by omega, by omega⟩
  obtain ⟨F, hF⟩ : ∃ F : Bool, F = decide (x + y ≤ m) := ⟨_, rfl⟩
  have hmI : I64 m := ⟨by omega, by omega⟩
  have f1 : fitsS x y 0 m = F := by rw [hF]; exact decide_eq_decide.2 (by omega)
  have f2 : fitsS y x 0 m = F := by rw [hF]; exact decide_eq_decide.2 (by omega)
  have HF1 : Hid (∀ w, Calls Try.prog 19 #[.int .i64 x, .int .i64 y, .int .i64 0, .int .i64 m] w (YesPost w F)) := Lib.hid fun w => by rw [← f1]; exact fits_any x y 0 m hmI
  have HF2 : Hid (∀ w, Calls Try.prog 19 #[.int .i64 y, .int .i64 x, .int .i64 0, .int .i64 m] w (YesPost w F)) := Lib.hid fun w => by rw [← f2]; exact fits_any y x 0 m hmI
  have HF3 : Hid (∀ w, Calls Try.prog 19 #[.int .i64 1, .int .i64 2, .int .i64 3, .int .i64 6] w (YesPost w true)) := Lib.hid fun w => fits_any 1 2 3 6 ⟨by omega, by omega⟩
  have HP1 : Hid (∀ w, Calls Try.prog 21 #[.int .i64 x, .int .i64 m] w (YesPost w (poorS x m))) := Lib.hid fun w => poor_any x m hmI
  have HP2 : Hid (∀ w, Calls Try.prog 21 #[.int .i64 y, .int .i64 m] w (YesPost w (poorS y m))) := Lib.hid fun w => poor_any y m hmI
  have HG : Hid (∀ w, Calls Try.prog 19 #[.int .i64 x, .int .i64 y, .int .i64 v, .int .i64 m] w (YesPost w (fitsS x y v m))) := Lib.hid fun w => fits_any x y v m hmI
  have hPG : Hid (poorS x m = true → poorS y m = true → fitsS x y v m = true) := Lib.hid (by
    unfold poorS fitsS
    intro h1 h2
    have h1 := of_decide_eq_true h1
    have h2 := of_decide_eq_true h2
    exact decide_eq_true (by omega))
  generalize poorS x m = pa at *
  generalize poorS y m = pb at *
  generalize fitsS x y v m = G at *
  clear f1 f2 hmI hz1 hz2
  have hF' : decide (x + y ≤ m) = F := hF.symm
  clear hF
  go_enter Try.func7, Try.ntmps7
  go_wp2_with fail
  refine (HF1.out _).mono ?_
  rintro e w1 ⟨rfl, hb1⟩
  go_wp2_with fail
  refine (HF2.out _).mono ?_
  rintro e w2 ⟨rfl, hb2⟩
  go_wp2_with fail
  cases F
  all_goals
    go_wp2_with fail
    refine (HF1.out _).mono ?_
    rintro e w3 ⟨rfl, hb3⟩
    go_wp2_with fail
    refine (HF3.out _).mono ?_
    rintro e w4 ⟨rfl, hb4⟩
    go_wp2_with fail
    refine (HP1.out _).mono ?_
    rintro e w5 ⟨rfl, hb5⟩
    have HB5 : Hid (Below w.heap.size w w5) := Lib.hid ((((hb1.trans (hb2.mono hb1.size)).trans (hb3.mono (hb1.trans (hb2.mono hb1.size)).size)).trans (hb4.mono ((hb1.trans (hb2.mono hb1.size)).trans (hb3.mono (hb1.trans (hb2.mono hb1.size)).size)).size)).trans (hb5.mono (((hb1.trans (hb2.mono hb1.size)).trans (hb3.mono (hb1.trans (hb2.mono hb1.size)).size)).trans (hb4.mono ((hb1.trans (hb2.mono hb1.size)).trans (hb3.mono (hb1.trans (hb2.mono hb1.size)).size)).size)).size))
    clear hb1 hb2 hb3 hb4 hb5
    cases pa
    · go_wp2
      go_ret
      exact ⟨rfl, HB5.out⟩
    · go_wp2_with fail
      refine (HP2.out _).mono ?_
      rintro e w6 ⟨rfl, hb6⟩
      have HB6 : Hid (Below w.heap.size w w6) := Lib.hid (HB5.out.trans (hb6.mono HB5.out.size))
      clear hb6
      cases pb
      · go_wp2
        go_ret
        exact ⟨rfl, HB6.out⟩
      · obtain rfl : G = true := hPG.out (by trivial) (by trivial)
        go_wp2_with fail
        refine (HG.out _).mono ?_
        rintro e w7 ⟨rfl, hb7⟩
        have HB7 : Hid (Below w.heap.size w w7) := Lib.hid (HB6.out.trans (hb7.mono HB6.out.size))
        clear hb7
        go_wp2
        go_ret
        exact ⟨rfl, HB7.out⟩

end Go.Proofs.Ytigmibmebockhaa
