/-
  FloatsTells: any two floats have the document's class, stand-in, key, order and digits. Conditions: none but that the table of digits lies as the text lays it.
-/
import Derived.Test.YtjjebmgcbgeehaaDoorFHex
set_option linter.unusedVariables false
namespace Go.Proofs.YtjjebmgcbgeehaaDoor
open Go.RowKit

set_option maxHeartbeats 400000 in
theorem same_any {w : World} (u v : Nat) (b : Bool) (h : ((u : Int) == (v : Int)) = b) :
    Calls Tryd.prog 9 #[.float .f64 u, .int .u64 (v : Int)] w fun e w' => e = .returned (.bool b) ∧ w = w' := by
  have hx := run_bits u w
  go_enter Tryd.func9, Tryd.ntmps9
  go_wp2
  go_ret
  exact ⟨rfl, rfl⟩

set_option maxHeartbeats 1600000 in
theorem lawTells_any {w : World} (hT : Tab w) (u v : Nat) (hu : u < 18446744073709551616) (hv : v < 18446744073709551616) :
    Calls Tryd.prog 3 #[.float .f64 u, .float .f64 v] w fun e w' => e = .returned (.bool true) ∧ Below w.heap.size w w' := by
  have hx := run_bits u w
  have hy := run_bits v w
  have A1 := Lib.hid (class_any (w := w) u hu)
  have A2 := Lib.hid (refClass_any (w := w) u hu)
  have B1 := Lib.hid (canon_any (w := w) u hu)
  have B2 := Lib.hid (refCanon_any (w := w) u hu)
  have B3 := Lib.hid (same_any (w := w) (canonB u) (canonB u) true (by simp))
  have C1 := Lib.hid (key_any (w := w) u hu)
  have C2 := Lib.hid (refKey_any (w := w) u hu)
  have D1 := Lib.hid (compare_any (w := w) u v hu hv)
  have D2 := Lib.hid (refCompare_any (w := w) u v hu hv)
  have E1 := Lib.hid (hex_any hT u hu)
  have E2 : Hid (∀ w' : World, Calls Tryd.prog 17 #[.int .u64 (u : Int)] w' fun e w1 => e = .returned (.string (hexS (canonB u))) ∧ w' = w1) := Lib.hid fun w' => refHex_any (w := w') u hu
  have F1 : Hid (∀ w' : World, Calls Tryd.prog 7 #[.float .f64 4607182418800017408] w' fun e w1 => e = .returned (.int .i64 4) ∧ w' = w1) := by
    refine Lib.hid fun w' => ?_
    have h := class_any (w := w') 4607182418800017408 (by omega)
    rw [show classB 4607182418800017408 = 4 from by decide +kernel] at h
    exact h
  clear hu hv hT
  generalize hexS (canonB u) = s at *
  generalize cmpI (keyB u) (keyB v) = c at *
  generalize keyB u = k at *
  generalize canonB u = n at *
  generalize classB u = z at *
  go_enter Tryd.func3, Tryd.ntmps3
  go_wp2_with fail
  (with_reducible refine A1.out.mono ?_); rintro e w' ⟨rfl, rfl⟩
  go_wp2_with fail
  (with_reducible refine A2.out.mono ?_); rintro e w' ⟨rfl, rfl⟩
  go_wp2_with fail
  (with_reducible refine B1.out.mono ?_); rintro e w' ⟨rfl, rfl⟩
  go_wp2_with fail
  (with_reducible refine B2.out.mono ?_); rintro e w' ⟨rfl, rfl⟩
  go_wp2_with fail
  (with_reducible refine B3.out.mono ?_); rintro e w' ⟨rfl, rfl⟩
  go_wp2_with fail
  (with_reducible refine C1.out.mono ?_); rintro e w' ⟨rfl, rfl⟩
  go_wp2_with fail
  (with_reducible refine C2.out.mono ?_); rintro e w' ⟨rfl, rfl⟩
  go_wp2_with fail
  (with_reducible refine D1.out.mono ?_); rintro e w' ⟨rfl, rfl⟩
  go_wp2_with fail
  (with_reducible refine D2.out.mono ?_); rintro e w' ⟨rfl, rfl⟩
  go_wp2_with fail
  (with_reducible refine E1.out.mono ?_); rintro e w1 ⟨rfl, hb⟩
  have HB := Lib.hid hb
  clear hb
  go_wp2_with fail
  (with_reducible refine (E2.out w1).mono ?_); rintro e w' ⟨rfl, rfl⟩
  go_wp2_with fail
  (with_reducible refine (F1.out w1).mono ?_); rintro e w' ⟨rfl, rfl⟩
  go_wp2
  go_ret
  exact ⟨rfl, HB.out⟩

end Go.Proofs.YtjjebmgcbgeehaaDoor
