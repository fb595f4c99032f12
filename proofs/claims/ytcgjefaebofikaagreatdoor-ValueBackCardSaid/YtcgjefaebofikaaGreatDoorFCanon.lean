/-
  floats.Class, Canon: contracts for the walks, in the words of a float's bits.
-/
import Derived.Test.YtcgjefaebofikaaGreatDoorProg
import Derived.WalkKit
import Derived.WalkSpells
import Derived.WalkLawsBesides
import Derived.Laws.Cover2
import Derived.Laws.FloatArith
import Derived.Laws.Externs
import Derived.Laws.BitsAllLaws
import Derived.Lib.Hide
import Derived.IntWalk
import Derived.Deep.QuietTactic
import Derived.BigQuiet
import Derived.Test.YtcgjefaebofikaaGreatDoorFBits
import Derived.Test.YtcgjefaebofikaaGreatDoorBase
set_option linter.unusedVariables false
set_option maxRecDepth 100000
namespace Go.Proofs.YtcgjefaebofikaaGreatDoor
open Go.RowKit

theorem ret_flt {k : FloatKind} {a b : Nat} (h : a = b) : Ending.returned (.float k a) = .returned (.float k b) := by rw [h]

theorem run_bits (u : Nat) (w : World) : (callFunc 27 #[.float .f64 u]).run Tryz.prog w = .ok (.value (.int .u64 (u : Int))) w := by
  rw [run_callFunc_extern Tryz.func27 (by kernel_rfl) (by kernel_rfl) (by kernel_rfl) (e := Extern.MathFloatBits.float64bits) (by kernel_rfl)]
  rfl
theorem run_frombits (u : Nat) (w : World) : (callFunc 56 #[.int .u64 (u : Int)]).run Tryz.prog w = .ok (.value (.float .f64 u)) w := by
  rw [run_callFunc_extern Tryz.func56 (by kernel_rfl) (by kernel_rfl) (by kernel_rfl) (e := Extern.MathFloatBits.float64frombits) (by kernel_rfl)]
  rfl

set_option maxHeartbeats 400000 in
theorem class_any {w : World} (u : Nat) (hu : u < 18446744073709551616) :
    Calls Tryz.prog 46 #[.float .f64 u] w fun e w' => e = .returned (.int .i64 (classB u)) ∧ w = w' := by
  have hx := run_bits u w
  obtain ⟨z, hz⟩ : ∃ z, z = u % 9223372036854775808 := ⟨_, rfl⟩
  have ha := andNot_sign hu
  rw [← hz] at ha
  have HU := Lib.hid hu
  have HZ := Lib.hid hz
  clear hu hz
  go_enter Tryz.func46, Tryz.ntmps46
  go_wp2
  all_goals
    go_ret
    refine ⟨ret_int ?_, rfl⟩
    have h1 := HU.out
    have h2 := HZ.out
    clear hx ha HU HZ
    try simp only [beq_iff_eq, beq_eq_false_iff_ne, ne_eq] at *
    unfold classB
    rw [← h2]
    repeat' split
    all_goals first | rfl | (exfalso; omega)

/-- What the bits of the stand-in are, by the class. -/
theorem canonB_class (u : Nat) : canonB u = if classB u = 0 then 9221120237041090560 else if classB u = 3 then 0 else u := by
  unfold canonB classB
  repeat' split
  all_goals first | rfl | (exfalso; omega)

set_option maxHeartbeats 400000 in
theorem canonBits_any {w : World} (u : Nat) (hu : u < 18446744073709551616) :
    Calls Tryz.prog 34 #[.float .f64 u] w fun e w' => e = .returned (.int .u64 (canonB u : Nat)) ∧ w = w' := by
  have hx := run_bits u w
  have HC := Lib.hid (class_any (w := w) u hu)
  have HE := Lib.hid (canonB_class u)
  clear hu
  generalize classB u = c at HC HE
  generalize canonB u = v at HE ⊢
  go_enter Tryz.func34, Tryz.ntmps34
  go_wp2_with (go_at_call 46; refine HC.out.mono ?_; rintro e w' ⟨rfl, rfl⟩)
  all_goals
    go_ret
    refine ⟨ret_int ?_, rfl⟩
    have h2 := HE.out
    clear hx HC HE
    try simp only [beq_iff_eq, beq_eq_false_iff_ne, ne_eq] at *
    rw [h2]
    repeat' split
    all_goals first | rfl | (exfalso; omega)

set_option maxHeartbeats 400000 in
theorem canon_any {w : World} (u : Nat) (hu : u < 18446744073709551616) :
    Calls Tryz.prog 44 #[.float .f64 u] w fun e w' => e = .returned (.float .f64 (canonB u)) ∧ w = w' := by
  have hx := run_frombits (canonB u) w
  have HC := Lib.hid (canonBits_any (w := w) u hu)
  clear hu
  generalize canonB u = v at HC hx ⊢
  go_enter Tryz.func44, Tryz.ntmps44
  go_wp2_with (go_at_call 34; refine HC.out.mono ?_; rintro e w' ⟨rfl, rfl⟩)
  go_ret
  exact ⟨rfl, rfl⟩

end Go.Proofs.YtcgjefaebofikaaGreatDoor
