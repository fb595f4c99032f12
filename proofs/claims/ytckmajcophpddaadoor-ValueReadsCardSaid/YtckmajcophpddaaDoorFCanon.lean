/-
  floats.Class, Canon: contracts for the walks, in the words of a float's bits.
-/
import Derived.Test.YtckmajcophpddaaDoorProg
import Derived.WalkKit
import Derived.WalkSpells
import Derived.WalkLawsBesides
import Derived.Laws.Cover2
import Derived.Laws.FloatArith
import Derived.Laws.Externs
import Derived.Laws.BitsAllLaws
import Derived.Lib.Hide
import Derived.IntWalk
import Derived.Deep.QuietTactic
import Derived.BigQuiet
import Derived.Test.YtckmajcophpddaaDoorFBits
import Derived.Test.YtckmajcophpddaaDoorBase
set_option linter.unusedVariables false
set_option maxRecDepth 100000
namespace Go.Proofs.YtckmajcophpddaaDoor
open Go.RowKit

theorem ret_flt {k : FloatKind} {a b : Nat} (h : a = b) : Ending.returned (.float k a) = .returned (.float k b) := by rw [h]

theorem run_bits (u : Nat) (w : World) : (callFunc 34 #[.float .f64 u]).run Tryd.prog w = .ok (.value (.int .u64 (u : Int))) w := by
  rw [run_callFunc_extern Tryd.func34 (by kernel_rfl) (by kernel_rfl) (by kernel_rfl) (e := Extern.MathFloatBits.float64bits) (by kernel_rfl)]
  rfl
theorem run_frombits (u : Nat) (w : World) : (callFunc 24 #[.int .u64 (u : Int)]).run Tryd.prog w = .ok (.value (.float .f64 u)) w := by
  rw [run_callFunc_extern Tryd.func24 (by kernel_rfl) (by kernel_rfl) (by kernel_rfl) (e := Extern.MathFloatBits.float64frombits) (by kernel_rfl)]
  rfl

set_option maxHeartbeats 400000 in
theorem class_any {w : World} (u : Nat) (hu : u < 18446744073709551616) :
    Calls Tryd.prog 59 #[.float .f64 u] w fun e w' => e = .returned (.int .i64 (classB u)) ∧ w = w' := by
  have hx := run_bits u w
  obtain ⟨z, hz⟩ : ∃ z, z = u % 9223372036854775808 := ⟨_, rfl⟩
  have ha := andNot_sign hu
  rw [← hz] at ha
  have HU := Lib.hid hu
  have HZ := Lib.hid hz
  clear hu hz
  go_enter Tryd.func59, Tryd.ntmps59
  go_wp2
  all_goals
    go_ret
    refine ⟨ret_int ?_, rfl⟩
    have h1 := HU.out
    have h2 := HZ.out
    clear hx ha HU HZ
    try simp only [beq_iff_eq, beq_eq_false_iff_ne, ne_eq] at *
    unfold classB
    rw [← h2]
    repeat' split
    all_goals first | rfl | (exfalso; omega)

/-- What the bits of the stand-in are, by the class. -/
theorem canonB_class (u : Nat) : canonB u = if classB u = 0 then 9221120237041090560 else if classB u = 3 then 0 else u := by
  unfold canonB classB
  repeat' split
  all_goals first | rfl | (exfalso; omega)

set_option maxHeartbeats 400000 in
theorem canonBits_any {w : World} (u : Nat) (hu : u < 18446744073709551616) :
    Calls Tryd.prog 44 #[.float .f64 u] w fun e w' => e = .returned (.int .u64 (canonB u : Nat)) ∧ w = w' := by
  have hx := run_bits u w
  have HC := Lib.hid (class_any (w := w) u hu)
  have HE := Lib.hid (canonB_class u)
  clear hu
  generalize classB u = c at HC HE
  generalize canonB u = v at HE ⊢
  go_enter Tryd.func44, Tryd.ntmps44
  go_wp2_with (go_at_call 59; refine HC.out.mono ?_; rintro e w' ⟨rfl, rfl⟩)
  all_goals
    go_ret
    refine ⟨ret_int ?_, rfl⟩
    have h2 := HE.out
    clear hx HC HE
    try simp only [beq_iff_eq, beq_eq_false_iff_ne, ne_eq] at *
    rw [h2]
    repeat' split
    all_goals first | rfl | (exfalso; omega)

set_option maxHeartbeats 400000 in
theorem canon_any {w : World} (u : Nat) (hu : u < 18446744073709551616) :
    Calls Tryd.prog 50 #[.float .f64 u] w fun e w' => e = .returned (.float .f64 (canonB u)) ∧ w = w' := by
  have hx := run_frombits (canonB u) w
  have HC := Lib.hid (canonBits_any (w := w) u hu)
  clear hu
  generalize canonB u = v at HC hx ⊢
  go_enter Tryd.func50, Tryd.ntmps50
  go_wp2_with (go_at_call 44; refine HC.out.mono ?_; rintro e w' ⟨rfl, rfl⟩)
  go_ret
  exact ⟨rfl, rfl⟩

end Go.Proofs.YtckmajcophpddaaDoor
