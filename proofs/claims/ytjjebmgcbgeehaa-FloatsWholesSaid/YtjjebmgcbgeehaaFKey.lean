/-
  floats.Class, Canon, Key, Compare: contracts for the walks, in the words of a float's bits.
-/
import Derived.Test.YtjjebmgcbgeehaaProg
import Derived.WalkKit
import Derived.WalkSpells
import Derived.WalkLawsBesides
import Derived.Laws.Cover2
import Derived.Laws.FloatArith
import Derived.Laws.Externs
import Derived.Laws.BitsAllLaws
import Derived.Lib.Hide
import Derived.IntWalk
import Derived.Deep.QuietTactic
import Derived.BigQuiet
import Derived.Test.YtjjebmgcbgeehaaFBits
set_option linter.unusedVariables false
namespace Go.Proofs.Ytjjebmgcbgeehaa
open Go.RowKit

theorem ret_int {k : IntKind} {a b : Int} (h : a = b) : Ending.returned (.int k a) = .returned (.int k b) := by rw [h]
theorem ret_bool {a b : Bool} (h : a = b) : Ending.returned (.bool a) = .returned (.bool b) := by rw [h]
theorem ret_flt {k : FloatKind} {a b : Nat} (h : a = b) : Ending.returned (.float k a) = .returned (.float k b) := by rw [h]

theorem run_bits (u : Nat) (w : World) : (callFunc 8 #[.float .f64 u]).run Try.prog w = .ok (.value (.int .u64 (u : Int))) w := by
  rw [run_callFunc_extern Try.func8 (by kernel_rfl) (by kernel_rfl) (by kernel_rfl) (e := Extern.MathFloatBits.float64bits) (by kernel_rfl)]
  rfl
theorem run_frombits (u : Nat) (w : World) : (callFunc 31 #[.int .u64 (u : Int)]).run Try.prog w = .ok (.value (.float .f64 u)) w := by
  rw [run_callFunc_extern Try.func31 (by kernel_rfl) (by kernel_rfl) (by kernel_rfl) (e := Extern.MathFloatBits.float64frombits) (by kernel_rfl)]
  rfl

set_option maxHeartbeats 400000 in
theorem class_any {w : World} (u : Nat) (hu : u < 18446744073709551616) :
    Calls Try.prog 21 #[.float .f64 u] w fun e w' => e = .returned (.int .i64 (classB u)) ∧ w = w' := by
  have hx := run_bits u w
  obtain ⟨z, hz⟩ : ∃ z, z = u % 9223372036854775808 := ⟨_, rfl⟩
  have ha := andNot_sign hu
  rw [← hz] at ha
  have HU := Lib.hid hu
  have HZ := Lib.hid hz
  clear hu hz
  go_enter Try.func21, Try.ntmps21
  go_wp2
  all_goals
    go_ret
    refine ⟨ret_int ?_, rfl⟩
    have h1 := HU.out
    have h2 := HZ.out
    clear hx ha HU HZ
    try simp only [beq_iff_eq, beq_eq_false_iff_ne, ne_eq] at *
    unfold classB
    rw [← h2]
    repeat' split
    all_goals first | rfl | (exfalso; omega)

/-- What the bits of the stand-in are, by the class. -/
theorem canonB_class (u : Nat) : canonB u = if classB u = 0 then 9221120237041090560 else if classB u = 3 then 0 else u := by
  unfold canonB classB
  repeat' split
  all_goals first | rfl | (exfalso; omega)

set_option maxHeartbeats 400000 in
theorem canonBits_any {w : World} (u : Nat) (hu : u < 18446744073709551616) :
    Calls Try.prog 28 #[.float .f64 u] w fun e w' => e = .returned (.int .u64 (canonB u : Nat)) ∧ w = w' := by
  have hx := run_bits u w
  have HC := Lib.hid (class_any (w := w) u hu)
  have HE := Lib.hid (canonB_class u)
  clear hu
  generalize classB u = c at HC HE
  generalize canonB u = v at HE ⊢
  go_enter Try.func28, Try.ntmps28
  go_wp2_with (go_at_call 21; refine HC.out.mono ?_; rintro e w' ⟨rfl, rfl⟩)
  all_goals
    go_ret
    refine ⟨ret_int ?_, rfl⟩
    have h2 := HE.out
    clear hx HC HE
    try simp only [beq_iff_eq, beq_eq_false_iff_ne, ne_eq] at *
    rw [h2]
    repeat' split
    all_goals first | rfl | (exfalso; omega)

set_option maxHeartbeats 400000 in
theorem canon_any {w : World} (u : Nat) (hu : u < 18446744073709551616) :
    Calls Try.prog 30 #[.float .f64 u] w fun e w' => e = .returned (.float .f64 (canonB u)) ∧ w = w' := by
  have hx := run_frombits (canonB u) w
  have HC := Lib.hid (canonBits_any (w := w) u hu)
  clear hu
  generalize canonB u = v at HC hx ⊢
  go_enter Try.func30, Try.ntmps30
  go_wp2_with (go_at_call 28; refine HC.out.mono ?_; rintro e w' ⟨rfl, rfl⟩)
  go_ret
  exact ⟨rfl, rfl⟩

set_option maxHeartbeats 400000 in
theorem key_any {w : World} (u : Nat) (hu : u < 18446744073709551616) :
    Calls Try.prog 16 #[.float .f64 u] w fun e w' => e = .returned (.int .u64 (keyB u : Nat)) ∧ w = w' := by
  have HC := Lib.hid (canonBits_any (w := w) u hu)
  have HV := Lib.hid (canonB_lt hu)
  have HE : Hid (keyB u = if canonB u = 9221120237041090560 then 18446744073709551615 else if 9223372036854775808 ≤ canonB u then 18446744073709551615 - canonB u else canonB u + 9223372036854775808) := Lib.hid rfl
  clear hu
  generalize keyB u = k at HE ⊢
  generalize canonB u = v at *
  have HO : Hid (v < 9223372036854775808 → bits .or .u64 (v : Int) 9223372036854775808 = (k : Int) ∨ v = 9221120237041090560) := by
    refine Lib.hid fun h => ?_
    by_cases h1 : v = 9221120237041090560
    · exact .inr h1
    · have h2 := HE.out
      rw [if_neg h1, if_neg (by omega)] at h2
      rw [or_sign h, h2]
      exact .inl rfl
  go_enter Try.func16, Try.ntmps16
  go_wp2_with fail
  refine HC.out.mono ?_; rintro e w' ⟨rfl, rfl⟩
  by_cases h1 : v = 9221120237041090560
  · have h1' : ((v : Int) == 9221120237041090560) = true := by rw [h1]; rfl
    have H1 := Lib.hid h1
    clear h1
    go_wp2
    go_ret
    refine ⟨ret_int ?_, rfl⟩
    have h2 := HE.out
    rw [if_pos H1.out] at h2
    rw [h2]
    rfl
  · have h1' : ((v : Int) == 9221120237041090560) = false := by rw [beq_eq_false_iff_ne]; omega
    have H1 := Lib.hid h1
    clear h1
    by_cases h2 : 9223372036854775808 ≤ v
    · have h2' : (9223372036854775808 : Int) ≤ (v : Int) := by omega
      have H2 := Lib.hid h2
      clear h2
      go_wp2
      go_ret
      refine ⟨ret_int ?_, rfl⟩
      have h2 := HE.out
      rw [if_neg H1.out, if_pos H2.out] at h2
      rw [not_walk HV.out, h2]
    · have h2' : decide ((9223372036854775808 : Int) ≤ (v : Int)) = false := by rw [decide_eq_false_iff_not]; omega
      have ho : bits .or .u64 (v : Int) 9223372036854775808 = (k : Int) := by
        rcases HO.out (by omega) with h | h
        · exact h
        · exact absurd h H1.out
      have HO2 := Lib.hid ho
      clear h2 ho HO HV HE H1
      go_wp2
      go_ret
      exact ⟨ret_int HO2.out, rfl⟩

set_option maxHeartbeats 400000 in
theorem cmpU_any {w : World} (a b : Int) :
    Calls Try.prog 29 #[.int .u64 a, .int .u64 b] w fun e w' => e = .returned (.int .i64 (cmpI a b)) ∧ w = w' := by
  have HN : ∀ x : Int, Calls Try.prog 39 #[.int .u64 x] w fun e w' => e = .returned (.bool false) ∧ w = w' := by
    intro x
    go_enter Try.func39, Try.ntmps39
    go_wp2
    go_ret
    exact ⟨rfl, rfl⟩
  have HN := Lib.hid HN
  go_enter Try.func29, Try.ntmps29
  go_wp2_with (go_at_call 39; refine (HN.out _).mono ?_; rintro e w' ⟨rfl, rfl⟩)
  all_goals
    go_ret
    refine ⟨ret_int ?_, rfl⟩
    unfold cmpI
    repeat' split
    all_goals first | rfl | (exfalso; omega)

set_option maxHeartbeats 400000 in
theorem compare_any {w : World} (u v : Nat) (hu : u < 18446744073709551616) (hv : v < 18446744073709551616) :
    Calls Try.prog 17 #[.float .f64 u, .float .f64 v] w fun e w' => e = .returned (.int .i64 (cmpI (keyB u) (keyB v))) ∧ w = w' := by
  have H1 := Lib.hid (key_any (w := w) u hu)
  have H2 := Lib.hid (key_any (w := w) v hv)
  have H3 := Lib.hid (cmpU_any (w := w) (keyB u) (keyB v))
  clear hu hv
  generalize cmpI (keyB u) (keyB v) = r at *
  generalize keyB u = x at *
  generalize keyB v = y at *
  go_enter Try.func17, Try.ntmps17
  go_wp2_with fail
  refine H1.out.mono ?_; rintro e w' ⟨rfl, rfl⟩
  go_wp2_with fail
  refine H2.out.mono ?_; rintro e w' ⟨rfl, rfl⟩
  go_wp2_with fail
  refine H3.out.mono ?_; rintro e w' ⟨rfl, rfl⟩
  go_wp2
  go_ret
  exact ⟨rfl, rfl⟩

set_option maxHeartbeats 400000 in
theorem of_any {w : World} (k : Nat) (hk : k < 18446744073709551616) :
    Calls Try.prog 18 #[.int .u64 k] w fun e w' => e = .returned (.tuple #[.float .f64 (ofB k).1, .bool (ofB k).2]) ∧ w = w' := by
  have hlt := uncB_lt hk
  have hx := Lib.hid (run_frombits (uncB k) w)
  have H1 := Lib.hid (canon_any (w := w) (uncB k) hlt)
  have H2 := Lib.hid (key_any (w := w) (canonB (uncB k)) (canonB_lt hlt))
  have HE : Hid (ofB k = if keyB (canonB (uncB k)) = k then (canonB (uncB k), true) else (0, false)) := Lib.hid rfl
  have HU : Hid (uncB k = if 9223372036854775808 ≤ k then k - 9223372036854775808 else 18446744073709551615 - k) := Lib.hid rfl
  have HN := Lib.hid (not_walk hk)
  have HA := Lib.hid (andNot_sign hk)
  have HK := Lib.hid hk
  clear hlt hk
  generalize ofB k = r at *
  generalize keyB (canonB (uncB k)) = y at *
  generalize canonB (uncB k) = v at *
  generalize uncB k = u at *
  go_enter Try.func18, Try.ntmps18
  have hu : u = (if 9223372036854775808 ≤ k then k % 9223372036854775808 else 18446744073709551615 - k) := by
    have h1 := HU.out
    have h2 := HK.out
    rw [h1]
    split <;> omega
  have HU' := Lib.hid hu
  clear hu HU
  by_cases h2 : 9223372036854775808 ≤ k
  · have h2' : decide ((9223372036854775808 : Int) ≤ (k : Int)) = true := by rw [decide_eq_true_iff]; omega
    have h3 : bits BinOp.andNot IntKind.u64 (k : Int) 9223372036854775808 = (u : Int) := by
      have h1 := HU'.out
      rw [if_pos h2] at h1
      rw [HA.out, h1]
    clear h2
    have hx1 := hx.out
    go_wp2_with fail
    refine H1.out.mono ?_; rintro e w' ⟨rfl, rfl⟩
    clear h3
    go_wp2_with fail
    refine H2.out.mono ?_; rintro e w' ⟨rfl, rfl⟩
    by_cases h4 : y = k
    · have h4' : ((y : Int) != (k : Int)) = false := by rw [h4]; simp
      have H4 := Lib.hid h4
      clear h4
      go_wp2
      go_ret2
      have h5 := HE.out
      rw [if_pos H4.out] at h5
      subst h5
      exact ⟨rfl, rfl⟩
    · have h4' : ((y : Int) != (k : Int)) = true := by simp; omega
      have H4 := Lib.hid h4
      clear h4
      go_wp2
      go_ret2
      have h5 := HE.out
      rw [if_neg H4.out] at h5
      subst h5
      exact ⟨rfl, rfl⟩
  · have h2' : decide ((9223372036854775808 : Int) ≤ (k : Int)) = false := by rw [decide_eq_false_iff_not]; omega
    have h3 : bits BinOp.xor IntKind.u64 IntKind.u64.max (k : Int) = (u : Int) := by
      have h1 := HU'.out
      rw [if_neg h2] at h1
      rw [HN.out, h1]
    clear h2
    have hx1 := hx.out
    go_wp2_with fail
    refine H1.out.mono ?_; rintro e w' ⟨rfl, rfl⟩
    clear h3
    go_wp2_with fail
    refine H2.out.mono ?_; rintro e w' ⟨rfl, rfl⟩
    by_cases h4 : y = k
    · have h4' : ((y : Int) != (k : Int)) = false := by rw [h4]; simp
      have H4 := Lib.hid h4
      clear h4
      go_wp2
      go_ret2
      have h5 := HE.out
      rw [if_pos H4.out] at h5
      subst h5
      exact ⟨rfl, rfl⟩
    · have h4' : ((y : Int) != (k : Int)) = true := by simp; omega
      have H4 := Lib.hid h4
      clear h4
      go_wp2
      go_ret2
      have h5 := HE.out
      rw [if_neg H4.out] at h5
      subst h5
      exact ⟨rfl, rfl⟩

end Go.Proofs.Ytjjebmgcbgeehaa
