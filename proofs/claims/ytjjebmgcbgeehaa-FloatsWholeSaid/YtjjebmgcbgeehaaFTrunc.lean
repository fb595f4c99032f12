/-
  math.Trunc: a contract for the walks.
-/
import Derived.Test.YtjjebmgcbgeehaaFExact
set_option linter.unusedVariables false
namespace Go.Proofs.Ytjjebmgcbgeehaa
open Go.RowKit

/-- The bits of a float cut towards zero. -/
def truncB (u : Nat) : Nat := FloatKind.f64.encode ((FloatKind.f64.decode u).integral .zero)

theorem integral_fval {u : Nat} (hu : u < 18446744073709551616) (h : isFin u) (hw : whl u < 18446744073709551616) : truncB u < 18446744073709551616 ∧ isFin (truncB u) ∧ fval (truncB u) = trB u * (U : Int) := by
  obtain ⟨m, a, hr, hm, _⟩ := read_shape h
  have hd : FloatKind.f64.decode u = Ieee.double.read u := rfl
  have he : truncB u = Ieee.double.nearest (u / 9223372036854775808 % 2 == 1) (whl u) 0 := by
    unfold truncB
    rw [hd, hr]
    unfold Ieee.Datum.integral
    simp only [cut_mag hm]
    rfl
  rw [he]
  by_cases h0 : whl u = 0
  · have e0 : trB u = 0 := by
      unfold trB
      split <;> omega
    have e1 : ∀ s, Ieee.double.nearest s 0 0 = Ieee.double.word s 0 := fun s => rfl
    rw [h0, e0, e1, Int.zero_mul]
    cases (u / 9223372036854775808 % 2 == 1)
    · rw [word_pos]
      exact ⟨by omega, by unfold isFin; omega, by decide +kernel⟩
    · rw [word_neg]
      exact ⟨by omega, by unfold isFin; omega, by decide +kernel⟩
  · obtain ⟨r, hr, hr1, hr2⟩ := nearest_exact (u / 9223372036854775808 % 2 == 1) h0 (lowZ_whl h) hw
    rw [hr]
    unfold trB
    by_cases hn : u < 9223372036854775808
    · have h2 : u / 9223372036854775808 = 0 := by omega
      rw [if_pos hn, h2, show ((0 : Nat) % 2 == 1) = false from rfl, word_pos]
      have e1 : r % 9223372036854775808 = r := by omega
      refine ⟨by omega, by unfold isFin; omega, ?_⟩
      unfold fval mag
      rw [if_pos (by omega), e1, hr2, Int.natCast_mul]
    · have h2 : u / 9223372036854775808 = 1 := by omega
      rw [if_neg hn, h2, show ((1 : Nat) % 2 == 1) = true from rfl, word_neg]
      have e1 : (9223372036854775808 + r) % 9223372036854775808 = r := by omega
      refine ⟨by omega, by unfold isFin; omega, ?_⟩
      unfold fval mag
      rw [if_neg (by omega), e1, hr2, Int.natCast_mul, Int.neg_mul]

/-- What the stand-in does, by what the bits stand for: the rest of a NaN is left open. -/
theorem arch_shape (u : Nat) : ∃ (q : Question) (f : Bool → Nat → Nat → Nat), Extern.MathFloor.toIntegral "math.archTrunc" .zero #[.float .f64 u] =
    (match FloatKind.f64.decode u with
      | .nan s t => if FloatKind.f64.format.quiet t = t then pure (.float .f64 u) else choose q >>= fun k => pure (.float .f64 (f s t k))
      | d => pure (.float .f64 (FloatKind.f64.encode (Ieee.Datum.integral .zero d)))) :=
  ⟨_, fun s t k => if k == 1 then u else FloatKind.f64.encode (.nan s (FloatKind.f64.format.quiet t)), rfl⟩

theorem run_trunc_num {u : Nat} (h : isNum u) (w : World) : (callFunc 35 #[.float .f64 u]).run Try.prog w = .ok (.value (.float .f64 (truncB u))) w := by
  rw [run_callFunc_extern Try.func35 (by kernel_rfl) (by kernel_rfl) (by kernel_rfl) (e := Extern.MathFloor.toIntegral "math.archTrunc" .zero) (by kernel_rfl)]
  have hd : FloatKind.f64.decode u = Ieee.double.read u := rfl
  obtain ⟨q, f, hs⟩ := arch_shape u
  rw [hs]
  unfold truncB
  unfold isNum at h
  by_cases hf : u % 9223372036854775808 < 9218868437227405312
  · obtain ⟨m, a, hr, _⟩ := read_fin hf
    rw [hd, hr]
    rfl
  · have hr := read_inf (u := u) (by omega)
    rw [hd, hr]
    rfl
theorem run_trunc_nan {u : Nat} (h : ¬ isNum u) (w : World) : ∃ y w1, (callFunc 35 #[.float .f64 u]).run Try.prog w = .ok (.value (.float .f64 y)) w1 ∧ Below w.heap.size w w1 := by
  rw [run_callFunc_extern Try.func35 (by kernel_rfl) (by kernel_rfl) (by kernel_rfl) (e := Extern.MathFloor.toIntegral "math.archTrunc" .zero) (by kernel_rfl)]
  have hd : FloatKind.f64.decode u = Ieee.double.read u := rfl
  obtain ⟨s, t, hr⟩ := read_nan h
  obtain ⟨q, f, hs⟩ := arch_shape u
  rw [hs, hd, hr]
  by_cases hq : FloatKind.f64.format.quiet t = t
  · simp only [if_pos hq]
    exact ⟨_, _, rfl, Below.refl _ _⟩
  · simp only [if_neg hq]
    have hc := run_choose_drew Try.prog w q
    by_cases hfq : q.forced
    · rw [if_pos hfq] at hc
      refine ⟨f s t 0, w, ?_, Below.refl _ _⟩
      rw [Sem.run_bind, hc]
      rfl
    · rw [if_neg hfq] at hc
      refine ⟨f s t (q.cut (w.tape w.drawn q)), w.drew, ?_, Below.drew (Below.refl _ _)⟩
      rw [Sem.run_bind, hc]
      rfl

def TruncPost (P : Nat → Prop) (w : World) (e : Ending) (w' : World) : Prop := ∃ y, e = .returned (.float .f64 y) ∧ P y ∧ Below w.heap.size w w'

set_option maxHeartbeats 400000 in
theorem trunc_num {w : World} (u : Nat) (h : isNum u) : Calls Try.prog 22 #[.float .f64 u] w fun e w' => e = .returned (.float .f64 (truncB u)) ∧ w = w' := by
  have hx := run_trunc_num h w
  clear h
  go_enter Try.func22, Try.ntmps22
  go_wp2
  go_ret
  exact ⟨rfl, rfl⟩
set_option maxHeartbeats 400000 in
theorem trunc_nan {w : World} (u : Nat) (h : ¬ isNum u) : Calls Try.prog 22 #[.float .f64 u] w (TruncPost (fun _ => True) w) := by
  obtain ⟨y, w1, hx, hb⟩ := run_trunc_nan h w
  have HB := Lib.hid hb
  clear h hb
  go_enter Try.func22, Try.ntmps22
  go_wp2
  go_ret
  exact ⟨_, rfl, trivial, HB.out⟩

end Go.Proofs.Ytjjebmgcbgeehaa
