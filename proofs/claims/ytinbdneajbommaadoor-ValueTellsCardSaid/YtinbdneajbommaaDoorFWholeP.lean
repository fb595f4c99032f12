/-
  floats.Whole: a contract for the walks.
-/
import Derived.Test.YtinbdneajbommaaDoorFCanon
import Derived.Test.YtinbdneajbommaaDoorFBits
set_option linter.unusedVariables false
set_option maxRecDepth 100000
namespace Go.Proofs.YtinbdneajbommaaDoor
open Go.RowKit

theorem srung_pos {u : Nat} (h : u < 9223372036854775808) : srung u = u := by unfold srung; rw [if_pos h]
theorem srung_neg {u : Nat} (h : 9223372036854775808 ≤ u) : srung u = 9223372036854775808 - (u : Int) := by unfold srung; rw [if_neg (by omega)]

theorem two63_aux {L E a b : Nat} (ha : a = 2 ^ 52) (hb : b = 2 ^ 63) (hL : L = 63) (hE : E = 1074) : a * 2 ^ (L + 1022) = b * 2 ^ E := by
  rw [ha, hb, ← Nat.pow_add, ← Nat.pow_add]
  have : 52 + (L + 1022) = 63 + E := by omega
  rw [this]
theorem siz_two63_of {a b c L : Nat} (ha : a = 2 ^ 52) (hb : b = 2 ^ 63) (h0 : 0 < a) (hL : L = 63) (hc : c = (L + 1022) * a + a) : siz a c = b * U := by
  rw [hc, siz_at a L a (Nat.le_refl _) (by omega)]
  exact two63_aux ha hb hL ue
theorem siz_two63 : siz 4503599627370496 4890909195324358656 = 9223372036854775808 * U :=
  siz_two63_of (a := 4503599627370496) (b := 9223372036854775808) (c := 4890909195324358656) (L := 63) (by decide) (by decide) (by decide) rfl (by decide)

/-- Within the whole numbers of 64 bits. -/
def inR (u : Nat) : Prop := isNum u ∧ -4890909195324358656 ≤ srung u ∧ srung u < 4890909195324358656
theorem inR.fin {u : Nat} (hu : u < 18446744073709551616) (h : inR u) : isFin u := by
  obtain ⟨h1, h2, h3⟩ := h
  unfold srung at h2 h3
  unfold isFin
  split at h2 <;> omega
theorem mag_mono {r s : Nat} (h : r ≤ s) : siz 4503599627370496 r ≤ siz 4503599627370496 s := by
  rcases Nat.lt_or_ge r s with h1 | h1
  · exact Nat.le_of_lt (siz_lt (by omega) h1)
  · obtain rfl : r = s := by omega
    exact Nat.le_refl _
theorem inR.bound {u : Nat} (hu : u < 18446744073709551616) (h : inR u) : whl u ≤ 9223372036854775808 ∧ -9223372036854775808 ≤ trB u ∧ trB u ≤ 9223372036854775807 := by
  obtain ⟨h1, h2, h3⟩ := h
  unfold trB
  have hm : u % 9223372036854775808 ≤ 4890909195324358656 := by
    unfold srung at h2 h3
    split at h2 <;> omega
  have hw : whl u ≤ 9223372036854775808 := by
    unfold whl
    refine Nat.div_le_of_le_mul ?_
    rw [Nat.mul_comm, ← siz_two63]
    exact mag_mono hm
  by_cases hs : u < 9223372036854775808
  · rw [if_pos hs]
    rw [srung_pos hs] at h3
    have hlt : whl u < 9223372036854775808 := by
      unfold whl
      rw [Nat.div_lt_iff_lt_mul U_pos, ← siz_two63]
      exact siz_lt (by omega) (by omega)
    omega
  · rw [if_neg hs]
    omega

/-- What Whole tells of the bits u. -/
noncomputable def wholeB (u : Nat) : Int × Bool := open Classical in if inR u ∧ fval u = trB u * (U : Int) then (trB u, true) else (0, false)
theorem wholeB_yes {u : Nat} (h1 : inR u) (h2 : fval u = trB u * (U : Int)) : wholeB u = (trB u, true) := by
  unfold wholeB
  rw [if_pos ⟨h1, h2⟩]
theorem wholeB_no {u : Nat} (h : ¬ (inR u ∧ fval u = trB u * (U : Int))) : wholeB u = (0, false) := by
  unfold wholeB
  rw [if_neg h]

theorem flt_tr {u : Nat} (hu : u < 18446744073709551616) (h : inR u) : fltB (trB u) < 18446744073709551616 ∧ isFin (fltB (trB u)) ∧ fval (fltB (trB u)) = trB u * (U : Int) := by
  have hb := h.bound hu
  have hn : (trB u).natAbs = whl u := by
    unfold trB
    split <;> omega
  refine flt_exact ?_ (by omega)
  rw [hn]
  exact lowZ_whl (h.fin hu)

theorem lo_srung : srung 14114281232179134464 = -4890909195324358656 := by rw [srung_neg (by omega)]; omega
theorem hi_srung : srung 4890909195324358656 = 4890909195324358656 := by rw [srung_pos (by omega)]; rfl

/-- The test ahead: is it within the whole numbers? -/
theorem test_in {u : Nat} (hu : u < 18446744073709551616) (h : inR u) : (FloatKind.f64.format.order u 14114281232179134464 == some Ordering.gt || FloatKind.f64.format.order u 14114281232179134464 == some Ordering.eq) = true ∧
    (FloatKind.f64.format.order u 4890909195324358656 == some Ordering.lt) = true := by
  obtain ⟨h1, h2, h3⟩ := h
  rw [fmt64, order_bits hu (by omega) h1 (by unfold isNum; omega), order_bits hu (by omega) h1 (by unfold isNum; omega), lo_srung, hi_srung]
  constructor
  · rcases Int.lt_or_eq_of_le h2 with h | h
    · rw [Int.compare_eq_gt.2 h]
      rfl
    · rw [Int.compare_eq_eq.2 h.symm]
      rfl
  · rw [Int.compare_eq_lt.2 h3]
    rfl
theorem test_out {u : Nat} (hu : u < 18446744073709551616) (h : ¬ inR u) : (FloatKind.f64.format.order u 14114281232179134464 == some Ordering.gt || FloatKind.f64.format.order u 14114281232179134464 == some Ordering.eq) = false ∨
    ((FloatKind.f64.format.order u 14114281232179134464 == some Ordering.gt || FloatKind.f64.format.order u 14114281232179134464 == some Ordering.eq) = true ∧ (FloatKind.f64.format.order u 4890909195324358656 == some Ordering.lt) = false) := by
  by_cases hn : isNum u
  · rw [fmt64, order_bits hu (by omega) hn (by unfold isNum; omega), order_bits hu (by omega) hn (by unfold isNum; omega), lo_srung, hi_srung]
    by_cases h2 : -4890909195324358656 ≤ srung u
    · have h3 : 4890909195324358656 ≤ srung u := by
        rcases Int.lt_or_le (srung u) 4890909195324358656 with h3 | h3
        · exact absurd ⟨hn, h2, h3⟩ h
        · exact h3
      right
      constructor
      · rw [Int.compare_eq_gt.2 (by omega)]
        rfl
      · rcases Int.lt_or_eq_of_le h3 with h | h
        · rw [Int.compare_eq_gt.2 h]
          rfl
        · rw [Int.compare_eq_eq.2 h.symm]
          rfl
    · left
      rw [Int.compare_eq_lt.2 (by omega)]
      rfl
  · left
    rw [fmt64, order_nan (.inl hn)]
    rfl
theorem test_back {u : Nat} (hu : u < 18446744073709551616) (h : inR u) : (FloatKind.f64.format.order (fltB (trB u)) u != some Ordering.eq) = !decide (fval u = trB u * (U : Int)) := by
  obtain ⟨k1, k2, k3⟩ := flt_tr hu h
  rw [fmt64, order_fval k1 hu k2.num h.1, k3]
  by_cases he : fval u = trB u * (U : Int)
  · rw [Int.compare_eq_eq.2 he.symm, decide_eq_true he]
    rfl
  · rw [decide_eq_false he]
    rcases Int.lt_trichotomy (fval u) (trB u * (U : Int)) with hl | hl | hl
    · rw [Int.compare_eq_gt.2 hl]
      rfl
    · exact absurd hl he
    · rw [Int.compare_eq_lt.2 hl]
      rfl

theorem run_tr {u : Nat} (hu : u < 18446744073709551616) (h : inR u) (w : World) : (convert 22 3 (.float .f64 u)).run Tryd.prog w = .ok (.int .i64 (trB u)) w := by
  refine run_convert_float_int w 22 3 .f64 .i64 u (trB u) (by rw [Tryd.underlying22]; rfl) Tryd.underlying3 ?_
  unfold floatToIntVal
  rw [toInt_fin hu (h.fin hu)]
  have hb := (h.bound hu).2
  have h1 : IntKind.i64.min = -9223372036854775808 := rfl
  have h2 : IntKind.i64.max = 9223372036854775807 := rfl
  simp only []
  rw [if_pos (by omega)]
theorem run_flt (n : Int) (w : World) : (convert 3 22 (.int .i64 n)).run Tryd.prog w = .ok (.float .f64 (fltB n)) w :=
  run_convert_int_float w 3 22 .i64 .f64 n (by rw [Tryd.underlying3]; rfl) Tryd.underlying22

end Go.Proofs.YtinbdneajbommaaDoor
