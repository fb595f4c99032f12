/-
  Plain facts on whole numbers and floats: what a float is in its least unit; a whole number of few digits is a float; what is left of a float cut towards zero.
-/
import Derived.Test.YtjimbjcfoebimaaFBits
import Derived.Laws.FloatArith
set_option linter.unusedVariables false
set_option maxRecDepth 100000
namespace Go.Proofs.Ytjimbjcfoebimaa
open Go.RowKit

/-- The number 1, in the least unit of floats. -/
def UE : Nat := 1074
theorem ue : UE = 1074 := rfl
def U : Nat := 2 ^ UE
theorem U_pos : 0 < U := Nat.two_pow_pos _
def isFin (u : Nat) : Prop := u % 9223372036854775808 < 9218868437227405312
theorem isFin.num {u : Nat} (h : isFin u) : isNum u := by unfold isFin at h; unfold isNum; omega
/-- A float in the least unit. -/
def mag (u : Nat) : Nat := siz 4503599627370496 (u % 9223372036854775808)
def fval (u : Nat) : Int := if u < 9223372036854775808 then (mag u : Int) else -(mag u : Int)

theorem fval_lt {u v : Nat} (hu : u < 18446744073709551616) (hv : v < 18446744073709551616) : fval u < fval v ↔ srung u < srung v := by
  unfold fval srung mag
  have h1 := @siz_inj 4503599627370496 (by omega) (u % 9223372036854775808) (v % 9223372036854775808)
  have h2 := @siz_inj 4503599627370496 (by omega) (v % 9223372036854775808) (u % 9223372036854775808)
  have z1 := @siz_inj 4503599627370496 (by omega) 0 (u % 9223372036854775808)
  have z2 := @siz_inj 4503599627370496 (by omega) 0 (v % 9223372036854775808)
  have z0 : siz 4503599627370496 0 = 0 := by decide
  rw [z0] at z1 z2
  generalize siz 4503599627370496 (u % 9223372036854775808) = x at *
  generalize siz 4503599627370496 (v % 9223372036854775808) = y at *
  repeat' split
  all_goals omega
theorem fval_eq {u v : Nat} (hu : u < 18446744073709551616) (hv : v < 18446744073709551616) : fval u = fval v ↔ srung u = srung v := by
  have h1 := fval_lt hu hv
  have h2 := fval_lt hv hu
  omega
theorem order_fval {u v : Nat} (hu : u < 18446744073709551616) (hv : v < 18446744073709551616) (nu : isNum u) (nv : isNum v) : Ieee.double.order u v = some (compare (fval u) (fval v)) := by
  rw [order_bits hu hv nu nv]
  congr 1
  exact compare_congr (fval_lt hu hv).symm (fval_eq hu hv).symm

theorem read_shape {u : Nat} (h : isFin u) :
    ∃ m a : Nat, Ieee.double.read u = .number (u / 9223372036854775808 % 2 == 1) m (-1074 + (a : Int)) ∧ m * 2 ^ a = mag u ∧ m < 9007199254740992 := by
  unfold isFin at h
  have hl : Ieee.double.leastPlace = -1074 := by decide
  unfold mag
  unfold Ieee.Format.read siz
  simp only [dbl_sign, dbl_binade, dbl_inf, hl]
  by_cases h1 : u % 9223372036854775808 < 4503599627370496
  · rw [if_pos h1, if_pos h1]
    exact ⟨u % 9223372036854775808, 0, by simp, by simp, by omega⟩
  · rw [if_neg h1, if_neg h1, if_pos h]
    exact ⟨_, _, rfl, rfl, by omega⟩

theorem cut_zero (s : Bool) (n d : Nat) : Ieee.Toward.zero.cut s n d = n / 2 ^ d := by
  unfold Ieee.Toward.cut
  simp only [Nat.shiftLeft_eq, Nat.one_mul, Bool.toNat_false, Nat.add_zero]
  by_cases h : d ≤ n.log2 + 2
  · rw [Nat.min_eq_left h]
  · rw [Nat.min_eq_right (by omega)]
    have h1 : n < 2 ^ (n.log2 + 1) := Nat.lt_log2_self
    rw [Nat.div_eq_of_lt (Nat.lt_of_lt_of_le h1 (Nat.pow_le_pow_right (by decide) (by omega))), Nat.div_eq_of_lt (Nat.lt_of_lt_of_le h1 (Nat.pow_le_pow_right (by decide) (by omega)))]

/-- A float cut towards zero: how great it is. -/
def whl (u : Nat) : Nat := mag u / U
/-- .. with its sign. -/
def trB (u : Nat) : Int := if u < 9223372036854775808 then (whl u : Int) else -(whl u : Int)

theorem cut_mag {m a u : Nat} (h : m * 2 ^ a = mag u) (s : Bool) : Ieee.Toward.zero.cut s (m <<< (-1074 + (a : Int)).toNat) (-(-1074 + (a : Int))).toNat = whl u := by
  rw [cut_zero, Nat.shiftLeft_eq]
  unfold whl U
  rw [← h]
  have hu := ue
  generalize UE = E at hu ⊢
  rcases Nat.lt_or_ge a E with h1 | h1
  · have e1 : (-1074 + (a : Int)).toNat = 0 := by omega
    have e2 : (-(-1074 + (a : Int))).toNat = E - a := by omega
    rw [e1, e2, Nat.pow_zero, Nat.mul_one]
    have e3 : 2 ^ E = 2 ^ a * 2 ^ (E - a) := by rw [← Nat.pow_add]; congr 1; omega
    rw [e3, ← Nat.div_div_eq_div_mul, Nat.mul_div_cancel _ (Nat.two_pow_pos a)]
  · have e1 : (-1074 + (a : Int)).toNat = a - E := by omega
    have e2 : (-(-1074 + (a : Int))).toNat = 0 := by omega
    rw [e1, e2, Nat.pow_zero, Nat.div_one]
    have e3 : 2 ^ a = 2 ^ (a - E) * 2 ^ E := by rw [← Nat.pow_add]; congr 1; omega
    rw [e3, ← Nat.mul_assoc, Nat.mul_div_cancel _ (Nat.two_pow_pos E)]

theorem toInt_fin {u : Nat} (hu : u < 18446744073709551616) (h : isFin u) : (FloatKind.f64.decode u).toInt .zero = some (trB u) := by
  obtain ⟨m, a, hr, hm, _⟩ := read_shape h
  have hd : FloatKind.f64.decode u = Ieee.double.read u := rfl
  rw [hd, hr]
  unfold Ieee.Datum.toInt Ieee.Datum.integral
  simp only [cut_mag hm]
  unfold Ieee.signed trB
  simp only [Nat.shiftLeft_zero]
  by_cases h1 : u < 9223372036854775808
  · have h2 : u / 9223372036854775808 = 0 := by omega
    rw [if_pos h1, h2, if_neg (by decide)]
  · have h2 : u / 9223372036854775808 = 1 := by omega
    rw [if_neg h1, h2, if_pos (by decide)]

/-- A number of at most 53 digits behind which there are zeros alone. -/
def LowZ (M : Nat) : Prop := ∃ t e, M = t * 2 ^ e ∧ t < 9007199254740992
theorem lowZ_whl {u : Nat} (h : isFin u) : LowZ (whl u) := by
  obtain ⟨m, a, hr, hm, hlt⟩ := read_shape h
  have hc := cut_mag hm false
  rw [cut_zero, Nat.shiftLeft_eq] at hc
  rw [← hc]
  rcases Nat.lt_or_ge a 1074 with h1 | h1
  · have e1 : (-1074 + (a : Int)).toNat = 0 := by omega
    rw [e1, Nat.pow_zero, Nat.mul_one]
    refine ⟨m / 2 ^ (-(-1074 + (a : Int))).toNat, 0, by simp, ?_⟩
    exact Nat.lt_of_le_of_lt (Nat.div_le_self _ _) hlt
  · have e2 : (-(-1074 + (a : Int))).toNat = 0 := by omega
    rw [e2, Nat.pow_zero, Nat.div_one]
    exact ⟨m, _, rfl, hlt⟩

theorem cut_even0 (s : Bool) (n : Nat) : Ieee.Toward.even.cut s n 0 = n := by
  unfold Ieee.Toward.cut
  simp [Nat.mod_one]
theorem cut_even {s : Bool} {n d : Nat} (hd : d ≤ n.log2 + 2) (h : n % 2 ^ d = 0) : Ieee.Toward.even.cut s n d = n / 2 ^ d := by
  unfold Ieee.Toward.cut
  have hp := Nat.two_pow_pos d
  simp only [Nat.shiftLeft_eq, Nat.one_mul, Nat.min_eq_left hd, h, Nat.mul_zero]
  have e1 : decide (2 ^ d < 0) = false := by simp
  have e2 : (2 ^ d == 0) = false := by rw [beq_eq_false_iff_ne]; omega
  rw [e1, e2]
  simp

theorem lowZ_mod {M : Nat} (h0 : M ≠ 0) (hz : LowZ M) (hL : 52 < M.log2) : M % 2 ^ (M.log2 - 52) = 0 := by
  obtain ⟨t, e, hM, ht⟩ := hz
  have hle : 2 ^ M.log2 ≤ M := Nat.log2_self_le h0
  rcases Nat.lt_or_ge e (M.log2 - 52) with h | h
  · exfalso
    have h1 : M < 2 ^ (53 + e) := by
      rw [Nat.pow_add]
      have : (2 : Nat) ^ 53 = 9007199254740992 := by decide
      rw [this]
      calc M = t * 2 ^ e := hM
        _ < 9007199254740992 * 2 ^ e := Nat.mul_lt_mul_of_pos_right ht (Nat.two_pow_pos e)
    have h2 : 2 ^ (53 + e) ≤ 2 ^ M.log2 := Nat.pow_le_pow_right (by decide) (by omega)
    omega
  · have e1 : 2 ^ e = 2 ^ (M.log2 - 52) * 2 ^ (e - (M.log2 - 52)) := by rw [← Nat.pow_add]; congr 1; omega
    have e2 : M = 2 ^ (M.log2 - 52) * (t * 2 ^ (e - (M.log2 - 52))) := by
      calc M = t * 2 ^ e := hM
        _ = t * (2 ^ (M.log2 - 52) * 2 ^ (e - (M.log2 - 52))) := by rw [← e1]
        _ = 2 ^ (M.log2 - 52) * (t * 2 ^ (e - (M.log2 - 52))) := Nat.mul_left_comm _ _ _
    exact Nat.mod_eq_zero_of_dvd ⟨_, e2⟩

theorem siz_at (B L K : Nat) (h1 : B ≤ K) (h2 : K < 2 * B) : siz B ((L + 1022) * B + K) = K * 2 ^ (L + 1022) := by
  have hB : 0 < B := by omega
  have e : (L + 1022) * B + K = B * (L + 1023) + (K - B) := by
    rw [Nat.add_mul, Nat.mul_add, Nat.mul_comm L B]
    omega
  unfold siz
  have e1 : (B * (L + 1023) + (K - B)) / B = L + 1023 := by
    rw [Nat.mul_add_div hB, Nat.div_eq_of_lt (by omega), Nat.add_zero]
  have e2 : (B * (L + 1023) + (K - B)) % B = K - B := by
    rw [Nat.mul_add_mod]
    exact Nat.mod_eq_of_lt (by omega)
  have e3 : ¬ B * (L + 1023) + (K - B) < B := by
    rw [Nat.mul_add]
    omega
  have e4 : L + 1023 - 1 = L + 1022 := by omega
  have e5 : B + (K - B) = K := by omega
  rw [e, if_neg e3, e1, e2, e4, e5]

theorem kept_lo {M L E : Nat} (hE : E = 1074) (h : L ≤ 52) (hle : 2 ^ L ≤ M) (hup : M < 2 ^ (L + 1)) :
    4503599627370496 ≤ M * 2 ^ (52 - L) ∧ M * 2 ^ (52 - L) < 9007199254740992 ∧ M * 2 ^ (52 - L) * 2 ^ (L + 1022) = M * 2 ^ E := by
  have e1 : L + (52 - L) = 52 := by omega
  have e2 : L + 1 + (52 - L) = 53 := by omega
  have e3 : 52 - L + (L + 1022) = E := by omega
  have hpp := Nat.two_pow_pos (52 - L)
  have hB : (2 : Nat) ^ 52 = 4503599627370496 := by decide
  have hB2 : (2 : Nat) ^ 53 = 9007199254740992 := by decide
  have h1 := Nat.mul_le_mul_right (2 ^ (52 - L)) hle
  have h2 := Nat.mul_lt_mul_of_pos_right hup hpp
  rw [← Nat.pow_add, e1, hB] at h1
  rw [← Nat.pow_add, e2, hB2] at h2
  exact ⟨h1, h2, by rw [Nat.mul_assoc, ← Nat.pow_add, e3]⟩
theorem kept_hi {M L E : Nat} (hE : E = 1074) (h : 52 < L) (hle : 2 ^ L ≤ M) (hup : M < 2 ^ (L + 1)) (hm : M % 2 ^ (L - 52) = 0) :
    4503599627370496 ≤ M / 2 ^ (L - 52) ∧ M / 2 ^ (L - 52) < 9007199254740992 ∧ M / 2 ^ (L - 52) * 2 ^ (L + 1022) = M * 2 ^ E := by
  have e1 : 52 + (L - 52) = L := by omega
  have e2 : 53 + (L - 52) = L + 1 := by omega
  have e3 : L + 1022 = L - 52 + E := by omega
  have hpp := Nat.two_pow_pos (L - 52)
  have hB : (2 : Nat) ^ 52 = 4503599627370496 := by decide
  have hB2 : (2 : Nat) ^ 53 = 9007199254740992 := by decide
  have hd : M / 2 ^ (L - 52) * 2 ^ (L - 52) = M := Nat.div_mul_cancel (Nat.dvd_of_mod_eq_zero hm)
  refine ⟨?_, ?_, ?_⟩
  · rw [Nat.le_div_iff_mul_le hpp, ← hB, ← Nat.pow_add, e1]
    exact hle
  · rw [Nat.div_lt_iff_lt_mul hpp, ← hB2, ← Nat.pow_add, e2]
    exact hup
  · rw [e3, Nat.pow_add, ← Nat.mul_assoc, hd]
theorem kept_exact (s : Bool) {M : Nat} (h0 : M ≠ 0) (hz : LowZ M) :
    ∃ K, Ieee.Toward.even.cut s (M <<< (0 - ((M.log2 : Int) - 52)).toNat) ((M.log2 : Int) - 52 - 0).toNat = K ∧ 4503599627370496 ≤ K ∧ K < 9007199254740992 ∧ K * 2 ^ (M.log2 + 1022) = M * U := by
  have hle : 2 ^ M.log2 ≤ M := Nat.log2_self_le h0
  have hup : M < 2 ^ (M.log2 + 1) := Nat.lt_log2_self
  rcases Nat.lt_or_ge 52 M.log2 with h | h
  · have hm := lowZ_mod h0 hz h
    obtain ⟨k1, k2, k3⟩ := kept_hi ue h hle hup hm
    clear hle hup
    have e1 : (0 - ((M.log2 : Int) - 52)).toNat = 0 := by omega
    have e2 : ((M.log2 : Int) - 52 - 0).toNat = M.log2 - 52 := by omega
    rw [e1, e2, Nat.shiftLeft_zero, cut_even (by clear k1 k2 k3 hm; omega) hm]
    exact ⟨_, rfl, k1, k2, k3⟩
  · obtain ⟨k1, k2, k3⟩ := kept_lo ue h hle hup
    clear hle hup
    have e1 : (0 - ((M.log2 : Int) - 52)).toNat = 52 - M.log2 := by clear k1 k2 k3; omega
    have e2 : ((M.log2 : Int) - 52 - 0).toNat = 0 := by clear k1 k2 k3; omega
    rw [e1, e2, cut_even0, Nat.shiftLeft_eq]
    exact ⟨_, rfl, k1, k2, k3⟩
theorem nearest_exact (s : Bool) {M : Nat} (h0 : M ≠ 0) (hz : LowZ M) (hlt : M < 18446744073709551616) :
    ∃ r, Ieee.double.nearest s M 0 = Ieee.double.word s r ∧ r < 9218868437227405312 ∧ siz 4503599627370496 r = M * U := by
  have hL : M.log2 ≤ 63 := by
    have : M.log2 < 64 := by rw [Nat.log2_lt h0]; exact hlt
    omega
  have hl : Ieee.double.leastPlace = -1074 := by decide
  have hf : Ieee.double.fractionBits = 52 := rfl
  unfold Ieee.Format.nearest
  rw [if_neg h0]
  simp only [dbl_binade, dbl_inf, hl, hf]
  have hlast : max (0 + (M.log2 : Int) - (52 : Nat)) (-1074) = (M.log2 : Int) - 52 := by omega
  rw [hlast]
  have e0 : ((M.log2 : Int) - 52 - -1074).toNat = M.log2 + 1022 := by omega
  rw [e0]
  obtain ⟨K, hk, hk1, hk2, hk3⟩ := kept_exact s h0 hz
  rw [hk]
  generalize M.log2 = L at *
  have hr : min ((L + 1022) * 4503599627370496 + K) 9218868437227405312 = (L + 1022) * 4503599627370496 + K := by clear hk3; omega
  rw [hr]
  refine ⟨_, rfl, ?_, ?_⟩
  · clear hk3
    omega
  · rw [siz_at _ _ _ hk1 (by clear hk3; omega), hk3]

/-- The bits of the float that is a whole number (or the nearest one). -/
def fltB (n : Int) : Nat := floatOfInt .f64 n
theorem fltB_form (n : Int) : fltB n = Ieee.double.nearest (decide (n < 0)) n.natAbs 0 := rfl
theorem word_neg (r : Nat) : Ieee.double.word true r = 9223372036854775808 + r := by
  unfold Ieee.Format.word
  rw [if_pos rfl, dbl_sign]
theorem word_pos (r : Nat) : Ieee.double.word false r = r := rfl

theorem flt_exact {n : Int} (hz : LowZ n.natAbs) (h : n.natAbs < 18446744073709551616) : fltB n < 18446744073709551616 ∧ isFin (fltB n) ∧ fval (fltB n) = n * (U : Int) := by
  rw [fltB_form]
  by_cases h0 : n.natAbs = 0
  · obtain rfl : n = 0 := by omega
    have e : Ieee.double.nearest (decide ((0 : Int) < 0)) (Int.natAbs 0) 0 = 0 := rfl
    rw [e]
    refine ⟨by omega, by unfold isFin; omega, ?_⟩
    rw [Int.zero_mul]
    decide +kernel
  · obtain ⟨r, hr, hr1, hr2⟩ := nearest_exact (decide (n < 0)) h0 hz h
    rw [hr]
    by_cases hn : n < 0
    · rw [decide_eq_true hn, word_neg]
      have e1 : (9223372036854775808 + r) % 9223372036854775808 = r := by omega
      refine ⟨by omega, by unfold isFin; omega, ?_⟩
      unfold fval mag
      rw [if_neg (by omega), e1, hr2, Int.natCast_mul]
      have : (n.natAbs : Int) = -n := by omega
      rw [this, Int.neg_mul, Int.neg_neg]
    · rw [decide_eq_false hn, word_pos]
      have e1 : r % 9223372036854775808 = r := by omega
      refine ⟨by omega, by unfold isFin; omega, ?_⟩
      unfold fval mag
      rw [if_pos (by omega), e1, hr2, Int.natCast_mul]
      have : (n.natAbs : Int) = n := by omega
      rw [this]

end Go.Proofs.Ytjimbjcfoebimaa
