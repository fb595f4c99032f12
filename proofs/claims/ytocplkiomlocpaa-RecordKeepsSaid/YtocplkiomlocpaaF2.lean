/-
  floats.Key, Compare: contracts for the walks, in the words of a float's bits.
  floats.Whole: a contract for the walks.
  math/bits.Len64: a contract for the walks; what the number of a number's bits says of its size.
  floats.Floor and CompareInt: contracts for the walks; what Floor tells is a float, and the rest is from 0 to 2047.
  floats.Whole: its contract.
  floats.Of: its contract.
-/
import Derived.Test.YtocplkiomlocpaaF1
import Derived.Lib.BitFns
import Derived.Lib.Walk
set_option linter.unusedVariables false
set_option maxRecDepth 100000
namespace Go.Proofs.Ytocplkiomlocpaa
open Go.RowKit

set_option maxHeartbeats 400000 in
theorem key_any {w : World} (u : Nat) (hu : u < 18446744073709551616) :
    Calls Try.prog 126 #[.float .f64 u] w fun e w' => e = .returned (.int .u64 (keyB u : Nat)) ∧ w = w' := by
  have HC := Lib.hid (canonBits_any (w := w) u hu)
  have HV := Lib.hid (canonB_lt hu)
  have HE : Hid (keyB u = if canonB u = 9221120237041090560 then 18446744073709551615 else if 9223372036854775808 ≤ canonB u then 18446744073709551615 - canonB u else canonB u + 9223372036854775808) := Lib.hid rfl
  clear hu
  generalize keyB u = k at HE ⊢
  generalize canonB u = v at *
  have HO : Hid (v < 9223372036854775808 → bits .or .u64 (v : Int) 9223372036854775808 = (k : Int) ∨ v = 9221120237041090560) := by
    refine Lib.hid fun h => ?_
    by_cases h1 : v = 9221120237041090560
    · exact .inr h1
    · have h2 := HE.out
      rw [if_neg h1, if_neg (by omega)] at h2
      rw [or_sign h, h2]
      exact .inl rfl
  go_enter Try.func126, Try.ntmps126
  go_wp2_with fail
  refine HC.out.mono ?_; rintro e w' ⟨rfl, rfl⟩
  by_cases h1 : v = 9221120237041090560
  · have h1' : ((v : Int) == 9221120237041090560) = true := by rw [h1]; rfl
    have H1 := Lib.hid h1
    clear h1
    go_wp2
    go_ret
    refine ⟨ret_int ?_, rfl⟩
    have h2 := HE.out
    rw [if_pos H1.out] at h2
    rw [h2]
    rfl
  · have h1' : ((v : Int) == 9221120237041090560) = false := by rw [beq_eq_false_iff_ne]; omega
    have H1 := Lib.hid h1
    clear h1
    by_cases h2 : 9223372036854775808 ≤ v
    · have h2' : (9223372036854775808 : Int) ≤ (v : Int) := by omega
      have H2 := Lib.hid h2
      clear h2
      go_wp2
      go_ret
      refine ⟨ret_int ?_, rfl⟩
      have h2 := HE.out
      rw [if_neg H1.out, if_pos H2.out] at h2
      rw [not_walk HV.out, h2]
    · have h2' : decide ((9223372036854775808 : Int) ≤ (v : Int)) = false := by rw [decide_eq_false_iff_not]; omega
      have ho : bits .or .u64 (v : Int) 9223372036854775808 = (k : Int) := by
        rcases HO.out (by omega) with h | h
        · exact h
        · exact absurd h H1.out
      have HO2 := Lib.hid ho
      clear h2 ho HO HV HE H1
      go_wp2
      go_ret
      exact ⟨ret_int HO2.out, rfl⟩

set_option maxHeartbeats 400000 in
theorem cmpU_any {w : World} (a b : Int) :
    Calls Try.prog 125 #[.int .u64 a, .int .u64 b] w fun e w' => e = .returned (.int .i64 (cmpI a b)) ∧ w = w' := by
  have HN : ∀ x : Int, Calls Try.prog 132 #[.int .u64 x] w fun e w' => e = .returned (.bool false) ∧ w = w' := by
    intro x
    go_enter Try.func132, Try.ntmps132
    go_wp2
    go_ret
    exact ⟨rfl, rfl⟩
  have HN := Lib.hid HN
  go_enter Try.func125, Try.ntmps125
  go_wp2_with (go_at_call 132; refine (HN.out _).mono ?_; rintro e w' ⟨rfl, rfl⟩)
  all_goals
    go_ret
    refine ⟨ret_int ?_, rfl⟩
    unfold cmpI
    repeat' split
    all_goals first | rfl | (exfalso; omega)

set_option maxHeartbeats 400000 in
theorem compare_any {w : World} (u v : Nat) (hu : u < 18446744073709551616) (hv : v < 18446744073709551616) :
    Calls Try.prog 113 #[.float .f64 u, .float .f64 v] w fun e w' => e = .returned (.int .i64 (cmpI (keyB u) (keyB v))) ∧ w = w' := by
  have H1 := Lib.hid (key_any (w := w) u hu)
  have H2 := Lib.hid (key_any (w := w) v hv)
  have H3 := Lib.hid (cmpU_any (w := w) (keyB u) (keyB v))
  clear hu hv
  generalize cmpI (keyB u) (keyB v) = r at *
  generalize keyB u = x at *
  generalize keyB v = y at *
  go_enter Try.func113, Try.ntmps113
  go_wp2_with fail
  refine H1.out.mono ?_; rintro e w' ⟨rfl, rfl⟩
  go_wp2_with fail
  refine H2.out.mono ?_; rintro e w' ⟨rfl, rfl⟩
  go_wp2_with fail
  refine H3.out.mono ?_; rintro e w' ⟨rfl, rfl⟩
  go_wp2
  go_ret
  exact ⟨rfl, rfl⟩

end Go.Proofs.Ytocplkiomlocpaa

set_option linter.unusedVariables false
set_option maxRecDepth 100000
namespace Go.Proofs.Ytocplkiomlocpaa
open Go.RowKit

theorem srung_pos {u : Nat} (h : u < 9223372036854775808) : srung u = u := by unfold srung; rw [if_pos h]
theorem srung_neg {u : Nat} (h : 9223372036854775808 ≤ u) : srung u = 9223372036854775808 - (u : Int) := by unfold srung; rw [if_neg (by omega)]

theorem two63_aux {L E a b : Nat} (ha : a = 2 ^ 52) (hb : b = 2 ^ 63) (hL : L = 63) (hE : E = 1074) : a * 2 ^ (L + 1022) = b * 2 ^ E := by
  rw [ha, hb, ← Nat.pow_add, ← Nat.pow_add]
  have : 52 + (L + 1022) = 63 + E := by omega
  rw [this]
theorem siz_two63_of {a b c L : Nat} (ha : a = 2 ^ 52) (hb : b = 2 ^ 63) (h0 : 0 < a) (hL : L = 63) (hc : c = (L + 1022) * a + a) : siz a c = b * U := by
  rw [hc, siz_at a L a (Nat.le_refl _) (by omega)]
  exact two63_aux ha hb hL ue
theorem siz_two63 : siz 4503599627370496 4890909195324358656 = 9223372036854775808 * U :=
  siz_two63_of (a := 4503599627370496) (b := 9223372036854775808) (c := 4890909195324358656) (L := 63) (by decide) (by decide) (by decide) rfl (by decide)

/-- Within the whole numbers of 64 bits. -/
def inR (u : Nat) : Prop := isNum u ∧ -4890909195324358656 ≤ srung u ∧ srung u < 4890909195324358656
theorem inR.fin {u : Nat} (hu : u < 18446744073709551616) (h : inR u) : isFin u := by
  obtain ⟨h1, h2, h3⟩ := h
  unfold srung at h2 h3
  unfold isFin
  split at h2 <;> omega
theorem mag_mono {r s : Nat} (h : r ≤ s) : siz 4503599627370496 r ≤ siz 4503599627370496 s := by
  rcases Nat.lt_or_ge r s with h1 | h1
  · exact Nat.le_of_lt (siz_lt (by omega) h1)
  · obtain rfl : r = s := by omega
    exact Nat.le_refl _
theorem inR.bound {u : Nat} (hu : u < 18446744073709551616) (h : inR u) : whl u ≤ 9223372036854775808 ∧ -9223372036854775808 ≤ trB u ∧ trB u ≤ 9223372036854775807 := by
  obtain ⟨h1, h2, h3⟩ := h
  unfold trB
  have hm : u % 9223372036854775808 ≤ 4890909195324358656 := by
    unfold srung at h2 h3
    split at h2 <;> omega
  have hw : whl u ≤ 9223372036854775808 := by
    unfold whl
    refine Nat.div_le_of_le_mul ?_
    rw [Nat.mul_comm, ← siz_two63]
    exact mag_mono hm
  by_cases hs : u < 9223372036854775808
  · rw [if_pos hs]
    rw [srung_pos hs] at h3
    have hlt : whl u < 9223372036854775808 := by
      unfold whl
      rw [Nat.div_lt_iff_lt_mul U_pos, ← siz_two63]
      exact siz_lt (by omega) (by omega)
    omega
  · rw [if_neg hs]
    omega

/-- What Whole tells of the bits u. -/
noncomputable def wholeB (u : Nat) : Int × Bool := open Classical in if inR u ∧ fval u = trB u * (U : Int) then (trB u, true) else (0, false)
theorem wholeB_yes {u : Nat} (h1 : inR u) (h2 : fval u = trB u * (U : Int)) : wholeB u = (trB u, true) := by
  unfold wholeB
  rw [if_pos ⟨h1, h2⟩]
theorem wholeB_no {u : Nat} (h : ¬ (inR u ∧ fval u = trB u * (U : Int))) : wholeB u = (0, false) := by
  unfold wholeB
  rw [if_neg h]

theorem flt_tr {u : Nat} (hu : u < 18446744073709551616) (h : inR u) : fltB (trB u) < 18446744073709551616 ∧ isFin (fltB (trB u)) ∧ fval (fltB (trB u)) = trB u * (U : Int) := by
  have hb := h.bound hu
  have hn : (trB u).natAbs = whl u := by
    unfold trB
    split <;> omega
  refine flt_exact ?_ (by omega)
  rw [hn]
  exact lowZ_whl (h.fin hu)

theorem lo_srung : srung 14114281232179134464 = -4890909195324358656 := by rw [srung_neg (by omega)]; omega
theorem hi_srung : srung 4890909195324358656 = 4890909195324358656 := by rw [srung_pos (by omega)]; rfl

/-- The test ahead: is it within the whole numbers? -/
theorem test_in {u : Nat} (hu : u < 18446744073709551616) (h : inR u) : (FloatKind.f64.format.order u 14114281232179134464 == some Ordering.gt || FloatKind.f64.format.order u 14114281232179134464 == some Ordering.eq) = true ∧
    (FloatKind.f64.format.order u 4890909195324358656 == some Ordering.lt) = true := by
  obtain ⟨h1, h2, h3⟩ := h
  rw [fmt64, order_bits hu (by omega) h1 (by unfold isNum; omega), order_bits hu (by omega) h1 (by unfold isNum; omega), lo_srung, hi_srung]
  constructor
  · rcases Int.lt_or_eq_of_le h2 with h | h
    · rw [Int.compare_eq_gt.2 h]
      rfl
    · rw [Int.compare_eq_eq.2 h.symm]
      rfl
  · rw [Int.compare_eq_lt.2 h3]
    rfl
theorem test_out {u : Nat} (hu : u < 18446744073709551616) (h : ¬ inR u) : (FloatKind.f64.format.order u 14114281232179134464 == some Ordering.gt || FloatKind.f64.format.order u 14114281232179134464 == some Ordering.eq) = false ∨
    ((FloatKind.f64.format.order u 14114281232179134464 == some Ordering.gt || FloatKind.f64.format.order u 14114281232179134464 == some Ordering.eq) = true ∧ (FloatKind.f64.format.order u 4890909195324358656 == some Ordering.lt) = false) := by
  by_cases hn : isNum u
  · rw [fmt64, order_bits hu (by omega) hn (by unfold isNum; omega), order_bits hu (by omega) hn (by unfold isNum; omega), lo_srung, hi_srung]
    by_cases h2 : -4890909195324358656 ≤ srung u
    · have h3 : 4890909195324358656 ≤ srung u := by
        rcases Int.lt_or_le (srung u) 4890909195324358656 with h3 | h3
        · exact absurd ⟨hn, h2, h3⟩ h
        · exact h3
      right
      constructor
      · rw [Int.compare_eq_gt.2 (by omega)]
        rfl
      · rcases Int.lt_or_eq_of_le h3 with h | h
        · rw [Int.compare_eq_gt.2 h]
          rfl
        · rw [Int.compare_eq_eq.2 h.symm]
          rfl
    · left
      rw [Int.compare_eq_lt.2 (by omega)]
      rfl
  · left
    rw [fmt64, order_nan (.inl hn)]
    rfl
theorem test_back {u : Nat} (hu : u < 18446744073709551616) (h : inR u) : (FloatKind.f64.format.order (fltB (trB u)) u != some Ordering.eq) = !decide (fval u = trB u * (U : Int)) := by
  obtain ⟨k1, k2, k3⟩ := flt_tr hu h
  rw [fmt64, order_fval k1 hu k2.num h.1, k3]
  by_cases he : fval u = trB u * (U : Int)
  · rw [Int.compare_eq_eq.2 he.symm, decide_eq_true he]
    rfl
  · rw [decide_eq_false he]
    rcases Int.lt_trichotomy (fval u) (trB u * (U : Int)) with hl | hl | hl
    · rw [Int.compare_eq_gt.2 hl]
      rfl
    · exact absurd hl he
    · rw [Int.compare_eq_lt.2 hl]
      rfl

theorem run_tr {u : Nat} (hu : u < 18446744073709551616) (h : inR u) (w : World) : (convert 40 3 (.float .f64 u)).run Try.prog w = .ok (.int .i64 (trB u)) w := by
  refine run_convert_float_int w 40 3 .f64 .i64 u (trB u) (by rw [Try.underlying40]; rfl) Try.underlying3 ?_
  unfold floatToIntVal
  rw [toInt_fin hu (h.fin hu)]
  have hb := (h.bound hu).2
  have h1 : IntKind.i64.min = -9223372036854775808 := rfl
  have h2 : IntKind.i64.max = 9223372036854775807 := rfl
  simp only []
  rw [if_pos (by omega)]
theorem run_flt (n : Int) (w : World) : (convert 3 40 (.int .i64 n)).run Try.prog w = .ok (.float .f64 (fltB n)) w :=
  run_convert_int_float w 3 40 .i64 .f64 n (by rw [Try.underlying3]; rfl) Try.underlying40

end Go.Proofs.Ytocplkiomlocpaa

set_option linter.unusedVariables false
namespace Go.Proofs.Ytocplkiomlocpaa
open Go.RowKit

theorem len_zero : Lib.bitLen 0 = 0 := by decide +kernel
theorem len_size {x : Nat} : ∀ k, x < 2 ^ k → k ≤ 64 → x < 2 ^ Lib.bitLen x ∧ Lib.bitLen x ≤ k ∧ (x ≠ 0 → 2 ^ Lib.bitLen x ≤ 2 * x) := by
  intro k
  induction k generalizing x with
  | zero =>
    intro h _
    obtain rfl : x = 0 := by simpa using h
    rw [len_zero]
    exact ⟨by omega, by omega, fun h => absurd rfl h⟩
  | succ k ih =>
    intro h hk
    by_cases h0 : x = 0
    · subst h0
      rw [len_zero]
      exact ⟨by omega, by omega, fun h => absurd rfl h⟩
    · have h64 : x < 2 ^ 64 := Nat.lt_of_lt_of_le h (Nat.pow_le_pow_right (by decide) hk)
      have hp : x / 2 < 2 ^ k := by rw [Nat.pow_succ] at h; omega
      obtain ⟨h1, h2, h3⟩ := ih hp (by omega)
      rw [Lib.bitLen_half x h0 h64, Nat.add_comm 1, Nat.pow_succ]
      refine ⟨by omega, by omega, fun _ => ?_⟩
      by_cases hx : x / 2 = 0
      · rw [hx, len_zero]
        simp
        omega
      · have := h3 hx
        omega

theorem tab_at (i : Int) (h : i.toNat < Lib.len8tab.size) : ((Lib.len8tab[i.toNat]'h).toNat : Int) = Lib.len8 i := by
  unfold Lib.len8
  rw [ByteArray.getElem?_lt' _ _ h]
  rfl
theorem len_le (n : Nat) (h : n < 18446744073709551616) : Lib.bitLen n ≤ 64 := (len_size (x := n) 64 h (by omega)).2.1
theorem len_up (k q n : Nat) (hq : Lib.bitLen n = k + Lib.bitLen q) (h8 : q < 256) (hn : Lib.bitLen n ≤ 64) : wrap64 ((k : Int) + wrap64 (Lib.len8 (q : Int))) = (Lib.bitLen n : Int) := by
  rw [Lib.len8_of (q : Int) (by omega) (by omega), Int.toNat_natCast, hq]
  rw [hq] at hn
  generalize Lib.bitLen q = b at hn ⊢
  rw [IntWalk.wrap64_in (b : Int) (by omega), IntWalk.wrap64_in _ (by omega)]
  omega
theorem len_up0 (n : Nat) (h8 : n < 256) (hn : Lib.bitLen n ≤ 64) : wrap64 (wrap64 (Lib.len8 (n : Int))) = (Lib.bitLen n : Int) := by
  rw [Lib.len8_of (n : Int) (by omega) (by omega), Int.toNat_natCast]
  generalize Lib.bitLen n = b at hn ⊢
  rw [IntWalk.wrap64_in (b : Int) (by omega), IntWalk.wrap64_in _ (by omega)]

set_option maxHeartbeats 4000000 in
set_option maxRecDepth 100000 in
theorem len64_any {w : World} (x : Int) (h0 : 0 ≤ x) (hx : x ≤ 18446744073709551615) :
    Calls Try.prog 133 #[.int .u64 x] w fun e w' => e = .returned (.int .i64 (Lib.bitLen x.toNat : Nat)) ∧ w = w' := by
  go_enter Try.func133, Try.ntmps133
  go_wp2
  all_goals first
    | (exfalso
       have hs := Lib.len8tab_size
       omega)
    | (go_ret
       refine ⟨ret_int ?_, rfl⟩
       rw [tab_at]
       have hl := len_le x.toNat (by omega)
       first
       | (rw [show x / 4294967296 / 65536 / 256 = ((x.toNat / 72057594037927936 : Nat) : Int) from by omega]; exact len_up 56 _ _ (Lib.bitLen_shift56 x.toNat (by omega) (by omega)) (by omega) hl)
       | (rw [show x / 4294967296 / 65536 = ((x.toNat / 281474976710656 : Nat) : Int) from by omega]; exact len_up 48 _ _ (Lib.bitLen_shift48 x.toNat (by omega) (by omega)) (by omega) hl)
       | (rw [show x / 4294967296 / 256 = ((x.toNat / 1099511627776 : Nat) : Int) from by omega]; exact len_up 40 _ _ (Lib.bitLen_shift40 x.toNat (by omega) (by omega)) (by omega) hl)
       | (rw [show x / 4294967296 = ((x.toNat / 4294967296 : Nat) : Int) from by omega]; exact len_up 32 _ _ (Lib.bitLen_shift32 x.toNat (by omega) (by omega)) (by omega) hl)
       | (rw [show x / 65536 / 256 = ((x.toNat / 16777216 : Nat) : Int) from by omega]; exact len_up 24 _ _ (Lib.bitLen_shift24 x.toNat (by omega) (by omega)) (by omega) hl)
       | (rw [show x / 65536 = ((x.toNat / 65536 : Nat) : Int) from by omega]; exact len_up 16 _ _ (Lib.bitLen_shift16 x.toNat (by omega) (by omega)) (by omega) hl)
       | (rw [show x / 256 = ((x.toNat / 256 : Nat) : Int) from by omega]; exact len_up 8 _ _ (Lib.bitLen_shift8 x.toNat (by omega) (by omega)) (by omega) hl)
       | (have := len_up0 x.toNat (by omega) hl
          rw [Int.toNat_of_nonneg h0] at this
          exact this))

end Go.Proofs.Ytocplkiomlocpaa

set_option linter.unusedVariables false
set_option maxRecDepth 100000
namespace Go.Proofs.Ytocplkiomlocpaa
open Go.RowKit

/-- How many low digits a float has no room for. -/
def bey (n : Int) : Nat := Lib.bitLen n.natAbs - 53
def restI (n : Int) : Int := n % 2 ^ bey n

theorem bey_bd {n : Int} (h1 : -9223372036854775808 ≤ n) (h2 : n ≤ 9223372036854775807) : bey n ≤ 11 ∧ n.natAbs < 2 ^ (53 + bey n) := by
  obtain ⟨k1, k2, k3⟩ := len_size (x := n.natAbs) 64 (by omega) (by omega)
  unfold bey
  refine ⟨by omega, ?_⟩
  exact Nat.lt_of_lt_of_le k1 (Nat.pow_le_pow_right (by decide) (by omega))

theorem lowZ_q {m q b : Nat} (h : m = q * 2 ^ b) (hq : q ≤ 9007199254740992) : LowZ m := by
  rcases Nat.lt_or_ge q 9007199254740992 with h1 | h1
  · exact ⟨q, b, h, h1⟩
  · refine ⟨1, 53 + b, ?_, by omega⟩
    have h53 : (2 : Nat) ^ 53 = 9007199254740992 := by decide
    have : q = 9007199254740992 := by omega
    rw [h, this, Nat.one_mul, Nat.pow_add, h53]

theorem rest_facts {n : Int} (h1 : -9223372036854775808 ≤ n) (h2 : n ≤ 9223372036854775807) :
    0 ≤ restI n ∧ restI n ≤ 2047 ∧ LowZ (n - restI n).natAbs ∧ -9223372036854775808 ≤ n - restI n ∧ n - restI n ≤ 9223372036854775807 ∧ n - restI n ≤ n := by
  obtain ⟨hb, hlt⟩ := bey_bd h1 h2
  unfold restI
  generalize bey n = b at *
  have hpz : (0 : Int) < 2 ^ b := by
    have := Nat.two_pow_pos b
    exact_mod_cast this
  have hq : (n - n % 2 ^ b) = (n / 2 ^ b) * 2 ^ b := by
    have := Int.mul_ediv_add_emod n (2 ^ b)
    rw [Int.mul_comm]
    omega
  have hz : LowZ (n - n % 2 ^ b).natAbs := by
    rw [hq, Int.natAbs_mul]
    refine lowZ_q (q := (n / 2 ^ b).natAbs) (b := b) (by rw [Int.natAbs_pow]; rfl) ?_
    have h53 : (2 : Int) ^ 53 = 9007199254740992 := by decide
    have hlt' : (n.natAbs : Int) < 9007199254740992 * 2 ^ b := by
      rw [← h53, ← Int.pow_add]
      exact_mod_cast hlt
    have hlo : -9007199254740992 ≤ n / 2 ^ b := by
      rw [Int.le_ediv_iff_mul_le hpz]
      omega
    have hhi : n / 2 ^ b < 9007199254740992 := by
      rw [Int.ediv_lt_iff_lt_mul hpz]
      omega
    omega
  have hcases : b = 0 ∨ b = 1 ∨ b = 2 ∨ b = 3 ∨ b = 4 ∨ b = 5 ∨ b = 6 ∨ b = 7 ∨ b = 8 ∨ b = 9 ∨ b = 10 ∨ b = 11 := by omega
  refine ⟨Int.emod_nonneg _ (by omega), ?_, hz, ?_, ?_, ?_⟩
  all_goals
    clear hz hq hpz hlt
    rcases hcases with rfl | rfl | rfl | rfl | rfl | rfl | rfl | rfl | rfl | rfl | rfl | rfl <;> omega

theorem and_i64 {n : Int} {M b : Nat} (hM : M = 2 ^ b - 1) (hb : b ≤ 11) : bits BinOp.and IntKind.i64 n (M : Int) = n % 2 ^ b := by
  have hlt : M < 18446744073709551616 := by
    have : 2 ^ b ≤ 2 ^ 11 := Nat.pow_le_pow_right (by decide) hb
    omega
  have h1 : (BitVec.ofInt 64 n).toNat = (n % 18446744073709551616).toNat := by
    rw [BitVec.toNat_ofInt]
    rfl
  have h2 : (BitVec.ofInt 64 (M : Int)).toNat = M := by
    rw [BitVec.ofInt_natCast, BitVec.toNat_ofNat]
    exact Nat.mod_eq_of_lt hlt
  have h3 : bits BinOp.and IntKind.i64 n (M : Int) = IntKind.i64.wrap (((BitVec.ofInt 64 n &&& BitVec.ofInt 64 (M : Int)).toNat : Nat) : Int) := rfl
  rw [h3, BitVec.toNat_and, h1, h2, hM, Nat.and_two_pow_sub_one_eq_mod, IntKind.wrap_i64]
  have hcases : b = 0 ∨ b = 1 ∨ b = 2 ∨ b = 3 ∨ b = 4 ∨ b = 5 ∨ b = 6 ∨ b = 7 ∨ b = 8 ∨ b = 9 ∨ b = 10 ∨ b = 11 := by omega
  clear h1 h2 h3 hlt hM
  rcases hcases with rfl | rfl | rfl | rfl | rfl | rfl | rfl | rfl | rfl | rfl | rfl | rfl <;> omega

theorem mask_walk {l : Nat} (h : l ≤ 64) : wrap64 (wrap64 (2 ^ (max ((l : Int) - 53) 0).toNat) - 1) = ((2 ^ (l - 53) - 1 : Nat) : Int) := by
  have e : (max ((l : Int) - 53) 0).toNat = l - 53 := by omega
  rw [e]
  have hcases : l - 53 = 0 ∨ l - 53 = 1 ∨ l - 53 = 2 ∨ l - 53 = 3 ∨ l - 53 = 4 ∨ l - 53 = 5 ∨ l - 53 = 6 ∨ l - 53 = 7 ∨ l - 53 = 8 ∨ l - 53 = 9 ∨ l - 53 = 10 ∨ l - 53 = 11 := by omega
  generalize l - 53 = b at hcases ⊢
  rcases hcases with rfl | rfl | rfl | rfl | rfl | rfl | rfl | rfl | rfl | rfl | rfl | rfl <;> (unfold wrap64; omega)
theorem ret2_flt {a b : Nat} {x y : Int} (h : a = b) (h2 : x = y) : Ending.returned (.tuple #[.float .f64 a, .int .i64 x]) = .returned (.tuple #[.float .f64 b, .int .i64 y]) := by rw [h, h2]

set_option maxHeartbeats 1600000 in
theorem floor_any {w : World} (n : Int) (h1 : -9223372036854775808 ≤ n) (h2 : n ≤ 9223372036854775807) :
    Calls Try.prog 127 #[.int .i64 n] w fun e w' => e = .returned (.tuple #[.float .f64 (fltB (n - restI n)), .int .i64 (restI n)]) ∧ w = w' := by
  have hL := len64_any (w := w) (n.natAbs : Int) (by omega) (by omega)
  rw [Int.toNat_natCast] at hL
  have HL := Lib.hid hL
  have hl := len_le n.natAbs (by omega)
  have hrf := rest_facts h1 h2
  have hand : bits BinOp.and IntKind.i64 n (wrap64 (wrap64 (2 ^ (max ((Lib.bitLen n.natAbs : Int) - 53) 0).toNat) - 1)) = restI n := by
    rw [mask_walk hl]
    exact and_i64 rfl (bey_bd h1 h2).1
  have HA := Lib.hid hand
  have hsub : wrap64 (n - restI n) = n - restI n := IntWalk.wrap64_in _ (by omega)
  have HS := Lib.hid hsub
  clear hL hrf hand hsub
  generalize Lib.bitLen n.natAbs = l at *
  generalize hm : n - restI n = m at *
  generalize restI n = r at *
  have HM := Lib.hid hm
  clear hm
  by_cases hn : n < 0
  · have hn' : decide (n < 0) = true := decide_eq_true hn
    have hneg : IntKind.u64.wrap (-IntKind.u64.wrap n) = (n.natAbs : Int) := by
      rw [IntKind.wrap_u64, IntKind.wrap_u64]
      omega
    have HNEG := Lib.hid hneg
    clear hneg
    go_enter Try.func127, Try.ntmps127
    go_wp2_with fail
    rw [HNEG.out]
    refine HL.out.mono ?_; rintro e w' ⟨rfl, rfl⟩
    go_wp2
    go_ret2
    exact ⟨ret2_flt (by rw [HA.out, HM.out, HS.out]; rfl) HA.out, rfl⟩
  · have hn' : decide (n < 0) = false := decide_eq_false hn
    have hpos : n = (n.natAbs : Int) := by omega
    have HNEG := Lib.hid hpos
    clear hpos
    go_enter Try.func127, Try.ntmps127
    go_wp2_with fail
    have HL' := HL.out
    rw [← HNEG.out] at HL'
    have HL'' := Lib.hid HL'
    clear HL'
    refine HL''.out.mono ?_; rintro e w' ⟨rfl, rfl⟩
    go_wp2
    go_ret2
    exact ⟨ret2_flt (by rw [HA.out, HM.out, HS.out]; rfl) HA.out, rfl⟩

/-- What CompareInt tells. -/
def cmpN (n : Int) (u : Nat) : Int := if keyB (fltB (n - restI n)) = keyB u then cmpI (restI n) 0 else cmpI (keyB (fltB (n - restI n))) (keyB u)

set_option maxHeartbeats 400000 in
theorem cmpInt_any {w : World} (a b : Int) :
    Calls Try.prog 87 #[.int .i64 a, .int .i64 b] w fun e w' => e = .returned (.int .i64 (cmpI a b)) ∧ w = w' := by
  have HN : ∀ x : Int, Calls Try.prog 104 #[.int .i64 x] w fun e w' => e = .returned (.bool false) ∧ w = w' := by
    intro x
    go_enter Try.func104, Try.ntmps104
    go_wp2
    go_ret
    exact ⟨rfl, rfl⟩
  have HN := Lib.hid HN
  go_enter Try.func87, Try.ntmps87
  go_wp2_with (go_at_call 104; refine (HN.out _).mono ?_; rintro e w' ⟨rfl, rfl⟩)
  all_goals
    go_ret
    refine ⟨ret_int ?_, rfl⟩
    unfold cmpI
    repeat' split
    all_goals first | rfl | (exfalso; omega)

theorem cmpI_ne {a b : Int} (h : a ≠ b) : cmpI a b ≠ 0 := by
  unfold cmpI
  repeat' split
  all_goals omega
theorem flt_lt64 (n : Int) : fltB n < 18446744073709551616 := by
  have h := floatOfInt_wf .f64 n
  simp only [Lit.wf, decide_eq_true_eq] at h
  exact h

set_option maxHeartbeats 400000 in
theorem compareInt_any {w : World} (n : Int) (h1 : -9223372036854775808 ≤ n) (h2 : n ≤ 9223372036854775807) (u : Nat) (hu : u < 18446744073709551616) :
    Calls Try.prog 114 #[.int .i64 n, .float .f64 u] w fun e w' => e = .returned (.int .i64 (cmpN n u)) ∧ w = w' := by
  have HF := Lib.hid (floor_any (w := w) n h1 h2)
  have HC := Lib.hid (compare_any (w := w) (fltB (n - restI n)) u (flt_lt64 _) hu)
  have HI := Lib.hid (cmpInt_any (w := w) (restI n) 0)
  clear h1 h2 hu
  unfold cmpN
  generalize fltB (n - restI n) = f at *
  generalize restI n = r at *
  by_cases h : keyB f = keyB u
  · have HC' := HC.out
    rw [cmpI_zero (by omega)] at HC'
    have HC' := Lib.hid HC'
    rw [if_pos h]
    clear HC h
    generalize cmpI r 0 = s at *
    go_enter Try.func114, Try.ntmps114
    go_wp2_with fail
    refine HF.out.mono ?_; rintro e w' ⟨rfl, rfl⟩
    go_wp2_with fail
    refine HC'.out.mono ?_; rintro e w' ⟨rfl, rfl⟩
    go_wp2_with fail
    refine HI.out.mono ?_; rintro e w' ⟨rfl, rfl⟩
    go_wp2
    go_ret
    exact ⟨rfl, rfl⟩
  · have hne := cmpI_ne (a := keyB f) (b := keyB u) (by omega)
    have hne' : (cmpI (keyB f) (keyB u) != 0) = true := by simpa using hne
    rw [if_neg h]
    clear h hne HI
    generalize cmpI (keyB f) (keyB u) = c at *
    go_enter Try.func114, Try.ntmps114
    go_wp2_with fail
    refine HF.out.mono ?_; rintro e w' ⟨rfl, rfl⟩
    go_wp2_with fail
    refine HC.out.mono ?_; rintro e w' ⟨rfl, rfl⟩
    go_wp2
    go_ret
    exact ⟨rfl, rfl⟩

end Go.Proofs.Ytocplkiomlocpaa

set_option linter.unusedVariables false
set_option maxRecDepth 100000
namespace Go.Proofs.Ytocplkiomlocpaa
open Go.RowKit

set_option maxHeartbeats 400000 in
theorem whole_any {w : World} (u : Nat) (hu : u < 18446744073709551616) :
    Calls Try.prog 136 #[.float .f64 u] w fun e w' => e = .returned (.tuple #[.int .i64 (wholeB u).1, .bool (wholeB u).2]) ∧ w = w' := by
  by_cases h : inR u
  · obtain ⟨t1, t2⟩ := test_in hu h
    have hx := run_tr hu h w
    have hy := run_flt (trB u) w
    have tb := test_back hu h
    by_cases he : fval u = trB u * (U : Int)
    · rw [wholeB_yes h he]
      rw [decide_eq_true he] at tb
      clear h he hu
      generalize fltB (trB u) = g at *
      generalize trB u = n at *
      go_enter Try.func136, Try.ntmps136
      go_wp2
      go_ret2
      exact ⟨rfl, rfl⟩
    · rw [wholeB_no (fun hh => he hh.2)]
      rw [decide_eq_false he] at tb
      clear h he hu
      generalize fltB (trB u) = g at *
      generalize trB u = n at *
      go_enter Try.func136, Try.ntmps136
      go_wp2
      go_ret2
      exact ⟨rfl, rfl⟩
  · rw [wholeB_no (fun hh => h hh.1)]
    rcases test_out hu h with t1 | ⟨t1, t2⟩
    all_goals
      clear h hu
      go_enter Try.func136, Try.ntmps136
      go_wp2
      go_ret2
      exact ⟨rfl, rfl⟩

end Go.Proofs.Ytocplkiomlocpaa

set_option linter.unusedVariables false
set_option maxRecDepth 100000
namespace Go.Proofs.Ytocplkiomlocpaa
open Go.RowKit

set_option maxHeartbeats 400000 in
theorem of_any {w : World} (k : Nat) (hk : k < 18446744073709551616) :
    Calls Try.prog 134 #[.int .u64 k] w fun e w' => e = .returned (.tuple #[.float .f64 (ofB k).1, .bool (ofB k).2]) ∧ w = w' := by
  have hlt := uncB_lt hk
  have hx := Lib.hid (run_frombits (uncB k) w)
  have H1 := Lib.hid (canon_any (w := w) (uncB k) hlt)
  have H2 := Lib.hid (key_any (w := w) (canonB (uncB k)) (canonB_lt hlt))
  have HE : Hid (ofB k = if keyB (canonB (uncB k)) = k then (canonB (uncB k), true) else (0, false)) := Lib.hid rfl
  have HU : Hid (uncB k = if 9223372036854775808 ≤ k then k - 9223372036854775808 else 18446744073709551615 - k) := Lib.hid rfl
  have HN := Lib.hid (not_walk hk)
  have HA := Lib.hid (andNot_sign hk)
  have HK := Lib.hid hk
  clear hlt hk
  generalize ofB k = r at *
  generalize keyB (canonB (uncB k)) = y at *
  generalize canonB (uncB k) = v at *
  generalize uncB k = u at *
  go_enter Try.func134, Try.ntmps134
  have hu : u = (if 9223372036854775808 ≤ k then k % 9223372036854775808 else 18446744073709551615 - k) := by
    have h1 := HU.out
    have h2 := HK.out
    rw [h1]
    split <;> omega
  have HU' := Lib.hid hu
  clear hu HU
  by_cases h2 : 9223372036854775808 ≤ k
  · have h2' : decide ((9223372036854775808 : Int) ≤ (k : Int)) = true := by rw [decide_eq_true_iff]; omega
    have h3 : bits BinOp.andNot IntKind.u64 (k : Int) 9223372036854775808 = (u : Int) := by
      have h1 := HU'.out
      rw [if_pos h2] at h1
      rw [HA.out, h1]
    clear h2
    have hx1 := hx.out
    go_wp2_with fail
    refine H1.out.mono ?_; rintro e w' ⟨rfl, rfl⟩
    clear h3
    go_wp2_with fail
    refine H2.out.mono ?_; rintro e w' ⟨rfl, rfl⟩
    by_cases h4 : y = k
    · have h4' : ((y : Int) != (k : Int)) = false := by rw [h4]; simp
      have H4 := Lib.hid h4
      clear h4
      go_wp2
      go_ret2
      have h5 := HE.out
      rw [if_pos H4.out] at h5
      subst h5
      exact ⟨rfl, rfl⟩
    · have h4' : ((y : Int) != (k : Int)) = true := by simp; omega
      have H4 := Lib.hid h4
      clear h4
      go_wp2
      go_ret2
      have h5 := HE.out
      rw [if_neg H4.out] at h5
      subst h5
      exact ⟨rfl, rfl⟩
  · have h2' : decide ((9223372036854775808 : Int) ≤ (k : Int)) = false := by rw [decide_eq_false_iff_not]; omega
    have h3 : bits BinOp.xor IntKind.u64 IntKind.u64.max (k : Int) = (u : Int) := by
      have h1 := HU'.out
      rw [if_neg h2] at h1
      rw [HN.out, h1]
    clear h2
    have hx1 := hx.out
    go_wp2_with fail
    refine H1.out.mono ?_; rintro e w' ⟨rfl, rfl⟩
    clear h3
    go_wp2_with fail
    refine H2.out.mono ?_; rintro e w' ⟨rfl, rfl⟩
    by_cases h4 : y = k
    · have h4' : ((y : Int) != (k : Int)) = false := by rw [h4]; simp
      have H4 := Lib.hid h4
      clear h4
      go_wp2
      go_ret2
      have h5 := HE.out
      rw [if_pos H4.out] at h5
      subst h5
      exact ⟨rfl, rfl⟩
    · have h4' : ((y : Int) != (k : Int)) = true := by simp; omega
      have H4 := Lib.hid h4
      clear h4
      go_wp2
      go_ret2
      have h5 := HE.out
      rw [if_neg H4.out] at h5
      subst h5
      exact ⟨rfl, rfl⟩

end Go.Proofs.Ytocplkiomlocpaa

