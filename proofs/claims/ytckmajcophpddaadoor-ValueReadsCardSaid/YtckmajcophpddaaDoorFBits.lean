/-
  Plain facts on the model's float64: the order of two floats that are no NaN is that of their bits, the sign taken as one (for layer 2; no text of layer 1 imports this).
  Plain facts on a float's bits: its class, its stand-in, its key, and how they are reckoned.
  Plain facts on whole numbers and floats: what a float is in its least unit; a whole number of few digits is a float; what is left of a float cut towards zero.
-/
import Ieee.Arith
import Derived.Laws.Bits64
import Derived.Laws.Bits64b
import Derived.Laws.BitsAllLaws
import Derived.IntWalk
import Derived.RowKit
import Derived.Laws.FloatArith
namespace Go.Proofs.YtckmajcophpddaaDoor

/-- The size of the rung r, in the least unit: B is the number of rungs of one power of two. -/
def siz (B r : Nat) : Nat := if r < B then r else (B + r % B) * 2 ^ (r / B - 1)

theorem siz_step {B : Nat} (hB : 0 < B) (r : Nat) : siz B r < siz B (r + 1) := by
  unfold siz
  by_cases h1 : r + 1 < B
  · rw [if_pos (by omega), if_pos h1]
    omega
  · by_cases h2 : r < B
    · have h3 : r + 1 = B := by omega
      rw [if_pos h2, if_neg (by omega), h3, Nat.mod_self, Nat.div_self hB]
      simp
      omega
    · rw [if_neg h2, if_neg h1]
      have hd := Nat.div_add_mod r B
      have hm := Nat.mod_lt r hB
      have hq : 1 ≤ r / B := (Nat.le_div_iff_mul_le hB).2 (by omega)
      by_cases h3 : r % B + 1 < B
      · have e1 : (r + 1) / B = r / B := by
          rw [Nat.div_eq_of_lt_le]
          · rw [Nat.mul_comm]; omega
          · rw [Nat.add_mul, Nat.mul_comm]; omega
        have e2 : (r + 1) % B = r % B + 1 := by
          have := Nat.div_add_mod (r + 1) B
          rw [e1] at this
          omega
        rw [e1, e2]
        exact Nat.mul_lt_mul_of_pos_right (by omega) (Nat.two_pow_pos _)
      · have h4 : r % B + 1 = B := by omega
        have h5 : r + 1 = B * (r / B + 1) := by rw [Nat.mul_add, Nat.mul_one]; omega
        have e1 : (r + 1) / B = r / B + 1 := by rw [h5]; exact Nat.mul_div_cancel_left _ hB
        have e2 : (r + 1) % B = 0 := by rw [h5]; exact Nat.mul_mod_right _ _
        rw [e1, e2, Nat.add_zero]
        obtain ⟨k, hk⟩ : ∃ k, r / B = k + 1 := ⟨r / B - 1, by omega⟩
        rw [hk]
        simp only [Nat.add_sub_cancel]
        rw [Nat.pow_succ, Nat.mul_comm (2 ^ k) 2, ← Nat.mul_assoc]
        exact Nat.mul_lt_mul_of_pos_right (by omega) (Nat.two_pow_pos _)
theorem siz_lt {B : Nat} (hB : 0 < B) {r s : Nat} (h : r < s) : siz B r < siz B s := by
  induction s with
  | zero => omega
  | succ s ih =>
    rcases Nat.lt_or_ge r s with h1 | h1
    · exact Nat.lt_trans (ih h1) (siz_step hB s)
    · obtain rfl : r = s := by omega
      exact siz_step hB r
theorem siz_inj {B : Nat} (hB : 0 < B) {r s : Nat} : siz B r < siz B s ↔ r < s := by
  constructor
  · intro h
    rcases Nat.lt_trichotomy r s with h1 | h1 | h1
    · exact h1
    · subst h1; omega
    · have := siz_lt hB h1; omega
  · exact siz_lt hB

/-- The bits of a float as a number: the rung, with the sign. -/
def srung (u : Nat) : Int := if u < 9223372036854775808 then (u : Int) else 9223372036854775808 - (u : Int)
/-- The bits are no NaN's. -/
def isNum (u : Nat) : Prop := u % 9223372036854775808 ≤ 9218868437227405312

theorem compare_congr {x y x' y' : Int} (h1 : x < y ↔ x' < y') (h2 : x = y ↔ x' = y') : compare x y = compare x' y' := by
  show compareOfLessAndEq x y = compareOfLessAndEq x' y'
  unfold compareOfLessAndEq
  simp only [h1, h2]

theorem dbl_sign : Ieee.double.signWeight = 9223372036854775808 := by decide
theorem dbl_binade : Ieee.double.binade = 4503599627370496 := by decide
theorem dbl_inf : Ieee.double.infRung = 9218868437227405312 := by decide

theorem read_fin {u : Nat} (h : u % 9223372036854775808 < 9218868437227405312) :
    ∃ m a : Nat, Ieee.double.read u = .number (u / 9223372036854775808 % 2 == 1) m (Ieee.double.leastPlace + (a : Nat)) ∧ m * 2 ^ a = siz 4503599627370496 (u % 9223372036854775808) := by
  unfold Ieee.Format.read siz
  simp only [dbl_sign, dbl_binade, dbl_inf]
  by_cases h1 : u % 9223372036854775808 < 4503599627370496
  · rw [if_pos h1, if_pos h1]
    exact ⟨u % 9223372036854775808, 0, by simp, by simp⟩
  · rw [if_neg h1, if_neg h1, if_pos h]
    exact ⟨_, _, rfl, rfl⟩
theorem read_inf {u : Nat} (h : u % 9223372036854775808 = 9218868437227405312) : Ieee.double.read u = .infinity (u / 9223372036854775808 % 2 == 1) := by
  unfold Ieee.Format.read
  simp only [dbl_sign, dbl_binade, dbl_inf, h]
  rfl

theorem signed_cmp (s t : Bool) (m n a b : Nat) (L : Int) :
    compare (Ieee.signed s m (L + (a : Int) - min (L + (a : Int)) (L + (b : Int))).toNat) (Ieee.signed t n (L + (b : Int) - min (L + (a : Int)) (L + (b : Int))).toNat) =
      compare (if s then -((m * 2 ^ a : Nat) : Int) else ((m * 2 ^ a : Nat) : Int)) (if t then -((n * 2 ^ b : Nat) : Int) else ((n * 2 ^ b : Nat) : Int)) := by
  have key : ∀ (a b : Nat), (L + (a : Int) - min (L + (a : Int)) (L + (b : Int))).toNat = a - min a b := by intro a b; omega
  have ka := key a b
  have kb : (L + (b : Int) - min (L + (a : Int)) (L + (b : Int))).toNat = b - min a b := by omega
  rw [ka, kb]
  have pa : m * 2 ^ a = m * 2 ^ (a - min a b) * 2 ^ min a b := by rw [Nat.mul_assoc, ← Nat.pow_add]; congr 2; omega
  have pb : n * 2 ^ b = n * 2 ^ (b - min a b) * 2 ^ min a b := by rw [Nat.mul_assoc, ← Nat.pow_add]; congr 2; omega
  have hp : (0 : Int) < ((2 ^ min a b : Nat) : Int) := by have := Nat.two_pow_pos (min a b); omega
  unfold Ieee.signed
  simp only [Nat.shiftLeft_eq]
  rw [pa, pb]
  generalize m * 2 ^ (a - min a b) = x
  generalize n * 2 ^ (b - min a b) = y
  have up : ∀ z : Nat, ((z * 2 ^ min a b : Nat) : Int) = (z : Int) * ((2 ^ min a b : Nat) : Int) := fun z => Int.natCast_mul _ _
  rw [up, up]
  generalize ((2 ^ min a b : Nat) : Int) = k at hp
  have e1 : (if s then -((x : Int) * k) else (x : Int) * k) = (if s then -(x : Int) else x) * k := by split <;> first | rfl | exact (Int.neg_mul _ _).symm
  have e2 : (if t then -((y : Int) * k) else (y : Int) * k) = (if t then -(y : Int) else y) * k := by split <;> first | rfl | exact (Int.neg_mul _ _).symm
  rw [e1, e2]
  refine compare_congr ?_ ?_
  · exact (Int.mul_lt_mul_right hp).symm
  · constructor
    · intro h; rw [h]
    · intro h; exact Int.eq_of_mul_eq_mul_right (by omega) h

/-- THE ORDER OF TWO FLOATS THAT ARE NO NaN IS THAT OF THEIR BITS, the sign taken as one. -/
theorem order_bits {u v : Nat} (hu : u < 18446744073709551616) (hv : v < 18446744073709551616) (nu : isNum u) (nv : isNum v) : Ieee.double.order u v = some (compare (srung u) (srung v)) := by
  unfold isNum at nu nv
  have sgn : ∀ {u : Nat}, u < 18446744073709551616 → srung u = if (u / 9223372036854775808 % 2 == 1) then -((u % 9223372036854775808 : Nat) : Int) else ((u % 9223372036854775808 : Nat) : Int) := by
    intro u hu
    unfold srung
    by_cases h : u < 9223372036854775808
    · have h1 : u / 9223372036854775808 = 0 := by omega
      rw [if_pos h, h1, if_neg (by decide)]
      omega
    · have h1 : u / 9223372036854775808 = 1 := by omega
      rw [if_neg h, h1, if_pos (by decide)]
      omega
  rw [sgn hu, sgn hv]
  generalize hs : (u / 9223372036854775808 % 2 == 1) = s
  generalize ht : (v / 9223372036854775808 % 2 == 1) = t
  unfold Ieee.Format.order
  rcases Nat.lt_or_ge (u % 9223372036854775808) 9218868437227405312 with hu1 | hu1
  · obtain ⟨m, a, hr, hm⟩ := read_fin hu1
    rw [hr, hs]
    rcases Nat.lt_or_ge (v % 9223372036854775808) 9218868437227405312 with hv1 | hv1
    · obtain ⟨n, b, hr2, hn⟩ := read_fin hv1
      rw [hr2, ht]
      simp only [Ieee.Datum.order]
      rw [signed_cmp, hm, hn]
      congr 1
      have h1 := @siz_inj 4503599627370496 (by omega) (u % 9223372036854775808) (v % 9223372036854775808)
      have h2 := @siz_inj 4503599627370496 (by omega) (v % 9223372036854775808) (u % 9223372036854775808)
      have z1 := @siz_inj 4503599627370496 (by omega) 0 (u % 9223372036854775808)
      have z2 := @siz_inj 4503599627370496 (by omega) 0 (v % 9223372036854775808)
      have z0 : siz 4503599627370496 0 = 0 := by decide
      rw [z0] at z1 z2
      generalize siz 4503599627370496 (u % 9223372036854775808) = x at h1 h2 z1 z2 ⊢
      generalize siz 4503599627370496 (v % 9223372036854775808) = y at h1 h2 z1 z2 ⊢
      generalize u % 9223372036854775808 = p at h1 h2 z1 z2 ⊢
      generalize v % 9223372036854775808 = q at h1 h2 z1 z2 ⊢
      cases s <;> cases t <;> refine compare_congr ?_ ?_ <;> simp <;> omega
    · have hv2 : v % 9223372036854775808 = 9218868437227405312 := by omega
      rw [read_inf hv2, ht, hv2]
      simp only [Ieee.Datum.order]
      congr 1
      generalize u % 9223372036854775808 = p at hu1 ⊢
      cases s <;> cases t <;> simp <;> (first | (symm; rw [Int.compare_eq_gt]; omega) | (symm; rw [Int.compare_eq_lt]; omega))
  · have hu2 : u % 9223372036854775808 = 9218868437227405312 := by omega
    rw [read_inf hu2, hs, hu2]
    rcases Nat.lt_or_ge (v % 9223372036854775808) 9218868437227405312 with hv1 | hv1
    · obtain ⟨n, b, hr2, hn⟩ := read_fin hv1
      rw [hr2, ht]
      simp only [Ieee.Datum.order]
      congr 1
      generalize v % 9223372036854775808 = p at hv1 ⊢
      cases s <;> cases t <;> simp <;> (first | (symm; rw [Int.compare_eq_gt]; omega) | (symm; rw [Int.compare_eq_lt]; omega))
    · have hv2 : v % 9223372036854775808 = 9218868437227405312 := by omega
      rw [read_inf hv2, ht, hv2]
      simp only [Ieee.Datum.order]
      cases s <;> cases t <;> rfl

end Go.Proofs.YtckmajcophpddaaDoor

set_option linter.unusedVariables false
set_option maxRecDepth 100000
namespace Go.Proofs.YtckmajcophpddaaDoor
open Go.RowKit

/-- The class of a float of the bits u. -/
def classB (u : Nat) : Int :=
  if 9218868437227405312 < u % 9223372036854775808 then 0
  else if u % 9223372036854775808 = 0 then 3
  else if u = 9218868437227405312 then 5
  else if u % 9223372036854775808 = 9218868437227405312 then 1
  else if u < 9223372036854775808 then 4 else 2
/-- The bits of the float that stands for it. -/
def canonB (u : Nat) : Nat :=
  if 9218868437227405312 < u % 9223372036854775808 then 9221120237041090560
  else if u % 9223372036854775808 = 0 then 0 else u
/-- Its key. -/
def keyB (u : Nat) : Nat :=
  if canonB u = 9221120237041090560 then 18446744073709551615
  else if 9223372036854775808 ≤ canonB u then 18446744073709551615 - canonB u
  else canonB u + 9223372036854775808

theorem and_sign {u : Nat} (hu : u < 18446744073709551616) : u &&& (18446744073709551615 - 9223372036854775808) = u % 9223372036854775808 := by
  have := Nat.and_two_pow_sub_one_eq_mod u 63
  exact this
theorem andNot_sign {u : Nat} (hu : u < 18446744073709551616) : bits .andNot .u64 (u : Int) 9223372036854775808 = ((u % 9223372036854775808 : Nat) : Int) := by
  have h := u64_andNot_nat u 9223372036854775808 hu (by omega)
  rw [and_sign hu] at h
  exact h
theorem canonB_lt {u : Nat} (hu : u < 18446744073709551616) : canonB u < 18446744073709551616 := by
  unfold canonB
  repeat' split
  all_goals omega
theorem or_sign {u : Nat} (hu : u < 9223372036854775808) : bits .or .u64 (u : Int) 9223372036854775808 = ((u + 9223372036854775808 : Nat) : Int) := by
  have h := bits_or_u64_nat u 9223372036854775808 (by omega) (by omega)
  have h1 := Nat.two_pow_add_eq_or_of_lt (i := 63) (b := u) hu 1
  rw [Nat.or_comm, Nat.mul_one] at h1
  have h2 : (2 : Nat) ^ 63 = 9223372036854775808 := by decide
  rw [h2] at h1
  rw [← h1, Nat.add_comm] at h
  exact h
theorem not_walk {u : Nat} (hu : u < 18446744073709551616) : bits .xor .u64 IntKind.u64.max (u : Int) = ((18446744073709551615 - u : Nat) : Int) := by
  have h := bits_xor_u64_nat 18446744073709551615 u (by omega) hu
  have h0 : IntKind.u64.max = ((18446744073709551615 : Nat) : Int) := rfl
  rw [h0, h]
  have h1 : (18446744073709551615 : Nat) = 2 ^ 64 - 1 := by decide
  have h2 : 18446744073709551615 ^^^ u = 18446744073709551615 - u := by
    apply Nat.eq_of_testBit_eq
    intro i
    have h3 := Nat.testBit_two_pow_sub_succ (x := u) (n := 64) hu i
    rw [Nat.testBit_xor, h1, Nat.testBit_two_pow_sub_one]
    have h4 : 2 ^ 64 - 1 - u = 2 ^ 64 - (u + 1) := by omega
    rw [h4, h3]
    by_cases hi : i < 64
    · simp [hi]
    · rw [Nat.testBit_lt_two_pow (Nat.lt_of_lt_of_le (show u < 2 ^ 64 from hu) (Nat.pow_le_pow_right (by decide) (by omega)))]
      simp [hi]
  rw [h2]

/-- The order of two numbers as Go's cmp.Compare tells it. -/
def cmpI (a b : Int) : Int := if a < b then -1 else if b < a then 1 else 0

/-- The bits that a key is turned back to. -/
def uncB (k : Nat) : Nat := if 9223372036854775808 ≤ k then k - 9223372036854775808 else 18446744073709551615 - k
theorem uncB_lt {k : Nat} (hk : k < 18446744073709551616) : uncB k < 18446744073709551616 := by unfold uncB; split <;> omega
/-- The float of a key. -/
def ofB (k : Nat) : Nat × Bool := if keyB (canonB (uncB k)) = k then (canonB (uncB k), true) else (0, false)

theorem canonB_idem (u : Nat) : canonB (canonB u) = canonB u := by
  unfold canonB
  repeat' split
  all_goals first | rfl | (exfalso; omega)
theorem keyB_canon (u : Nat) : keyB (canonB u) = keyB u := by
  unfold keyB
  rw [canonB_idem]
theorem canonB_nan {u : Nat} (h : ¬ isNum u) : canonB u = 9221120237041090560 := by
  unfold isNum at h
  unfold canonB
  rw [if_pos (by omega)]
theorem canonB_num {u : Nat} (h : isNum u) : canonB u = if u % 9223372036854775808 = 0 then 0 else u := by
  unfold isNum at h
  unfold canonB
  rw [if_neg (by omega)]
theorem keyB_nan {u : Nat} (h : ¬ isNum u) : keyB u = 18446744073709551615 := by
  unfold keyB
  rw [canonB_nan h, if_pos rfl]
theorem keyB_num {u : Nat} (h : isNum u) : keyB u = if u % 9223372036854775808 = 0 then 9223372036854775808 else if u < 9223372036854775808 then u + 9223372036854775808 else 18446744073709551615 - u := by
  unfold keyB
  rw [canonB_num h]
  unfold isNum at h
  by_cases h0 : u % 9223372036854775808 = 0
  · rw [if_pos h0, if_pos h0]
    repeat' split
    all_goals omega
  · rw [if_neg h0, if_neg h0]
    repeat' split
    all_goals omega
theorem keyB_num_le {u : Nat} (hu : u < 18446744073709551616) (h : isNum u) : keyB u ≤ 18442240474082181120 := by
  rw [keyB_num h]
  unfold isNum at h
  repeat' split
  all_goals omega
theorem keyB_lt {u : Nat} (hu : u < 18446744073709551616) : keyB u < 18446744073709551616 := by
  by_cases h : isNum u
  · have := keyB_num_le hu h
    omega
  · rw [keyB_nan h]
    omega
theorem uncB_keyB {u : Nat} (hu : u < 18446744073709551616) : canonB (uncB (keyB u)) = canonB u := by
  by_cases h : isNum u
  · have hk := keyB_num h
    generalize keyB u = k at hk
    rw [canonB_num h]
    have hi : isNum (uncB k) := by
      unfold isNum at h ⊢
      unfold uncB
      repeat' split at hk
      all_goals split <;> omega
    rw [canonB_num hi]
    unfold isNum at h
    unfold uncB
    repeat' split at hk
    all_goals repeat' split
    all_goals omega
  · rw [keyB_nan h, canonB_nan h]
    have hi : ¬ isNum (uncB 18446744073709551615) := by
      unfold isNum uncB
      split <;> omega
    rw [canonB_nan hi]
theorem ofB_keyB {u : Nat} (hu : u < 18446744073709551616) : ofB (keyB u) = (canonB u, true) := by
  unfold ofB
  rw [uncB_keyB hu, keyB_canon, if_pos rfl]

/-- The order of two floats that are no NaN is that of their keys. -/
theorem order_keys {u v : Nat} (hu : u < 18446744073709551616) (hv : v < 18446744073709551616) (nu : isNum u) (nv : isNum v) : Ieee.double.order u v = some (compare (keyB u : Int) (keyB v : Int)) := by
  rw [order_bits hu hv nu nv, keyB_num nu, keyB_num nv]
  congr 1
  unfold isNum at nu nv
  refine compare_congr ?_ ?_
  · unfold srung
    repeat' split
    all_goals omega
  · unfold srung
    repeat' split
    all_goals omega
theorem read_nan {u : Nat} (h : ¬ isNum u) : ∃ s t, Ieee.double.read u = .nan s t := by
  unfold isNum at h
  unfold Ieee.Format.read
  simp only [dbl_sign, dbl_binade, dbl_inf]
  rw [if_neg (by omega), if_neg (by omega), if_neg (by omega)]
  exact ⟨_, _, rfl⟩
theorem order_nan {u v : Nat} (h : ¬ isNum u ∨ ¬ isNum v) : Ieee.double.order u v = none := by
  unfold Ieee.Format.order
  rcases h with h | h
  · obtain ⟨s, t, h⟩ := read_nan h
    rw [h]
    rfl
  · obtain ⟨s, t, h⟩ := read_nan h
    rw [h]
    cases Ieee.double.read u <;> rfl
theorem fmt64 : FloatKind.f64.format = Ieee.double := rfl
theorem cmpI_neg {a b : Int} (h : a < b) : cmpI a b = -1 := by unfold cmpI; rw [if_pos h]
theorem cmpI_zero {a b : Int} (h : a = b) : cmpI a b = 0 := by unfold cmpI; rw [if_neg (by omega), if_neg (by omega)]
theorem cmpI_pos {a b : Int} (h : b < a) : cmpI a b = 1 := by unfold cmpI; rw [if_neg (by omega), if_pos h]

end Go.Proofs.YtckmajcophpddaaDoor

set_option linter.unusedVariables false
set_option maxRecDepth 100000
namespace Go.Proofs.YtckmajcophpddaaDoor
open Go.RowKit

/-- The number 1, in the least unit of floats. -/
def UE : Nat := 1074
theorem ue : UE = 1074 := rfl
def U : Nat := 2 ^ UE
theorem U_pos : 0 < U := Nat.two_pow_pos _
def isFin (u : Nat) : Prop := u % 9223372036854775808 < 9218868437227405312
theorem isFin.num {u : Nat} (h : isFin u) : isNum u := by unfold isFin at h; unfold isNum; omega
/-- A float in the least unit. -/
def mag (u : Nat) : Nat := siz 4503599627370496 (u % 9223372036854775808)
def fval (u : Nat) : Int := if u < 9223372036854775808 then (mag u : Int) else -(mag u : Int)

theorem fval_lt {u v : Nat} (hu : u < 18446744073709551616) (hv : v < 18446744073709551616) : fval u < fval v ↔ srung u < srung v := by
  unfold fval srung mag
  have h1 := @siz_inj 4503599627370496 (by omega) (u % 9223372036854775808) (v % 9223372036854775808)
  have h2 := @siz_inj 4503599627370496 (by omega) (v % 9223372036854775808) (u % 9223372036854775808)
  have z1 := @siz_inj 4503599627370496 (by omega) 0 (u % 9223372036854775808)
  have z2 := @siz_inj 4503599627370496 (by omega) 0 (v % 9223372036854775808)
  have z0 : siz 4503599627370496 0 = 0 := by decide
  rw [z0] at z1 z2
  generalize siz 4503599627370496 (u % 9223372036854775808) = x at *
  generalize siz 4503599627370496 (v % 9223372036854775808) = y at *
  repeat' split
  all_goals omega
theorem fval_eq {u v : Nat} (hu : u < 18446744073709551616) (hv : v < 18446744073709551616) : fval u = fval v ↔ srung u = srung v := by
  have h1 := fval_lt hu hv
  have h2 := fval_lt hv hu
  omega
theorem order_fval {u v : Nat} (hu : u < 18446744073709551616) (hv : v < 18446744073709551616) (nu : isNum u) (nv : isNum v) : Ieee.double.order u v = some (compare (fval u) (fval v)) := by
  rw [order_bits hu hv nu nv]
  congr 1
  exact compare_congr (fval_lt hu hv).symm (fval_eq hu hv).symm

theorem read_shape {u : Nat} (h : isFin u) :
    ∃ m a : Nat, Ieee.double.read u = .number (u / 9223372036854775808 % 2 == 1) m (-1074 + (a : Int)) ∧ m * 2 ^ a = mag u ∧ m < 9007199254740992 := by
  unfold isFin at h
  have hl : Ieee.double.leastPlace = -1074 := by decide
  unfold mag
  unfold Ieee.Format.read siz
  simp only [dbl_sign, dbl_binade, dbl_inf, hl]
  by_cases h1 : u % 9223372036854775808 < 4503599627370496
  · rw [if_pos h1, if_pos h1]
    exact ⟨u % 9223372036854775808, 0, by simp, by simp, by omega⟩
  · rw [if_neg h1, if_neg h1, if_pos h]
    exact ⟨_, _, rfl, rfl, by omega⟩

theorem cut_zero (s : Bool) (n d : Nat) : Ieee.Toward.zero.cut s n d = n / 2 ^ d := by
  unfold Ieee.Toward.cut
  simp only [Nat.shiftLeft_eq, Nat.one_mul, Bool.toNat_false, Nat.add_zero]
  by_cases h : d ≤ n.log2 + 2
  · rw [Nat.min_eq_left h]
  · rw [Nat.min_eq_right (by omega)]
    have h1 : n < 2 ^ (n.log2 + 1) := Nat.lt_log2_self
    rw [Nat.div_eq_of_lt (Nat.lt_of_lt_of_le h1 (Nat.pow_le_pow_right (by decide) (by omega))), Nat.div_eq_of_lt (Nat.lt_of_lt_of_le h1 (Nat.pow_le_pow_right (by decide) (by omega)))]

/-- A float cut towards zero: how great it is. -/
def whl (u : Nat) : Nat := mag u / U
/-- .. with its sign. -/
def trB (u : Nat) : Int := if u < 9223372036854775808 then (whl u : Int) else -(whl u : Int)

theorem cut_mag {m a u : Nat} (h : m * 2 ^ a = mag u) (s : Bool) : Ieee.Toward.zero.cut s (m <<< (-1074 + (a : Int)).toNat) (-(-1074 + (a : Int))).toNat = whl u := by
  rw [cut_zero, Nat.shiftLeft_eq]
  unfold whl U
  rw [← h]
  have hu := ue
  generalize UE = E at hu ⊢
  rcases Nat.lt_or_ge a E with h1 | h1
  · have e1 : (-1074 + (a : Int)).toNat = 0 := by omega
    have e2 : (-(-1074 + (a : Int))).toNat = E - a := by omega
    rw [e1, e2, Nat.pow_zero, Nat.mul_one]
    have e3 : 2 ^ E = 2 ^ a * 2 ^ (E - a) := by rw [← Nat.pow_add]; congr 1; omega
    rw [e3, ← Nat.div_div_eq_div_mul, Nat.mul_div_cancel _ (Nat.two_pow_pos a)]
  · have e1 : (-1074 + (a : Int)).toNat = a - E := by omega
    have e2 : (-(-1074 + (a : Int))).toNat = 0 := by omega
    rw [e1, e2, Nat.pow_zero, Nat.div_one]
    have e3 : 2 ^ a = 2 ^ (a - E) * 2 ^ E := by rw [← Nat.pow_add]; congr 1; omega
    rw [e3, ← Nat.mul_assoc, Nat.mul_div_cancel _ (Nat.two_pow_pos E)]

theorem toInt_fin {u : Nat} (hu : u < 18446744073709551616) (h : isFin u) : (FloatKind.f64.decode u).toInt .zero = some (trB u) := by
  obtain ⟨m, a, hr, hm, _⟩ := read_shape h
  have hd : FloatKind.f64.decode u = Ieee.double.read u := rfl
  rw [hd, hr]
  unfold Ieee.Datum.toInt Ieee.Datum.integral
  simp only [cut_mag hm]
  unfold Ieee.signed trB
  simp only [Nat.shiftLeft_zero]
  by_cases h1 : u < 9223372036854775808
  · have h2 : u / 9223372036854775808 = 0 := by omega
    rw [if_pos h1, h2, if_neg (by decide)]
  · have h2 : u / 9223372036854775808 = 1 := by omega
    rw [if_neg h1, h2, if_pos (by decide)]

/-- A number of at most 53 digits behind which there are zeros alone. -/
def LowZ (M : Nat) : Prop := ∃ t e, M = t * 2 ^ e ∧ t < 9007199254740992
theorem lowZ_whl {u : Nat} (h : isFin u) : LowZ (whl u) := by
  obtain ⟨m, a, hr, hm, hlt⟩ := read_shape h
  have hc := cut_mag hm false
  rw [cut_zero, Nat.shiftLeft_eq] at hc
  rw [← hc]
  rcases Nat.lt_or_ge a 1074 with h1 | h1
  · have e1 : (-1074 + (a : Int)).toNat = 0 := by omega
    rw [e1, Nat.pow_zero, Nat.mul_one]
    refine ⟨m / 2 ^ (-(-1074 + (a : Int))).toNat, 0, by simp, ?_⟩
    exact Nat.lt_of_le_of_lt (Nat.div_le_self _ _) hlt
  · have e2 : (-(-1074 + (a : Int))).toNat = 0 := by omega
    rw [e2, Nat.pow_zero, Nat.div_one]
    exact ⟨m, _, rfl, hlt⟩

theorem cut_even0 (s : Bool) (n : Nat) : Ieee.Toward.even.cut s n 0 = n := by
  unfold Ieee.Toward.cut
  simp [Nat.mod_one]
theorem cut_even {s : Bool} {n d : Nat} (hd : d ≤ n.log2 + 2) (h : n % 2 ^ d = 0) : Ieee.Toward.even.cut s n d = n / 2 ^ d := by
  unfold Ieee.Toward.cut
  have hp := Nat.two_pow_pos d
  simp only [Nat.shiftLeft_eq, Nat.one_mul, Nat.min_eq_left hd, h, Nat.mul_zero]
  have e1 : decide (2 ^ d < 0) = false := by simp
  have e2 : (2 ^ d == 0) = false := by rw [beq_eq_false_iff_ne]; omega
  rw [e1, e2]
  simp

theorem lowZ_mod {M : Nat} (h0 : M ≠ 0) (hz : LowZ M) (hL : 52 < M.log2) : M % 2 ^ (M.log2 - 52) = 0 := by
  obtain ⟨t, e, hM, ht⟩ := hz
  have hle : 2 ^ M.log2 ≤ M := Nat.log2_self_le h0
  rcases Nat.lt_or_ge e (M.log2 - 52) with h | h
  · exfalso
    have h1 : M < 2 ^ (53 + e) := by
      rw [Nat.pow_add]
      have : (2 : Nat) ^ 53 = 9007199254740992 := by decide
      rw [this]
      calc M = t * 2 ^ e := hM
        _ < 9007199254740992 * 2 ^ e := Nat.mul_lt_mul_of_pos_right ht (Nat.two_pow_pos e)
    have h2 : 2 ^ (53 + e) ≤ 2 ^ M.log2 := Nat.pow_le_pow_right (by decide) (by omega)
    omega
  · have e1 : 2 ^ e = 2 ^ (M.log2 - 52) * 2 ^ (e - (M.log2 - 52)) := by rw [← Nat.pow_add]; congr 1; omega
    have e2 : M = 2 ^ (M.log2 - 52) * (t * 2 ^ (e - (M.log2 - 52))) := by
      calc M = t * 2 ^ e := hM
        _ = t * (2 ^ (M.log2 - 52) * 2 ^ (e - (M.log2 - 52))) := by rw [← e1]
        _ = 2 ^ (M.log2 - 52) * (t * 2 ^ (e - (M.log2 - 52))) := Nat.mul_left_comm _ _ _
    exact Nat.mod_eq_zero_of_dvd ⟨_, e2⟩

theorem siz_at (B L K : Nat) (h1 : B ≤ K) (h2 : K < 2 * B) : siz B ((L + 1022) * B + K) = K * 2 ^ (L + 1022) := by
  have hB : 0 < B := by omega
  have e : (L + 1022) * B + K = B * (L + 1023) + (K - B) := by
    rw [Nat.add_mul, Nat.mul_add, Nat.mul_comm L B]
    omega
  unfold siz
  have e1 : (B * (L + 1023) + (K - B)) / B = L + 1023 := by
    rw [Nat.mul_add_div hB, Nat.div_eq_of_lt (by omega), Nat.add_zero]
  have e2 : (B * (L + 1023) + (K - B)) % B = K - B := by
    rw [Nat.mul_add_mod]
    exact Nat.mod_eq_of_lt (by omega)
  have e3 : ¬ B * (L + 1023) + (K - B) < B := by
    rw [Nat.mul_add]
    omega
  have e4 : L + 1023 - 1 = L + 1022 := by omega
  have e5 : B + (K - B) = K := by omega
  rw [e, if_neg e3, e1, e2, e4, e5]

theorem kept_lo {M L E : Nat} (hE : E = 1074) (h : L ≤ 52) (hle : 2 ^ L ≤ M) (hup : M < 2 ^ (L + 1)) :
    4503599627370496 ≤ M * 2 ^ (52 - L) ∧ M * 2 ^ (52 - L) < 9007199254740992 ∧ M * 2 ^ (52 - L) * 2 ^ (L + 1022) = M * 2 ^ E := by
  have e1 : L + (52 - L) = 52 := by omega
  have e2 : L + 1 + (52 - L) = 53 := by omega
  have e3 : 52 - L + (L + 1022) = E := by omega
  have hpp := Nat.two_pow_pos (52 - L)
  have hB : (2 : Nat) ^ 52 = 4503599627370496 := by decide
  have hB2 : (2 : Nat) ^ 53 = 9007199254740992 := by decide
  have h1 := Nat.mul_le_mul_right (2 ^ (52 - L)) hle
  have h2 := Nat.mul_lt_mul_of_pos_right hup hpp
  rw [← Nat.pow_add, e1, hB] at h1
  rw [← Nat.pow_add, e2, hB2] at h2
  exact ⟨h1, h2, by rw [Nat.mul_assoc, ← Nat.pow_add, e3]⟩
theorem kept_hi {M L E : Nat} (hE : E = 1074) (h : 52 < L) (hle : 2 ^ L ≤ M) (hup : M < 2 ^ (L + 1)) (hm : M % 2 ^ (L - 52) = 0) :
    4503599627370496 ≤ M / 2 ^ (L - 52) ∧ M / 2 ^ (L - 52) < 9007199254740992 ∧ M / 2 ^ (L - 52) * 2 ^ (L + 1022) = M * 2 ^ E := by
  have e1 : 52 + (L - 52) = L := by omega
  have e2 : 53 + (L - 52) = L + 1 := by omega
  have e3 : L + 1022 = L - 52 + E := by omega
  have hpp := Nat.two_pow_pos (L - 52)
  have hB : (2 : Nat) ^ 52 = 4503599627370496 := by decide
  have hB2 : (2 : Nat) ^ 53 = 9007199254740992 := by decide
  have hd : M / 2 ^ (L - 52) * 2 ^ (L - 52) = M := Nat.div_mul_cancel (Nat.dvd_of_mod_eq_zero hm)
  refine ⟨?_, ?_, ?_⟩
  · rw [Nat.le_div_iff_mul_le hpp, ← hB, ← Nat.pow_add, e1]
    exact hle
  · rw [Nat.div_lt_iff_lt_mul hpp, ← hB2, ← Nat.pow_add, e2]
    exact hup
  · rw [e3, Nat.pow_add, ← Nat.mul_assoc, hd]
theorem kept_exact (s : Bool) {M : Nat} (h0 : M ≠ 0) (hz : LowZ M) :
    ∃ K, Ieee.Toward.even.cut s (M <<< (0 - ((M.log2 : Int) - 52)).toNat) ((M.log2 : Int) - 52 - 0).toNat = K ∧ 4503599627370496 ≤ K ∧ K < 9007199254740992 ∧ K * 2 ^ (M.log2 + 1022) = M * U := by
  have hle : 2 ^ M.log2 ≤ M := Nat.log2_self_le h0
  have hup : M < 2 ^ (M.log2 + 1) := Nat.lt_log2_self
  rcases Nat.lt_or_ge 52 M.log2 with h | h
  · have hm := lowZ_mod h0 hz h
    obtain ⟨k1, k2, k3⟩ := kept_hi ue h hle hup hm
    clear hle hup
    have e1 : (0 - ((M.log2 : Int) - 52)).toNat = 0 := by omega
    have e2 : ((M.log2 : Int) - 52 - 0).toNat = M.log2 - 52 := by omega
    rw [e1, e2, Nat.shiftLeft_zero, cut_even (by clear k1 k2 k3 hm; omega) hm]
    exact ⟨_, rfl, k1, k2, k3⟩
  · obtain ⟨k1, k2, k3⟩ := kept_lo ue h hle hup
    clear hle hup
    have e1 : (0 - ((M.log2 : Int) - 52)).toNat = 52 - M.log2 := by clear k1 k2 k3; omega
    have e2 : ((M.log2 : Int) - 52 - 0).toNat = 0 := by clear k1 k2 k3; omega
    rw [e1, e2, cut_even0, Nat.shiftLeft_eq]
    exact ⟨_, rfl, k1, k2, k3⟩
theorem nearest_exact (s : Bool) {M : Nat} (h0 : M ≠ 0) (hz : LowZ M) (hlt : M < 18446744073709551616) :
    ∃ r, Ieee.double.nearest s M 0 = Ieee.double.word s r ∧ r < 9218868437227405312 ∧ siz 4503599627370496 r = M * U := by
  have hL : M.log2 ≤ 63 := by
    have : M.log2 < 64 := by rw [Nat.log2_lt h0]; exact hlt
    omega
  have hl : Ieee.double.leastPlace = -1074 := by decide
  have hf : Ieee.double.fractionBits = 52 := rfl
  unfold Ieee.Format.nearest
  rw [if_neg h0]
  simp only [dbl_binade, dbl_inf, hl, hf]
  have hlast : max (0 + (M.log2 : Int) - (52 : Nat)) (-1074) = (M.log2 : Int) - 52 := by omega
  rw [hlast]
  have e0 : ((M.log2 : Int) - 52 - -1074).toNat = M.log2 + 1022 := by omega
  rw [e0]
  obtain ⟨K, hk, hk1, hk2, hk3⟩ := kept_exact s h0 hz
  rw [hk]
  generalize M.log2 = L at *
  have hr : min ((L + 1022) * 4503599627370496 + K) 9218868437227405312 = (L + 1022) * 4503599627370496 + K := by clear hk3; omega
  rw [hr]
  refine ⟨_, rfl, ?_, ?_⟩
  · clear hk3
    omega
  · rw [siz_at _ _ _ hk1 (by clear hk3; omega), hk3]

/-- The bits of the float that is a whole number (or the nearest one). -/
def fltB (n : Int) : Nat := floatOfInt .f64 n
theorem fltB_form (n : Int) : fltB n = Ieee.double.nearest (decide (n < 0)) n.natAbs 0 := rfl
theorem word_neg (r : Nat) : Ieee.double.word true r = 9223372036854775808 + r := by
  unfold Ieee.Format.word
  rw [if_pos rfl, dbl_sign]
theorem word_pos (r : Nat) : Ieee.double.word false r = r := rfl

theorem flt_exact {n : Int} (hz : LowZ n.natAbs) (h : n.natAbs < 18446744073709551616) : fltB n < 18446744073709551616 ∧ isFin (fltB n) ∧ fval (fltB n) = n * (U : Int) := by
  rw [fltB_form]
  by_cases h0 : n.natAbs = 0
  · obtain rfl : n = 0 := by omega
    have e : Ieee.double.nearest (decide ((0 : Int) < 0)) (Int.natAbs 0) 0 = 0 := rfl
    rw [e]
    refine ⟨by omega, by unfold isFin; omega, ?_⟩
    rw [Int.zero_mul]
    decide +kernel
  · obtain ⟨r, hr, hr1, hr2⟩ := nearest_exact (decide (n < 0)) h0 hz h
    rw [hr]
    by_cases hn : n < 0
    · rw [decide_eq_true hn, word_neg]
      have e1 : (9223372036854775808 + r) % 9223372036854775808 = r := by omega
      refine ⟨by omega, by unfold isFin; omega, ?_⟩
      unfold fval mag
      rw [if_neg (by omega), e1, hr2, Int.natCast_mul]
      have : (n.natAbs : Int) = -n := by omega
      rw [this, Int.neg_mul, Int.neg_neg]
    · rw [decide_eq_false hn, word_pos]
      have e1 : r % 9223372036854775808 = r := by omega
      refine ⟨by omega, by unfold isFin; omega, ?_⟩
      unfold fval mag
      rw [if_pos (by omega), e1, hr2, Int.natCast_mul]
      have : (n.natAbs : Int) = n := by omega
      rw [this]

end Go.Proofs.YtckmajcophpddaaDoor

