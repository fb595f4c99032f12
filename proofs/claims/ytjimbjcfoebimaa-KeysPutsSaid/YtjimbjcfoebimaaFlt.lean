/-
  Plain facts on the model's float64: the order of two floats that are no NaN is that of their bits, the sign taken as one (for layer 2; no text of layer 1 imports this).
-/
import Ieee.Arith
namespace Go.Proofs.Ytjimbjcfoebimaa

/-- The size of the rung r, in the least unit: B is the number of rungs of one power of two. -/
def siz (B r : Nat) : Nat := if r < B then r else (B + r % B) * 2 ^ (r / B - 1)

theorem siz_step {B : Nat} (hB : 0 < B) (r : Nat) : siz B r < siz B (r + 1) := by
  unfold siz
  by_cases h1 : r + 1 < B
  · rw [if_pos (by omega), if_pos h1]
    omega
  · by_cases h2 : r < B
    · have h3 : r + 1 = B := by omega
      rw [if_pos h2, if_neg (by omega), h3, Nat.mod_self, Nat.div_self hB]
      simp
      omega
    · rw [if_neg h2, if_neg h1]
      have hd := Nat.div_add_mod r B
      have hm := Nat.mod_lt r hB
      have hq : 1 ≤ r / B := (Nat.le_div_iff_mul_le hB).2 (by omega)
      by_cases h3 : r % B + 1 < B
      · have e1 : (r + 1) / B = r / B := by
          rw [Nat.div_eq_of_lt_le]
          · rw [Nat.mul_comm]; omega
          · rw [Nat.add_mul, Nat.mul_comm]; omega
        have e2 : (r + 1) % B = r % B + 1 := by
          have := Nat.div_add_mod (r + 1) B
          rw [e1] at this
          omega
        rw [e1, e2]
        exact Nat.mul_lt_mul_of_pos_right (by omega) (Nat.two_pow_pos _)
      · have h4 : r % B + 1 = B := by omega
        have h5 : r + 1 = B * (r / B + 1) := by rw [Nat.mul_add, Nat.mul_one]; omega
        have e1 : (r + 1) / B = r / B + 1 := by rw [h5]; exact Nat.mul_div_cancel_left _ hB
        have e2 : (r + 1) % B = 0 := by rw [h5]; exact Nat.mul_mod_right _ _
        rw [e1, e2, Nat.add_zero]
        obtain ⟨k, hk⟩ : ∃ k, r / B = k + 1 := ⟨r / B - 1, by omega⟩
        rw [hk]
        simp only [Nat.add_sub_cancel]
        rw [Nat.pow_succ, Nat.mul_comm (2 ^ k) 2, ← Nat.mul_assoc]
        exact Nat.mul_lt_mul_of_pos_right (by omega) (Nat.two_pow_pos _)
theorem siz_lt {B : Nat} (hB : 0 < B) {r s : Nat} (h : r < s) : siz B r < siz B s := by
  induction s with
  | zero => omega
  | succ s ih =>
    rcases Nat.lt_or_ge r s with h1 | h1
    · exact Nat.lt_trans (ih h1) (siz_step hB s)
    · obtain rfl : r = s := by omega
      exact siz_step hB r
theorem siz_inj {B : Nat} (hB : 0 < B) {r s : Nat} : siz B r < siz B s ↔ r < s := by
  constructor
  · intro h
    rcases Nat.lt_trichotomy r s with h1 | h1 | h1
    · exact h1
    · subst h1; omega
    · have := siz_lt hB h1; omega
  · exact siz_lt hB

/-- The bits of a float as a number: the rung, with the sign. -/
def srung (u : Nat) : Int := if u < 9223372036854775808 then (u : Int) else 9223372036854775808 - (u : Int)
/-- The bits are no NaN's. -/
def isNum (u : Nat) : Prop := u % 9223372036854775808 ≤ 9218868437227405312

theorem compare_congr {x y x' y' : Int} (h1 : x < y ↔ x' < y') (h2 : x = y ↔ x' = y') : compare x y = compare x' y' := by
  show compareOfLessAndEq x y = compareOfLessAndEq x' y'
  unfold compareOfLessAndEq
  simp only [h1, h2]

theorem dbl_sign : Ieee.double.signWeight = 9223372036854775808 := by decide
theorem dbl_binade : Ieee.double.binade = 4503599627370496 := by decide
theorem dbl_inf : Ieee.double.infRung = 9218868437227405312 := by decide

theorem read_fin {u : Nat} (h : u % 9223372036854775808 < 9218868437227405312) :
    ∃ m a : Nat, Ieee.double.read u = .number (u / 9223372036854775808 % 2 == 1) m (Ieee.double.leastPlace + (a : Nat)) ∧ m * 2 ^ a = siz 4503599627370496 (u % 9223372036854775808) := by
  unfold Ieee.Format.read siz
  simp only [dbl_sign, dbl_binade, dbl_inf]
  by_cases h1 : u % 9223372036854775808 < 4503599627370496
  · rw [if_pos h1, if_pos h1]
    exact ⟨u % 9223372036854775808, 0, by simp, by simp⟩
  · rw [if_neg h1, if_neg h1, if_pos h]
    exact ⟨_, _, rfl, rfl⟩
theorem read_inf {u : Nat} (h : u % 9223372036854775808 = 9218868437227405312) : Ieee.double.read u = .infinity (u / 9223372036854775808 % 2 == 1) := by
  unfold Ieee.Format.read
  simp only [dbl_sign, dbl_binade, dbl_inf, h]
  rfl

theorem signed_cmp (s t : Bool) (m n a b : Nat) (L : Int) :
    compare (Ieee.signed s m (L + (a : Int) - min (L + (a : Int)) (L + (b : Int))).toNat) (Ieee.signed t n (L + (b : Int) - min (L + (a : Int)) (L + (b : Int))).toNat) =
      compare (if s then -((m * 2 ^ a : Nat) : Int) else ((m * 2 ^ a : Nat) : Int)) (if t then -((n * 2 ^ b : Nat) : Int) else ((n * 2 ^ b : Nat) : Int)) := by
  have key : ∀ (a b : Nat), (L + (a : Int) - min (L + (a : Int)) (L + (b : Int))).toNat = a - min a b := by intro a b; omega
  have ka := key a b
  have kb : (L + (b : Int) - min (L + (a : Int)) (L + (b : Int))).toNat = b - min a b := by omega
  rw [ka, kb]
  have pa : m * 2 ^ a = m * 2 ^ (a - min a b) * 2 ^ min a b := by rw [Nat.mul_assoc, ← Nat.pow_add]; congr 2; omega
  have pb : n * 2 ^ b = n * 2 ^ (b - min a b) * 2 ^ min a b := by rw [Nat.mul_assoc, ← Nat.pow_add]; congr 2; omega
  have hp : (0 : Int) < ((2 ^ min a b : Nat) : Int) := by have := Nat.two_pow_pos (min a b); omega
  unfold Ieee.signed
  simp only [Nat.shiftLeft_eq]
  rw [pa, pb]
  generalize m * 2 ^ (a - min a b) = x
  generalize n * 2 ^ (b - min a b) = y
  have up : ∀ z : Nat, ((z * 2 ^ min a b : Nat) : Int) = (z : Int) * ((2 ^ min a b : Nat) : Int) := fun z => Int.natCast_mul _ _
  rw [up, up]
  generalize ((2 ^ min a b : Nat) : Int) = k at hp
  have e1 : (if s then -((x : Int) * k) else (x : Int) * k) = (if s then -(x : Int) else x) * k := by split <;> first | rfl | exact (Int.neg_mul _ _).symm
  have e2 : (if t then -((y : Int) * k) else (y : Int) * k) = (if t then -(y : Int) else y) * k := by split <;> first | rfl | exact (Int.neg_mul _ _).symm
  rw [e1, e2]
  refine compare_congr ?_ ?_
  · exact (Int.mul_lt_mul_right hp).symm
  · constructor
    · intro h; rw [h]
    · intro h; exact Int.eq_of_mul_eq_mul_right (by omega) h

/-- THE ORDER OF TWO FLOATS THAT ARE NO NaN IS THAT OF THEIR BITS, the sign taken as one. -/
theorem order_bits {u v : Nat} (hu : u < 18446744073709551616) (hv : v < 18446744073709551616) (nu : isNum u) (nv : isNum v) : Ieee.double.order u v = some (compare (srung u) (srung v)) := by
  unfold isNum at nu nv
  have sgn : ∀ {u : Nat}, u < 18446744073709551616 → srung u = if (u / 9223372036854775808 % 2 == 1) then -((u % 9223372036854775808 : Nat) : Int) else ((u % 9223372036854775808 : Nat) : Int) := by
    intro u hu
    unfold srung
    by_cases h : u < 9223372036854775808
    · have h1 : u / 9223372036854775808 = 0 := by omega
      rw [if_pos h, h1, if_neg (by decide)]
      omega
    · have h1 : u / 9223372036854775808 = 1 := by omega
      rw [if_neg h, h1, if_pos (by decide)]
      omega
  rw [sgn hu, sgn hv]
  generalize hs : (u / 9223372036854775808 % 2 == 1) = s
  generalize ht : (v / 9223372036854775808 % 2 == 1) = t
  unfold Ieee.Format.order
  rcases Nat.lt_or_ge (u % 9223372036854775808) 9218868437227405312 with hu1 | hu1
  · obtain ⟨m, a, hr, hm⟩ := read_fin hu1
    rw [hr, hs]
    rcases Nat.lt_or_ge (v % 9223372036854775808) 9218868437227405312 with hv1 | hv1
    · obtain ⟨n, b, hr2, hn⟩ := read_fin hv1
      rw [hr2, ht]
      simp only [Ieee.Datum.order]
      rw [signed_cmp, hm, hn]
      congr 1
      have h1 := @siz_inj 4503599627370496 (by omega) (u % 9223372036854775808) (v % 9223372036854775808)
      have h2 := @siz_inj 4503599627370496 (by omega) (v % 9223372036854775808) (u % 9223372036854775808)
      have z1 := @siz_inj 4503599627370496 (by omega) 0 (u % 9223372036854775808)
      have z2 := @siz_inj 4503599627370496 (by omega) 0 (v % 9223372036854775808)
      have z0 : siz 4503599627370496 0 = 0 := by decide
      rw [z0] at z1 z2
      generalize siz 4503599627370496 (u % 9223372036854775808) = x at h1 h2 z1 z2 ⊢
      generalize siz 4503599627370496 (v % 9223372036854775808) = y at h1 h2 z1 z2 ⊢
      generalize u % 9223372036854775808 = p at h1 h2 z1 z2 ⊢
      generalize v % 9223372036854775808 = q at h1 h2 z1 z2 ⊢
      cases s <;> cases t <;> refine compare_congr ?_ ?_ <;> simp <;> omega
    · have hv2 : v % 9223372036854775808 = 9218868437227405312 := by omega
      rw [read_inf hv2, ht, hv2]
      simp only [Ieee.Datum.order]
      congr 1
      generalize u % 9223372036854775808 = p at hu1 ⊢
      cases s <;> cases t <;> simp <;> (first | (symm; rw [Int.compare_eq_gt]; omega) | (symm; rw [Int.compare_eq_lt]; omega))
  · have hu2 : u % 9223372036854775808 = 9218868437227405312 := by omega
    rw [read_inf hu2, hs, hu2]
    rcases Nat.lt_or_ge (v % 9223372036854775808) 9218868437227405312 with hv1 | hv1
    · obtain ⟨n, b, hr2, hn⟩ := read_fin hv1
      rw [hr2, ht]
      simp only [Ieee.Datum.order]
      congr 1
      generalize v % 9223372036854775808 = p at hv1 ⊢
      cases s <;> cases t <;> simp <;> (first | (symm; rw [Int.compare_eq_gt]; omega) | (symm; rw [Int.compare_eq_lt]; omega))
    · have hv2 : v % 9223372036854775808 = 9218868437227405312 := by omega
      rw [read_inf hv2, ht, hv2]
      simp only [Ieee.Datum.order]
      cases s <;> cases t <;> rfl

end Go.Proofs.Ytjimbjcfoebimaa
