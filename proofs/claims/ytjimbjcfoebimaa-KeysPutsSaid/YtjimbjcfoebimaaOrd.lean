/-
  Plain facts on the order of texts, and of numbers, as they are put.
-/
import Derived.Test.YtjimbjcfoebimaaSpec
import Derived.Test.YtjimbjcfoebimaaText
import Derived.Test.YtjimbjcfoebimaaNum
import GoSem.Op.String
namespace Go.Proofs.Ytjimbjcfoebimaa
open Go.Lib (compareBytes)

theorem cmp_self : ∀ l : List UInt8, compareBytes l l = 0
  | [] => rfl
  | c :: l => by rw [cmp_cons_eq]; exact cmp_self l
theorem cmp_nil_cons (d : UInt8) (t : List UInt8) : compareBytes [] (d :: t) = -1 := rfl
theorem cmp_cons_nil (c : UInt8) (t : List UInt8) : compareBytes (c :: t) [] = 1 := rfl
theorem cmp_zero : ∀ l m : List UInt8, compareBytes l m = 0 → l = m
  | [], [], _ => rfl
  | [], d :: t, h => by rw [cmp_nil_cons] at h; omega
  | c :: s, [], h => by rw [cmp_cons_nil] at h; omega
  | c :: s, d :: t, h => by
    rcases Nat.lt_trichotomy c.toNat d.toNat with h1 | h1 | h1
    · rw [cmp_cons_lt _ _ (by rw [UInt8.lt_iff_toNat_lt]; exact h1)] at h; omega
    · obtain rfl : c = d := by rw [← UInt8.toNat_inj]; exact h1
      rw [cmp_cons_eq] at h
      rw [cmp_zero s t h]
    · rw [cmp_cons_gt _ _ (by rw [UInt8.lt_iff_toNat_lt]; exact h1)] at h; omega
theorem cmp_neg : ∀ l m : List UInt8, compareBytes m l = -compareBytes l m
  | [], [] => rfl
  | [], d :: t => rfl
  | c :: s, [] => rfl
  | c :: s, d :: t => by
    rcases Nat.lt_trichotomy c.toNat d.toNat with h1 | h1 | h1
    · have h : c < d := by rw [UInt8.lt_iff_toNat_lt]; exact h1
      rw [cmp_cons_lt s t h, cmp_cons_gt t s h]
      rfl
    · obtain rfl : c = d := by rw [← UInt8.toNat_inj]; exact h1
      rw [cmp_cons_eq, cmp_cons_eq]
      exact cmp_neg s t
    · have h : d < c := by rw [UInt8.lt_iff_toNat_lt]; exact h1
      rw [cmp_cons_gt s t h, cmp_cons_lt t s h]
theorem cmp_three : ∀ l m : List UInt8, compareBytes l m = -1 ∨ compareBytes l m = 0 ∨ compareBytes l m = 1
  | [], [] => .inr (.inl rfl)
  | [], d :: t => .inl rfl
  | c :: s, [] => .inr (.inr rfl)
  | c :: s, d :: t => by
    rcases Nat.lt_trichotomy c.toNat d.toNat with h1 | h1 | h1
    · rw [cmp_cons_lt _ _ (by rw [UInt8.lt_iff_toNat_lt]; exact h1)]; exact .inl rfl
    · obtain rfl : c = d := by rw [← UInt8.toNat_inj]; exact h1
      rw [cmp_cons_eq]
      exact cmp_three s t
    · rw [cmp_cons_gt _ _ (by rw [UInt8.lt_iff_toNat_lt]; exact h1)]; exact .inr (.inr rfl)
/-- The model's order of texts. -/
theorem less_iff : ∀ l m : List UInt8, Op.bytesLess l m = decide (compareBytes l m = -1)
  | [], [] => by simp [Op.bytesLess, compareBytes]
  | [], d :: t => by simp [Op.bytesLess, compareBytes]
  | c :: s, [] => by simp [Op.bytesLess, compareBytes]
  | c :: s, d :: t => by
    rcases Nat.lt_trichotomy c.toNat d.toNat with h1 | h1 | h1
    · have h : c < d := by rw [UInt8.lt_iff_toNat_lt]; exact h1
      rw [cmp_cons_lt _ _ h]
      simp [Op.bytesLess, h]
    · obtain rfl : c = d := by rw [← UInt8.toNat_inj]; exact h1
      rw [cmp_cons_eq, ← less_iff s t]
      simp [Op.bytesLess, UInt8.lt_irrefl]
    · have h : d < c := by rw [UInt8.lt_iff_toNat_lt]; exact h1
      have h2 : ¬ c < d := by rw [UInt8.lt_iff_toNat_lt]; omega
      have h3 : ¬ c = d := by rw [← UInt8.toNat_inj]; omega
      rw [cmp_cons_gt _ _ h]
      simp [Op.bytesLess, h2, h3]

/-- Texts that are put are in the order of the texts, whatever stands behind. -/
theorem cmp_txt : ∀ (s t u v : List UInt8), s ≠ t → compareBytes (txt s ++ u) (txt t ++ v) = compareBytes s t
  | [], [], _, _, h => absurd rfl h
  | [], d :: t, u, v, _ => by
    by_cases hd : d = 0
    · subst hd
      rw [txt_cons_zero, cmp_nil_cons]
      exact (cmp_common [0] _ _).trans (cmp_cons_lt _ _ (by decide))
    · rw [txt_cons t hd, cmp_nil_cons]
      exact cmp_cons_lt _ _ (by
        rw [UInt8.lt_iff_toNat_lt]
        have : d.toNat ≠ 0 := fun h => hd (by rw [← UInt8.toNat_inj]; exact h)
        show 0 < d.toNat
        omega)
  | c :: s, [], u, v, _ => by
    by_cases hd : c = 0
    · subst hd
      rw [txt_cons_zero, cmp_cons_nil]
      exact (cmp_common [0] _ _).trans (cmp_cons_gt _ _ (by decide))
    · rw [txt_cons s hd, cmp_cons_nil]
      exact cmp_cons_gt _ _ (by
        rw [UInt8.lt_iff_toNat_lt]
        have : c.toNat ≠ 0 := fun h => hd (by rw [← UInt8.toNat_inj]; exact h)
        show 0 < c.toNat
        omega)
  | c :: s, d :: t, u, v, h => by
    have hz : ∀ x : UInt8, x ≠ 0 → 0 < x.toNat := fun x hx => by
      have : x.toNat ≠ 0 := fun h => hx (by rw [← UInt8.toNat_inj]; exact h)
      omega
    have first : ∀ (x : UInt8) (y w : List UInt8), ∃ r, txt (x :: y) ++ w = x :: r := fun x y w => by
      by_cases hx : x = 0
      · subst hx; exact ⟨_, rfl⟩
      · rw [txt_cons y hx]; exact ⟨_, rfl⟩
    rcases Nat.lt_trichotomy c.toNat d.toNat with h1 | h1 | h1
    · obtain ⟨r1, e1⟩ := first c s u
      obtain ⟨r2, e2⟩ := first d t v
      have hl : c < d := by rw [UInt8.lt_iff_toNat_lt]; exact h1
      rw [e1, e2, cmp_cons_lt _ _ hl, cmp_cons_lt _ _ hl]
    · obtain rfl : c = d := by rw [← UInt8.toNat_inj]; exact h1
      have hst : s ≠ t := fun e => h (by rw [e])
      rw [cmp_cons_eq]
      by_cases hc : c = 0
      · subst hc
        rw [txt_cons_zero, txt_cons_zero]
        exact (cmp_common [0, 255] _ _).trans (cmp_txt s t u v hst)
      · rw [txt_cons s hc, txt_cons t hc]
        exact (cmp_common [c] _ _).trans (cmp_txt s t u v hst)
    · obtain ⟨r1, e1⟩ := first c s u
      obtain ⟨r2, e2⟩ := first d t v
      have hl : d < c := by rw [UInt8.lt_iff_toNat_lt]; exact h1
      rw [e1, e2, cmp_cons_gt _ _ hl, cmp_cons_gt _ _ hl]

/-- Bytes as long as others, of which they are the lesser number, are below them, whatever stands behind. -/
theorem cmp_num : ∀ (l m u v : List UInt8), l.length = m.length → num l < num m → compareBytes (l ++ u) (m ++ v) = -1
  | [], [], _, _, _, h => absurd h (Nat.lt_irrefl _)
  | [], _ :: _, _, _, h, _ => by cases h
  | _ :: _, [], _, _, h, _ => by cases h
  | c :: s, d :: t, u, v, hl, h => by
    simp only [List.length_cons, Nat.add_right_cancel_iff] at hl
    have key : ∀ (x : UInt8) (y : List UInt8), num (x :: y) = x.toNat * 256 ^ y.length + num y := by
      intro x y
      have gen : ∀ (y : List UInt8) (a : Nat), y.foldl (fun u (c : UInt8) => u * 256 + c.toNat) a = a * 256 ^ y.length + num y := by
        intro y
        induction y with
        | nil => intro a; simp [num]
        | cons e y ih =>
          intro a
          simp only [num, List.foldl_cons, List.length_cons]
          rw [ih, ih (0 * 256 + e.toNat), Nat.pow_succ]
          rw [Nat.add_mul, Nat.zero_mul, Nat.zero_add, Nat.mul_assoc, Nat.mul_comm 256, Nat.add_assoc]
      have := gen y x.toNat
      simp only [num, List.foldl_cons, Nat.zero_mul, Nat.zero_add] at this ⊢
      exact this
    rw [key, key, ← hl] at h
    have h1 := num_lt s
    have h2 := num_lt t
    rw [← hl] at h2
    rcases Nat.lt_trichotomy c.toNat d.toNat with h3 | h3 | h3
    · exact cmp_cons_lt _ _ (by rw [UInt8.lt_iff_toNat_lt]; exact h3)
    · obtain rfl : c = d := by rw [← UInt8.toNat_inj]; exact h3
      have h4 : num s < num t := by omega
      exact (cmp_cons_eq c _ _).trans (cmp_num s t u v hl h4)
    · have h5 : (d.toNat + 1) * 256 ^ s.length ≤ c.toNat * 256 ^ s.length := Nat.mul_le_mul_right _ h3
      rw [Nat.add_mul, Nat.one_mul] at h5
      omega
theorem cmp_keys {n m : Int} (h1 : -9223372036854775808 ≤ n) (h2 : m ≤ 9223372036854775807) (h : n < m) (u v : List UInt8) : compareBytes (be8 (inKey n) ++ u) (be8 (inKey m) ++ v) = -1 := by
  have hk := inKey_le h1 h
  have hb := inKey_lt h2
  exact cmp_num _ _ u v rfl (by rw [num_be8 hb, num_be8 (by omega)]; exact hk)

end Go.Proofs.Ytjimbjcfoebimaa
