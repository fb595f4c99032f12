/-
  What a page is (plain): bytes of a number, the lowest first; the check sum as a shift of a number's bits; bits that are turned.
-/
import Derived.Test.YtbbgdbnjmonbgabGreatDoorBase
set_option linter.unusedVariables false
set_option maxRecDepth 100000
namespace Go.Proofs.YtbbgdbnjmonbgabGreatDoor

/-- One step of the sum. -/
def crcP : Nat := 3988292384
def crcT (x : Nat) : Nat := (x / 2) ^^^ (if x % 2 = 1 then crcP else 0)
def crcI : Nat → Nat → Nat
  | 0, x => x
  | n + 1, x => crcI n (crcT x)
def allOn : Nat := 4294967295
def crcS (s : Nat) (l : List UInt8) : Nat := l.foldl (fun s c => crcI 8 (s ^^^ c.toNat)) s
def sumV (l : List UInt8) : Nat := crcS allOn l ^^^ allOn

/-- Bytes as a number, the lowest first. -/
def leV : List UInt8 → Nat
  | [] => 0
  | c :: l => c.toNat + 256 * leV l
def leB : Nat → Nat → List UInt8
  | 0, _ => []
  | k + 1, n => UInt8.ofNat n :: leB k (n / 256)

theorem leB_length (k n : Nat) : (leB k n).length = k := by
  induction k generalizing n with
  | zero => rfl
  | succ k ih => simp [leB, ih]
theorem u8_ofNat (n : Nat) : (UInt8.ofNat n).toNat = n % 256 := by simp
theorem leV_leB (k n : Nat) : leV (leB k n) = n % 256 ^ k := by
  induction k generalizing n with
  | zero => simp [leB, leV]; omega
  | succ k ih => rw [leB, leV, ih, u8_ofNat, Nat.pow_succ, Nat.mul_comm (256 ^ k), Nat.mod_mul]
theorem leV_lt (l : List UInt8) : leV l < 256 ^ l.length := by
  induction l with
  | nil => simp [leV]
  | cons c l ih => have := c.toNat_lt; rw [leV, List.length_cons, Nat.pow_succ]; omega
theorem leB_leV (l : List UInt8) : leB l.length (leV l) = l := by
  induction l with
  | nil => rfl
  | cons c l ih =>
    have := c.toNat_lt
    have h1 : (c.toNat + 256 * leV l) / 256 = leV l := by omega
    rw [List.length_cons, leB, leV, h1, ih]
    congr 1
    apply UInt8.toNat_inj.1
    rw [u8_ofNat]
    omega
theorem leB_mod (k n : Nat) : leB k (n % 256 ^ k) = leB k n := by
  have h1 := leB_leV (leB k n)
  rwa [leB_length, leV_leB] at h1
theorem leV_append (l m : List UInt8) : leV (l ++ m) = leV l + 256 ^ l.length * leV m := by
  induction l with
  | nil => simp [leV]
  | cons c l ih => rw [List.cons_append, leV, leV, ih, List.length_cons, Nat.pow_succ, Nat.mul_add, Nat.mul_comm (256 ^ l.length) 256, Nat.mul_assoc]; omega
theorem leB_take {k j n : Nat} (h : j ≤ k) : (leB k n).take j = leB j n := by
  induction j generalizing k n with
  | zero => rfl
  | succ j ih =>
    obtain ⟨k, rfl⟩ : ∃ k', k = k' + 1 := ⟨k - 1, by omega⟩
    rw [leB, List.take_succ_cons, ih (by omega), leB]
theorem leB_inj {k a b : Nat} (ha : a < 256 ^ k) (hb : b < 256 ^ k) (h : leB k a = leB k b) : a = b := by
  have h1 := leV_leB k a
  have h2 := leV_leB k b
  rw [Nat.mod_eq_of_lt ha] at h1
  rw [Nat.mod_eq_of_lt hb] at h2
  rw [← h1, h, h2]

/-! The sum is linear. -/
theorem crcP_lt : crcP < 4294967296 := by decide
theorem xor_rc (a b c : Nat) : a ^^^ b ^^^ c = a ^^^ c ^^^ b := by rw [Nat.xor_assoc, Nat.xor_comm b, ← Nat.xor_assoc]
theorem xor_no {a b : Nat} (h : a ^^^ b = 0) : a = b := by
  have h1 : a ^^^ b ^^^ b = 0 ^^^ b := by rw [h]
  rwa [Nat.xor_assoc, Nat.xor_self, Nat.xor_zero, Nat.zero_xor] at h1
theorem xor_half (a b : Nat) : (a ^^^ b) / 2 = a / 2 ^^^ b / 2 := by
  apply Nat.eq_of_testBit_eq
  intro i
  simp [Nat.testBit_div_two]
theorem split_xor (n x : Nat) : (x / 2 ^ n) * 2 ^ n ^^^ (x % 2 ^ n) = x := by
  apply Nat.eq_of_testBit_eq
  intro i
  rw [Nat.testBit_xor, Nat.testBit_mul_two_pow, Nat.testBit_mod_two_pow, Nat.testBit_div_two_pow]
  by_cases h : i < n
  · have h1 : ¬ n ≤ i := by omega
    simp [h, h1]
  · have h1 : n ≤ i := by omega
    have h2 : i - n + n = i := by omega
    simp [h, h1, h2]
theorem add_xor {n a b : Nat} (h : a < 2 ^ n) : a + 2 ^ n * b = a ^^^ (b * 2 ^ n) := by
  have h1 := split_xor n (a + 2 ^ n * b)
  have hp : 0 < 2 ^ n := Nat.two_pow_pos n
  rw [Nat.add_mul_div_left _ _ hp, Nat.div_eq_of_lt h, Nat.zero_add, Nat.add_mul_mod_self_left, Nat.mod_eq_of_lt h, Nat.xor_comm] at h1
  exact h1.symm
theorem crcT_xor (a b : Nat) : crcT (a ^^^ b) = crcT a ^^^ crcT b := by
  unfold crcT
  have h := Nat.xor_mod_two_eq_one (a := a) (b := b)
  rw [xor_half]
  by_cases ha : a % 2 = 1 <;> by_cases hb : b % 2 = 1 <;> simp only [ha, hb, h, if_true, if_false, not_true_eq_false, iff_self, iff_true, iff_false, not_false_eq_true, Nat.xor_zero]
  · rw [← Nat.xor_assoc, xor_rc (a / 2) crcP, Nat.xor_assoc (a / 2 ^^^ b / 2), Nat.xor_self, Nat.xor_zero]
  · rw [xor_rc]
  · rw [Nat.xor_assoc]
theorem crcI_xor (n a b : Nat) : crcI n (a ^^^ b) = crcI n a ^^^ crcI n b := by
  induction n generalizing a b with
  | zero => rfl
  | succ n ih => rw [crcI, crcI, crcI, crcT_xor, ih]
theorem crcT_double (x : Nat) : crcT (x * 2) = x := by
  unfold crcT
  rw [Nat.mul_div_cancel _ (by decide), Nat.mul_mod_left, if_neg (by decide), Nat.xor_zero]
theorem crcI_add (m n x : Nat) : crcI (m + n) x = crcI n (crcI m x) := by
  induction m generalizing x with
  | zero => rw [Nat.zero_add]; rfl
  | succ m ih => rw [Nat.succ_add, crcI, crcI, ih]
theorem crcI_shift (n x : Nat) : crcI n (x * 2 ^ n) = x := by
  induction n generalizing x with
  | zero => simp [crcI]
  | succ n ih => rw [crcI, Nat.pow_succ, ← Nat.mul_assoc, crcT_double, ih]
theorem crcT_lt {x : Nat} (h : x < 4294967296) : crcT x < 4294967296 := by
  unfold crcT
  have := crcP_lt
  have h1 : x / 2 < 2 ^ 32 := by omega
  split
  · exact Nat.xor_lt_two_pow (n := 32) h1 this
  · rw [Nat.xor_zero]; omega
theorem crcI_lt (n : Nat) {x : Nat} (h : x < 4294967296) : crcI n x < 4294967296 := by
  induction n generalizing x with
  | zero => exact h
  | succ n ih => exact ih (crcT_lt h)
theorem crcT_zero {x : Nat} (h : x < 4294967296) (h0 : crcT x = 0) : x = 0 := by
  unfold crcT at h0
  split at h0
  · have h1 := xor_no h0
    unfold crcP at h1
    omega
  · rw [Nat.xor_zero] at h0
    omega
theorem crcI_zero (n : Nat) {x : Nat} (h : x < 4294967296) (h0 : crcI n x = 0) : x = 0 := by
  induction n generalizing x with
  | zero => exact h0
  | succ n ih => exact crcT_zero h (ih (crcT_lt h) h0)
theorem crcI_inj (n : Nat) {x y : Nat} (hx : x < 4294967296) (hy : y < 4294967296) (h : crcI n x = crcI n y) : x = y := by
  have h1 : crcI n (x ^^^ y) = 0 := by rw [crcI_xor, h, Nat.xor_self]
  have h2 := crcI_zero n (Nat.xor_lt_two_pow (n := 32) hx hy) h1
  exact xor_no h2

/-- Four steps at once. -/
theorem crcI_four (x : Nat) : crcI 4 x = x / 16 ^^^ crcI 4 (x % 16) := by
  have h := split_xor 4 x
  have h1 : crcI 4 x = crcI 4 (x / 2 ^ 4 * 2 ^ 4) ^^^ crcI 4 (x % 2 ^ 4) := by rw [← crcI_xor, h]
  rw [crcI_shift] at h1
  exact h1

theorem crcS_lt {s : Nat} (hs : s < 4294967296) (l : List UInt8) : crcS s l < 4294967296 := by
  unfold crcS
  induction l generalizing s with
  | nil => exact hs
  | cons c l ih =>
    have := c.toNat_lt
    exact ih (crcI_lt 8 (Nat.xor_lt_two_pow (n := 32) hs (by omega)))
theorem crcS_nil (s : Nat) : crcS s [] = s := rfl
theorem crcS_cons (s : Nat) (c : UInt8) (l : List UInt8) : crcS s (c :: l) = crcS (crcI 8 (s ^^^ c.toNat)) l := rfl
theorem crcS_append (s : Nat) (l m : List UInt8) : crcS s (l ++ m) = crcS (crcS s l) m := by simp [crcS]
theorem sumV_lt (l : List UInt8) : sumV l < 4294967296 := Nat.xor_lt_two_pow (n := 32) (crcS_lt (by decide) l) (by decide)
/-- The sum of bytes is that of the number that they are. -/
theorem crcS_eq (s : Nat) (l : List UInt8) : crcS s l = crcI (8 * l.length) (s ^^^ leV l) := by
  induction l generalizing s with
  | nil => simp [crcS, leV, crcI]
  | cons c l ih =>
    have hc := c.toNat_lt
    have h1 : c.toNat + 256 * leV l = c.toNat ^^^ (leV l * 2 ^ 8) := add_xor (n := 8) hc
    rw [crcS_cons, ih, List.length_cons, leV, h1, ← Nat.xor_assoc, Nat.mul_succ, Nat.add_comm, crcI_add, crcI_xor 8 (s ^^^ c.toNat), crcI_shift]

/-- The sum fits. -/
def Fits (l : List UInt8) : Prop := leV (l.drop 508) = sumV (l.take 508)
theorem fits_iff {l : List UInt8} (h : l.length = 512) : Fits l ↔ crcS allOn l = crcI 32 allOn := by
  have hd : (l.drop 508).length = 4 := by simp [h]
  have hlt : leV (l.drop 508) < 4294967296 := by have := leV_lt (l.drop 508); rw [hd] at this; exact this
  have hs := crcS_lt (s := allOn) (by decide) (l.take 508)
  have h1 : crcS allOn l = crcI 32 (crcS allOn (l.take 508) ^^^ leV (l.drop 508)) := by
    have h2 := crcS_append allOn (l.take 508) (l.drop 508)
    rw [List.take_append_drop, crcS_eq _ (l.drop 508), hd] at h2
    exact h2
  rw [h1]
  unfold Fits sumV
  constructor
  · intro h2
    rw [h2, ← Nat.xor_assoc, Nat.xor_self, Nat.zero_xor]
  · intro h2
    have h3 := crcI_inj 32 (Nat.xor_lt_two_pow (n := 32) hs hlt) (by decide) h2
    generalize crcS allOn (l.take 508) = x at h3 ⊢
    rw [← h3, ← Nat.xor_assoc, Nat.xor_self, Nat.zero_xor]

/-- Bits that are turned, at most 32 side by side: the sum fits no more. -/
theorem burst {l m : List UInt8} (hl : l.length = 512) (hm : m.length = 512) {y at_ : Nat} (hy : y < 4294967296) (ha : at_ ≤ 4096) (hx : leV m = leV l ^^^ (y * 2 ^ at_)) (h1 : Fits l) (h2 : Fits m) : y = 0 := by
  have e1 := (fits_iff hl).1 h1
  have e2 := (fits_iff hm).1 h2
  rw [crcS_eq, hl] at e1
  rw [crcS_eq, hm, hx, ← Nat.xor_assoc, crcI_xor, e1] at e2
  have e3 : crcI (8 * 512) (y * 2 ^ at_) = 0 := by
    have h3 : crcI 32 allOn ^^^ crcI (8 * 512) (y * 2 ^ at_) = crcI 32 allOn ^^^ 0 := by rw [e2, Nat.xor_zero]
    have h5 : crcI 32 allOn ^^^ (crcI 32 allOn ^^^ crcI (8 * 512) (y * 2 ^ at_)) = crcI 32 allOn ^^^ (crcI 32 allOn ^^^ 0) := by rw [h3]
    rwa [← Nat.xor_assoc, ← Nat.xor_assoc, Nat.xor_self, Nat.zero_xor, Nat.zero_xor] at h5
  have h4 : 8 * 512 = at_ + (4096 - at_) := by omega
  rw [h4, crcI_add, crcI_shift] at e3
  exact crcI_zero _ hy e3

/-- One bit is turned. -/
theorem leV_turn {l : List UInt8} {j k : Nat} (hj : j < l.length) (hk : k < 8) {u : UInt8} (hu : u.toNat = l[j].toNat ^^^ 2 ^ k) : leV (l.set j u) = leV l ^^^ 2 ^ (8 * j + k) := by
  induction l generalizing j with
  | nil => simp at hj
  | cons c l ih =>
    have hc := c.toNat_lt
    have h1 : ∀ d n : Nat, d < 256 → d + 256 * n = d ^^^ (n * 2 ^ 8) := fun d n hd => add_xor (n := 8) hd
    cases j with
    | zero =>
      rw [List.getElem_cons_zero] at hu
      rw [List.set_cons_zero, leV, leV, h1 _ _ u.toNat_lt, h1 _ _ hc, hu, Nat.mul_zero, Nat.zero_add, xor_rc]
    | succ j =>
      rw [List.getElem_cons_succ] at hu
      rw [List.set_cons_succ, leV, leV, ih (by simpa using hj) hu, h1 _ _ hc, h1 _ _ hc, Nat.xor_assoc]
      congr 1
      have h2 : 8 * (j + 1) + k = 8 * j + k + 8 := by omega
      have h3 : ∀ a b : Nat, (a ^^^ b) * 2 ^ 8 = a * 2 ^ 8 ^^^ b * 2 ^ 8 := fun a b => by rw [← Nat.shiftLeft_eq, ← Nat.shiftLeft_eq a, ← Nat.shiftLeft_eq b, Nat.shiftLeft_xor_distrib]
      have h4 : 2 ^ (8 * (j + 1) + k) = 2 ^ (8 * j + k) * 2 ^ 8 := by rw [h2]; exact Nat.pow_add _ _ _
      rw [h4, h3]

end Go.Proofs.YtbbgdbnjmonbgabGreatDoor
