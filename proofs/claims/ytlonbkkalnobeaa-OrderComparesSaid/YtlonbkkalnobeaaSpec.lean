/-
  Plain facts on lists of bytes, for the statements of layer 1: the order, what is above all that begin so, texts put and read.
-/
import Derived.Lib.Bytealg
set_option linter.unusedVariables false
namespace Go.Proofs.Ytlonbkkalnobeaa
open Go.Lib (compareBytes)

theorem cmp_drop {l m : List UInt8} {k : Nat} (hl : k < l.length) (hm : k < m.length) :
    compareBytes (l.drop k) (m.drop k) = if l[k] < m[k] then -1 else if m[k] < l[k] then 1 else compareBytes (l.drop (k + 1)) (m.drop (k + 1)) := by
  rw [List.drop_eq_getElem_cons hl, List.drop_eq_getElem_cons hm]
  rfl
theorem cmp_lt {l m : List UInt8} {k : Nat} (hl : k < l.length) (hm : k < m.length) (h : (l[k].toNat : Int) < (m[k].toNat : Int)) : compareBytes (l.drop k) (m.drop k) = -1 := by
  rw [cmp_drop hl hm, if_pos (by rw [UInt8.lt_iff_toNat_lt]; omega)]
theorem cmp_gt {l m : List UInt8} {k : Nat} (hl : k < l.length) (hm : k < m.length) (h : (m[k].toNat : Int) < (l[k].toNat : Int)) : compareBytes (l.drop k) (m.drop k) = 1 := by
  rw [cmp_drop hl hm, if_neg (by rw [UInt8.lt_iff_toNat_lt]; omega), if_pos (by rw [UInt8.lt_iff_toNat_lt]; omega)]
theorem cmp_eq {l m : List UInt8} {k : Nat} (hl : k < l.length) (hm : k < m.length) (h : l[k].toNat = m[k].toNat) : compareBytes (l.drop k) (m.drop k) = compareBytes (l.drop (k + 1)) (m.drop (k + 1)) := by
  rw [cmp_drop hl hm, if_neg (by rw [UInt8.lt_iff_toNat_lt]; omega), if_neg (by rw [UInt8.lt_iff_toNat_lt]; omega)]
theorem cmp_nil_nil : compareBytes [] [] = 0 := rfl
theorem cmp_end {l m : List UInt8} {k : Nat} (h : l.length ≤ k ∨ m.length ≤ k) (hkl : k ≤ l.length) (hkm : k ≤ m.length) :
    compareBytes (l.drop k) (m.drop k) = if l.length < m.length then -1 else if m.length < l.length then 1 else 0 := by
  rcases Nat.lt_or_ge k l.length with h1 | h1
  · rw [show m.drop k = [] from List.drop_eq_nil_of_le (by omega), List.drop_eq_getElem_cons h1, if_neg (by omega), if_pos (by omega)]
    rfl
  · rw [show l.drop k = [] from List.drop_eq_nil_of_le h1]
    rcases Nat.lt_or_ge k m.length with h2 | h2
    · rw [List.drop_eq_getElem_cons h2, if_pos (by omega)]
      rfl
    · rw [show m.drop k = [] from List.drop_eq_nil_of_le h2, if_neg (by omega), if_neg (by omega)]
      rfl

/-- How many bytes are left of the first n, without the bytes ff at their end. -/
def cutN (l : List UInt8) : Nat → Nat
  | 0 => 0
  | n + 1 => if l.getD n 0 = 255 then cutN l n else n + 1
theorem cutN_le (l : List UInt8) : ∀ n, cutN l n ≤ n
  | 0 => Nat.le_refl _
  | n + 1 => by
    unfold cutN
    split
    · exact Nat.le_succ_of_le (cutN_le l n)
    · exact Nat.le_refl _
theorem cutN_ff {l : List UInt8} : ∀ {n i : Nat}, cutN l n ≤ i → i < n → l.getD i 0 = 255
  | 0, i, _, h => absurd h (Nat.not_lt_zero _)
  | n + 1, i, h1, h2 => by
    unfold cutN at h1
    split at h1
    · rename_i h
      rcases Nat.lt_or_ge i n with h3 | h3
      · exact cutN_ff h1 h3
      · obtain rfl : i = n := by omega
        exact h
    · omega
theorem cutN_last {l : List UInt8} : ∀ {n j : Nat}, cutN l n = j + 1 → l.getD j 0 ≠ 255
  | 0, j, h => by cases h
  | n + 1, j, h => by
    unfold cutN at h
    split at h
    · exact cutN_last h
    · rename_i hne
      obtain rfl : n = j := by omega
      exact hne
theorem cutN_yes {l : List UInt8} {n : Nat} (h : l.getD n 0 = 255) : cutN l (n + 1) = cutN l n := by
  show (if l.getD n 0 = 255 then cutN l n else n + 1) = _
  rw [if_pos h]
theorem cutN_no {l : List UInt8} {n : Nat} (h : l.getD n 0 ≠ 255) : cutN l (n + 1) = n + 1 := by
  show (if l.getD n 0 = 255 then cutN l n else n + 1) = _
  rw [if_neg h]
/-- What is above all that begin with l; nothing, where all bytes are ff. -/
def aft (l : List UInt8) : List UInt8 :=
  match cutN l l.length with
  | 0 => []
  | j + 1 => (l.take (j + 1)).set j (l.getD j 0 + 1)
def aftOk (l : List UInt8) : Bool := match cutN l l.length with | 0 => false | _ + 1 => true
theorem aft_zero {l : List UInt8} (h : cutN l l.length = 0) : aft l = [] ∧ aftOk l = false := by unfold aft aftOk; rw [h]; exact ⟨rfl, rfl⟩
theorem aft_succ {l : List UInt8} {j : Nat} (h : cutN l l.length = j + 1) : aft l = (l.take (j + 1)).set j (l.getD j 0 + 1) ∧ aftOk l = true := by unfold aft aftOk; rw [h]; exact ⟨rfl, rfl⟩

end Go.Proofs.Ytlonbkkalnobeaa
