/-
  Plain facts on sixteen digits: the digits of a number, the number of digits.
-/
import Derived.Laws.Bits64
import Derived.Laws.Bits64b
import Derived.IntWalk
import Derived.RowKit
set_option linter.unusedVariables false
set_option maxRecDepth 100000
namespace Go.Proofs.YtckmajcophpddaaDoor
open Go.RowKit

/-- The digits. -/
def dgts : List UInt8 := [48, 49, 50, 51, 52, 53, 54, 55, 56, 57, 97, 98, 99, 100, 101, 102]
def dgt (j : Nat) : UInt8 := dgts.getD j 0
/-- What a digit stands for; 16: it is none. -/
def digV (c : Nat) : Nat := if 48 ≤ c ∧ c ≤ 57 then c - 48 else if 97 ≤ c ∧ c ≤ 102 then c - 87 else 16
theorem dgt_all : ∀ j : Fin 16, ∀ c : Fin 256, ((dgt j.val).toNat = c.val ↔ digV c.val = j.val) := by decide +kernel
theorem dgt_iff {j c : Nat} (hj : j < 16) (hc : c < 256) : (dgt j).toNat = c ↔ digV c = j := dgt_all ⟨j, hj⟩ ⟨c, hc⟩
theorem digV_dgt {j : Nat} (hj : j < 16) : digV (dgt j).toNat = j := (dgt_iff hj (dgt j).toNat_lt).1 rfl
theorem dgt_digV {x : UInt8} (h : digV x.toNat < 16) : dgt (digV x.toNat) = x := by
  rw [← UInt8.toNat_inj]
  exact (dgt_iff h x.toNat_lt).2 rfl
theorem digV_le (c : Nat) : digV c ≤ 16 := by
  unfold digV
  repeat' split
  all_goals omega

/-- The number that digits are, the highest first. -/
def hexN (l : List UInt8) : Nat := l.foldl (fun u c => u * 16 + digV c.toNat) 0
theorem hexN_snoc (l : List UInt8) (c : UInt8) : hexN (l ++ [c]) = hexN l * 16 + digV c.toNat := by simp [hexN, List.foldl_append]
theorem hexN_take {l : List UInt8} {j : Nat} (h : j < l.length) : hexN (l.take (j + 1)) = hexN (l.take j) * 16 + digV l[j].toNat := by
  rw [List.take_succ_eq_append_getElem h, hexN_snoc]
/-- k digits of a number, the highest first. -/
def hexK : Nat → Nat → List UInt8
  | 0, _ => []
  | k + 1, c => hexK k (c / 16) ++ [dgt (c % 16)]
theorem hexK_length (k : Nat) : ∀ c, (hexK k c).length = k := by
  induction k with
  | zero => intro c; rfl
  | succ k ih => intro c; simp [hexK, ih]
theorem hexN_hexK (k : Nat) : ∀ c, c < 16 ^ k → hexN (hexK k c) = c := by
  induction k with
  | zero => intro c h; simp at h; subst h; rfl
  | succ k ih =>
    intro c h
    rw [Nat.pow_succ] at h
    rw [hexK, hexN_snoc, ih (c / 16) (by omega), digV_dgt (by omega)]
    omega
theorem hexK_hexN : ∀ (k : Nat) (l : List UInt8), l.length = k → (∀ x ∈ l, digV x.toNat < 16) → hexK k (hexN l) = l := by
  intro k
  induction k with
  | zero => intro l h _; rw [List.eq_nil_of_length_eq_zero h]; rfl
  | succ k ih =>
    intro l h hd
    have hne : l ≠ [] := by intro e; subst e; simp at h
    have e : l = l.dropLast ++ [l.getLast hne] := (List.dropLast_concat_getLast hne).symm
    have hx : digV (l.getLast hne).toNat < 16 := hd _ (List.getLast_mem hne)
    have hl : l.dropLast.length = k := by rw [List.length_dropLast, h]; rfl
    have hi := ih l.dropLast hl (fun x hx => hd x (List.dropLast_subset l hx))
    generalize l.dropLast = m at *
    generalize l.getLast hne = x at *
    rw [e, hexN_snoc, hexK]
    have e1 : (hexN m * 16 + digV x.toNat) / 16 = hexN m := by omega
    have e2 : (hexN m * 16 + digV x.toNat) % 16 = digV x.toNat := by omega
    rw [e1, e2, hi, dgt_digV hx]
theorem hexK_at (k : Nat) : ∀ c i, i < k → (hexK k c)[i]? = some (dgt (c / 16 ^ (k - 1 - i) % 16)) := by
  induction k with
  | zero => intro c i h; omega
  | succ k ih =>
    intro c i h
    rw [hexK]
    by_cases hi : i < k
    · rw [List.getElem?_append_left (by rw [hexK_length]; exact hi), ih (c / 16) i hi, Nat.div_div_eq_div_mul, ← Nat.pow_succ']
      have : (k - 1 - i).succ = k + 1 - 1 - i := by omega
      rw [this]
    · obtain rfl : i = k := by omega
      rw [List.getElem?_append_right (by rw [hexK_length]; omega), hexK_length]
      simp
theorem hexN_lt (l : List UInt8) (h : ∀ x ∈ l, digV x.toNat < 16) : hexN l < 16 ^ l.length := by
  have key : ∀ (l : List UInt8) (u k : Nat), u < 16 ^ k → (∀ x ∈ l, digV x.toNat < 16) → l.foldl (fun u c => u * 16 + digV c.toNat) u < 16 ^ (k + l.length) := by
    intro l
    induction l with
    | nil => intro u k h _; exact h
    | cons c l ih =>
      intro u k hu hd
      have h1 := hd c (by simp)
      have h2 : u * 16 + digV c.toNat < 16 ^ (k + 1) := by
        rw [Nat.pow_succ]
        omega
      have := ih _ (k + 1) h2 (fun x hx => hd x (List.mem_cons_of_mem _ hx))
      rw [List.foldl_cons, List.length_cons, show k + (l.length + 1) = k + 1 + l.length from by omega]
      exact this
  have := key l 0 0 (by decide) h
  rw [Nat.zero_add] at this
  exact this
theorem hexN_lt15 {l : List UInt8} (h : ∀ x ∈ l, digV x.toNat < 16) (hk : l.length ≤ 15) : hexN l < 1152921504606846976 := by
  have h1 := hexN_lt l h
  have h2 : (16 : Nat) ^ l.length ≤ 16 ^ 15 := Nat.pow_le_pow_right (by decide) hk
  have h3 : (16 : Nat) ^ 15 = 1152921504606846976 := by decide
  omega
theorem hexN_lt16 {l : List UInt8} (h : ∀ x ∈ l, digV x.toNat < 16) (hk : l.length ≤ 16) : hexN l < 18446744073709551616 := by
  have h1 := hexN_lt l h
  have h2 : (16 : Nat) ^ l.length ≤ 16 ^ 16 := Nat.pow_le_pow_right (by decide) hk
  have h3 : (16 : Nat) ^ 16 = 18446744073709551616 := by decide
  omega
theorem or16_walk {v d : Nat} (hv : v < 1152921504606846976) (hd : d < 16) : bits BinOp.or IntKind.u64 (IntKind.u64.wrap ((v : Int) * 16)) (d : Int) = ((v * 16 + d : Nat) : Int) := by
  have h3 : IntKind.u64.wrap ((v : Int) * 16) = ((v * 16 : Nat) : Int) := by
    rw [IntKind.wrap_u64]
    omega
  rw [h3, bits_or_u64_nat (v * 16) d (by omega) (by omega)]
  have h4 := Nat.two_pow_add_eq_or_of_lt (i := 4) (b := d) hd v
  rw [show (2 : Nat) ^ 4 * v = v * 16 from by rw [Nat.mul_comm]] at h4
  rw [h4]
theorem and15_walk {v : Nat} (hv : v < 18446744073709551616) : bits BinOp.and IntKind.u64 (v : Int) 15 = ((v % 16 : Nat) : Int) := by
  have h := bits_and_u64_nat v 15 hv (by omega)
  have h2 := Nat.and_two_pow_sub_one_eq_mod v 4
  have h3 : (2 : Nat) ^ 4 - 1 = 15 := by decide
  rw [h3] at h2
  rw [h2] at h
  exact h

end Go.Proofs.YtckmajcophpddaaDoor
