/-
  Plain facts on numbers put as eight bytes, the highest first, with the sign turned.
  Plain facts on lists of bytes, for the statements of layer 1: the order, what is above all that begin so, texts put and read.
  Plain facts on texts put and read: what a text is put as, and what bytes are read as.
  Plain facts on the order of texts, and of numbers, as they are put.
-/
import Derived.Laws.Bits64
import Derived.Laws.Bits64b
import Derived.Lib.EndianBits
import Derived.IntWalk
import Derived.RowKit
import Derived.Lib.Bytealg
import GoSem.Op.String
namespace Go.Proofs.YtbbgdbnjmonbgabGreatDoor
open Go.RowKit

/-- The number that bytes are, the highest first. -/
def num (l : List UInt8) : Nat := l.foldl (fun u c => u * 256 + c.toNat) 0
theorem num_snoc (l : List UInt8) (c : UInt8) : num (l ++ [c]) = num l * 256 + c.toNat := by simp [num, List.foldl_append]
theorem num_take {l : List UInt8} {j : Nat} (h : j < l.length) : num (l.take (j + 1)) = num (l.take j) * 256 + l[j].toNat := by
  rw [List.take_succ_eq_append_getElem h, num_snoc]
theorem foldl_lt (l : List UInt8) : ∀ u k : Nat, u < 256 ^ k → l.foldl (fun u (c : UInt8) => u * 256 + c.toNat) u < 256 ^ (k + l.length) := by
  induction l with
  | nil => intro u k h; exact h
  | cons c l ih =>
    intro u k h
    have h2 := c.toNat_lt
    have h1 : u * 256 + c.toNat < 256 ^ (k + 1) := by
      rw [Nat.pow_succ]
      omega
    have := ih _ (k + 1) h1
    rw [List.foldl_cons, List.length_cons, show k + (l.length + 1) = k + 1 + l.length from by omega]
    exact this
theorem num_lt (l : List UInt8) : num l < 256 ^ l.length := by
  have := foldl_lt l 0 0 (by decide)
  rw [Nat.zero_add] at this
  exact this
theorem num_lt_of {l : List UInt8} {k : Nat} (h : l.length ≤ k) : num l < 256 ^ k := Nat.lt_of_lt_of_le (num_lt l) (Nat.pow_le_pow_right (by decide) h)

theorem pow63 : (2 : Nat) ^ 63 = 9223372036854775808 := by decide

theorem xor_top {v : Nat} (h : v < 9223372036854775808) : v ^^^ 9223372036854775808 = v + 9223372036854775808 := by
  have h1 := Nat.two_pow_add_eq_or_of_lt (i := 63) (b := v) (by rw [pow63]; exact h) 1
  rw [Nat.mul_one] at h1
  have h2 : v ^^^ 2 ^ 63 = 2 ^ 63 ||| v := by
    apply Nat.eq_of_testBit_eq
    intro i
    rw [Nat.testBit_xor, Nat.testBit_or, Nat.testBit_two_pow]
    by_cases hi : 63 = i
    · subst hi
      rw [Nat.testBit_lt_two_pow (by rw [pow63]; exact h)]
      simp
    · simp [hi]
  rw [← pow63, h2, ← h1, Nat.add_comm]
theorem xor_top' {v : Nat} (h : 9223372036854775808 ≤ v) (h2 : v < 18446744073709551616) : v ^^^ 9223372036854775808 = v - 9223372036854775808 := by
  have h1 := xor_top (v := v - 9223372036854775808) (by omega)
  have h3 : v - 9223372036854775808 + 9223372036854775808 = v := by omega
  rw [h3] at h1
  generalize v - 9223372036854775808 = r at h1 ⊢
  rw [← h1, Nat.xor_assoc, Nat.xor_self, Nat.xor_zero]

/-- The number that eight bytes are, as read: less 2^63. -/
def outKey (v : Nat) : Int := (v : Int) - 9223372036854775808
/-- A number of 64 bits as put: with 2^63 more. -/
def inKey (n : Int) : Nat := (n + 9223372036854775808).toNat
theorem inKey_lt {n : Int} (h : n ≤ 9223372036854775807) : inKey n < 18446744073709551616 := by unfold inKey; omega
theorem outKey_inKey {n : Int} (h : -9223372036854775808 ≤ n) : outKey (inKey n) = n := by unfold inKey outKey; omega
theorem inKey_le {n m : Int} (h1 : -9223372036854775808 ≤ n) (h : n < m) : inKey n < inKey m := by unfold inKey; omega

theorem out_walk {v : Nat} (h : v < 18446744073709551616) : wrap64 (bits BinOp.xor IntKind.u64 (v : Int) 9223372036854775808) = outKey v := by
  have h1 := bits_xor_u64_nat v 9223372036854775808 h (by omega)
  have h2 : ((9223372036854775808 : Nat) : Int) = 9223372036854775808 := rfl
  rw [h2] at h1
  rw [h1]
  unfold wrap64 outKey
  rcases Nat.lt_or_ge v 9223372036854775808 with h3 | h3
  · rw [xor_top h3]; omega
  · rw [xor_top' h3 h]; omega
theorem in_walk {n : Int} (h1 : -9223372036854775808 ≤ n) (h2 : n ≤ 9223372036854775807) : bits BinOp.xor IntKind.u64 (IntKind.u64.wrap n) 9223372036854775808 = (inKey n : Int) := by
  have h3 : IntKind.u64.wrap n = ((n % 18446744073709551616).toNat : Int) := by
    rw [IntKind.wrap_u64]; omega
  have h4 := bits_xor_u64_nat (n % 18446744073709551616).toNat 9223372036854775808 (by omega) (by omega)
  have h5 : ((9223372036854775808 : Nat) : Int) = 9223372036854775808 := rfl
  rw [h5] at h4
  rw [h3, h4]
  unfold inKey
  rcases Nat.lt_or_ge (n % 18446744073709551616).toNat 9223372036854775808 with h6 | h6
  · rw [xor_top h6]; omega
  · rw [xor_top' h6 (by omega)]; omega
theorem or_walk {v c : Nat} (hv : v < 72057594037927936) (hc : c < 256) : bits BinOp.or IntKind.u64 (IntKind.u64.wrap ((v : Int) * 256)) (c : Int) = ((v * 256 + c : Nat) : Int) := by
  have h3 : IntKind.u64.wrap ((v : Int) * 256) = ((v * 256 : Nat) : Int) := by
    rw [IntKind.wrap_u64]; omega
  rw [h3, bits_or_u64_nat (v * 256) c (by omega) (by omega)]
  have := Nat.two_pow_add_eq_or_of_lt (i := 8) (b := c) hc v
  rw [show (2 : Nat) ^ 8 * v = v * 256 from by rw [Nat.mul_comm]] at this
  rw [this]
theorem add_walk {v c : Nat} (hv : v < 72057594037927936) (hc : c < 256) : IntKind.u64.wrap (IntKind.u64.wrap ((v : Int) * 256) + (c : Int)) = ((v * 256 + c : Nat) : Int) := by
  have h3 : IntKind.u64.wrap ((v : Int) * 256) = ((v * 256 : Nat) : Int) := by
    rw [IntKind.wrap_u64]; omega
  rw [h3, IntKind.wrap_u64]
  omega
/-- A number below 2^64 as eight bytes, the highest first. -/
def be8 (u : Nat) : List UInt8 :=
  [UInt8.ofNat (u / 72057594037927936), UInt8.ofNat (u / 281474976710656), UInt8.ofNat (u / 1099511627776), UInt8.ofNat (u / 4294967296),
   UInt8.ofNat (u / 16777216), UInt8.ofNat (u / 65536), UInt8.ofNat (u / 256), UInt8.ofNat u]
theorem be8_length (u : Nat) : (be8 u).length = 8 := rfl
theorem byte_of (u k : Nat) : ((UInt8.ofNat (u / k)).toNat : Int) = (u : Int) / (k : Int) % 256 := by
  rw [UInt8.toNat_ofNat', Int.natCast_emod, Int.natCast_ediv]
  rfl
theorem byte_of1 (u : Nat) : ((UInt8.ofNat u).toNat : Int) = (u : Int) % 256 := by
  rw [UInt8.toNat_ofNat', Int.natCast_emod]
  rfl
theorem num_be8 {u : Nat} (h : u < 18446744073709551616) : num (be8 u) = u := by
  simp only [num, be8, List.foldl_cons, List.foldl_nil, UInt8.toNat_ofNat']
  omega
theorem num_lt7 {l : List UInt8} (h : l.length ≤ 7) : num l < 72057594037927936 := num_lt_of (k := 7) h
theorem num_lt8 {l : List UInt8} (h : l.length ≤ 8) : num l < 18446744073709551616 := num_lt_of (k := 8) h

end Go.Proofs.YtbbgdbnjmonbgabGreatDoor

set_option linter.unusedVariables false
set_option maxRecDepth 100000
namespace Go.Proofs.YtbbgdbnjmonbgabGreatDoor
open Go.Lib (compareBytes)

theorem cmp_drop {l m : List UInt8} {k : Nat} (hl : k < l.length) (hm : k < m.length) :
    compareBytes (l.drop k) (m.drop k) = if l[k] < m[k] then -1 else if m[k] < l[k] then 1 else compareBytes (l.drop (k + 1)) (m.drop (k + 1)) := by
  rw [List.drop_eq_getElem_cons hl, List.drop_eq_getElem_cons hm]
  rfl
theorem cmp_lt {l m : List UInt8} {k : Nat} (hl : k < l.length) (hm : k < m.length) (h : (l[k].toNat : Int) < (m[k].toNat : Int)) : compareBytes (l.drop k) (m.drop k) = -1 := by
  rw [cmp_drop hl hm, if_pos (by rw [UInt8.lt_iff_toNat_lt]; omega)]
theorem cmp_gt {l m : List UInt8} {k : Nat} (hl : k < l.length) (hm : k < m.length) (h : (m[k].toNat : Int) < (l[k].toNat : Int)) : compareBytes (l.drop k) (m.drop k) = 1 := by
  rw [cmp_drop hl hm, if_neg (by rw [UInt8.lt_iff_toNat_lt]; omega), if_pos (by rw [UInt8.lt_iff_toNat_lt]; omega)]
theorem cmp_eq {l m : List UInt8} {k : Nat} (hl : k < l.length) (hm : k < m.length) (h : l[k].toNat = m[k].toNat) : compareBytes (l.drop k) (m.drop k) = compareBytes (l.drop (k + 1)) (m.drop (k + 1)) := by
  rw [cmp_drop hl hm, if_neg (by rw [UInt8.lt_iff_toNat_lt]; omega), if_neg (by rw [UInt8.lt_iff_toNat_lt]; omega)]
theorem cmp_nil_nil : compareBytes [] [] = 0 := rfl
theorem cmp_end {l m : List UInt8} {k : Nat} (h : l.length ≤ k ∨ m.length ≤ k) (hkl : k ≤ l.length) (hkm : k ≤ m.length) :
    compareBytes (l.drop k) (m.drop k) = if l.length < m.length then -1 else if m.length < l.length then 1 else 0 := by
  rcases Nat.lt_or_ge k l.length with h1 | h1
  · rw [show m.drop k = [] from List.drop_eq_nil_of_le (by omega), List.drop_eq_getElem_cons h1, if_neg (by omega), if_pos (by omega)]
    rfl
  · rw [show l.drop k = [] from List.drop_eq_nil_of_le h1]
    rcases Nat.lt_or_ge k m.length with h2 | h2
    · rw [List.drop_eq_getElem_cons h2, if_pos (by omega)]
      rfl
    · rw [show m.drop k = [] from List.drop_eq_nil_of_le h2, if_neg (by omega), if_neg (by omega)]
      rfl

/-- How many bytes are left of the first n, without the bytes ff at their end. -/
def cutN (l : List UInt8) : Nat → Nat
  | 0 => 0
  | n + 1 => if l.getD n 0 = 255 then cutN l n else n + 1
theorem cutN_le (l : List UInt8) : ∀ n, cutN l n ≤ n
  | 0 => Nat.le_refl _
  | n + 1 => by
    unfold cutN
    split
    · exact Nat.le_succ_of_le (cutN_le l n)
    · exact Nat.le_refl _
theorem cutN_ff {l : List UInt8} : ∀ {n i : Nat}, cutN l n ≤ i → i < n → l.getD i 0 = 255
  | 0, i, _, h => absurd h (Nat.not_lt_zero _)
  | n + 1, i, h1, h2 => by
    unfold cutN at h1
    split at h1
    · rename_i h
      rcases Nat.lt_or_ge i n with h3 | h3
      · exact cutN_ff h1 h3
      · obtain rfl : i = n := by omega
        exact h
    · omega
theorem cutN_last {l : List UInt8} : ∀ {n j : Nat}, cutN l n = j + 1 → l.getD j 0 ≠ 255
  | 0, j, h => by cases h
  | n + 1, j, h => by
    unfold cutN at h
    split at h
    · exact cutN_last h
    · rename_i hne
      obtain rfl : n = j := by omega
      exact hne
theorem cutN_yes {l : List UInt8} {n : Nat} (h : l.getD n 0 = 255) : cutN l (n + 1) = cutN l n := by
  show (if l.getD n 0 = 255 then cutN l n else n + 1) = _
  rw [if_pos h]
theorem cutN_no {l : List UInt8} {n : Nat} (h : l.getD n 0 ≠ 255) : cutN l (n + 1) = n + 1 := by
  show (if l.getD n 0 = 255 then cutN l n else n + 1) = _
  rw [if_neg h]
/-- What is above all that begin with l; nothing, where all bytes are ff. -/
def aft (l : List UInt8) : List UInt8 :=
  match cutN l l.length with
  | 0 => []
  | j + 1 => (l.take (j + 1)).set j (l.getD j 0 + 1)
def aftOk (l : List UInt8) : Bool := match cutN l l.length with | 0 => false | _ + 1 => true
theorem aft_zero {l : List UInt8} (h : cutN l l.length = 0) : aft l = [] ∧ aftOk l = false := by unfold aft aftOk; rw [h]; exact ⟨rfl, rfl⟩
theorem aft_succ {l : List UInt8} {j : Nat} (h : cutN l l.length = j + 1) : aft l = (l.take (j + 1)).set j (l.getD j 0 + 1) ∧ aftOk l = true := by unfold aft aftOk; rw [h]; exact ⟨rfl, rfl⟩

/-! ### what is above all that begin so -/

theorem cmp_common : ∀ (p x y : List UInt8), compareBytes (p ++ x) (p ++ y) = compareBytes x y
  | [], _, _ => rfl
  | c :: p, x, y => by
    show (if c < c then -1 else if c < c then 1 else compareBytes (p ++ x) (p ++ y)) = _
    rw [if_neg (UInt8.lt_irrefl c), if_neg (UInt8.lt_irrefl c)]
    exact cmp_common p x y
theorem cmp_cons_lt {c d : UInt8} (x y : List UInt8) (h : c < d) : compareBytes (c :: x) (d :: y) = -1 := by
  show (if c < d then (-1 : Int) else _) = _
  rw [if_pos h]
theorem cmp_cons_gt {c d : UInt8} (x y : List UInt8) (h : d < c) : compareBytes (c :: x) (d :: y) = 1 := by
  show (if c < d then (-1 : Int) else if d < c then 1 else _) = _
  rw [if_neg (by rw [UInt8.lt_iff_toNat_lt] at *; omega), if_pos h]
theorem cmp_cons_eq (c : UInt8) (x y : List UInt8) : compareBytes (c :: x) (c :: y) = compareBytes x y := cmp_common [c] x y

/-- What begins with bytes that are all ff is all that is not below them. -/
theorem ff_begins : ∀ (r x : List UInt8), (∀ u ∈ r, u = 255) → 0 ≤ compareBytes x r → r <+: x
  | [], x, _, _ => List.nil_prefix
  | c :: r, [], _, h => by
    have : compareBytes [] (c :: r) = -1 := rfl
    omega
  | c :: r, d :: x, hr, h => by
    have hc : c = 255 := hr c (List.mem_cons_self ..)
    subst hc
    rcases Nat.lt_trichotomy d.toNat 255 with h1 | h1 | h1
    · rw [cmp_cons_lt x r (by rw [UInt8.lt_iff_toNat_lt]; exact h1)] at h
      omega
    · have hd : d = 255 := by rw [← UInt8.toNat_inj]; exact h1
      subst hd
      rw [cmp_cons_eq] at h
      have := ff_begins r x (fun u hu => hr u (List.mem_cons_of_mem _ hu)) h
      exact List.cons_prefix_cons.2 ⟨rfl, this⟩
    · have := d.toNat_lt
      omega

theorem above_all : ∀ (p : List UInt8) (c : UInt8) (r x : List UInt8), (∀ u ∈ r, u = 255) → c ≠ 255 → 0 ≤ compareBytes x (p ++ c :: r) → ¬ (p ++ c :: r) <+: x → 0 ≤ compareBytes x (p ++ [c + 1])
  | [], c, r, [], _, _, h, _ => by
    have : compareBytes [] ([] ++ c :: r) = -1 := rfl
    omega
  | [], c, r, d :: x, hr, hc, h, hx => by
    simp only [List.nil_append] at *
    have hc' : c.toNat ≠ 255 := fun h => hc (by rw [← UInt8.toNat_inj]; exact h)
    have h255 := c.toNat_lt
    have hs : (c + 1).toNat = c.toNat + 1 := by
      rw [UInt8.toNat_add]
      have h1 : (1 : UInt8).toNat = 1 := rfl
      rw [h1]
      omega
    rcases Nat.lt_trichotomy d.toNat c.toNat with h1 | h1 | h1
    · rw [cmp_cons_lt x r (by rw [UInt8.lt_iff_toNat_lt]; exact h1)] at h
      omega
    · have hd : d = c := by rw [← UInt8.toNat_inj]; exact h1
      subst hd
      rw [cmp_cons_eq] at h
      exact absurd (List.cons_prefix_cons.2 ⟨rfl, ff_begins r x hr h⟩) hx
    · rcases Nat.lt_or_ge (c + 1).toNat d.toNat with h2 | h2
      · rw [cmp_cons_gt x [] (by rw [UInt8.lt_iff_toNat_lt]; exact h2)]
        decide
      · have hd : d = c + 1 := by rw [← UInt8.toNat_inj]; omega
        subst hd
        rw [cmp_cons_eq]
        cases x with
        | nil => decide
        | cons e x => show (0 : Int) ≤ 1; decide
  | e :: p, c, r, [], _, _, h, _ => by
    have : compareBytes [] (e :: p ++ c :: r) = -1 := rfl
    omega
  | e :: p, c, r, d :: x, hr, hc, h, hx => by
    simp only [List.cons_append] at *
    rcases Nat.lt_trichotomy d.toNat e.toNat with h1 | h1 | h1
    · rw [cmp_cons_lt _ _ (by rw [UInt8.lt_iff_toNat_lt]; exact h1)] at h
      omega
    · have hd : d = e := by rw [← UInt8.toNat_inj]; exact h1
      subst hd
      rw [cmp_cons_eq] at h ⊢
      exact above_all p c r x hr hc h (fun hh => hx (List.cons_prefix_cons.2 ⟨rfl, hh⟩))
    · rw [cmp_cons_gt _ _ (by rw [UInt8.lt_iff_toNat_lt]; exact h1)]
      decide

/-- l, taken apart at the last byte that is not ff. -/
theorem aft_parts {l : List UInt8} (h : aftOk l = true) : ∃ p c r, l = p ++ c :: r ∧ (∀ u ∈ r, u = 255) ∧ c ≠ 255 ∧ aft l = p ++ [c + 1] := by
  unfold aftOk at h
  have hle := cutN_le l l.length
  cases hj : cutN l l.length with
  | zero => rw [hj] at h; cases h
  | succ j =>
    have hlj : j < l.length := by omega
    have hg : l.getD j 0 = l[j] := by simp [List.getD, hlj]
    refine ⟨l.take j, l[j], l.drop (j + 1), ?_, ?_, ?_, ?_⟩
    · rw [← List.drop_eq_getElem_cons hlj, List.take_append_drop]
    · intro u hu
      obtain ⟨i, hi, rfl⟩ := List.mem_iff_getElem.1 hu
      rw [List.getElem_drop]
      have hi' : j + 1 + i < l.length := by simp at hi; omega
      have := cutN_ff (l := l) (n := l.length) (i := j + 1 + i) (by omega) hi'
      simpa [List.getD, hi'] using this
    · have := cutN_last hj
      rwa [hg] at this
    · rw [(aft_succ hj).1, hg, List.take_add_one, List.getElem?_eq_getElem hlj]
      simp only [Option.toList_some]
      rw [List.set_append_right _ _ (by simp; omega)]
      have : (l.take j).length = j := by simp; omega
      rw [this, Nat.sub_self]
      rfl

theorem aft_above {l : List UInt8} (more : List UInt8) (h : aftOk l = true) : compareBytes (l ++ more) (aft l) = -1 := by
  obtain ⟨p, c, r, rfl, _, hc, ha⟩ := aft_parts h
  have hc' : c.toNat ≠ 255 := fun h => hc (by rw [← UInt8.toNat_inj]; exact h)
  have h255 := c.toNat_lt
  rw [ha, List.append_assoc, cmp_common, List.cons_append]
  refine cmp_cons_lt _ _ ?_
  rw [UInt8.lt_iff_toNat_lt, UInt8.toNat_add]
  have h1 : (1 : UInt8).toNat = 1 := rfl
  rw [h1]
  omega
theorem aft_length {l : List UInt8} (h : aftOk l = true) : 0 < (aft l).length ∧ (aft l).length ≤ l.length := by
  obtain ⟨p, c, r, rfl, _, _, ha⟩ := aft_parts h
  rw [ha]
  simp
theorem aft_least {l x : List UInt8} (h : aftOk l = true) (hx : 0 ≤ compareBytes x l) (hn : ¬ (l.length ≤ x.length ∧ x.take l.length = l)) : 0 ≤ compareBytes x (aft l) := by
  obtain ⟨p, c, r, hl, hr, hc, ha⟩ := aft_parts h
  rw [ha]
  rw [hl] at hx
  refine above_all p c r x hr hc hx (fun hp => hn ?_)
  rw [← hl] at hp
  exact ⟨hp.length_le, (List.prefix_iff_eq_take.1 hp).symm⟩
theorem aft_none {l : List UInt8} (h : aftOk l = false) : cutN l l.length = 0 := by
  unfold aftOk at h
  cases hj : cutN l l.length with
  | zero => rfl
  | succ j => rw [hj] at h; cases h
theorem aft_none_ff {l : List UInt8} (h : aftOk l = false) {i : Nat} (hi : i < l.length) : l[i] = 255 := by
  have := cutN_ff (l := l) (n := l.length) (i := i) (by rw [aft_none h]; omega) hi
  simpa [List.getD, hi] using this

end Go.Proofs.YtbbgdbnjmonbgabGreatDoor

namespace Go.Proofs.YtbbgdbnjmonbgabGreatDoor

/-- Where the first zero byte stands; the length, where there is none. -/
def fz : List UInt8 → Nat
  | [] => 0
  | c :: r => if c = 0 then 0 else fz r + 1
theorem fz_le : ∀ l : List UInt8, fz l ≤ l.length
  | [] => Nat.le_refl _
  | c :: r => by
    unfold fz
    split
    · exact Nat.zero_le _
    · have := fz_le r
      simp only [List.length_cons]
      omega
theorem fz_ne : ∀ {l : List UInt8} {i : Nat} (hi : i < l.length), i < fz l → l[i] ≠ 0
  | [], i, hi, _ => absurd hi (Nat.not_lt_zero _)
  | c :: r, i, hi, h => by
    unfold fz at h
    split at h
    · exact absurd h (Nat.not_lt_zero _)
    · rename_i hc
      cases i with
      | zero => exact hc
      | succ i =>
        simp only [List.length_cons] at hi
        exact fz_ne (l := r) (by omega) (by omega)
theorem fz_eq : ∀ {l : List UInt8} (hi : fz l < l.length), l[fz l] = 0
  | [], hi => absurd hi (Nat.not_lt_zero _)
  | c :: r, hi => by
    by_cases hc : c = 0
    · subst hc
      rfl
    · have h1 : fz (c :: r) = fz r + 1 := by
        show (if c = 0 then 0 else fz r + 1) = _
        rw [if_neg hc]
      have h2 : fz r < r.length := by
        rw [h1] at hi
        simp only [List.length_cons] at hi
        omega
      simp only [h1, List.getElem_cons_succ]
      exact fz_eq h2
theorem fz_up {l : List UInt8} {j : Nat} (hj : j ≤ fz l) (hl : j < l.length) (h : l[j] ≠ 0) : j + 1 ≤ fz l := by
  rcases Nat.lt_or_ge j (fz l) with h1 | h1
  · exact h1
  · obtain rfl : j = fz l := by omega
    exact absurd (fz_eq hl) h
theorem fz_here {l : List UInt8} {j : Nat} (hj : j ≤ fz l) (hl : j < l.length) (h : l[j] = 0) : j = fz l := by
  rcases Nat.lt_or_ge j (fz l) with h1 | h1
  · exact absurd h (fz_ne hl h1)
  · omega

/-- A text's bytes, each zero followed by ff. -/
def esc : List UInt8 → List UInt8
  | [] => []
  | c :: r => if c = 0 then 0 :: 255 :: esc r else c :: esc r
theorem esc_append (l m : List UInt8) : esc (l ++ m) = esc l ++ esc m := by
  induction l with
  | nil => rfl
  | cons c r ih =>
    simp only [List.cons_append, esc, ih]
    split <;> rfl
theorem esc_length (l : List UInt8) : (esc l).length ≤ 2 * l.length := by
  induction l with
  | nil => exact Nat.le_refl _
  | cons c r ih =>
    simp only [esc]
    split <;> simp only [List.length_cons] <;> omega
theorem esc_ge (l : List UInt8) : l.length ≤ (esc l).length := by
  induction l with
  | nil => exact Nat.le_refl _
  | cons c r ih =>
    simp only [esc]
    split <;> simp only [List.length_cons] <;> omega
theorem esc_take {l : List UInt8} {j : Nat} (h : j < l.length) : esc (l.take (j + 1)) = esc (l.take j) ++ if l[j] = 0 then [0, 255] else [l[j]] := by
  rw [List.take_succ_eq_append_getElem h, esc_append]
  simp only [esc]
/-- A text, as it is put. -/
def txt (l : List UInt8) : List UInt8 := esc l ++ [0, 1]

/-- Bytes read as a text, with what was read before (acc, pos): the error (0: none), the text, how many bytes. -/
def rdA (acc : List UInt8) (pos : Nat) : List UInt8 → Int × List UInt8 × Nat
  | [] => (10, [], 0)
  | [c] => if c = 0 then (10, [], 0) else (10, [], 0)
  | c :: d :: r => if c = 0 then (if d = 1 then (0, acc, pos + 2) else if d = 255 then rdA (acc ++ [0]) (pos + 2) r else (11, [], 0)) else rdA (acc ++ [c]) (pos + 1) (d :: r)
def rdT (l : List UInt8) : Int × List UInt8 × Nat := rdA [] 0 l

theorem rdA_nil (acc : List UInt8) (pos : Nat) : rdA acc pos [] = (10, [], 0) := rfl
theorem rdA_one (acc : List UInt8) (pos : Nat) (c : UInt8) : rdA acc pos [c] = (10, [], 0) := by
  show (if c = 0 then _ else _) = _
  split <;> rfl
theorem rdA_cons (acc : List UInt8) (pos : Nat) {c : UInt8} (r : List UInt8) (h : c ≠ 0) : rdA acc pos (c :: r) = rdA (acc ++ [c]) (pos + 1) r := by
  cases r with
  | nil => rw [rdA_one, rdA_nil]
  | cons d r =>
    show (if c = 0 then _ else _) = _
    rw [if_neg h]
theorem rdA_end (acc : List UInt8) (pos : Nat) (r : List UInt8) : rdA acc pos (0 :: 1 :: r) = (0, acc, pos + 2) := rfl
theorem rdA_zero (acc : List UInt8) (pos : Nat) (r : List UInt8) : rdA acc pos (0 :: 255 :: r) = rdA (acc ++ [0]) (pos + 2) r := rfl
theorem rdA_form (acc : List UInt8) (pos : Nat) {d : UInt8} (r : List UInt8) (h1 : d ≠ 1) (h2 : d ≠ 255) : rdA acc pos (0 :: d :: r) = (11, [], 0) := by
  show (if (0 : UInt8) = 0 then (if d = 1 then _ else if d = 255 then _ else _) else _) = _
  rw [if_pos rfl, if_neg h1, if_neg h2]
/-- All that stands before the first zero is text. -/
theorem rdA_upto : ∀ (l acc : List UInt8) (pos : Nat), rdA acc pos l = rdA (acc ++ l.take (fz l)) (pos + fz l) (l.drop (fz l))
  | [], acc, pos => by simp [fz]
  | c :: r, acc, pos => by
    by_cases hc : c = 0
    · simp [fz, hc]
    · rw [rdA_cons acc pos r hc, rdA_upto r]
      simp only [fz, if_neg hc, List.take_succ_cons, List.drop_succ_cons, List.append_assoc, List.singleton_append]
      rw [show pos + 1 + fz r = pos + (fz r + 1) from by omega]
theorem rdA_none {l : List UInt8} (acc : List UInt8) (pos : Nat) (h : l.length ≤ fz l + 1) : rdA acc pos l = (10, [], 0) := by
  have := fz_le l
  rw [rdA_upto]
  have h2 : (l.drop (fz l)).length ≤ 1 := by simp; omega
  match hd : l.drop (fz l), h2 with
  | [], _ => rfl
  | [c], _ => exact rdA_one _ _ c

/-! ### what is put is read; what is read is put so -/

theorem rdA_txt : ∀ (t acc : List UInt8) (pos : Nat) (more : List UInt8), rdA acc pos (esc t ++ (0 :: 1 :: more)) = (0, acc ++ t, pos + (esc t).length + 2)
  | [], acc, pos, more => by simp [esc, rdA_end]
  | c :: t, acc, pos, more => by
    by_cases hc : c = 0
    · subst hc
      have h : esc (0 :: t) = 0 :: 255 :: esc t := rfl
      rw [h, List.cons_append, List.cons_append, rdA_zero, rdA_txt t]
      simp only [List.append_assoc, List.singleton_append, List.length_cons]
      rw [show pos + 2 + (esc t).length + 2 = pos + ((esc t).length + 1 + 1) + 2 from by omega]
    · have h : esc (c :: t) = c :: esc t := by simp only [esc, if_neg hc]
      rw [h, List.cons_append, rdA_cons acc pos _ hc, rdA_txt t]
      simp only [List.append_assoc, List.singleton_append, List.length_cons]
      rw [show pos + 1 + (esc t).length + 2 = pos + ((esc t).length + 1) + 2 from by omega]
theorem rdA_cut : ∀ (t acc : List UInt8) (pos : Nat), rdA acc pos (esc t ++ [0]) = (10, [], 0)
  | [], acc, pos => rdA_one acc pos 0
  | c :: t, acc, pos => by
    by_cases hc : c = 0
    · subst hc
      have h : esc (0 :: t) = 0 :: 255 :: esc t := rfl
      rw [h, List.cons_append, List.cons_append, rdA_zero, rdA_cut t]
    · have h : esc (c :: t) = c :: esc t := by simp only [esc, if_neg hc]
      rw [h, List.cons_append, rdA_cons acc pos _ hc, rdA_cut t]
theorem txt_length (t : List UInt8) : (txt t).length = (esc t).length + 2 := by simp [txt]
theorem rdT_txt (t more : List UInt8) : rdT (txt t ++ more) = (0, t, (txt t).length) := by
  unfold rdT
  have h : txt t ++ more = esc t ++ (0 :: 1 :: more) := by simp [txt]
  rw [h, rdA_txt, txt_length]
  simp
theorem rdT_cut (t : List UInt8) : rdT ((txt t).take ((txt t).length - 1)) = (10, [], 0) := by
  unfold rdT
  have h : (txt t).take ((txt t).length - 1) = esc t ++ [0] := by
    rw [txt_length, show (esc t).length + 2 - 1 = (esc t).length + 1 from by omega, txt, List.take_length_add_append]
    rfl
  rw [h, rdA_cut]

theorem txt_cons_zero (t : List UInt8) : txt (0 :: t) = 0 :: 255 :: txt t := rfl
theorem txt_cons {c : UInt8} (t : List UInt8) (h : c ≠ 0) : txt (c :: t) = c :: txt t := by simp only [txt, esc, if_neg h, List.cons_append]

theorem rdA_sound : ∀ (n : Nat) (l acc : List UInt8) (pos : Nat), l.length ≤ n →
    ((rdA acc pos l).1 ≠ 0 ∧ (rdA acc pos l).2.1 = [] ∧ (rdA acc pos l).2.2 = 0) ∨
    ((rdA acc pos l).1 = 0 ∧ ∃ t m, (rdA acc pos l).2.1 = acc ++ t ∧ (rdA acc pos l).2.2 = pos + m ∧ 2 ≤ m ∧ m ≤ l.length ∧ txt t = l.take m)
  | _, [], acc, pos, _ => by rw [rdA_nil]; exact .inl ⟨by decide, rfl, rfl⟩
  | 0, c :: r, acc, pos, h => by simp at h
  | n + 1, [c], acc, pos, _ => by rw [rdA_one]; exact .inl ⟨by decide, rfl, rfl⟩
  | n + 1, c :: d :: r, acc, pos, h => by
    simp only [List.length_cons] at h
    by_cases hc : c = 0
    · subst hc
      by_cases h1 : d = 1
      · subst h1
        rw [rdA_end]
        exact .inr ⟨rfl, [], 2, by simp, rfl, by omega, by simp, rfl⟩
      · by_cases h2 : d = 255
        · subst h2
          rw [rdA_zero]
          rcases rdA_sound n r (acc ++ [0]) (pos + 2) (by omega) with h3 | ⟨h3, t, m, h4, h5, h6, h7, h8⟩
          · exact .inl h3
          · refine .inr ⟨h3, 0 :: t, m + 2, by rw [h4]; simp, by omega, by omega, by simp only [List.length_cons]; omega, ?_⟩
            rw [txt_cons_zero, h8]
            rfl
        · rw [rdA_form acc pos r h1 h2]
          exact .inl ⟨by decide, rfl, rfl⟩
    · rw [rdA_cons acc pos _ hc]
      rcases rdA_sound n (d :: r) (acc ++ [c]) (pos + 1) (by simp only [List.length_cons]; omega) with h3 | ⟨h3, t, m, h4, h5, h6, h7, h8⟩
      · exact .inl h3
      · refine .inr ⟨h3, c :: t, m + 1, by rw [h4]; simp, by omega, by omega, by simp only [List.length_cons] at h7 ⊢; omega, ?_⟩
        rw [txt_cons t hc, h8]
        rfl
theorem rdT_sound (l : List UInt8) : ((rdT l).1 ≠ 0 ∧ (rdT l).2.1 = [] ∧ (rdT l).2.2 = 0) ∨ ((rdT l).1 = 0 ∧ 2 ≤ (rdT l).2.2 ∧ (rdT l).2.2 ≤ l.length ∧ txt (rdT l).2.1 = l.take (rdT l).2.2) := by
  rcases rdA_sound l.length l [] 0 (Nat.le_refl _) with h | ⟨h3, t, m, h4, h5, h6, h7, h8⟩
  · exact .inl h
  · refine .inr ⟨h3, ?_⟩
    unfold rdT
    rw [h4, h5, Nat.zero_add, List.nil_append]
    exact ⟨h6, h7, h8⟩

end Go.Proofs.YtbbgdbnjmonbgabGreatDoor

namespace Go.Proofs.YtbbgdbnjmonbgabGreatDoor
open Go.Lib (compareBytes)

theorem cmp_self : ∀ l : List UInt8, compareBytes l l = 0
  | [] => rfl
  | c :: l => by rw [cmp_cons_eq]; exact cmp_self l
theorem cmp_nil_cons (d : UInt8) (t : List UInt8) : compareBytes [] (d :: t) = -1 := rfl
theorem cmp_cons_nil (c : UInt8) (t : List UInt8) : compareBytes (c :: t) [] = 1 := rfl
theorem cmp_zero : ∀ l m : List UInt8, compareBytes l m = 0 → l = m
  | [], [], _ => rfl
  | [], d :: t, h => by rw [cmp_nil_cons] at h; omega
  | c :: s, [], h => by rw [cmp_cons_nil] at h; omega
  | c :: s, d :: t, h => by
    rcases Nat.lt_trichotomy c.toNat d.toNat with h1 | h1 | h1
    · rw [cmp_cons_lt _ _ (by rw [UInt8.lt_iff_toNat_lt]; exact h1)] at h; omega
    · obtain rfl : c = d := by rw [← UInt8.toNat_inj]; exact h1
      rw [cmp_cons_eq] at h
      rw [cmp_zero s t h]
    · rw [cmp_cons_gt _ _ (by rw [UInt8.lt_iff_toNat_lt]; exact h1)] at h; omega
theorem cmp_neg : ∀ l m : List UInt8, compareBytes m l = -compareBytes l m
  | [], [] => rfl
  | [], d :: t => rfl
  | c :: s, [] => rfl
  | c :: s, d :: t => by
    rcases Nat.lt_trichotomy c.toNat d.toNat with h1 | h1 | h1
    · have h : c < d := by rw [UInt8.lt_iff_toNat_lt]; exact h1
      rw [cmp_cons_lt s t h, cmp_cons_gt t s h]
      rfl
    · obtain rfl : c = d := by rw [← UInt8.toNat_inj]; exact h1
      rw [cmp_cons_eq, cmp_cons_eq]
      exact cmp_neg s t
    · have h : d < c := by rw [UInt8.lt_iff_toNat_lt]; exact h1
      rw [cmp_cons_gt s t h, cmp_cons_lt t s h]
theorem cmp_three : ∀ l m : List UInt8, compareBytes l m = -1 ∨ compareBytes l m = 0 ∨ compareBytes l m = 1
  | [], [] => .inr (.inl rfl)
  | [], d :: t => .inl rfl
  | c :: s, [] => .inr (.inr rfl)
  | c :: s, d :: t => by
    rcases Nat.lt_trichotomy c.toNat d.toNat with h1 | h1 | h1
    · rw [cmp_cons_lt _ _ (by rw [UInt8.lt_iff_toNat_lt]; exact h1)]; exact .inl rfl
    · obtain rfl : c = d := by rw [← UInt8.toNat_inj]; exact h1
      rw [cmp_cons_eq]
      exact cmp_three s t
    · rw [cmp_cons_gt _ _ (by rw [UInt8.lt_iff_toNat_lt]; exact h1)]; exact .inr (.inr rfl)
/-- The model's order of texts. -/
theorem less_iff : ∀ l m : List UInt8, Op.bytesLess l m = decide (compareBytes l m = -1)
  | [], [] => by simp [Op.bytesLess, compareBytes]
  | [], d :: t => by simp [Op.bytesLess, compareBytes]
  | c :: s, [] => by simp [Op.bytesLess, compareBytes]
  | c :: s, d :: t => by
    rcases Nat.lt_trichotomy c.toNat d.toNat with h1 | h1 | h1
    · have h : c < d := by rw [UInt8.lt_iff_toNat_lt]; exact h1
      rw [cmp_cons_lt _ _ h]
      simp [Op.bytesLess, h]
    · obtain rfl : c = d := by rw [← UInt8.toNat_inj]; exact h1
      rw [cmp_cons_eq, ← less_iff s t]
      simp [Op.bytesLess, UInt8.lt_irrefl]
    · have h : d < c := by rw [UInt8.lt_iff_toNat_lt]; exact h1
      have h2 : ¬ c < d := by rw [UInt8.lt_iff_toNat_lt]; omega
      have h3 : ¬ c = d := by rw [← UInt8.toNat_inj]; omega
      rw [cmp_cons_gt _ _ h]
      simp [Op.bytesLess, h2, h3]

/-- Texts that are put are in the order of the texts, whatever stands behind. -/
theorem cmp_txt : ∀ (s t u v : List UInt8), s ≠ t → compareBytes (txt s ++ u) (txt t ++ v) = compareBytes s t
  | [], [], _, _, h => absurd rfl h
  | [], d :: t, u, v, _ => by
    by_cases hd : d = 0
    · subst hd
      rw [txt_cons_zero, cmp_nil_cons]
      exact (cmp_common [0] _ _).trans (cmp_cons_lt _ _ (by decide))
    · rw [txt_cons t hd, cmp_nil_cons]
      exact cmp_cons_lt _ _ (by
        rw [UInt8.lt_iff_toNat_lt]
        have : d.toNat ≠ 0 := fun h => hd (by rw [← UInt8.toNat_inj]; exact h)
        show 0 < d.toNat
        omega)
  | c :: s, [], u, v, _ => by
    by_cases hd : c = 0
    · subst hd
      rw [txt_cons_zero, cmp_cons_nil]
      exact (cmp_common [0] _ _).trans (cmp_cons_gt _ _ (by decide))
    · rw [txt_cons s hd, cmp_cons_nil]
      exact cmp_cons_gt _ _ (by
        rw [UInt8.lt_iff_toNat_lt]
        have : c.toNat ≠ 0 := fun h => hd (by rw [← UInt8.toNat_inj]; exact h)
        show 0 < c.toNat
        omega)
  | c :: s, d :: t, u, v, h => by
    have hz : ∀ x : UInt8, x ≠ 0 → 0 < x.toNat := fun x hx => by
      have : x.toNat ≠ 0 := fun h => hx (by rw [← UInt8.toNat_inj]; exact h)
      omega
    have first : ∀ (x : UInt8) (y w : List UInt8), ∃ r, txt (x :: y) ++ w = x :: r := fun x y w => by
      by_cases hx : x = 0
      · subst hx; exact ⟨_, rfl⟩
      · rw [txt_cons y hx]; exact ⟨_, rfl⟩
    rcases Nat.lt_trichotomy c.toNat d.toNat with h1 | h1 | h1
    · obtain ⟨r1, e1⟩ := first c s u
      obtain ⟨r2, e2⟩ := first d t v
      have hl : c < d := by rw [UInt8.lt_iff_toNat_lt]; exact h1
      rw [e1, e2, cmp_cons_lt _ _ hl, cmp_cons_lt _ _ hl]
    · obtain rfl : c = d := by rw [← UInt8.toNat_inj]; exact h1
      have hst : s ≠ t := fun e => h (by rw [e])
      rw [cmp_cons_eq]
      by_cases hc : c = 0
      · subst hc
        rw [txt_cons_zero, txt_cons_zero]
        exact (cmp_common [0, 255] _ _).trans (cmp_txt s t u v hst)
      · rw [txt_cons s hc, txt_cons t hc]
        exact (cmp_common [c] _ _).trans (cmp_txt s t u v hst)
    · obtain ⟨r1, e1⟩ := first c s u
      obtain ⟨r2, e2⟩ := first d t v
      have hl : d < c := by rw [UInt8.lt_iff_toNat_lt]; exact h1
      rw [e1, e2, cmp_cons_gt _ _ hl, cmp_cons_gt _ _ hl]

/-- Bytes as long as others, of which they are the lesser number, are below them, whatever stands behind. -/
theorem cmp_num : ∀ (l m u v : List UInt8), l.length = m.length → num l < num m → compareBytes (l ++ u) (m ++ v) = -1
  | [], [], _, _, _, h => absurd h (Nat.lt_irrefl _)
  | [], _ :: _, _, _, h, _ => by cases h
  | _ :: _, [], _, _, h, _ => by cases h
  | c :: s, d :: t, u, v, hl, h => by
    simp only [List.length_cons, Nat.add_right_cancel_iff] at hl
    have key : ∀ (x : UInt8) (y : List UInt8), num (x :: y) = x.toNat * 256 ^ y.length + num y := by
      intro x y
      have gen : ∀ (y : List UInt8) (a : Nat), y.foldl (fun u (c : UInt8) => u * 256 + c.toNat) a = a * 256 ^ y.length + num y := by
        intro y
        induction y with
        | nil => intro a; simp [num]
        | cons e y ih =>
          intro a
          simp only [num, List.foldl_cons, List.length_cons]
          rw [ih, ih (0 * 256 + e.toNat), Nat.pow_succ]
          rw [Nat.add_mul, Nat.zero_mul, Nat.zero_add, Nat.mul_assoc, Nat.mul_comm 256, Nat.add_assoc]
      have := gen y x.toNat
      simp only [num, List.foldl_cons, Nat.zero_mul, Nat.zero_add] at this ⊢
      exact this
    rw [key, key, ← hl] at h
    have h1 := num_lt s
    have h2 := num_lt t
    rw [← hl] at h2
    rcases Nat.lt_trichotomy c.toNat d.toNat with h3 | h3 | h3
    · exact cmp_cons_lt _ _ (by rw [UInt8.lt_iff_toNat_lt]; exact h3)
    · obtain rfl : c = d := by rw [← UInt8.toNat_inj]; exact h3
      have h4 : num s < num t := by omega
      exact (cmp_cons_eq c _ _).trans (cmp_num s t u v hl h4)
    · have h5 : (d.toNat + 1) * 256 ^ s.length ≤ c.toNat * 256 ^ s.length := Nat.mul_le_mul_right _ h3
      rw [Nat.add_mul, Nat.one_mul] at h5
      omega
theorem cmp_keys {n m : Int} (h1 : -9223372036854775808 ≤ n) (h2 : m ≤ 9223372036854775807) (h : n < m) (u v : List UInt8) : compareBytes (be8 (inKey n) ++ u) (be8 (inKey m) ++ v) = -1 := by
  have hk := inKey_le h1 h
  have hb := inKey_lt h2
  exact cmp_num _ _ u v rfl (by rw [num_be8 hb, num_be8 (by omega)]; exact hk)

end Go.Proofs.YtbbgdbnjmonbgabGreatDoor

