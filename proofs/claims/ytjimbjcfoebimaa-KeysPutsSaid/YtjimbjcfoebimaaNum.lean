/-
  Plain facts on numbers put as eight bytes, the highest first, with the sign turned.
-/
import Derived.Laws.Bits64
import Derived.Laws.Bits64b
import Derived.Lib.EndianBits
import Derived.IntWalk
import Derived.RowKit
namespace Go.Proofs.Ytjimbjcfoebimaa
open Go.RowKit

/-- The number that bytes are, the highest first. -/
def num (l : List UInt8) : Nat := l.foldl (fun u c => u * 256 + c.toNat) 0
theorem num_snoc (l : List UInt8) (c : UInt8) : num (l ++ [c]) = num l * 256 + c.toNat := by simp [num, List.foldl_append]
theorem num_take {l : List UInt8} {j : Nat} (h : j < l.length) : num (l.take (j + 1)) = num (l.take j) * 256 + l[j].toNat := by
  rw [List.take_succ_eq_append_getElem h, num_snoc]
theorem foldl_lt (l : List UInt8) : ∀ u k : Nat, u < 256 ^ k → l.foldl (fun u (c : UInt8) => u * 256 + c.toNat) u < 256 ^ (k + l.length) := by
  induction l with
  | nil => intro u k h; exact h
  | cons c l ih =>
    intro u k h
    have h2 := c.toNat_lt
    have h1 : u * 256 + c.toNat < 256 ^ (k + 1) := by
      rw [Nat.pow_succ]
      omega
    have := ih _ (k + 1) h1
    rw [List.foldl_cons, List.length_cons, show k + (l.length + 1) = k + 1 + l.length from by omega]
    exact this
theorem num_lt (l : List UInt8) : num l < 256 ^ l.length := by
  have := foldl_lt l 0 0 (by decide)
  rw [Nat.zero_add] at this
  exact this
theorem num_lt_of {l : List UInt8} {k : Nat} (h : l.length ≤ k) : num l < 256 ^ k := Nat.lt_of_lt_of_le (num_lt l) (Nat.pow_le_pow_right (by decide) h)

theorem pow63 : (2 : Nat) ^ 63 = 9223372036854775808 := by decide

theorem xor_top {v : Nat} (h : v < 9223372036854775808) : v ^^^ 9223372036854775808 = v + 9223372036854775808 := by
  have h1 := Nat.two_pow_add_eq_or_of_lt (i := 63) (b := v) (by rw [pow63]; exact h) 1
  rw [Nat.mul_one] at h1
  have h2 : v ^^^ 2 ^ 63 = 2 ^ 63 ||| v := by
    apply Nat.eq_of_testBit_eq
    intro i
    rw [Nat.testBit_xor, Nat.testBit_or, Nat.testBit_two_pow]
    by_cases hi : 63 = i
    · subst hi
      rw [Nat.testBit_lt_two_pow (by rw [pow63]; exact h)]
      simp
    · simp [hi]
  rw [← pow63, h2, ← h1, Nat.add_comm]
theorem xor_top' {v : Nat} (h : 9223372036854775808 ≤ v) (h2 : v < 18446744073709551616) : v ^^^ 9223372036854775808 = v - 9223372036854775808 := by
  have h1 := xor_top (v := v - 9223372036854775808) (by omega)
  have h3 : v - 9223372036854775808 + 9223372036854775808 = v := by omega
  rw [h3] at h1
  generalize v - 9223372036854775808 = r at h1 ⊢
  rw [← h1, Nat.xor_assoc, Nat.xor_self, Nat.xor_zero]

/-- The number that eight bytes are, as read: less 2^63. -/
def outKey (v : Nat) : Int := (v : Int) - 9223372036854775808
/-- A number of 64 bits as put: with 2^63 more. -/
def inKey (n : Int) : Nat := (n + 9223372036854775808).toNat
theorem inKey_lt {n : Int} (h : n ≤ 9223372036854775807) : inKey n < 18446744073709551616 := by unfold inKey; omega
theorem outKey_inKey {n : Int} (h : -9223372036854775808 ≤ n) : outKey (inKey n) = n := by unfold inKey outKey; omega
theorem inKey_le {n m : Int} (h1 : -9223372036854775808 ≤ n) (h : n < m) : inKey n < inKey m := by unfold inKey; omega

theorem out_walk {v : Nat} (h : v < 18446744073709551616) : wrap64 (bits BinOp.xor IntKind.u64 (v : Int) 9223372036854775808) = outKey v := by
  have h1 := bits_xor_u64_nat v 9223372036854775808 h (by omega)
  have h2 : ((9223372036854775808 : Nat) : Int) = 9223372036854775808 := rfl
  rw [h2] at h1
  rw [h1]
  unfold wrap64 outKey
  rcases Nat.lt_or_ge v 9223372036854775808 with h3 | h3
  · rw [xor_top h3]; omega
  · rw [xor_top' h3 h]; omega
theorem in_walk {n : Int} (h1 : -9223372036854775808 ≤ n) (h2 : n ≤ 9223372036854775807) : bits BinOp.xor IntKind.u64 (IntKind.u64.wrap n) 9223372036854775808 = (inKey n : Int) := by
  have h3 : IntKind.u64.wrap n = ((n % 18446744073709551616).toNat : Int) := by
    rw [IntKind.wrap_u64]; omega
  have h4 := bits_xor_u64_nat (n % 18446744073709551616).toNat 9223372036854775808 (by omega) (by omega)
  have h5 : ((9223372036854775808 : Nat) : Int) = 9223372036854775808 := rfl
  rw [h5] at h4
  rw [h3, h4]
  unfold inKey
  rcases Nat.lt_or_ge (n % 18446744073709551616).toNat 9223372036854775808 with h6 | h6
  · rw [xor_top h6]; omega
  · rw [xor_top' h6 (by omega)]; omega
theorem or_walk {v c : Nat} (hv : v < 72057594037927936) (hc : c < 256) : bits BinOp.or IntKind.u64 (IntKind.u64.wrap ((v : Int) * 256)) (c : Int) = ((v * 256 + c : Nat) : Int) := by
  have h3 : IntKind.u64.wrap ((v : Int) * 256) = ((v * 256 : Nat) : Int) := by
    rw [IntKind.wrap_u64]; omega
  rw [h3, bits_or_u64_nat (v * 256) c (by omega) (by omega)]
  have := Nat.two_pow_add_eq_or_of_lt (i := 8) (b := c) hc v
  rw [show (2 : Nat) ^ 8 * v = v * 256 from by rw [Nat.mul_comm]] at this
  rw [this]
theorem add_walk {v c : Nat} (hv : v < 72057594037927936) (hc : c < 256) : IntKind.u64.wrap (IntKind.u64.wrap ((v : Int) * 256) + (c : Int)) = ((v * 256 + c : Nat) : Int) := by
  have h3 : IntKind.u64.wrap ((v : Int) * 256) = ((v * 256 : Nat) : Int) := by
    rw [IntKind.wrap_u64]; omega
  rw [h3, IntKind.wrap_u64]
  omega
/-- A number below 2^64 as eight bytes, the highest first. -/
def be8 (u : Nat) : List UInt8 :=
  [UInt8.ofNat (u / 72057594037927936), UInt8.ofNat (u / 281474976710656), UInt8.ofNat (u / 1099511627776), UInt8.ofNat (u / 4294967296),
   UInt8.ofNat (u / 16777216), UInt8.ofNat (u / 65536), UInt8.ofNat (u / 256), UInt8.ofNat u]
theorem be8_length (u : Nat) : (be8 u).length = 8 := rfl
theorem byte_of (u k : Nat) : ((UInt8.ofNat (u / k)).toNat : Int) = (u : Int) / (k : Int) % 256 := by
  rw [UInt8.toNat_ofNat', Int.natCast_emod, Int.natCast_ediv]
  rfl
theorem byte_of1 (u : Nat) : ((UInt8.ofNat u).toNat : Int) = (u : Int) % 256 := by
  rw [UInt8.toNat_ofNat', Int.natCast_emod]
  rfl
theorem num_be8 {u : Nat} (h : u < 18446744073709551616) : num (be8 u) = u := by
  simp only [num, be8, List.foldl_cons, List.foldl_nil, UInt8.toNat_ofNat']
  omega
theorem num_lt7 {l : List UInt8} (h : l.length ≤ 7) : num l < 72057594037927936 := num_lt_of (k := 7) h
theorem num_lt8 {l : List UInt8} (h : l.length ≤ 8) : num l < 18446744073709551616 := num_lt_of (k := 8) h

end Go.Proofs.Ytjimbjcfoebimaa
