/-
  math/bits.Len64: a contract for the walks; what the number of a number's bits says of its size.
-/
import Derived.Test.YtinbdneajbommaaDoorFCanon
import Derived.Lib.BitFns
import Derived.Lib.Walk
set_option linter.unusedVariables false
namespace Go.Proofs.YtinbdneajbommaaDoor
open Go.RowKit

theorem len_zero : Lib.bitLen 0 = 0 := by decide +kernel
theorem len_size {x : Nat} : ∀ k, x < 2 ^ k → k ≤ 64 → x < 2 ^ Lib.bitLen x ∧ Lib.bitLen x ≤ k ∧ (x ≠ 0 → 2 ^ Lib.bitLen x ≤ 2 * x) := by
  intro k
  induction k generalizing x with
  | zero =>
    intro h _
    obtain rfl : x = 0 := by simpa using h
    rw [len_zero]
    exact ⟨by omega, by omega, fun h => absurd rfl h⟩
  | succ k ih =>
    intro h hk
    by_cases h0 : x = 0
    · subst h0
      rw [len_zero]
      exact ⟨by omega, by omega, fun h => absurd rfl h⟩
    · have h64 : x < 2 ^ 64 := Nat.lt_of_lt_of_le h (Nat.pow_le_pow_right (by decide) hk)
      have hp : x / 2 < 2 ^ k := by rw [Nat.pow_succ] at h; omega
      obtain ⟨h1, h2, h3⟩ := ih hp (by omega)
      rw [Lib.bitLen_half x h0 h64, Nat.add_comm 1, Nat.pow_succ]
      refine ⟨by omega, by omega, fun _ => ?_⟩
      by_cases hx : x / 2 = 0
      · rw [hx, len_zero]
        simp
        omega
      · have := h3 hx
        omega

theorem tab_at (i : Int) (h : i.toNat < Lib.len8tab.size) : ((Lib.len8tab[i.toNat]'h).toNat : Int) = Lib.len8 i := by
  unfold Lib.len8
  rw [ByteArray.getElem?_lt' _ _ h]
  rfl
theorem len_le (n : Nat) (h : n < 18446744073709551616) : Lib.bitLen n ≤ 64 := (len_size (x := n) 64 h (by omega)).2.1
theorem len_up (k q n : Nat) (hq : Lib.bitLen n = k + Lib.bitLen q) (h8 : q < 256) (hn : Lib.bitLen n ≤ 64) : wrap64 ((k : Int) + wrap64 (Lib.len8 (q : Int))) = (Lib.bitLen n : Int) := by
  rw [Lib.len8_of (q : Int) (by omega) (by omega), Int.toNat_natCast, hq]
  rw [hq] at hn
  generalize Lib.bitLen q = b at hn ⊢
  rw [IntWalk.wrap64_in (b : Int) (by omega), IntWalk.wrap64_in _ (by omega)]
  omega
theorem len_up0 (n : Nat) (h8 : n < 256) (hn : Lib.bitLen n ≤ 64) : wrap64 (wrap64 (Lib.len8 (n : Int))) = (Lib.bitLen n : Int) := by
  rw [Lib.len8_of (n : Int) (by omega) (by omega), Int.toNat_natCast]
  generalize Lib.bitLen n = b at hn ⊢
  rw [IntWalk.wrap64_in (b : Int) (by omega), IntWalk.wrap64_in _ (by omega)]

set_option maxHeartbeats 4000000 in
set_option maxRecDepth 100000 in
theorem len64_any {w : World} (x : Int) (h0 : 0 ≤ x) (hx : x ≤ 18446744073709551615) :
    Calls Tryd.prog 114 #[.int .u64 x] w fun e w' => e = .returned (.int .i64 (Lib.bitLen x.toNat : Nat)) ∧ w = w' := by
  go_enter Tryd.func114, Tryd.ntmps114
  go_wp2
  all_goals first
    | (exfalso
       have hs := Lib.len8tab_size
       omega)
    | (go_ret
       refine ⟨ret_int ?_, rfl⟩
       rw [tab_at]
       have hl := len_le x.toNat (by omega)
       first
       | (rw [show x / 4294967296 / 65536 / 256 = ((x.toNat / 72057594037927936 : Nat) : Int) from by omega]; exact len_up 56 _ _ (Lib.bitLen_shift56 x.toNat (by omega) (by omega)) (by omega) hl)
       | (rw [show x / 4294967296 / 65536 = ((x.toNat / 281474976710656 : Nat) : Int) from by omega]; exact len_up 48 _ _ (Lib.bitLen_shift48 x.toNat (by omega) (by omega)) (by omega) hl)
       | (rw [show x / 4294967296 / 256 = ((x.toNat / 1099511627776 : Nat) : Int) from by omega]; exact len_up 40 _ _ (Lib.bitLen_shift40 x.toNat (by omega) (by omega)) (by omega) hl)
       | (rw [show x / 4294967296 = ((x.toNat / 4294967296 : Nat) : Int) from by omega]; exact len_up 32 _ _ (Lib.bitLen_shift32 x.toNat (by omega) (by omega)) (by omega) hl)
       | (rw [show x / 65536 / 256 = ((x.toNat / 16777216 : Nat) : Int) from by omega]; exact len_up 24 _ _ (Lib.bitLen_shift24 x.toNat (by omega) (by omega)) (by omega) hl)
       | (rw [show x / 65536 = ((x.toNat / 65536 : Nat) : Int) from by omega]; exact len_up 16 _ _ (Lib.bitLen_shift16 x.toNat (by omega) (by omega)) (by omega) hl)
       | (rw [show x / 256 = ((x.toNat / 256 : Nat) : Int) from by omega]; exact len_up 8 _ _ (Lib.bitLen_shift8 x.toNat (by omega) (by omega)) (by omega) hl)
       | (have := len_up0 x.toNat (by omega) hl
          rw [Int.toNat_of_nonneg h0] at this
          exact this))

end Go.Proofs.YtinbdneajbommaaDoor
