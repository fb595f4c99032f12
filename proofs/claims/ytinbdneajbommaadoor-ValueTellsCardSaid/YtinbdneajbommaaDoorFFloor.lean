/-
  floats.Floor and CompareInt: contracts for the walks; what Floor tells is a float, and the rest is from 0 to 2047.
-/
import Derived.Test.YtinbdneajbommaaDoorFWholeP
import Derived.Test.YtinbdneajbommaaDoorFLen
import Derived.Test.YtinbdneajbommaaDoorFKey
set_option linter.unusedVariables false
set_option maxRecDepth 100000
namespace Go.Proofs.YtinbdneajbommaaDoor
open Go.RowKit

/-- How many low digits a float has no room for. -/
def bey (n : Int) : Nat := Lib.bitLen n.natAbs - 53
def restI (n : Int) : Int := n % 2 ^ bey n

theorem bey_bd {n : Int} (h1 : -9223372036854775808 ≤ n) (h2 : n ≤ 9223372036854775807) : bey n ≤ 11 ∧ n.natAbs < 2 ^ (53 + bey n) := by
  obtain ⟨k1, k2, k3⟩ := len_size (x := n.natAbs) 64 (by omega) (by omega)
  unfold bey
  refine ⟨by omega, ?_⟩
  exact Nat.lt_of_lt_of_le k1 (Nat.pow_le_pow_right (by decide) (by omega))

theorem lowZ_q {m q b : Nat} (h : m = q * 2 ^ b) (hq : q ≤ 9007199254740992) : LowZ m := by
  rcases Nat.lt_or_ge q 9007199254740992 with h1 | h1
  · exact ⟨q, b, h, h1⟩
  · refine ⟨1, 53 + b, ?_, by omega⟩
    have h53 : (2 : Nat) ^ 53 = 9007199254740992 := by decide
    have : q = 9007199254740992 := by omega
    rw [h, this, Nat.one_mul, Nat.pow_add, h53]

theorem rest_facts {n : Int} (h1 : -9223372036854775808 ≤ n) (h2 : n ≤ 9223372036854775807) :
    0 ≤ restI n ∧ restI n ≤ 2047 ∧ LowZ (n - restI n).natAbs ∧ -9223372036854775808 ≤ n - restI n ∧ n - restI n ≤ 9223372036854775807 ∧ n - restI n ≤ n := by
  obtain ⟨hb, hlt⟩ := bey_bd h1 h2
  unfold restI
  generalize bey n = b at *
  have hpz : (0 : Int) < 2 ^ b := by
    have := Nat.two_pow_pos b
    exact_mod_cast this
  have hq : (n - n % 2 ^ b) = (n / 2 ^ b) * 2 ^ b := by
    have := Int.mul_ediv_add_emod n (2 ^ b)
    rw [Int.mul_comm]
    omega
  have hz : LowZ (n - n % 2 ^ b).natAbs := by
    rw [hq, Int.natAbs_mul]
    refine lowZ_q (q := (n / 2 ^ b).natAbs) (b := b) (by rw [Int.natAbs_pow]; rfl) ?_
    have h53 : (2 : Int) ^ 53 = 9007199254740992 := by decide
    have hlt' : (n.natAbs : Int) < 9007199254740992 * 2 ^ b := by
      rw [← h53, ← Int.pow_add]
      exact_mod_cast hlt
    have hlo : -9007199254740992 ≤ n / 2 ^ b := by
      rw [Int.le_ediv_iff_mul_le hpz]
      omega
    have hhi : n / 2 ^ b < 9007199254740992 := by
      rw [Int.ediv_lt_iff_lt_mul hpz]
      omega
    omega
  have hcases : b = 0 ∨ b = 1 ∨ b = 2 ∨ b = 3 ∨ b = 4 ∨ b = 5 ∨ b = 6 ∨ b = 7 ∨ b = 8 ∨ b = 9 ∨ b = 10 ∨ b = 11 := by omega
  refine ⟨Int.emod_nonneg _ (by omega), ?_, hz, ?_, ?_, ?_⟩
  all_goals
    clear hz hq hpz hlt
    rcases hcases with rfl | rfl | rfl | rfl | rfl | rfl | rfl | rfl | rfl | rfl | rfl | rfl <;> omega

theorem and_i64 {n : Int} {M b : Nat} (hM : M = 2 ^ b - 1) (hb : b ≤ 11) : bits BinOp.and IntKind.i64 n (M : Int) = n % 2 ^ b := by
  have hlt : M < 18446744073709551616 := by
    have : 2 ^ b ≤ 2 ^ 11 := Nat.pow_le_pow_right (by decide) hb
    omega
  have h1 : (BitVec.ofInt 64 n).toNat = (n % 18446744073709551616).toNat := by
    rw [BitVec.toNat_ofInt]
    rfl
  have h2 : (BitVec.ofInt 64 (M : Int)).toNat = M := by
    rw [BitVec.ofInt_natCast, BitVec.toNat_ofNat]
    exact Nat.mod_eq_of_lt hlt
  have h3 : bits BinOp.and IntKind.i64 n (M : Int) = IntKind.i64.wrap (((BitVec.ofInt 64 n &&& BitVec.ofInt 64 (M : Int)).toNat : Nat) : Int) := rfl
  rw [h3, BitVec.toNat_and, h1, h2, hM, Nat.and_two_pow_sub_one_eq_mod, IntKind.wrap_i64]
  have hcases : b = 0 ∨ b = 1 ∨ b = 2 ∨ b = 3 ∨ b = 4 ∨ b = 5 ∨ b = 6 ∨ b = 7 ∨ b = 8 ∨ b = 9 ∨ b = 10 ∨ b = 11 := by omega
  clear h1 h2 h3 hlt hM
  rcases hcases with rfl | rfl | rfl | rfl | rfl | rfl | rfl | rfl | rfl | rfl | rfl | rfl <;> omega

theorem mask_walk {l : Nat} (h : l ≤ 64) : wrap64 (wrap64 (2 ^ (max ((l : Int) - 53) 0).toNat) - 1) = ((2 ^ (l - 53) - 1 : Nat) : Int) := by
  have e : (max ((l : Int) - 53) 0).toNat = l - 53 := by omega
  rw [e]
  have hcases : l - 53 = 0 ∨ l - 53 = 1 ∨ l - 53 = 2 ∨ l - 53 = 3 ∨ l - 53 = 4 ∨ l - 53 = 5 ∨ l - 53 = 6 ∨ l - 53 = 7 ∨ l - 53 = 8 ∨ l - 53 = 9 ∨ l - 53 = 10 ∨ l - 53 = 11 := by omega
  generalize l - 53 = b at hcases ⊢
  rcases hcases with rfl | rfl | rfl | rfl | rfl | rfl | rfl | rfl | rfl | rfl | rfl | rfl <;> (unfold wrap64; omega)
theorem ret2_flt {a b : Nat} {x y : Int} (h : a = b) (h2 : x = y) : Ending.returned (.tuple #[.float .f64 a, .int .i64 x]) = .returned (.tuple #[.float .f64 b, .int .i64 y]) := by rw [h, h2]

set_option maxHeartbeats 1600000 in
theorem floor_any {w : World} (n : Int) (h1 : -9223372036854775808 ≤ n) (h2 : n ≤ 9223372036854775807) :
    Calls Tryd.prog 100 #[.int .i64 n] w fun e w' => e = .returned (.tuple #[.float .f64 (fltB (n - restI n)), .int .i64 (restI n)]) ∧ w = w' := by
  have hL := len64_any (w := w) (n.natAbs : Int) (by omega) (by omega)
  rw [Int.toNat_natCast] at hL
  have HL := Lib.hid hL
  have hl := len_le n.natAbs (by omega)
  have hrf := rest_facts h1 h2
  have hand : bits BinOp.and IntKind.i64 n (wrap64 (wrap64 (2 ^ (max ((Lib.bitLen n.natAbs : Int) - 53) 0).toNat) - 1)) = restI n := by
    rw [mask_walk hl]
    exact and_i64 rfl (bey_bd h1 h2).1
  have HA := Lib.hid hand
  have hsub : wrap64 (n - restI n) = n - restI n := IntWalk.wrap64_in _ (by omega)
  have HS := Lib.hid hsub
  clear hL hrf hand hsub
  generalize Lib.bitLen n.natAbs = l at *
  generalize hm : n - restI n = m at *
  generalize restI n = r at *
  have HM := Lib.hid hm
  clear hm
  by_cases hn : n < 0
  · have hn' : decide (n < 0) = true := decide_eq_true hn
    have hneg : IntKind.u64.wrap (-IntKind.u64.wrap n) = (n.natAbs : Int) := by
      rw [IntKind.wrap_u64, IntKind.wrap_u64]
      omega
    have HNEG := Lib.hid hneg
    clear hneg
    go_enter Tryd.func100, Tryd.ntmps100
    go_wp2_with fail
    rw [HNEG.out]
    refine HL.out.mono ?_; rintro e w' ⟨rfl, rfl⟩
    go_wp2
    go_ret2
    exact ⟨ret2_flt (by rw [HA.out, HM.out, HS.out]; rfl) HA.out, rfl⟩
  · have hn' : decide (n < 0) = false := decide_eq_false hn
    have hpos : n = (n.natAbs : Int) := by omega
    have HNEG := Lib.hid hpos
    clear hpos
    go_enter Tryd.func100, Tryd.ntmps100
    go_wp2_with fail
    have HL' := HL.out
    rw [← HNEG.out] at HL'
    have HL'' := Lib.hid HL'
    clear HL'
    refine HL''.out.mono ?_; rintro e w' ⟨rfl, rfl⟩
    go_wp2
    go_ret2
    exact ⟨ret2_flt (by rw [HA.out, HM.out, HS.out]; rfl) HA.out, rfl⟩

/-- What CompareInt tells. -/
def cmpN (n : Int) (u : Nat) : Int := if keyB (fltB (n - restI n)) = keyB u then cmpI (restI n) 0 else cmpI (keyB (fltB (n - restI n))) (keyB u)

set_option maxHeartbeats 400000 in
theorem cmpInt_any {w : World} (a b : Int) :
    Calls Tryd.prog 54 #[.int .i64 a, .int .i64 b] w fun e w' => e = .returned (.int .i64 (cmpI a b)) ∧ w = w' := by
  have HN : ∀ x : Int, Calls Tryd.prog 80 #[.int .i64 x] w fun e w' => e = .returned (.bool false) ∧ w = w' := by
    intro x
    go_enter Tryd.func80, Tryd.ntmps80
    go_wp2
    go_ret
    exact ⟨rfl, rfl⟩
  have HN := Lib.hid HN
  go_enter Tryd.func54, Tryd.ntmps54
  go_wp2_with (go_at_call 80; refine (HN.out _).mono ?_; rintro e w' ⟨rfl, rfl⟩)
  all_goals
    go_ret
    refine ⟨ret_int ?_, rfl⟩
    unfold cmpI
    repeat' split
    all_goals first | rfl | (exfalso; omega)

theorem cmpI_ne {a b : Int} (h : a ≠ b) : cmpI a b ≠ 0 := by
  unfold cmpI
  repeat' split
  all_goals omega
theorem flt_lt64 (n : Int) : fltB n < 18446744073709551616 := by
  have h := floatOfInt_wf .f64 n
  simp only [Lit.wf, decide_eq_true_eq] at h
  exact h

set_option maxHeartbeats 400000 in
theorem compareInt_any {w : World} (n : Int) (h1 : -9223372036854775808 ≤ n) (h2 : n ≤ 9223372036854775807) (u : Nat) (hu : u < 18446744073709551616) :
    Calls Tryd.prog 82 #[.int .i64 n, .float .f64 u] w fun e w' => e = .returned (.int .i64 (cmpN n u)) ∧ w = w' := by
  have HF := Lib.hid (floor_any (w := w) n h1 h2)
  have HC := Lib.hid (compare_any (w := w) (fltB (n - restI n)) u (flt_lt64 _) hu)
  have HI := Lib.hid (cmpInt_any (w := w) (restI n) 0)
  clear h1 h2 hu
  unfold cmpN
  generalize fltB (n - restI n) = f at *
  generalize restI n = r at *
  by_cases h : keyB f = keyB u
  · have HC' := HC.out
    rw [cmpI_zero (by omega)] at HC'
    have HC' := Lib.hid HC'
    rw [if_pos h]
    clear HC h
    generalize cmpI r 0 = s at *
    go_enter Tryd.func82, Tryd.ntmps82
    go_wp2_with fail
    refine HF.out.mono ?_; rintro e w' ⟨rfl, rfl⟩
    go_wp2_with fail
    refine HC'.out.mono ?_; rintro e w' ⟨rfl, rfl⟩
    go_wp2_with fail
    refine HI.out.mono ?_; rintro e w' ⟨rfl, rfl⟩
    go_wp2
    go_ret
    exact ⟨rfl, rfl⟩
  · have hne := cmpI_ne (a := keyB f) (b := keyB u) (by omega)
    have hne' : (cmpI (keyB f) (keyB u) != 0) = true := by simpa using hne
    rw [if_neg h]
    clear h hne HI
    generalize cmpI (keyB f) (keyB u) = c at *
    go_enter Tryd.func82, Tryd.ntmps82
    go_wp2_with fail
    refine HF.out.mono ?_; rintro e w' ⟨rfl, rfl⟩
    go_wp2_with fail
    refine HC.out.mono ?_; rintro e w' ⟨rfl, rfl⟩
    go_wp2
    go_ret
    exact ⟨rfl, rfl⟩

end Go.Proofs.YtinbdneajbommaaDoor
