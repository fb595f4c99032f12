/-
  The reference's parts, Whole and CompareInt: contracts for the walks.
-/
import Derived.Test.YtinbdneajbommaaDoorFGap
import Derived.Test.YtinbdneajbommaaDoorFRefC
set_option linter.unusedVariables false
set_option maxRecDepth 100000
namespace Go.Proofs.YtinbdneajbommaaDoor
open Go.RowKit

/-- Is there more than the whole part? -/
def morB (u : Nat) : Bool := decide (whl u * U < mag u)
/-- What the reference's parts tell. -/
def parN (u : Nat) : Nat × Bool × Bool := if whl u < 18446744073709551616 then (whl u, morB u, false) else (0, false, true)

theorem whl_le (u : Nat) : whl u * U ≤ mag u := by
  unfold whl
  exact Nat.div_mul_le_self _ _
/-- A float by its digits and place. -/
def digM (u : Nat) : Nat := if u % 9223372036854775808 < 4503599627370496 then u % 4503599627370496 else u % 4503599627370496 + 4503599627370496
def digE (u : Nat) : Nat := if u % 9223372036854775808 < 4503599627370496 then 0 else u % 9223372036854775808 / 4503599627370496 - 1
theorem mag_dig (u : Nat) : mag u = digM u * 2 ^ digE u := by
  unfold mag siz digM digE
  by_cases h : u % 9223372036854775808 < 4503599627370496
  · rw [if_pos h, if_pos h, if_pos h, Nat.pow_zero, Nat.mul_one]
    omega
  · rw [if_neg h, if_neg h, if_neg h]
    congr 1
    omega
theorem digM_lt (u : Nat) : digM u < 9007199254740992 := by
  unfold digM
  split <;> omega
theorem digE_le {u : Nat} (h : isFin u) : digE u ≤ 2045 := by
  unfold isFin at h
  unfold digE
  split <;> omega
theorem digM_ge {u : Nat} (h : 0 < digE u) : 4503599627370496 ≤ digM u := by
  unfold digE at h
  unfold digM
  split at h
  · omega
  · rename_i h1
    rw [if_neg h1]
    omega

theorem parN_hi {u : Nat} (h : 1085 < digE u) : parN u = (0, false, true) := by
  have hg := digM_ge (u := u) (by omega)
  have hU := U_pos
  have key : 18446744073709551616 * U ≤ mag u := by
    rw [mag_dig]
    have hu := ue
    unfold U
    generalize UE = E at *
    have h64 : (2 : Nat) ^ 64 = 18446744073709551616 := by decide
    have h52 : (2 : Nat) ^ 52 = 4503599627370496 := by decide
    have a1 : 2 ^ 64 * 2 ^ E ≤ 2 ^ 52 * 2 ^ digE u := by
      rw [← Nat.pow_add, ← Nat.pow_add]
      exact Nat.pow_le_pow_right (by decide) (by omega)
    have a2 : 2 ^ 52 * 2 ^ digE u ≤ digM u * 2 ^ digE u := Nat.mul_le_mul_right _ (by rw [h52]; exact hg)
    rw [h64] at a1
    omega
  have hw : 18446744073709551616 ≤ whl u := by
    unfold whl
    rw [Nat.le_div_iff_mul_le hU]
    exact key
  unfold parN
  rw [if_neg (by omega)]
theorem parN_mid {u : Nat} (h1 : 1074 ≤ digE u) (h2 : digE u ≤ 1085) : parN u = (digM u * 2 ^ (digE u - 1074), false, false) ∧ digM u * 2 ^ (digE u - 1074) < 18446744073709551616 := by
  have hU := U_pos
  have hm := digM_lt u
  have hmag : mag u = digM u * 2 ^ (digE u - 1074) * U := by
    rw [mag_dig, Nat.mul_assoc]
    have hu := ue
    unfold U
    generalize UE = E at *
    rw [← Nat.pow_add]
    congr 2
    omega
  have hw : whl u = digM u * 2 ^ (digE u - 1074) := by
    unfold whl
    rw [hmag, Nat.mul_div_cancel _ hU]
  have hlt : digM u * 2 ^ (digE u - 1074) < 18446744073709551616 := by
    have h64 : 9007199254740992 * 2 ^ 11 = 18446744073709551616 := by decide
    have a1 : digM u * 2 ^ (digE u - 1074) < 9007199254740992 * 2 ^ (digE u - 1074) := Nat.mul_lt_mul_of_pos_right hm (Nat.two_pow_pos _)
    have a2 : 9007199254740992 * 2 ^ (digE u - 1074) ≤ 9007199254740992 * 2 ^ 11 := Nat.mul_le_mul_left _ (Nat.pow_le_pow_right (by decide) (by omega))
    omega
  have hmor : morB u = false := by
    unfold morB
    rw [hw, ← hmag]
    exact decide_eq_false (Nat.lt_irrefl _)
  unfold parN
  rw [hw, if_pos hlt, hmor]
  exact ⟨rfl, hlt⟩
theorem parN_lo {u : Nat} (h1 : digE u < 1074) : parN u = (digM u / 2 ^ (1074 - digE u), decide (0 < digM u % 2 ^ (1074 - digE u)), false) ∧ digM u / 2 ^ (1074 - digE u) < 18446744073709551616 := by
  have hU := U_pos
  have hm := digM_lt u
  have hpp := Nat.two_pow_pos (digE u)
  have hUe : U = 2 ^ digE u * 2 ^ (1074 - digE u) := by
    have hu := ue
    unfold U
    generalize UE = E at *
    rw [← Nat.pow_add]
    congr 1
    omega
  have hw : whl u = digM u / 2 ^ (1074 - digE u) := by
    unfold whl
    rw [mag_dig, hUe, ← Nat.div_div_eq_div_mul, Nat.mul_div_cancel _ hpp]
  have hlt : digM u / 2 ^ (1074 - digE u) < 18446744073709551616 := Nat.lt_of_le_of_lt (Nat.div_le_self _ _) (by omega)
  have hmor : morB u = decide (0 < digM u % 2 ^ (1074 - digE u)) := by
    unfold morB
    rw [hw, mag_dig, hUe]
    have hd := Nat.div_add_mod (digM u) (2 ^ (1074 - digE u))
    have e1 : digM u / 2 ^ (1074 - digE u) * (2 ^ digE u * 2 ^ (1074 - digE u)) = 2 ^ (1074 - digE u) * (digM u / 2 ^ (1074 - digE u)) * 2 ^ digE u := by
      rw [Nat.mul_comm (2 ^ digE u), ← Nat.mul_assoc, Nat.mul_comm (digM u / 2 ^ (1074 - digE u))]
    rw [e1, decide_eq_decide, Nat.mul_lt_mul_right hpp]
    omega
  unfold parN
  rw [hw, if_pos hlt, hmor]
  exact ⟨rfl, hlt⟩

theorem ret3_par {a b : Int} {x y p q : Bool} (h : a = b) (h2 : x = y) (h3 : p = q) : Ending.returned (.tuple #[.int .u64 a, .bool x, .bool p]) = .returned (.tuple #[.int .u64 b, .bool y, .bool q]) := by rw [h, h2, h3]
theorem lo_big {m k : Nat} (hm : m < 9007199254740992) (hk : 61 ≤ k) : m < 2 ^ k := by
  have h61 : (2 : Nat) ^ 53 = 9007199254740992 := by decide
  have : (2 : Nat) ^ 53 ≤ 2 ^ k := Nat.pow_le_pow_right (by decide) (by omega)
  omega
theorem lo_zero {m k : Nat} (hm : m < 9007199254740992) (hk : 61 ≤ k) : m / 2 ^ k = 0 := Nat.div_eq_of_lt (lo_big hm hk)
theorem lo_mod {m k : Nat} (hm : m < 9007199254740992) (hk : 61 ≤ k) : m % 2 ^ k = m := Nat.mod_eq_of_lt (lo_big hm hk)
def parPost (u : Nat) (w : World) (e : Ending) (w' : World) : Prop := e = .returned (.tuple #[.int .u64 ((parN u).1 : Nat), .bool (parN u).2.1, .bool (parN u).2.2]) ∧ ∃ n, w' = w.drewN n

set_option maxHeartbeats 1600000 in
theorem parts_any {w : World} (u : Nat) (hu : u < 18446744073709551616) (hf : isFin u) :
    Calls Tryd.prog 84 #[.int .u64 (u : Int)] w (parPost u w) := by
  obtain ⟨m, hm⟩ : ∃ m : Nat, m = u % 4503599627370496 := ⟨_, rfl⟩
  obtain ⟨f, hfe⟩ : ∃ f : Nat, f = u % 9223372036854775808 / 4503599627370496 := ⟨_, rfl⟩
  have e1 : (u : Int) % 4503599627370496 = (m : Int) := by omega
  have e2 : ((u : Int) % 9223372036854775808) / 4503599627370496 = (f : Int) := by omega
  have e3 : ((u : Int) % 9223372036854775808).tdiv 4503599627370496 = (f : Int) := by rw [Int.tdiv_eq_ediv_of_nonneg (by omega)]; exact e2
  have hmlt : (m : Int) < 4503599627370496 := by omega
  have hflt : (f : Int) ≤ 2046 := by unfold isFin at hf; omega
  have hD : (f = 0 ∧ digM u = m ∧ digE u = 0) ∨ (1 ≤ f ∧ digM u = m + 4503599627370496 ∧ digE u = f - 1) := by
    unfold digM digE
    by_cases h : u % 9223372036854775808 < 4503599627370496
    · rw [if_pos h, if_pos h]
      left
      omega
    · rw [if_neg h, if_neg h]
      right
      omega
  have HM := Lib.hid hm
  have HF := Lib.hid hfe
  clear hm hfe hu hf
  rcases hD with ⟨rfl, d1, d2⟩ | ⟨h1, d1, d2⟩
  · have hlo := (parN_lo (u := u) (by omega)).1
    obtain ⟨k, hk⟩ : ∃ k, 1074 - digE u = k := ⟨_, rfl⟩
    rw [hk] at hlo
    have HP := Lib.hid hlo
    have HK : Hid (61 ≤ k) := Lib.hid (by omega)
    have HD1 := Lib.hid d1
    clear d1 d2 hk hlo
    go_enter Tryd.func84, Tryd.ntmps84
    go_wp2
    go_ret3
    have h61 := HK.out
    refine ⟨ret3_par ?_ ?_ ?_, 0, rfl⟩
    · rw [HP.out, HD1.out, lo_zero (by omega) h61]
      rfl
    · rw [HP.out, HD1.out, lo_mod (by omega) h61]
    · rw [HP.out]
  · have q0 : decide ((0 : Int) < (f : Int)) = true := decide_eq_true (by omega)
    have q0' : decide (0 < f) = true := decide_eq_true (by omega)
    have q1 : (1 : Int) ≤ (f : Int) := by omega
    have eM : IntKind.u64.wrap ((m : Int) + 4503599627370496) = ((m + 4503599627370496 : Nat) : Int) := by rw [IntKind.wrap_u64]; omega
    obtain ⟨M, hMM⟩ : ∃ M : Nat, M = m + 4503599627370496 := ⟨_, rfl⟩
    rw [← hMM] at d1 eM
    have hMlt : (M : Int) < 9007199254740992 := by omega
    have hMpos : decide (0 < M) = true := decide_eq_true (by omega)
    have HMM := Lib.hid hMM
    clear hMM
    by_cases c1 : 1086 < f
    · have HP := Lib.hid (parN_hi (u := u) (by omega))
      obtain ⟨x, hx⟩ : ∃ x : Int, (f : Int) - 1075 = x := ⟨_, rfl⟩
      have k1 : decide ((11 : Int) < x) = true := decide_eq_true (by omega)
      clear d1 d2 c1
      go_enter Tryd.func84, Tryd.ntmps84
      go_wp2
      go_ret3
      refine ⟨ret3_par ?_ ?_ ?_, 0, rfl⟩ <;> rw [HP.out]
      rfl
    · by_cases c2 : 1075 ≤ f
      · have HP := Lib.hid (parN_mid (u := u) (by omega) (by omega))
        obtain ⟨k, hx⟩ : ∃ k : Nat, (f : Int) - 1075 = (k : Int) := ⟨f - 1075, by omega⟩
        have k1 : decide ((11 : Int) < (k : Int)) = false := decide_eq_false (by omega)
        have k1' : decide (11 < k) = false := decide_eq_false (by omega)
        have k2 : (k : Int) ≤ 11 := by omega
        have hk : digE u - 1074 = k := by omega
        have HE : Hid (digM u * 2 ^ (digE u - 1074) = M * 2 ^ k) := Lib.hid (by rw [d1, hk])
        clear hk
        clear d1 d2 c1 c2
        go_enter Tryd.func84, Tryd.ntmps84
        go_wp2
        go_ret3
        have hp := HP.out
        rw [HE.out] at hp
        refine ⟨ret3_par ?_ ?_ ?_, 0, rfl⟩ <;> rw [hp.1]
        have h2 := hp.2
        rw [IntKind.wrap_u64]
        have h3 : (M : Int) * 2 ^ k = ((M * 2 ^ k : Nat) : Int) := by push_cast; rfl
        rw [h3]
        generalize M * 2 ^ k = z at *
        show (z : Int) % 18446744073709551616 = (z : Int)
        omega
      · by_cases c3 : 1015 ≤ f
        · have HP := Lib.hid (parN_lo (u := u) (by omega)).1
          obtain ⟨x, hx⟩ : ∃ x : Int, (f : Int) - 1075 = x := ⟨_, rfl⟩
          obtain ⟨k, hn⟩ : ∃ k : Nat, -x = (k : Int) := ⟨1075 - f, by omega⟩
          have k1 : decide ((11 : Int) < x) = false := decide_eq_false (by omega)
          have k2 : decide ((0 : Int) ≤ x) = false := decide_eq_false (by omega)
          have k3 : decide (x < -60) = false := decide_eq_false (by omega)
          have k4 : (1 : Int) ≤ (k : Int) := by omega
          have k5 : (k : Int) ≤ 60 := by omega
          have HE : Hid (1074 - digE u = k) := Lib.hid (by omega)
          have HD1 := Lib.hid d1
          clear d1 d2 c1 c2 c3
          go_enter Tryd.func84, Tryd.ntmps84
          have hp1 : 1 ≤ 2 ^ k := Nat.two_pow_pos k
          have hp2 : 2 ^ k ≤ 2 ^ 60 := Nat.pow_le_pow_right (by decide) (by omega)
          have hp60 : (2 : Nat) ^ 60 = 1152921504606846976 := by decide
          have h3 : ((2 : Int) ^ k) = ((2 ^ k : Nat) : Int) := by push_cast; rfl
          have hdv : (M : Int) / 2 ^ k = ((M / 2 ^ k : Nat) : Int) := by rw [h3, Int.natCast_ediv]
          have HDV := Lib.hid hdv
          clear hdv
          obtain ⟨p, hp⟩ : ∃ p : Nat, p = 2 ^ k := ⟨_, rfl⟩
          have HP2 := Lib.hid hp
          rw [← hp] at hp1 hp2 h3
          have hw : IntKind.u64.wrap ((2 : Int) ^ k) = (p : Int) := by
            rw [h3, IntKind.wrap_u64]
            omega
          have hne : ((p : Int) == 0) = false := by rw [beq_eq_false_iff_ne]; omega
          have hne' : ¬ p = 0 := by omega
          have htm : (M : Int).tmod (p : Int) = ((M % p : Nat) : Int) := by rw [Int.tmod_eq_emod_of_nonneg (by omega), Int.natCast_emod]
          have hml : M % p ≤ M := Nat.mod_le _ _
          have hwr : IntKind.u64.wrap ((M % p : Nat) : Int) = ((M % p : Nat) : Int) := by
            rw [IntKind.wrap_u64]
            generalize M % p = z at *
            omega
          clear hp60 hp2 hml h3 hp
          go_wp2
          go_quiet (fail)
          go_wp2
          go_ret3
          have hk := HP2.out
          refine ⟨ret3_par ?_ ?_ ?_, nq, rfl⟩
          · rw [HP.out, HD1.out, HE.out, HDV.out]
          · rw [HP.out, HD1.out, HE.out, ← hk, decide_eq_decide, ← Int.natCast_emod]
            omega
          · rw [HP.out]
        · have HP := Lib.hid (parN_lo (u := u) (by omega)).1
          obtain ⟨x, hx⟩ : ∃ x : Int, (f : Int) - 1075 = x := ⟨_, rfl⟩
          have k1 : decide ((11 : Int) < x) = false := decide_eq_false (by omega)
          have k2 : decide ((0 : Int) ≤ x) = false := decide_eq_false (by omega)
          have k3 : decide (x < -60) = true := decide_eq_true (by omega)
          have HD1 := Lib.hid d1
          have HD2 := Lib.hid d2
          have HF61 : Hid (61 ≤ 1074 - (f - 1)) := Lib.hid (by omega)
          clear d1 d2 c1 c2 c3
          go_enter Tryd.func84, Tryd.ntmps84
          go_wp2
          go_ret3
          have hM := HMM.out
          have h61 := HF61.out
          refine ⟨ret3_par ?_ ?_ ?_, 0, rfl⟩
          · rw [HP.out, HD1.out, HD2.out, lo_zero (by omega) h61]
            rfl
          · rw [HP.out, HD1.out, HD2.out, lo_mod (by omega) h61]
            exact hMpos.symm
          · rw [HP.out]

end Go.Proofs.YtinbdneajbommaaDoor
