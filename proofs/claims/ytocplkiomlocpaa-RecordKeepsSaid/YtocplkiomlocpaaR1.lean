/-
  The reference's Canon: its contract for the walks.
  The reference's Key, Of and Compare: contracts for the walks.
  The reference's bits and Floor: contracts for the walks.
-/
import Derived.Test.YtocplkiomlocpaaF1
import Derived.Test.YtocplkiomlocpaaF3
set_option linter.unusedVariables false
set_option maxRecDepth 100000
namespace Go.Proofs.Ytocplkiomlocpaa
open Go.RowKit

set_option maxHeartbeats 400000 in
theorem refCanon_any {w : World} (u : Nat) (hu : u < 18446744073709551616) :
    Calls Try.prog 83 #[.int .u64 (u : Int)] w fun e w' => e = .returned (.int .u64 (canonB u : Nat)) ∧ w = w' := by
  have HU := Lib.hid hu
  clear hu
  go_enter Try.func83, Try.ntmps83
  go_wp2
  all_goals
    go_ret
    refine ⟨ret_int ?_, rfl⟩
    have h1 := HU.out
    clear HU
    try simp only [beq_iff_eq, beq_eq_false_iff_ne, ne_eq] at *
    unfold canonB
    repeat' split
    all_goals omega

end Go.Proofs.Ytocplkiomlocpaa

set_option linter.unusedVariables false
set_option maxRecDepth 100000
namespace Go.Proofs.Ytocplkiomlocpaa
open Go.RowKit

set_option maxHeartbeats 400000 in
theorem refKey_any {w : World} (u : Nat) (hu : u < 18446744073709551616) :
    Calls Try.prog 109 #[.int .u64 (u : Int)] w fun e w' => e = .returned (.int .u64 (keyB u : Nat)) ∧ w = w' := by
  have HC := Lib.hid (refCanon_any (w := w) u hu)
  have HV := Lib.hid (canonB_lt hu)
  have HE : Hid (keyB u = if canonB u = 9221120237041090560 then 18446744073709551615 else if 9223372036854775808 ≤ canonB u then 18446744073709551615 - canonB u else canonB u + 9223372036854775808) := Lib.hid rfl
  clear hu
  generalize keyB u = k at HE ⊢
  generalize canonB u = v at *
  go_enter Try.func109, Try.ntmps109
  go_wp2_with fail
  refine HC.out.mono ?_; rintro e w' ⟨rfl, rfl⟩
  by_cases h1 : v = 9221120237041090560
  · have h1' : ((v : Int) == 9221120237041090560) = true := by rw [h1]; rfl
    have H1 := Lib.hid h1
    clear h1
    go_wp2
    go_ret
    refine ⟨ret_int ?_, rfl⟩
    have h2 := HE.out
    rw [if_pos H1.out] at h2
    rw [h2]
    rfl
  · have h1' : ((v : Int) == 9221120237041090560) = false := by rw [beq_eq_false_iff_ne]; omega
    have H1 := Lib.hid h1
    clear h1
    by_cases h2 : 9223372036854775808 ≤ v
    · have h2' : decide ((9223372036854775808 : Int) ≤ (v : Int)) = true := decide_eq_true (by omega)
      have H2 := Lib.hid h2
      have e1 : IntKind.u64.wrap (18446744073709551615 - (v : Int)) = (k : Int) := by
        have h3 := HE.out
        have h4 := HV.out
        rw [if_neg H1.out, if_pos h2] at h3
        rw [IntKind.wrap_u64]
        omega
      clear h2
      go_wp2
      go_ret
      exact ⟨rfl, rfl⟩
    · have h2' : decide ((9223372036854775808 : Int) ≤ (v : Int)) = false := decide_eq_false (by omega)
      have H2 := Lib.hid h2
      have e1 : IntKind.u64.wrap ((v : Int) + 9223372036854775808) = (k : Int) := by
        have h3 := HE.out
        have h4 := HV.out
        rw [if_neg H1.out, if_neg h2] at h3
        rw [IntKind.wrap_u64]
        omega
      clear h2
      go_wp2
      go_ret
      exact ⟨rfl, rfl⟩

end Go.Proofs.Ytocplkiomlocpaa

set_option linter.unusedVariables false
set_option maxRecDepth 100000
namespace Go.Proofs.Ytocplkiomlocpaa
open Go.RowKit

/-- What the reference's bits tell of a whole number. -/
noncomputable def bitsR (n : Int) : Nat × Bool := open Classical in if LowZ n.natAbs then (fltB n, true) else (0, false)
theorem bitsR_yes {n : Int} (h : LowZ n.natAbs) : bitsR n = (fltB n, true) := by unfold bitsR; rw [if_pos h]
theorem bitsR_no {n : Int} (h : ¬ LowZ n.natAbs) : bitsR n = (0, false) := by unfold bitsR; rw [if_neg h]

/-- A number on its way to 53 digits. -/
def OnWay (N A E : Nat) : Prop := ∃ i j : Nat, N * 2 ^ i = A * 2 ^ j ∧ E + i = 1075 + j ∧ (i = 0 ∨ (j = 0 ∧ A < 9007199254740992)) ∧ i ≤ 52 ∧ 1 ≤ A
theorem OnWay.start {N : Nat} (h : 1 ≤ N) : OnWay N N 1075 := ⟨0, 0, rfl, rfl, .inl rfl, by omega, h⟩
theorem OnWay.double {N A E : Nat} (hN : 1 ≤ N) (h : OnWay N A E) (hA : A < 4503599627370496) (hj : ∃ i, N * 2 ^ i = A ∧ E + i = 1075) : 1 ≤ E ∧ OnWay N (A * 2) (E - 1) ∧ ∃ i, N * 2 ^ i = A * 2 ∧ E - 1 + i = 1075 := by
  obtain ⟨i, h1, h2⟩ := hj
  have h52 : (2 : Nat) ^ 52 = 4503599627370496 := by decide
  have hi : i < 52 := by
    rcases Nat.lt_or_ge i 52 with h | h
    · exact h
    · exfalso
      have a1 : 2 ^ 52 ≤ 2 ^ i := Nat.pow_le_pow_right (by decide) h
      have a2 : 1 * 2 ^ i ≤ N * 2 ^ i := Nat.mul_le_mul_right _ hN
      omega
  have e1 : N * 2 ^ (i + 1) = A * 2 := by rw [Nat.pow_succ, ← Nat.mul_assoc, h1]
  refine ⟨by omega, ⟨i + 1, 0, by rw [Nat.pow_zero, Nat.mul_one, e1], by omega, .inr ⟨rfl, by omega⟩, by omega, ?_⟩, i + 1, e1, by omega⟩
  have : 1 ≤ A := by
    have a2 : 1 * 2 ^ i ≤ N * 2 ^ i := Nat.mul_le_mul_right _ hN
    have a3 := Nat.two_pow_pos i
    omega
  omega
theorem OnWay.half {N A E : Nat} (h : OnWay N A E) (hA : 9007199254740992 ≤ A) (he : A % 2 = 0) : OnWay N (A / 2) (E + 1) := by
  obtain ⟨i, j, h1, h2, h3, h4, h5⟩ := h
  have hi : i = 0 := by omega
  subst hi
  refine ⟨0, j + 1, ?_, by omega, .inl rfl, by omega, by omega⟩
  have : A = A / 2 * 2 := by omega
  rw [h1, Nat.pow_succ, Nat.mul_comm (2 ^ j), ← Nat.mul_assoc, ← this]
theorem OnWay.odd {N A E : Nat} (h : OnWay N A E) (hA : 9007199254740992 ≤ A) (ho : A % 2 = 1) : ¬ LowZ N := by
  obtain ⟨i, j, h1, h2, h3, h4, h5⟩ := h
  have hi : i = 0 := by omega
  subst hi
  rw [Nat.pow_zero, Nat.mul_one] at h1
  rintro ⟨t, e, ht, htl⟩
  rw [ht] at h1
  rcases Nat.lt_or_ge j e with hje | hje
  · have e1 : 2 ^ e = 2 ^ (e - j - 1) * 2 * 2 ^ j := by
      rw [← Nat.pow_succ, ← Nat.pow_add]
      congr 1
      omega
    rw [e1, ← Nat.mul_assoc] at h1
    have h6 := Nat.eq_of_mul_eq_mul_right (Nat.two_pow_pos j) h1
    rw [← Nat.mul_assoc] at h6
    omega
  · have e1 : 2 ^ j = 2 ^ (j - e) * 2 ^ e := by
      rw [← Nat.pow_add]
      congr 1
      omega
    rw [e1, ← Nat.mul_assoc] at h1
    have h6 := Nat.eq_of_mul_eq_mul_right (Nat.two_pow_pos e) h1
    have h7 : A * 1 ≤ A * 2 ^ (j - e) := Nat.mul_le_mul_left _ (Nat.two_pow_pos _)
    omega
theorem OnWay.low {N A E : Nat} (h : OnWay N A E) (hA : A < 9007199254740992) : LowZ N := by
  obtain ⟨i, j, h1, h2, h3, h4, h5⟩ := h
  by_cases hi : i = 0
  · subst hi
    rw [Nat.pow_zero, Nat.mul_one] at h1
    exact ⟨A, j, h1, hA⟩
  · have hj : j = 0 := by omega
    subst hj
    rw [Nat.pow_zero, Nat.mul_one] at h1
    have : N * 1 ≤ N * 2 ^ i := Nat.mul_le_mul_left _ (Nat.two_pow_pos i)
    exact ⟨N, 0, by simp, by omega⟩
/-- At its end: the bits. -/
theorem OnWay.bits {n : Int} {A E : Nat} (h0 : n ≠ 0) (hn : n.natAbs ≤ 9223372036854775808) (h : OnWay n.natAbs A E) (hA : A < 9007199254740992) (hB : 4503599627370496 ≤ A) :
    E ≤ 1086 ∧ 1023 ≤ E ∧ fltB n = (if n < 0 then 9223372036854775808 else 0) + E * 4503599627370496 + A - 4503599627370496 := by
  have hlow := h.low hA
  obtain ⟨i, j, h1, h2, h3, h4, h5⟩ := h
  have hj : j ≤ 11 := by
    rcases Nat.lt_or_ge 11 j with hj | hj
    · exfalso
      have hi : i = 0 := by omega
      subst hi
      rw [Nat.pow_zero, Nat.mul_one] at h1
      have h12 : (2 : Nat) ^ 12 = 4096 := by decide
      have a1 : 2 ^ 12 ≤ 2 ^ j := Nat.pow_le_pow_right (by decide) hj
      have a2 : A * 2 ^ 12 ≤ A * 2 ^ j := Nat.mul_le_mul_left _ a1
      omega
    · exact hj
  refine ⟨by omega, by omega, ?_⟩
  have hsz : siz 4503599627370496 ((52 + j - i + 1022) * 4503599627370496 + A) = n.natAbs * U := by
    rw [siz_at _ _ _ hB (by omega)]
    have hu := ue
    unfold U
    generalize UE = X at *
    have e1 : 52 + j - i + 1022 = j + (X - i) := by omega
    have e2 : X = i + (X - i) := by omega
    rw [e1, Nat.pow_add, ← Nat.mul_assoc, ← h1, Nat.mul_assoc, ← Nat.pow_add, ← e2]
  have hr : (52 + j - i + 1022) * 4503599627370496 + A = E * 4503599627370496 + A - 4503599627370496 := by omega
  rw [hr] at hsz
  obtain ⟨ρ, hρ⟩ : ∃ ρ, ρ = E * 4503599627370496 + A - 4503599627370496 := ⟨_, rfl⟩
  rw [← hρ] at hsz
  have hρlt : ρ < 9218868437227405312 := by omega
  by_cases hneg : n < 0
  · rw [if_pos hneg]
    have e3 : 9223372036854775808 + E * 4503599627370496 + A - 4503599627370496 = 9223372036854775808 + ρ := by omega
    rw [e3]
    have e4 : (9223372036854775808 + ρ) % 9223372036854775808 = ρ := by omega
    refine flt_unique (by omega) (by unfold isFin; omega) hlow (by omega) h0 ?_
    unfold fval mag
    rw [if_neg (by omega), e4, hsz, Int.natCast_mul]
    have : (n.natAbs : Int) = -n := by omega
    rw [this, Int.neg_mul, Int.neg_neg]
  · rw [if_neg hneg]
    have e3 : 0 + E * 4503599627370496 + A - 4503599627370496 = ρ := by omega
    rw [e3]
    have e4 : ρ % 9223372036854775808 = ρ := by omega
    refine flt_unique (by omega) (by unfold isFin; omega) hlow (by omega) h0 ?_
    unfold fval mag
    rw [if_pos (by omega), e4, hsz, Int.natCast_mul]
    have : (n.natAbs : Int) = n := by omega
    rw [this]

def bitsPost (n : Int) (w : World) (e : Ending) (w' : World) : Prop := e = .returned (.tuple #[.int .u64 ((bitsR n).1 : Nat), .bool (bitsR n).2]) ∧ w = w'
theorem ret2_ub {a b : Int} {x y : Bool} (h : a = b) (h2 : x = y) : Ending.returned (.tuple #[.int .u64 a, .bool x]) = .returned (.tuple #[.int .u64 b, .bool y]) := by rw [h, h2]

theorem OnWay.le {N A E : Nat} (h : OnWay N A E) (hA : 9007199254740992 ≤ A) : A ≤ N := by
  obtain ⟨i, j, h1, h2, h3, h4, h5⟩ := h
  have hi : i = 0 := by omega
  subst hi
  rw [Nat.pow_zero, Nat.mul_one] at h1
  have : A * 1 ≤ A * 2 ^ j := Nat.mul_le_mul_left _ (Nat.two_pow_pos j)
  omega
theorem OnWay.bound {N A E : Nat} (h : OnWay N A E) (hn : N ≤ 9223372036854775808) (hA : 9007199254740992 ≤ A) : E ≤ 1085 := by
  obtain ⟨i, j, h1, h2, h3, h4, h5⟩ := h
  have hi : i = 0 := by omega
  subst hi
  rw [Nat.pow_zero, Nat.mul_one] at h1
  rcases Nat.lt_or_ge 10 j with hj | hj
  · exfalso
    have h12 : (2 : Nat) ^ 11 = 2048 := by decide
    have a1 : 2 ^ 11 ≤ 2 ^ j := Nat.pow_le_pow_right (by decide) hj
    have a2 : A * 2 ^ 11 ≤ A * 2 ^ j := Nat.mul_le_mul_left _ a1
    omega
  · omega

set_option maxHeartbeats 1600000 in
theorem refBits_neg {w : World} (n : Int) (h1 : -9223372036854775808 ≤ n) (hn : n < 0) :
    Calls Try.prog 120 #[.int .i64 n] w (bitsPost n w) := by
  obtain ⟨N, hN⟩ : ∃ N : Nat, N = n.natAbs := ⟨_, rfl⟩
  have hA : IntKind.u64.wrap (IntKind.u64.wrap (wrap64 (-wrap64 (n + 1))) + 1) = (N : Int) := by
    rw [IntWalk.wrap64_in (n + 1) (by omega), IntWalk.wrap64_in (-(n + 1)) (by omega), IntKind.wrap_u64, IntKind.wrap_u64]
    omega
  have hne : (n == 0) = false := by rw [beq_eq_false_iff_ne]; omega
  have hlt : decide (n < 0) = true := decide_eq_true hn
  have HN := Lib.hid hN
  have HSG := Lib.hid hn
  have H1N : Hid (1 ≤ N) := Lib.hid (by omega)
  have HNL : Hid (N ≤ 9223372036854775808) := Lib.hid (by omega)
  have HNZ : Hid (n ≠ 0) := Lib.hid (by omega)
  clear hN hn h1
  go_enter Try.func120, Try.ntmps120
  go_wp2
  go_loop [4, 6] (fun a e => ∃ A E : Nat, a = .int .u64 A ∧ e = .int .i64 E ∧ OnWay N A E ∧ (A < 4503599627370496 → ∃ i, N * 2 ^ i = A ∧ E + i = 1075)) (fun a _ => 4503599627370496 - (intOf a).toNat)
  case atStart => exact ⟨N, 1075, rfl, rfl, OnWay.start H1N.out, fun _ => ⟨0, by simp, rfl⟩⟩
  case round =>
    obtain ⟨A, E, rfl, rfl, hw, hi⟩ := hrel
    have HW := Lib.hid hw
    have HI := Lib.hid hi
    clear hw hi
    by_cases hlt : A < 4503599627370496
    · have q1 : decide ((A : Int) < 4503599627370496) = true := decide_eq_true (by omega)
      obtain ⟨d1, d2, d3⟩ := HW.out.double H1N.out hlt (HI.out hlt)
      have D2 := Lib.hid d2
      have D3 := Lib.hid d3
      have e1 : IntKind.u64.wrap ((A : Int) * 2) = ((A * 2 : Nat) : Int) := by rw [IntKind.wrap_u64]; omega
      obtain ⟨A2, hA2⟩ : ∃ A2 : Nat, A2 = A * 2 := ⟨_, rfl⟩
      have hE : (E : Int) ≤ 1075 := by obtain ⟨i, _, h⟩ := HI.out hlt; omega
      have hE1 : (1 : Int) ≤ (E : Int) := by omega
      obtain ⟨E2, hE2⟩ : ∃ E2 : Nat, (E : Int) - 1 = (E2 : Int) := ⟨E - 1, by omega⟩
      have hE3 : E - 1 = E2 := by omega
      rw [← hA2] at e1 D2 D3
      rw [hE3] at D2 D3
      have HM : Hid (4503599627370496 - A2 < 4503599627370496 - A) := Lib.hid (by obtain ⟨_, _, _, _, _, _, h⟩ := HW.out; omega)
      clear d1 d2 d3 hlt hA2 hE3 HI HW
      go_wp2
      go_round
      case rel => exact ⟨A2, E2, rfl, rfl, D2.out, fun _ => D3.out⟩
      case measure => exact HM.out
    · have q1 : decide ((A : Int) < 4503599627370496) = false := decide_eq_false (by omega)
      have HA : Hid (4503599627370496 ≤ A) := Lib.hid (by omega)
      clear hlt HI
      go_wp2
      go_loop [4, 6] (fun a e => ∃ A E : Nat, a = .int .u64 A ∧ e = .int .i64 E ∧ OnWay N A E ∧ 4503599627370496 ≤ A) (fun a _ => (intOf a).toNat)
      case atStart => exact ⟨A, E, rfl, rfl, HW.out, HA.out⟩
      case round =>
        clear HW HA
        clear q1
        obtain ⟨A, E, rfl, rfl, hw, ha⟩ := hrel
        have HW := Lib.hid hw
        have HA := Lib.hid ha
        clear hw ha
        by_cases hge : 9007199254740992 ≤ A
        · have q1 : decide ((9007199254740992 : Int) ≤ (A : Int)) = true := decide_eq_true (by omega)
          by_cases hodd : A % 2 = 1
          · have HR := Lib.hid (bitsR_no (n := n) (by rw [← HN.out]; exact HW.out.odd hge hodd))
            have q2 : ((A : Int) % 2 == 1) = true := by rw [beq_iff_eq]; omega
            have q3 : ((A : Int).tmod 2 == 1) = true := by rw [Int.tmod_eq_emod_of_nonneg (by omega)]; exact q2
            clear hge hodd
            go_wp2
            go_ret2
            exact ⟨by rw [HR.out]; rfl, rfl⟩
          · have q2 : ((A : Int) % 2 == 1) = false := by rw [beq_eq_false_iff_ne]; omega
            have q3 : ((A : Int).tmod 2 == 1) = false := by rw [Int.tmod_eq_emod_of_nonneg (by omega)]; exact q2
            have D1 := Lib.hid (HW.out.half hge (by omega))
            have D2 : Hid (4503599627370496 ≤ A / 2) := Lib.hid (by omega)
            have e1 : (A : Int) / 2 = ((A / 2 : Nat) : Int) := by omega
            have e2 : (A : Int).tdiv 2 = ((A / 2 : Nat) : Int) := by rw [Int.tdiv_eq_ediv_of_nonneg (by omega)]; exact e1
            have hE : (E : Int) ≤ 1085 := by
              have hb := HW.out.bound HNL.out hge
              omega
            obtain ⟨A2, hA2⟩ : ∃ A2 : Nat, A2 = A / 2 := ⟨_, rfl⟩
            have HM : Hid (A2 < A) := Lib.hid (by omega)
            have e3 : IntKind.u64.wrap (A2 : Int) = (A2 : Int) := by
              have hle := HW.out.le hge
              have hn := HNL.out
              rw [IntKind.wrap_u64]
              omega
            rw [← hA2] at e1 e2 D1 D2
            clear hge hodd hA2
            go_wp2
            go_round
            case rel => exact ⟨A2, E + 1, rfl, by go_num, D1.out, D2.out⟩
            case measure => exact HM.out
        · have q1 : decide ((9007199254740992 : Int) ≤ (A : Int)) = false := decide_eq_false (by omega)
          have hlow : A < 9007199254740992 := by omega
          have hnz : n ≠ 0 := HNZ.out
          have HW2 := HW.out
          have HNL2 := HNL.out
          rw [HN.out] at HW2 HNL2
          obtain ⟨b1, b2, b3⟩ := HW2.bits hnz HNL2 hlow HA.out
          have HR := Lib.hid (bitsR_yes (n := n) (HW2.low hlow))
          have HB3 := Lib.hid b3
          have hE : (E : Int) ≤ 1086 := by omega
          have hE0 : (1023 : Int) ≤ (E : Int) := by omega
          have hAl : (A : Int) < 9007199254740992 := by omega
          have HA2 := Lib.hid HA.out
          clear hge b1 b2 b3 HW2 HNL2 hlow HA hnz
          go_wp2
          go_ret2
          refine ⟨?_, rfl⟩
          rw [HR.out]
          refine ret2_ub ?_ rfl
          have h3 := HB3.out
          have h4 := HA2.out
          have h5 := HSG.out
          rw [if_pos h5] at h3
          show _ = ((fltB n : Nat) : Int)
          omega


set_option maxHeartbeats 1600000 in
theorem refBits_pos {w : World} (n : Int) (h2 : n ≤ 9223372036854775807) (hn : 0 < n) :
    Calls Try.prog 120 #[.int .i64 n] w (bitsPost n w) := by
  obtain ⟨N, hN⟩ : ∃ N : Nat, n = (N : Int) := ⟨n.toNat, by omega⟩
  subst hN
  obtain ⟨n, hnn⟩ : ∃ n : Int, n = (N : Int) := ⟨_, rfl⟩
  have hne : ((N : Int) == 0) = false := by rw [beq_eq_false_iff_ne]; omega
  have hlt : decide ((N : Int) < 0) = false := decide_eq_false (by omega)
  have HN : Hid (N = n.natAbs) := Lib.hid (by omega)
  have HSG : Hid (¬ n < 0) := Lib.hid (by omega)
  have H1N : Hid (1 ≤ N) := Lib.hid (by omega)
  have HNL : Hid (N ≤ 9223372036854775808) := Lib.hid (by omega)
  have HNZ : Hid (n ≠ 0) := Lib.hid (by omega)
  have HNN := Lib.hid hnn
  have eN : IntKind.u64.wrap (N : Int) = (N : Int) := by rw [IntKind.wrap_u64]; omega
  clear hn h2 hnn
  go_enter Try.func120, Try.ntmps120
  go_wp2
  go_loop [4, 6] (fun a e => ∃ A E : Nat, a = .int .u64 A ∧ e = .int .i64 E ∧ OnWay N A E ∧ (A < 4503599627370496 → ∃ i, N * 2 ^ i = A ∧ E + i = 1075)) (fun a _ => 4503599627370496 - (intOf a).toNat)
  case atStart => exact ⟨N, 1075, rfl, rfl, OnWay.start H1N.out, fun _ => ⟨0, by simp, rfl⟩⟩
  case round =>
    obtain ⟨A, E, rfl, rfl, hw, hi⟩ := hrel
    have HW := Lib.hid hw
    have HI := Lib.hid hi
    clear hw hi
    by_cases hlt : A < 4503599627370496
    · have q1 : decide ((A : Int) < 4503599627370496) = true := decide_eq_true (by omega)
      obtain ⟨d1, d2, d3⟩ := HW.out.double H1N.out hlt (HI.out hlt)
      have D2 := Lib.hid d2
      have D3 := Lib.hid d3
      have e1 : IntKind.u64.wrap ((A : Int) * 2) = ((A * 2 : Nat) : Int) := by rw [IntKind.wrap_u64]; omega
      obtain ⟨A2, hA2⟩ : ∃ A2 : Nat, A2 = A * 2 := ⟨_, rfl⟩
      have hE : (E : Int) ≤ 1075 := by obtain ⟨i, _, h⟩ := HI.out hlt; omega
      have hE1 : (1 : Int) ≤ (E : Int) := by omega
      obtain ⟨E2, hE2⟩ : ∃ E2 : Nat, (E : Int) - 1 = (E2 : Int) := ⟨E - 1, by omega⟩
      have hE3 : E - 1 = E2 := by omega
      rw [← hA2] at e1 D2 D3
      rw [hE3] at D2 D3
      have HM : Hid (4503599627370496 - A2 < 4503599627370496 - A) := Lib.hid (by obtain ⟨_, _, _, _, _, _, h⟩ := HW.out; omega)
      clear d1 d2 d3 hlt hA2 hE3 HI HW
      go_wp2
      go_round
      case rel => exact ⟨A2, E2, rfl, rfl, D2.out, fun _ => D3.out⟩
      case measure => exact HM.out
    · have q1 : decide ((A : Int) < 4503599627370496) = false := decide_eq_false (by omega)
      have HA : Hid (4503599627370496 ≤ A) := Lib.hid (by omega)
      clear hlt HI
      go_wp2
      go_loop [4, 6] (fun a e => ∃ A E : Nat, a = .int .u64 A ∧ e = .int .i64 E ∧ OnWay N A E ∧ 4503599627370496 ≤ A) (fun a _ => (intOf a).toNat)
      case atStart => exact ⟨A, E, rfl, rfl, HW.out, HA.out⟩
      case round =>
        clear HW HA
        clear q1
        obtain ⟨A, E, rfl, rfl, hw, ha⟩ := hrel
        have HW := Lib.hid hw
        have HA := Lib.hid ha
        clear hw ha
        by_cases hge : 9007199254740992 ≤ A
        · have q1 : decide ((9007199254740992 : Int) ≤ (A : Int)) = true := decide_eq_true (by omega)
          by_cases hodd : A % 2 = 1
          · have HR := Lib.hid (bitsR_no (n := n) (by rw [← HN.out]; exact HW.out.odd hge hodd))
            have q2 : ((A : Int) % 2 == 1) = true := by rw [beq_iff_eq]; omega
            have q3 : ((A : Int).tmod 2 == 1) = true := by rw [Int.tmod_eq_emod_of_nonneg (by omega)]; exact q2
            clear hge hodd
            go_wp2
            go_ret2
            exact ⟨by rw [← HNN.out, HR.out]; rfl, rfl⟩
          · have q2 : ((A : Int) % 2 == 1) = false := by rw [beq_eq_false_iff_ne]; omega
            have q3 : ((A : Int).tmod 2 == 1) = false := by rw [Int.tmod_eq_emod_of_nonneg (by omega)]; exact q2
            have D1 := Lib.hid (HW.out.half hge (by omega))
            have D2 : Hid (4503599627370496 ≤ A / 2) := Lib.hid (by omega)
            have e1 : (A : Int) / 2 = ((A / 2 : Nat) : Int) := by omega
            have e2 : (A : Int).tdiv 2 = ((A / 2 : Nat) : Int) := by rw [Int.tdiv_eq_ediv_of_nonneg (by omega)]; exact e1
            have hE : (E : Int) ≤ 1085 := by
              have hb := HW.out.bound HNL.out hge
              omega
            obtain ⟨A2, hA2⟩ : ∃ A2 : Nat, A2 = A / 2 := ⟨_, rfl⟩
            have HM : Hid (A2 < A) := Lib.hid (by omega)
            have e3 : IntKind.u64.wrap (A2 : Int) = (A2 : Int) := by
              have hle := HW.out.le hge
              have hn := HNL.out
              rw [IntKind.wrap_u64]
              omega
            rw [← hA2] at e1 e2 D1 D2
            clear hge hodd hA2
            go_wp2
            go_round
            case rel => exact ⟨A2, E + 1, rfl, by go_num, D1.out, D2.out⟩
            case measure => exact HM.out
        · have q1 : decide ((9007199254740992 : Int) ≤ (A : Int)) = false := decide_eq_false (by omega)
          have hlow : A < 9007199254740992 := by omega
          have hnz : n ≠ 0 := HNZ.out
          have HW2 := HW.out
          have HNL2 := HNL.out
          rw [HN.out] at HW2 HNL2
          obtain ⟨b1, b2, b3⟩ := HW2.bits hnz HNL2 hlow HA.out
          have HR := Lib.hid (bitsR_yes (n := n) (HW2.low hlow))
          have HB3 := Lib.hid b3
          have hE : (E : Int) ≤ 1086 := by omega
          have hE0 : (1023 : Int) ≤ (E : Int) := by omega
          have hAl : (A : Int) < 9007199254740992 := by omega
          have HA2 := Lib.hid HA.out
          clear hge b1 b2 b3 HW2 HNL2 hlow HA hnz
          go_wp2
          go_ret2
          refine ⟨?_, rfl⟩
          rw [← HNN.out, HR.out]
          refine ret2_ub ?_ rfl
          have h3 := HB3.out
          have h4 := HA2.out
          have h5 := HSG.out
          rw [if_neg (by omega)] at h3
          show _ = ((fltB n : Nat) : Int)
          omega


set_option maxHeartbeats 400000 in
theorem refBits_any {w : World} (n : Int) (h1 : -9223372036854775808 ≤ n) (h2 : n ≤ 9223372036854775807) :
    Calls Try.prog 120 #[.int .i64 n] w (bitsPost n w) := by
  rcases Int.lt_trichotomy n 0 with h | h | h
  · exact refBits_neg n h1 h
  · subst h
    have hb : bitsR 0 = (0, true) := by
      rw [bitsR_yes ⟨0, 0, by decide, by decide⟩]
      rfl
    go_enter Try.func120, Try.ntmps120
    go_wp2
    go_ret2
    exact ⟨by rw [hb]; rfl, rfl⟩
  · exact refBits_pos n h2 h

set_option maxHeartbeats 800000 in
theorem refFloor_any {w : World} (n : Int) (h1 : -9223372036854775808 ≤ n) (h2 : n ≤ 9223372036854775807) :
    Calls Try.prog 107 #[.int .i64 n] w fun e w' => e = .returned (.tuple #[.int .u64 (fltB (n - restI n) : Nat), .int .i64 (restI n)]) ∧ w = w' := by
  obtain ⟨r1, r2, r3, r4, r5, r6⟩ := rest_facts h1 h2
  have H1 := Lib.hid h1
  have H2 := Lib.hid h2
  have R2 := Lib.hid r2
  have R3 := Lib.hid r3
  have R1 := Lib.hid r1
  have R4 := Lib.hid r4
  clear r1 r2 r3 r4 r5 r6
  go_enter Try.func107, Try.ntmps107
  go_wp2
  go_loop [4] (fun i => ∃ j : Nat, i = .int .i64 j ∧ (j : Int) ≤ restI n) (fun i => 2048 - (intOf i).toNat)
  case atStart => exact ⟨0, rfl, R1.out⟩
  case round =>
    obtain ⟨j, rfl, hj⟩ := hrel
    have hj2 : (j : Int) ≤ 2047 := by have := R2.out; omega
    have q1 : decide ((j : Int) < 2048) = true := decide_eq_true (by omega)
    have hb1 : -9223372036854775808 ≤ n - j := by have := R4.out; omega
    obtain ⟨m, hm⟩ : ∃ m : Int, m = n - (j : Int) := ⟨_, rfl⟩
    have HB := Lib.hid (refBits_any (w := w) m (by omega) (by omega))
    have hsub : wrap64 (n - (j : Int)) = m := by rw [IntWalk.wrap64_in _ (by omega), hm]
    have HM := Lib.hid hm
    by_cases he : (j : Int) = restI n
    · have hz := R3.out
      rw [← he, ← hm] at hz
      have HR := Lib.hid (bitsR_yes hz)
      have HE := Lib.hid he
      clear he hj hz h1 h2 hm hb1
      go_wp2_with fail
      (with_reducible refine HB.out.mono ?_); rintro e w' ⟨rfl, rfl⟩
      rw [HR.out]
      go_wp2
      go_ret2
      refine ⟨?_, rfl⟩
      rw [← HE.out, ← HM.out]
      rfl
    · have hno := no_flt h1 h2 (r := j) (by omega) (by omega)
      rw [← hm] at hno
      have HR := Lib.hid (bitsR_no hno)
      have HJ : Hid (((j + 1 : Nat) : Int) ≤ restI n) := Lib.hid (by omega)
      clear he hj h1 h2 hm hb1 hno
      go_wp2_with fail
      (with_reducible refine HB.out.mono ?_); rintro e w' ⟨rfl, rfl⟩
      rw [HR.out]
      go_wp2
      go_round
      case rel => exact ⟨j + 1, by go_num, HJ.out⟩
      case measure => simp [intOf]; omega

end Go.Proofs.Ytocplkiomlocpaa

