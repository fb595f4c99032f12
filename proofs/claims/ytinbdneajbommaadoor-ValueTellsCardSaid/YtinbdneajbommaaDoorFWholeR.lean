/-
  The reference's Whole and CompareInt: contracts for the walks.
-/
import Derived.Test.YtinbdneajbommaaDoorFPartsR
set_option linter.unusedVariables false
set_option maxRecDepth 100000
namespace Go.Proofs.YtinbdneajbommaaDoor
open Go.RowKit

theorem mor_iff {u : Nat} : morB u = false ↔ fval u = trB u * (U : Int) := by
  have hle := whl_le u
  have hk : ((whl u * U : Nat) : Int) = (whl u : Int) * (U : Int) := Int.natCast_mul _ _
  unfold morB
  rw [decide_eq_false_iff_not]
  unfold fval trB
  by_cases hs : u < 9223372036854775808
  · rw [if_pos hs, if_pos hs]
    constructor
    · intro h; omega
    · intro h; omega
  · rw [if_neg hs, if_neg hs, Int.neg_mul]
    constructor
    · intro h; omega
    · intro h; omega
theorem classB_mid {u : Nat} (h : classB u ≠ 0) (h2 : classB u ≠ 5) (h3 : classB u ≠ 1) : isFin u ∧ (classB u = 2 ∨ classB u = 3 ∨ classB u = 4) := by
  unfold classB at h h2 h3 ⊢
  unfold isFin
  repeat' split at h
  all_goals first | omega | skip
  all_goals repeat' split
  all_goals omega
/-- Below zero? -/
def negP (u : Nat) : Prop := 9223372036854775808 ≤ u ∧ u ≠ 9223372036854775808
theorem trB_neg {u : Nat} (h : negP u) : trB u = -(whl u : Int) := by unfold trB; rw [if_neg (by have := h.1; omega)]
theorem whl_zero : whl 9223372036854775808 = 0 := by
  have : mag 9223372036854775808 = 0 := by decide +kernel
  unfold whl
  rw [this, Nat.zero_div]
theorem trB_pos {u : Nat} (h : ¬ negP u) : trB u = (whl u : Int) := by
  unfold trB
  by_cases hs : u < 9223372036854775808
  · rw [if_pos hs]
  · have : u = 9223372036854775808 := by unfold negP at h; omega
    rw [if_neg hs, this, whl_zero]
    rfl

theorem whole_ways {u : Nat} (hu : u < 18446744073709551616) (hf : isFin u) :
    (((parN u).2.1 = true ∨ (parN u).2.2 = true) ∧ wholeB u = (0, false)) ∨
    ∃ v : Nat, v < 18446744073709551616 ∧ parN u = (v, false, false) ∧
      ((negP u ∧ 9223372036854775808 < v ∧ wholeB u = (0, false)) ∨ (negP u ∧ v ≤ 9223372036854775808 ∧ wholeB u = (-(v : Int), true)) ∨
       (¬ negP u ∧ 9223372036854775808 ≤ v ∧ wholeB u = (0, false)) ∨ (¬ negP u ∧ v < 9223372036854775808 ∧ wholeB u = ((v : Int), true))) := by
  by_cases hb : whl u < 18446744073709551616
  · have hp : parN u = (whl u, morB u, false) := by unfold parN; rw [if_pos hb]
    rcases Bool.eq_false_or_eq_true (morB u) with hm | hm
    · left
      refine ⟨.inl (by rw [hp]; exact hm), wholeB_no (fun h => ?_)⟩
      rw [mor_iff.2 h.2] at hm
      cases hm
    · right
      refine ⟨whl u, hb, by rw [hp, hm], ?_⟩
      have hv := mor_iff.1 hm
      by_cases hn : negP u
      · have ht := trB_neg hn
        by_cases hw : 9223372036854775808 < whl u
        · exact .inl ⟨hn, hw, wholeB_no (fun h => by have := (h.1.bound hu).1; omega)⟩
        · refine .inr (.inl ⟨hn, by omega, ?_⟩)
          rw [wholeB_yes (inR_of hu hf.num hv (by omega) (by omega)) hv, ht]
      · have ht := trB_pos hn
        by_cases hw : 9223372036854775808 ≤ whl u
        · exact .inr (.inr (.inl ⟨hn, hw, wholeB_no (fun h => by have := (h.1.bound hu).2; omega)⟩))
        · refine .inr (.inr (.inr ⟨hn, by omega, ?_⟩))
          rw [wholeB_yes (inR_of hu hf.num hv (by omega) (by omega)) hv, ht]
  · left
    have hp : parN u = (0, false, true) := by unfold parN; rw [if_neg hb]
    exact ⟨.inr (by rw [hp]), wholeB_no (fun h => by have := (h.1.bound hu).1; omega)⟩
theorem whole_not_fin {u : Nat} (hu : u < 18446744073709551616) (hf : ¬ isFin u) : wholeB u = (0, false) := wholeB_no (fun h => hf (h.1.fin hu))

/-- The test of the sign, by its answers. -/
theorem neg_tests {u : Nat} : (negP u → decide ((9223372036854775808 : Int) ≤ (u : Int)) = true ∧ ((u : Int) != 9223372036854775808) = true) ∧
    (¬ negP u → decide ((9223372036854775808 : Int) ≤ (u : Int)) = false ∨ (decide ((9223372036854775808 : Int) ≤ (u : Int)) = true ∧ ((u : Int) != 9223372036854775808) = false)) := by
  unfold negP
  constructor
  · intro h
    exact ⟨decide_eq_true (by omega), by rw [bne_iff_ne]; omega⟩
  · intro h
    by_cases h1 : 9223372036854775808 ≤ u
    · exact .inr ⟨decide_eq_true (by omega), by rw [bne_eq_false_iff_eq]; omega⟩
    · exact .inl (decide_eq_false (by omega))
def wholePost (u : Nat) (w : World) (e : Ending) (w' : World) : Prop := e = .returned (.tuple #[.int .i64 (wholeB u).1, .bool (wholeB u).2]) ∧ ∃ n, w' = w.drewN n
theorem ret2_wh {a b : Int} {x y : Bool} (h : a = b) (h2 : x = y) : Ending.returned (.tuple #[.int .i64 a, .bool x]) = .returned (.tuple #[.int .i64 b, .bool y]) := by rw [h, h2]

theorem mag_lt (u : Nat) : mag u < (whl u + 1) * U := by
  unfold whl
  have := Nat.lt_mul_div_succ (mag u) U_pos
  rw [Nat.mul_comm]
  exact this
theorem fval_pos {u : Nat} (h : ¬ negP u) : fval u = (mag u : Int) := by
  unfold fval
  by_cases hs : u < 9223372036854775808
  · rw [if_pos hs]
  · have hu : u = 9223372036854775808 := by unfold negP at h; omega
    have hm : mag 9223372036854775808 = 0 := by decide +kernel
    rw [if_neg hs, hu, hm]
    rfl
theorem fval_neg {u : Nat} (hu : u < 18446744073709551616) (h : negP u) : fval u = -(mag u : Int) ∧ 0 < mag u := by
  unfold negP at h
  constructor
  · unfold fval
    rw [if_neg (by omega)]
  · have hz := siz_lt (B := 4503599627370496) (by omega) (r := 0) (s := u % 9223372036854775808) (by omega)
    have h0 : siz 4503599627370496 0 = 0 := by decide
    unfold mag
    omega
/-- A whole number against the amount of a float: by the whole part, and whether there is more. -/
theorem cmp_amount {a : Nat} (u : Nat) : ((a < whl u ∨ (a = whl u ∧ morB u = true)) → (a : Int) * (U : Int) < (mag u : Int)) ∧ (whl u < a → (mag u : Int) < (a : Int) * (U : Int)) ∧ ((a = whl u ∧ morB u = false) → (a : Int) * (U : Int) = (mag u : Int)) := by
  have h1 := whl_le u
  have h2 := mag_lt u
  have hU := U_pos
  have e1 : (a : Int) * (U : Int) = ((a * U : Nat) : Int) := (Int.natCast_mul _ _).symm
  rw [e1]
  refine ⟨fun h => ?_, fun h => ?_, fun h => ?_⟩
  · rcases h with h | ⟨h, hm⟩
    · have : a * U < whl u * U := Nat.mul_lt_mul_of_pos_right h hU
      omega
    · subst h
      unfold morB at hm
      have := of_decide_eq_true hm
      omega
  · have : (whl u + 1) * U ≤ a * U := Nat.mul_le_mul_right _ h
    omega
  · obtain ⟨h, hm⟩ := h
    subst h
    unfold morB at hm
    have := of_decide_eq_false hm
    omega

/-- What CompareInt comes to, by the tests of the reference. -/
theorem cmp_ways {n : Int} (h1 : -9223372036854775808 ≤ n) (h2 : n ≤ 9223372036854775807) {u : Nat} (hu : u < 18446744073709551616) (hf : isFin u) :
    (negP u → (((parN u).2.2 = true ∨ 0 ≤ n) → cmpN n u = 1) ∧ ((parN u).2.2 = false → n < 0 → ((parN u).1 < n.natAbs → cmpN n u = -1) ∧ ((n.natAbs < (parN u).1 ∨ (n.natAbs = (parN u).1 ∧ (parN u).2.1 = true)) → cmpN n u = 1) ∧ ((n.natAbs = (parN u).1 ∧ (parN u).2.1 = false) → cmpN n u = 0))) ∧
    (¬ negP u → (((parN u).2.2 = true ∨ n < 0) → cmpN n u = -1) ∧ ((parN u).2.2 = false → 0 ≤ n → ((parN u).1 < n.natAbs → cmpN n u = 1) ∧ ((n.natAbs < (parN u).1 ∨ (n.natAbs = (parN u).1 ∧ (parN u).2.1 = true)) → cmpN n u = -1) ∧ ((n.natAbs = (parN u).1 ∧ (parN u).2.1 = false) → cmpN n u = 0))) := by
  have hUp : (0 : Int) < (U : Int) := by have := U_pos; omega
  rw [cmpN_fin h1 h2 hu hf]
  obtain ⟨k1, k2, k3⟩ := cmp_amount (a := n.natAbs) u
  have hpar : (parN u = (0, false, true) ∧ n.natAbs < whl u) ∨ parN u = (whl u, morB u, false) := by
    unfold parN
    by_cases hb : whl u < 18446744073709551616
    · rw [if_pos hb]
      exact .inr rfl
    · rw [if_neg hb]
      exact .inl ⟨rfl, by omega⟩
  constructor
  · intro hn
    obtain ⟨f1, f2⟩ := fval_neg hu hn
    rw [f1]
    have hpos : 0 ≤ n → cmpI (n * (U : Int)) (-(mag u : Int)) = 1 := by
      intro h0
      have : 0 ≤ n * (U : Int) := Int.mul_nonneg h0 (Int.le_of_lt hUp)
      exact cmpI_pos (by omega)
    have hneg : n < 0 → n * (U : Int) = -((n.natAbs : Int) * (U : Int)) := by
      intro h0
      have : (n.natAbs : Int) = -n := by omega
      rw [this, Int.neg_mul, Int.neg_neg]
    rcases hpar with ⟨hp, hlt⟩ | hp
    · rw [hp]
      refine ⟨fun _ => ?_, fun h => by cases h⟩
      rcases Int.lt_or_le n 0 with h0 | h0
      · have := k1 (.inl hlt)
        have e := hneg h0
        exact cmpI_pos (by omega)
      · exact hpos h0
    · rw [hp]
      refine ⟨fun h => ?_, fun _ h0 => ⟨fun h => ?_, fun h => ?_, fun h => ?_⟩⟩
      · rcases h with h | h
        · cases h
        · exact hpos h
      · have := k2 h
        have e := hneg h0
        exact cmpI_neg (by omega)
      · have := k1 h
        have e := hneg h0
        exact cmpI_pos (by omega)
      · have := k3 h
        have e := hneg h0
        exact cmpI_zero (by omega)
  · intro hn
    rw [fval_pos hn]
    have hneg : n < 0 → cmpI (n * (U : Int)) (mag u : Int) = -1 := by
      intro h0
      have : n * (U : Int) < 0 := Int.mul_neg_of_neg_of_pos h0 hUp
      exact cmpI_neg (by omega)
    have hpos : 0 ≤ n → n * (U : Int) = (n.natAbs : Int) * (U : Int) := by
      intro h0
      have : (n.natAbs : Int) = n := by omega
      rw [this]
    rcases hpar with ⟨hp, hlt⟩ | hp
    · rw [hp]
      refine ⟨fun _ => ?_, fun h => by cases h⟩
      rcases Int.lt_or_le n 0 with h0 | h0
      · exact hneg h0
      · have := k1 (.inl hlt)
        rw [hpos h0]
        exact cmpI_neg this
    · rw [hp]
      refine ⟨fun h => ?_, fun _ h0 => ⟨fun h => ?_, fun h => ?_, fun h => ?_⟩⟩
      · rcases h with h | h
        · cases h
        · exact hneg h
      · rw [hpos h0]
        exact cmpI_pos (k2 h)
      · rw [hpos h0]
        exact cmpI_neg (k1 h)
      · rw [hpos h0]
        exact cmpI_zero (k3 h)

def cmpPost (n : Int) (u : Nat) (w : World) (e : Ending) (w' : World) : Prop := e = .returned (.int .i64 (cmpN n u)) ∧ ∃ k, w' = w.drewN k

set_option maxHeartbeats 1600000 in
theorem refCompareInt_any {w : World} (n : Int) (h1 : -9223372036854775808 ≤ n) (h2 : n ≤ 9223372036854775807) (u : Nat) (hu : u < 18446744073709551616) :
    Calls Tryd.prog 61 #[.int .i64 n, .int .u64 (u : Int)] w (cmpPost n u w) := by
  have HC := refClass_any (w := w) u hu
  by_cases c0 : classB u = 0 ∨ classB u = 5
  · have hw := Lib.hid (cmpN_up h1 h2 c0)
    rcases c0 with c0 | c0
    all_goals
      rw [c0] at HC
      replace HC := Lib.hid HC
      clear c0 hu h1 h2
      go_enter Tryd.func61, Tryd.ntmps61
      go_wp2_with fail
      refine HC.out.mono ?_; rintro e w' ⟨rfl, rfl⟩
      go_wp2
      go_ret
      exact ⟨by rw [hw.out]; rfl, 0, rfl⟩
  · by_cases c1 : classB u = 1
    · have hw := Lib.hid (cmpN_down h1 h2 hu c1)
      rw [c1] at HC
      replace HC := Lib.hid HC
      clear c0 c1 hu h1 h2
      go_enter Tryd.func61, Tryd.ntmps61
      go_wp2_with fail
      refine HC.out.mono ?_; rintro e w' ⟨rfl, rfl⟩
      go_wp2
      go_ret
      exact ⟨by rw [hw.out]; rfl, 0, rfl⟩
    · obtain ⟨hf, hc⟩ := classB_mid (u := u) (fun h => c0 (.inl h)) (fun h => c0 (.inr h)) c1
      have HP := Lib.hid (parts_any (w := w) u hu hf)
      have HWW := Lib.hid (cmp_ways h1 h2 hu hf)
      have HNT := Lib.hid (@neg_tests u)
      have H1 := Lib.hid h1
      have H2 := Lib.hid h2
      have q0 : (classB u == 0) = false := beq_eq_false_iff_ne.2 (fun h => c0 (.inl h))
      have q5 : (classB u == 5) = false := beq_eq_false_iff_ne.2 (fun h => c0 (.inr h))
      have q1 : (classB u == 1) = false := beq_eq_false_iff_ne.2 c1
      replace HC := Lib.hid HC
      clear c0 c1 hu hf hc
      generalize classB u = c at *
      go_enter Tryd.func61, Tryd.ntmps61
      go_wp2_with fail
      refine HC.out.mono ?_; rintro e w' ⟨rfl, rfl⟩
      go_wp2_with fail
      refine HP.out.mono ?_; rintro e w' ⟨rfl, nq, rfl⟩
      generalize parN u = q at *
      obtain ⟨v, mo, be⟩ := q
      have hww := HWW.out
      simp only at hww
      replace HWW := Lib.hid hww
      clear hww HP
      by_cases hn : negP u
      · obtain ⟨t1, t2⟩ := HNT.out.1 hn
        have HW := Lib.hid (HWW.out.1 hn)
        clear HWW HNT hn
        by_cases h0 : 0 ≤ n
        · have HR := Lib.hid (HW.out.1 (.inr h0))
          have t3 : decide (0 ≤ n) = true := decide_eq_true h0
          clear HW h0 h1 h2
          cases be
          all_goals
            go_wp2
            go_ret
            exact ⟨by rw [HR.out]; rfl, _, rfl⟩
        · have t3 : decide (0 ≤ n) = false := decide_eq_false h0
          cases be
          · have HV := Lib.hid (HW.out.2 rfl (by omega))
            obtain ⟨a, ha⟩ : ∃ a : Nat, a = n.natAbs := ⟨_, rfl⟩
            have hA : IntKind.u64.wrap (IntKind.u64.wrap (wrap64 (-wrap64 (n + 1))) + 1) = (a : Int) := by
              rw [IntWalk.wrap64_in (n + 1) (by omega), IntWalk.wrap64_in (-(n + 1)) (by omega), IntKind.wrap_u64, IntKind.wrap_u64]
              omega
            rw [← ha] at HV
            clear HW h0 h1 h2 ha
            by_cases s1 : v < a
            · have HR := Lib.hid (HV.out.1 s1)
              have s1' : decide (v < a) = true := decide_eq_true s1
              clear HV s1
              go_wp2
              go_ret
              exact ⟨by rw [HR.out]; rfl, _, rfl⟩
            · have s1' : decide (v < a) = false := decide_eq_false s1
              by_cases s2 : a < v
              · have HR := Lib.hid (HV.out.2.1 (.inl s2))
                have s2' : decide (a < v) = true := decide_eq_true s2
                clear HV s1 s2
                go_wp2
                go_ret
                exact ⟨by rw [HR.out]; rfl, _, rfl⟩
              · have s2' : decide (a < v) = false := decide_eq_false s2
                cases mo
                · have HR := Lib.hid (HV.out.2.2 ⟨by omega, rfl⟩)
                  clear HV s1 s2
                  go_wp2
                  go_ret
                  exact ⟨by rw [HR.out]; rfl, _, rfl⟩
                · have HR := Lib.hid (HV.out.2.1 (.inr ⟨by omega, rfl⟩))
                  clear HV s1 s2
                  go_wp2
                  go_ret
                  exact ⟨by rw [HR.out]; rfl, _, rfl⟩
          · have HR := Lib.hid (HW.out.1 (.inl rfl))
            clear HW h0 h1 h2
            go_wp2
            go_ret
            exact ⟨by rw [HR.out]; rfl, _, rfl⟩
      · have HW := Lib.hid (HWW.out.2 hn)
        have HNE := Lib.hid (HNT.out.2 hn)
        clear HWW HNT hn
        by_cases h0 : n < 0
        · have HR := Lib.hid (HW.out.1 (.inr h0))
          have t3 : decide (n < 0) = true := decide_eq_true h0
          clear HW h0 h1 h2
          rcases HNE.out with t1 | ⟨t1, t2⟩ <;> cases be
          all_goals
            go_wp2
            go_ret
            exact ⟨by rw [HR.out]; rfl, _, rfl⟩
        · cases be
          · have HV := Lib.hid (HW.out.2 rfl (by omega))
            obtain ⟨a, ha⟩ : ∃ a : Nat, a = n.natAbs := ⟨_, rfl⟩
            rw [← ha] at HV
            have hna : n = (a : Int) := by omega
            have ha63 : (a : Int) ≤ 9223372036854775807 := by omega
            clear HW h1 h2 ha h0 H1 H2
            subst hna
            by_cases s1 : v < a
            · have HR := Lib.hid (HV.out.1 s1)
              have s1' : decide (v < a) = true := decide_eq_true s1
              clear HV s1
              rcases HNE.out with t1 | ⟨t1, t2⟩
              all_goals
                go_wp2
                go_ret
                exact ⟨by rw [HR.out]; rfl, _, rfl⟩
            · have s1' : decide (v < a) = false := decide_eq_false s1
              by_cases s2 : a < v
              · have HR := Lib.hid (HV.out.2.1 (.inl s2))
                have s2' : decide (a < v) = true := decide_eq_true s2
                clear HV s1 s2
                rcases HNE.out with t1 | ⟨t1, t2⟩
                all_goals
                  go_wp2
                  go_ret
                  exact ⟨by rw [HR.out]; rfl, _, rfl⟩
              · have s2' : decide (a < v) = false := decide_eq_false s2
                cases mo
                · have HR := Lib.hid (HV.out.2.2 ⟨by omega, rfl⟩)
                  clear HV s1 s2
                  rcases HNE.out with t1 | ⟨t1, t2⟩
                  all_goals
                    go_wp2
                    go_ret
                    exact ⟨by rw [HR.out]; rfl, _, rfl⟩
                · have HR := Lib.hid (HV.out.2.1 (.inr ⟨by omega, rfl⟩))
                  clear HV s1 s2
                  rcases HNE.out with t1 | ⟨t1, t2⟩
                  all_goals
                    go_wp2
                    go_ret
                    exact ⟨by rw [HR.out]; rfl, _, rfl⟩
          · have HR := Lib.hid (HW.out.1 (.inl rfl))
            have t3 : decide (n < 0) = false := decide_eq_false h0
            clear HW h0 h1 h2
            rcases HNE.out with t1 | ⟨t1, t2⟩
            all_goals
              go_wp2
              go_ret
              exact ⟨by rw [HR.out]; rfl, _, rfl⟩

end Go.Proofs.YtinbdneajbommaaDoor
