/-
  The reference's Canon, Class, Key, Of and Compare: contracts for the walks.
-/
import Derived.Test.YtjjebmgcbgeehaaDoorFKey
set_option linter.unusedVariables false
namespace Go.Proofs.YtjjebmgcbgeehaaDoor
open Go.RowKit

set_option maxHeartbeats 400000 in
theorem refCanon_any {w : World} (u : Nat) (hu : u < 18446744073709551616) :
    Calls Tryd.prog 11 #[.int .u64 (u : Int)] w fun e w' => e = .returned (.int .u64 (canonB u : Nat)) ∧ w = w' := by
  have HU := Lib.hid hu
  clear hu
  go_enter Tryd.func11, Tryd.ntmps11
  go_wp2
  all_goals
    go_ret
    refine ⟨ret_int ?_, rfl⟩
    have h1 := HU.out
    clear HU
    try simp only [beq_iff_eq, beq_eq_false_iff_ne, ne_eq] at *
    unfold canonB
    repeat' split
    all_goals omega

/-- The class, by the bits of the stand-in. -/
theorem classB_canon {u : Nat} (hu : u < 18446744073709551616) : classB u = if canonB u = 9221120237041090560 then 0 else if canonB u = 9218868437227405312 then 5 else if canonB u = 18442240474082181120 then 1 else if canonB u = 0 then 3 else if 9223372036854775808 ≤ canonB u then 2 else 4 := by
  by_cases h : isNum u
  · rw [canonB_num h]
    unfold isNum at h
    unfold classB
    by_cases h0 : u % 9223372036854775808 = 0
    · rw [if_pos h0]
      repeat' split
      all_goals omega
    · rw [if_neg h0]
      repeat' split
      all_goals omega
  · rw [canonB_nan h, if_pos rfl]
    unfold isNum at h
    unfold classB
    rw [if_pos (by omega)]

set_option maxHeartbeats 400000 in
theorem refClass_any {w : World} (u : Nat) (hu : u < 18446744073709551616) :
    Calls Tryd.prog 8 #[.int .u64 (u : Int)] w fun e w' => e = .returned (.int .i64 (classB u)) ∧ w = w' := by
  have HC := Lib.hid (refCanon_any (w := w) u hu)
  have HE := Lib.hid (classB_canon hu)
  clear hu
  generalize classB u = c at *
  generalize canonB u = v at *
  go_enter Tryd.func8, Tryd.ntmps8
  go_wp2_with fail
  refine HC.out.mono ?_; rintro e w' ⟨rfl, rfl⟩
  by_cases h0 : v = 9221120237041090560
  · have g0 : ((v : Int) == 9221120237041090560) = true := by rw [beq_iff_eq]; omega
    have hc : c = 0 := by have := HE.out; repeat' split at this <;> omega
    clear h0 HE
    subst hc
    go_wp2
    go_ret
    exact ⟨rfl, rfl⟩
  have g0 : ((v : Int) == 9221120237041090560) = false := by rw [beq_eq_false_iff_ne]; omega
  by_cases h1 : v = 9218868437227405312
  · have g1 : ((v : Int) == 9218868437227405312) = true := by rw [beq_iff_eq]; omega
    have hc : c = 5 := by have := HE.out; repeat' split at this <;> omega
    clear h1 HE
    subst hc
    go_wp2
    go_ret
    exact ⟨rfl, rfl⟩
  have g1 : ((v : Int) == 9218868437227405312) = false := by rw [beq_eq_false_iff_ne]; omega
  by_cases h2 : v = 18442240474082181120
  · have g2 : ((v : Int) == 18442240474082181120) = true := by rw [beq_iff_eq]; omega
    have hc : c = 1 := by have := HE.out; repeat' split at this <;> omega
    clear h2 HE
    subst hc
    go_wp2
    go_ret
    exact ⟨rfl, rfl⟩
  have g2 : ((v : Int) == 18442240474082181120) = false := by rw [beq_eq_false_iff_ne]; omega
  by_cases h3 : v = 0
  · have g3 : ((v : Int) == 0) = true := by rw [beq_iff_eq]; omega
    have hc : c = 3 := by have := HE.out; repeat' split at this <;> omega
    clear h3 HE
    subst hc
    go_wp2
    go_ret
    exact ⟨rfl, rfl⟩
  have g3 : ((v : Int) == 0) = false := by rw [beq_eq_false_iff_ne]; omega
  by_cases h4 : 9223372036854775808 ≤ v
  · have g4 : decide ((9223372036854775808 : Int) ≤ (v : Int)) = true := decide_eq_true (by omega)
    have hc : c = 2 := by have := HE.out; repeat' split at this <;> omega
    clear h0 h1 h2 h3 h4 HE
    subst hc
    go_wp2
    go_ret
    exact ⟨rfl, rfl⟩
  · have g4 : decide ((9223372036854775808 : Int) ≤ (v : Int)) = false := decide_eq_false (by omega)
    have hc : c = 4 := by have := HE.out; repeat' split at this <;> omega
    clear h0 h1 h2 h3 h4 HE
    subst hc
    go_wp2
    go_ret
    exact ⟨rfl, rfl⟩

set_option maxHeartbeats 400000 in
theorem refKey_any {w : World} (u : Nat) (hu : u < 18446744073709551616) :
    Calls Tryd.prog 13 #[.int .u64 (u : Int)] w fun e w' => e = .returned (.int .u64 (keyB u : Nat)) ∧ w = w' := by
  have HC := Lib.hid (refCanon_any (w := w) u hu)
  have HV := Lib.hid (canonB_lt hu)
  have HE : Hid (keyB u = if canonB u = 9221120237041090560 then 18446744073709551615 else if 9223372036854775808 ≤ canonB u then 18446744073709551615 - canonB u else canonB u + 9223372036854775808) := Lib.hid rfl
  clear hu
  generalize keyB u = k at HE ⊢
  generalize canonB u = v at *
  go_enter Tryd.func13, Tryd.ntmps13
  go_wp2_with fail
  refine HC.out.mono ?_; rintro e w' ⟨rfl, rfl⟩
  by_cases h1 : v = 9221120237041090560
  · have h1' : ((v : Int) == 9221120237041090560) = true := by rw [h1]; rfl
    have H1 := Lib.hid h1
    clear h1
    go_wp2
    go_ret
    refine ⟨ret_int ?_, rfl⟩
    have h2 := HE.out
    rw [if_pos H1.out] at h2
    rw [h2]
    rfl
  · have h1' : ((v : Int) == 9221120237041090560) = false := by rw [beq_eq_false_iff_ne]; omega
    have H1 := Lib.hid h1
    clear h1
    by_cases h2 : 9223372036854775808 ≤ v
    · have h2' : decide ((9223372036854775808 : Int) ≤ (v : Int)) = true := decide_eq_true (by omega)
      have H2 := Lib.hid h2
      have e1 : IntKind.u64.wrap (18446744073709551615 - (v : Int)) = (k : Int) := by
        have h3 := HE.out
        have h4 := HV.out
        rw [if_neg H1.out, if_pos h2] at h3
        rw [IntKind.wrap_u64]
        omega
      clear h2
      go_wp2
      go_ret
      exact ⟨rfl, rfl⟩
    · have h2' : decide ((9223372036854775808 : Int) ≤ (v : Int)) = false := decide_eq_false (by omega)
      have H2 := Lib.hid h2
      have e1 : IntKind.u64.wrap ((v : Int) + 9223372036854775808) = (k : Int) := by
        have h3 := HE.out
        have h4 := HV.out
        rw [if_neg H1.out, if_neg h2] at h3
        rw [IntKind.wrap_u64]
        omega
      clear h2
      go_wp2
      go_ret
      exact ⟨rfl, rfl⟩

set_option maxHeartbeats 400000 in
theorem refCompare_any {w : World} (u v : Nat) (hu : u < 18446744073709551616) (hv : v < 18446744073709551616) :
    Calls Tryd.prog 15 #[.int .u64 (u : Int), .int .u64 (v : Int)] w fun e w' => e = .returned (.int .i64 (cmpI (keyB u) (keyB v))) ∧ w = w' := by
  have H1 := Lib.hid (refKey_any (w := w) u hu)
  have H2 := Lib.hid (refKey_any (w := w) v hv)
  clear hu hv
  generalize keyB u = x at *
  generalize keyB v = y at *
  go_enter Tryd.func15, Tryd.ntmps15
  go_wp2_with fail
  refine H1.out.mono ?_; rintro e w' ⟨rfl, rfl⟩
  go_wp2_with fail
  refine H2.out.mono ?_; rintro e w' ⟨rfl, rfl⟩
  go_wp2
  all_goals
    go_ret
    refine ⟨ret_int ?_, rfl⟩
    clear H1 H2
    unfold cmpI
    repeat' split
    all_goals omega

/-- The bits of a key, as the reference turns them back. -/
def uncR (k : Nat) : Nat := if k = 18446744073709551615 then 9221120237041090560 else uncB k
theorem uncR_lt {k : Nat} (hk : k < 18446744073709551616) : uncR k < 18446744073709551616 := by
  unfold uncR
  split
  · omega
  · exact uncB_lt hk
theorem ofB_ref {k : Nat} (hk : k < 18446744073709551616) : ofB k = if canonB (uncR k) = uncR k ∧ keyB (uncR k) = k then (uncR k, true) else (0, false) := by
  unfold ofB uncR
  by_cases h : k = 18446744073709551615
  · rw [if_pos h]
    have e1 : canonB 9221120237041090560 = 9221120237041090560 := by decide +kernel
    have e2 : keyB 9221120237041090560 = 18446744073709551615 := by decide +kernel
    have e3 : canonB (uncB 18446744073709551615) = 9221120237041090560 := by decide +kernel
    subst h
    rw [e3, e2, e1]
    decide +kernel
  · rw [if_neg h, keyB_canon]
    by_cases hc : canonB (uncB k) = uncB k
    · rw [hc]
      by_cases hk2 : keyB (uncB k) = k
      · simp only [hk2, and_self, if_true]
      · simp only [hk2, and_false, if_false]
    · have hne : keyB (uncB k) ≠ k := by
        by_cases hn : isNum (uncB k)
        · rw [canonB_num hn] at hc
          rw [keyB_num hn]
          unfold isNum at hn
          unfold uncB at *
          repeat' split at *
          all_goals omega
        · rw [keyB_nan hn]
          omega
      simp only [hne, hc, and_self, if_false]

set_option maxHeartbeats 800000 in
theorem refOf_any {w : World} (k : Nat) (hk : k < 18446744073709551616) :
    Calls Tryd.prog 19 #[.int .u64 (k : Int)] w fun e w' => e = .returned (.tuple #[.int .u64 ((ofB k).1 : Nat), .bool (ofB k).2]) ∧ w = w' := by
  have H1 := Lib.hid (refCanon_any (w := w) (uncR k) (uncR_lt hk))
  have H2 := Lib.hid (refKey_any (w := w) (uncR k) (uncR_lt hk))
  have HE := Lib.hid (ofB_ref hk)
  have HU : Hid (uncR k = if k = 18446744073709551615 then 9221120237041090560 else if 9223372036854775808 ≤ k then k - 9223372036854775808 else 18446744073709551615 - k) := by
    refine Lib.hid ?_
    unfold uncR uncB
    rfl
  have HK := Lib.hid hk
  clear hk
  generalize ofB k = r at *
  generalize uncR k = u at *
  generalize canonB u = c at *
  generalize keyB u = y at *
  have htests : (((c : Int) != (u : Int)) = true ∧ r = (0, false)) ∨ (((c : Int) != (u : Int)) = false ∧ ((y : Int) != (k : Int)) = true ∧ r = (0, false)) ∨ (((c : Int) != (u : Int)) = false ∧ ((y : Int) != (k : Int)) = false ∧ r = (u, true)) := by
    have he := HE.out
    by_cases h1 : c = u
    · by_cases h2 : y = k
      · exact .inr (.inr ⟨by simp; omega, by simp; omega, by rw [he, if_pos ⟨h1, h2⟩]⟩)
      · exact .inr (.inl ⟨by simp; omega, by simp; omega, by rw [he, if_neg (fun hh => h2 hh.2)]⟩)
    · exact .inl ⟨by simp; omega, by rw [he, if_neg (fun hh => h1 hh.1)]⟩
  have HTS := Lib.hid htests
  clear htests HE
  have e1 : IntKind.u64.wrap ((k : Int) - 9223372036854775808) = ((if 9223372036854775808 ≤ k then k - 9223372036854775808 else k + 9223372036854775808 : Nat) : Int) := by
    have := HK.out
    rw [IntKind.wrap_u64]
    split <;> omega
  have hmain : (decide ((k : Int) < 9223372036854775808) = true ∧ ((k : Int) == 18446744073709551615) = false ∧ IntKind.u64.wrap (18446744073709551615 - (k : Int)) = (u : Int)) ∨
      (decide ((k : Int) < 9223372036854775808) = false ∧ ((k : Int) == 18446744073709551615) = false ∧ IntKind.u64.wrap ((k : Int) - 9223372036854775808) = (u : Int)) ∨
      (decide ((k : Int) < 9223372036854775808) = false ∧ ((k : Int) == 18446744073709551615) = true ∧ u = 9221120237041090560) := by
    have hu := HU.out
    have hk := HK.out
    by_cases h1 : k = 18446744073709551615
    · rw [if_pos h1] at hu
      exact .inr (.inr ⟨decide_eq_false (by omega), by rw [beq_iff_eq]; omega, hu⟩)
    · rw [if_neg h1] at hu
      by_cases h2 : 9223372036854775808 ≤ k
      · rw [if_pos h2] at hu
        exact .inr (.inl ⟨decide_eq_false (by omega), by rw [beq_eq_false_iff_ne]; omega, by rw [IntKind.wrap_u64]; omega⟩)
      · rw [if_neg h2] at hu
        exact .inl ⟨decide_eq_true (by omega), by rw [beq_eq_false_iff_ne]; omega, by rw [IntKind.wrap_u64]; omega⟩
  clear e1 HU
  rcases hmain with ⟨a1, a2, a3⟩ | ⟨a1, a2, a3⟩ | ⟨a1, a2, a3⟩
  · go_enter Tryd.func19, Tryd.ntmps19
    go_wp2_with fail
    refine H1.out.mono ?_; rintro e w' ⟨rfl, rfl⟩
    rcases HTS.out with ⟨t1, t2⟩ | ⟨t1, t2, t3⟩ | ⟨t1, t2, t3⟩
    · go_wp2
      go_ret2
      subst t2
      exact ⟨rfl, rfl⟩
    · go_wp2_with fail
      refine H2.out.mono ?_; rintro e w' ⟨rfl, rfl⟩
      go_wp2
      go_ret2
      subst t3
      exact ⟨rfl, rfl⟩
    · go_wp2_with fail
      refine H2.out.mono ?_; rintro e w' ⟨rfl, rfl⟩
      go_wp2
      go_ret2
      subst t3
      exact ⟨rfl, rfl⟩
  · go_enter Tryd.func19, Tryd.ntmps19
    go_wp2_with fail
    refine H1.out.mono ?_; rintro e w' ⟨rfl, rfl⟩
    rcases HTS.out with ⟨t1, t2⟩ | ⟨t1, t2, t3⟩ | ⟨t1, t2, t3⟩
    · go_wp2
      go_ret2
      subst t2
      exact ⟨rfl, rfl⟩
    · go_wp2_with fail
      refine H2.out.mono ?_; rintro e w' ⟨rfl, rfl⟩
      go_wp2
      go_ret2
      subst t3
      exact ⟨rfl, rfl⟩
    · go_wp2_with fail
      refine H2.out.mono ?_; rintro e w' ⟨rfl, rfl⟩
      go_wp2
      go_ret2
      subst t3
      exact ⟨rfl, rfl⟩
  · have H1' := H1.out
    have H2' := H2.out
    have HTS' : (((c : Int) != 9221120237041090560) = true ∧ r = (0, false)) ∨ (((c : Int) != 9221120237041090560) = false ∧ ((y : Int) != (k : Int)) = true ∧ r = (0, false)) ∨ (((c : Int) != 9221120237041090560) = false ∧ ((y : Int) != (k : Int)) = false ∧ r = (u, true)) := by
      have h := HTS.out
      rw [show (u : Int) = 9221120237041090560 from by omega] at h
      exact h
    rw [show (u : Int) = 9221120237041090560 from by omega] at H1' H2'
    replace H1' := Lib.hid H1'
    replace H2' := Lib.hid H2'
    replace HTS' := Lib.hid HTS'
    have HA3 := Lib.hid a3
    clear H1 H2 HTS a3
    go_enter Tryd.func19, Tryd.ntmps19
    go_wp2_with fail
    refine H1'.out.mono ?_; rintro e w' ⟨rfl, rfl⟩
    rcases HTS'.out with ⟨t1, t2⟩ | ⟨t1, t2, t3⟩ | ⟨t1, t2, t3⟩
    · go_wp2
      go_ret2
      subst t2
      exact ⟨rfl, rfl⟩
    · go_wp2_with fail
      refine H2'.out.mono ?_; rintro e w' ⟨rfl, rfl⟩
      go_wp2
      go_ret2
      subst t3
      exact ⟨rfl, rfl⟩
    · have T3 := Lib.hid t3
      clear t3
      go_wp2_with fail
      refine H2'.out.mono ?_; rintro e w' ⟨rfl, rfl⟩
      go_wp2
      go_ret2
      rw [T3.out]
      have h := HA3.out
      exact ⟨by rw [h]; rfl, rfl⟩

end Go.Proofs.YtjjebmgcbgeehaaDoor
