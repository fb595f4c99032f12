/-
  The reference's Name: its contract.
-/
import Derived.Test.YtgfdihnpenipjaaRName
set_option linter.unusedVariables false
set_option maxRecDepth 100000
namespace Go.Proofs.Ytgfdihnpenipjaa
open Go.RowKit

set_option maxHeartbeats 3200000 in
theorem refName_any {w : World} (s : ByteArray) (hs : s.size ≤ 9223372036854775807) :
    Calls Try.prog 14 #[.string s] w fun e w' => e = .returned (.bool (nameOk s)) ∧ w = w' := by
  have hl : s.data.toList.length = s.size := rfl
  have HLL := Lib.hid hl
  clear hl
  have hgood : ∀ j (hj : j < s.size), ((s.data.toList.take j).all okC = true ∧ (0 < j → nameOk s = (decide (s.size ≤ 16) && s.data.toList.all okC))) → (isL s[j] || (((s[j].toNat : Int) == 95) || (isD s[j] && decide (0 < j)))) = true → (s.data.toList.take (j + 1)).all okC = true ∧ (0 < j + 1 → nameOk s = (decide (s.size ≤ 16) && s.data.toList.all okC)) := by
    intro j hj h hc
    have hjl : j < s.data.toList.length := by rw [HLL.out]; exact hj
    have ho : okC s[j] = true := by
      unfold okC
      cases h1 : isL s[j]
      · rw [h1] at hc
        cases h2 : ((s[j].toNat : Int) == 95)
        · rw [h2] at hc
          cases h3 : isD s[j]
          · rw [h3] at hc; simp at hc
          · rfl
        · simp
      · rfl
    refine ⟨by rw [all_take hjl, h.1]; exact ho, fun _ => ?_⟩
    by_cases h0 : 0 < j
    · exact h.2 h0
    · have hj0 : j = 0 := by omega
      subst hj0
      cases hct : s.data.toList with
      | nil => rw [hct] at hjl; simp at hjl
      | cons c t =>
        have hc0 : s[0] = c := by
          have : s.data.toList[0]'hjl = c := by simp only [hct]; rfl
          exact this
        have e := nameL_eq hct
        have hd : isD c = false := by
          rw [hc0] at hc
          cases hd : isD c
          · rfl
          · exfalso
            rw [hd] at hc
            have h0 : decide (0 < 0) = false := rfl
            rw [h0] at hc
            have h48 : 48 ≤ (c.toNat : Int) ∧ (c.toNat : Int) ≤ 57 := by
              unfold isD at hd
              rw [Bool.and_eq_true, decide_eq_true_eq, decide_eq_true_eq] at hd
              exact hd
            have hL : isL c = false := by
              unfold isL
              rw [decide_eq_false (p := 97 ≤ (c.toNat : Int)) (by omega), decide_eq_false (p := 65 ≤ (c.toNat : Int)) (by omega)]
              rfl
            have h95 : ((c.toNat : Int) == 95) = false := by rw [beq_eq_false_iff_ne]; omega
            rw [hL, h95] at hc
            simp at hc
        unfold nameOk
        rw [e, hd, HLL.out, hct]
        rfl
  have hbad : ∀ j (hj : j < s.size), (0 < j → nameOk s = (decide (s.size ≤ 16) && s.data.toList.all okC)) → (isL s[j] || (((s[j].toNat : Int) == 95) || (isD s[j] && decide (0 < j)))) = false → nameOk s = false := by
    intro j hj h hc
    have hjl : j < s.data.toList.length := by rw [HLL.out]; exact hj
    by_cases h0 : 0 < j
    · rw [h h0]
      have h1 : okC s[j] = false := by
        rw [decide_eq_true (by omega)] at hc
        unfold okC
        cases h1 : isL s[j] <;> cases h2 : ((s[j].toNat : Int) == 95) <;> cases h3 : isD s[j] <;> rw [h1, h2, h3] at hc <;> simp_all
      rw [all_false hjl h1]
      simp
    · have hj0 : j = 0 := by omega
      subst hj0
      cases hct : s.data.toList with
      | nil => rw [hct] at hjl; simp at hjl
      | cons c t =>
        have hc0 : s[0] = c := by
          have : s.data.toList[0]'hjl = c := by simp only [hct]; rfl
          exact this
        have e := nameL_eq hct
        unfold nameOk
        rw [e]
        rw [hc0] at hc
        have h0 : decide (0 < 0) = false := rfl
        rw [h0] at hc
        cases hd : isD c
        · have h1 : okC c = false := by
            unfold okC
            rw [hd] at hc ⊢
            cases h1 : isL c <;> cases h2 : ((c.toNat : Int) == 95) <;> rw [h1, h2] at hc <;> simp_all
          rw [hct, List.all_cons, h1]
          simp
        · simp
  have HG := Lib.hid hgood
  have HBAD := Lib.hid hbad
  clear hgood hbad
  have HEND : Hid (s.size = 0 → nameOk s = false) := Lib.hid (fun h => by
    have h : s.data.toList = [] := List.eq_nil_of_length_eq_zero (by rw [HLL.out]; exact h)
    unfold nameOk
    rw [h]
    rfl)
  generalize nameOk s = r at *
  go_enter Try.func14, Try.ntmps14
  go_wp2
  go_loop [3] (fun i => ∃ j : Nat, i = .int .i64 j ∧ j ≤ s.size ∧ (s.data.toList.take j).all okC = true ∧ (0 < j → r = (decide (s.size ≤ 16) && s.data.toList.all okC))) (fun i => s.size - (intOf i).toNat)
  case atStart => exact ⟨0, rfl, by omega, rfl, fun h => absurd h (by omega)⟩
  case round =>
    obtain ⟨j, rfl, hj, hall, hr⟩ := hrel
    have HA := Lib.hid hall
    have HR := Lib.hid hr
    clear hall hr
    by_cases hlt : j < s.size
    · have HG1 := Lib.hid (HG.out j hlt ⟨HA.out, HR.out⟩)
      have HB1 := Lib.hid (HBAD.out j hlt HR.out)
      clear HG HBAD
      have hL : Hid (isL s[j] = ((decide (97 ≤ (s[j].toNat : Int)) && decide ((s[j].toNat : Int) ≤ 122)) || (decide (65 ≤ (s[j].toNat : Int)) && decide ((s[j].toNat : Int) ≤ 90)))) := Lib.hid rfl
      have hD : Hid (isD s[j] = (decide (48 ≤ (s[j].toNat : Int)) && decide ((s[j].toNat : Int) ≤ 57))) := Lib.hid rfl
      have h255 := s[j].toNat_lt
      obtain ⟨x, hx⟩ : ∃ x, decide (97 ≤ (s[j].toNat : Int)) = x := ⟨_, rfl⟩
      obtain ⟨y, hy⟩ : ∃ x, decide ((s[j].toNat : Int) ≤ 122) = x := ⟨_, rfl⟩
      obtain ⟨z, hz⟩ : ∃ x, decide (65 ≤ (s[j].toNat : Int)) = x := ⟨_, rfl⟩
      obtain ⟨u, hu⟩ : ∃ x, decide ((s[j].toNat : Int) ≤ 90) = x := ⟨_, rfl⟩
      obtain ⟨v, hv⟩ : ∃ x, decide (48 ≤ (s[j].toNat : Int)) = x := ⟨_, rfl⟩
      obtain ⟨t, ht⟩ : ∃ x, decide ((s[j].toNat : Int) ≤ 57) = x := ⟨_, rfl⟩
      obtain ⟨q, hq⟩ : ∃ x, ((s[j].toNat : Int) == 95) = x := ⟨_, rfl⟩
      rw [hx, hy, hz, hu] at hL
      rw [hv, ht] at hD
      rw [hL.out, hD.out, hq] at HG1 HB1
      clear hL hD
      go_wp2
      all_goals
        clear hx hy hz hu hv ht hq
        generalize decide (0 < j) = p at *
        first
          | exact ⟨⟨j + 1, by go_num, by omega, (HG1.out (by simp_all)).1, (HG1.out (by simp_all)).2⟩, by simp [intOf]; omega⟩
          | (go_ret; exact ⟨ret_bool (HB1.out (by simp_all)).symm, rfl⟩)
    · have hall := HA.out
      rw [List.take_of_length_le (by rw [HLL.out]; omega)] at hall
      clear HG HBAD
      by_cases h0 : s.size = 0
      · have HX : Hid (r = false) := Lib.hid (HEND.out h0)
        have h0' : decide (1 ≤ (s.size : Int)) = false := decide_eq_false (by omega)
        clear h0
        go_wp2
        go_ret
        exact ⟨ret_bool HX.out.symm, rfl⟩
      · by_cases h16 : s.size ≤ 16
        · have HX : Hid (r = true) := Lib.hid (by rw [HR.out (by omega), hall, decide_eq_true h16]; rfl)
          clear hall
          have h1' : decide (1 ≤ (s.size : Int)) = true := decide_eq_true (by omega)
          have h2' : decide ((s.size : Int) ≤ 16) = true := decide_eq_true (by omega)
          go_wp2
          go_ret
          exact ⟨ret_bool (by rw [HX.out]), rfl⟩
        · have HX : Hid (r = false) := Lib.hid (by rw [HR.out (by omega), decide_eq_false h16]; rfl)
          clear hall
          have h1' : decide (1 ≤ (s.size : Int)) = true := decide_eq_true (by omega)
          have h2' : decide ((s.size : Int) ≤ 16) = false := decide_eq_false (by omega)
          go_wp2
          go_ret
          exact ⟨ret_bool HX.out.symm, rfl⟩

end Go.Proofs.Ytgfdihnpenipjaa
