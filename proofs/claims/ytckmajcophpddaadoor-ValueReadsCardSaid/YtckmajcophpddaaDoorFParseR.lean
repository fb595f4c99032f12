/-
  The reference's Parse: a contract for the walks.
-/
import Derived.Test.YtckmajcophpddaaDoorFParse
import Derived.Test.YtckmajcophpddaaDoorFRefN
set_option linter.unusedVariables false
set_option maxRecDepth 100000
namespace Go.Proofs.YtckmajcophpddaaDoor
open Go.RowKit

theorem add16_walk {v d : Nat} (hv : v < 1152921504606846976) (hd : d < 16) : IntKind.u64.wrap (IntKind.u64.wrap ((v : Int) * 16) + (d : Int)) = ((v * 16 + d : Nat) : Int) := by
  have h3 : IntKind.u64.wrap ((v : Int) * 16) = ((v * 16 : Nat) : Int) := by
    rw [IntKind.wrap_u64]
    omega
  rw [h3, IntKind.wrap_u64]
  omega
theorem add16_walk' {v d : Nat} (hv : v < 1152921504606846976) (hd : d < 6) : IntKind.u64.wrap (IntKind.u64.wrap (IntKind.u64.wrap ((v : Int) * 16) + (d : Int)) + 10) = ((v * 16 + (d + 10) : Nat) : Int) := by
  have h3 : IntKind.u64.wrap ((v : Int) * 16) = ((v * 16 : Nat) : Int) := by
    rw [IntKind.wrap_u64]
    omega
  rw [h3, IntKind.wrap_u64, IntKind.wrap_u64]
  omega

theorem dig_low {c : Nat} (h1 : 48 ≤ c) (h2 : c ≤ 57) : digV c = c - 48 := by unfold digV; rw [if_pos ⟨h1, h2⟩]
theorem dig_high {c : Nat} (h1 : 97 ≤ c) (h2 : c ≤ 102) : digV c = c - 87 := by unfold digV; rw [if_neg (by omega), if_pos ⟨h1, h2⟩]
theorem dig_none {c : Nat} (h1 : ¬ (48 ≤ c ∧ c ≤ 57)) (h2 : ¬ (97 ≤ c ∧ c ≤ 102)) : digV c = 16 := by unfold digV; rw [if_neg h1, if_neg h2]

set_option maxHeartbeats 1600000 in
theorem refParse_any {w : World} (s : ByteArray) :
    Calls Tryd.prog 23 #[.string s] w fun e w' => e = .returned (.tuple #[.int .u64 ((parB s.data.toList).1 : Nat), .int .i64 (parB s.data.toList).2]) ∧ w = w' := by
  by_cases h16 : s.size = 16
  · have hsz : ((s.size : Int) != 16) = false := by rw [h16]; rfl
    have H16 := Lib.hid h16
    clear h16
    go_enter Tryd.func23, Tryd.ntmps23
    go_wp2
    go_loop [4, 5] (fun u i => ∃ j : Nat, i = .int .i64 j ∧ j ≤ 16 ∧ Digs s.data.toList j ∧ u = .int .u64 (hexN (s.data.toList.take j) : Nat)) (fun _ i => 16 - (intOf i).toNat)
    case atStart => exact ⟨0, rfl, by omega, Digs.zero _, rfl⟩
    case round =>
      obtain ⟨j, rfl, hj, hd, rfl⟩ := hrel
      have HD := Lib.hid hd
      clear hd
      by_cases hlt : j < 16
      · have hjs : j < s.size := by have := H16.out; omega
        have hv := hexN_lt15 HD.out (by simp; omega)
        have HT2 := Lib.hid (hexN_take (l := s.data.toList) (j := j) (by rw [bytes_length]; exact hjs))
        have h255 := s[j].toNat_lt
        by_cases hx1 : 48 ≤ s[j].toNat ∧ s[j].toNat ≤ 57
        · have hdv := dig_low hx1.1 hx1.2
          have hN := add16_walk (v := hexN (s.data.toList.take j)) (d := s[j].toNat - 48) hv (by omega)
          have HN := Lib.hid hN
          have HS := Lib.hid (HD.out.succ (by rw [bytes_length]; exact hjs) (by rw [bytes_at s hjs, hdv]; omega))
          have q1 : decide (48 ≤ (s[j].toNat : Int)) = true := decide_eq_true (by omega)
          have q2 : decide ((s[j].toNat : Int) ≤ 57) = true := decide_eq_true (by omega)
          have HSUB : Hid ((s[j].toNat : Int) - 48 = ((s[j].toNat - 48 : Nat) : Int)) := Lib.hid (by omega)
          have HDV := Lib.hid hdv
          have b1 : (48 : Int) ≤ (s[j].toNat : Int) := by omega
          have b2 : (s[j].toNat : Int) ≤ 57 := by omega
          clear hN hdv hx1 hv
          generalize hexN (s.data.toList.take j) = u at *
          go_wp2
          go_round
          case rel => exact ⟨j + 1, by go_num, by omega, HS.out, by rw [HT2.out, bytes_at s hjs, HDV.out, ← HN.out, ← HSUB.out]⟩
          case measure => simp [intOf]; omega
        · by_cases hx2 : 97 ≤ s[j].toNat ∧ s[j].toNat ≤ 102
          · have hdv := dig_high hx2.1 hx2.2
            have hN := add16_walk' (v := hexN (s.data.toList.take j)) (d := s[j].toNat - 97) hv (by omega)
            have HN := Lib.hid hN
            have HS := Lib.hid (HD.out.succ (by rw [bytes_length]; exact hjs) (by rw [bytes_at s hjs, hdv]; omega))
            have q0 : decide (48 ≤ (s[j].toNat : Int)) = true := decide_eq_true (by omega)
            have q00 : decide ((s[j].toNat : Int) ≤ 57) = false := decide_eq_false (by omega)
            have q1 : decide (97 ≤ (s[j].toNat : Int)) = true := decide_eq_true (by omega)
            have q2 : decide ((s[j].toNat : Int) ≤ 102) = true := decide_eq_true (by omega)
            have HSUB : Hid ((s[j].toNat : Int) - 97 = ((s[j].toNat - 97 : Nat) : Int)) := Lib.hid (by omega)
            have HDV : Hid (digV s[j].toNat = s[j].toNat - 97 + 10) := Lib.hid (by rw [hdv]; omega)
            have b1 : (97 : Int) ≤ (s[j].toNat : Int) := by omega
            have b2 : (s[j].toNat : Int) ≤ 102 := by omega
            clear hN hdv hx1 hx2 hv
            generalize hexN (s.data.toList.take j) = u at *
            go_wp2
            go_round
            case rel => exact ⟨j + 1, by go_num, by omega, HS.out, by rw [HT2.out, bytes_at s hjs, HDV.out, ← HN.out, ← HSUB.out]⟩
            case measure => simp [intOf]; omega
          · have HB := Lib.hid (parB_dig (l := s.data.toList) (j := j) (by rw [bytes_length]; exact hjs) (by rw [bytes_at s hjs, dig_none hx1 hx2]; omega))
            have q1 : (decide (48 ≤ (s[j].toNat : Int)) = false) ∨ (decide (48 ≤ (s[j].toNat : Int)) = true ∧ decide ((s[j].toNat : Int) ≤ 57) = false) := by
              by_cases h : 48 ≤ s[j].toNat
              · exact .inr ⟨decide_eq_true (by omega), decide_eq_false (by omega)⟩
              · exact .inl (decide_eq_false (by omega))
            have q2 : (decide (97 ≤ (s[j].toNat : Int)) = false) ∨ (decide (97 ≤ (s[j].toNat : Int)) = true ∧ decide ((s[j].toNat : Int) ≤ 102) = false) := by
              by_cases h : 97 ≤ s[j].toNat
              · exact .inr ⟨decide_eq_true (by omega), decide_eq_false (by omega)⟩
              · exact .inl (decide_eq_false (by omega))
            clear hx1 hx2 hv
            generalize hexN (s.data.toList.take j) = u at *
            rcases q1 with q1 | ⟨q1, q1'⟩ <;> rcases q2 with q2 | ⟨q2, q2'⟩
            all_goals
              go_wp2
              go_ret2
              rw [HB.out]
              exact ⟨rfl, rfl⟩
      · obtain rfl : j = 16 := by omega
        have hall : s.data.toList.take 16 = s.data.toList := List.take_of_length_le (by rw [bytes_length]; have := H16.out; omega)
        have hu := hexN_lt16 HD.out (by simp; omega)
        rw [hall] at hu ⊢
        have HC := Lib.hid (refCanon_any (w := w) (hexN s.data.toList) hu)
        by_cases hc : canonB (hexN s.data.toList) = hexN s.data.toList
        · have HP := Lib.hid (parB_yes (by rw [bytes_length]; exact H16.out) HD.out hc)
          have hne : ((canonB (hexN s.data.toList) : Int) != (hexN s.data.toList : Int)) = false := by rw [hc]; simp
          clear hall hu hc HD
          generalize canonB (hexN s.data.toList) = v at *
          generalize hexN s.data.toList = u at *
          go_wp2_with fail
          (with_reducible refine HC.out.mono ?_); rintro e w' ⟨rfl, rfl⟩
          go_wp2
          go_ret2
          rw [HP.out]
          exact ⟨rfl, rfl⟩
        · have HP := Lib.hid (parB_no hc)
          have hne : ((canonB (hexN s.data.toList) : Int) != (hexN s.data.toList : Int)) = true := by simp; omega
          clear hall hu hc HD
          generalize canonB (hexN s.data.toList) = v at *
          generalize hexN s.data.toList = u at *
          go_wp2_with fail
          (with_reducible refine HC.out.mono ?_); rintro e w' ⟨rfl, rfl⟩
          go_wp2
          go_ret2
          rw [HP.out]
          exact ⟨rfl, rfl⟩
  · have hsz : ((s.size : Int) != 16) = true := by simp; omega
    rw [parB_len (by rw [bytes_length]; exact h16)]
    clear h16
    go_enter Tryd.func23, Tryd.ntmps23
    go_wp2
    go_ret2
    exact ⟨rfl, rfl⟩

end Go.Proofs.YtckmajcophpddaaDoor
