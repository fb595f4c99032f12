/-
  The reference's reader: a whole number: a contract for the walks.
-/
import Derived.Test.YtckmajcophpddaaDoorVRrT
import Derived.Test.YtckmajcophpddaaDoorVRrWp
set_option linter.unusedVariables false
set_option linter.unusedSimpArgs false
set_option maxRecDepth 100000
namespace Go.Proofs.YtckmajcophpddaaDoor
open Go.RowKit

def WPost (w : World) (L : Nat) (e : Ending) (w' : World) : Except Int (Int × List UInt8) → Prop
  | .ok (v, m) => e = .returned (.tuple #[.int .i64 v, .int .i64 ((L : Int) - (m.length : Int)), .int .i64 0]) ∧ w = w'
  | .error x => e = .returned (.tuple #[.int .i64 0, .int .i64 0, .int .i64 x]) ∧ w = w'
theorem noDig_at {s : ByteArray} {k : Nat} (h : k < s.size) (hn : ¬ (48 ≤ s[k].toNat ∧ s[k].toNat ≤ 57)) : NoDig (s.data.toList.drop k) := by
  rw [rr_drop h]
  intro c r e
  cases e
  exact hn
theorem noDig_end {s : ByteArray} {k : Nat} (h : ¬ k < s.size) : NoDig (s.data.toList.drop k) := by
  have e : s.data.toList.drop k = [] := List.drop_of_length_le (by show s.size ≤ k; omega)
  rw [e]
  intro c r e
  cases e
theorem wrapU (U : Nat) (h1 : 1 ≤ U) (h2 : U ≤ 9223372036854775808) : wrap64 (IntKind.u64.wrap (-(U : Int))) = -(U : Int) := by
  rw [IntKind.wrap_u64]
  unfold wrap64
  omega

set_option maxHeartbeats 8000000 in
theorem rwhole_pos {w : World} (s : ByteArray) (hs : s.size ≤ 281474976710656) (hsg : Lib.hasPrefix s.data.toList [45] = false) :
    Calls Tryd.prog 26 #[.string s] w fun e w' => WPost w s.size e w' (wholeR s.data.toList) := by
  have HBG : Hid (∀ w', Calls Tryd.prog 12 #[.string s, .string ⟨#[45]⟩] w' fun e w2 => e = .returned (.bool false) ∧ w' = w2) := Lib.hid fun w' => (begins_any s ⟨#[45]⟩ (by omega)).mono fun e w2 h => by rw [show (⟨#[45]⟩ : ByteArray).data.toList = [45] from rfl, hsg] at h; exact h
  have HSG := Lib.hid hsg
  have h1s : 0 ≤ s.size := Nat.zero_le _
  have hR0 : Lib.trimPrefix s.data.toList [45] = s.data.toList.drop 0 := bk_trim_no hsg
  have HR0 := Lib.hid hR0
  obtain ⟨X, hX⟩ : ∃ X, X = wholeR s.data.toList := ⟨_, rfl⟩
  rw [← hX]
  have HXX := Lib.hid hX
  clear hX hR0 hsg
  have HLEN : Hid (s.data.toList.length = s.size) := Lib.hid rfl
  go_enter Tryd.func26, Tryd.ntmps26
  go_wp2_with fail
  (with_reducible refine (HBG.out _).mono ?_); rintro e w1 ⟨rfl, rfl⟩
  go_wp2
  go_loop [5, 7] (fun i u => ∃ (k U : Nat) (p : List UInt8), i = .int .i64 (k : Int) ∧ u = .int .u64 (U : Int) ∧ 0 ≤ k ∧ k ≤ s.size ∧ Lib.trimPrefix s.data.toList [45] = p ++ s.data.toList.drop k ∧ p.length + 0 = k ∧ (∀ x ∈ p, isDig x) ∧ vD 0 p = U ∧ U ≤ 9223372036854775808) (fun i _ => s.size - (intOf i).toNat)
  case atStart => exact ⟨0, 0, [], rfl, rfl, Nat.le_refl _, h1s, by rw [HR0.out]; rfl, rfl, (fun x h => by cases h), rfl, by decide⟩
  case round =>
    obtain ⟨k, U, p, rfl, rfl, hAT, hk, hr, hpl, hpd, hpu, hU⟩ := hrel
    have HR := Lib.hid hr
    have HPL := Lib.hid hpl
    have HPD := Lib.hid hpd
    have HPU := Lib.hid hpu
    clear hr hpl hpd hpu
    by_cases hkL : k < s.size
    · have hd0 := rr_drop hkL
      have d : (k : Int) < (s.size : Int) := by omega
      have h255 := s[k].toNat_lt
      by_cases hdg : 48 ≤ s[k].toNat ∧ s[k].toNat ≤ 57
      · obtain ⟨ha, hb⟩ := hdg
        have a1 : (48 : Int) ≤ (s[k].toNat : Int) := by omega
        have b1 : (s[k].toNat : Int) ≤ 57 := by omega
        have HP2 : Hid (Lib.trimPrefix s.data.toList [45] = (p ++ [s[k]]) ++ s.data.toList.drop (k + 1)) := Lib.hid (by rw [HR.out, hd0]; simp)
        have HD2 : Hid (∀ x ∈ p ++ [s[k]], isDig x) := Lib.hid (by
          intro x hx
          rcases List.mem_append.1 hx with hx | hx
          · exact HPD.out x hx
          · rw [List.mem_singleton.1 hx]
            exact ⟨ha, hb⟩)
        have HV2 : Hid (vD 0 (p ++ [s[k]]) = U * 10 + (s[k].toNat - 48)) := Lib.hid (by rw [vD_snoc, HPU.out])
        clear hd0
        by_cases h1 : 922337203685477580 < U
        · have HE : Hid (X = .error 11) := Lib.hid (by rw [HXX.out]; exact rw_big HP2.out HD2.out (by rw [HV2.out]; omega))
          have g1 : (922337203685477580 : Int) < (U : Int) := by omega
          clear h1
          go_wp2
          go_ret3
          rw [HE.out]
          exact ⟨rfl, rfl⟩
        · have g1 : ¬ (922337203685477580 : Int) < (U : Int) := by omega
          obtain ⟨V, hV⟩ : ∃ V, V = U * 10 + (s[k].toNat - 48) := ⟨_, rfl⟩
          have hVI : (U : Int) * 10 + ((s[k].toNat : Int) - 48) = (V : Int) := by omega
          have HVI := Lib.hid hVI
          have HVV := Lib.hid hV
          by_cases h2 : 9223372036854775808 < V
          · have HE : Hid (X = .error 11) := Lib.hid (by rw [HXX.out]; exact rw_big HP2.out HD2.out (by rw [HV2.out, ← HVV.out]; exact h2))
            have g2 : (9223372036854775808 : Int) < (U : Int) * 10 + ((s[k].toNat : Int) - 48) := by omega
            clear h1 h2 hV hVI
            go_wp2
            go_ret3
            rw [HE.out]
            exact ⟨rfl, rfl⟩
          · have g2 : ¬ (9223372036854775808 : Int) < (U : Int) * 10 + ((s[k].toNat : Int) - 48) := by omega
            have HV3 : Hid (V ≤ 9223372036854775808) := Lib.hid (by omega)
            clear h1 h2 hV hVI
            go_wp2
            go_round
            case rel => exact ⟨k + 1, V, p ++ [s[k]], by go_num, by rw [HVI.out], by omega, by omega, HP2.out, by have := HPL.out; simp; omega, HD2.out, by rw [HV2.out, HVV.out], HV3.out⟩
            case measure => simp [intOf]; omega
      · have HNQ := Lib.hid (noDig_at hkL hdg)
        clear hd0
        have hx : ¬ (48 : Int) ≤ (s[k].toNat : Int) ∨ ((48 : Int) ≤ (s[k].toNat : Int) ∧ ¬ (s[k].toNat : Int) ≤ 57) := by omega
        clear hdg
        rcases hx with x1 | ⟨x1, x2⟩
        · have x0 := x1
          rcases p with _ | ⟨c, p'⟩
          · have hkA : k = 0 := by have := HPL.out; simp at this; omega
            subst hkA
            have HE : Hid (X = .error 11) := Lib.hid (by rw [HXX.out]; exact rw_none HR.out HNQ.out)
            go_wp2
            go_ret3
            rw [HE.out]
            exact ⟨rfl, rfl⟩
          · have hlt : 0 < k := by have := HPL.out; simp at this; omega
            have hls : 0 < s.size := by omega
            have hc : s[0] = c := by
              have e := HR.out
              rw [HR0.out, rr_drop hls] at e
              exact (List.cons.inj e).1
            have e0 : ((k : Int) == 0) = false := by rw [beq_eq_false_iff_ne]; omega
            have hcd := HPD.out c (by simp)
            have HC := Lib.hid hc
            have hc255 := s[0].toNat_lt
            have hls2 : (0 : Int) < (s.size : Int) := by omega
            by_cases hz : c = 48 ∧ p' ≠ []
            · obtain ⟨hz, hz2⟩ := hz
              have HE : Hid (X = .error 11) := Lib.hid (by rw [HXX.out]; refine rw_zero (p := p') (q := s.data.toList.drop k) ?_ ?_ HNQ.out (.inl hz2); rw [HR.out, hz]; rw [← hz]; exact HPD.out)
              have z : ((s[0].toNat : Int) == 48) = true := by rw [hc, hz]; rfl
              have z1 : (1 : Int) < (k : Int) := by
                have h1 := HPL.out
                have h2 : p'.length ≠ 0 := fun e => hz2 (List.length_eq_zero_iff.1 e)
                simp at h1
                omega
              clear hc hz hcd hz2
              go_wp2
              go_ret3
              rw [HE.out]
              exact ⟨rfl, rfl⟩
            · have hzz : ((s[0].toNat : Int) == 48) = false ∨ (((s[0].toNat : Int) == 48) = true ∧ ¬ (1 : Int) < (k : Int)) := by
                by_cases h : c = 48
                · refine .inr ⟨by rw [hc, h]; rfl, ?_⟩
                  have h1 := HPL.out
                  have h2 : p' = [] := Classical.byContradiction fun e => hz ⟨h, e⟩
                  rw [h2] at h1
                  simp at h1
                  omega
                · exact .inl (by rw [beq_eq_false_iff_ne, hc]; exact rr_u8 h)
              have hz3 : ∀ r, c :: p' = 48 :: r → r = [] := fun r e => by
                obtain ⟨e1, e2⟩ := List.cons.inj e
                exact Classical.byContradiction fun h => hz ⟨e1, by rw [e2]; exact h⟩
              by_cases hT : U = 9223372036854775808
              · have HE : Hid (X = .error 11) := Lib.hid (by rw [HXX.out]; exact rw_top HR.out HPD.out HNQ.out HSG.out (by rw [HPU.out, hT]; exact Nat.le_refl _))
                have hT2 : ((U : Int) == 9223372036854775808) = true := by rw [hT]; rfl
                clear hc hz hcd hz3 hT
                rcases hzz with z | ⟨z, z1⟩
                · have z0 := z
                  go_wp2
                  go_ret3
                  rw [HE.out]
                  exact ⟨rfl, rfl⟩
                · have z0 := z
                  go_wp2
                  go_ret3
                  rw [HE.out]
                  exact ⟨rfl, rfl⟩
              · have HE : Hid (X = .ok ((U : Int), s.data.toList.drop k)) := Lib.hid (by rw [HXX.out, ← HPU.out]; exact rw_pos HR.out HPD.out HNQ.out HSG.out (by simp) hz3 (by rw [HPU.out]; omega))
                have hU3 : U ≤ 9223372036854775807 := by omega
                have hT2 : ((U : Int) == 9223372036854775808) = false := by rw [beq_eq_false_iff_ne]; omega
                have HL : Hid (((s.size : Int) - ((s.data.toList.drop k).length : Int)) = (k : Int)) := Lib.hid (by rw [List.length_drop, HLEN.out]; omega)
                clear hc hz hcd hz3 hT
                rcases hzz with z | ⟨z, z1⟩
                · have z0 := z
                  go_wp2
                  go_ret3
                  rw [HE.out]
                  refine ⟨?_, rfl⟩
                  rw [HL.out]
                  rfl
                · have z0 := z
                  go_wp2
                  go_ret3
                  rw [HE.out]
                  refine ⟨?_, rfl⟩
                  rw [HL.out]
                  rfl
        · have x0 := x1
          rcases p with _ | ⟨c, p'⟩
          · have hkA : k = 0 := by have := HPL.out; simp at this; omega
            subst hkA
            have HE : Hid (X = .error 11) := Lib.hid (by rw [HXX.out]; exact rw_none HR.out HNQ.out)
            go_wp2
            go_ret3
            rw [HE.out]
            exact ⟨rfl, rfl⟩
          · have hlt : 0 < k := by have := HPL.out; simp at this; omega
            have hls : 0 < s.size := by omega
            have hc : s[0] = c := by
              have e := HR.out
              rw [HR0.out, rr_drop hls] at e
              exact (List.cons.inj e).1
            have e0 : ((k : Int) == 0) = false := by rw [beq_eq_false_iff_ne]; omega
            have hcd := HPD.out c (by simp)
            have HC := Lib.hid hc
            have hc255 := s[0].toNat_lt
            have hls2 : (0 : Int) < (s.size : Int) := by omega
            by_cases hz : c = 48 ∧ p' ≠ []
            · obtain ⟨hz, hz2⟩ := hz
              have HE : Hid (X = .error 11) := Lib.hid (by rw [HXX.out]; refine rw_zero (p := p') (q := s.data.toList.drop k) ?_ ?_ HNQ.out (.inl hz2); rw [HR.out, hz]; rw [← hz]; exact HPD.out)
              have z : ((s[0].toNat : Int) == 48) = true := by rw [hc, hz]; rfl
              have z1 : (1 : Int) < (k : Int) := by
                have h1 := HPL.out
                have h2 : p'.length ≠ 0 := fun e => hz2 (List.length_eq_zero_iff.1 e)
                simp at h1
                omega
              clear hc hz hcd hz2
              go_wp2
              go_ret3
              rw [HE.out]
              exact ⟨rfl, rfl⟩
            · have hzz : ((s[0].toNat : Int) == 48) = false ∨ (((s[0].toNat : Int) == 48) = true ∧ ¬ (1 : Int) < (k : Int)) := by
                by_cases h : c = 48
                · refine .inr ⟨by rw [hc, h]; rfl, ?_⟩
                  have h1 := HPL.out
                  have h2 : p' = [] := Classical.byContradiction fun e => hz ⟨h, e⟩
                  rw [h2] at h1
                  simp at h1
                  omega
                · exact .inl (by rw [beq_eq_false_iff_ne, hc]; exact rr_u8 h)
              have hz3 : ∀ r, c :: p' = 48 :: r → r = [] := fun r e => by
                obtain ⟨e1, e2⟩ := List.cons.inj e
                exact Classical.byContradiction fun h => hz ⟨e1, by rw [e2]; exact h⟩
              by_cases hT : U = 9223372036854775808
              · have HE : Hid (X = .error 11) := Lib.hid (by rw [HXX.out]; exact rw_top HR.out HPD.out HNQ.out HSG.out (by rw [HPU.out, hT]; exact Nat.le_refl _))
                have hT2 : ((U : Int) == 9223372036854775808) = true := by rw [hT]; rfl
                clear hc hz hcd hz3 hT
                rcases hzz with z | ⟨z, z1⟩
                · have z0 := z
                  go_wp2
                  go_ret3
                  rw [HE.out]
                  exact ⟨rfl, rfl⟩
                · have z0 := z
                  go_wp2
                  go_ret3
                  rw [HE.out]
                  exact ⟨rfl, rfl⟩
              · have HE : Hid (X = .ok ((U : Int), s.data.toList.drop k)) := Lib.hid (by rw [HXX.out, ← HPU.out]; exact rw_pos HR.out HPD.out HNQ.out HSG.out (by simp) hz3 (by rw [HPU.out]; omega))
                have hU3 : U ≤ 9223372036854775807 := by omega
                have hT2 : ((U : Int) == 9223372036854775808) = false := by rw [beq_eq_false_iff_ne]; omega
                have HL : Hid (((s.size : Int) - ((s.data.toList.drop k).length : Int)) = (k : Int)) := Lib.hid (by rw [List.length_drop, HLEN.out]; omega)
                clear hc hz hcd hz3 hT
                rcases hzz with z | ⟨z, z1⟩
                · have z0 := z
                  go_wp2
                  go_ret3
                  rw [HE.out]
                  refine ⟨?_, rfl⟩
                  rw [HL.out]
                  rfl
                · have z0 := z
                  go_wp2
                  go_ret3
                  rw [HE.out]
                  refine ⟨?_, rfl⟩
                  rw [HL.out]
                  rfl
    · have HNQ := Lib.hid (noDig_end hkL)
      have d : ¬ (k : Int) < (s.size : Int) := by omega
      rcases p with _ | ⟨c, p'⟩
      · have hkA : k = 0 := by have := HPL.out; simp at this; omega
        subst hkA
        have HE : Hid (X = .error 11) := Lib.hid (by rw [HXX.out]; exact rw_none HR.out HNQ.out)
        go_wp2
        go_ret3
        rw [HE.out]
        exact ⟨rfl, rfl⟩
      · have hlt : 0 < k := by have := HPL.out; simp at this; omega
        have hls : 0 < s.size := by omega
        have hc : s[0] = c := by
          have e := HR.out
          rw [HR0.out, rr_drop hls] at e
          exact (List.cons.inj e).1
        have e0 : ((k : Int) == 0) = false := by rw [beq_eq_false_iff_ne]; omega
        have hcd := HPD.out c (by simp)
        have HC := Lib.hid hc
        have hc255 := s[0].toNat_lt
        have hls2 : (0 : Int) < (s.size : Int) := by omega
        by_cases hz : c = 48 ∧ p' ≠ []
        · obtain ⟨hz, hz2⟩ := hz
          have HE : Hid (X = .error 11) := Lib.hid (by rw [HXX.out]; refine rw_zero (p := p') (q := s.data.toList.drop k) ?_ ?_ HNQ.out (.inl hz2); rw [HR.out, hz]; rw [← hz]; exact HPD.out)
          have z : ((s[0].toNat : Int) == 48) = true := by rw [hc, hz]; rfl
          have z1 : (1 : Int) < (k : Int) := by
            have h1 := HPL.out
            have h2 : p'.length ≠ 0 := fun e => hz2 (List.length_eq_zero_iff.1 e)
            simp at h1
            omega
          clear hc hz hcd hz2
          go_wp2
          go_ret3
          rw [HE.out]
          exact ⟨rfl, rfl⟩
        · have hzz : ((s[0].toNat : Int) == 48) = false ∨ (((s[0].toNat : Int) == 48) = true ∧ ¬ (1 : Int) < (k : Int)) := by
            by_cases h : c = 48
            · refine .inr ⟨by rw [hc, h]; rfl, ?_⟩
              have h1 := HPL.out
              have h2 : p' = [] := Classical.byContradiction fun e => hz ⟨h, e⟩
              rw [h2] at h1
              simp at h1
              omega
            · exact .inl (by rw [beq_eq_false_iff_ne, hc]; exact rr_u8 h)
          have hz3 : ∀ r, c :: p' = 48 :: r → r = [] := fun r e => by
            obtain ⟨e1, e2⟩ := List.cons.inj e
            exact Classical.byContradiction fun h => hz ⟨e1, by rw [e2]; exact h⟩
          by_cases hT : U = 9223372036854775808
          · have HE : Hid (X = .error 11) := Lib.hid (by rw [HXX.out]; exact rw_top HR.out HPD.out HNQ.out HSG.out (by rw [HPU.out, hT]; exact Nat.le_refl _))
            have hT2 : ((U : Int) == 9223372036854775808) = true := by rw [hT]; rfl
            clear hc hz hcd hz3 hT
            rcases hzz with z | ⟨z, z1⟩
            · have z0 := z
              go_wp2
              go_ret3
              rw [HE.out]
              exact ⟨rfl, rfl⟩
            · have z0 := z
              go_wp2
              go_ret3
              rw [HE.out]
              exact ⟨rfl, rfl⟩
          · have HE : Hid (X = .ok ((U : Int), s.data.toList.drop k)) := Lib.hid (by rw [HXX.out, ← HPU.out]; exact rw_pos HR.out HPD.out HNQ.out HSG.out (by simp) hz3 (by rw [HPU.out]; omega))
            have hU3 : U ≤ 9223372036854775807 := by omega
            have hT2 : ((U : Int) == 9223372036854775808) = false := by rw [beq_eq_false_iff_ne]; omega
            have HL : Hid (((s.size : Int) - ((s.data.toList.drop k).length : Int)) = (k : Int)) := Lib.hid (by rw [List.length_drop, HLEN.out]; omega)
            clear hc hz hcd hz3 hT
            rcases hzz with z | ⟨z, z1⟩
            · have z0 := z
              go_wp2
              go_ret3
              rw [HE.out]
              refine ⟨?_, rfl⟩
              rw [HL.out]
              rfl
            · have z0 := z
              go_wp2
              go_ret3
              rw [HE.out]
              refine ⟨?_, rfl⟩
              rw [HL.out]
              rfl

set_option maxHeartbeats 8000000 in
theorem rwhole_neg {w : World} (s : ByteArray) (hs : s.size ≤ 281474976710656) (hsg : Lib.hasPrefix s.data.toList [45] = true) :
    Calls Tryd.prog 26 #[.string s] w fun e w' => WPost w s.size e w' (wholeR s.data.toList) := by
  have HBG : Hid (∀ w', Calls Tryd.prog 12 #[.string s, .string ⟨#[45]⟩] w' fun e w2 => e = .returned (.bool true) ∧ w' = w2) := Lib.hid fun w' => (begins_any s ⟨#[45]⟩ (by omega)).mono fun e w2 h => by rw [show (⟨#[45]⟩ : ByteArray).data.toList = [45] from rfl, hsg] at h; exact h
  have HSG := Lib.hid hsg
  have hsp : s.data.toList = 45 :: Lib.trimPrefix s.data.toList [45] := pre_split hsg
  have h1s : 1 ≤ s.size := by
    have e : s.data.toList.length = s.size := rfl
    rw [← e, hsp]
    simp
  have hR0 : Lib.trimPrefix s.data.toList [45] = s.data.toList.drop 1 := by rw [hsp]; exact bk_trim [45] _
  have HR0 := Lib.hid hR0
  obtain ⟨X, hX⟩ : ∃ X, X = wholeR s.data.toList := ⟨_, rfl⟩
  rw [← hX]
  have HXX := Lib.hid hX
  clear hX hR0 hsg hsp
  have HLEN : Hid (s.data.toList.length = s.size) := Lib.hid rfl
  go_enter Tryd.func26, Tryd.ntmps26
  go_wp2_with fail
  (with_reducible refine (HBG.out _).mono ?_); rintro e w1 ⟨rfl, rfl⟩
  go_wp2
  go_loop [5, 7] (fun i u => ∃ (k U : Nat) (p : List UInt8), i = .int .i64 (k : Int) ∧ u = .int .u64 (U : Int) ∧ 1 ≤ k ∧ k ≤ s.size ∧ Lib.trimPrefix s.data.toList [45] = p ++ s.data.toList.drop k ∧ p.length + 1 = k ∧ (∀ x ∈ p, isDig x) ∧ vD 0 p = U ∧ U ≤ 9223372036854775808) (fun i _ => s.size - (intOf i).toNat)
  case atStart => exact ⟨1, 0, [], rfl, rfl, Nat.le_refl _, h1s, by rw [HR0.out]; rfl, rfl, (fun x h => by cases h), rfl, by decide⟩
  case round =>
    obtain ⟨k, U, p, rfl, rfl, hAT, hk, hr, hpl, hpd, hpu, hU⟩ := hrel
    have HR := Lib.hid hr
    have HPL := Lib.hid hpl
    have HPD := Lib.hid hpd
    have HPU := Lib.hid hpu
    clear hr hpl hpd hpu
    by_cases hkL : k < s.size
    · have hd0 := rr_drop hkL
      have d : (k : Int) < (s.size : Int) := by omega
      have h255 := s[k].toNat_lt
      by_cases hdg : 48 ≤ s[k].toNat ∧ s[k].toNat ≤ 57
      · obtain ⟨ha, hb⟩ := hdg
        have a1 : (48 : Int) ≤ (s[k].toNat : Int) := by omega
        have b1 : (s[k].toNat : Int) ≤ 57 := by omega
        have HP2 : Hid (Lib.trimPrefix s.data.toList [45] = (p ++ [s[k]]) ++ s.data.toList.drop (k + 1)) := Lib.hid (by rw [HR.out, hd0]; simp)
        have HD2 : Hid (∀ x ∈ p ++ [s[k]], isDig x) := Lib.hid (by
          intro x hx
          rcases List.mem_append.1 hx with hx | hx
          · exact HPD.out x hx
          · rw [List.mem_singleton.1 hx]
            exact ⟨ha, hb⟩)
        have HV2 : Hid (vD 0 (p ++ [s[k]]) = U * 10 + (s[k].toNat - 48)) := Lib.hid (by rw [vD_snoc, HPU.out])
        clear hd0
        by_cases h1 : 922337203685477580 < U
        · have HE : Hid (X = .error 11) := Lib.hid (by rw [HXX.out]; exact rw_big HP2.out HD2.out (by rw [HV2.out]; omega))
          have g1 : (922337203685477580 : Int) < (U : Int) := by omega
          clear h1
          go_wp2
          go_ret3
          rw [HE.out]
          exact ⟨rfl, rfl⟩
        · have g1 : ¬ (922337203685477580 : Int) < (U : Int) := by omega
          obtain ⟨V, hV⟩ : ∃ V, V = U * 10 + (s[k].toNat - 48) := ⟨_, rfl⟩
          have hVI : (U : Int) * 10 + ((s[k].toNat : Int) - 48) = (V : Int) := by omega
          have HVI := Lib.hid hVI
          have HVV := Lib.hid hV
          by_cases h2 : 9223372036854775808 < V
          · have HE : Hid (X = .error 11) := Lib.hid (by rw [HXX.out]; exact rw_big HP2.out HD2.out (by rw [HV2.out, ← HVV.out]; exact h2))
            have g2 : (9223372036854775808 : Int) < (U : Int) * 10 + ((s[k].toNat : Int) - 48) := by omega
            clear h1 h2 hV hVI
            go_wp2
            go_ret3
            rw [HE.out]
            exact ⟨rfl, rfl⟩
          · have g2 : ¬ (9223372036854775808 : Int) < (U : Int) * 10 + ((s[k].toNat : Int) - 48) := by omega
            have HV3 : Hid (V ≤ 9223372036854775808) := Lib.hid (by omega)
            clear h1 h2 hV hVI
            go_wp2
            go_round
            case rel => exact ⟨k + 1, V, p ++ [s[k]], by go_num, by rw [HVI.out], by omega, by omega, HP2.out, by have := HPL.out; simp; omega, HD2.out, by rw [HV2.out, HVV.out], HV3.out⟩
            case measure => simp [intOf]; omega
      · have HNQ := Lib.hid (noDig_at hkL hdg)
        clear hd0
        have hx : ¬ (48 : Int) ≤ (s[k].toNat : Int) ∨ ((48 : Int) ≤ (s[k].toNat : Int) ∧ ¬ (s[k].toNat : Int) ≤ 57) := by omega
        clear hdg
        rcases hx with x1 | ⟨x1, x2⟩
        · have x0 := x1
          rcases p with _ | ⟨c, p'⟩
          · have hkA : k = 1 := by have := HPL.out; simp at this; omega
            subst hkA
            have HE : Hid (X = .error 11) := Lib.hid (by rw [HXX.out]; exact rw_none HR.out HNQ.out)
            go_wp2
            go_ret3
            rw [HE.out]
            exact ⟨rfl, rfl⟩
          · have hlt : 1 < k := by have := HPL.out; simp at this; omega
            have hls : 1 < s.size := by omega
            have hc : s[1] = c := by
              have e := HR.out
              rw [HR0.out, rr_drop hls] at e
              exact (List.cons.inj e).1
            have e0 : ((k : Int) == 1) = false := by rw [beq_eq_false_iff_ne]; omega
            have hcd := HPD.out c (by simp)
            have HC := Lib.hid hc
            have hc255 := s[1].toNat_lt
            have hls2 : (1 : Int) < (s.size : Int) := by omega
            by_cases hz : c = 48
            · have HE : Hid (X = .error 11) := Lib.hid (by rw [HXX.out]; refine rw_zero (p := p') (q := s.data.toList.drop k) ?_ ?_ HNQ.out (.inr HSG.out); rw [HR.out, hz]; rw [← hz]; exact HPD.out)
              have z : ((s[1].toNat : Int) == 48) = true := by rw [hc, hz]; rfl
              have z2 : (2 : Int) < (k : Int) ∨ ¬ (2 : Int) < (k : Int) := by omega
              clear hc hz hcd
              rcases z2 with z2 | z2
              · have z0 := z
                go_wp2
                go_ret3
                rw [HE.out]
                exact ⟨rfl, rfl⟩
              · have z0 := z
                go_wp2
                go_ret3
                rw [HE.out]
                exact ⟨rfl, rfl⟩
            · have z : ((s[1].toNat : Int) == 48) = false := by rw [beq_eq_false_iff_ne, hc]; exact rr_u8 hz
              obtain ⟨hok, hU1⟩ := rw_neg HR.out HPD.out HNQ.out HSG.out (by simp) (fun r e => hz (List.cons.inj e).1) (by rw [HPU.out]; exact hU)
              rw [HPU.out] at hok hU1
              have HE : Hid (X = .ok (-(U : Int), s.data.toList.drop k)) := Lib.hid (by rw [HXX.out]; exact hok)
              have HL : Hid (((s.size : Int) - ((s.data.toList.drop k).length : Int)) = (k : Int)) := Lib.hid (by rw [List.length_drop, HLEN.out]; omega)
              have HWU := Lib.hid (wrapU U hU1 hU)
              clear hc hz hcd hok
              go_wp2
              go_ret3
              rw [HE.out]
              refine ⟨?_, rfl⟩
              rw [HL.out]
              exact congrArg (fun x : Int => Ending.returned (Value.tuple #[.int .i64 x, .int .i64 (k : Int), .int .i64 0])) HWU.out
        · have x0 := x1
          rcases p with _ | ⟨c, p'⟩
          · have hkA : k = 1 := by have := HPL.out; simp at this; omega
            subst hkA
            have HE : Hid (X = .error 11) := Lib.hid (by rw [HXX.out]; exact rw_none HR.out HNQ.out)
            go_wp2
            go_ret3
            rw [HE.out]
            exact ⟨rfl, rfl⟩
          · have hlt : 1 < k := by have := HPL.out; simp at this; omega
            have hls : 1 < s.size := by omega
            have hc : s[1] = c := by
              have e := HR.out
              rw [HR0.out, rr_drop hls] at e
              exact (List.cons.inj e).1
            have e0 : ((k : Int) == 1) = false := by rw [beq_eq_false_iff_ne]; omega
            have hcd := HPD.out c (by simp)
            have HC := Lib.hid hc
            have hc255 := s[1].toNat_lt
            have hls2 : (1 : Int) < (s.size : Int) := by omega
            by_cases hz : c = 48
            · have HE : Hid (X = .error 11) := Lib.hid (by rw [HXX.out]; refine rw_zero (p := p') (q := s.data.toList.drop k) ?_ ?_ HNQ.out (.inr HSG.out); rw [HR.out, hz]; rw [← hz]; exact HPD.out)
              have z : ((s[1].toNat : Int) == 48) = true := by rw [hc, hz]; rfl
              have z2 : (2 : Int) < (k : Int) ∨ ¬ (2 : Int) < (k : Int) := by omega
              clear hc hz hcd
              rcases z2 with z2 | z2
              · have z0 := z
                go_wp2
                go_ret3
                rw [HE.out]
                exact ⟨rfl, rfl⟩
              · have z0 := z
                go_wp2
                go_ret3
                rw [HE.out]
                exact ⟨rfl, rfl⟩
            · have z : ((s[1].toNat : Int) == 48) = false := by rw [beq_eq_false_iff_ne, hc]; exact rr_u8 hz
              obtain ⟨hok, hU1⟩ := rw_neg HR.out HPD.out HNQ.out HSG.out (by simp) (fun r e => hz (List.cons.inj e).1) (by rw [HPU.out]; exact hU)
              rw [HPU.out] at hok hU1
              have HE : Hid (X = .ok (-(U : Int), s.data.toList.drop k)) := Lib.hid (by rw [HXX.out]; exact hok)
              have HL : Hid (((s.size : Int) - ((s.data.toList.drop k).length : Int)) = (k : Int)) := Lib.hid (by rw [List.length_drop, HLEN.out]; omega)
              have HWU := Lib.hid (wrapU U hU1 hU)
              clear hc hz hcd hok
              go_wp2
              go_ret3
              rw [HE.out]
              refine ⟨?_, rfl⟩
              rw [HL.out]
              exact congrArg (fun x : Int => Ending.returned (Value.tuple #[.int .i64 x, .int .i64 (k : Int), .int .i64 0])) HWU.out
    · have HNQ := Lib.hid (noDig_end hkL)
      have d : ¬ (k : Int) < (s.size : Int) := by omega
      rcases p with _ | ⟨c, p'⟩
      · have hkA : k = 1 := by have := HPL.out; simp at this; omega
        subst hkA
        have HE : Hid (X = .error 11) := Lib.hid (by rw [HXX.out]; exact rw_none HR.out HNQ.out)
        go_wp2
        go_ret3
        rw [HE.out]
        exact ⟨rfl, rfl⟩
      · have hlt : 1 < k := by have := HPL.out; simp at this; omega
        have hls : 1 < s.size := by omega
        have hc : s[1] = c := by
          have e := HR.out
          rw [HR0.out, rr_drop hls] at e
          exact (List.cons.inj e).1
        have e0 : ((k : Int) == 1) = false := by rw [beq_eq_false_iff_ne]; omega
        have hcd := HPD.out c (by simp)
        have HC := Lib.hid hc
        have hc255 := s[1].toNat_lt
        have hls2 : (1 : Int) < (s.size : Int) := by omega
        by_cases hz : c = 48
        · have HE : Hid (X = .error 11) := Lib.hid (by rw [HXX.out]; refine rw_zero (p := p') (q := s.data.toList.drop k) ?_ ?_ HNQ.out (.inr HSG.out); rw [HR.out, hz]; rw [← hz]; exact HPD.out)
          have z : ((s[1].toNat : Int) == 48) = true := by rw [hc, hz]; rfl
          have z2 : (2 : Int) < (k : Int) ∨ ¬ (2 : Int) < (k : Int) := by omega
          clear hc hz hcd
          rcases z2 with z2 | z2
          · have z0 := z
            go_wp2
            go_ret3
            rw [HE.out]
            exact ⟨rfl, rfl⟩
          · have z0 := z
            go_wp2
            go_ret3
            rw [HE.out]
            exact ⟨rfl, rfl⟩
        · have z : ((s[1].toNat : Int) == 48) = false := by rw [beq_eq_false_iff_ne, hc]; exact rr_u8 hz
          obtain ⟨hok, hU1⟩ := rw_neg HR.out HPD.out HNQ.out HSG.out (by simp) (fun r e => hz (List.cons.inj e).1) (by rw [HPU.out]; exact hU)
          rw [HPU.out] at hok hU1
          have HE : Hid (X = .ok (-(U : Int), s.data.toList.drop k)) := Lib.hid (by rw [HXX.out]; exact hok)
          have HL : Hid (((s.size : Int) - ((s.data.toList.drop k).length : Int)) = (k : Int)) := Lib.hid (by rw [List.length_drop, HLEN.out]; omega)
          have HWU := Lib.hid (wrapU U hU1 hU)
          clear hc hz hcd hok
          go_wp2
          go_ret3
          rw [HE.out]
          refine ⟨?_, rfl⟩
          rw [HL.out]
          exact congrArg (fun x : Int => Ending.returned (Value.tuple #[.int .i64 x, .int .i64 (k : Int), .int .i64 0])) HWU.out

end Go.Proofs.YtckmajcophpddaaDoor
