/-
  KeysOne: what is read is put as it was: a value has one form. Conditions: none.
-/
import Derived.Test.YtjimbjcfoebimaaKRList
import Derived.Test.YtjimbjcfoebimaaLawKPuts
import Derived.Test.YtjimbjcfoebimaaVSame
import Derived.Deep.RegionWith
import Derived.Outline
set_option linter.unusedVariables false
set_option maxRecDepth 100000
namespace Go.Proofs.Ytjimbjcfoebimaa
open Go.RowKit

set_option maxHeartbeats 8000000 in
theorem lawOne4_any {w : World} {p : Option Addr} {l : List UInt8} (hl : Bs w p l) {n c : Nat} (hn : n = l.length) (hnc : n ≤ c) (hc : c ≤ 9223372036854775807) (hp : p = none → c = 0) :
    Calls Try.prog 7 #[.slice p n c] w fun e w' => e = .returned (.bool true) ∧ Below w.heap.size w w' := by
  have hst := store_flt
  have HP := Lib.hid hp
  clear hp
  by_cases h5 : 5000 < n
  · have h5' : (5000 : Int) < (n : Int) := by omega
    have hc5 : (5000 : Int) ≤ (c : Int) := by omega
    obtain ⟨nn, hnn⟩ : ∃ nn, nn = 5000 := ⟨_, rfl⟩
    have HSRC : Hid (Bs w p (l.take nn)) := Lib.hid (hl.take nn)
    have HNN : Hid (nn = (l.take nn).length) := Lib.hid (by rw [List.length_take]; omega)
    have hnc' : nn ≤ c := by omega
    have hn5 : nn ≤ 5000 := by omega
    generalize l.take nn = LL at *
    subst hnn
    clear hl hn hnc h5
    have HRV := Lib.hid (keysRead_any HSRC.out 5000 c HNN.out hnc' hc (by have := HNN.out; omega))
    obtain ⟨ee, ⟨k0, n0, x0, s0⟩, lv, kk, hxx⟩ : ∃ ee a lv uu, rdV LL = (ee, a, lv, uu) := ⟨_, _, _, _, rfl⟩
    rw [hxx] at HRV
    have HXX := Lib.hid hxx
    clear hxx
    go_enter Try.func7, Try.ntmps7
    go_wp2_with fail
    refine HRV.out.mono ?_
    rintro e w1 ⟨p1, m1, c1, rfl, hm1, hown1, hb1⟩
    have HM1 := Lib.hid hm1
    have HO1 := Lib.hid hown1
    have HB1 := Lib.hid hb1
    have HSRC1 := Lib.hid (HSRC.out.below hb1)
    clear hm1 hown1 hb1 HRV
    obtain ⟨W, hW⟩ : ∃ W, W = w1.alloc (.cells #[.int .i64 k0, .int .i64 n0, .float .f64 x0, .string s0, .slice p1 m1 c1] 27) := ⟨_, rfl⟩
    have HK : Hid (∀ w', Below W.heap.size W w' → (w'.cell? ⟨w1.heap.size, 0, none⟩ = some (.int .i64 k0) ∧ w'.cell? ⟨w1.heap.size, 1, none⟩ = some (.int .i64 n0) ∧ w'.cell? ⟨w1.heap.size, 2, none⟩ = some (.float .f64 x0) ∧ w'.cell? ⟨w1.heap.size, 3, none⟩ = some (.string s0) ∧ w'.cell? ⟨w1.heap.size, 4, none⟩ = some (.slice p1 m1 c1))) := by
      refine Lib.hid fun w' hb => ?_
      rw [hW] at hb
      have h1 := box_all hb
      exact ⟨h1 0, h1 1, h1 2, h1 3, h1 4⟩
    have HW1 : Hid (∀ w', Below W.heap.size W w' → Below w1.heap.size w1 w') := Lib.hid fun w' hb => by rw [hW] at hb; exact box_below hb
    have HWB : Hid (∀ w', Below W.heap.size W w' → Below w.heap.size w w') := Lib.hid fun w' hb => HB1.out.trans ((HW1.out w' hb).mono HB1.out.size)
    have HB0 : Hid (Below W.heap.size W W) := Lib.hid (Below.refl _ _)
    by_cases he : ee = 0
    · subst he
      obtain ⟨v1, v2, v3, v4, v5, v6⟩ := rdV_ok LL (by rw [HXX.out])
      rw [HXX.out] at v1 v2 v3 v4 v5 v6
      dsimp only at v1 v2 v3 v4 v5 v6
      have HVA : Hid (VaOk w1 ⟨k0, n0, x0, s0⟩ p1 m1 c1 lv) := Lib.hid (vaOk_own v1 v2 HM1.out HO1.out)
      have HPUT : Hid (∀ w', Below W.heap.size W w' → Calls Try.prog 14 #[.slice none 0 0, .agg #[.int .i64 k0, .int .i64 n0, .float .f64 x0, .string s0, .slice p1 m1 c1]] w' (PutPost w' (LL.take kk))) := Lib.hid fun w' hb => by
        have h := keysPut_any (w := w') (p := none) (b := []) (Bs.nil _ _) (n0 := 0) (c0 := 0) rfl (by omega) (by omega) (fun _ => rfl) (by simp) (HVA.out.below (HW1.out _ hb))
        unfold putK at h
        rw [if_pos v3, List.nil_append, v6] at h
        exact h
      have hk1 : (0 : Int) < (kk : Int) := by omega
      have hk2 : (kk : Int) ≤ (5000 : Int) := by have := HNN.out; omega
      have hk3 : (kk : Int) ≤ (c : Int) := by omega
      have hd1 : decide ((0 : Int) < (kk : Int)) = true := decide_eq_true hk1
      have hd2 : decide ((kk : Int) ≤ (5000 : Int)) = true := decide_eq_true hk2
      have hd3 : decide (0 < kk) = true := decide_eq_true (by omega)
      have hd4 : decide (kk ≤ 5000) = true := decide_eq_true (by omega)
      have HKK : Hid (kk = (LL.take kk).length) := Lib.hid (by rw [List.length_take]; omega)
      have HE2 : Hid (∀ w', Below W.heap.size W w' → (convert 33 9 (.slice p kk c)).run Try.prog w' = .ok (.string ⟨(LL.take kk).toArray⟩) w') := Lib.hid fun w' hb => str_of ((HSRC1.out.below (HW1.out _ hb)).take kk) HKK.out
      clear v1 v2 v3 v4 v5 v6
      go_wp2_with fail
      rw [← hW]
      replace hW := Lib.hid hW
      have HS6 : ∀ w', Below W.heap.size W w' → (fun w' => w'.cell? ⟨w1.heap.size, 0, none⟩ = some (.int .i64 k0) ∧ w'.cell? ⟨w1.heap.size, 1, none⟩ = some (.int .i64 n0) ∧ w'.cell? ⟨w1.heap.size, 2, none⟩ = some (.float .f64 x0) ∧ w'.cell? ⟨w1.heap.size, 3, none⟩ = some (.string s0) ∧ w'.cell? ⟨w1.heap.size, 4, none⟩ = some (.slice p1 m1 c1) ∧ (convert 33 9 (.slice p kk c)).run Try.prog w' = .ok (.string ⟨(LL.take kk).toArray⟩) w') w' := fun w' hb => by
        obtain ⟨a0, a1, a2, a3, a4⟩ := HK.out _ hb
        exact ⟨a0, a1, a2, a3, a4, HE2.out _ hb⟩
      replace HS6 := Lib.hid HS6
      refine wp_region_held_drew (S := (fun w' => w'.cell? ⟨w1.heap.size, 0, none⟩ = some (.int .i64 k0) ∧ w'.cell? ⟨w1.heap.size, 1, none⟩ = some (.int .i64 n0) ∧ w'.cell? ⟨w1.heap.size, 2, none⟩ = some (.float .f64 x0) ∧ w'.cell? ⟨w1.heap.size, 3, none⟩ = some (.string s0) ∧ w'.cell? ⟨w1.heap.size, 4, none⟩ = some (.slice p1 m1 c1) ∧ (convert 33 9 (.slice p kk c)).run Try.prog w' = .ok (.string ⟨(LL.take kk).toArray⟩) w')) (by kernel_rfl) (HS6.out _ HB0.out.drew) (fun hHeld => ?_)
      refine wpAnyH_take (i := 0) (v := ?_) rfl (by kernel_rfl) (by kernel_rfl) (by kernel_rfl) (fun _ _ _ h => h) (Or.inl ⟨by rfl, ?_⟩) (by assumption) ?_
      rotate_left
      · intro w hSw; (try dsimp only at hSw); go_simp; try with_reducible rfl
      simp only [Act.put, List.getElem_toArray, List.getElem_cons_zero, List.setIfInBounds_toArray, List.set_cons_zero, List.set_cons_succ]
      refine wpAnyH_take (i := 1) (v := ?_) rfl (by kernel_rfl) (by kernel_rfl) (by kernel_rfl) (fun _ _ _ h => h) (Or.inl ⟨by rfl, ?_⟩) (by assumption) ?_
      rotate_left
      · intro w hSw; (try dsimp only at hSw); go_simp; try with_reducible rfl
      simp only [Act.put, List.getElem_toArray, List.getElem_cons_zero, List.getElem_cons_succ, List.setIfInBounds_toArray, List.set_cons_zero, List.set_cons_succ]
      refine wpAnyH_take (i := 2) (v := ?_) rfl (by kernel_rfl) (by kernel_rfl) (by kernel_rfl) (fun _ _ _ h => h) (Or.inl ⟨by rfl, ?_⟩) (by assumption) ?_
      rotate_left
      · intro w hSw; (try dsimp only at hSw); go_simp; try with_reducible rfl
      simp only [Act.put, List.getElem_toArray, List.getElem_cons_zero, List.getElem_cons_succ, List.setIfInBounds_toArray, List.set_cons_zero, List.set_cons_succ]
      refine wpAnyH_take (i := 3) (v := ?_) rfl (by kernel_rfl) (by kernel_rfl) (by kernel_rfl) (fun _ _ _ h => h) (Or.inl ⟨by rfl, ?_⟩) (by assumption) ?_
      rotate_left
      · intro w hSw; (try dsimp only at hSw); go_simp; try with_reducible rfl
      simp only [Act.put, List.getElem_toArray, List.getElem_cons_zero, List.getElem_cons_succ, List.setIfInBounds_toArray, List.set_cons_zero, List.set_cons_succ]
      refine wpAnyH_take (i := 4) (v := ?_) rfl (by kernel_rfl) (by kernel_rfl) (by kernel_rfl) (fun _ _ _ h => h) (Or.inl ⟨by rfl, ?_⟩) (by assumption) ?_
      rotate_left
      · intro w hSw; (try dsimp only at hSw); go_simp; try with_reducible rfl
      simp only [Act.put, List.getElem_toArray, List.getElem_cons_zero, List.getElem_cons_succ, List.setIfInBounds_toArray, List.set_cons_zero, List.set_cons_succ]
      refine wpAnyH_take (i := 5) (v := ?_) rfl (by kernel_rfl) (by kernel_rfl) (by kernel_rfl) (fun _ _ _ h => h) (Or.inl ⟨by rfl, ?_⟩) (by assumption) ?_
      rotate_left
      · intro w hSw; (try dsimp only at hSw); go_simp; try with_reducible rfl
      simp only [Act.put, List.getElem_toArray, List.getElem_cons_zero, List.getElem_cons_succ, List.setIfInBounds_toArray, List.set_cons_zero, List.set_cons_succ]
      refine wpAnyH_take (i := 6) (v := ?_) rfl (by kernel_rfl) (by kernel_rfl) (by kernel_rfl) (fun _ _ _ h => h) (Or.inl ⟨by rfl, ?_⟩) (by assumption) ?_
      rotate_left
      · intro w hSw; (try dsimp only at hSw); go_simp; try with_reducible rfl
      simp only [Act.put, List.getElem_toArray, List.getElem_cons_zero, List.getElem_cons_succ, List.setIfInBounds_toArray, List.set_cons_zero, List.set_cons_succ]
      refine wpAnyH_take (i := 7) (v := ?_) rfl (by kernel_rfl) (by kernel_rfl) (by kernel_rfl) (fun _ _ _ h => h) (Or.inl ⟨by rfl, ?_⟩) (by assumption) ?_
      rotate_left
      · intro w hSw; (try dsimp only at hSw); go_simp; try with_reducible rfl
      simp only [Act.put, List.getElem_toArray, List.getElem_cons_zero, List.getElem_cons_succ, List.setIfInBounds_toArray, List.set_cons_zero, List.set_cons_succ]
      refine wpAnyH_take (i := 8) (v := ?_) rfl (by kernel_rfl) (by kernel_rfl) (by kernel_rfl) (fun _ _ _ h => h) (Or.inl ⟨by rfl, ?_⟩) (by assumption) ?_
      rotate_left
      · intro w hSw; (try dsimp only at hSw); go_simp; try with_reducible rfl
      simp only [Act.put, List.getElem_toArray, List.getElem_cons_zero, List.getElem_cons_succ, List.setIfInBounds_toArray, List.set_cons_zero, List.set_cons_succ]
      refine wpAnyH_take (i := 9) (v := ?_) rfl (by kernel_rfl) (by kernel_rfl) (by kernel_rfl) (fun _ _ _ h => h) (Or.inl ⟨by rfl, ?_⟩) (by assumption) ?_
      rotate_left
      · intro w hSw; (try dsimp only at hSw); go_simp; try with_reducible rfl
      simp only [Act.put, List.getElem_toArray, List.getElem_cons_zero, List.getElem_cons_succ, List.setIfInBounds_toArray, List.set_cons_zero, List.set_cons_succ]
      refine wpAnyH_take (i := 12) (v := ?_) rfl (by kernel_rfl) (by kernel_rfl) (by kernel_rfl) (fun _ _ _ h => h) (Or.inl ⟨by rfl, ?_⟩) (by assumption) ?_
      rotate_left
      · intro w hSw; (try dsimp only at hSw); go_simp; try with_reducible rfl
      simp only [Act.put, List.getElem_toArray, List.getElem_cons_zero, List.getElem_cons_succ, List.setIfInBounds_toArray, List.set_cons_zero, List.set_cons_succ]
      refine wpAnyH_take (i := 13) (v := ?_) rfl (by kernel_rfl) (by kernel_rfl) (by kernel_rfl) (fun _ _ _ h => h) (Or.inl ⟨by rfl, ?_⟩) (by assumption) ?_
      rotate_left
      · intro w hSw; (try dsimp only at hSw); go_simp; try with_reducible rfl
      simp only [Act.put, List.getElem_toArray, List.getElem_cons_zero, List.getElem_cons_succ, List.setIfInBounds_toArray, List.set_cons_zero, List.set_cons_succ]
      refine wpAnyH_take (i := 14) (v := ?_) rfl (by kernel_rfl) (by kernel_rfl) (by kernel_rfl) (fun _ _ _ h => h) (Or.inl ⟨by rfl, ?_⟩) (by assumption) ?_
      rotate_left
      · intro w hSw; (try dsimp only at hSw); go_simp; try with_reducible rfl
      simp only [Act.put, List.getElem_toArray, List.getElem_cons_zero, List.getElem_cons_succ, List.setIfInBounds_toArray, List.set_cons_zero, List.set_cons_succ]
      refine wpAnyH_take (i := 15) (v := ?_) rfl (by kernel_rfl) (by kernel_rfl) (by kernel_rfl) (fun _ _ _ h => h) (Or.inl ⟨by rfl, ?_⟩) (by assumption) ?_
      rotate_left
      · intro w hSw; (try dsimp only at hSw); go_simp; try with_reducible rfl
      simp only [Act.put, List.getElem_toArray, List.getElem_cons_zero, List.getElem_cons_succ, List.setIfInBounds_toArray, List.set_cons_zero, List.set_cons_succ]
      refine wpAnyH_ready (rs := [10]) (by kernel_rfl) (by simp) ?_
      refine AllReadyH.cons rfl (fun K hK => ?_) AllReadyH.nil
      go_simp
      refine (HPUT.out _ HB0.out.drew).mono ?_; rintro e w2 ⟨v2, rfl, ho2, hb2⟩
      have HB2 : Hid (Below W.heap.size W w2) := Lib.hid (HB0.out.drew.trans hb2)
      obtain ⟨p2, c2, rfl, _, _, hs2, _⟩ := ho2.form HKK.out
      have e1 := str_of hs2 (c := c2) HKK.out
      clear hs2 ho2 hb2
      dsimp only
      refine hK.out _ _ (HS6.out _ HB2.out) (fun hHeld => ?_)
      clear hK K
      try simp only [Act.put, List.getElem_toArray, List.getElem_cons_zero, List.getElem_cons_succ, List.setIfInBounds_toArray, List.set_cons_zero, List.set_cons_succ]
      refine wpAnyH_ready (rs := [11]) (by kernel_rfl) (by simp) ?_
      refine AllReadyH.cons rfl (fun K hK => ?_) AllReadyH.nil
      go_simp
      try dsimp only
      refine hK.out _ _ (HS6.out _ HB2.out) (fun hHeld => ?_)
      clear hK K
      try simp only [Act.put, List.getElem_toArray, List.getElem_cons_zero, List.getElem_cons_succ, List.setIfInBounds_toArray, List.set_cons_zero, List.set_cons_succ]
      refine wpAnyH_take (i := 16) (v := ?_) rfl (by kernel_rfl) (by kernel_rfl) (by kernel_rfl) (fun _ _ _ h => h) (Or.inl ⟨by rfl, ?_⟩) (by assumption) ?_
      rotate_left
      · intro w hSw; (try dsimp only at hSw); go_simp; try with_reducible rfl
      simp only [Act.put, List.getElem_toArray, List.getElem_cons_zero, List.getElem_cons_succ, List.setIfInBounds_toArray, List.set_cons_zero, List.set_cons_succ]
      refine wpAnyH_take (i := 17) (v := ?_) rfl (by kernel_rfl) (by kernel_rfl) (by kernel_rfl) (fun _ _ _ h => h) (Or.inl ⟨by rfl, ?_⟩) (by assumption) ?_
      rotate_left
      · intro w hSw; (try dsimp only at hSw); go_simp; try with_reducible rfl
      simp only [Act.put, List.getElem_toArray, List.getElem_cons_zero, List.getElem_cons_succ, List.setIfInBounds_toArray, List.set_cons_zero, List.set_cons_succ]
      refine wpAnyH_take (i := 18) (v := ?_) rfl (by kernel_rfl) (by kernel_rfl) (by kernel_rfl) (fun _ _ _ h => h) (Or.inl ⟨by rfl, ?_⟩) (by assumption) ?_
      rotate_left
      · intro w hSw; (try dsimp only at hSw); go_simp; try with_reducible rfl
      simp only [Act.put, List.getElem_toArray, List.getElem_cons_zero, List.getElem_cons_succ, List.setIfInBounds_toArray, List.set_cons_zero, List.set_cons_succ]
      refine wpAnyH_done (by kernel_rfl) ?_ _
      go_wp2
      go_ret
      exact ⟨rfl, HWB.out _ HB2.out⟩
    · obtain ⟨v1, v2, v3⟩ := rdV_no LL (by rw [HXX.out]; exact he)
      rw [HXX.out] at v1 v2 v3
      dsimp only at v1 v2 v3
      have he' : (ee != 0) = true := by simpa using he
      have v1' := v1
      unfold at0 at v1'
      simp only [At.mk.injEq] at v1'
      obtain ⟨rfl, rfl, rfl, rfl⟩ := v1'
      subst v2 v3
      have hm0 : m1 = 0 := HM1.out
      subst hm0
      have HSM : Hid (∀ w', Below W.heap.size W w' → Calls Try.prog 21 #[.agg #[.int .i64 0, .int .i64 0, .float .f64 0, .string ⟨#[]⟩, .slice p1 0 c1], .agg #[.int .i64 0, .int .i64 0, .float .f64 0, .string ⟨#[]⟩, .slice none 0 0]] w' fun e w'' => e = .returned (.bool true) ∧ Below w'.heap.size w' w'') := Lib.hid fun w' hb => by
        have hva : VaOk w1 ⟨0, 0, 0, ⟨#[]⟩⟩ p1 0 c1 [] := vaOk_own (vaOk_null w1).ok (by simp) rfl HO1.out
        have h := same_any (hva.below (HW1.out _ hb)) (vaOk_null w')
        have h2 : sameV ⟨0, 0, 0, ⟨#[]⟩⟩ [] ⟨0, 0, 0, ⟨#[]⟩⟩ [] = true := (sameV_iff _ _ _ _).2 ⟨rfl, rfl⟩
        rw [h2] at h
        exact h
      have HPN := Lib.hid putNull_any
      have hv0 : ((0 : Nat) : Int) = 0 := rfl
      clear v1 he HXX HM1
      go_wp2_with fail
      rw [← hW]
      replace hW := Lib.hid hW
      refine (HSM.out _ HB0.out).mono ?_; rintro e w3 ⟨rfl, hb3⟩
      have HB3 : Hid (Below W.heap.size W w3) := Lib.hid hb3
      clear hb3
      go_wp2_with fail
      refine (HPN.out _).mono ?_; rintro e w4 ⟨v4, rfl, ho4, hb4⟩
      have HB4 : Hid (Below W.heap.size W w4) := Lib.hid (HB3.out.trans (hb4.mono HB3.out.size))
      obtain ⟨p4, c4, rfl, _, _, hs4, _⟩ := ho4.form (n := 1) rfl
      have e4 := str_of hs4 (n := 1) (c := c4) rfl
      clear ho4 hb4 hs4
      go_wp2
      go_ret
      exact ⟨rfl, HWB.out _ HB4.out⟩
  · have h5' : ¬ (5000 : Int) < (n : Int) := by omega
    have HSRC : Hid (Bs w p l) := Lib.hid hl
    have HNN : Hid (n = l.length) := Lib.hid hn
    have hnc' : n ≤ c := hnc
    have hn5 : n ≤ 5000 := by omega
    clear hl hn hnc h5
    have HRV := Lib.hid (keysRead_any HSRC.out n c HNN.out hnc' hc (by have := HNN.out; omega))
    obtain ⟨ee, ⟨k0, n0, x0, s0⟩, lv, kk, hxx⟩ : ∃ ee a lv uu, rdV l = (ee, a, lv, uu) := ⟨_, _, _, _, rfl⟩
    rw [hxx] at HRV
    have HXX := Lib.hid hxx
    clear hxx
    go_enter Try.func7, Try.ntmps7
    go_wp2_with fail
    refine HRV.out.mono ?_
    rintro e w1 ⟨p1, m1, c1, rfl, hm1, hown1, hb1⟩
    have HM1 := Lib.hid hm1
    have HO1 := Lib.hid hown1
    have HB1 := Lib.hid hb1
    have HSRC1 := Lib.hid (HSRC.out.below hb1)
    clear hm1 hown1 hb1 HRV
    obtain ⟨W, hW⟩ : ∃ W, W = w1.alloc (.cells #[.int .i64 k0, .int .i64 n0, .float .f64 x0, .string s0, .slice p1 m1 c1] 27) := ⟨_, rfl⟩
    have HK : Hid (∀ w', Below W.heap.size W w' → (w'.cell? ⟨w1.heap.size, 0, none⟩ = some (.int .i64 k0) ∧ w'.cell? ⟨w1.heap.size, 1, none⟩ = some (.int .i64 n0) ∧ w'.cell? ⟨w1.heap.size, 2, none⟩ = some (.float .f64 x0) ∧ w'.cell? ⟨w1.heap.size, 3, none⟩ = some (.string s0) ∧ w'.cell? ⟨w1.heap.size, 4, none⟩ = some (.slice p1 m1 c1))) := by
      refine Lib.hid fun w' hb => ?_
      rw [hW] at hb
      have h1 := box_all hb
      exact ⟨h1 0, h1 1, h1 2, h1 3, h1 4⟩
    have HW1 : Hid (∀ w', Below W.heap.size W w' → Below w1.heap.size w1 w') := Lib.hid fun w' hb => by rw [hW] at hb; exact box_below hb
    have HWB : Hid (∀ w', Below W.heap.size W w' → Below w.heap.size w w') := Lib.hid fun w' hb => HB1.out.trans ((HW1.out w' hb).mono HB1.out.size)
    have HB0 : Hid (Below W.heap.size W W) := Lib.hid (Below.refl _ _)
    by_cases he : ee = 0
    · subst he
      obtain ⟨v1, v2, v3, v4, v5, v6⟩ := rdV_ok l (by rw [HXX.out])
      rw [HXX.out] at v1 v2 v3 v4 v5 v6
      dsimp only at v1 v2 v3 v4 v5 v6
      have HVA : Hid (VaOk w1 ⟨k0, n0, x0, s0⟩ p1 m1 c1 lv) := Lib.hid (vaOk_own v1 v2 HM1.out HO1.out)
      have HPUT : Hid (∀ w', Below W.heap.size W w' → Calls Try.prog 14 #[.slice none 0 0, .agg #[.int .i64 k0, .int .i64 n0, .float .f64 x0, .string s0, .slice p1 m1 c1]] w' (PutPost w' (l.take kk))) := Lib.hid fun w' hb => by
        have h := keysPut_any (w := w') (p := none) (b := []) (Bs.nil _ _) (n0 := 0) (c0 := 0) rfl (by omega) (by omega) (fun _ => rfl) (by simp) (HVA.out.below (HW1.out _ hb))
        unfold putK at h
        rw [if_pos v3, List.nil_append, v6] at h
        exact h
      have hk1 : (0 : Int) < (kk : Int) := by omega
      have hk2 : (kk : Int) ≤ (n : Int) := by have := HNN.out; omega
      have hk3 : (kk : Int) ≤ (c : Int) := by omega
      have hd1 : decide ((0 : Int) < (kk : Int)) = true := decide_eq_true hk1
      have hd2 : decide ((kk : Int) ≤ (n : Int)) = true := decide_eq_true hk2
      have hd3 : decide (0 < kk) = true := decide_eq_true (by omega)
      have hd4 : decide (kk ≤ n) = true := decide_eq_true (by omega)
      have HKK : Hid (kk = (l.take kk).length) := Lib.hid (by rw [List.length_take]; omega)
      have HE2 : Hid (∀ w', Below W.heap.size W w' → (convert 33 9 (.slice p kk c)).run Try.prog w' = .ok (.string ⟨(l.take kk).toArray⟩) w') := Lib.hid fun w' hb => str_of ((HSRC1.out.below (HW1.out _ hb)).take kk) HKK.out
      clear v1 v2 v3 v4 v5 v6
      go_wp2_with fail
      rw [← hW]
      replace hW := Lib.hid hW
      have HS6 : ∀ w', Below W.heap.size W w' → (fun w' => w'.cell? ⟨w1.heap.size, 0, none⟩ = some (.int .i64 k0) ∧ w'.cell? ⟨w1.heap.size, 1, none⟩ = some (.int .i64 n0) ∧ w'.cell? ⟨w1.heap.size, 2, none⟩ = some (.float .f64 x0) ∧ w'.cell? ⟨w1.heap.size, 3, none⟩ = some (.string s0) ∧ w'.cell? ⟨w1.heap.size, 4, none⟩ = some (.slice p1 m1 c1) ∧ (convert 33 9 (.slice p kk c)).run Try.prog w' = .ok (.string ⟨(l.take kk).toArray⟩) w') w' := fun w' hb => by
        obtain ⟨a0, a1, a2, a3, a4⟩ := HK.out _ hb
        exact ⟨a0, a1, a2, a3, a4, HE2.out _ hb⟩
      replace HS6 := Lib.hid HS6
      refine wp_region_held_drew (S := (fun w' => w'.cell? ⟨w1.heap.size, 0, none⟩ = some (.int .i64 k0) ∧ w'.cell? ⟨w1.heap.size, 1, none⟩ = some (.int .i64 n0) ∧ w'.cell? ⟨w1.heap.size, 2, none⟩ = some (.float .f64 x0) ∧ w'.cell? ⟨w1.heap.size, 3, none⟩ = some (.string s0) ∧ w'.cell? ⟨w1.heap.size, 4, none⟩ = some (.slice p1 m1 c1) ∧ (convert 33 9 (.slice p kk c)).run Try.prog w' = .ok (.string ⟨(l.take kk).toArray⟩) w')) (by kernel_rfl) (HS6.out _ HB0.out.drew) (fun hHeld => ?_)
      refine wpAnyH_take (i := 0) (v := ?_) rfl (by kernel_rfl) (by kernel_rfl) (by kernel_rfl) (fun _ _ _ h => h) (Or.inl ⟨by rfl, ?_⟩) (by assumption) ?_
      rotate_left
      · intro w hSw; (try dsimp only at hSw); go_simp; try with_reducible rfl
      simp only [Act.put, List.getElem_toArray, List.getElem_cons_zero, List.setIfInBounds_toArray, List.set_cons_zero, List.set_cons_succ]
      refine wpAnyH_take (i := 1) (v := ?_) rfl (by kernel_rfl) (by kernel_rfl) (by kernel_rfl) (fun _ _ _ h => h) (Or.inl ⟨by rfl, ?_⟩) (by assumption) ?_
      rotate_left
      · intro w hSw; (try dsimp only at hSw); go_simp; try with_reducible rfl
      simp only [Act.put, List.getElem_toArray, List.getElem_cons_zero, List.getElem_cons_succ, List.setIfInBounds_toArray, List.set_cons_zero, List.set_cons_succ]
      refine wpAnyH_take (i := 2) (v := ?_) rfl (by kernel_rfl) (by kernel_rfl) (by kernel_rfl) (fun _ _ _ h => h) (Or.inl ⟨by rfl, ?_⟩) (by assumption) ?_
      rotate_left
      · intro w hSw; (try dsimp only at hSw); go_simp; try with_reducible rfl
      simp only [Act.put, List.getElem_toArray, List.getElem_cons_zero, List.getElem_cons_succ, List.setIfInBounds_toArray, List.set_cons_zero, List.set_cons_succ]
      refine wpAnyH_take (i := 3) (v := ?_) rfl (by kernel_rfl) (by kernel_rfl) (by kernel_rfl) (fun _ _ _ h => h) (Or.inl ⟨by rfl, ?_⟩) (by assumption) ?_
      rotate_left
      · intro w hSw; (try dsimp only at hSw); go_simp; try with_reducible rfl
      simp only [Act.put, List.getElem_toArray, List.getElem_cons_zero, List.getElem_cons_succ, List.setIfInBounds_toArray, List.set_cons_zero, List.set_cons_succ]
      refine wpAnyH_take (i := 4) (v := ?_) rfl (by kernel_rfl) (by kernel_rfl) (by kernel_rfl) (fun _ _ _ h => h) (Or.inl ⟨by rfl, ?_⟩) (by assumption) ?_
      rotate_left
      · intro w hSw; (try dsimp only at hSw); go_simp; try with_reducible rfl
      simp only [Act.put, List.getElem_toArray, List.getElem_cons_zero, List.getElem_cons_succ, List.setIfInBounds_toArray, List.set_cons_zero, List.set_cons_succ]
      refine wpAnyH_take (i := 5) (v := ?_) rfl (by kernel_rfl) (by kernel_rfl) (by kernel_rfl) (fun _ _ _ h => h) (Or.inl ⟨by rfl, ?_⟩) (by assumption) ?_
      rotate_left
      · intro w hSw; (try dsimp only at hSw); go_simp; try with_reducible rfl
      simp only [Act.put, List.getElem_toArray, List.getElem_cons_zero, List.getElem_cons_succ, List.setIfInBounds_toArray, List.set_cons_zero, List.set_cons_succ]
      refine wpAnyH_take (i := 6) (v := ?_) rfl (by kernel_rfl) (by kernel_rfl) (by kernel_rfl) (fun _ _ _ h => h) (Or.inl ⟨by rfl, ?_⟩) (by assumption) ?_
      rotate_left
      · intro w hSw; (try dsimp only at hSw); go_simp; try with_reducible rfl
      simp only [Act.put, List.getElem_toArray, List.getElem_cons_zero, List.getElem_cons_succ, List.setIfInBounds_toArray, List.set_cons_zero, List.set_cons_succ]
      refine wpAnyH_take (i := 7) (v := ?_) rfl (by kernel_rfl) (by kernel_rfl) (by kernel_rfl) (fun _ _ _ h => h) (Or.inl ⟨by rfl, ?_⟩) (by assumption) ?_
      rotate_left
      · intro w hSw; (try dsimp only at hSw); go_simp; try with_reducible rfl
      simp only [Act.put, List.getElem_toArray, List.getElem_cons_zero, List.getElem_cons_succ, List.setIfInBounds_toArray, List.set_cons_zero, List.set_cons_succ]
      refine wpAnyH_take (i := 8) (v := ?_) rfl (by kernel_rfl) (by kernel_rfl) (by kernel_rfl) (fun _ _ _ h => h) (Or.inl ⟨by rfl, ?_⟩) (by assumption) ?_
      rotate_left
      · intro w hSw; (try dsimp only at hSw); go_simp; try with_reducible rfl
      simp only [Act.put, List.getElem_toArray, List.getElem_cons_zero, List.getElem_cons_succ, List.setIfInBounds_toArray, List.set_cons_zero, List.set_cons_succ]
      refine wpAnyH_take (i := 9) (v := ?_) rfl (by kernel_rfl) (by kernel_rfl) (by kernel_rfl) (fun _ _ _ h => h) (Or.inl ⟨by rfl, ?_⟩) (by assumption) ?_
      rotate_left
      · intro w hSw; (try dsimp only at hSw); go_simp; try with_reducible rfl
      simp only [Act.put, List.getElem_toArray, List.getElem_cons_zero, List.getElem_cons_succ, List.setIfInBounds_toArray, List.set_cons_zero, List.set_cons_succ]
      refine wpAnyH_take (i := 12) (v := ?_) rfl (by kernel_rfl) (by kernel_rfl) (by kernel_rfl) (fun _ _ _ h => h) (Or.inl ⟨by rfl, ?_⟩) (by assumption) ?_
      rotate_left
      · intro w hSw; (try dsimp only at hSw); go_simp; try with_reducible rfl
      simp only [Act.put, List.getElem_toArray, List.getElem_cons_zero, List.getElem_cons_succ, List.setIfInBounds_toArray, List.set_cons_zero, List.set_cons_succ]
      refine wpAnyH_take (i := 13) (v := ?_) rfl (by kernel_rfl) (by kernel_rfl) (by kernel_rfl) (fun _ _ _ h => h) (Or.inl ⟨by rfl, ?_⟩) (by assumption) ?_
      rotate_left
      · intro w hSw; (try dsimp only at hSw); go_simp; try with_reducible rfl
      simp only [Act.put, List.getElem_toArray, List.getElem_cons_zero, List.getElem_cons_succ, List.setIfInBounds_toArray, List.set_cons_zero, List.set_cons_succ]
      refine wpAnyH_take (i := 14) (v := ?_) rfl (by kernel_rfl) (by kernel_rfl) (by kernel_rfl) (fun _ _ _ h => h) (Or.inl ⟨by rfl, ?_⟩) (by assumption) ?_
      rotate_left
      · intro w hSw; (try dsimp only at hSw); go_simp; try with_reducible rfl
      simp only [Act.put, List.getElem_toArray, List.getElem_cons_zero, List.getElem_cons_succ, List.setIfInBounds_toArray, List.set_cons_zero, List.set_cons_succ]
      refine wpAnyH_take (i := 15) (v := ?_) rfl (by kernel_rfl) (by kernel_rfl) (by kernel_rfl) (fun _ _ _ h => h) (Or.inl ⟨by rfl, ?_⟩) (by assumption) ?_
      rotate_left
      · intro w hSw; (try dsimp only at hSw); go_simp; try with_reducible rfl
      simp only [Act.put, List.getElem_toArray, List.getElem_cons_zero, List.getElem_cons_succ, List.setIfInBounds_toArray, List.set_cons_zero, List.set_cons_succ]
      refine wpAnyH_ready (rs := [10]) (by kernel_rfl) (by simp) ?_
      refine AllReadyH.cons rfl (fun K hK => ?_) AllReadyH.nil
      go_simp
      refine (HPUT.out _ HB0.out.drew).mono ?_; rintro e w2 ⟨v2, rfl, ho2, hb2⟩
      have HB2 : Hid (Below W.heap.size W w2) := Lib.hid (HB0.out.drew.trans hb2)
      obtain ⟨p2, c2, rfl, _, _, hs2, _⟩ := ho2.form HKK.out
      have e1 := str_of hs2 (c := c2) HKK.out
      clear hs2 ho2 hb2
      dsimp only
      refine hK.out _ _ (HS6.out _ HB2.out) (fun hHeld => ?_)
      clear hK K
      try simp only [Act.put, List.getElem_toArray, List.getElem_cons_zero, List.getElem_cons_succ, List.setIfInBounds_toArray, List.set_cons_zero, List.set_cons_succ]
      refine wpAnyH_ready (rs := [11]) (by kernel_rfl) (by simp) ?_
      refine AllReadyH.cons rfl (fun K hK => ?_) AllReadyH.nil
      go_simp
      try dsimp only
      refine hK.out _ _ (HS6.out _ HB2.out) (fun hHeld => ?_)
      clear hK K
      try simp only [Act.put, List.getElem_toArray, List.getElem_cons_zero, List.getElem_cons_succ, List.setIfInBounds_toArray, List.set_cons_zero, List.set_cons_succ]
      refine wpAnyH_take (i := 16) (v := ?_) rfl (by kernel_rfl) (by kernel_rfl) (by kernel_rfl) (fun _ _ _ h => h) (Or.inl ⟨by rfl, ?_⟩) (by assumption) ?_
      rotate_left
      · intro w hSw; (try dsimp only at hSw); go_simp; try with_reducible rfl
      simp only [Act.put, List.getElem_toArray, List.getElem_cons_zero, List.getElem_cons_succ, List.setIfInBounds_toArray, List.set_cons_zero, List.set_cons_succ]
      refine wpAnyH_take (i := 17) (v := ?_) rfl (by kernel_rfl) (by kernel_rfl) (by kernel_rfl) (fun _ _ _ h => h) (Or.inl ⟨by rfl, ?_⟩) (by assumption) ?_
      rotate_left
      · intro w hSw; (try dsimp only at hSw); go_simp; try with_reducible rfl
      simp only [Act.put, List.getElem_toArray, List.getElem_cons_zero, List.getElem_cons_succ, List.setIfInBounds_toArray, List.set_cons_zero, List.set_cons_succ]
      refine wpAnyH_take (i := 18) (v := ?_) rfl (by kernel_rfl) (by kernel_rfl) (by kernel_rfl) (fun _ _ _ h => h) (Or.inl ⟨by rfl, ?_⟩) (by assumption) ?_
      rotate_left
      · intro w hSw; (try dsimp only at hSw); go_simp; try with_reducible rfl
      simp only [Act.put, List.getElem_toArray, List.getElem_cons_zero, List.getElem_cons_succ, List.setIfInBounds_toArray, List.set_cons_zero, List.set_cons_succ]
      refine wpAnyH_done (by kernel_rfl) ?_ _
      go_wp2
      go_ret
      exact ⟨rfl, HWB.out _ HB2.out⟩
    · obtain ⟨v1, v2, v3⟩ := rdV_no l (by rw [HXX.out]; exact he)
      rw [HXX.out] at v1 v2 v3
      dsimp only at v1 v2 v3
      have he' : (ee != 0) = true := by simpa using he
      have v1' := v1
      unfold at0 at v1'
      simp only [At.mk.injEq] at v1'
      obtain ⟨rfl, rfl, rfl, rfl⟩ := v1'
      subst v2 v3
      have hm0 : m1 = 0 := HM1.out
      subst hm0
      have HSM : Hid (∀ w', Below W.heap.size W w' → Calls Try.prog 21 #[.agg #[.int .i64 0, .int .i64 0, .float .f64 0, .string ⟨#[]⟩, .slice p1 0 c1], .agg #[.int .i64 0, .int .i64 0, .float .f64 0, .string ⟨#[]⟩, .slice none 0 0]] w' fun e w'' => e = .returned (.bool true) ∧ Below w'.heap.size w' w'') := Lib.hid fun w' hb => by
        have hva : VaOk w1 ⟨0, 0, 0, ⟨#[]⟩⟩ p1 0 c1 [] := vaOk_own (vaOk_null w1).ok (by simp) rfl HO1.out
        have h := same_any (hva.below (HW1.out _ hb)) (vaOk_null w')
        have h2 : sameV ⟨0, 0, 0, ⟨#[]⟩⟩ [] ⟨0, 0, 0, ⟨#[]⟩⟩ [] = true := (sameV_iff _ _ _ _).2 ⟨rfl, rfl⟩
        rw [h2] at h
        exact h
      have HPN := Lib.hid putNull_any
      have hv0 : ((0 : Nat) : Int) = 0 := rfl
      clear v1 he HXX HM1
      go_wp2_with fail
      rw [← hW]
      replace hW := Lib.hid hW
      refine (HSM.out _ HB0.out).mono ?_; rintro e w3 ⟨rfl, hb3⟩
      have HB3 : Hid (Below W.heap.size W w3) := Lib.hid hb3
      clear hb3
      go_wp2_with fail
      refine (HPN.out _).mono ?_; rintro e w4 ⟨v4, rfl, ho4, hb4⟩
      have HB4 : Hid (Below W.heap.size W w4) := Lib.hid (HB3.out.trans (hb4.mono HB3.out.size))
      obtain ⟨p4, c4, rfl, _, _, hs4, _⟩ := ho4.form (n := 1) rfl
      have e4 := str_of hs4 (n := 1) (c := c4) rfl
      clear ho4 hb4 hs4
      go_wp2
      go_ret
      exact ⟨rfl, HWB.out _ HB4.out⟩

end Go.Proofs.Ytjimbjcfoebimaa
