/-
  OrderKeeps' walk: numbers, and texts, are in the order of what is put, whatever stands behind.
-/
import Derived.Test.YtlonbkkalnobeaaRows
import Derived.Test.YtlonbkkalnobeaaPText
import Derived.Test.YtlonbkkalnobeaaCmp
import Derived.Test.YtlonbkkalnobeaaOrd
import Derived.Test.YtlonbkkalnobeaaBytes2
import Derived.Deep.RegionHeld3
import Derived.Deep.QuietTactic
import Derived.BigQuiet
set_option linter.unusedVariables false
namespace Go.Proofs.Ytlonbkkalnobeaa
open Go.RowKit

set_option maxHeartbeats 3200000 in
set_option maxRecDepth 100000 in
theorem lawKeeps_small {w : World} (n0 n1 : Int) (a0 : -9223372036854775808 ≤ n0) (b0 : n0 ≤ 9223372036854775807) (a1 : -9223372036854775808 ≤ n1) (b1 : n1 ≤ 9223372036854775807) (s0 s1 : List UInt8)
    {q0 q1 : Option Addr} {l0 l1 : List UInt8} (k0 d0 k1 d1 : Nat) (hk0 : k0 = l0.length) (hk1 : k1 = l1.length) (hl0 : Bs w q0 l0) (hl1 : Bs w q1 l1) (hq0 : q0 = none → d0 = 0) (hq1 : q1 = none → d1 = 0)
    (hsum : s0.length + s1.length + k0 + k1 ≤ 3000) :
    Calls Try.prog 8 #[.agg #[.int .i64 n0, .int .i64 n1], .agg #[.string ⟨s0.toArray⟩, .string ⟨s1.toArray⟩], .agg #[.slice q0 k0 d0, .slice q1 k1 d1]] w fun e w' => e = .returned (.bool true) ∧ Below w.heap.size w w' := by
  have hadd : ((s0.length : Int) + (s1.length : Int) + (k0 : Int) + (k1 : Int)) ≤ 3000 := by omega
  have r0 : s0.length ≤ 3000 := by omega
  have r1 : s1.length ≤ 3000 := by omega
  have r2 : k0 ≤ 3000 := by omega
  have r3 : k1 ≤ 3000 := by omega
  have HMa0 := Lib.hid a0
  have HMb0 := Lib.hid b0
  have HMa1 := Lib.hid a1
  have HMb1 := Lib.hid b1
  have HK0 := Lib.hid hk0
  have HK1 := Lib.hid hk1
  have HQ0 := Lib.hid hq0
  have HQ1 := Lib.hid hq1
  have HL0 := Lib.hid hl0
  have HL1 := Lib.hid hl1
  clear a0 b0 a1 b1 hk0 hk1 hq0 hq1 hl0 hl1 hsum
  go_enter Try.func8, Try.ntmps8
  go_wp2_with fail
  obtain ⟨hx1, hx2, hx3, hx4, hx5⟩ := boxes3 w #[.int .i64 n0, .int .i64 n1] #[.string ⟨s0.toArray⟩, .string ⟨s1.toArray⟩] #[.slice q0 k0 d0, .slice q1 k1 d1] 41 42 43
  generalize ((w.alloc (.cells #[.int .i64 n0, .int .i64 n1] 41)).alloc (.cells #[.string ⟨s0.toArray⟩, .string ⟨s1.toArray⟩] 42)).alloc (.cells #[.slice q0 k0 d0, .slice q1 k1 d1] 43) = W at hx1 hx2 hx3 hx4 hx5 ⊢
  have HW := Lib.hid hx4
  have HLW0 := Lib.hid (HL0.out.below hx4)
  have HLW1 := Lib.hid (HL1.out.below hx4)
  obtain ⟨N, hN⟩ : ∃ N, w.heap.size = N := ⟨_, rfl⟩
  rw [hN] at hx1 hx2 hx3 hx5
  have hkeep : ∀ w', Below W.heap.size W w' → w'.cell? ⟨N, 0, none⟩ = some (.int .i64 n0) ∧ w'.cell? ⟨N, 1, none⟩ = some (.int .i64 n1) ∧ w'.cell? ⟨N + 1, 0, none⟩ = some (.string ⟨s0.toArray⟩) ∧ w'.cell? ⟨N + 1, 1, none⟩ = some (.string ⟨s1.toArray⟩) ∧ w'.cell? ⟨N + 2, 0, none⟩ = some (.slice q0 k0 d0) ∧ w'.cell? ⟨N + 2, 1, none⟩ = some (.slice q1 k1 d1) := by
    intro w' hb
    have e1 : w'.heap[N]? = W.heap[N]? := hb.block _ (by omega)
    have e2 : w'.heap[N + 1]? = W.heap[N + 1]? := hb.block _ (by omega)
    have e3 : w'.heap[N + 2]? = W.heap[N + 2]? := hb.block _ (by omega)
    rw [hx1] at e1
    rw [hx2] at e2
    rw [hx3] at e3
    exact ⟨Joins.cell_of_block e1 0, Joins.cell_of_block e1 1, Joins.cell_of_block e2 0, Joins.cell_of_block e2 1, Joins.cell_of_block e3 0, Joins.cell_of_block e3 1⟩
  have HKN := Lib.hid hkeep
  have HN := Lib.hid hN
  rw [hN]
  clear hx1 hx2 hx3 hx4 hx5 hkeep hN
  go_region_held3 (fun w' => w'.cell? ⟨N, 0, none⟩ = some (.int .i64 n0) ∧ w'.cell? ⟨N, 1, none⟩ = some (.int .i64 n1) ∧ w'.cell? ⟨N + 1, 0, none⟩ = some (.string ⟨s0.toArray⟩) ∧ w'.cell? ⟨N + 1, 1, none⟩ = some (.string ⟨s1.toArray⟩) ∧ w'.cell? ⟨N + 2, 0, none⟩ = some (.slice q0 k0 d0) ∧ w'.cell? ⟨N + 2, 1, none⟩ = some (.slice q1 k1 d1))
    (first | exact HKN.out _ (Below.refl W.heap.size W).drew | exact HKN.out _ HB2.out | exact HKN.out _ HB1.out)
    (first
      | (go_at_call 11; refine (putInt_any (l := []) (Bs.nil _ none) 0 0 rfl (by omega) (by omega) (by simp) n0 HMa0.out HMb0.out).mono ?_; rintro e w1 ⟨v, rfl, ho, hb⟩; rw [List.nil_append] at ho; have HC1 : Hid (Below W.heap.size W w1) := Lib.hid ((Below.refl W.heap.size W).drew.trans hb); have HB1 : Hid (Below W.heap.size W w1) := Lib.hid ((Below.refl W.heap.size W).trans (HC1.out.mono (Below.refl W.heap.size W).size)); have HO1 := Lib.hid ho; clear ho hb)
      | (refine step_app rfl (.tmp 29) (.tmp 31) rfl rfl HO1.out HK0.out rfl (HLW0.out.below HB1.out) HQ0.out (by rw [be8_length]; have := HK0.out; omega) HC1.out.size ?_; intro v2 w2 ho hb; have HO2 := Lib.hid ho; have HC2 : Hid (Below W.heap.size W w2) := Lib.hid (HC1.out.trans hb); have HB2 : Hid (Below W.heap.size W w2) := Lib.hid ((Below.refl W.heap.size W).trans (HC2.out.mono (Below.refl W.heap.size W).size)); clear ho hb))
  go_wp2_with fail
  go_region_held3 (fun w' => w'.cell? ⟨N, 0, none⟩ = some (.int .i64 n0) ∧ w'.cell? ⟨N, 1, none⟩ = some (.int .i64 n1) ∧ w'.cell? ⟨N + 1, 0, none⟩ = some (.string ⟨s0.toArray⟩) ∧ w'.cell? ⟨N + 1, 1, none⟩ = some (.string ⟨s1.toArray⟩) ∧ w'.cell? ⟨N + 2, 0, none⟩ = some (.slice q0 k0 d0) ∧ w'.cell? ⟨N + 2, 1, none⟩ = some (.slice q1 k1 d1))
    (first | exact HKN.out _ HB2.out.drew | exact HKN.out _ HB4.out | exact HKN.out _ HB3.out)
    (first
      | (go_at_call 11; refine (putInt_any (l := []) (Bs.nil _ none) 0 0 rfl (by omega) (by omega) (by simp) n1 HMa1.out HMb1.out).mono ?_; rintro e w3 ⟨v, rfl, ho, hb⟩; rw [List.nil_append] at ho; have HC3 : Hid (Below w2.heap.size w2 w3) := Lib.hid ((Below.refl w2.heap.size w2).drew.trans hb); have HB3 : Hid (Below W.heap.size W w3) := Lib.hid (HB2.out.trans (HC3.out.mono HB2.out.size)); have HO3 := Lib.hid ho; clear ho hb)
      | (refine step_app rfl (.tmp 35) (.tmp 37) rfl rfl HO3.out HK1.out rfl (HLW1.out.below HB3.out) HQ1.out (by rw [be8_length]; have := HK1.out; omega) HC3.out.size ?_; intro v4 w4 ho hb; have HO4 := Lib.hid ho; have HC4 : Hid (Below w2.heap.size w2 w4) := Lib.hid (HC3.out.trans hb); have HB4 : Hid (Below W.heap.size W w4) := Lib.hid (HB2.out.trans (HC4.out.mono HB2.out.size)); clear ho hb))
  go_wp2_with fail
  go_region_held3 (fun w' => w'.cell? ⟨N, 0, none⟩ = some (.int .i64 n0) ∧ w'.cell? ⟨N, 1, none⟩ = some (.int .i64 n1) ∧ w'.cell? ⟨N + 1, 0, none⟩ = some (.string ⟨s0.toArray⟩) ∧ w'.cell? ⟨N + 1, 1, none⟩ = some (.string ⟨s1.toArray⟩) ∧ w'.cell? ⟨N + 2, 0, none⟩ = some (.slice q0 k0 d0) ∧ w'.cell? ⟨N + 2, 1, none⟩ = some (.slice q1 k1 d1))
    (first | exact HKN.out _ HB4.out.drew | exact HKN.out _ HB6.out | exact HKN.out _ HB5.out)
    (first
      | (go_at_call 13; refine (putText_any (l := []) (Bs.nil _ none) 0 0 rfl (by omega) (by omega) (by simp) ⟨s0.toArray⟩ s0 rfl (by show s0.length ≤ 100000; omega)).mono ?_; rintro e w5 ⟨v, rfl, ho, hb⟩; rw [List.nil_append] at ho; have HC5 : Hid (Below w4.heap.size w4 w5) := Lib.hid ((Below.refl w4.heap.size w4).drew.trans hb); have HB5 : Hid (Below W.heap.size W w5) := Lib.hid (HB4.out.trans (HC5.out.mono HB4.out.size)); have HO5 := Lib.hid ho; clear ho hb)
      | (refine step_app rfl (.tmp 41) (.tmp 43) rfl rfl HO5.out HK0.out rfl (HLW0.out.below HB5.out) HQ0.out (by have := HK0.out; have h1 := txt_length s0; have h2 := esc_length s0; omega) HC5.out.size ?_; intro v6 w6 ho hb; have HO6 := Lib.hid ho; have HC6 : Hid (Below w4.heap.size w4 w6) := Lib.hid (HC5.out.trans hb); have HB6 : Hid (Below W.heap.size W w6) := Lib.hid (HB4.out.trans (HC6.out.mono HB4.out.size)); clear ho hb))
  go_wp2_with fail
  go_region_held3 (fun w' => w'.cell? ⟨N, 0, none⟩ = some (.int .i64 n0) ∧ w'.cell? ⟨N, 1, none⟩ = some (.int .i64 n1) ∧ w'.cell? ⟨N + 1, 0, none⟩ = some (.string ⟨s0.toArray⟩) ∧ w'.cell? ⟨N + 1, 1, none⟩ = some (.string ⟨s1.toArray⟩) ∧ w'.cell? ⟨N + 2, 0, none⟩ = some (.slice q0 k0 d0) ∧ w'.cell? ⟨N + 2, 1, none⟩ = some (.slice q1 k1 d1))
    (first | exact HKN.out _ HB6.out.drew | exact HKN.out _ HB8.out | exact HKN.out _ HB7.out)
    (first
      | (go_at_call 13; refine (putText_any (l := []) (Bs.nil _ none) 0 0 rfl (by omega) (by omega) (by simp) ⟨s1.toArray⟩ s1 rfl (by show s1.length ≤ 100000; omega)).mono ?_; rintro e w7 ⟨v, rfl, ho, hb⟩; rw [List.nil_append] at ho; have HC7 : Hid (Below w6.heap.size w6 w7) := Lib.hid ((Below.refl w6.heap.size w6).drew.trans hb); have HB7 : Hid (Below W.heap.size W w7) := Lib.hid (HB6.out.trans (HC7.out.mono HB6.out.size)); have HO7 := Lib.hid ho; clear ho hb)
      | (refine step_app rfl (.tmp 47) (.tmp 49) rfl rfl HO7.out HK1.out rfl (HLW1.out.below HB7.out) HQ1.out (by have := HK1.out; have h1 := txt_length s1; have h2 := esc_length s1; omega) HC7.out.size ?_; intro v8 w8 ho hb; have HO8 := Lib.hid ho; have HC8 : Hid (Below w6.heap.size w6 w8) := Lib.hid (HC7.out.trans hb); have HB8 : Hid (Below W.heap.size W w8) := Lib.hid (HB6.out.trans (HC8.out.mono HB6.out.size)); clear ho hb))
  obtain ⟨xa, hxa⟩ : ∃ x, x = (be8 (inKey n0) ++ l0).length := ⟨_, rfl⟩
  obtain ⟨xb, hxb⟩ : ∃ x, x = (be8 (inKey n1) ++ l1).length := ⟨_, rfl⟩
  obtain ⟨xc, hxc⟩ : ∃ x, x = (txt s0 ++ l0).length := ⟨_, rfl⟩
  obtain ⟨xd, hxd⟩ : ∃ x, x = (txt s1 ++ l1).length := ⟨_, rfl⟩
  obtain ⟨pa, ca, rfl, _, _, hsa, hpa⟩ := (((HO2.out.below HC4.out).below HC6.out).below HC8.out).form hxa
  obtain ⟨pb, cb, rfl, _, _, hsb, hpb⟩ := ((HO4.out.below HC6.out).below HC8.out).form hxb
  obtain ⟨pc, cc, rfl, _, _, hsc, hpc⟩ := (HO6.out.below HC8.out).form hxc
  obtain ⟨pd, cd, rfl, _, _, hsd, hpd⟩ := HO8.out.form hxd
  have HAB := Lib.hid (compare_any hsa hsb xa ca xb cb hxa hxb hpa hpb)
  have HCD : Hid (∀ n, Calls Try.prog 21 #[.slice pc xc cc, .slice pd xd cd] (w8.drewN n) fun e w' => e = .returned (.int .i64 (Lib.compareBytes (txt s0 ++ l0) (txt s1 ++ l1))) ∧ w' = w8.drewN n) := fun n => (compare_any (hsc.drewN n) (hsd.drewN n) xc cc xd cd hxc hxd hpc hpd).mono fun _ _ ⟨he, hw⟩ => ⟨he, hw.symm⟩
  have HDC : Hid (∀ n, Calls Try.prog 21 #[.slice pd xd cd, .slice pc xc cc] (w8.drewN n) fun e w' => e = .returned (.int .i64 (Lib.compareBytes (txt s1 ++ l1) (txt s0 ++ l0))) ∧ w' = w8.drewN n) := fun n => (compare_any (hsd.drewN n) (hsc.drewN n) xd cd xc cc hxd hxc hpd hpc).mono fun _ _ ⟨he, hw⟩ => ⟨he, hw.symm⟩
  have hxa8 : (8 : Int) ≤ (xa : Int) := by rw [List.length_append, be8_length] at hxa; omega
  have HBW : Hid (Below w.heap.size w w8) := Lib.hid (HW.out.trans (HB8.out.mono HW.out.size))
  obtain ⟨h00, h01, h10, h11, h20, h21⟩ := HKN.out _ HB8.out
  clear hxa hxb hxc hxd hsa hsb hsc hsd hpa hpb hpc hpd HO1 HO2 HO3 HO4 HO5 HO6 HO7 HO8
  rcases Int.lt_trichotomy n0 n1 with hn | hn | hn
  · have HT := HAB.out
    rw [cmp_keys HMa0.out HMb1.out hn l0 l1] at HT
    have HF := Lib.hid HT
    clear HT
    go_wp2_with (go_at_call 21; refine HF.out.mono ?_; rintro e w' ⟨rfl, rfl⟩)
    rcases cmp_three s0 s1 with hc | hc | hc
    · have hne : s0 ≠ s1 := by intro h; subst h; rw [cmp_self] at hc; omega
      have HT1 := HCD.out
      have HT2 := HDC.out
      simp only [cmp_txt s0 s1 l0 l1 hne, hc] at HT1
      have hd : Lib.compareBytes s1 s0 = 1 := by have h := cmp_neg s0 s1; rw [hc] at h; exact h
      simp only [cmp_txt s1 s0 l1 l0 (Ne.symm hne), hd] at HT2
      have HF1 := Lib.hid HT1
      have HF2 := Lib.hid HT2
      have hl : Op.bytesLess s0 s1 = true := by rw [less_iff, hc]; rfl
      have he : (s0 == s1) = false := by rw [beq_eq_false_iff_ne]; exact hne
      clear hne hc HT1 HT2 hd
      go_quiet ((go_at_call 21; (first | (with_reducible exact Calls.quiet_of_same (HF1.out _)) | (with_reducible exact Calls.quiet_of_same (HF2.out _)))))
      go_wp2
      go_ret
      exact ⟨rfl, belowN HBW.out _⟩
    · obtain rfl := cmp_zero _ _ hc
      clear hc
      go_quiet (fail)
      go_wp2
      go_ret
      exact ⟨rfl, belowN HBW.out _⟩
    · have hne : s0 ≠ s1 := by intro h; subst h; rw [cmp_self] at hc; omega
      have HT1 := HCD.out
      have HT2 := HDC.out
      simp only [cmp_txt s0 s1 l0 l1 hne, hc] at HT1
      have hd : Lib.compareBytes s1 s0 = -1 := by have h := cmp_neg s0 s1; rw [hc] at h; exact h
      simp only [cmp_txt s1 s0 l1 l0 (Ne.symm hne), hd] at HT2
      have HF1 := Lib.hid HT1
      have HF2 := Lib.hid HT2
      have hl : Op.bytesLess s0 s1 = false := by rw [less_iff, hc]; rfl
      have he : (s0 == s1) = false := by rw [beq_eq_false_iff_ne]; exact hne
      clear hne hc HT1 HT2 hd
      go_quiet ((go_at_call 21; (first | (with_reducible exact Calls.quiet_of_same (HF1.out _)) | (with_reducible exact Calls.quiet_of_same (HF2.out _)))))
      go_wp2
      go_ret
      exact ⟨rfl, belowN HBW.out _⟩
  · subst hn
    go_wp2_with fail
    rcases cmp_three s0 s1 with hc | hc | hc
    · have hne : s0 ≠ s1 := by intro h; subst h; rw [cmp_self] at hc; omega
      have HT1 := HCD.out
      have HT2 := HDC.out
      simp only [cmp_txt s0 s1 l0 l1 hne, hc] at HT1
      have hd : Lib.compareBytes s1 s0 = 1 := by have h := cmp_neg s0 s1; rw [hc] at h; exact h
      simp only [cmp_txt s1 s0 l1 l0 (Ne.symm hne), hd] at HT2
      have HF1 := Lib.hid HT1
      have HF2 := Lib.hid HT2
      have hl : Op.bytesLess s0 s1 = true := by rw [less_iff, hc]; rfl
      have he : (s0 == s1) = false := by rw [beq_eq_false_iff_ne]; exact hne
      clear hne hc HT1 HT2 hd
      go_quiet ((go_at_call 21; (first | (with_reducible exact Calls.quiet_of_same (HF1.out _)) | (with_reducible exact Calls.quiet_of_same (HF2.out _)))))
      go_wp2
      go_ret
      exact ⟨rfl, belowN HBW.out _⟩
    · obtain rfl := cmp_zero _ _ hc
      clear hc
      go_quiet (fail)
      go_wp2
      go_ret
      exact ⟨rfl, belowN HBW.out _⟩
    · have hne : s0 ≠ s1 := by intro h; subst h; rw [cmp_self] at hc; omega
      have HT1 := HCD.out
      have HT2 := HDC.out
      simp only [cmp_txt s0 s1 l0 l1 hne, hc] at HT1
      have hd : Lib.compareBytes s1 s0 = -1 := by have h := cmp_neg s0 s1; rw [hc] at h; exact h
      simp only [cmp_txt s1 s0 l1 l0 (Ne.symm hne), hd] at HT2
      have HF1 := Lib.hid HT1
      have HF2 := Lib.hid HT2
      have hl : Op.bytesLess s0 s1 = false := by rw [less_iff, hc]; rfl
      have he : (s0 == s1) = false := by rw [beq_eq_false_iff_ne]; exact hne
      clear hne hc HT1 HT2 hd
      go_quiet ((go_at_call 21; (first | (with_reducible exact Calls.quiet_of_same (HF1.out _)) | (with_reducible exact Calls.quiet_of_same (HF2.out _)))))
      go_wp2
      go_ret
      exact ⟨rfl, belowN HBW.out _⟩
  · have HT := HAB.out
    rw [cmp_neg (be8 (inKey n1) ++ l1) (be8 (inKey n0) ++ l0), cmp_keys HMa1.out HMb0.out hn l1 l0] at HT
    have HF := Lib.hid HT
    clear HT
    go_wp2_with (go_at_call 21; refine HF.out.mono ?_; rintro e w' ⟨rfl, rfl⟩)
    rcases cmp_three s0 s1 with hc | hc | hc
    · have hne : s0 ≠ s1 := by intro h; subst h; rw [cmp_self] at hc; omega
      have HT1 := HCD.out
      have HT2 := HDC.out
      simp only [cmp_txt s0 s1 l0 l1 hne, hc] at HT1
      have hd : Lib.compareBytes s1 s0 = 1 := by have h := cmp_neg s0 s1; rw [hc] at h; exact h
      simp only [cmp_txt s1 s0 l1 l0 (Ne.symm hne), hd] at HT2
      have HF1 := Lib.hid HT1
      have HF2 := Lib.hid HT2
      have hl : Op.bytesLess s0 s1 = true := by rw [less_iff, hc]; rfl
      have he : (s0 == s1) = false := by rw [beq_eq_false_iff_ne]; exact hne
      clear hne hc HT1 HT2 hd
      go_quiet ((go_at_call 21; (first | (with_reducible exact Calls.quiet_of_same (HF1.out _)) | (with_reducible exact Calls.quiet_of_same (HF2.out _)))))
      go_wp2
      go_ret
      exact ⟨rfl, belowN HBW.out _⟩
    · obtain rfl := cmp_zero _ _ hc
      clear hc
      go_quiet (fail)
      go_wp2
      go_ret
      exact ⟨rfl, belowN HBW.out _⟩
    · have hne : s0 ≠ s1 := by intro h; subst h; rw [cmp_self] at hc; omega
      have HT1 := HCD.out
      have HT2 := HDC.out
      simp only [cmp_txt s0 s1 l0 l1 hne, hc] at HT1
      have hd : Lib.compareBytes s1 s0 = -1 := by have h := cmp_neg s0 s1; rw [hc] at h; exact h
      simp only [cmp_txt s1 s0 l1 l0 (Ne.symm hne), hd] at HT2
      have HF1 := Lib.hid HT1
      have HF2 := Lib.hid HT2
      have hl : Op.bytesLess s0 s1 = false := by rw [less_iff, hc]; rfl
      have he : (s0 == s1) = false := by rw [beq_eq_false_iff_ne]; exact hne
      clear hne hc HT1 HT2 hd
      go_quiet ((go_at_call 21; (first | (with_reducible exact Calls.quiet_of_same (HF1.out _)) | (with_reducible exact Calls.quiet_of_same (HF2.out _)))))
      go_wp2
      go_ret
      exact ⟨rfl, belowN HBW.out _⟩

set_option maxHeartbeats 400000 in
theorem lawKeeps_any {w : World} (n0 n1 : Int) (a0 : -9223372036854775808 ≤ n0) (b0 : n0 ≤ 9223372036854775807) (a1 : -9223372036854775808 ≤ n1) (b1 : n1 ≤ 9223372036854775807) (s0 s1 : ByteArray)
    {q0 q1 : Option Addr} {l0 l1 : List UInt8} (k0 d0 k1 d1 : Nat) (hk0 : k0 = l0.length) (hk1 : k1 = l1.length) (hl0 : Bs w q0 l0) (hl1 : Bs w q1 l1) (hq0 : q0 = none → d0 = 0) (hq1 : q1 = none → d1 = 0)
    (z0 : s0.size ≤ 140737488355328) (z1 : s1.size ≤ 140737488355328) (z2 : k0 ≤ 140737488355328) (z3 : k1 ≤ 140737488355328) :
    Calls Try.prog 8 #[.agg #[.int .i64 n0, .int .i64 n1], .agg #[.string s0, .string s1], .agg #[.slice q0 k0 d0, .slice q1 k1 d1]] w fun e w' => e = .returned (.bool true) ∧ Below w.heap.size w w' := by
  by_cases h : s0.size + s1.size + k0 + k1 ≤ 3000
  · obtain ⟨⟨t0⟩⟩ := s0
    obtain ⟨⟨t1⟩⟩ := s1
    exact lawKeeps_small n0 n1 a0 b0 a1 b1 t0 t1 k0 d0 k1 d1 hk0 hk1 hl0 hl1 hq0 hq1 h
  · have h3 : (3000 : Int) < (s0.size : Int) + (s1.size : Int) + (k0 : Int) + (k1 : Int) := by omega
    clear a0 b0 a1 b1 hk0 hk1 hl0 hl1 hq0 hq1
    go_enter Try.func8, Try.ntmps8
    go_wp2
    go_ret
    exact ⟨rfl, (boxes3 w _ _ _ _ _ _).2.2.2.1⟩

end Go.Proofs.Ytlonbkkalnobeaa
