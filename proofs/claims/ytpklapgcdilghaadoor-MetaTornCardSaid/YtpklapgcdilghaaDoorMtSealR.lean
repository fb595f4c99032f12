/-
  The reference's Seal of layer 8: contracts for the walks.
-/
import Derived.Test.YtpklapgcdilghaaDoorMtSealB
set_option linter.unusedVariables false
set_option maxRecDepth 100000
namespace Go.Proofs.YtpklapgcdilghaaDoor
open Go.RowKit

theorem in_any {w : World} (n a b : Int) (t : Bool) (ht : t = decide (a ≤ n ∧ n ≤ b)) :
    Calls Tryd.prog 30 #[.int .i64 n, .int .i64 a, .int .i64 b] w fun e w' => e = .returned (.bool t) ∧ w = w' := by
  by_cases h1 : a ≤ n
  · by_cases h2 : n ≤ b
    · obtain rfl : t = true := by rw [ht]; exact decide_eq_true ⟨h1, h2⟩
      clear ht
      go_enter Tryd.func30, Tryd.ntmps30
      go_wp2
      go_ret
      exact ⟨rfl, rfl⟩
    · obtain rfl : t = false := by rw [ht]; exact decide_eq_false (fun h => h2 h.2)
      clear ht
      go_enter Tryd.func30, Tryd.ntmps30
      go_wp2
      go_ret
      exact ⟨rfl, rfl⟩
  · obtain rfl : t = false := by rw [ht]; exact decide_eq_false (fun h => h1 h.1)
    clear ht
    go_enter Tryd.func30, Tryd.ntmps30
    go_wp2
    go_ret
    exact ⟨rfl, rfl⟩

set_option maxHeartbeats 800000 in
theorem rightR_any {w : World} (g r n d : Int) (b : Bool) (hb : b = decide (MRight g r n d)) :
    Calls Tryd.prog 16 #[.agg #[.int .i64 g, .int .i64 r, .int .i64 n, .int .i64 d]] w fun e w' => e = .returned (.bool b) ∧ Below w.heap.size w w' := by
  have HG := Lib.hid fun w : World => in_any (w := w) g 1 1152921504606846976 (decide (MNext g)) rfl
  have HN := Lib.hid fun w : World => in_any (w := w) n 1 1152921504606846976 (decide (MNext n)) rfl
  have HD := Lib.hid fun w : World => in_any (w := w) d 1 1152921504606846976 (decide (MNext d)) rfl
  have HR := Lib.hid fun w : World => in_any (w := w) r 2 4095 (decide (2 ≤ r ∧ r ≤ 4095)) rfl
  have e : decide (MRight g r n d) = (decide (MNext g) && (decide (MRoot r) && (decide (MNext n) && decide (MNext d)))) := by
    rw [Bool.eq_iff_iff]
    simp only [decide_eq_true_eq, Bool.and_eq_true]
    exact Iff.rfl
  have e2 : decide (MRoot r) = (decide (r = 0) || decide (2 ≤ r ∧ r ≤ 4095)) := by
    rw [Bool.eq_iff_iff]
    simp only [decide_eq_true_eq, Bool.or_eq_true]
    unfold MRoot
    omega
  rw [e, e2] at hb
  clear e e2
  generalize decide (MNext g) = bg at *
  generalize decide (2 ≤ r ∧ r ≤ 4095) = br at *
  generalize decide (MNext n) = bn at *
  generalize decide (MNext d) = bd at *
  have hz : Hid (Below w.heap.size w (w.alloc (.cells #[.int .i64 g, .int .i64 r, .int .i64 n, .int .i64 d] 30))) := Lib.hid ((Below.refl _ _).alloc (Nat.le_refl _) _)
  cases bg
  · obtain rfl : b = false := hb
    go_enter Tryd.func16, Tryd.ntmps16
    go_wp2_with fail
    with_reducible refine (HG.out _).mono ?_
    rintro e w1 ⟨rfl, rfl⟩
    go_wp2
    go_ret
    exact ⟨rfl, hz.out⟩
  by_cases hr : r = 0
  · subst hr
    cases bn
    · obtain rfl : b = false := hb
      go_enter Tryd.func16, Tryd.ntmps16
      go_wp2_with fail
      with_reducible refine (HG.out _).mono ?_
      rintro e w1 ⟨rfl, rfl⟩
      go_wp2_with fail
      with_reducible refine (HN.out _).mono ?_
      rintro e w1 ⟨rfl, rfl⟩
      go_wp2
      go_ret
      exact ⟨rfl, hz.out⟩
    · obtain rfl : b = bd := hb
      go_enter Tryd.func16, Tryd.ntmps16
      go_wp2_with fail
      with_reducible refine (HG.out _).mono ?_
      rintro e w1 ⟨rfl, rfl⟩
      go_wp2_with fail
      with_reducible refine (HN.out _).mono ?_
      rintro e w1 ⟨rfl, rfl⟩
      go_wp2_with fail
      with_reducible refine (HD.out _).mono ?_
      rintro e w1 ⟨rfl, rfl⟩
      go_wp2
      go_ret
      exact ⟨rfl, hz.out⟩
  have hr0 : (r == 0) = false := by rw [beq_eq_false_iff_ne]; exact hr
  rw [decide_eq_false hr] at hb
  clear hr
  cases br
  · obtain rfl : b = false := hb
    go_enter Tryd.func16, Tryd.ntmps16
    go_wp2_with fail
    with_reducible refine (HG.out _).mono ?_
    rintro e w1 ⟨rfl, rfl⟩
    go_wp2_with fail
    with_reducible refine (HR.out _).mono ?_
    rintro e w1 ⟨rfl, rfl⟩
    go_wp2
    go_ret
    exact ⟨rfl, hz.out⟩
  cases bn
  · obtain rfl : b = false := hb
    go_enter Tryd.func16, Tryd.ntmps16
    go_wp2_with fail
    with_reducible refine (HG.out _).mono ?_
    rintro e w1 ⟨rfl, rfl⟩
    go_wp2_with fail
    with_reducible refine (HR.out _).mono ?_
    rintro e w1 ⟨rfl, rfl⟩
    go_wp2_with fail
    with_reducible refine (HN.out _).mono ?_
    rintro e w1 ⟨rfl, rfl⟩
    go_wp2
    go_ret
    exact ⟨rfl, hz.out⟩
  · obtain rfl : b = bd := hb
    go_enter Tryd.func16, Tryd.ntmps16
    go_wp2_with fail
    with_reducible refine (HG.out _).mono ?_
    rintro e w1 ⟨rfl, rfl⟩
    go_wp2_with fail
    with_reducible refine (HR.out _).mono ?_
    rintro e w1 ⟨rfl, rfl⟩
    go_wp2_with fail
    with_reducible refine (HN.out _).mono ?_
    rintro e w1 ⟨rfl, rfl⟩
    go_wp2_with fail
    with_reducible refine (HD.out _).mono ?_
    rintro e w1 ⟨rfl, rfl⟩
    go_wp2
    go_ret
    exact ⟨rfl, hz.out⟩

set_option maxHeartbeats 800000 in
theorem eight_any {w : World} {B : Nat} {v : Value} {l : List UInt8} (hv : Own w B v l) (hB : B ≤ w.heap.size) {x : Nat} (hx : x < 9223372036854775808) (hl : l.length ≤ 1000) :
    Calls Tryd.prog 18 #[v, .int .i64 (x : Int)] w (LitPost w B (l ++ leB 8 x)) := by
  have HO := Lib.hid hv
  have HL := Lib.hid hl
  clear hv hl
  go_enter Tryd.func18, Tryd.ntmps18
  go_wp2
  go_loopw [0, 5] (fun u i wr => ∃ k : Nat, i = .int .i64 k ∧ k ≤ 8 ∧ Own wr B u (l ++ leB k x) ∧ Below B w wr) (fun _ i _ => 8 - (intOf i).toNat)
  case atStart => exact ⟨0, rfl, by omega, by rw [leB, List.append_nil]; exact HO.out, Below.refl _ _⟩
  case round =>
    obtain ⟨k, rfl, hk, hown, hb⟩ := hrel
    have HO2 := Lib.hid hown
    have HW2 := Lib.hid hb
    clear hown hb
    by_cases hk8 : k < 8
    · have HS2 := Lib.hid (leB_snoc k x)
      have HBY : Hid ((x : Int) / 2 ^ (8 * k) % 256 = ((UInt8.ofNat (x / 256 ^ k)).toNat : Int)) := Lib.hid (by
        have h1 : (x : Int) / 2 ^ (8 * k) = ((x / 256 ^ k : Nat) : Int) := by rw [pow8, Int.natCast_ediv, Int.natCast_pow]; rfl
        rw [h1, u8_ofNat]
        omega)
      have HLE : Hid ((l ++ leB k x).length ≤ 1100) := Lib.hid (by rw [List.length_append, leB_length]; have := HL.out; omega)
      go_wp2_with (at_builtin; refine app_own rfl (.tmp 10) (.tmp 17) rfl rfl (HO2.out.alloc _) (m := [UInt8.ofNat (x / 256 ^ k)]) rfl rfl (Bs.one _ _ _ rfl HBY.out) (fun h => by cases h) (by have := HLE.out; simp at this ⊢; omega) (by have := HW2.out.size; simp; omega) ?_; intro v3 w3 ho3 hb3; have HO3 := Lib.hid ho3; have HB3 := Lib.hid ((HW2.out.alloc (Nat.le_trans hB HW2.out.size) _).trans hb3); clear ho3 hb3)
      go_roundw
      case rel => exact ⟨k + 1, by go_num, by omega, by rw [HS2.out, ← List.append_assoc]; exact HO3.out, HB3.out⟩
      case measure => simp [intOf]; omega
    · have HJ : Hid (l ++ leB k x = l ++ leB 8 x) := Lib.hid (by rw [show k = 8 from by omega])
      go_wp2
      go_ret
      exact ⟨_, rfl, by rw [← HJ.out]; exact HO2.out, HW2.out⟩

set_option maxHeartbeats 800000 in
theorem msealR_bad {w : World} (g r n d : Int) (h : ¬ MRight g r n d) :
    Calls Tryd.prog 8 #[.agg #[.int .i64 g, .int .i64 r, .int .i64 n, .int .i64 d]] w (MSealBad w) := by
  have HC := Lib.hid fun w : World => rightR_any (w := w) g r n d false (decide_eq_false h).symm
  clear h
  have hz : Hid (Below w.heap.size w (w.alloc (.cells #[.int .i64 g, .int .i64 r, .int .i64 n, .int .i64 d] 30))) := Lib.hid ((Below.refl _ _).alloc (Nat.le_refl _) _)
  go_enter Tryd.func8, Tryd.ntmps8
  go_wp2_with fail
  with_reducible refine (HC.out _).mono ?_
  rintro e w1 ⟨rfl, hb⟩
  have HB := Lib.hid (hz.out.trans (hb.mono (by simp)))
  clear hb
  go_wp2
  exact bodyPost_ret (v := .tuple #[.slice none 0 0, .int .i64 0, .int .i64 2]) (by simp [results, Tryd.results8, go_sem]) rfl ⟨rfl, HB.out⟩

set_option maxHeartbeats 3200000 in
theorem msealR_ok {w : World} {g r n d : Nat} (h : MRight g r n d) :
    Calls Tryd.prog 8 #[.agg #[.int .i64 g, .int .i64 r, .int .i64 n, .int .i64 d]] w (MSealPost w (mPage g r n d) (g % 2)) := by
  have HC := Lib.hid fun w : World => rightR_any (w := w) g r n d true (decide_eq_true h).symm
  have hb := h.b
  have HF : Hid (leB 8 r ++ leB 8 n ++ leB 8 d ++ leB 8 g = metaB g r n d) := Lib.hid (by simp only [metaB, List.append_assoc])
  have HL : Hid (32 = (metaB g r n d).length) := Lib.hid (metaB_length g r n d).symm
  have HPG : Hid (pageB 1 (g % 2) g (metaB g r n d) = mPage g r n d) := Lib.hid rfl
  obtain ⟨m, hm⟩ : ∃ m, m = g % 2 := ⟨_, rfl⟩
  have hmi : (g : Int) % 2 = (m : Int) := by omega
  have hmt : (g : Int).tmod 2 = (m : Int) := by rw [Int.tmod_eq_emod_of_nonneg (by omega)]; exact hmi
  have HM : Hid (m < 4096) := Lib.hid (by omega)
  have HG : Hid (g ≤ 1152921504606846976) := Lib.hid (by omega)
  have HXR : Hid (r < 9223372036854775808) := Lib.hid (by omega)
  have HXN : Hid (n < 9223372036854775808) := Lib.hid (by omega)
  have HXD : Hid (d < 9223372036854775808) := Lib.hid (by omega)
  have HXG : Hid (g < 9223372036854775808) := Lib.hid (by omega)
  rw [← hm] at HPG ⊢
  clear h hm hb
  generalize mPage g r n d = z at *
  generalize metaB g r n d = y at *
  obtain ⟨W0, hW0⟩ : ∃ W0, W0 = w.alloc (.cells #[.int .i64 g, .int .i64 r, .int .i64 n, .int .i64 d] 30) := ⟨_, rfl⟩
  have HZ : Hid (Below w.heap.size w W0) := Lib.hid (by rw [hW0]; exact (Below.refl _ _).alloc (Nat.le_refl _) _)
  have HK : Hid (∀ w', Below W0.heap.size W0 w' → w'.cell? ⟨w.heap.size, 0, none⟩ = some (.int .i64 (g : Int)) ∧ w'.cell? ⟨w.heap.size, 1, none⟩ = some (.int .i64 (r : Int)) ∧ w'.cell? ⟨w.heap.size, 2, none⟩ = some (.int .i64 (n : Int)) ∧ w'.cell? ⟨w.heap.size, 3, none⟩ = some (.int .i64 (d : Int))) := Lib.hid fun w' hb => by
    have h1 : w'.heap[w.heap.size]? = some (.cells #[.int .i64 g, .int .i64 r, .int .i64 n, .int .i64 d] 30 (0, 0)) := by
      rw [hb.block w.heap.size (by rw [hW0]; simp), hW0]
      exact heap_alloc_new w _
    exact ⟨Joins.cell_of_block h1 0, Joins.cell_of_block h1 1, Joins.cell_of_block h1 2, Joins.cell_of_block h1 3⟩
  go_enter Tryd.func8, Tryd.ntmps8
  go_wp2_with fail
  rw [← hW0]
  clear hW0
  with_reducible refine (HC.out _).mono ?_
  rintro e w1 ⟨rfl, hb1⟩
  have HB1 := Lib.hid hb1
  have HK1 : Hid (∀ w', Below w1.heap.size w1 w' → w'.cell? ⟨w.heap.size, 0, none⟩ = some (.int .i64 (g : Int)) ∧ w'.cell? ⟨w.heap.size, 1, none⟩ = some (.int .i64 (r : Int)) ∧ w'.cell? ⟨w.heap.size, 2, none⟩ = some (.int .i64 (n : Int)) ∧ w'.cell? ⟨w.heap.size, 3, none⟩ = some (.int .i64 (d : Int))) := Lib.hid fun w' hb => HK.out w' (HB1.out.trans (hb.mono HB1.out.size))
  have HZ1 : Hid (Below w.heap.size w w1) := Lib.hid (HZ.out.trans (HB1.out.mono HZ.out.size))
  have HE1 : Hid (Calls Tryd.prog 18 #[.slice none 0 0, .int .i64 (r : Int)] w1.drew (LitPost w1.drew w1.heap.size (leB 8 r))) := Lib.hid (eight_any (Own.nil w1.drew w1.heap.size) (Nat.le_refl _) HXR.out (by simp))
  have HE2 : Hid (∀ w' v, Own w' w1.heap.size v (leB 8 r) → Below w1.heap.size w1 w' → Calls Tryd.prog 18 #[v, .int .i64 (n : Int)] w' (LitPost w' w1.heap.size (leB 8 r ++ leB 8 n))) := Lib.hid fun w' v hv hb => eight_any hv hb.size HXN.out (by simp [leB_length])
  have HE3 : Hid (∀ w' v, Own w' w1.heap.size v (leB 8 r ++ leB 8 n) → Below w1.heap.size w1 w' → Calls Tryd.prog 18 #[v, .int .i64 (d : Int)] w' (LitPost w' w1.heap.size (leB 8 r ++ leB 8 n ++ leB 8 d))) := Lib.hid fun w' v hv hb => eight_any hv hb.size HXD.out (by simp [leB_length])
  have HE4 : Hid (∀ w' v, Own w' w1.heap.size v (leB 8 r ++ leB 8 n ++ leB 8 d) → Below w1.heap.size w1 w' → Calls Tryd.prog 18 #[v, .int .i64 (g : Int)] w' (LitPost w' w1.heap.size y)) := Lib.hid fun w' v hv hb => by
    have h1 := eight_any hv hb.size HXG.out (by simp [leB_length])
    rw [HF.out] at h1
    exact h1
  have HS : Hid (∀ w' p c, Bs w' p y → 32 ≤ c → c ≤ 9223372036854775807 → (p = none → c = 0) → Calls Tryd.prog 17 #[.int .u8 1, .int .i64 (m : Int), .int .i64 (g : Int), .slice p 32 c] w' (SealRPost w' z)) := Lib.hid fun w' p c hp h32 hc hn => by
    have h1 := sealR_ok (w := w') 1 (no := m) (gen := g) HM.out HG.out hp HL.out h32 hc hn (by omega)
    rw [HPG.out] at h1
    exact h1
  clear hb1 HC HK HB1 HZ HXR HXN HXD HXG HM HG HPG HF
  generalize leB 8 r ++ leB 8 n ++ leB 8 d = y3 at *
  generalize leB 8 r ++ leB 8 n = y2 at *
  generalize leB 8 r = y1 at *
  go_wp2_with fail
  go_region_held3 (fun w' => w'.cell? ⟨w.heap.size, 0, none⟩ = some (.int .i64 (g : Int)) ∧ w'.cell? ⟨w.heap.size, 1, none⟩ = some (.int .i64 (r : Int)) ∧ w'.cell? ⟨w.heap.size, 2, none⟩ = some (.int .i64 (n : Int)) ∧ w'.cell? ⟨w.heap.size, 3, none⟩ = some (.int .i64 (d : Int)))
    (first | exact HK1.out _ (Below.refl _ _).drew | exact HK1.out _ HB2.out | exact HK1.out _ HB3.out | exact HK1.out _ HB4.out | exact HK1.out _ HB5.out | exact HK1.out _ HB6.out)
    (first
      | (go_at_call 17; (with_reducible refine (HS.out _ _ _ J3.out J1.out J2.out J4.out).mono ?_); rintro e w6 ⟨v6, rfl, h6, hb6⟩; have HB6 : Hid (Below w1.heap.size w1 w6) := Lib.hid (HB5.out.trans (hb6.mono HB5.out.size)); have H6 : Hid (Own w6 w1.heap.size v6 z) := Lib.hid (h6.le HB5.out.size); clear h6 hb6)
      | (go_at_call 18; (with_reducible refine (HE4.out _ _ H4.out HB4.out).mono ?_); rintro e w5 ⟨v5, rfl, h5, hb5⟩; obtain ⟨p5, c5, rfl, j1, j2, j3, j4⟩ := h5.form HL.out; have J1 := Lib.hid j1; have J2 := Lib.hid j2; have J3 := Lib.hid j3; have J4 := Lib.hid j4; have HB5 : Hid (Below w1.heap.size w1 w5) := Lib.hid (HB4.out.trans hb5); clear h5 hb5 j1 j2 j3 j4)
      | (go_at_call 18; (with_reducible refine (HE3.out _ _ H3.out HB3.out).mono ?_); rintro e w4 ⟨v4, rfl, h4, hb4⟩; have H4 := Lib.hid h4; have HB4 : Hid (Below w1.heap.size w1 w4) := Lib.hid (HB3.out.trans hb4); clear h4 hb4)
      | (go_at_call 18; (with_reducible refine (HE2.out _ _ H2.out HB2.out).mono ?_); rintro e w3 ⟨v3, rfl, h3, hb3⟩; have H3 := Lib.hid h3; have HB3 : Hid (Below w1.heap.size w1 w3) := Lib.hid (HB2.out.trans hb3); clear h3 hb3)
      | (go_at_call 18; (with_reducible refine HE1.out.mono ?_); rintro e w2 ⟨v2, rfl, h2, hb2⟩; have H2 := Lib.hid h2; have HB2 : Hid (Below w1.heap.size w1 w2) := Lib.hid ((Below.refl w1.heap.size w1).drew.trans hb2); clear h2 hb2))
  obtain ⟨k0, k1, k2, k3⟩ := HK1.out w6 HB6.out
  have hk0 : ∀ n, (w6.drewN n).cell? ⟨w.heap.size, 0, none⟩ = some (.int .i64 (g : Int)) := fun n => (HK1.out _ (belowN HB6.out n)).1
  clear k0 k1 k2 k3
  go_wp2_with fail
  go_quiet (fail)
  go_wp2
  refine bodyPost_ret (v := .tuple #[v6, .int .i64 (m : Int), .int .i64 0]) (by simp [results, Tryd.results8, go_sem]) rfl ⟨_, rfl, ?_, belowN (HZ1.out.trans (HB6.out.mono HZ1.out.size)) _⟩
  exact (H6.out.le HZ1.out.size).below (belowN (Below.refl _ _) _)

end Go.Proofs.YtpklapgcdilghaaDoor
