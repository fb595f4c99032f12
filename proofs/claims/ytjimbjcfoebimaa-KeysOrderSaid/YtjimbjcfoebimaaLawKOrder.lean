/-
  KeysOrder: the order of what is put, whatever stands behind, is that of the values, also of whole numbers among floats. Conditions: none.
-/
import Derived.Test.YtjimbjcfoebimaaLawKPuts
import Derived.Test.YtjimbjcfoebimaaBytesF
import Derived.Test.YtjimbjcfoebimaaVAt
import Derived.Test.YtjimbjcfoebimaaVRefCmpV
import Derived.Test.YtjimbjcfoebimaaCmpRef
import Derived.Deep.RegionHeld3
import Derived.Deep.QuietTactic
import Derived.BigQuiet
import Derived.Outline
set_option linter.unusedVariables false
set_option maxRecDepth 100000
namespace Go.Proofs.Ytjimbjcfoebimaa
open Go.RowKit

set_option maxHeartbeats 4000000 in
theorem lawOrder4_any {w : World} {k1 n1 : Int} {f1 : Nat} {s1 : ByteArray} {q1 : Option Addr} {m1 c1 : Nat} {l1 : List At} (h1 : VaOk w ⟨k1, n1, f1, s1⟩ q1 m1 c1 l1) {k2 n2 : Int} {f2 : Nat} {s2 : ByteArray} {q2 : Option Addr} {m2 c2 : Nat} {l2 : List At} (h2 : VaOk w ⟨k2, n2, f2, s2⟩ q2 m2 c2 l2)
    {p3 p4 : Option Addr} {x3 d3 x4 d4 : Nat} {e3 e4 : List UInt8} (hs3 : Bs w p3 e3) (hn3 : x3 = e3.length) (hc3 : x3 ≤ d3) (hd3 : d3 ≤ 9223372036854775807) (hp3 : p3 = none → d3 = 0) (hs4 : Bs w p4 e4) (hn4 : x4 = e4.length) (hc4 : x4 ≤ d4) (hd4 : d4 ≤ 9223372036854775807) (hp4 : p4 = none → d4 = 0) :
    Calls Try.prog 5 #[.agg #[.int .i64 k1, .int .i64 n1, .float .f64 f1, .string s1, .slice q1 m1 c1], .agg #[.int .i64 k2, .int .i64 n2, .float .f64 f2, .string s2, .slice q2 m2 c2], .agg #[.slice p3 x3 d3, .slice p4 x4 d4]] w fun e w' => e = .returned (.bool true) ∧ Below w.heap.size w w' := by
  obtain ⟨W, hW⟩ : ∃ W, W = ((w.alloc (.cells #[.int .i64 k1, .int .i64 n1, .float .f64 f1, .string s1, .slice q1 m1 c1] 27)).alloc (.cells #[.int .i64 k2, .int .i64 n2, .float .f64 f2, .string s2, .slice q2 m2 c2] 27)).alloc (.cells #[.slice p3 x3 d3, .slice p4 x4 d4] 36) := ⟨_, rfl⟩
  have HK : Hid (∀ w', Below W.heap.size W w' → (w'.cell? ⟨w.heap.size, 0, none⟩ = some (.int .i64 k1) ∧ w'.cell? ⟨w.heap.size, 1, none⟩ = some (.int .i64 n1) ∧ w'.cell? ⟨w.heap.size, 2, none⟩ = some (.float .f64 f1) ∧ w'.cell? ⟨w.heap.size, 3, none⟩ = some (.string s1) ∧ w'.cell? ⟨w.heap.size, 4, none⟩ = some (.slice q1 m1 c1) ∧
      w'.cell? ⟨w.heap.size + 1, 0, none⟩ = some (.int .i64 k2) ∧ w'.cell? ⟨w.heap.size + 1, 1, none⟩ = some (.int .i64 n2) ∧ w'.cell? ⟨w.heap.size + 1, 2, none⟩ = some (.float .f64 f2) ∧ w'.cell? ⟨w.heap.size + 1, 3, none⟩ = some (.string s2) ∧ w'.cell? ⟨w.heap.size + 1, 4, none⟩ = some (.slice q2 m2 c2) ∧
      w'.cell? ⟨w.heap.size + 2, 0, none⟩ = some (.slice p3 x3 d3) ∧ w'.cell? ⟨w.heap.size + 2, 1, none⟩ = some (.slice p4 x4 d4))) := by
    refine Lib.hid fun w' hb => ?_
    rw [hW] at hb
    obtain ⟨g1, g2, g3⟩ := box3_cells hb
    exact ⟨g1 0, g1 1, g1 2, g1 3, g1 4, g2 0, g2 1, g2 2, g2 3, g2 4, g3 0, g3 1⟩
  have HWB : Hid (∀ w', Below W.heap.size W w' → Below w.heap.size w w') := by
    refine Lib.hid fun w' hb => ?_
    rw [hW] at hb
    exact box3_below hb
  have hst := store_flt
  have HB0 : Hid (Below W.heap.size W W) := Lib.hid (Below.refl _ _)
  have HS1 : Hid (∀ w', Below W.heap.size W w' → Calls Try.prog 13 #[.agg #[.int .i64 k1, .int .i64 n1, .float .f64 f1, .string s1, .slice q1 m1 c1]] w' (SomeBool w')) := Lib.hid fun w' hb => short_any (h1.below (HWB.out _ hb))
  have HS2 : Hid (∀ w', Below W.heap.size W w' → Calls Try.prog 13 #[.agg #[.int .i64 k2, .int .i64 n2, .float .f64 f2, .string s2, .slice q2 m2 c2]] w' (SomeBool w')) := Lib.hid fun w' hb => short_any (h2.below (HWB.out _ hb))
  have HV1 : Hid (∀ w', Below W.heap.size W w' → Calls Try.prog 10 #[.agg #[.int .i64 k1, .int .i64 n1, .float .f64 f1, .string s1, .slice q1 m1 c1]] w' fun e w'' => e = .returned (.bool (validV ⟨k1, n1, f1, s1⟩ l1)) ∧ Below w'.heap.size w' w'') := Lib.hid fun w' hb => refValid_any (h1.below (HWB.out _ hb))
  have HV2 : Hid (∀ w', Below W.heap.size W w' → Calls Try.prog 10 #[.agg #[.int .i64 k2, .int .i64 n2, .float .f64 f2, .string s2, .slice q2 m2 c2]] w' fun e w'' => e = .returned (.bool (validV ⟨k2, n2, f2, s2⟩ l2)) ∧ Below w'.heap.size w' w'') := Lib.hid fun w' hb => refValid_any (h2.below (HWB.out _ hb))
  have HP1 : Hid (validV ⟨k1, n1, f1, s1⟩ l1 = true → ∀ w', Below W.heap.size W w' → Calls Try.prog 14 #[.slice none 0 0, .agg #[.int .i64 k1, .int .i64 n1, .float .f64 f1, .string s1, .slice q1 m1 c1]] w' (PutPost w' (valK ⟨k1, n1, f1, s1⟩ l1))) := Lib.hid fun va w' hb => by
    have h := keysPut_any (w := w') (p := none) (b := []) (Bs.nil _ _) (n0 := 0) (c0 := 0) rfl (by omega) (by omega) (fun _ => rfl) (by simp) (h1.below (HWB.out _ hb))
    unfold putK at h
    rw [if_pos va, List.nil_append] at h
    exact h
  have HP2 : Hid (validV ⟨k2, n2, f2, s2⟩ l2 = true → ∀ w', Below W.heap.size W w' → Calls Try.prog 14 #[.slice none 0 0, .agg #[.int .i64 k2, .int .i64 n2, .float .f64 f2, .string s2, .slice q2 m2 c2]] w' (PutPost w' (valK ⟨k2, n2, f2, s2⟩ l2))) := Lib.hid fun va w' hb => by
    have h := keysPut_any (w := w') (p := none) (b := []) (Bs.nil _ _) (n0 := 0) (c0 := 0) rfl (by omega) (by omega) (fun _ => rfl) (by simp) (h2.below (HWB.out _ hb))
    unfold putK at h
    rw [if_pos va, List.nil_append] at h
    exact h
  have HC : Hid (∀ w', Below W.heap.size W w' → Calls Try.prog 16 #[.agg #[.int .i64 k1, .int .i64 n1, .float .f64 f1, .string s1, .slice q1 m1 c1], .agg #[.int .i64 k2, .int .i64 n2, .float .f64 f2, .string s2, .slice q2 m2 c2]] w' fun e w'' => e = .returned (.int .i64 (cmpV ⟨k1, n1, f1, s1⟩ l1 ⟨k2, n2, f2, s2⟩ l2)) ∧ Below w'.heap.size w' w'') := Lib.hid fun w' hb => by
    have h := refCompareV_any (h1.below (HWB.out _ hb)) (h2.below (HWB.out _ hb))
    rw [compareR_eq h1.ok h1.hok h2.ok h2.hok] at h
    exact h
  have HSEP : Hid (validV ⟨k1, n1, f1, s1⟩ l1 = true → validV ⟨k2, n2, f2, s2⟩ l2 = true → Sep (valK ⟨k1, n1, f1, s1⟩ l1) (valK ⟨k2, n2, f2, s2⟩ l2) (cmpV ⟨k1, n1, f1, s1⟩ l1 ⟨k2, n2, f2, s2⟩ l2)) := Lib.hid fun va vb => sep_vals h1.ok h1.hok h2.ok h2.hok va vb
  have HX0 := Lib.hid (valK_pos ⟨k1, n1, f1, s1⟩ l1)
  have HY0 := Lib.hid (valK_pos ⟨k2, n2, f2, s2⟩ l2)
  have HXL : Hid (validV ⟨k1, n1, f1, s1⟩ l1 = true → (valK ⟨k1, n1, f1, s1⟩ l1).length ≤ 8242) := Lib.hid valK_len
  have HYL : Hid (validV ⟨k2, n2, f2, s2⟩ l2 = true → (valK ⟨k2, n2, f2, s2⟩ l2).length ≤ 8242) := Lib.hid valK_len
  have HPN := Lib.hid putNull_any
  have HL3 := Lib.hid hs3
  have HL4 := Lib.hid hs4
  have HN3 := Lib.hid hn3
  have HN4 := Lib.hid hn4
  have HQ3 := Lib.hid hp3
  have HQ4 := Lib.hid hp4
  clear h1 h2 hs3 hs4 hn3 hn4 hp3 hp4
  generalize cmpV ⟨k1, n1, f1, s1⟩ l1 ⟨k2, n2, f2, s2⟩ l2 = cv at *
  generalize valK ⟨k1, n1, f1, s1⟩ l1 = X at *
  generalize valK ⟨k2, n2, f2, s2⟩ l2 = Y at *
  generalize validV ⟨k1, n1, f1, s1⟩ l1 = va at *
  generalize validV ⟨k2, n2, f2, s2⟩ l2 = vb at *
  go_enter Try.func5, Try.ntmps5
  go_wp2_with fail
  rw [← hW]
  replace hW := Lib.hid hW
  refine (HS1.out _ HB0.out).mono ?_; rintro e w1 ⟨sb, rfl, hb1⟩
  have HB1 := Lib.hid hb1
  clear hb1 HS1
  obtain ⟨a0, a1, a2, a3, a4, b0, b1, b2, b3, b4, r0, r1⟩ := HK.out _ HB1.out
  cases sb
  · clear a0 a1 a2 a3 a4 b0 b1 b2 b3 b4 r0 r1
    go_wp2_with fail
    refine (HPN.out _).mono ?_; rintro e w9 ⟨v9, rfl, ho9, hb9⟩
    obtain ⟨p9, c9, rfl, _, _, _, _⟩ := ho9.form (n := 1) rfl
    have HB9 : Hid (Below W.heap.size W w9) := Lib.hid (HB1.out.trans (hb9.mono HB1.out.size))
    clear ho9 hb9
    go_wp2
    go_ret
    exact ⟨rfl, HWB.out _ HB9.out⟩
  go_wp2_with fail
  refine (HS2.out _ HB1.out).mono ?_; rintro e w2 ⟨sb, rfl, hb2⟩
  have HB2 : Hid (Below W.heap.size W w2) := Lib.hid (HB1.out.trans (hb2.mono HB1.out.size))
  clear hb2 HS2 a0 a1 a2 a3 a4 b0 b1 b2 b3 b4 r0 r1
  obtain ⟨a0, a1, a2, a3, a4, b0, b1, b2, b3, b4, r0, r1⟩ := HK.out _ HB2.out
  cases sb
  · clear a0 a1 a2 a3 a4 b0 b1 b2 b3 b4 r0 r1
    go_wp2_with fail
    refine (HPN.out _).mono ?_; rintro e w9 ⟨v9, rfl, ho9, hb9⟩
    obtain ⟨p9, c9, rfl, _, _, _, _⟩ := ho9.form (n := 1) rfl
    have HB9 : Hid (Below W.heap.size W w9) := Lib.hid (HB2.out.trans (hb9.mono HB2.out.size))
    clear ho9 hb9
    go_wp2
    go_ret
    exact ⟨rfl, HWB.out _ HB9.out⟩
  by_cases h3 : 500 < x3
  · have h3' : (500 : Int) < (x3 : Int) := by omega
    clear h3
    go_wp2_with fail
    refine (HPN.out _).mono ?_; rintro e w9 ⟨v9, rfl, ho9, hb9⟩
    obtain ⟨p9, c9, rfl, _, _, _, _⟩ := ho9.form (n := 1) rfl
    have HB9 : Hid (Below W.heap.size W w9) := Lib.hid (HB2.out.trans (hb9.mono HB2.out.size))
    clear ho9 hb9
    go_wp2
    go_ret
    exact ⟨rfl, HWB.out _ HB9.out⟩
  have h3' : ¬ (500 : Int) < (x3 : Int) := by omega
  by_cases h4 : 500 < x4
  · have h4' : (500 : Int) < (x4 : Int) := by omega
    clear h4
    go_wp2_with fail
    refine (HPN.out _).mono ?_; rintro e w9 ⟨v9, rfl, ho9, hb9⟩
    obtain ⟨p9, c9, rfl, _, _, _, _⟩ := ho9.form (n := 1) rfl
    have HB9 : Hid (Below W.heap.size W w9) := Lib.hid (HB2.out.trans (hb9.mono HB2.out.size))
    clear ho9 hb9
    go_wp2
    go_ret
    exact ⟨rfl, HWB.out _ HB9.out⟩
  have h4' : ¬ (500 : Int) < (x4 : Int) := by omega
  go_wp2_with fail
  refine (HV1.out _ HB2.out).mono ?_; rintro e w3 ⟨rfl, hb3⟩
  have HB3 : Hid (Below W.heap.size W w3) := Lib.hid (HB2.out.trans (hb3.mono HB2.out.size))
  clear hb3 HV1 a0 a1 a2 a3 a4 b0 b1 b2 b3 b4 r0 r1
  obtain ⟨a0, a1, a2, a3, a4, b0, b1, b2, b3, b4, r0, r1⟩ := HK.out _ HB3.out
  cases va
  · clear a0 a1 a2 a3 a4 b0 b1 b2 b3 b4 r0 r1
    go_wp2_with fail
    refine (HPN.out _).mono ?_; rintro e w9 ⟨v9, rfl, ho9, hb9⟩
    obtain ⟨p9, c9, rfl, _, _, _, _⟩ := ho9.form (n := 1) rfl
    have HB9 : Hid (Below W.heap.size W w9) := Lib.hid (HB3.out.trans (hb9.mono HB3.out.size))
    clear ho9 hb9
    go_wp2
    go_ret
    exact ⟨rfl, HWB.out _ HB9.out⟩
  go_wp2_with fail
  refine (HV2.out _ HB3.out).mono ?_; rintro e w4 ⟨rfl, hb4⟩
  have HB4 : Hid (Below W.heap.size W w4) := Lib.hid (HB3.out.trans (hb4.mono HB3.out.size))
  clear hb4 HV2 a0 a1 a2 a3 a4 b0 b1 b2 b3 b4 r0 r1
  cases vb
  · clear HP1 HP2
    go_wp2_with fail
    refine (HPN.out _).mono ?_; rintro e w9 ⟨v9, rfl, ho9, hb9⟩
    obtain ⟨p9, c9, rfl, _, _, _, _⟩ := ho9.form (n := 1) rfl
    have HB9 : Hid (Below W.heap.size W w9) := Lib.hid (HB4.out.trans (hb9.mono HB4.out.size))
    clear ho9 hb9
    go_wp2
    go_ret
    exact ⟨rfl, HWB.out _ HB9.out⟩
  have HP1' := Lib.hid (HP1.out (by trivial))
  have HP2' := Lib.hid (HP2.out (by trivial))
  have HSEP' := Lib.hid (HSEP.out (by trivial) (by trivial))
  have HXL' := Lib.hid (HXL.out (by trivial))
  have HYL' := Lib.hid (HYL.out (by trivial))
  clear HP1 HP2 HSEP HXL HYL
  obtain ⟨nx, hnx⟩ : ∃ x, x = X.length := ⟨_, rfl⟩
  obtain ⟨ny, hny⟩ : ∃ x, x = Y.length := ⟨_, rfl⟩
  have hnx0 : 0 < nx := by have := HX0.out; omega
  have hny0 : 0 < ny := by have := HY0.out; omega
  have hnxl : nx ≤ 8242 := by have := HXL'.out; omega
  have hnyl : ny ≤ 8242 := by have := HYL'.out; omega
  have HNX := Lib.hid hnx
  have HNY := Lib.hid hny
  clear hnx hny
  go_wp2_with fail
  go_region_held3 (fun w' => w'.cell? ⟨w.heap.size, 0, none⟩ = some (.int .i64 k1) ∧ w'.cell? ⟨w.heap.size, 1, none⟩ = some (.int .i64 n1) ∧ w'.cell? ⟨w.heap.size, 2, none⟩ = some (.float .f64 f1) ∧ w'.cell? ⟨w.heap.size, 3, none⟩ = some (.string s1) ∧ w'.cell? ⟨w.heap.size, 4, none⟩ = some (.slice q1 m1 c1) ∧
      w'.cell? ⟨w.heap.size + 1, 0, none⟩ = some (.int .i64 k2) ∧ w'.cell? ⟨w.heap.size + 1, 1, none⟩ = some (.int .i64 n2) ∧ w'.cell? ⟨w.heap.size + 1, 2, none⟩ = some (.float .f64 f2) ∧ w'.cell? ⟨w.heap.size + 1, 3, none⟩ = some (.string s2) ∧ w'.cell? ⟨w.heap.size + 1, 4, none⟩ = some (.slice q2 m2 c2) ∧
      w'.cell? ⟨w.heap.size + 2, 0, none⟩ = some (.slice p3 x3 d3) ∧ w'.cell? ⟨w.heap.size + 2, 1, none⟩ = some (.slice p4 x4 d4))
    (first | exact HK.out _ HB4.out.drew | exact HK.out _ HB6.out | exact HK.out _ HB5.out)
    (first
      | (go_at_call_of 14 (Value.agg #[.int .i64 k1, .int .i64 n1, .float .f64 f1, .string s1, .slice q1 m1 c1]); refine (HP1'.out _ HB4.out.drew).mono ?_; rintro e w5 ⟨v5, rfl, ho5, hb5⟩; have HB5 : Hid (Below W.heap.size W w5) := Lib.hid (HB4.out.drew.trans (hb5.mono HB4.out.drew.size)); obtain ⟨g5, z5, rfl, hz5, hzz5, hg5, hg5', _, _⟩ := ho5.some HNX.out hnx0; have HO5 := Lib.hid (ho5.le HB4.out.drew.size); clear ho5 hb5)
      | (go_at_call_of 14 (Value.agg #[.int .i64 k2, .int .i64 n2, .float .f64 f2, .string s2, .slice q2 m2 c2]); refine (HP2'.out _ HB5.out).mono ?_; rintro e w6 ⟨v6, rfl, ho6, hb6⟩; have HB6 : Hid (Below W.heap.size W w6) := Lib.hid (HB5.out.trans (hb6.mono HB5.out.size)); obtain ⟨g6, z6, rfl, hz6, hzz6, hg6, hg6', _, _⟩ := ho6.some HNY.out hny0; have HO6 := Lib.hid (ho6.le HB5.out.size); have HO5' := Lib.hid (HO5.out.below hb6); clear ho6 hb6))
  have hz1 : ((nx : Int) == 0) = false := by rw [beq_eq_false_iff_ne]; omega
  have hz2 : ((ny : Int) == 0) = false := by rw [beq_eq_false_iff_ne]; omega
  obtain ⟨a0, a1, a2, a3, a4, b0, b1, b2, b3, b4, r0, r1⟩ := HK.out _ HB6.out
  go_wp2_with fail
  refine (HC.out _ HB6.out).mono ?_; rintro e w7 ⟨rfl, hb7⟩
  have HB7 : Hid (Below W.heap.size W w7) := Lib.hid (HB6.out.trans (hb7.mono HB6.out.size))
  have HO7 := Lib.hid (HO5'.out.below hb7)
  have HO8 := Lib.hid (HO6.out.below hb7)
  clear hb7 HC HO5 HO5' HO6 a0 a1 a2 a3 a4 b0 b1 b2 b3 b4 r0 r1 hz1 hz2
  have HCC : Hid (Lib.compareBytes X Y = cv) := Lib.hid HSEP'.out.cmp
  go_wp2_with fail
  obtain ⟨_, _, hv7, _, _, hs7, _⟩ := HO7.out.form HNX.out
  simp only [Value.slice.injEq] at hv7
  obtain ⟨hv7, _, hv7c⟩ := hv7
  subst hv7 hv7c
  obtain ⟨_, _, hv8, _, _, hs8, _⟩ := HO8.out.form HNY.out
  simp only [Value.slice.injEq] at hv8
  obtain ⟨hv8, _, hv8c⟩ := hv8
  subst hv8 hv8c
  refine (oRefCompare_any hs7 hs8 nx z5 ny z6 HNX.out HNY.out (by omega) (by omega)).mono ?_; rintro e w8 ⟨rfl, hb8⟩
  rw [HCC.out]
  have HB8 : Hid (Below W.heap.size W w8) := Lib.hid (HB7.out.trans (hb8.mono HB7.out.size))
  have HO9 := Lib.hid (HO7.out.below hb8)
  have HO10 := Lib.hid (HO8.out.below hb8)
  clear hb8 hs7 hs8 HO7 HO8
  obtain ⟨a0, a1, a2, a3, a4, b0, b1, b2, b3, b4, r0, r1⟩ := HK.out _ HB8.out
  by_cases hc : cv = 0
  · have hc' : (cv == 0) = true := by simpa using hc
    clear hc
    go_wp2_with fail
    go_quiet (fail)
    go_wp2
    go_ret
    exact ⟨rfl, HWB.out _ (belowN HB8.out _)⟩
  · have hc' : (cv == 0) = false := by simpa using hc
    have HCN := Lib.hid hc
    clear hc
    have HCE : Hid (Lib.compareBytes (X ++ e3) (Y ++ e4) = cv) := Lib.hid (HSEP'.out.ne HCN.out e3 e4)
    obtain ⟨nx2, hnx2⟩ : ∃ x, x = (X ++ e3).length := ⟨_, rfl⟩
    obtain ⟨ny2, hny2⟩ : ∃ x, x = (Y ++ e4).length := ⟨_, rfl⟩
    have hnx2' : nx2 ≤ 10000 := by have := HN3.out; have := HXL'.out; rw [hnx2, List.length_append]; omega
    have hny2' : ny2 ≤ 10000 := by have := HN4.out; have := HYL'.out; rw [hny2, List.length_append]; omega
    have HNX2 := Lib.hid hnx2
    have HNY2 := Lib.hid hny2
    have hg6l := (World.ownsRow.lt HO10.out g6 rfl).2
    have HNE : Hid (g6 ≠ g5) := Lib.hid (by omega)
    have HG6 := Lib.hid hg6l
    clear hnx2 hny2 hg6l hg5 hg5' hg6 hg6'
    go_wp2_with fail
    go_region_held3 (fun w' => w'.cell? ⟨w.heap.size + 2, 0, none⟩ = some (.slice p3 x3 d3) ∧ w'.cell? ⟨w.heap.size + 2, 1, none⟩ = some (.slice p4 x4 d4))
      (first | exact ⟨(HK.out _ HB8.out.drew).2.2.2.2.2.2.2.2.2.2.1, (HK.out _ HB8.out.drew).2.2.2.2.2.2.2.2.2.2.2⟩ | exact ⟨(HK.out _ HB13.out).2.2.2.2.2.2.2.2.2.2.1, (HK.out _ HB13.out).2.2.2.2.2.2.2.2.2.2.2⟩ | exact ⟨(HK.out _ HB12.out).2.2.2.2.2.2.2.2.2.2.1, (HK.out _ HB12.out).2.2.2.2.2.2.2.2.2.2.2⟩ | exact ⟨(HK.out _ HB11.out).2.2.2.2.2.2.2.2.2.2.1, (HK.out _ HB11.out).2.2.2.2.2.2.2.2.2.2.2⟩)
      (first
        | (refine step_at (by rfl) (.tmp 67) (.tmp 69) rfl rfl HO9.out.drew HNX.out HN3.out rfl (HL3.out.below (HWB.out _ HB8.out.drew)) HQ3.out (by have := HXL'.out; have := HN3.out; omega) HB8.out.drew.size ?_; intro v11 w11 ho11 hg11 hd11; have HB11 : Hid (Below W.heap.size W w11) := Lib.hid (HB8.out.drew.trans (HO9.out.drew.below_at (Nat.le_refl _) HB8.out.drew.size hg11)); have HO11 := Lib.hid ho11; have HO10' := Lib.hid (HO10.out.drew.kept hg11 (by simp only [Value.ownBlock, ne_eq, Option.some.injEq]; exact HNE.out)); have HV11 := Lib.hid (block_ne hd11 HNE.out HG6.out); clear ho11 hg11 hd11)
        | (refine step_at (by rfl) (.tmp 71) (.tmp 73) rfl rfl HO10'.out HNY.out HN4.out rfl (HL4.out.below (HWB.out _ HB11.out)) HQ4.out (by have := HYL'.out; have := HN4.out; omega) HB11.out.size ?_; intro v12 w12 ho12 hg12 hd12; have HB12 : Hid (Below W.heap.size W w12) := Lib.hid (HB11.out.trans (HO10'.out.below_at (Nat.le_refl _) HB11.out.size hg12)); have HO11' := Lib.hid (HO11.out.kept hg12 HV11.out); obtain ⟨pa, ca, rfl, _, _, hsa, _⟩ := HO11'.out.form HNX2.out; obtain ⟨pb, cb, rfl, _, _, hsb, _⟩ := ho12.form HNY2.out; have HSA := Lib.hid hsa; have HSB := Lib.hid hsb; clear ho12 hg12 hd12 hsa hsb)
        | (go_at_call 17; refine (oRefCompare_any HSA.out HSB.out nx2 ca ny2 cb HNX2.out HNY2.out (by omega) (by omega)).mono ?_; rintro e w13 ⟨rfl, hb13⟩; rw [HCE.out]; have HB13 : Hid (Below W.heap.size W w13) := Lib.hid (HB12.out.trans (hb13.mono HB12.out.size)); clear hb13))
    go_wp2
    go_ret
    exact ⟨rfl, HWB.out _ HB13.out⟩

end Go.Proofs.Ytjimbjcfoebimaa
