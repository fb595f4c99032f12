/-
  KeysBack: what is put is read as it was, whatever stands behind; several values, one behind the other, are split. Conditions: none.
-/
import Derived.Test.YtjimbjcfoebimaaLawKTuples
import Derived.Test.YtjimbjcfoebimaaKSplit2
import Derived.Test.YtjimbjcfoebimaaVSame
import Derived.Deep.RegionHeld3
import Derived.Outline
set_option linter.unusedVariables false
set_option maxRecDepth 100000
namespace Go.Proofs.Ytjimbjcfoebimaa
open Go.RowKit

theorem two_of_map {vs : List Va} {x y : At × List At} (h : vs.map (fun u : Va => (u.a, u.l)) = [x, y]) : ∃ qa ma ca qb mb cb, vs = [⟨x.1, qa, ma, ca, x.2⟩, ⟨y.1, qb, mb, cb, y.2⟩] := by
  match vs, h with
  | [u, v], h =>
    simp only [List.map_cons, List.map_nil, List.cons.injEq, and_true] at h
    obtain ⟨rfl, rfl⟩ := h
    exact ⟨u.q, u.m, u.c, v.q, v.m, v.c, rfl⟩

set_option maxHeartbeats 8000000 in
theorem lawBack4_any {w : World} {k1 n1 : Int} {f1 : Nat} {s1 : ByteArray} {q1 : Option Addr} {m1 c1 : Nat} {l1 : List At} (h1 : VaOk w ⟨k1, n1, f1, s1⟩ q1 m1 c1 l1) {k2 n2 : Int} {f2 : Nat} {s2 : ByteArray} {q2 : Option Addr} {m2 c2 : Nat} {l2 : List At} (h2 : VaOk w ⟨k2, n2, f2, s2⟩ q2 m2 c2 l2)
    {p3 : Option Addr} {x3 d3 : Nat} {e3 : List UInt8} (hs3 : Bs w p3 e3) (hn3 : x3 = e3.length) (hc3 : x3 ≤ d3) (hd3 : d3 ≤ 9223372036854775807) (hp3 : p3 = none → d3 = 0) :
    Calls Try.prog 6 #[.agg #[.int .i64 k1, .int .i64 n1, .float .f64 f1, .string s1, .slice q1 m1 c1], .agg #[.int .i64 k2, .int .i64 n2, .float .f64 f2, .string s2, .slice q2 m2 c2], .slice p3 x3 d3] w fun e w' => e = .returned (.bool true) ∧ Below w.heap.size w w' := by
  obtain ⟨W, hW⟩ : ∃ W, W = (w.alloc (.cells #[.int .i64 k1, .int .i64 n1, .float .f64 f1, .string s1, .slice q1 m1 c1] 27)).alloc (.cells #[.int .i64 k2, .int .i64 n2, .float .f64 f2, .string s2, .slice q2 m2 c2] 27) := ⟨_, rfl⟩
  have HK : Hid (∀ w', Below W.heap.size W w' → (w'.cell? ⟨w.heap.size, 0, none⟩ = some (.int .i64 k1) ∧ w'.cell? ⟨w.heap.size, 1, none⟩ = some (.int .i64 n1) ∧ w'.cell? ⟨w.heap.size, 2, none⟩ = some (.float .f64 f1) ∧ w'.cell? ⟨w.heap.size, 3, none⟩ = some (.string s1) ∧ w'.cell? ⟨w.heap.size, 4, none⟩ = some (.slice q1 m1 c1) ∧
      w'.cell? ⟨w.heap.size + 1, 0, none⟩ = some (.int .i64 k2) ∧ w'.cell? ⟨w.heap.size + 1, 1, none⟩ = some (.int .i64 n2) ∧ w'.cell? ⟨w.heap.size + 1, 2, none⟩ = some (.float .f64 f2) ∧ w'.cell? ⟨w.heap.size + 1, 3, none⟩ = some (.string s2) ∧ w'.cell? ⟨w.heap.size + 1, 4, none⟩ = some (.slice q2 m2 c2))) := by
    refine Lib.hid fun w' hb => ?_
    rw [hW] at hb
    obtain ⟨g1, g2⟩ := box2_cells2 hb
    exact ⟨g1 0, g1 1, g1 2, g1 3, g1 4, g2 0, g2 1, g2 2, g2 3, g2 4⟩
  have HWB : Hid (∀ w', Below W.heap.size W w' → Below w.heap.size w w') := by
    refine Lib.hid fun w' hb => ?_
    rw [hW] at hb
    exact box2_below hb
  have hst := store_flt
  have HB0 : Hid (Below W.heap.size W W) := Lib.hid (Below.refl _ _)
  have HS1 : Hid (∀ w', Below W.heap.size W w' → Calls Try.prog 13 #[.agg #[.int .i64 k1, .int .i64 n1, .float .f64 f1, .string s1, .slice q1 m1 c1]] w' (SomeBool w')) := Lib.hid fun w' hb => short_any (h1.below (HWB.out _ hb))
  have HS2 : Hid (∀ w', Below W.heap.size W w' → Calls Try.prog 13 #[.agg #[.int .i64 k2, .int .i64 n2, .float .f64 f2, .string s2, .slice q2 m2 c2]] w' (SomeBool w')) := Lib.hid fun w' hb => short_any (h2.below (HWB.out _ hb))
  have HV1 : Hid (∀ w', Below W.heap.size W w' → Calls Try.prog 10 #[.agg #[.int .i64 k1, .int .i64 n1, .float .f64 f1, .string s1, .slice q1 m1 c1]] w' fun e w'' => e = .returned (.bool (validV ⟨k1, n1, f1, s1⟩ l1)) ∧ Below w'.heap.size w' w'') := Lib.hid fun w' hb => refValid_any (h1.below (HWB.out _ hb))
  have HV2 : Hid (∀ w', Below W.heap.size W w' → Calls Try.prog 10 #[.agg #[.int .i64 k2, .int .i64 n2, .float .f64 f2, .string s2, .slice q2 m2 c2]] w' fun e w'' => e = .returned (.bool (validV ⟨k2, n2, f2, s2⟩ l2)) ∧ Below w'.heap.size w' w'') := Lib.hid fun w' hb => refValid_any (h2.below (HWB.out _ hb))
  have HQ1 := Lib.hid h1
  have HQ2 := Lib.hid h2
  have HOV1 : Hid (∀ w', Below W.heap.size W w' → (⟨⟨k1, n1, f1, s1⟩, q1, m1, c1, l1⟩ : Va).Ok w') := Lib.hid fun w' hb => VaOk.below h1 (HWB.out _ hb)
  have HOV2 : Hid (∀ w', Below W.heap.size W w' → (⟨⟨k2, n2, f2, s2⟩, q2, m2, c2, l2⟩ : Va).Ok w') := Lib.hid fun w' hb => VaOk.below h2 (HWB.out _ hb)
  obtain ⟨va, hva⟩ : ∃ v, v = validV ⟨k1, n1, f1, s1⟩ l1 := ⟨_, rfl⟩
  obtain ⟨vb, hvb⟩ : ∃ v, v = validV ⟨k2, n2, f2, s2⟩ l2 := ⟨_, rfl⟩
  rw [← hva] at HV1
  rw [← hvb] at HV2
  have HVA := Lib.hid hva
  have HVB := Lib.hid hvb
  have HPN := Lib.hid putNull_any
  have HL3 := Lib.hid hs3
  have HN3 := Lib.hid hn3
  have HP3 := Lib.hid hp3
  clear h1 h2 hs3 hn3 hp3 hva hvb
  go_enter Try.func6, Try.ntmps6
  go_wp2_with fail
  rw [← hW]
  replace hW := Lib.hid hW
  refine (HS1.out _ HB0.out).mono ?_; rintro e w1 ⟨sb, rfl, hb1⟩
  have HB1 := Lib.hid hb1
  clear hb1 HS1
  obtain ⟨a0, a1, a2, a3, a4, b0, b1, b2, b3, b4⟩ := HK.out _ HB1.out
  cases sb
  · clear a0 a1 a2 a3 a4 b0 b1 b2 b3 b4
    go_wp2_with fail
    refine (HPN.out _).mono ?_; rintro e w99 ⟨v99, rfl, ho99, hb99⟩
    obtain ⟨p99, c99, rfl, _, _, _, _⟩ := ho99.form (n := 1) rfl
    have HB99 : Hid (Below W.heap.size W w99) := Lib.hid (HB1.out.trans (hb99.mono HB1.out.size))
    clear ho99 hb99
    go_wp2
    go_ret
    exact ⟨rfl, HWB.out _ HB99.out⟩
  go_wp2_with fail
  refine (HS2.out _ HB1.out).mono ?_; rintro e w2 ⟨sb, rfl, hb2⟩
  have HB2 : Hid (Below W.heap.size W w2) := Lib.hid (below_then HB1.out hb2)
  clear hb2 HS2 a0 a1 a2 a3 a4 b0 b1 b2 b3 b4
  obtain ⟨a0, a1, a2, a3, a4, b0, b1, b2, b3, b4⟩ := HK.out _ HB2.out
  cases sb
  · clear a0 a1 a2 a3 a4 b0 b1 b2 b3 b4
    go_wp2_with fail
    refine (HPN.out _).mono ?_; rintro e w99 ⟨v99, rfl, ho99, hb99⟩
    obtain ⟨p99, c99, rfl, _, _, _, _⟩ := ho99.form (n := 1) rfl
    have HB99 : Hid (Below W.heap.size W w99) := Lib.hid (HB2.out.trans (hb99.mono HB2.out.size))
    clear ho99 hb99
    go_wp2
    go_ret
    exact ⟨rfl, HWB.out _ HB99.out⟩
  by_cases h3 : 500 < x3
  · have h3' : (500 : Int) < (x3 : Int) := by omega
    clear h3
    go_wp2_with fail
    refine (HPN.out _).mono ?_; rintro e w99 ⟨v99, rfl, ho99, hb99⟩
    obtain ⟨p99, c99, rfl, _, _, _, _⟩ := ho99.form (n := 1) rfl
    have HB99 : Hid (Below W.heap.size W w99) := Lib.hid (HB2.out.trans (hb99.mono HB2.out.size))
    clear ho99 hb99
    go_wp2
    go_ret
    exact ⟨rfl, HWB.out _ HB99.out⟩
  have h3' : ¬ (500 : Int) < (x3 : Int) := by omega
  go_wp2_with fail
  refine (HV1.out _ HB2.out).mono ?_; rintro e w3 ⟨rfl, hb3⟩
  have HB3 : Hid (Below W.heap.size W w3) := Lib.hid (below_then HB2.out hb3)
  clear hb3 HV1 a0 a1 a2 a3 a4 b0 b1 b2 b3 b4
  obtain ⟨a0, a1, a2, a3, a4, b0, b1, b2, b3, b4⟩ := HK.out _ HB3.out
  cases va
  · clear a0 a1 a2 a3 a4 b0 b1 b2 b3 b4
    go_wp2_with fail
    refine (HPN.out _).mono ?_; rintro e w99 ⟨v99, rfl, ho99, hb99⟩
    obtain ⟨p99, c99, rfl, _, _, _, _⟩ := ho99.form (n := 1) rfl
    have HB99 : Hid (Below W.heap.size W w99) := Lib.hid (HB3.out.trans (hb99.mono HB3.out.size))
    clear ho99 hb99
    go_wp2
    go_ret
    exact ⟨rfl, HWB.out _ HB99.out⟩
  go_wp2_with fail
  refine (HV2.out _ HB3.out).mono ?_; rintro e w4 ⟨rfl, hb4⟩
  have HB4 : Hid (Below W.heap.size W w4) := Lib.hid (below_then HB3.out hb4)
  clear hb4 HV2 a0 a1 a2 a3 a4 b0 b1 b2 b3 b4
  cases vb
  · skip
    go_wp2_with fail
    refine (HPN.out _).mono ?_; rintro e w99 ⟨v99, rfl, ho99, hb99⟩
    obtain ⟨p99, c99, rfl, _, _, _, _⟩ := ho99.form (n := 1) rfl
    have HB99 : Hid (Below W.heap.size W w99) := Lib.hid (HB4.out.trans (hb99.mono HB4.out.size))
    clear ho99 hb99
    go_wp2
    go_ret
    exact ⟨rfl, HWB.out _ HB99.out⟩
  have HVA' : Hid (validV ⟨k1, n1, f1, s1⟩ l1 = true) := Lib.hid HVA.out.symm
  have HVB' : Hid (validV ⟨k2, n2, f2, s2⟩ l2 = true) := Lib.hid HVB.out.symm
  have HPU : Hid (∀ w', Below W.heap.size W w' → Calls Try.prog 14 #[.slice none 0 0, .agg #[.int .i64 k1, .int .i64 n1, .float .f64 f1, .string s1, .slice q1 m1 c1]] w' (PutPost w' (valK ⟨k1, n1, f1, s1⟩ l1))) := Lib.hid fun w' hb => by
    have h := keysPut_any (w := w') (p := none) (b := []) (Bs.nil _ _) (n0 := 0) (c0 := 0) rfl (by omega) (by omega) (fun _ => rfl) (by simp) (HQ1.out.below (HWB.out _ hb))
    unfold putK at h
    rw [if_pos HVA'.out, List.nil_append] at h
    exact h
  have HTU : Hid (∀ w' p, Vs w' p [⟨⟨k1, n1, f1, s1⟩, q1, m1, c1, l1⟩, ⟨⟨k2, n2, f2, s2⟩, q2, m2, c2, l2⟩] → Calls Try.prog 20 #[.slice p 2 2] w' (PutPost w' (catV [(⟨k1, n1, f1, s1⟩, l1), (⟨k2, n2, f2, s2⟩, l2)]))) := Lib.hid fun w' p h => by
    have h := tuple_any (l := [⟨⟨k1, n1, f1, s1⟩, q1, m1, c1, l1⟩, ⟨⟨k2, n2, f2, s2⟩, q2, m2, c2, l2⟩]) rfl (Nat.le_refl 2) (by omega) (by simp) h
    simp only [tupK, putK, if_pos HVA'.out, if_pos HVB'.out] at h
    exact h
  have HGV : ∀ x ∈ ([(⟨k1, n1, f1, s1⟩, l1), (⟨k2, n2, f2, s2⟩, l2)] : List (At × List At)), GoodV x := fun x hx => by
    simp only [List.mem_cons, List.not_mem_nil, or_false] at hx
    rcases hx with rfl | rfl
    · exact ⟨HQ1.out.ok, HQ1.out.hok, HVA'.out⟩
    · exact ⟨HQ2.out.ok, HQ2.out.hok, HVB'.out⟩
  have HTL : Hid (1 < (catV [(⟨k1, n1, f1, s1⟩, l1), (⟨k2, n2, f2, s2⟩, l2)]).length ∧ (catV [(⟨k1, n1, f1, s1⟩, l1), (⟨k2, n2, f2, s2⟩, l2)]).length ≤ 20000) := Lib.hid (by
    have g1 := valK_pos ⟨k1, n1, f1, s1⟩ l1
    have g2 := valK_pos ⟨k2, n2, f2, s2⟩ l2
    have g3 := valK_len HVA'.out
    have g4 := valK_len HVB'.out
    simp only [catV, List.length_append, List.length_nil]
    omega)
  have HSP : Hid (∀ (k : Nat), k ≤ 2 → ∀ w' g n c, Bs w' (some ⟨g, 0, none⟩) (catV [(⟨k1, n1, f1, s1⟩, l1), (⟨k2, n2, f2, s2⟩, l2)]) → n = (catV [(⟨k1, n1, f1, s1⟩, l1), (⟨k2, n2, f2, s2⟩, l2)]).length → n ≤ c → c ≤ 9223372036854775807 → Calls Try.prog 19 #[.slice (some ⟨g, 0, none⟩) n c, .int .i64 (k : Int)] w' (SPost w' [(⟨k1, n1, f1, s1⟩, l1), (⟨k2, n2, f2, s2⟩, l2)] k)) := Lib.hid fun k hk w' g n c hb hn h1 h2 =>
    split_any hb hn h1 h2 (by have := HTL.out; omega) _ HGV rfl k (by simpa using hk) (by omega)
  have HSP2 : Hid (∀ w' g n c, Bs w' (some ⟨g, 0, none⟩) (catV [(⟨k1, n1, f1, s1⟩, l1), (⟨k2, n2, f2, s2⟩, l2)]) → n = (catV [(⟨k1, n1, f1, s1⟩, l1), (⟨k2, n2, f2, s2⟩, l2)]).length → n ≤ c → c ≤ 9223372036854775807 → Calls Try.prog 19 #[.slice (some ⟨g, 0, none⟩) n c, .int .i64 2] w' (SPost w' [(⟨k1, n1, f1, s1⟩, l1), (⟨k2, n2, f2, s2⟩, l2)] 2)) := Lib.hid (HSP.out 2 (by omega))
  have HSP1 : Hid (∀ w' g n c, Bs w' (some ⟨g, 0, none⟩) (catV [(⟨k1, n1, f1, s1⟩, l1), (⟨k2, n2, f2, s2⟩, l2)]) → n = (catV [(⟨k1, n1, f1, s1⟩, l1), (⟨k2, n2, f2, s2⟩, l2)]).length → n ≤ c → c ≤ 9223372036854775807 → Calls Try.prog 19 #[.slice (some ⟨g, 0, none⟩) n c, .int .i64 1] w' (SPost w' [(⟨k1, n1, f1, s1⟩, l1), (⟨k2, n2, f2, s2⟩, l2)] 1)) := Lib.hid (HSP.out 1 (by omega))
  have HRB : Hid (rdV (valK ⟨k1, n1, f1, s1⟩ l1 ++ e3) = (0, ⟨k1, n1, f1, s1⟩, l1, (valK ⟨k1, n1, f1, s1⟩ l1).length)) := Lib.hid (rdV_back HQ1.out.ok HQ1.out.hok HVA'.out e3)
  have HRL : Hid (∀ j, j < (valK ⟨k1, n1, f1, s1⟩ l1).length → (rdV ((valK ⟨k1, n1, f1, s1⟩ l1).take j)).1 ≠ 0) := Lib.hid fun j hj => rdV_less HQ1.out.ok HQ1.out.hok HVA'.out hj
  have HX0 := Lib.hid (valK_pos ⟨k1, n1, f1, s1⟩ l1)
  have HXL := Lib.hid (valK_len HVA'.out)
  clear HGV HSP HVA HVB
  generalize valK ⟨k1, n1, f1, s1⟩ l1 = X at *
  generalize catV [(⟨k1, n1, f1, s1⟩, l1), (⟨k2, n2, f2, s2⟩, l2)] = T at *
  obtain ⟨nx, hnx⟩ : ∃ x, x = X.length := ⟨_, rfl⟩
  obtain ⟨nt, hnt⟩ : ∃ x, x = T.length := ⟨_, rfl⟩
  have hnx0 : 0 < nx := by have := HX0.out; omega
  have hnxl : nx ≤ 8242 := by have := HXL.out; omega
  have hnt0 : 0 < nt := by have := HTL.out; omega
  have HNX := Lib.hid hnx
  have HNT := Lib.hid hnt
  obtain ⟨ny, hny⟩ : ∃ x, x = (X ++ e3).length := ⟨_, rfl⟩
  have hny2 : ny ≤ 10000 := by have := HN3.out; rw [hny, List.length_append]; omega
  have HNY := Lib.hid hny
  clear hnx hnt hny
  obtain ⟨a0, a1, a2, a3, a4, b0, b1, b2, b3, b4⟩ := HK.out _ HB4.out
  go_wp2_with fail
  refine (HPU.out _ HB4.out).mono ?_; rintro e w5 ⟨v5, rfl, ho5, hb5⟩
  have HB5 : Hid (Below W.heap.size W w5) := Lib.hid (below_then HB4.out hb5)
  obtain ⟨g5, z5, rfl, hz5, hzz5, _, _, _, _⟩ := ho5.some HNX.out hnx0
  have HO5 := Lib.hid ho5
  clear ho5 hb5 HPU a0 a1 a2 a3 a4 b0 b1 b2 b3 b4
  have HE0 : Hid (Own (w5.alloc (.cells #[] 5)) w5.heap.size (.slice (some ⟨w5.heap.size, 0, none⟩) 0 0) []) := Lib.hid (Own.empty w5 _ (Nat.le_refl _))
  obtain ⟨_, _, hv5, _, _, hs5, _⟩ := HO5.out.form HNX.out
  simp only [Value.slice.injEq, true_and] at hv5
  obtain ⟨hv5, hv5c⟩ := hv5
  subst hv5 hv5c
  have HS5 := Lib.hid hs5
  clear hs5
  go_wp2_with (first
    | (at_builtin; refine app_own rfl (.tmp 48) (.tmp 49) rfl (B := w5.heap.size) rfl HE0.out HNX.out rfl (HS5.out.alloc _) (fun h => by cases h) (by have := HXL.out; simp; omega) (by simp) ?_; intro v6 w6 ho6 hb6; rw [List.nil_append] at ho6; have HO6 := Lib.hid ho6; have HC6 : Hid (Below w5.heap.size w5 w6) := Lib.hid (((Below.refl w5.heap.size w5).alloc (Nat.le_refl _) _).trans hb6); clear ho6 hb6)
    | (at_builtin; refine app_own rfl (.tmp 50) (.tmp 51) rfl (B := w5.heap.size) rfl HO6.out HN3.out rfl (HL3.out.below (HWB.out _ (below_then HB5.out HC6.out))) HP3.out (by have := HN3.out; have := HXL.out; omega) HC6.out.size ?_; intro v7 w7 ho7 hb7; have HC7 : Hid (Below w5.heap.size w5 w7) := Lib.hid (HC6.out.trans hb7); obtain ⟨p7, c7, rfl, hc7, hcc7, hs7, _⟩ := ho7.form HNY.out; have HS7 := Lib.hid hs7; have HB7 : Hid (Below W.heap.size W w7) := Lib.hid (below_then HB5.out HC7.out); clear ho7 hb7 hs7))
  have HRD := keysRead_any HS7.out ny c7 HNY.out hc7 hcc7 (by have := HNY.out; omega)
  rw [HRB.out, ← HNX.out] at HRD
  replace HRD := Lib.hid HRD
  clear HRB
  refine HRD.out.mono ?_
  rintro e w8 ⟨p8, m8, c8, rfl, hm8, hown8, hb8⟩
  have HB8 : Hid (Below W.heap.size W w8) := Lib.hid (below_then HB7.out hb8)
  have HV8 : Hid (VaOk w8 ⟨k1, n1, f1, s1⟩ p8 m8 c8 l1) := Lib.hid (vaOk_own HQ1.out.ok HQ1.out.hok hm8 hown8)
  have HO8 := Lib.hid ((HO5.out.below HC7.out).below hb8)
  clear hm8 hown8 hb8 HRD HO5 HO6 HE0 HS5 HS7 HC6 HC7
  dsimp only
  obtain ⟨W8, hW8⟩ : ∃ W8, W8 = w8.alloc (.cells #[.int .i64 k1, .int .i64 n1, .float .f64 f1, .string s1, .slice p8 m8 c8] 27) := ⟨_, rfl⟩
  obtain ⟨B8, hB8⟩ : ∃ B, B = w8.heap.size := ⟨_, rfl⟩
  have HBW8 : Hid (Below W.heap.size W W8) := Lib.hid (by rw [hW8]; exact below_al HB8.out _)
  have HK8 : Hid (∀ w', Below W8.heap.size W8 w' → (w'.cell? ⟨B8, 0, none⟩ = some (.int .i64 k1) ∧ w'.cell? ⟨B8, 1, none⟩ = some (.int .i64 n1) ∧ w'.cell? ⟨B8, 2, none⟩ = some (.float .f64 f1) ∧ w'.cell? ⟨B8, 3, none⟩ = some (.string s1) ∧ w'.cell? ⟨B8, 4, none⟩ = some (.slice p8 m8 c8))) := by
    refine Lib.hid fun w' hb => ?_
    rw [hW8] at hb
    have h1 := box_all hb
    rw [hB8]
    exact ⟨h1 0, h1 1, h1 2, h1 3, h1 4⟩
  have HV8' : Hid (VaOk W8 ⟨k1, n1, f1, s1⟩ p8 m8 c8 l1) := Lib.hid (HV8.out.below (by rw [hW8]; exact box_below (Below.refl _ _)))
  have HO9 : Hid (Own W8 w4.heap.size (.slice (some ⟨g5, 0, none⟩) nx z5) X) := Lib.hid (by rw [hW8]; exact HO8.out.alloc _)
  have hB8' := hB8
  clear HV8 HO8
  obtain ⟨a0, a1, a2, a3, a4, b0, b1, b2, b3, b4⟩ := HK.out _ HB8.out
  have hlt0 : w.heap.size < w8.heap.size := by have := World.block_lt_of_cell? _ _ a0; simpa using this
  have hlt1 : w.heap.size + 1 < w8.heap.size := by have := World.block_lt_of_cell? _ _ b0; simpa using this
  replace hW8 := Lib.hid hW8
  replace hB8 := Lib.hid hB8
  clear hB8'
  go_wp2_with fail
  rw [← hW8.out, ← hB8.out]
  have HB8s : Hid (B8 < W8.heap.size ∧ B8 + 1 = W8.heap.size) := Lib.hid (by rw [hW8.out, hB8.out]; simp)
  clear hW8 hB8 HB8 hlt0 hlt1 a0 a1 a2 a3 a4 b0 b1 b2 b3 b4
  refine (HTU.out _ _ (Vs.below (vs_two (w := W8) (g := B8 + 1) HB8s.out.2 ⟨⟨k1, n1, f1, s1⟩, q1, m1, c1, l1⟩ ⟨⟨k2, n2, f2, s2⟩, q2, m2, c2, l2⟩ (HOV1.out _ HBW8.out) (HOV2.out _ HBW8.out) 27) (Below.refl _ _))).mono ?_
  rintro e w9 ⟨v9, rfl, ho9, hb9⟩
  have HB9c : Hid (Below W8.heap.size W8 w9) := Lib.hid (box_below hb9)
  obtain ⟨g9, z9, rfl, hz9, hzz9, _, _, _, _⟩ := ho9.some HNT.out hnt0
  obtain ⟨_, _, hv9, _, _, hs9, _⟩ := ho9.form HNT.out
  simp only [Value.slice.injEq, true_and] at hv9
  obtain ⟨hv9, hv9c⟩ := hv9
  subst hv9 hv9c
  have HS9 := Lib.hid hs9
  clear ho9 hb9 hs9
  go_wp2_with fail
  refine (HSP2.out _ _ _ _ HS9.out HNT.out hz9 hzz9).mono ?_
  rintro e w10 ⟨hq10, _, hb10⟩
  obtain ⟨vs, p10, c10, rfl, hcc10, hccc10, hvs10, hmap10⟩ := hq10 rfl
  obtain ⟨qu1, mu1, cu1, qu2, mu2, cu2, rfl⟩ := two_of_map hmap10
  obtain ⟨bl, ol, rfl, hcl⟩ := hvs10.2 (by simp)
  have HU1 : Hid (VaOk w10 ⟨k1, n1, f1, s1⟩ qu1 mu1 cu1 l1) := Lib.hid (hvs10.1 ⟨⟨k1, n1, f1, s1⟩, qu1, mu1, cu1, l1⟩ (by simp))
  have HU2 : Hid (VaOk w10 ⟨k2, n2, f2, s2⟩ qu2 mu2 cu2 l2) := Lib.hid (hvs10.1 ⟨⟨k2, n2, f2, s2⟩, qu2, mu2, cu2, l2⟩ (by simp))
  have HCL1 := Lib.hid (hcl 0 _ rfl)
  have HCL2 := Lib.hid (hcl 1 _ rfl)
  have HB10c : Hid (Below W8.heap.size W8 w10) := Lib.hid (below_then HB9c.out hb10)
  have HB10 : Hid (Below W.heap.size W w10) := Lib.hid (below_then HBW8.out HB10c.out)
  clear hq10 hb10 hvs10 hmap10 hcl HS9 HSP2 HB9c
  obtain ⟨a0, a1, a2, a3, a4, b0, b1, b2, b3, b4⟩ := HK.out _ HB10.out
  have hlt0 : w.heap.size < w10.heap.size := by have := World.block_lt_of_cell? _ _ a0; simpa using this
  have hlt1 : w.heap.size + 1 < w10.heap.size := by have := World.block_lt_of_cell? _ _ b0; simpa using this
  go_wp2_with fail
  refine (HTU.out _ _ (vs_two (w := w10) (by simp) ⟨⟨k1, n1, f1, s1⟩, q1, m1, c1, l1⟩ ⟨⟨k2, n2, f2, s2⟩, q2, m2, c2, l2⟩ (HOV1.out _ HB10.out) (HOV2.out _ HB10.out) 27)).mono ?_
  rintro e w11 ⟨v11, rfl, ho11, hb11⟩
  have HB11c : Hid (Below w10.heap.size w10 w11) := Lib.hid (box_below hb11)
  obtain ⟨g11, z11, rfl, hz11, hzz11, _, _, _, _⟩ := ho11.some HNT.out hnt0
  obtain ⟨_, _, hv11, _, _, hs11, _⟩ := ho11.form HNT.out
  simp only [Value.slice.injEq, true_and] at hv11
  obtain ⟨hv11, hv11c⟩ := hv11
  subst hv11 hv11c
  have HS11 := Lib.hid hs11
  clear ho11 hb11 hs11 hlt0 hlt1 a0 a1 a2 a3 a4 b0 b1 b2 b3 b4
  go_wp2_with fail
  refine (HSP1.out _ _ _ _ HS11.out HNT.out hz11 hzz11).mono ?_
  rintro e w12 ⟨_, hq12, hb12⟩
  have he12 := hq12 (by simp)
  subst he12
  have HB12c : Hid (Below w10.heap.size w10 w12) := Lib.hid (below_then HB11c.out hb12)
  clear hq12 hb12 HS11 HSP1 HB11c HTU
  have HB12w : Hid (∀ w', Below w12.heap.size w12 w' → Below w10.heap.size w10 w') := Lib.hid fun w' h => below_then HB12c.out h
  have HB12W : Hid (∀ w', Below w12.heap.size w12 w' → Below W.heap.size W w') := Lib.hid fun w' h => below_then HB10.out (HB12w.out w' h)
  have HB128 : Hid (∀ w', Below w12.heap.size w12 w' → Below W8.heap.size W8 w') := Lib.hid fun w' h => below_then HB10c.out (HB12w.out w' h)
  have HS7 : Hid (∀ w', Below w12.heap.size w12 w' → (w'.cell? ⟨B8, 0, none⟩ = some (.int .i64 k1) ∧ w'.cell? ⟨B8, 1, none⟩ = some (.int .i64 n1) ∧ w'.cell? ⟨B8, 2, none⟩ = some (.float .f64 f1) ∧ w'.cell? ⟨B8, 3, none⟩ = some (.string s1) ∧ w'.cell? ⟨B8, 4, none⟩ = some (.slice p8 m8 c8) ∧ w'.cell? ⟨w.heap.size, 0, none⟩ = some (.int .i64 k1) ∧ w'.cell? ⟨w.heap.size, 1, none⟩ = some (.int .i64 n1) ∧ w'.cell? ⟨w.heap.size, 2, none⟩ = some (.float .f64 f1) ∧ w'.cell? ⟨w.heap.size, 3, none⟩ = some (.string s1) ∧ w'.cell? ⟨w.heap.size, 4, none⟩ = some (.slice q1 m1 c1) ∧ w'.cell? ⟨w.heap.size + 1, 0, none⟩ = some (.int .i64 k2) ∧ w'.cell? ⟨w.heap.size + 1, 1, none⟩ = some (.int .i64 n2) ∧ w'.cell? ⟨w.heap.size + 1, 2, none⟩ = some (.float .f64 f2) ∧ w'.cell? ⟨w.heap.size + 1, 3, none⟩ = some (.string s2) ∧ w'.cell? ⟨w.heap.size + 1, 4, none⟩ = some (.slice q2 m2 c2) ∧ w'.cell? ⟨bl, ol, none⟩ = some (.int .i64 k1) ∧ w'.cell? ⟨bl, ol + 1, none⟩ = some (.int .i64 n1) ∧ w'.cell? ⟨bl, ol + 2, none⟩ = some (.float .f64 f1) ∧ w'.cell? ⟨bl, ol + 3, none⟩ = some (.string s1) ∧ w'.cell? ⟨bl, ol + 4, none⟩ = some (.slice qu1 mu1 cu1) ∧ w'.cell? ⟨bl, ol + 5, none⟩ = some (.int .i64 k2) ∧ w'.cell? ⟨bl, ol + 6, none⟩ = some (.int .i64 n2) ∧ w'.cell? ⟨bl, ol + 7, none⟩ = some (.float .f64 f2) ∧ w'.cell? ⟨bl, ol + 8, none⟩ = some (.string s2) ∧ w'.cell? ⟨bl, ol + 9, none⟩ = some (.slice qu2 mu2 cu2))) := Lib.hid fun w' h => by
    obtain ⟨a0, a1, a2, a3, a4, b0, b1, b2, b3, b4⟩ := HK.out _ (HB12W.out _ h)
    obtain ⟨d0, d1, d2, d3, d4⟩ := HK8.out _ (HB128.out _ h)
    obtain ⟨e0, e1, e2, e3, e4⟩ := HCL1.out.below (HB12w.out _ h)
    obtain ⟨i0, i1, i2, i3, i4⟩ := HCL2.out.below (HB12w.out _ h)
    simp only [Nat.zero_mul, Nat.one_mul, Nat.add_zero, Nat.add_assoc] at e0 e1 e2 e3 e4 i0 i1 i2 i3 i4
    exact ⟨d0, d1, d2, d3, d4, a0, a1, a2, a3, a4, b0, b1, b2, b3, b4, e0, e1, e2, e3, e4, i0, i1, i2, i3, i4⟩
  have SM1 : Hid (∀ w', Below w12.heap.size w12 w' → Calls Try.prog 21 #[.agg #[.int .i64 k1, .int .i64 n1, .float .f64 f1, .string s1, .slice p8 m8 c8], .agg #[.int .i64 k1, .int .i64 n1, .float .f64 f1, .string s1, .slice q1 m1 c1]] w' fun e w'' => e = .returned (.bool true) ∧ Below w'.heap.size w' w'') := Lib.hid fun w' h => by
    have h := same_any (HV8'.out.below (HB128.out _ h)) (HQ1.out.below (HWB.out _ (HB12W.out _ h)))
    rw [(sameV_iff _ _ _ _).2 ⟨rfl, rfl⟩] at h
    exact h
  have SM2 : Hid (∀ w', Below w12.heap.size w12 w' → Calls Try.prog 21 #[.agg #[.int .i64 k1, .int .i64 n1, .float .f64 f1, .string s1, .slice qu1 mu1 cu1], .agg #[.int .i64 k1, .int .i64 n1, .float .f64 f1, .string s1, .slice q1 m1 c1]] w' fun e w'' => e = .returned (.bool true) ∧ Below w'.heap.size w' w'') := Lib.hid fun w' h => by
    have h := same_any (HU1.out.below (HB12w.out _ h)) (HQ1.out.below (HWB.out _ (HB12W.out _ h)))
    rw [(sameV_iff _ _ _ _).2 ⟨rfl, rfl⟩] at h
    exact h
  have SM3 : Hid (∀ w', Below w12.heap.size w12 w' → Calls Try.prog 21 #[.agg #[.int .i64 k2, .int .i64 n2, .float .f64 f2, .string s2, .slice qu2 mu2 cu2], .agg #[.int .i64 k2, .int .i64 n2, .float .f64 f2, .string s2, .slice q2 m2 c2]] w' fun e w'' => e = .returned (.bool true) ∧ Below w'.heap.size w' w'') := Lib.hid fun w' h => by
    have h := same_any (HU2.out.below (HB12w.out _ h)) (HQ2.out.below (HWB.out _ (HB12W.out _ h)))
    rw [(sameV_iff _ _ _ _).2 ⟨rfl, rfl⟩] at h
    exact h
  have HBS : Hid (∀ w', Below w12.heap.size w12 w' → Bs w' (some ⟨g5, 0, none⟩) X) := Lib.hid fun w' h => by
    obtain ⟨_, _, hv, _, _, hs, _⟩ := HO9.out.form HNX.out
    simp only [Value.slice.injEq, true_and] at hv
    obtain ⟨hv, _⟩ := hv
    subst hv
    exact hs.below (HB128.out _ h)
  have hnn : ((nx : Int) != (nx : Int)) = false := by simp
  have HNN := Lib.hid hnn
  go_wp2_with fail
  go_region_held3 (fun w' => w'.cell? ⟨B8, 0, none⟩ = some (.int .i64 k1) ∧ w'.cell? ⟨B8, 1, none⟩ = some (.int .i64 n1) ∧ w'.cell? ⟨B8, 2, none⟩ = some (.float .f64 f1) ∧ w'.cell? ⟨B8, 3, none⟩ = some (.string s1) ∧ w'.cell? ⟨B8, 4, none⟩ = some (.slice p8 m8 c8) ∧ w'.cell? ⟨w.heap.size, 0, none⟩ = some (.int .i64 k1) ∧ w'.cell? ⟨w.heap.size, 1, none⟩ = some (.int .i64 n1) ∧ w'.cell? ⟨w.heap.size, 2, none⟩ = some (.float .f64 f1) ∧ w'.cell? ⟨w.heap.size, 3, none⟩ = some (.string s1) ∧ w'.cell? ⟨w.heap.size, 4, none⟩ = some (.slice q1 m1 c1) ∧ w'.cell? ⟨w.heap.size + 1, 0, none⟩ = some (.int .i64 k2) ∧ w'.cell? ⟨w.heap.size + 1, 1, none⟩ = some (.int .i64 n2) ∧ w'.cell? ⟨w.heap.size + 1, 2, none⟩ = some (.float .f64 f2) ∧ w'.cell? ⟨w.heap.size + 1, 3, none⟩ = some (.string s2) ∧ w'.cell? ⟨w.heap.size + 1, 4, none⟩ = some (.slice q2 m2 c2) ∧ w'.cell? ⟨bl, ol, none⟩ = some (.int .i64 k1) ∧ w'.cell? ⟨bl, ol + 1, none⟩ = some (.int .i64 n1) ∧ w'.cell? ⟨bl, ol + 2, none⟩ = some (.float .f64 f1) ∧ w'.cell? ⟨bl, ol + 3, none⟩ = some (.string s1) ∧ w'.cell? ⟨bl, ol + 4, none⟩ = some (.slice qu1 mu1 cu1) ∧ w'.cell? ⟨bl, ol + 5, none⟩ = some (.int .i64 k2) ∧ w'.cell? ⟨bl, ol + 6, none⟩ = some (.int .i64 n2) ∧ w'.cell? ⟨bl, ol + 7, none⟩ = some (.float .f64 f2) ∧ w'.cell? ⟨bl, ol + 8, none⟩ = some (.string s2) ∧ w'.cell? ⟨bl, ol + 9, none⟩ = some (.slice qu2 mu2 cu2))
    (first | exact HS7.out _ (Below.refl _ _).drew | exact HS7.out _ HB15.out | exact HS7.out _ HB14.out | exact HS7.out _ HB13.out)
    (first
      | (go_at_call 21; (with_reducible refine (SM3.out _ HB14.out).mono ?_); rintro e w15 ⟨rfl, hb15⟩; have HB15 : Hid (Below w12.heap.size w12 w15) := Lib.hid (HB14.out.trans (hb15.mono HB14.out.size)); clear hb15)
      | (go_at_call 21; (with_reducible refine (SM2.out _ HB13.out).mono ?_); rintro e w14 ⟨rfl, hb14⟩; have HB14 : Hid (Below w12.heap.size w12 w14) := Lib.hid (HB13.out.trans (hb14.mono HB13.out.size)); clear hb14)
      | (go_at_call 21; refine (SM1.out _ (Below.refl _ _).drew).mono ?_; rintro e w13 ⟨rfl, hb13⟩; have HB13 : Hid (Below w12.heap.size w12 w13) := Lib.hid ((Below.refl _ _).drew.trans hb13); clear hb13))
  have hx1 : (1 : Int) ≤ (nx : Int) := by omega
  have hx2 : (nx : Int) - 1 ≤ (z5 : Int) := by omega
  have HNX1 : Hid (nx - 1 = (X.take (nx - 1)).length) := Lib.hid (by rw [List.length_take]; have := HNX.out; omega)
  have HR2 := Lib.hid (keysRead_any ((HBS.out _ HB15.out).take (nx - 1)) (nx - 1) z5 HNX1.out (by omega) (by omega) (by have := HNX1.out; omega))
  have HNO : Hid ((rdV (X.take (nx - 1))).1 ≠ 0) := Lib.hid (HRL.out (nx - 1) (by have := HNX.out; omega))
  obtain ⟨ee, ⟨k0, n0, x0, s0⟩, lv, kk, hxx⟩ : ∃ ee a lv uu, rdV (X.take (nx - 1)) = (ee, a, lv, uu) := ⟨_, _, _, _, rfl⟩
  rw [hxx] at HR2 HNO
  have he' : (ee != 0) = true := by have := HNO.out; simpa using this
  have HB15W : Hid (Below W.heap.size W w15) := Lib.hid (HB12W.out _ HB15.out)
  clear hxx HNO SM1 SM2 SM3 HS7 HBS HRL HNX1
  go_wp2_with fail
  refine HR2.out.mono ?_
  rintro e w16 ⟨p16, m16, c16, rfl, hm16, hown16, hb16⟩
  have HB16 : Hid (Below W.heap.size W w16) := Lib.hid (below_then HB15W.out hb16)
  clear hm16 hown16 hb16 HR2
  dsimp only
  go_wp2
  go_ret
  exact ⟨rfl, HWB.out _ (below_al HB16.out _)⟩

end Go.Proofs.Ytjimbjcfoebimaa
