/-
  The law MetaTorn: the walk.
-/
import Derived.Test.YtpklapgcdilghaaDoorLawMRises
set_option linter.unusedVariables false
set_option maxRecDepth 100000
namespace Go.Proofs.YtpklapgcdilghaaDoor
open Go.RowKit

theorem own_set {w : World} {B : Nat} {v : Value} {l : List UInt8} (h : Own w B v l) {g i : Nat} (hg : g < B) (x : Value) : Own (w.setCell ⟨g, i, none⟩ x) B v l := by
  refine ⟨h.1, ?_⟩
  rcases h.2 with h0 | ⟨k, cap, cur, hv, h1, hk, h2⟩
  · exact .inl h0
  · exact .inr ⟨k, cap, cur, hv, h1, by rw [heap_setCell_other _ _ _ _ (show k ≠ g from by omega)]; exact hk, h2⟩

theorem own_set_bs {w : World} {B : Nat} {q : Option Addr} {n c : Nat} {l : List UInt8} (h : Own w B (.slice q n c) l) (hn : n = l.length) {g i : Nat} (hg : g < B) (x : Value) : Bs (w.setCell ⟨g, i, none⟩ x) q l := by
  obtain ⟨q', c', he, _, _, h3, _⟩ := (own_set h (i := i) hg x).form hn
  simp only [Value.slice.injEq] at he
  obtain ⟨rfl, _, rfl⟩ := he
  exact h3

set_option maxHeartbeats 6400000 in
theorem mtorn_11 {w : World} (ag aR an ad bg bR bn bd n : Int) {x1 x2 x3 x4 y2 y3 y4 k GA RA NA DA GB RB NB DB GE : Nat} (hT : ∀ w', Below w.heap.size w w' → Tab w')
    (e1 : bits .and .i64 ag 16777215 = (x1 : Int)) (e2 : bits .and .i64 aR 255 = (x2 : Int)) (e3 : bits .and .i64 an 65535 = (x3 : Int)) (e4 : bits .and .i64 ad 65535 = (x4 : Int))
    (f2 : bits .and .i64 bR 255 = (y2 : Int)) (f3 : bits .and .i64 bn 65535 = (y3 : Int)) (f4 : bits .and .i64 bd 65535 = (y4 : Int)) (e5 : bits .and .i64 n 511 = (k : Int)) (hk : k ≤ 511)
    (b1 : x1 ≤ 16777215) (b2 : x2 ≤ 255) (b3 : x3 ≤ 65535) (b4 : x4 ≤ 65535) (c2 : y2 ≤ 255) (c3 : y3 ≤ 65535) (c4 : y4 ≤ 65535)
    (g1 : 1 + (x1 : Int) = (GA : Int)) (g2 : 2 + (x2 : Int) = (RA : Int)) (g3 : 1 + (x3 : Int) = (NA : Int)) (g4 : 1 + (x4 : Int) = (DA : Int)) (h1 : (GA : Int) + 1 = (GB : Int)) (h2 : 2 + (y2 : Int) = (RB : Int)) (h3 : 1 + (y3 : Int) = (NB : Int)) (h4 : 1 + (y4 : Int) = (DB : Int)) (h5 : (GA : Int) - 1 = (GE : Int)) (hpar : (GA : Int) % 2 = 1) (hge : GE ≠ 0)
    {zx zy zu zt : List UInt8} (lx : 512 = zx.length) (ly : 512 = zy.length) (lu : 512 = zu.length) (lt : 512 = zt.length) (ht : zy.take k ++ zu.drop k = zt)
    (sa : ∀ w', Below w.heap.size w w' → Calls Tryd.prog 7 #[.agg #[.int .i64 (GA : Int), .int .i64 (RA : Int), .int .i64 (NA : Int), .int .i64 (DA : Int)]] w' (MSQ w' 512 zx 1 0))
    (sb : ∀ w', Below w.heap.size w w' → Calls Tryd.prog 7 #[.agg #[.int .i64 (GB : Int), .int .i64 (RB : Int), .int .i64 (NB : Int), .int .i64 (DB : Int)]] w' (MSQ w' 512 zy 0 0))
    (se : ∀ w', Below w.heap.size w w' → Calls Tryd.prog 7 #[.agg #[.int .i64 (GE : Int), .int .i64 0, .int .i64 1, .int .i64 1]] w' (MSQ w' 512 zu 0 0))
    (n1 : ∀ w' q c p d, Below w.heap.size w w' → Bs w' q zt → 512 ≤ c → c ≤ 9223372036854775807 → Bs w' p zx → 512 ≤ d → d ≤ 9223372036854775807 → Calls Tryd.prog 11 #[.slice q 512 c, .slice p 512 d] w' (MNewPost w' GA RA NA DA))
    (n2 : ∀ w' q c p d, Below w.heap.size w w' → Bs w' q zy → 512 ≤ c → c ≤ 9223372036854775807 → Bs w' p zx → 512 ≤ d → d ≤ 9223372036854775807 → Calls Tryd.prog 11 #[.slice q 512 c, .slice p 512 d] w' (MNewPost w' GB RB NB DB)) :
    Calls Tryd.prog 5 #[.agg #[.int .i64 ag, .int .i64 aR, .int .i64 an, .int .i64 ad], .agg #[.int .i64 bg, .int .i64 bR, .int .i64 bn, .int .i64 bd], .int .i64 n] w fun e w' => e = .returned (.bool true) ∧ Below w.heap.size w w' := by
  have SA := Lib.hid sa
  have SB := Lib.hid sb
  have SE := Lib.hid se
  clear se
  have N1 := Lib.hid n1
  have N2 := Lib.hid n2
  have LX := Lib.hid lx
  have LY := Lib.hid ly
  have LU := Lib.hid lu
  have LT := Lib.hid lt
  have HZT := Lib.hid ht
  have HG1 : Hid (decide (GA ≠ 0) = true) := Lib.hid (decide_eq_true (by omega))
  have HG2 : Hid (decide (GB ≠ 0) = true) := Lib.hid (decide_eq_true (by omega))
  have q0 : (0 : Int) ≤ (GE : Int) := by omega
  have q1 : (0 : Int) < (GE : Int) := by omega
  have q2 : 0 < GE := by omega
  clear hge
  clear sa sb n1 n2 lx ly lu lt ht hT
  go_enter Tryd.func5, Tryd.ntmps5
  go_wp2_with fail
  obtain ⟨W0, hW0⟩ : ∃ W0, W0 = ((w.alloc (.cells #[.int .i64 (GA : Int), .int .i64 (RA : Int), .int .i64 (NA : Int), .int .i64 (DA : Int)] 23)).alloc (.cells #[.int .i64 (GB : Int), .int .i64 (RB : Int), .int .i64 (NB : Int), .int .i64 (DB : Int)] 23)).alloc (.cells #[.int .i64 (GE : Int), .int .i64 0, .int .i64 1, .int .i64 1] 23) := ⟨_, rfl⟩
  rw [← hW0]
  obtain ⟨r0, r1, r2, r3, r4⟩ := boxes3 w #[.int .i64 (GA : Int), .int .i64 (RA : Int), .int .i64 (NA : Int), .int .i64 (DA : Int)] #[.int .i64 (GB : Int), .int .i64 (RB : Int), .int .i64 (NB : Int), .int .i64 (DB : Int)] #[.int .i64 (GE : Int), .int .i64 0, .int .i64 1, .int .i64 1] 23 23 23
  rw [← hW0] at r0 r1 r2 r3 r4
  have HZ0 := Lib.hid r3
  have KA : Hid (∀ w', Below W0.heap.size W0 w' → ∀ i, w'.cell? ⟨w.heap.size, i, none⟩ = (#[.int .i64 (GA : Int), .int .i64 (RA : Int), .int .i64 (NA : Int), .int .i64 (DA : Int)] : Array Value)[i]? ∧ w'.frozen? ⟨w.heap.size, i, none⟩ = false) := Lib.hid fun w' hb i => by
    have h := hb.block w.heap.size (by omega)
    rw [r0] at h
    exact ⟨Joins.cell_of_block h i, Joins.unfrozen_of_block h i⟩
  have KB : Hid (∀ w', Below W0.heap.size W0 w' → ∀ i, w'.cell? ⟨w.heap.size + 1, i, none⟩ = (#[.int .i64 (GB : Int), .int .i64 (RB : Int), .int .i64 (NB : Int), .int .i64 (DB : Int)] : Array Value)[i]? ∧ w'.frozen? ⟨w.heap.size + 1, i, none⟩ = false) := Lib.hid fun w' hb i => by
    have h := hb.block (w.heap.size + 1) (by omega)
    rw [r1] at h
    exact ⟨Joins.cell_of_block h i, Joins.unfrozen_of_block h i⟩
  have KE : Hid (∀ w', Below W0.heap.size W0 w' → ∀ i, w'.cell? ⟨w.heap.size + 1 + 1, i, none⟩ = (#[.int .i64 (GE : Int), .int .i64 0, .int .i64 1, .int .i64 1] : Array Value)[i]? ∧ w'.frozen? ⟨w.heap.size + 1 + 1, i, none⟩ = false) := Lib.hid fun w' hb i => by
    have h := hb.block (w.heap.size + 1 + 1) (by omega)
    rw [r2] at h
    exact ⟨Joins.cell_of_block h i, Joins.unfrozen_of_block h i⟩
  clear r0 r1 r2 r3 r4 hW0 e1 e2 e3 e4 f2 f3 f4 e5 g1 g2 g3 g4 h2 h3 h4 h5 b1 b2 b3 b4 c2 c3 c4
  with_reducible refine (SA.out W0 HZ0.out).mono ?_
  rintro e w1 ⟨p1, d1, rfl, s1, m1, n1, hb1⟩
  have HGB := Lib.hid h1
  clear h1
  have S1 := Lib.hid s1
  have M1 := Lib.hid m1
  have O1 := Lib.hid n1
  have HB1 := Lib.hid hb1
  have k0 : w1.cell? ⟨w.heap.size + 1, 0, none⟩ = some (.int .i64 (GB : Int)) := (KB.out _ hb1 0).1
  have k1 : w1.cell? ⟨w.heap.size + 1, 1, none⟩ = some (.int .i64 (RB : Int)) := (KB.out _ hb1 1).1
  have k2 : w1.cell? ⟨w.heap.size + 1, 2, none⟩ = some (.int .i64 (NB : Int)) := (KB.out _ hb1 2).1
  have k3 : w1.cell? ⟨w.heap.size + 1, 3, none⟩ = some (.int .i64 (DB : Int)) := (KB.out _ hb1 3).1
  clear s1 m1 n1 hb1 SA
  go_wp2_with fail
  with_reducible refine (SB.out w1 (HZ0.out.trans (HB1.out.mono HZ0.out.size))).mono ?_
  rintro e w2 ⟨p2, d2, rfl, s2, m2, n2, hb2⟩
  obtain ⟨yb, yo, rfl, _, _⟩ := s2.at (by rw [← LY.out]; omega)
  have S1b : Hid (Bs w2 p1 zx) := Lib.hid (S1.out.below hb2)
  have S2 : Hid (Bs w2 (some ⟨yb, yo, none⟩) zy) := Lib.hid s2
  have M2 := Lib.hid m2
  have O2 := Lib.hid n2
  have HB2 : Hid (Below W0.heap.size W0 w2) := Lib.hid (HB1.out.trans (hb2.mono HB1.out.size))
  have HZ2 : Hid (Below w.heap.size w w2) := Lib.hid (HZ0.out.trans (HB2.out.mono HZ0.out.size))
  have k0 : w2.cell? ⟨w.heap.size, 0, none⟩ = some (.int .i64 (GA : Int)) := (KA.out _ HB2.out 0).1
  have k1 : w2.cell? ⟨w.heap.size, 1, none⟩ = some (.int .i64 (RA : Int)) := (KA.out _ HB2.out 1).1
  have k2 : w2.cell? ⟨w.heap.size, 2, none⟩ = some (.int .i64 (NA : Int)) := (KA.out _ HB2.out 2).1
  have k3 : w2.cell? ⟨w.heap.size, 3, none⟩ = some (.int .i64 (DA : Int)) := (KA.out _ HB2.out 3).1
  clear s2 m2 n2 hb2 SB S1 HB1
  have MK : Hid (∀ w3, Below (w2.alloc (.cells #[.slice none 0 0, .slice p1 512 d1] 41)).heap.size (w2.alloc (.cells #[.slice none 0 0, .slice p1 512 d1] 41)) w3 → Below w2.heap.size w2 w3 ∧ w3.heap[w2.heap.size]? = some (.cells #[.slice none 0 0, .slice p1 512 d1] 41 (0, 0))) := Lib.hid fun w3 hb => by
    refine ⟨((Below.refl _ _).alloc (Nat.le_refl _) _).trans (hb.mono (by simp)), ?_⟩
    rw [hb.block w2.heap.size (by simp)]
    exact heap_alloc_new w2 _
  go_wp2_with (at_make; go_loud (refine make_u8 rfl _ _ rfl rfl rfl ?_; intro w3 h3 hb3 hs3; have H3 := Lib.hid h3; obtain ⟨hc3, hp3⟩ := MK.out w3 hb3; have HP3 := Lib.hid hp3; have HC3 := Lib.hid hc3; have HB3 : Hid (Below W0.heap.size W0 w3) := Lib.hid (HB2.out.trans (hc3.mono HB2.out.size)); have ke0 := (KE.out _ HB3.out 0).1; have ke1 := (KE.out _ HB3.out 1).1; have ke2 := (KE.out _ HB3.out 2).1; have ke3 := (KE.out _ HB3.out 3).1; replace ke0 : w3.cell? ⟨w.heap.size + 1 + 1, 0, none⟩ = some (.int .i64 (GE : Int)) := ke0; replace ke1 : w3.cell? ⟨w.heap.size + 1 + 1, 1, none⟩ = some (.int .i64 0) := ke1; replace ke2 : w3.cell? ⟨w.heap.size + 1 + 1, 2, none⟩ = some (.int .i64 1) := ke2; replace ke3 : w3.cell? ⟨w.heap.size + 1 + 1, 3, none⟩ = some (.int .i64 1) := ke3; clear h3 hb3 hs3 hc3 hp3))
  with_reducible refine (SE.out w3 (HZ2.out.trans (HC3.out.mono HZ2.out.size))).mono ?_
  rintro e w4 ⟨p3, d3, rfl, s3, m3, n3, hb4⟩
  obtain ⟨ub, uo, rfl, _, _⟩ := s3.at (by rw [← LU.out]; omega)
  have HU : Hid (Bs w4 (some ⟨ub, uo, none⟩) zu) := Lib.hid s3
  have HC4 : Hid (Below w2.heap.size w2 w4) := Lib.hid (HC3.out.trans (hb4.mono HC3.out.size))
  have HP4 : Hid (w4.heap[w2.heap.size]? = some (.cells #[.slice none 0 0, .slice p1 512 d1] 41 (0, 0))) := Lib.hid (by
    have h0 : w2.heap.size < w3.heap.size := (Array.getElem?_eq_some_iff.1 HP3.out).1
    rw [hb4.block w2.heap.size h0]
    exact HP3.out)
  have f1 : ¬ d3 = k := by omega
  have f2 : (k : Int) ≤ (d3 : Int) := by omega
  have f3 : k ≤ d3 := by omega
  clear s3 n3 hb4 SE H3 HP3 HC3 HB3 ke0 ke1 ke2 ke3
  go_wp2_with fail
  have f4 : (k : Int) ≤ 512 := by omega
  have f5 : (k : Int) ≤ (d2 : Int) := by have := M2.out; omega
  have f6 : k ≤ d2 := by have := M2.out; omega
  have f7 : k ≤ 512 := by omega
  have HPL4 : Hid (w2.heap.size < w4.heap.size) := Lib.hid (Array.getElem?_eq_some_iff.1 HP4.out).1
  have HE : Hid (Own (w4.alloc (.cells #[] 5)).drew w4.heap.size (.slice (some ⟨w4.heap.size, 0, none⟩) 0 0) []) := Lib.hid (Own.empty w4 _ (Nat.le_refl _)).drew
  have HK1 : Hid (k = (zy.take k).length) := Lib.hid (by rw [List.length_take]; have := LY.out; omega)
  have HK2 : Hid (512 - k = (zu.drop k).length) := Lib.hid (by rw [List.length_drop]; have := LU.out; omega)
  have HY4 : Hid (Bs (w4.alloc (.cells #[] 5)).drew (some ⟨yb, yo, none⟩) (zy.take k)) := Lib.hid (((S2.out.below HC4.out).take k).alloc _).drew
  have HUK : Hid (∀ w', Below w4.heap.size w4 w' → Bs w' (some ⟨ub, uo + k, none⟩) (zu.drop k)) := Lib.hid fun w' hb => by
    have h1 := (HU.out.below hb).part k (512 - k)
    rw [List.take_of_length_le (by rw [← HK2.out]; omega)] at h1
    simpa using h1
  have HB0 : Hid (Below w4.heap.size w4 (w4.alloc (.cells #[] 5)).drew) := Lib.hid ((Below.refl _ _).alloc (Nat.le_refl _) _).drew
  go_region_held3 (fun _ => True) (exact trivial)
    (first
      | (refine step_app (l := []) (m := zy.take k) (c := d2) ?hg (.tmp 122) (.tmp 125) ?ho ?hs HE.out HK1.out ?hx HY4.out ?hp ?hlen HB0.out.size ?hk; (case hg => rfl); (case ho => rfl); (case hs => kernel_rfl); (case hx => kernel_rfl); (case hp => (intro h; cases h)); (case hlen => (rw [← HK1.out, List.length_nil]; omega)); intro v5 w5 ho hb; rw [List.nil_append] at ho; have HO5 := Lib.hid ho; have HB5 : Hid (Below w4.heap.size w4 w5) := Lib.hid (HB0.out.trans hb); clear ho hb)
      | (refine step_app (l := zy.take k) (m := zu.drop k) (c := d3 - k) ?hg2 (.tmp 126) (.tmp 129) ?ho2 ?hs2 HO5.out HK2.out ?hx2 (HUK.out _ HB5.out) ?hp2 ?hlen2 HB5.out.size ?hk2; (case hg2 => rfl); (case ho2 => rfl); (case hs2 => kernel_rfl); (case hx2 => kernel_rfl); (case hp2 => (intro h; cases h)); (case hlen2 => (rw [← HK1.out, ← HK2.out] <;> omega)); intro v6 w6 ho hb; rw [HZT.out] at ho; have HO6 := Lib.hid ho; have HB6 : Hid (Below w4.heap.size w4 w6) := Lib.hid (HB5.out.trans hb); clear ho hb))
  obtain ⟨q6, d6, rfl, m6, n6, s6, _⟩ := HO6.out.form LT.out
  have HPW : Hid (w6.heap[w2.heap.size]? = some (.cells #[.slice none 0 0, .slice p1 512 d1] 41 (0, 0))) := Lib.hid (by rw [HB6.out.block w2.heap.size HPL4.out]; exact HP4.out)
  have HC6 : Hid (Below w2.heap.size w2 w6) := Lib.hid (HC4.out.trans (HB6.out.mono HC4.out.size))
  have M6 := Lib.hid m6
  have O6 := Lib.hid n6
  have pc0 : w6.cell? ⟨w2.heap.size, 0, none⟩ = some (.slice none 0 0) := by rw [Joins.cell_of_block HPW.out]; rfl
  have pc1 : w6.cell? ⟨w2.heap.size, 1, none⟩ = some (.slice p1 512 d1) := by rw [Joins.cell_of_block HPW.out]; rfl
  have pz0 : w6.frozen? ⟨w2.heap.size, 0, none⟩ = false := Joins.unfrozen_of_block HPW.out 0
  have pz1 : w6.frozen? ⟨w2.heap.size, 1, none⟩ = false := Joins.unfrozen_of_block HPW.out 1
  obtain ⟨W6, hW6⟩ : ∃ W6, W6 = w6.setCell ⟨w2.heap.size, 0, none⟩ (.slice q6 512 d6) := ⟨_, rfl⟩
  have HP6 : Hid (W6.heap[w2.heap.size]? = some (.cells #[.slice q6 512 d6, .slice p1 512 d1] 41 (0, 0))) := Lib.hid (by rw [hW6]; exact heap_setCell_same w6 w2.heap.size 0 _ _ _ HPW.out)
  have HC7 : Hid (Below w2.heap.size w2 W6) := Lib.hid (by rw [hW6]; exact HC6.out.setCell (Nat.le_refl _) _)
  have HT6 : Hid (Bs W6 q6 zt) := Lib.hid (by rw [hW6]; exact own_set_bs HO6.out LT.out HPL4.out _)
  have HX6 : Hid (Bs W6 p1 zx) := Lib.hid (S1b.out.below HC7.out)
  clear m6 n6 s6 HO6 HO5 HB5 HPW HE HK1 HK2 HY4 HUK HB0 HC6 HC4 HP4 HU f1 f3 f4 f5 f6 f7
  go_wp2_with fail
  rw [← hW6]
  clear hW6 pc0 pc1 pz0 pz1
  with_reducible refine (N1.out W6 _ _ _ _ (HZ2.out.trans (HC7.out.mono HZ2.out.size)) HT6.out M6.out O6.out HX6.out M1.out O1.out).mono ?_
  rintro e w7 ⟨rfl, hb7⟩
  rw [HG1.out]
  have HB7 := Lib.hid hb7
  have HT7 : Hid (Bs w7 q6 zt) := Lib.hid (HT6.out.below hb7)
  have HP7 : Hid (w7.heap[w2.heap.size]? = some (.cells #[.slice q6 512 d6, .slice p1 512 d1] 41 (0, 0))) := Lib.hid (by rw [hb7.block w2.heap.size (Array.getElem?_eq_some_iff.1 HP6.out).1]; exact HP6.out)
  have HC8 : Hid (Below w2.heap.size w2 w7) := Lib.hid (HC7.out.trans (hb7.mono HC7.out.size))
  have HD7 : Hid (Below W0.heap.size W0 w7) := Lib.hid (HB2.out.trans (HC8.out.mono HB2.out.size))
  have a0 : w7.cell? ⟨w.heap.size, 0, none⟩ = some (.int .i64 (GA : Int)) := (KA.out _ HD7.out 0).1
  have a1 : w7.cell? ⟨w.heap.size, 1, none⟩ = some (.int .i64 (RA : Int)) := (KA.out _ HD7.out 1).1
  have a2 : w7.cell? ⟨w.heap.size, 2, none⟩ = some (.int .i64 (NA : Int)) := (KA.out _ HD7.out 2).1
  have a3 : w7.cell? ⟨w.heap.size, 3, none⟩ = some (.int .i64 (DA : Int)) := (KA.out _ HD7.out 3).1
  have j0 : w7.cell? ⟨w.heap.size + 1, 0, none⟩ = some (.int .i64 (GB : Int)) := (KB.out _ HD7.out 0).1
  have j1 : w7.cell? ⟨w.heap.size + 1, 1, none⟩ = some (.int .i64 (RB : Int)) := (KB.out _ HD7.out 1).1
  have j2 : w7.cell? ⟨w.heap.size + 1, 2, none⟩ = some (.int .i64 (NB : Int)) := (KB.out _ HD7.out 2).1
  have j3 : w7.cell? ⟨w.heap.size + 1, 3, none⟩ = some (.int .i64 (DB : Int)) := (KB.out _ HD7.out 3).1
  have l0 : w.heap.size < w7.heap.size := World.block_lt_of_cell? _ _ a0
  have l1 : w.heap.size + 1 < w7.heap.size := World.block_lt_of_cell? _ _ j0
  have l2 : w2.heap.size < w7.heap.size := (Array.getElem?_eq_some_iff.1 HP7.out).1
  have pc0 : w7.cell? ⟨w2.heap.size, 0, none⟩ = some (.slice q6 512 d6) := by rw [Joins.cell_of_block HP7.out]; rfl
  have pc1 : w7.cell? ⟨w2.heap.size, 1, none⟩ = some (.slice p1 512 d1) := by rw [Joins.cell_of_block HP7.out]; rfl
  have pz0 : w7.frozen? ⟨w2.heap.size, 0, none⟩ = false := Joins.unfrozen_of_block HP7.out 0
  have pz1 : w7.frozen? ⟨w2.heap.size, 1, none⟩ = false := Joins.unfrozen_of_block HP7.out 1
  obtain ⟨W8, hW8⟩ : ∃ W8, W8 = (w7.setCell ⟨w2.heap.size, 0, none⟩ (.slice (some ⟨yb, yo, none⟩) 512 d2)).alloc (.cells #[.int .i64 (GA : Int), .int .i64 (RA : Int), .int .i64 (NA : Int), .int .i64 (DA : Int)] 23) := ⟨_, rfl⟩
  go_wp2_with fail
  rw [← hW8]
  have HSZ : Hid (W8.heap.size = w7.heap.size + 1) := Lib.hid (by rw [hW8]; simp)
  have HC9 : Hid (Below w2.heap.size w2 W8) := Lib.hid (by rw [hW8]; exact (HC8.out.setCell (Nat.le_refl _) _).alloc (by have := HC8.out.size; simpa using this) _)
  have HM : Hid (∀ w', Below W8.heap.size W8 w' → ∀ i, w'.cell? ⟨w7.heap.size, i, none⟩ = (#[.int .i64 (GA : Int), .int .i64 (RA : Int), .int .i64 (NA : Int), .int .i64 (DA : Int)] : Array Value)[i]? ∧ w'.frozen? ⟨w7.heap.size, i, none⟩ = false) := Lib.hid fun w' hb i => by
    have h1 := hb.block w7.heap.size (by rw [HSZ.out]; omega)
    have h2 := heap_alloc_new (w7.setCell ⟨w2.heap.size, 0, none⟩ (.slice (some ⟨yb, yo, none⟩) 512 d2)) (.cells #[.int .i64 (GA : Int), .int .i64 (RA : Int), .int .i64 (NA : Int), .int .i64 (DA : Int)] 23)
    have h3 : (w7.setCell ⟨w2.heap.size, 0, none⟩ (.slice (some ⟨yb, yo, none⟩) 512 d2)).heap.size = w7.heap.size := by simp
    rw [h3, ← hW8] at h2
    rw [h2] at h1
    exact ⟨Joins.cell_of_block h1 i, Joins.unfrozen_of_block h1 i⟩
  clear hW8 a0 a1 a2 a3 j0 j1 j2 j3 l0 l1 l2 pc0 pc1 pz0 pz1 HP7 HT7 HC7 HT6 HX6 HP6 HD7 HB7
  with_reducible refine (N2.out W8 _ _ _ _ (HZ2.out.trans (HC9.out.mono HZ2.out.size)) (S2.out.below HC9.out) M2.out O2.out (S1b.out.below HC9.out) M1.out O1.out).mono ?_
  rintro e w9 ⟨rfl, hb9⟩
  rw [HG2.out]
  have HC10 : Hid (Below w2.heap.size w2 w9) := Lib.hid (HC9.out.trans (hb9.mono HC9.out.size))
  have HD10 : Hid (Below W0.heap.size W0 w9) := Lib.hid (HB2.out.trans (HC10.out.mono HB2.out.size))
  have HZ10 : Hid (Below w.heap.size w w9) := Lib.hid (HZ0.out.trans (HD10.out.mono HZ0.out.size))
  have b0 : w9.cell? ⟨w7.heap.size, 0, none⟩ = some (.int .i64 (GA : Int)) := (HM.out _ hb9 0).1
  have b1 : w9.cell? ⟨w7.heap.size, 1, none⟩ = some (.int .i64 (RA : Int)) := (HM.out _ hb9 1).1
  have b2 : w9.cell? ⟨w7.heap.size, 2, none⟩ = some (.int .i64 (NA : Int)) := (HM.out _ hb9 2).1
  have b3 : w9.cell? ⟨w7.heap.size, 3, none⟩ = some (.int .i64 (DA : Int)) := (HM.out _ hb9 3).1
  have j0 : w9.cell? ⟨w.heap.size + 1, 0, none⟩ = some (.int .i64 (GB : Int)) := (KB.out _ HD10.out 0).1
  have j1 : w9.cell? ⟨w.heap.size + 1, 1, none⟩ = some (.int .i64 (RB : Int)) := (KB.out _ HD10.out 1).1
  have j2 : w9.cell? ⟨w.heap.size + 1, 2, none⟩ = some (.int .i64 (NB : Int)) := (KB.out _ HD10.out 2).1
  have j3 : w9.cell? ⟨w.heap.size + 1, 3, none⟩ = some (.int .i64 (DB : Int)) := (KB.out _ HD10.out 3).1
  have bz0 := (HM.out _ hb9 0).2
  have bz1 := (HM.out _ hb9 1).2
  have bz2 := (HM.out _ hb9 2).2
  have bz3 := (HM.out _ hb9 3).2
  have l3 : w7.heap.size ≠ w.heap.size + 1 := by
    have h1 := HC8.out.size
    have h2 := HB2.out.size
    have h3 : w.heap.size + 1 < W0.heap.size := World.block_lt_of_cell? _ _ (show W0.cell? ⟨w.heap.size + 1, 0, none⟩ = some (.int .i64 (GB : Int)) from (KB.out _ (Below.refl _ _) 0).1)
    omega
  have l4 : w.heap.size + 1 ≠ w7.heap.size := fun h => l3 h.symm
  have l5 : w.heap.size ≤ w7.heap.size := by
    have h1 := HC8.out.size
    have h2 := HZ2.out.size
    omega
  clear hb9 N2 HM KA KB KE HC8 HC9 HC10 HD10 S1b S2 M1 O1 M2 O2 HSZ HB2 HZ2 HZ0 HGB
  go_wp2
  go_ret
  exact ⟨rfl, set4_below HZ10.out l5 _ _ _ _⟩

set_option maxHeartbeats 6400000 in
theorem mtorn_12 {w : World} (ag aR an ad bg bR bn bd n : Int) {x1 x2 x3 x4 y2 y3 y4 k GA RA NA DA GB RB NB DB GE : Nat} (hT : ∀ w', Below w.heap.size w w' → Tab w')
    (e1 : bits .and .i64 ag 16777215 = (x1 : Int)) (e2 : bits .and .i64 aR 255 = (x2 : Int)) (e3 : bits .and .i64 an 65535 = (x3 : Int)) (e4 : bits .and .i64 ad 65535 = (x4 : Int))
    (f2 : bits .and .i64 bR 255 = (y2 : Int)) (f3 : bits .and .i64 bn 65535 = (y3 : Int)) (f4 : bits .and .i64 bd 65535 = (y4 : Int)) (e5 : bits .and .i64 n 511 = (k : Int)) (hk : k ≤ 511)
    (b1 : x1 ≤ 16777215) (b2 : x2 ≤ 255) (b3 : x3 ≤ 65535) (b4 : x4 ≤ 65535) (c2 : y2 ≤ 255) (c3 : y3 ≤ 65535) (c4 : y4 ≤ 65535)
    (g1 : 1 + (x1 : Int) = (GA : Int)) (g2 : 2 + (x2 : Int) = (RA : Int)) (g3 : 1 + (x3 : Int) = (NA : Int)) (g4 : 1 + (x4 : Int) = (DA : Int)) (h1 : (GA : Int) + 1 = (GB : Int)) (h2 : 2 + (y2 : Int) = (RB : Int)) (h3 : 1 + (y3 : Int) = (NB : Int)) (h4 : 1 + (y4 : Int) = (DB : Int)) (h5 : (GA : Int) - 1 = (GE : Int)) (hpar : (GA : Int) % 2 = 1) (hge : GE ≠ 0)
    {zx zy zu zt : List UInt8} (lx : 512 = zx.length) (ly : 512 = zy.length) (lu : 512 = zu.length) (lt : 512 = zt.length) (ht : zy.take k ++ zu.drop k = zt)
    (sa : ∀ w', Below w.heap.size w w' → Calls Tryd.prog 7 #[.agg #[.int .i64 (GA : Int), .int .i64 (RA : Int), .int .i64 (NA : Int), .int .i64 (DA : Int)]] w' (MSQ w' 512 zx 1 0))
    (sb : ∀ w', Below w.heap.size w w' → Calls Tryd.prog 7 #[.agg #[.int .i64 (GB : Int), .int .i64 (RB : Int), .int .i64 (NB : Int), .int .i64 (DB : Int)]] w' (MSQ w' 512 zy 0 0))
    (se : ∀ w', Below w.heap.size w w' → Calls Tryd.prog 7 #[.agg #[.int .i64 (GE : Int), .int .i64 0, .int .i64 1, .int .i64 1]] w' (MSQ w' 512 zu 0 0))
    (hty : zt = zy)
    (n1 : ∀ w' q c p d, Below w.heap.size w w' → Bs w' q zt → 512 ≤ c → c ≤ 9223372036854775807 → Bs w' p zx → 512 ≤ d → d ≤ 9223372036854775807 → Calls Tryd.prog 11 #[.slice q 512 c, .slice p 512 d] w' (MNewPost w' GB RB NB DB))
    (n2 : ∀ w' q c p d, Below w.heap.size w w' → Bs w' q zy → 512 ≤ c → c ≤ 9223372036854775807 → Bs w' p zx → 512 ≤ d → d ≤ 9223372036854775807 → Calls Tryd.prog 11 #[.slice q 512 c, .slice p 512 d] w' (MNewPost w' GB RB NB DB)) :
    Calls Tryd.prog 5 #[.agg #[.int .i64 ag, .int .i64 aR, .int .i64 an, .int .i64 ad], .agg #[.int .i64 bg, .int .i64 bR, .int .i64 bn, .int .i64 bd], .int .i64 n] w fun e w' => e = .returned (.bool true) ∧ Below w.heap.size w w' := by
  have SA := Lib.hid sa
  have SB := Lib.hid sb
  have SE := Lib.hid se
  clear se
  have N1 := Lib.hid n1
  have N2 := Lib.hid n2
  have LX := Lib.hid lx
  have LY := Lib.hid ly
  have LU := Lib.hid lu
  have LT := Lib.hid lt
  have HZT := Lib.hid ht
  have HTY := Lib.hid hty
  clear hty
  have HG1 : Hid (decide (GB ≠ 0) = true) := Lib.hid (decide_eq_true (by omega))
  have HG2 : Hid (decide (GB ≠ 0) = true) := Lib.hid (decide_eq_true (by omega))
  have q0 : (0 : Int) ≤ (GE : Int) := by omega
  have q1 : (0 : Int) < (GE : Int) := by omega
  have q2 : 0 < GE := by omega
  clear hge
  clear sa sb n1 n2 lx ly lu lt ht hT
  go_enter Tryd.func5, Tryd.ntmps5
  go_wp2_with fail
  obtain ⟨W0, hW0⟩ : ∃ W0, W0 = ((w.alloc (.cells #[.int .i64 (GA : Int), .int .i64 (RA : Int), .int .i64 (NA : Int), .int .i64 (DA : Int)] 23)).alloc (.cells #[.int .i64 (GB : Int), .int .i64 (RB : Int), .int .i64 (NB : Int), .int .i64 (DB : Int)] 23)).alloc (.cells #[.int .i64 (GE : Int), .int .i64 0, .int .i64 1, .int .i64 1] 23) := ⟨_, rfl⟩
  rw [← hW0]
  obtain ⟨r0, r1, r2, r3, r4⟩ := boxes3 w #[.int .i64 (GA : Int), .int .i64 (RA : Int), .int .i64 (NA : Int), .int .i64 (DA : Int)] #[.int .i64 (GB : Int), .int .i64 (RB : Int), .int .i64 (NB : Int), .int .i64 (DB : Int)] #[.int .i64 (GE : Int), .int .i64 0, .int .i64 1, .int .i64 1] 23 23 23
  rw [← hW0] at r0 r1 r2 r3 r4
  have HZ0 := Lib.hid r3
  have KA : Hid (∀ w', Below W0.heap.size W0 w' → ∀ i, w'.cell? ⟨w.heap.size, i, none⟩ = (#[.int .i64 (GA : Int), .int .i64 (RA : Int), .int .i64 (NA : Int), .int .i64 (DA : Int)] : Array Value)[i]? ∧ w'.frozen? ⟨w.heap.size, i, none⟩ = false) := Lib.hid fun w' hb i => by
    have h := hb.block w.heap.size (by omega)
    rw [r0] at h
    exact ⟨Joins.cell_of_block h i, Joins.unfrozen_of_block h i⟩
  have KB : Hid (∀ w', Below W0.heap.size W0 w' → ∀ i, w'.cell? ⟨w.heap.size + 1, i, none⟩ = (#[.int .i64 (GB : Int), .int .i64 (RB : Int), .int .i64 (NB : Int), .int .i64 (DB : Int)] : Array Value)[i]? ∧ w'.frozen? ⟨w.heap.size + 1, i, none⟩ = false) := Lib.hid fun w' hb i => by
    have h := hb.block (w.heap.size + 1) (by omega)
    rw [r1] at h
    exact ⟨Joins.cell_of_block h i, Joins.unfrozen_of_block h i⟩
  have KE : Hid (∀ w', Below W0.heap.size W0 w' → ∀ i, w'.cell? ⟨w.heap.size + 1 + 1, i, none⟩ = (#[.int .i64 (GE : Int), .int .i64 0, .int .i64 1, .int .i64 1] : Array Value)[i]? ∧ w'.frozen? ⟨w.heap.size + 1 + 1, i, none⟩ = false) := Lib.hid fun w' hb i => by
    have h := hb.block (w.heap.size + 1 + 1) (by omega)
    rw [r2] at h
    exact ⟨Joins.cell_of_block h i, Joins.unfrozen_of_block h i⟩
  clear r0 r1 r2 r3 r4 hW0 e1 e2 e3 e4 f2 f3 f4 e5 g1 g2 g3 g4 h2 h3 h4 h5 b1 b2 b3 b4 c2 c3 c4
  with_reducible refine (SA.out W0 HZ0.out).mono ?_
  rintro e w1 ⟨p1, d1, rfl, s1, m1, n1, hb1⟩
  have HGB := Lib.hid h1
  clear h1
  have S1 := Lib.hid s1
  have M1 := Lib.hid m1
  have O1 := Lib.hid n1
  have HB1 := Lib.hid hb1
  have k0 : w1.cell? ⟨w.heap.size + 1, 0, none⟩ = some (.int .i64 (GB : Int)) := (KB.out _ hb1 0).1
  have k1 : w1.cell? ⟨w.heap.size + 1, 1, none⟩ = some (.int .i64 (RB : Int)) := (KB.out _ hb1 1).1
  have k2 : w1.cell? ⟨w.heap.size + 1, 2, none⟩ = some (.int .i64 (NB : Int)) := (KB.out _ hb1 2).1
  have k3 : w1.cell? ⟨w.heap.size + 1, 3, none⟩ = some (.int .i64 (DB : Int)) := (KB.out _ hb1 3).1
  clear s1 m1 n1 hb1 SA
  go_wp2_with fail
  with_reducible refine (SB.out w1 (HZ0.out.trans (HB1.out.mono HZ0.out.size))).mono ?_
  rintro e w2 ⟨p2, d2, rfl, s2, m2, n2, hb2⟩
  obtain ⟨yb, yo, rfl, _, _⟩ := s2.at (by rw [← LY.out]; omega)
  have S1b : Hid (Bs w2 p1 zx) := Lib.hid (S1.out.below hb2)
  have S2 : Hid (Bs w2 (some ⟨yb, yo, none⟩) zy) := Lib.hid s2
  have M2 := Lib.hid m2
  have O2 := Lib.hid n2
  have HB2 : Hid (Below W0.heap.size W0 w2) := Lib.hid (HB1.out.trans (hb2.mono HB1.out.size))
  have HZ2 : Hid (Below w.heap.size w w2) := Lib.hid (HZ0.out.trans (HB2.out.mono HZ0.out.size))
  have k0 : w2.cell? ⟨w.heap.size, 0, none⟩ = some (.int .i64 (GA : Int)) := (KA.out _ HB2.out 0).1
  have k1 : w2.cell? ⟨w.heap.size, 1, none⟩ = some (.int .i64 (RA : Int)) := (KA.out _ HB2.out 1).1
  have k2 : w2.cell? ⟨w.heap.size, 2, none⟩ = some (.int .i64 (NA : Int)) := (KA.out _ HB2.out 2).1
  have k3 : w2.cell? ⟨w.heap.size, 3, none⟩ = some (.int .i64 (DA : Int)) := (KA.out _ HB2.out 3).1
  clear s2 m2 n2 hb2 SB S1 HB1
  have MK : Hid (∀ w3, Below (w2.alloc (.cells #[.slice none 0 0, .slice p1 512 d1] 41)).heap.size (w2.alloc (.cells #[.slice none 0 0, .slice p1 512 d1] 41)) w3 → Below w2.heap.size w2 w3 ∧ w3.heap[w2.heap.size]? = some (.cells #[.slice none 0 0, .slice p1 512 d1] 41 (0, 0))) := Lib.hid fun w3 hb => by
    refine ⟨((Below.refl _ _).alloc (Nat.le_refl _) _).trans (hb.mono (by simp)), ?_⟩
    rw [hb.block w2.heap.size (by simp)]
    exact heap_alloc_new w2 _
  go_wp2_with (at_make; go_loud (refine make_u8 rfl _ _ rfl rfl rfl ?_; intro w3 h3 hb3 hs3; have H3 := Lib.hid h3; obtain ⟨hc3, hp3⟩ := MK.out w3 hb3; have HP3 := Lib.hid hp3; have HC3 := Lib.hid hc3; have HB3 : Hid (Below W0.heap.size W0 w3) := Lib.hid (HB2.out.trans (hc3.mono HB2.out.size)); have ke0 := (KE.out _ HB3.out 0).1; have ke1 := (KE.out _ HB3.out 1).1; have ke2 := (KE.out _ HB3.out 2).1; have ke3 := (KE.out _ HB3.out 3).1; replace ke0 : w3.cell? ⟨w.heap.size + 1 + 1, 0, none⟩ = some (.int .i64 (GE : Int)) := ke0; replace ke1 : w3.cell? ⟨w.heap.size + 1 + 1, 1, none⟩ = some (.int .i64 0) := ke1; replace ke2 : w3.cell? ⟨w.heap.size + 1 + 1, 2, none⟩ = some (.int .i64 1) := ke2; replace ke3 : w3.cell? ⟨w.heap.size + 1 + 1, 3, none⟩ = some (.int .i64 1) := ke3; clear h3 hb3 hs3 hc3 hp3))
  with_reducible refine (SE.out w3 (HZ2.out.trans (HC3.out.mono HZ2.out.size))).mono ?_
  rintro e w4 ⟨p3, d3, rfl, s3, m3, n3, hb4⟩
  obtain ⟨ub, uo, rfl, _, _⟩ := s3.at (by rw [← LU.out]; omega)
  have HU : Hid (Bs w4 (some ⟨ub, uo, none⟩) zu) := Lib.hid s3
  have HC4 : Hid (Below w2.heap.size w2 w4) := Lib.hid (HC3.out.trans (hb4.mono HC3.out.size))
  have HP4 : Hid (w4.heap[w2.heap.size]? = some (.cells #[.slice none 0 0, .slice p1 512 d1] 41 (0, 0))) := Lib.hid (by
    have h0 : w2.heap.size < w3.heap.size := (Array.getElem?_eq_some_iff.1 HP3.out).1
    rw [hb4.block w2.heap.size h0]
    exact HP3.out)
  have f1 : ¬ d3 = k := by omega
  have f2 : (k : Int) ≤ (d3 : Int) := by omega
  have f3 : k ≤ d3 := by omega
  clear s3 n3 hb4 SE H3 HP3 HC3 HB3 ke0 ke1 ke2 ke3
  go_wp2_with fail
  have f4 : (k : Int) ≤ 512 := by omega
  have f5 : (k : Int) ≤ (d2 : Int) := by have := M2.out; omega
  have f6 : k ≤ d2 := by have := M2.out; omega
  have f7 : k ≤ 512 := by omega
  have HPL4 : Hid (w2.heap.size < w4.heap.size) := Lib.hid (Array.getElem?_eq_some_iff.1 HP4.out).1
  have HE : Hid (Own (w4.alloc (.cells #[] 5)).drew w4.heap.size (.slice (some ⟨w4.heap.size, 0, none⟩) 0 0) []) := Lib.hid (Own.empty w4 _ (Nat.le_refl _)).drew
  have HK1 : Hid (k = (zy.take k).length) := Lib.hid (by rw [List.length_take]; have := LY.out; omega)
  have HK2 : Hid (512 - k = (zu.drop k).length) := Lib.hid (by rw [List.length_drop]; have := LU.out; omega)
  have HY4 : Hid (Bs (w4.alloc (.cells #[] 5)).drew (some ⟨yb, yo, none⟩) (zy.take k)) := Lib.hid (((S2.out.below HC4.out).take k).alloc _).drew
  have HUK : Hid (∀ w', Below w4.heap.size w4 w' → Bs w' (some ⟨ub, uo + k, none⟩) (zu.drop k)) := Lib.hid fun w' hb => by
    have h1 := (HU.out.below hb).part k (512 - k)
    rw [List.take_of_length_le (by rw [← HK2.out]; omega)] at h1
    simpa using h1
  have HB0 : Hid (Below w4.heap.size w4 (w4.alloc (.cells #[] 5)).drew) := Lib.hid ((Below.refl _ _).alloc (Nat.le_refl _) _).drew
  go_region_held3 (fun _ => True) (exact trivial)
    (first
      | (refine step_app (l := []) (m := zy.take k) (c := d2) ?hg (.tmp 122) (.tmp 125) ?ho ?hs HE.out HK1.out ?hx HY4.out ?hp ?hlen HB0.out.size ?hk; (case hg => rfl); (case ho => rfl); (case hs => kernel_rfl); (case hx => kernel_rfl); (case hp => (intro h; cases h)); (case hlen => (rw [← HK1.out, List.length_nil]; omega)); intro v5 w5 ho hb; rw [List.nil_append] at ho; have HO5 := Lib.hid ho; have HB5 : Hid (Below w4.heap.size w4 w5) := Lib.hid (HB0.out.trans hb); clear ho hb)
      | (refine step_app (l := zy.take k) (m := zu.drop k) (c := d3 - k) ?hg2 (.tmp 126) (.tmp 129) ?ho2 ?hs2 HO5.out HK2.out ?hx2 (HUK.out _ HB5.out) ?hp2 ?hlen2 HB5.out.size ?hk2; (case hg2 => rfl); (case ho2 => rfl); (case hs2 => kernel_rfl); (case hx2 => kernel_rfl); (case hp2 => (intro h; cases h)); (case hlen2 => (rw [← HK1.out, ← HK2.out] <;> omega)); intro v6 w6 ho hb; rw [HZT.out] at ho; have HO6 := Lib.hid ho; have HB6 : Hid (Below w4.heap.size w4 w6) := Lib.hid (HB5.out.trans hb); clear ho hb))
  obtain ⟨q6, d6, rfl, m6, n6, s6, _⟩ := HO6.out.form LT.out
  have HPW : Hid (w6.heap[w2.heap.size]? = some (.cells #[.slice none 0 0, .slice p1 512 d1] 41 (0, 0))) := Lib.hid (by rw [HB6.out.block w2.heap.size HPL4.out]; exact HP4.out)
  have HC6 : Hid (Below w2.heap.size w2 w6) := Lib.hid (HC4.out.trans (HB6.out.mono HC4.out.size))
  have M6 := Lib.hid m6
  have O6 := Lib.hid n6
  have pc0 : w6.cell? ⟨w2.heap.size, 0, none⟩ = some (.slice none 0 0) := by rw [Joins.cell_of_block HPW.out]; rfl
  have pc1 : w6.cell? ⟨w2.heap.size, 1, none⟩ = some (.slice p1 512 d1) := by rw [Joins.cell_of_block HPW.out]; rfl
  have pz0 : w6.frozen? ⟨w2.heap.size, 0, none⟩ = false := Joins.unfrozen_of_block HPW.out 0
  have pz1 : w6.frozen? ⟨w2.heap.size, 1, none⟩ = false := Joins.unfrozen_of_block HPW.out 1
  obtain ⟨W6, hW6⟩ : ∃ W6, W6 = w6.setCell ⟨w2.heap.size, 0, none⟩ (.slice q6 512 d6) := ⟨_, rfl⟩
  have HP6 : Hid (W6.heap[w2.heap.size]? = some (.cells #[.slice q6 512 d6, .slice p1 512 d1] 41 (0, 0))) := Lib.hid (by rw [hW6]; exact heap_setCell_same w6 w2.heap.size 0 _ _ _ HPW.out)
  have HC7 : Hid (Below w2.heap.size w2 W6) := Lib.hid (by rw [hW6]; exact HC6.out.setCell (Nat.le_refl _) _)
  have HT6 : Hid (Bs W6 q6 zt) := Lib.hid (by rw [hW6]; exact own_set_bs HO6.out LT.out HPL4.out _)
  have HX6 : Hid (Bs W6 p1 zx) := Lib.hid (S1b.out.below HC7.out)
  clear m6 n6 s6 HO6 HO5 HB5 HPW HE HK1 HK2 HY4 HUK HB0 HC6 HC4 HP4 HU f1 f3 f4 f5 f6 f7
  go_wp2_with fail
  rw [← hW6]
  clear hW6 pc0 pc1 pz0 pz1
  with_reducible refine (N1.out W6 _ _ _ _ (HZ2.out.trans (HC7.out.mono HZ2.out.size)) HT6.out M6.out O6.out HX6.out M1.out O1.out).mono ?_
  rintro e w7 ⟨rfl, hb7⟩
  rw [HG1.out]
  have HB7 := Lib.hid hb7
  have HT7 : Hid (Bs w7 q6 zt) := Lib.hid (HT6.out.below hb7)
  have HP7 : Hid (w7.heap[w2.heap.size]? = some (.cells #[.slice q6 512 d6, .slice p1 512 d1] 41 (0, 0))) := Lib.hid (by rw [hb7.block w2.heap.size (Array.getElem?_eq_some_iff.1 HP6.out).1]; exact HP6.out)
  have HC8 : Hid (Below w2.heap.size w2 w7) := Lib.hid (HC7.out.trans (hb7.mono HC7.out.size))
  have HD7 : Hid (Below W0.heap.size W0 w7) := Lib.hid (HB2.out.trans (HC8.out.mono HB2.out.size))
  have a0 : w7.cell? ⟨w.heap.size, 0, none⟩ = some (.int .i64 (GA : Int)) := (KA.out _ HD7.out 0).1
  have a1 : w7.cell? ⟨w.heap.size, 1, none⟩ = some (.int .i64 (RA : Int)) := (KA.out _ HD7.out 1).1
  have a2 : w7.cell? ⟨w.heap.size, 2, none⟩ = some (.int .i64 (NA : Int)) := (KA.out _ HD7.out 2).1
  have a3 : w7.cell? ⟨w.heap.size, 3, none⟩ = some (.int .i64 (DA : Int)) := (KA.out _ HD7.out 3).1
  have j0 : w7.cell? ⟨w.heap.size + 1, 0, none⟩ = some (.int .i64 (GB : Int)) := (KB.out _ HD7.out 0).1
  have j1 : w7.cell? ⟨w.heap.size + 1, 1, none⟩ = some (.int .i64 (RB : Int)) := (KB.out _ HD7.out 1).1
  have j2 : w7.cell? ⟨w.heap.size + 1, 2, none⟩ = some (.int .i64 (NB : Int)) := (KB.out _ HD7.out 2).1
  have j3 : w7.cell? ⟨w.heap.size + 1, 3, none⟩ = some (.int .i64 (DB : Int)) := (KB.out _ HD7.out 3).1
  have l0 : w.heap.size < w7.heap.size := World.block_lt_of_cell? _ _ a0
  have l1 : w.heap.size + 1 < w7.heap.size := World.block_lt_of_cell? _ _ j0
  have l2 : w2.heap.size < w7.heap.size := (Array.getElem?_eq_some_iff.1 HP7.out).1
  have pc0 : w7.cell? ⟨w2.heap.size, 0, none⟩ = some (.slice q6 512 d6) := by rw [Joins.cell_of_block HP7.out]; rfl
  have pc1 : w7.cell? ⟨w2.heap.size, 1, none⟩ = some (.slice p1 512 d1) := by rw [Joins.cell_of_block HP7.out]; rfl
  have pz0 : w7.frozen? ⟨w2.heap.size, 0, none⟩ = false := Joins.unfrozen_of_block HP7.out 0
  have pz1 : w7.frozen? ⟨w2.heap.size, 1, none⟩ = false := Joins.unfrozen_of_block HP7.out 1
  have t1 := str_of (HT7.out.alloc (.cells #[.int .i64 (GB : Int), .int .i64 (RB : Int), .int .i64 (NB : Int), .int .i64 (DB : Int)] 23)) (c := d6) LT.out
  have t2 := str_of ((S2.out.below HC8.out).alloc (.cells #[.int .i64 (GB : Int), .int .i64 (RB : Int), .int .i64 (NB : Int), .int .i64 (DB : Int)] 23)) (c := d2) LY.out
  rw [HTY.out] at t1
  have y1 : ((GB : Int) == (GA : Int)) = false := by rw [beq_eq_false_iff_ne]; have := HGB.out; omega
  have y2 : ¬ (GB : Int) = (GA : Int) := by have := HGB.out; omega
  obtain ⟨W8, hW8⟩ : ∃ W8, W8 = (w7.setCell ⟨w2.heap.size, 0, none⟩ (.slice (some ⟨yb, yo, none⟩) 512 d2)).alloc (.cells #[.int .i64 (GB : Int), .int .i64 (RB : Int), .int .i64 (NB : Int), .int .i64 (DB : Int)] 23) := ⟨_, rfl⟩
  go_wp2_with fail
  rw [← hW8]
  have HSZ : Hid (W8.heap.size = w7.heap.size + 1) := Lib.hid (by rw [hW8]; simp)
  have HC9 : Hid (Below w2.heap.size w2 W8) := Lib.hid (by rw [hW8]; exact (HC8.out.setCell (Nat.le_refl _) _).alloc (by have := HC8.out.size; simpa using this) _)
  have HM : Hid (∀ w', Below W8.heap.size W8 w' → ∀ i, w'.cell? ⟨w7.heap.size, i, none⟩ = (#[.int .i64 (GB : Int), .int .i64 (RB : Int), .int .i64 (NB : Int), .int .i64 (DB : Int)] : Array Value)[i]? ∧ w'.frozen? ⟨w7.heap.size, i, none⟩ = false) := Lib.hid fun w' hb i => by
    have h1 := hb.block w7.heap.size (by rw [HSZ.out]; omega)
    have h2 := heap_alloc_new (w7.setCell ⟨w2.heap.size, 0, none⟩ (.slice (some ⟨yb, yo, none⟩) 512 d2)) (.cells #[.int .i64 (GB : Int), .int .i64 (RB : Int), .int .i64 (NB : Int), .int .i64 (DB : Int)] 23)
    have h3 : (w7.setCell ⟨w2.heap.size, 0, none⟩ (.slice (some ⟨yb, yo, none⟩) 512 d2)).heap.size = w7.heap.size := by simp
    rw [h3, ← hW8] at h2
    rw [h2] at h1
    exact ⟨Joins.cell_of_block h1 i, Joins.unfrozen_of_block h1 i⟩
  clear hW8 a0 a1 a2 a3 j0 j1 j2 j3 l0 l1 l2 pc0 pc1 pz0 pz1 HP7 HT7 HC7 HT6 HX6 HP6 HD7 HB7
  with_reducible refine (N2.out W8 _ _ _ _ (HZ2.out.trans (HC9.out.mono HZ2.out.size)) (S2.out.below HC9.out) M2.out O2.out (S1b.out.below HC9.out) M1.out O1.out).mono ?_
  rintro e w9 ⟨rfl, hb9⟩
  rw [HG2.out]
  have HC10 : Hid (Below w2.heap.size w2 w9) := Lib.hid (HC9.out.trans (hb9.mono HC9.out.size))
  have HD10 : Hid (Below W0.heap.size W0 w9) := Lib.hid (HB2.out.trans (HC10.out.mono HB2.out.size))
  have HZ10 : Hid (Below w.heap.size w w9) := Lib.hid (HZ0.out.trans (HD10.out.mono HZ0.out.size))
  have b0 : w9.cell? ⟨w7.heap.size, 0, none⟩ = some (.int .i64 (GB : Int)) := (HM.out _ hb9 0).1
  have b1 : w9.cell? ⟨w7.heap.size, 1, none⟩ = some (.int .i64 (RB : Int)) := (HM.out _ hb9 1).1
  have b2 : w9.cell? ⟨w7.heap.size, 2, none⟩ = some (.int .i64 (NB : Int)) := (HM.out _ hb9 2).1
  have b3 : w9.cell? ⟨w7.heap.size, 3, none⟩ = some (.int .i64 (DB : Int)) := (HM.out _ hb9 3).1
  have j0 : w9.cell? ⟨w.heap.size + 1, 0, none⟩ = some (.int .i64 (GB : Int)) := (KB.out _ HD10.out 0).1
  have j1 : w9.cell? ⟨w.heap.size + 1, 1, none⟩ = some (.int .i64 (RB : Int)) := (KB.out _ HD10.out 1).1
  have j2 : w9.cell? ⟨w.heap.size + 1, 2, none⟩ = some (.int .i64 (NB : Int)) := (KB.out _ HD10.out 2).1
  have j3 : w9.cell? ⟨w.heap.size + 1, 3, none⟩ = some (.int .i64 (DB : Int)) := (KB.out _ HD10.out 3).1
  have bz0 := (HM.out _ hb9 0).2
  have bz1 := (HM.out _ hb9 1).2
  have bz2 := (HM.out _ hb9 2).2
  have bz3 := (HM.out _ hb9 3).2
  have l3 : w7.heap.size ≠ w.heap.size + 1 := by
    have h1 := HC8.out.size
    have h2 := HB2.out.size
    have h3 : w.heap.size + 1 < W0.heap.size := World.block_lt_of_cell? _ _ (show W0.cell? ⟨w.heap.size + 1, 0, none⟩ = some (.int .i64 (GB : Int)) from (KB.out _ (Below.refl _ _) 0).1)
    omega
  have l4 : w.heap.size + 1 ≠ w7.heap.size := fun h => l3 h.symm
  have l5 : w.heap.size ≤ w7.heap.size := by
    have h1 := HC8.out.size
    have h2 := HZ2.out.size
    omega
  clear hb9 N2 HM KA KB KE HC8 HC9 HC10 HD10 S1b S2 M1 O1 M2 O2 HSZ HB2 HZ2 HZ0 HGB
  go_wp2
  go_ret
  exact ⟨rfl, set4_below HZ10.out l5 _ _ _ _⟩

end Go.Proofs.YtpklapgcdilghaaDoor
