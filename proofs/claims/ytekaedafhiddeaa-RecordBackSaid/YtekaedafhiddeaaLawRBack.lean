/-
  The law RecordBack returns true: the walk.
-/
import Derived.Test.YtekaedafhiddeaaRBkC
import Derived.Deep.CutRange
import Derived.Deep.CutBlock
import Derived.Test.YtekaedafhiddeaaRFew
import Derived.Deep.RegionHeld3
set_option linter.unusedVariables false
set_option maxRecDepth 100000
namespace Go.Proofs.Ytekaedafhiddeaa
open Go.RowKit
open List renaming getElem_toArray → lq1, getElem_cons_zero → lq2, getElem_cons_succ → lq3, setIfInBounds_toArray → lq4, set_cons_zero → lq5, set_cons_succ → lq6

theorem hbt {w a b : World} (h : Hid (Below w.heap.size w a)) (g : Below a.heap.size a b) : Hid (Below w.heap.size w b) := Lib.hid (h.out.trans (g.mono h.out.size))

theorem rbox1d (w : World) (o : Obj) : Below w.heap.size w (w.alloc o).drew := ((Below.refl w.heap.size w).alloc (Nat.le_refl _) o).drew
theorem rbox1n {w w1 : World} {c : Array Value} {t : TypeId} (h : Below (w.alloc (.cells c t)).drew.heap.size (w.alloc (.cells c t)).drew w1) : w1.heap[w.heap.size]? = some (.cells c t (0, 0)) := by
  rw [h.block _ (by show w.heap.size < (w.alloc _).heap.size; simp)]
  exact heap_alloc_new w _
theorem wp_cut {P : Program} {c : Code} {Q : Exit → Act → World → Prop} {a : Act} {w : World} (R : Act → Act → World → Prop) (h1 : c.wp P (fun e a' w' => e = .normal ∧ R a a' w') a w) (h2 : ∀ a' w', R a a' w' → Q .normal a' w') : c.wp P Q a w :=
  Code.wp_mono (fun e a' w' h => by obtain ⟨rfl, h⟩ := h; exact h2 _ _ h) h1
theorem Own.fresh {w : World} {B g : Nat} (hg : g = w.heap.size) (hB : B ≤ g) : Own (w.alloc (.cells #[] 5)) B (.slice (Option.some ⟨g, 0, none⟩) 0 0) [] := by
  subst hg
  exact ⟨rfl, .inr ⟨w.heap.size, 0, #[], rfl, hB, heap_alloc_new w _, Nat.le_refl _, by simp [maxLen], rfl, rfl⟩⟩
theorem ss_one2 {w : World} {g : Nat} (hg : g = w.heap.size) (t : TypeId) (s : ByteArray) (hs : s.size ≤ 9223372036854775807) : SsOk (w.alloc (.cells #[.string s] t)) (some ⟨g, 0, none⟩) 1 1 [s] := by
  subst hg
  refine ⟨rfl, Nat.le_refl _, by omega, fun _ => ⟨w.heap.size, 0, rfl, fun i x hi => ?_⟩, fun x hx => by obtain rfl := List.mem_singleton.1 hx; exact hs⟩
  match i, hi with
  | 0, hi =>
    obtain rfl : s = x := by simpa using hi
    exact Joins.cell_of_block (heap_alloc_new w _) 0
  | i + 1, hi => simp at hi

set_option maxHeartbeats 25600000 in
theorem lawRBack_any {w : World} (n : Nd) (hn : n.Ok w) (x : Ed) (hx : x.Ok w) :
    Calls Try.prog 3 #[n.cell, x.cell] w fun e w' => e = .returned (.bool true) ∧ Below w.heap.size w w' := by
  have hst := store_flt
  have HF1 : Hid (∀ w', Below w.heap.size w w' → Calls Try.prog 6 #[.slice n.q n.m n.c, .slice n.q' n.m' n.c'] w' (SomeBool5 w')) := Lib.hid fun w' hb => few_any (hn.ls.below hb) (hn.ps.below hb)
  have HF2 : Hid (∀ w' g, SsOk w' (some ⟨g, 0, none⟩) 1 1 [x.t] → Below w.heap.size w w' → Calls Try.prog 6 #[.slice (some ⟨g, 0, none⟩) 1 1, .slice x.q x.m x.c] w' (SomeBool5 w')) := Lib.hid fun w' g hs hb => few_any hs (hx.ps.below hb)
  have HN1 : Hid (∀ w', Below w.heap.size w w' → Calls Try.prog 7 #[n.cell] w' (BPost w' (putN n.id n.ls (n.ps.map Pr.c)))) := Lib.hid fun w' hb => putNode_any n (hn.below hb)
  have HE1 : Hid (∀ w', Below w.heap.size w w' → Calls Try.prog 10 #[x.cell] w' (BPost w' (putE x.id x.fr x.to x.t (x.ps.map Pr.c)))) := Lib.hid fun w' hb => putEdge_any x (hx.below hb)
  have hone := oneE
  have HONE : Hid (∀ w', Calls Try.prog 10 #[.agg #[.int .i64 1, .string ⟨#[84]⟩, .int .i64 2, .int .i64 3, .slice none 0 0]] w' (BPost w' (edgeK 2 3 ⟨#[84]⟩ [], 0))) := Lib.hid fun w' => by
    have h := putEdge_any (w := w') ⟨1, ⟨#[84]⟩, 2, 3, none, 0, 0, []⟩ ⟨by decide, by decide, by decide, by decide, by decide, by decide, by decide, ⟨rfl, Nat.le_refl _, by decide, fun _ => rfl, Ps.nil _ _⟩⟩
    have e : putE 1 2 3 ⟨#[84]⟩ (([] : List Pr).map Pr.c) = (edgeK 2 3 ⟨#[84]⟩ [], 0) := hone.1
    dsimp only at h
    rw [e] at h
    exact h
  have HONL : Hid ((edgeK 2 3 ⟨#[84]⟩ []).length = 20) := Lib.hid hone.2
  clear hone
  have hts := hx.t
  have HRN : Hid (∀ a, putN n.id n.ls (n.ps.map Pr.c) = (a, 0) → 0 < a.length ∧ a.length ≤ 4096 ∧ (∀ w' p m c, Below w.heap.size w w' → Sl w' p m c a → Calls Try.prog 8 #[.slice p m c, .int .i64 n.id] w' fun e w'' => (∃ y : Nd, e = .returned (.tuple #[y.cell, .int .i64 0]) ∧ y.Ok w'' ∧ ∀ w3, Below w''.heap.size w'' w3 → Calls Try.prog 9 #[y.cell, n.cell] w3 fun e w4 => e = .returned (.bool true) ∧ Below w3.heap.size w3 w4) ∧ Below w'.heap.size w' w'') ∧
      (∀ w' p m c u, Sl w' p m c (a ++ [u]) → Calls Try.prog 8 #[.slice p m c, .int .i64 n.id] w' fun e w'' => e = .returned (.tuple #[.agg #[.int .i64 0, .slice none 0 0, .slice none 0 0], .int .i64 11]) ∧ Below w'.heap.size w' w'') ∧
      (∀ w' p m c, Sl w' p m c (a.take (a.length - 1)) → Calls Try.prog 8 #[.slice p m c, .int .i64 n.id] w' fun e w'' => e = .returned (.tuple #[.agg #[.int .i64 0, .slice none 0 0, .slice none 0 0], .int .i64 11]) ∧ Below w'.heap.size w' w'')) := Lib.hid fun a ha => by
    obtain ⟨g1, g2, g3⟩ := putN_zero ha
    have hpos : 0 < a.length := by rw [g2]; unfold nodeK; simp
    refine ⟨hpos, g3, fun w' p m c hb hs => ?_, fun w' p m c u hs => ?_, fun w' p m c hs => ?_⟩
    · refine (readN_yes n (hn.below hb) ha hs).mono fun e w'' h => ⟨?_, h.2⟩
      obtain ⟨y, he, hy, e1, e2, e3⟩ := h.1
      exact ⟨y, he, hy, fun w3 h3 => sameNode_yes y n (hy.below h3) ((hn.below hb).below (h.2.trans (h3.mono h.2.size))) e1 e2 e3⟩
    · exact readN_no hn.i1 hn.i2 (backN_more n hn ha u) (by simp; omega) hs
    · refine readN_no hn.i1 hn.i2 (backN_less n hn ha (b := a.take (a.length - 1)) (u := a[a.length - 1]) ?_) (by simp; omega) hs
      have h := List.take_append_getElem (l := a) (i := a.length - 1) (by omega)
      rw [h, show a.length - 1 + 1 = a.length by omega, List.take_length]
  have HRE : Hid (∀ a, putE x.id x.fr x.to x.t (x.ps.map Pr.c) = (a, 0) → 0 < a.length ∧ a.length ≤ 4096 ∧ (∀ w' p m c, Below w.heap.size w w' → Sl w' p m c a → Calls Try.prog 11 #[.slice p m c, .int .i64 x.id] w' fun e w'' => (∃ y : Ed, e = .returned (.tuple #[y.cell, .int .i64 0]) ∧ y.Ok w'' ∧ ∀ w3, Below w''.heap.size w'' w3 → Calls Try.prog 12 #[y.cell, x.cell] w3 fun e w4 => e = .returned (.bool true) ∧ Below w3.heap.size w3 w4) ∧ Below w'.heap.size w' w'') ∧
      (∀ w' p m c u, Sl w' p m c (a ++ [u]) → Calls Try.prog 11 #[.slice p m c, .int .i64 x.id] w' fun e w'' => e = .returned (.tuple #[.agg #[.int .i64 0, .string ⟨#[]⟩, .int .i64 0, .int .i64 0, .slice none 0 0], .int .i64 11]) ∧ Below w'.heap.size w' w'')) := Lib.hid fun a ha => by
    obtain ⟨g1, g2, g3⟩ := putE_zero ha
    have hpos : 0 < a.length := by rw [g2]; unfold edgeK recK; simp; omega
    refine ⟨hpos, g3, fun w' p m c hb hs => ?_, fun w' p m c u hs => ?_⟩
    · refine (readE_yes x (hx.below hb) ha hs).mono fun e w'' h => ⟨?_, h.2⟩
      obtain ⟨y, he, hy, e1, e2, e3, e4, e5⟩ := h.1
      exact ⟨y, he, hy, fun w3 h3 => sameEdge_yes y x (hy.below h3) ((hx.below hb).below (h.2.trans (h3.mono h.2.size))) e1 e2 e3 e4 e5⟩
    · exact readE_no hx.i1 hx.i2 (backE_more x hx ha u) (by simp; omega) hs
  obtain ⟨id, q, m, c, ls, q', m', c', ps⟩ := n
  obtain ⟨ie, t, fr, dst, qe, me, ce, pe⟩ := x
  dsimp only [Nd.cell, Ed.cell] at *
  clear hn hx
  generalize putN id ls (ps.map Pr.c) = xn at *
  generalize putE ie fr dst t (pe.map Pr.c) = xe at *
  obtain ⟨ln, en⟩ := xn
  obtain ⟨le, ee⟩ := xe
  obtain ⟨W, hW⟩ : ∃ W, W = (w.alloc (.cells #[.int .i64 id, .slice q m c, .slice q' m' c'] 25)).alloc (.cells #[.int .i64 ie, .string t, .int .i64 fr, .int .i64 dst, .slice qe me ce] 27) := ⟨_, rfl⟩
  have HK : Hid (∀ w', Below W.heap.size W w' → (w'.cell? ⟨w.heap.size, 0, none⟩ = some (.int .i64 id) ∧ w'.cell? ⟨w.heap.size, 1, none⟩ = some (.slice q m c) ∧ w'.cell? ⟨w.heap.size, 2, none⟩ = some (.slice q' m' c')) ∧
      w'.cell? ⟨w.heap.size + 1, 0, none⟩ = some (.int .i64 ie) ∧ w'.cell? ⟨w.heap.size + 1, 1, none⟩ = some (.string t) ∧ w'.cell? ⟨w.heap.size + 1, 2, none⟩ = some (.int .i64 fr) ∧ w'.cell? ⟨w.heap.size + 1, 3, none⟩ = some (.int .i64 dst) ∧ w'.cell? ⟨w.heap.size + 1, 4, none⟩ = some (.slice qe me ce)) := by
    refine Lib.hid fun w' hb => ?_
    rw [hW] at hb
    have h1 := fun i => (box2_cell hb i).1
    have h2 := fun i => (box2_cell hb i).2
    exact ⟨⟨h1 0, h1 1, h1 2⟩, h2 0, h2 1, h2 2, h2 3, h2 4⟩
  have HWB : Hid (∀ w', Below W.heap.size W w' → Below w.heap.size w w') := by
    refine Lib.hid fun w' hb => ?_
    rw [hW] at hb
    exact box2_below hb
  have HWs : Hid (W.heap.size = w.heap.size + 2) := Lib.hid (by rw [hW]; simp)
  go_enter Try.func3, Try.ntmps3
  go_wp2_with fail
  rw [← hW]
  replace hW := Lib.hid hW
  refine (HF1.out _ (HWB.out _ (Below.refl _ _))).mono ?_
  rintro e w1 ⟨b1, rfl, hb1⟩
  have HB1 := Lib.hid hb1
  obtain ⟨⟨k0, k1, k2⟩, k3, k4, k5, k6, k7⟩ := HK.out _ hb1
  have hw1 : w.heap.size + 1 < w1.heap.size := by have := HWs.out; have := hb1.size; omega
  clear hb1
  cases b1
  · go_wp2
    go_ret
    exact ⟨rfl, HWB.out _ HB1.out⟩
  go_wp2_with fail
  refine (HF2.out _ _ (ss_one2 rfl _ t hts) (HWB.out _ (HB1.out.alloc HB1.out.size _))).mono ?_
  rintro e w2 ⟨b2, rfl, hb2⟩
  have HB2 : Hid (Below W.heap.size W w2) := Lib.hid ((HB1.out.alloc HB1.out.size _).trans (hb2.mono (HB1.out.alloc HB1.out.size _).size))
  clear hb2 k0 k1 k2 k3 k4 k5 k6 k7 hw1
  obtain ⟨⟨k0, k1, k2⟩, k3, k4, k5, k6, k7⟩ := HK.out _ HB2.out
  have hw2 : w.heap.size + 1 < w2.heap.size := by have := HWs.out; have := HB2.out.size; omega
  cases b2
  · go_wp2
    go_ret
    exact ⟨rfl, HWB.out _ HB2.out⟩
  obtain ⟨nn, hnn⟩ : ∃ y, y = ln.length := ⟨_, rfl⟩
  obtain ⟨ne, hne⟩ : ∃ y, y = le.length := ⟨_, rfl⟩
  have HNN := Lib.hid hnn
  have HNE := Lib.hid hne
  clear hnn hne
  go_wp2_with fail
  refine (HN1.out _ (HWB.out _ HB2.out)).mono ?_
  rintro e w3 ⟨v3, rfl, ho3, hb3⟩
  have HB3 : Hid (Below W.heap.size W w3) := Lib.hid (HB2.out.trans (hb3.mono HB2.out.size))
  obtain ⟨p3, c3, rfl, hs3⟩ := ho3.sl HNN.out
  have HS3 := Lib.hid hs3
  clear hb3 ho3 hs3 k0 k1 k2 k3 k4 k5 k6 k7 hw2
  obtain ⟨⟨k0, k1, k2⟩, k3, k4, k5, k6, k7⟩ := HK.out _ HB3.out
  have hw3 : w.heap.size + 1 < w3.heap.size := by have := HWs.out; have := HB3.out.size; omega
  go_upto_if 40 with fail
  go_cut [6] from 19 to 142 (fun x6 wx => Below W.heap.size W wx)
  case first =>
    by_cases hen : en = 0
    · subst hen
      obtain ⟨hpos, hln, HY, HM, HL⟩ := HRN.out ln rfl
      have HLN := Lib.hid hln
      have HY := Lib.hid HY
      have HM := Lib.hid HM
      have HL := Lib.hid HL
      go_wp2_with fail
      refine (HY.out _ _ _ _ (HWB.out _ HB3.out) HS3.out).mono ?_
      rintro e w4 ⟨⟨y, rfl, hy, hsm⟩, hb4⟩
      obtain ⟨yi, yq, ym, yc, yl, yq', ym', yc', yp⟩ := y
      dsimp only [Nd.cell] at hsm ⊢
      have HSM := Lib.hid hsm
      have HB4 : Hid (Below W.heap.size W w4) := Lib.hid (HB3.out.trans (hb4.mono HB3.out.size))
      have HS4 := Lib.hid (HS3.out.below hb4)
      clear hy hsm hb4 k0 k1 k2 k3 k4 k5 k6 k7 hw3
      obtain ⟨⟨k0, k1, k2⟩, k3, k4, k5, k6, k7⟩ := HK.out _ HB4.out
      have hw4 : w.heap.size + 1 < w4.heap.size := by have := HWs.out; have := HB4.out.size; omega
      clear HY
      go_wp2_with fail
      obtain ⟨w5, hw5⟩ : ∃ x, x = w4.alloc (.cells #[.int .i64 yi, .slice yq ym yc, .slice yq' ym' yc'] 25) := ⟨_, rfl⟩
      rw [← hw5]
      have HB5 : Hid (Below W.heap.size W w5) := Lib.hid (by rw [hw5]; exact HB4.out.alloc HB4.out.size _)
      have HS5 : Hid (Sl w5 p3 nn c3 ln) := Lib.hid (by rw [hw5]; exact HS4.out.below ((Below.refl _ _).alloc (Nat.le_refl _) _))
      have HY5 : Hid (w5.heap[w4.heap.size]? = some (.cells #[.int .i64 yi, .slice yq ym yc, .slice yq' ym' yc'] 25 (0, 0))) := Lib.hid (by rw [hw5]; exact heap_alloc_new w4 _)
      have HKS : Hid (∀ w', Below w5.heap.size w5 w' → w'.cell? ⟨w.heap.size, 0, none⟩ = some (.int .i64 id)) := Lib.hid fun w' hb => (HK.out _ (HB5.out.trans (hb.mono HB5.out.size))).1.1
      have hn0 : 0 < nn := by have := HNN.out; omega
      replace hw5 := Lib.hid hw5
      clear k0 k1 k2 k3 k4 k5 k6 k7 hw4 HB4 HS4
      refine wp_cut (fun a a' w' => (∃ x1 x2 x3 x4 x5 x6 x7 x8 x9 x10 x11 x12 : Value, a' = ((((((((((((a.put (some 49) x1).put (some 50) x2).put (some 51) x3).put (some 52) x4).put (some 53) x5).put (some 54) x6).put (some 55) x7).put (some 56) x8).put (some 48) x9).put (some 57) x10).put (some 58) x11).put (some 9) x12).put (some 10) (.int .i64 11)) ∧ Below w5.heap.size w5 w') ?_ ?_
      ·refine wp_region_held_drew (S := fun w' => w'.cell? ⟨w.heap.size, 0, none⟩ = some (.int .i64 id)) (by kernel_rfl) (HKS.out _ (Below.refl _ _).drew) (fun hHeld => ?_)
       obtain ⟨u0, hu0⟩ : ∃ x, x = w5.drew := ⟨_, rfl⟩
       rw [← hu0] at hHeld ⊢
       have HB0 : Hid (Below w5.heap.size w5 u0) := Lib.hid (by rw [hu0]; exact (Below.refl _ _).drew)
       clear hu0
       refine wpAnyH_take (i := 1) (v := ?_) rfl (by kernel_rfl) (by kernel_rfl) (by kernel_rfl) (fun _ _ _ h => nomatch h.1) (Or.inl ⟨by rfl, ?_⟩) (by assumption) ?_
       rotate_left
       ·intro w hSw; (try dsimp only at hSw); go_simp; try with_reducible rfl
       simp only [Act.put, lq1, lq2, lq3, lq4, lq5, lq6]
       refine wpAnyH_take (i := 5) (v := ?_) rfl (by kernel_rfl) (by kernel_rfl) (by kernel_rfl) (fun _ _ _ h => nomatch h.1) (Or.inl ⟨by rfl, ?_⟩) (by assumption) ?_
       rotate_left
       ·intro w hSw; (try dsimp only at hSw); go_simp; try with_reducible rfl
       simp only [Act.put, lq1, lq2, lq3, lq4, lq5, lq6]
       refine wpAnyH_take (i := 6) (v := ?_) rfl (by kernel_rfl) (by kernel_rfl) (by kernel_rfl) (fun _ _ _ h => nomatch h.1) (Or.inl ⟨by rfl, ?_⟩) (by assumption) ?_
       rotate_left
       ·intro w hSw; (try dsimp only at hSw); go_simp; try with_reducible rfl
       simp only [Act.put, lq1, lq2, lq3, lq4, lq5, lq6]
       refine wpAnyH_ready (rs := [0, 3, 11]) (by kernel_rfl) (by simp) (.cons rfl (fun K hK => ?_) (.cons rfl (fun K hK => ?_) (.cons rfl (fun K hK => ?_) .nil)))
       ·go_simp
        refine hK.out _ _ (HKS.out _ (HB0.out.alloc HB0.out.size _)) (fun hHeld => ?_)
        clear hK K
        try simp only [Act.put, lq1, lq2, lq3, lq4, lq5, lq6]
        obtain ⟨u1, hu1⟩ : ∃ x, x = u0.alloc (.cells #[] 5) := ⟨_, rfl⟩
        rw [← hu1]
        obtain ⟨gA, hgA⟩ : ∃ x, x = u0.heap.size := ⟨_, rfl⟩
        rw [← hgA]
        have hz1 : u0.heap.size < u1.heap.size := by rw [hu1]; simp
        have hgegA : w5.heap.size ≤ gA := by have := HB0.out.size; omega
        have hb1 : Below u0.heap.size u0 u1 := by rw [hu1]; exact (Below.refl _ _).alloc (Nat.le_refl _) _
        have HB1 := hbt HB0 hb1
        have HA1 : Hid (Own u1 w5.heap.size (.slice (some ⟨gA, 0, none⟩) 0 0) []) := Lib.hid (by rw [hu1]; exact Own.fresh hgA (by have := HB0.out.size; omega))
        have hltgA : gA < u1.heap.size := by omega
        clear hb1 hu1 hgA
        refine wpAnyH_ready (rs := [2, 3, 11]) (by kernel_rfl) (by simp) (.cons rfl (fun K hK => ?_) (.cons rfl (fun K hK => ?_) (.cons rfl (fun K hK => ?_) .nil)))
        ·refine step_at (by rfl) (.tmp 49) (.tmp 50) rfl rfl HA1.out rfl HNN.out rfl (HS5.out.b.below HB1.out) HS5.out.h0 (by have := HLN.out; simp; omega) HB1.out.size ?_
         intro vv u2 ho hg hd
         rw [List.nil_append] at ho hd
         obtain ⟨gV, cV, rfl, _, _, _, hgV, _⟩ := ho.some HNN.out hn0
         have hdV : gV = gA ∨ u1.heap.size ≤ gV := hd.elim (fun h => .inl (Option.some.inj h)) (fun h => .inr (World.ownsRow.lt h gV rfl).1)
         have hz2 : u1.heap.size ≤ u2.heap.size := hg.size
         have HB2 : Hid (Below w5.heap.size w5 u2) := Lib.hid (HB1.out.trans (HA1.out.below_at (Nat.le_refl _) HB1.out.size hg))
         have HV2 : Hid (Own u2 w5.heap.size (.slice (some ⟨gV, 0, none⟩) nn cV) ln) := Lib.hid ho
         clear ho hg hd
         refine hK.out _ _ (HKS.out _ HB2.out) (fun hHeld => ?_)
         clear hK K
         try simp only [Act.put, lq1, lq2, lq3, lq4, lq5, lq6]
         refine wpAnyH_ready (rs := [3, 11]) (by kernel_rfl) (by simp) (.cons rfl (fun K hK => ?_) (.cons rfl (fun K hK => ?_) .nil))
         ·go_simp
          refine hK.out _ _ (HKS.out _ (HB2.out.alloc HB2.out.size _)) (fun hHeld => ?_)
          clear hK K
          try simp only [Act.put, lq1, lq2, lq3, lq4, lq5, lq6]
          obtain ⟨u3, hu3⟩ : ∃ x, x = u2.alloc (.cells #[.int .u8 0] 5) := ⟨_, rfl⟩
          rw [← hu3]
          obtain ⟨gC, hgC⟩ : ∃ x, x = u2.heap.size := ⟨_, rfl⟩
          rw [← hgC]
          have hz3 : u2.heap.size < u3.heap.size := by rw [hu3]; simp
          have hgegC : w5.heap.size ≤ gC := by have := HB2.out.size; omega
          have hb3 : Below u2.heap.size u2 u3 := by rw [hu3]; exact (Below.refl _ _).alloc (Nat.le_refl _) _
          have HB3 := hbt HB2 hb3
          have HV3 : Hid (Own u3 w5.heap.size (.slice (some ⟨gV, 0, none⟩) nn cV) ln) := Lib.hid (HV2.out.below hb3)
          have HC3 : Hid (u3.heap[gC]? = some (.cells #[.int .u8 0] 5 (0, 0))) := Lib.hid (by rw [hu3, hgC]; exact heap_alloc_new u2 _)
          have hltgVgC : gV < gC := by omega
          have hltgC : gC < u3.heap.size := by omega
          clear hb3 hu3 hgC
          refine wpAnyH_ready (rs := [4, 11]) (by kernel_rfl) (by simp) (.cons rfl (fun K hK => ?_) (.cons rfl (fun K hK => ?_) .nil))
          ·refine step_at (by rfl) (.tmp 51) (.tmp 52) rfl rfl HV3.out HNN.out (m := [0]) rfl rfl (Bs.of_block HC3.out rfl) (fun e => by cases e) (by have := HLN.out; simp; omega) HB3.out.size ?_
           intro vv u4 ho hg hd
           obtain ⟨mW, hmW⟩ : ∃ x, x = (ln ++ [(0 : UInt8)]).length := ⟨_, rfl⟩
           obtain ⟨pW, cW, rfl, hsW⟩ := ho.sl hmW
           have hz4 : u3.heap.size ≤ u4.heap.size := hg.size
           have HB4 : Hid (Below w5.heap.size w5 u4) := Lib.hid (HB3.out.trans (HV3.out.below_at (Nat.le_refl _) HB3.out.size hg))
           have HW4 : Hid (Sl u4 pW mW cW (ln ++ [0])) := Lib.hid hsW
           clear ho hg hd hsW hmW
           refine hK.out _ _ (HKS.out _ HB4.out) (fun hHeld => ?_)
           clear hK K
           try simp only [Act.put, lq1, lq2, lq3, lq4, lq5, lq6]
           refine wpAnyH_ready (rs := [7, 11]) (by kernel_rfl) (by simp) (.cons rfl (fun K hK => ?_) (.cons rfl (fun K hK => ?_) .nil))
           ·go_simp
            refine (HM.out _ _ _ _ _ HW4.out).mono ?_
            rintro e u5 ⟨rfl, hb5⟩
            have hz5 : u4.heap.size ≤ u5.heap.size := hb5.size
            have HB5 := hbt HB4 hb5
            dsimp only
            refine hK.out _ _ (HKS.out _ HB5.out) (fun hHeld => ?_)
            clear hK K hb5
            try simp only [Act.put, lq1, lq2, lq3, lq4, lq5, lq6]
            refine wpAnyH_take (i := 8) (v := ?_) rfl (by kernel_rfl) (by kernel_rfl) (by kernel_rfl) (fun _ _ _ h => nomatch h.1) (Or.inl ⟨by rfl, ?_⟩) (by assumption) ?_
            rotate_left
            ·intro w hSw; (try dsimp only at hSw); go_simp; try with_reducible rfl
            simp only [Act.put, lq1, lq2, lq3, lq4, lq5, lq6]
            refine wpAnyH_take (i := 9) (v := ?_) rfl (by kernel_rfl) (by kernel_rfl) (by kernel_rfl) (fun _ _ _ h => nomatch h.1) (Or.inl ⟨by rfl, ?_⟩) (by assumption) ?_
            rotate_left
            ·intro w hSw; (try dsimp only at hSw); go_simp; try with_reducible rfl
            simp only [Act.put, lq1, lq2, lq3, lq4, lq5, lq6]
            refine wpAnyH_take (i := 10) (v := ?_) rfl (by kernel_rfl) (by kernel_rfl) (by kernel_rfl) (fun _ _ _ h => nomatch h.1) (Or.inl ⟨by rfl, ?_⟩) (by assumption) ?_
            rotate_left
            ·intro w hSw; (try dsimp only at hSw); go_simp; try with_reducible rfl
            simp only [Act.put, lq1, lq2, lq3, lq4, lq5, lq6]
            refine wpAnyH_ready (rs := [11]) (by kernel_rfl) (by simp) (.cons rfl (fun K hK => ?_) .nil)
            go_simp
            refine hK.out _ _ (HKS.out _ (HB5.out.alloc HB5.out.size _)) (fun hHeld => ?_)
            clear hK K
            try simp only [Act.put, lq1, lq2, lq3, lq4, lq5, lq6]
            obtain ⟨u6, hu6⟩ : ∃ x, x = u5.alloc (.cells #[.int .i64 0, .slice none 0 0, .slice none 0 0] 25) := ⟨_, rfl⟩
            rw [← hu6]
            obtain ⟨g9, hg9⟩ : ∃ x, x = u5.heap.size := ⟨_, rfl⟩
            rw [← hg9]
            have hz6 : u5.heap.size < u6.heap.size := by rw [hu6]; simp
            have hgeg9 : w5.heap.size ≤ g9 := by have := HB5.out.size; omega
            have hb6 : Below u5.heap.size u5 u6 := by rw [hu6]; exact (Below.refl _ _).alloc (Nat.le_refl _) _
            have HB6 := hbt HB5 hb6
            have H96 : Hid (u6.heap[g9]? = some (.cells #[.int .i64 0, .slice none 0 0, .slice none 0 0] 25 (0, 0))) := Lib.hid (by rw [hu6, hg9]; exact heap_alloc_new u5 _)
            have hltg9 : g9 < u6.heap.size := by omega
            clear hb6 hu6 hg9
            refine wpAnyH_ready (rs := [12]) (by kernel_rfl) (by simp) (.cons rfl (fun K hK => ?_) .nil)
            obtain ⟨z0, j0⟩ := rd_at H96.out 0
            obtain ⟨z1, j1⟩ := rd_at H96.out 1
            obtain ⟨z2, j2⟩ := rd_at H96.out 2
            simp only [List.getElem?_toArray, List.getElem?_cons_zero, List.getElem?_cons_succ] at z0 z1 z2
            have h9lt : g9 < u6.heap.size := (Array.getElem?_eq_some_iff.1 H96.out).1
            go_simp
            refine hK.out _ _ (HKS.out _ (((HB6.out.setCell (p := ⟨g9, 0, none⟩) (by omega) _).setCell (p := ⟨g9, 1, none⟩) (by omega) _).setCell (p := ⟨g9, 2, none⟩) (by omega) _)) (fun hHeld => ?_)
            clear hK K
            try simp only [Act.put, lq1, lq2, lq3, lq4, lq5, lq6]
            obtain ⟨u7, hu7⟩ : ∃ x, x = (((u6.setCell ⟨g9, 0, none⟩ (.int .i64 0)).setCell ⟨g9, 1, none⟩ (.slice none 0 0)).setCell ⟨g9, 2, none⟩ (.slice none 0 0)) := ⟨_, rfl⟩
            have HB7 : Hid (Below w5.heap.size w5 u7) := Lib.hid (by rw [hu7]; exact (((HB6.out.setCell (p := ⟨g9, 0, none⟩) (by omega) _).setCell (p := ⟨g9, 1, none⟩) (by omega) _).setCell (p := ⟨g9, 2, none⟩) (by omega) _))
            rw [← hu7]
            clear hu7
            refine wpAnyH_ready (rs := [13]) (by kernel_rfl) (by simp) (.cons rfl (fun K hK => ?_) .nil)
            go_simp
            refine hK.out _ _ (HKS.out _ HB7.out) (fun hHeld => ?_)
            clear hK K
            try simp only [Act.put, lq1, lq2, lq3, lq4, lq5, lq6]
            have HB8 := Lib.hid HB7.out
            refine wpAnyH_done (by kernel_rfl) ?_ _
            exact ⟨rfl, ⟨_, _, _, _, _, _, _, _, _, _, _, _, rfl⟩, HB8.out⟩
           ·go_simp
            refine hK.out _ _ (HKS.out _ (HB4.out.alloc HB4.out.size _)) (fun hHeld => ?_)
            clear hK K
            try simp only [Act.put, lq1, lq2, lq3, lq4, lq5, lq6]
            obtain ⟨u5, hu5⟩ : ∃ x, x = u4.alloc (.cells #[.int .i64 0, .slice none 0 0, .slice none 0 0] 25) := ⟨_, rfl⟩
            rw [← hu5]
            obtain ⟨g9, hg9⟩ : ∃ x, x = u4.heap.size := ⟨_, rfl⟩
            rw [← hg9]
            have hz5 : u4.heap.size < u5.heap.size := by rw [hu5]; simp
            have hgeg9 : w5.heap.size ≤ g9 := by have := HB4.out.size; omega
            have hb5 : Below u4.heap.size u4 u5 := by rw [hu5]; exact (Below.refl _ _).alloc (Nat.le_refl _) _
            have HB5 := hbt HB4 hb5
            have HW5 : Hid (Sl u5 pW mW cW (ln ++ [0])) := Lib.hid (HW4.out.below hb5)
            have H95 : Hid (u5.heap[g9]? = some (.cells #[.int .i64 0, .slice none 0 0, .slice none 0 0] 25 (0, 0))) := Lib.hid (by rw [hu5, hg9]; exact heap_alloc_new u4 _)
            have hltg9 : g9 < u5.heap.size := by omega
            clear hb5 hu5 hg9
            refine wpAnyH_ready (rs := [7]) (by kernel_rfl) (by simp) (.cons rfl (fun K hK => ?_) .nil)
            go_simp
            refine (HM.out _ _ _ _ _ HW5.out).mono ?_
            rintro e u6 ⟨rfl, hb6⟩
            have hz6 : u5.heap.size ≤ u6.heap.size := hb6.size
            have HB6 := hbt HB5 hb6
            have H96 : Hid (u6.heap[g9]? = some (.cells #[.int .i64 0, .slice none 0 0, .slice none 0 0] 25 (0, 0))) := Lib.hid (by rw [hb6.block g9 (by omega)]; exact H95.out)
            dsimp only
            refine hK.out _ _ (HKS.out _ HB6.out) (fun hHeld => ?_)
            clear hK K hb6
            try simp only [Act.put, lq1, lq2, lq3, lq4, lq5, lq6]
            refine wpAnyH_take (i := 8) (v := ?_) rfl (by kernel_rfl) (by kernel_rfl) (by kernel_rfl) (fun _ _ _ h => nomatch h.1) (Or.inl ⟨by rfl, ?_⟩) (by assumption) ?_
            rotate_left
            ·intro w hSw; (try dsimp only at hSw); go_simp; try with_reducible rfl
            simp only [Act.put, lq1, lq2, lq3, lq4, lq5, lq6]
            refine wpAnyH_take (i := 9) (v := ?_) rfl (by kernel_rfl) (by kernel_rfl) (by kernel_rfl) (fun _ _ _ h => nomatch h.1) (Or.inl ⟨by rfl, ?_⟩) (by assumption) ?_
            rotate_left
            ·intro w hSw; (try dsimp only at hSw); go_simp; try with_reducible rfl
            simp only [Act.put, lq1, lq2, lq3, lq4, lq5, lq6]
            refine wpAnyH_take (i := 10) (v := ?_) rfl (by kernel_rfl) (by kernel_rfl) (by kernel_rfl) (fun _ _ _ h => nomatch h.1) (Or.inl ⟨by rfl, ?_⟩) (by assumption) ?_
            rotate_left
            ·intro w hSw; (try dsimp only at hSw); go_simp; try with_reducible rfl
            simp only [Act.put, lq1, lq2, lq3, lq4, lq5, lq6]
            refine wpAnyH_ready (rs := [12]) (by kernel_rfl) (by simp) (.cons rfl (fun K hK => ?_) .nil)
            obtain ⟨z0, j0⟩ := rd_at H96.out 0
            obtain ⟨z1, j1⟩ := rd_at H96.out 1
            obtain ⟨z2, j2⟩ := rd_at H96.out 2
            simp only [List.getElem?_toArray, List.getElem?_cons_zero, List.getElem?_cons_succ] at z0 z1 z2
            have h9lt : g9 < u6.heap.size := (Array.getElem?_eq_some_iff.1 H96.out).1
            go_simp
            refine hK.out _ _ (HKS.out _ (((HB6.out.setCell (p := ⟨g9, 0, none⟩) (by omega) _).setCell (p := ⟨g9, 1, none⟩) (by omega) _).setCell (p := ⟨g9, 2, none⟩) (by omega) _)) (fun hHeld => ?_)
            clear hK K
            try simp only [Act.put, lq1, lq2, lq3, lq4, lq5, lq6]
            obtain ⟨u7, hu7⟩ : ∃ x, x = (((u6.setCell ⟨g9, 0, none⟩ (.int .i64 0)).setCell ⟨g9, 1, none⟩ (.slice none 0 0)).setCell ⟨g9, 2, none⟩ (.slice none 0 0)) := ⟨_, rfl⟩
            have HB7 : Hid (Below w5.heap.size w5 u7) := Lib.hid (by rw [hu7]; exact (((HB6.out.setCell (p := ⟨g9, 0, none⟩) (by omega) _).setCell (p := ⟨g9, 1, none⟩) (by omega) _).setCell (p := ⟨g9, 2, none⟩) (by omega) _))
            rw [← hu7]
            clear hu7
            refine wpAnyH_ready (rs := [13]) (by kernel_rfl) (by simp) (.cons rfl (fun K hK => ?_) .nil)
            go_simp
            refine hK.out _ _ (HKS.out _ HB7.out) (fun hHeld => ?_)
            clear hK K
            try simp only [Act.put, lq1, lq2, lq3, lq4, lq5, lq6]
            have HB8 := Lib.hid HB7.out
            refine wpAnyH_done (by kernel_rfl) ?_ _
            exact ⟨rfl, ⟨_, _, _, _, _, _, _, _, _, _, _, _, rfl⟩, HB8.out⟩
          ·go_simp
           refine hK.out _ _ (HKS.out _ (HB3.out.alloc HB3.out.size _)) (fun hHeld => ?_)
           clear hK K
           try simp only [Act.put, lq1, lq2, lq3, lq4, lq5, lq6]
           obtain ⟨u4, hu4⟩ : ∃ x, x = u3.alloc (.cells #[.int .i64 0, .slice none 0 0, .slice none 0 0] 25) := ⟨_, rfl⟩
           rw [← hu4]
           obtain ⟨g9, hg9⟩ : ∃ x, x = u3.heap.size := ⟨_, rfl⟩
           rw [← hg9]
           have hz4 : u3.heap.size < u4.heap.size := by rw [hu4]; simp
           have hgeg9 : w5.heap.size ≤ g9 := by have := HB3.out.size; omega
           have hb4 : Below u3.heap.size u3 u4 := by rw [hu4]; exact (Below.refl _ _).alloc (Nat.le_refl _) _
           have HB4 := hbt HB3 hb4
           have HC4 : Hid (u4.heap[gC]? = some (.cells #[.int .u8 0] 5 (0, 0))) := Lib.hid (by rw [hb4.block gC (by omega)]; exact HC3.out)
           have HV4 : Hid (Own u4 w5.heap.size (.slice (some ⟨gV, 0, none⟩) nn cV) ln) := Lib.hid (HV3.out.below hb4)
           have H94 : Hid (u4.heap[g9]? = some (.cells #[.int .i64 0, .slice none 0 0, .slice none 0 0] 25 (0, 0))) := Lib.hid (by rw [hu4, hg9]; exact heap_alloc_new u3 _)
           have hltgCg9 : gC < g9 := by omega
           have hltgVg9 : gV < g9 := by omega
           have hltg9 : g9 < u4.heap.size := by omega
           clear hb4 hu4 hg9
           refine wpAnyH_ready (rs := [4]) (by kernel_rfl) (by simp) (.cons rfl (fun K hK => ?_) .nil)
           refine step_at (by rfl) (.tmp 51) (.tmp 52) rfl rfl HV4.out HNN.out (m := [0]) rfl rfl (Bs.of_block HC4.out rfl) (fun e => by cases e) (by have := HLN.out; simp; omega) HB4.out.size ?_
           intro vv u5 ho hg hd
           obtain ⟨mW, hmW⟩ : ∃ x, x = (ln ++ [(0 : UInt8)]).length := ⟨_, rfl⟩
           obtain ⟨pW, cW, rfl, hsW⟩ := ho.sl hmW
           have hz5 : u4.heap.size ≤ u5.heap.size := hg.size
           have HB5 : Hid (Below w5.heap.size w5 u5) := Lib.hid (HB4.out.trans (HV4.out.below_at (Nat.le_refl _) HB4.out.size hg))
           have H95 : Hid (u5.heap[g9]? = some (.cells #[.int .i64 0, .slice none 0 0, .slice none 0 0] 25 (0, 0))) := Lib.hid (by rw [hg.block g9 (by omega) (fun e => by have := Option.some.inj e; omega)]; exact H94.out)
           have HW5 : Hid (Sl u5 pW mW cW (ln ++ [0])) := Lib.hid hsW
           clear ho hg hd hsW hmW
           refine hK.out _ _ (HKS.out _ HB5.out) (fun hHeld => ?_)
           clear hK K
           try simp only [Act.put, lq1, lq2, lq3, lq4, lq5, lq6]
           refine wpAnyH_ready (rs := [7]) (by kernel_rfl) (by simp) (.cons rfl (fun K hK => ?_) .nil)
           go_simp
           refine (HM.out _ _ _ _ _ HW5.out).mono ?_
           rintro e u6 ⟨rfl, hb6⟩
           have hz6 : u5.heap.size ≤ u6.heap.size := hb6.size
           have HB6 := hbt HB5 hb6
           have H96 : Hid (u6.heap[g9]? = some (.cells #[.int .i64 0, .slice none 0 0, .slice none 0 0] 25 (0, 0))) := Lib.hid (by rw [hb6.block g9 (by omega)]; exact H95.out)
           dsimp only
           refine hK.out _ _ (HKS.out _ HB6.out) (fun hHeld => ?_)
           clear hK K hb6
           try simp only [Act.put, lq1, lq2, lq3, lq4, lq5, lq6]
           refine wpAnyH_take (i := 8) (v := ?_) rfl (by kernel_rfl) (by kernel_rfl) (by kernel_rfl) (fun _ _ _ h => nomatch h.1) (Or.inl ⟨by rfl, ?_⟩) (by assumption) ?_
           rotate_left
           ·intro w hSw; (try dsimp only at hSw); go_simp; try with_reducible rfl
           simp only [Act.put, lq1, lq2, lq3, lq4, lq5, lq6]
           refine wpAnyH_take (i := 9) (v := ?_) rfl (by kernel_rfl) (by kernel_rfl) (by kernel_rfl) (fun _ _ _ h => nomatch h.1) (Or.inl ⟨by rfl, ?_⟩) (by assumption) ?_
           rotate_left
           ·intro w hSw; (try dsimp only at hSw); go_simp; try with_reducible rfl
           simp only [Act.put, lq1, lq2, lq3, lq4, lq5, lq6]
           refine wpAnyH_take (i := 10) (v := ?_) rfl (by kernel_rfl) (by kernel_rfl) (by kernel_rfl) (fun _ _ _ h => nomatch h.1) (Or.inl ⟨by rfl, ?_⟩) (by assumption) ?_
           rotate_left
           ·intro w hSw; (try dsimp only at hSw); go_simp; try with_reducible rfl
           simp only [Act.put, lq1, lq2, lq3, lq4, lq5, lq6]
           refine wpAnyH_ready (rs := [12]) (by kernel_rfl) (by simp) (.cons rfl (fun K hK => ?_) .nil)
           obtain ⟨z0, j0⟩ := rd_at H96.out 0
           obtain ⟨z1, j1⟩ := rd_at H96.out 1
           obtain ⟨z2, j2⟩ := rd_at H96.out 2
           simp only [List.getElem?_toArray, List.getElem?_cons_zero, List.getElem?_cons_succ] at z0 z1 z2
           have h9lt : g9 < u6.heap.size := (Array.getElem?_eq_some_iff.1 H96.out).1
           go_simp
           refine hK.out _ _ (HKS.out _ (((HB6.out.setCell (p := ⟨g9, 0, none⟩) (by omega) _).setCell (p := ⟨g9, 1, none⟩) (by omega) _).setCell (p := ⟨g9, 2, none⟩) (by omega) _)) (fun hHeld => ?_)
           clear hK K
           try simp only [Act.put, lq1, lq2, lq3, lq4, lq5, lq6]
           obtain ⟨u7, hu7⟩ : ∃ x, x = (((u6.setCell ⟨g9, 0, none⟩ (.int .i64 0)).setCell ⟨g9, 1, none⟩ (.slice none 0 0)).setCell ⟨g9, 2, none⟩ (.slice none 0 0)) := ⟨_, rfl⟩
           have HB7 : Hid (Below w5.heap.size w5 u7) := Lib.hid (by rw [hu7]; exact (((HB6.out.setCell (p := ⟨g9, 0, none⟩) (by omega) _).setCell (p := ⟨g9, 1, none⟩) (by omega) _).setCell (p := ⟨g9, 2, none⟩) (by omega) _))
           rw [← hu7]
           clear hu7
           refine wpAnyH_ready (rs := [13]) (by kernel_rfl) (by simp) (.cons rfl (fun K hK => ?_) .nil)
           go_simp
           refine hK.out _ _ (HKS.out _ HB7.out) (fun hHeld => ?_)
           clear hK K
           try simp only [Act.put, lq1, lq2, lq3, lq4, lq5, lq6]
           have HB8 := Lib.hid HB7.out
           refine wpAnyH_done (by kernel_rfl) ?_ _
           exact ⟨rfl, ⟨_, _, _, _, _, _, _, _, _, _, _, _, rfl⟩, HB8.out⟩
         ·go_simp
          refine hK.out _ _ (HKS.out _ (HB2.out.alloc HB2.out.size _)) (fun hHeld => ?_)
          clear hK K
          try simp only [Act.put, lq1, lq2, lq3, lq4, lq5, lq6]
          obtain ⟨u3, hu3⟩ : ∃ x, x = u2.alloc (.cells #[.int .i64 0, .slice none 0 0, .slice none 0 0] 25) := ⟨_, rfl⟩
          rw [← hu3]
          obtain ⟨g9, hg9⟩ : ∃ x, x = u2.heap.size := ⟨_, rfl⟩
          rw [← hg9]
          have hz3 : u2.heap.size < u3.heap.size := by rw [hu3]; simp
          have hgeg9 : w5.heap.size ≤ g9 := by have := HB2.out.size; omega
          have hb3 : Below u2.heap.size u2 u3 := by rw [hu3]; exact (Below.refl _ _).alloc (Nat.le_refl _) _
          have HB3 := hbt HB2 hb3
          have HV3 : Hid (Own u3 w5.heap.size (.slice (some ⟨gV, 0, none⟩) nn cV) ln) := Lib.hid (HV2.out.below hb3)
          have H93 : Hid (u3.heap[g9]? = some (.cells #[.int .i64 0, .slice none 0 0, .slice none 0 0] 25 (0, 0))) := Lib.hid (by rw [hu3, hg9]; exact heap_alloc_new u2 _)
          have hltgVg9 : gV < g9 := by omega
          have hltg9 : g9 < u3.heap.size := by omega
          clear hb3 hu3 hg9
          refine wpAnyH_ready (rs := [3]) (by kernel_rfl) (by simp) (.cons rfl (fun K hK => ?_) .nil)
          go_simp
          refine hK.out _ _ (HKS.out _ (HB3.out.alloc HB3.out.size _)) (fun hHeld => ?_)
          clear hK K
          try simp only [Act.put, lq1, lq2, lq3, lq4, lq5, lq6]
          obtain ⟨u4, hu4⟩ : ∃ x, x = u3.alloc (.cells #[.int .u8 0] 5) := ⟨_, rfl⟩
          rw [← hu4]
          obtain ⟨gC, hgC⟩ : ∃ x, x = u3.heap.size := ⟨_, rfl⟩
          rw [← hgC]
          have hz4 : u3.heap.size < u4.heap.size := by rw [hu4]; simp
          have hgegC : w5.heap.size ≤ gC := by have := HB3.out.size; omega
          have hb4 : Below u3.heap.size u3 u4 := by rw [hu4]; exact (Below.refl _ _).alloc (Nat.le_refl _) _
          have HB4 := hbt HB3 hb4
          have H94 : Hid (u4.heap[g9]? = some (.cells #[.int .i64 0, .slice none 0 0, .slice none 0 0] 25 (0, 0))) := Lib.hid (by rw [hb4.block g9 (by omega)]; exact H93.out)
          have HV4 : Hid (Own u4 w5.heap.size (.slice (some ⟨gV, 0, none⟩) nn cV) ln) := Lib.hid (HV3.out.below hb4)
          have HC4 : Hid (u4.heap[gC]? = some (.cells #[.int .u8 0] 5 (0, 0))) := Lib.hid (by rw [hu4, hgC]; exact heap_alloc_new u3 _)
          have hltg9gC : g9 < gC := by omega
          have hltgVgC : gV < gC := by omega
          have hltgC : gC < u4.heap.size := by omega
          clear hb4 hu4 hgC
          refine wpAnyH_ready (rs := [4]) (by kernel_rfl) (by simp) (.cons rfl (fun K hK => ?_) .nil)
          refine step_at (by rfl) (.tmp 51) (.tmp 52) rfl rfl HV4.out HNN.out (m := [0]) rfl rfl (Bs.of_block HC4.out rfl) (fun e => by cases e) (by have := HLN.out; simp; omega) HB4.out.size ?_
          intro vv u5 ho hg hd
          obtain ⟨mW, hmW⟩ : ∃ x, x = (ln ++ [(0 : UInt8)]).length := ⟨_, rfl⟩
          obtain ⟨pW, cW, rfl, hsW⟩ := ho.sl hmW
          have hz5 : u4.heap.size ≤ u5.heap.size := hg.size
          have HB5 : Hid (Below w5.heap.size w5 u5) := Lib.hid (HB4.out.trans (HV4.out.below_at (Nat.le_refl _) HB4.out.size hg))
          have H95 : Hid (u5.heap[g9]? = some (.cells #[.int .i64 0, .slice none 0 0, .slice none 0 0] 25 (0, 0))) := Lib.hid (by rw [hg.block g9 (by omega) (fun e => by have := Option.some.inj e; omega)]; exact H94.out)
          have HW5 : Hid (Sl u5 pW mW cW (ln ++ [0])) := Lib.hid hsW
          clear ho hg hd hsW hmW
          refine hK.out _ _ (HKS.out _ HB5.out) (fun hHeld => ?_)
          clear hK K
          try simp only [Act.put, lq1, lq2, lq3, lq4, lq5, lq6]
          refine wpAnyH_ready (rs := [7]) (by kernel_rfl) (by simp) (.cons rfl (fun K hK => ?_) .nil)
          go_simp
          refine (HM.out _ _ _ _ _ HW5.out).mono ?_
          rintro e u6 ⟨rfl, hb6⟩
          have hz6 : u5.heap.size ≤ u6.heap.size := hb6.size
          have HB6 := hbt HB5 hb6
          have H96 : Hid (u6.heap[g9]? = some (.cells #[.int .i64 0, .slice none 0 0, .slice none 0 0] 25 (0, 0))) := Lib.hid (by rw [hb6.block g9 (by omega)]; exact H95.out)
          dsimp only
          refine hK.out _ _ (HKS.out _ HB6.out) (fun hHeld => ?_)
          clear hK K hb6
          try simp only [Act.put, lq1, lq2, lq3, lq4, lq5, lq6]
          refine wpAnyH_take (i := 8) (v := ?_) rfl (by kernel_rfl) (by kernel_rfl) (by kernel_rfl) (fun _ _ _ h => nomatch h.1) (Or.inl ⟨by rfl, ?_⟩) (by assumption) ?_
          rotate_left
          ·intro w hSw; (try dsimp only at hSw); go_simp; try with_reducible rfl
          simp only [Act.put, lq1, lq2, lq3, lq4, lq5, lq6]
          refine wpAnyH_take (i := 9) (v := ?_) rfl (by kernel_rfl) (by kernel_rfl) (by kernel_rfl) (fun _ _ _ h => nomatch h.1) (Or.inl ⟨by rfl, ?_⟩) (by assumption) ?_
          rotate_left
          ·intro w hSw; (try dsimp only at hSw); go_simp; try with_reducible rfl
          simp only [Act.put, lq1, lq2, lq3, lq4, lq5, lq6]
          refine wpAnyH_take (i := 10) (v := ?_) rfl (by kernel_rfl) (by kernel_rfl) (by kernel_rfl) (fun _ _ _ h => nomatch h.1) (Or.inl ⟨by rfl, ?_⟩) (by assumption) ?_
          rotate_left
          ·intro w hSw; (try dsimp only at hSw); go_simp; try with_reducible rfl
          simp only [Act.put, lq1, lq2, lq3, lq4, lq5, lq6]
          refine wpAnyH_ready (rs := [12]) (by kernel_rfl) (by simp) (.cons rfl (fun K hK => ?_) .nil)
          obtain ⟨z0, j0⟩ := rd_at H96.out 0
          obtain ⟨z1, j1⟩ := rd_at H96.out 1
          obtain ⟨z2, j2⟩ := rd_at H96.out 2
          simp only [List.getElem?_toArray, List.getElem?_cons_zero, List.getElem?_cons_succ] at z0 z1 z2
          have h9lt : g9 < u6.heap.size := (Array.getElem?_eq_some_iff.1 H96.out).1
          go_simp
          refine hK.out _ _ (HKS.out _ (((HB6.out.setCell (p := ⟨g9, 0, none⟩) (by omega) _).setCell (p := ⟨g9, 1, none⟩) (by omega) _).setCell (p := ⟨g9, 2, none⟩) (by omega) _)) (fun hHeld => ?_)
          clear hK K
          try simp only [Act.put, lq1, lq2, lq3, lq4, lq5, lq6]
          obtain ⟨u7, hu7⟩ : ∃ x, x = (((u6.setCell ⟨g9, 0, none⟩ (.int .i64 0)).setCell ⟨g9, 1, none⟩ (.slice none 0 0)).setCell ⟨g9, 2, none⟩ (.slice none 0 0)) := ⟨_, rfl⟩
          have HB7 : Hid (Below w5.heap.size w5 u7) := Lib.hid (by rw [hu7]; exact (((HB6.out.setCell (p := ⟨g9, 0, none⟩) (by omega) _).setCell (p := ⟨g9, 1, none⟩) (by omega) _).setCell (p := ⟨g9, 2, none⟩) (by omega) _))
          rw [← hu7]
          clear hu7
          refine wpAnyH_ready (rs := [13]) (by kernel_rfl) (by simp) (.cons rfl (fun K hK => ?_) .nil)
          go_simp
          refine hK.out _ _ (HKS.out _ HB7.out) (fun hHeld => ?_)
          clear hK K
          try simp only [Act.put, lq1, lq2, lq3, lq4, lq5, lq6]
          have HB8 := Lib.hid HB7.out
          refine wpAnyH_done (by kernel_rfl) ?_ _
          exact ⟨rfl, ⟨_, _, _, _, _, _, _, _, _, _, _, _, rfl⟩, HB8.out⟩
        ·go_simp
         refine hK.out _ _ (HKS.out _ (HB1.out.alloc HB1.out.size _)) (fun hHeld => ?_)
         clear hK K
         try simp only [Act.put, lq1, lq2, lq3, lq4, lq5, lq6]
         obtain ⟨u2, hu2⟩ : ∃ x, x = u1.alloc (.cells #[.int .u8 0] 5) := ⟨_, rfl⟩
         rw [← hu2]
         obtain ⟨gC, hgC⟩ : ∃ x, x = u1.heap.size := ⟨_, rfl⟩
         rw [← hgC]
         have hz2 : u1.heap.size < u2.heap.size := by rw [hu2]; simp
         have hgegC : w5.heap.size ≤ gC := by have := HB1.out.size; omega
         have hb2 : Below u1.heap.size u1 u2 := by rw [hu2]; exact (Below.refl _ _).alloc (Nat.le_refl _) _
         have HB2 := hbt HB1 hb2
         have HA2 : Hid (Own u2 w5.heap.size (.slice (some ⟨gA, 0, none⟩) 0 0) []) := Lib.hid (HA1.out.below hb2)
         have HC2 : Hid (u2.heap[gC]? = some (.cells #[.int .u8 0] 5 (0, 0))) := Lib.hid (by rw [hu2, hgC]; exact heap_alloc_new u1 _)
         have hltgAgC : gA < gC := by omega
         have hltgC : gC < u2.heap.size := by omega
         clear hb2 hu2 hgC
         refine wpAnyH_ready (rs := [2, 11]) (by kernel_rfl) (by simp) (.cons rfl (fun K hK => ?_) (.cons rfl (fun K hK => ?_) .nil))
         ·refine step_at (by rfl) (.tmp 49) (.tmp 50) rfl rfl HA2.out rfl HNN.out rfl (HS5.out.b.below HB2.out) HS5.out.h0 (by have := HLN.out; simp; omega) HB2.out.size ?_
          intro vv u3 ho hg hd
          rw [List.nil_append] at ho hd
          obtain ⟨gV, cV, rfl, _, _, _, hgV, _⟩ := ho.some HNN.out hn0
          have hdV : gV = gA ∨ u2.heap.size ≤ gV := hd.elim (fun h => .inl (Option.some.inj h)) (fun h => .inr (World.ownsRow.lt h gV rfl).1)
          have hz3 : u2.heap.size ≤ u3.heap.size := hg.size
          have HB3 : Hid (Below w5.heap.size w5 u3) := Lib.hid (HB2.out.trans (HA2.out.below_at (Nat.le_refl _) HB2.out.size hg))
          have HC3 : Hid (u3.heap[gC]? = some (.cells #[.int .u8 0] 5 (0, 0))) := Lib.hid (by rw [hg.block gC (by omega) (fun e => by have := Option.some.inj e; omega)]; exact HC2.out)
          have HV3 : Hid (Own u3 w5.heap.size (.slice (some ⟨gV, 0, none⟩) nn cV) ln) := Lib.hid ho
          clear ho hg hd
          refine hK.out _ _ (HKS.out _ HB3.out) (fun hHeld => ?_)
          clear hK K
          try simp only [Act.put, lq1, lq2, lq3, lq4, lq5, lq6]
          refine wpAnyH_ready (rs := [4, 11]) (by kernel_rfl) (by simp) (.cons rfl (fun K hK => ?_) (.cons rfl (fun K hK => ?_) .nil))
          ·refine step_at (by rfl) (.tmp 51) (.tmp 52) rfl rfl HV3.out HNN.out (m := [0]) rfl rfl (Bs.of_block HC3.out rfl) (fun e => by cases e) (by have := HLN.out; simp; omega) HB3.out.size ?_
           intro vv u4 ho hg hd
           obtain ⟨mW, hmW⟩ : ∃ x, x = (ln ++ [(0 : UInt8)]).length := ⟨_, rfl⟩
           obtain ⟨pW, cW, rfl, hsW⟩ := ho.sl hmW
           have hz4 : u3.heap.size ≤ u4.heap.size := hg.size
           have HB4 : Hid (Below w5.heap.size w5 u4) := Lib.hid (HB3.out.trans (HV3.out.below_at (Nat.le_refl _) HB3.out.size hg))
           have HW4 : Hid (Sl u4 pW mW cW (ln ++ [0])) := Lib.hid hsW
           clear ho hg hd hsW hmW
           refine hK.out _ _ (HKS.out _ HB4.out) (fun hHeld => ?_)
           clear hK K
           try simp only [Act.put, lq1, lq2, lq3, lq4, lq5, lq6]
           refine wpAnyH_ready (rs := [7, 11]) (by kernel_rfl) (by simp) (.cons rfl (fun K hK => ?_) (.cons rfl (fun K hK => ?_) .nil))
           ·go_simp
            refine (HM.out _ _ _ _ _ HW4.out).mono ?_
            rintro e u5 ⟨rfl, hb5⟩
            have hz5 : u4.heap.size ≤ u5.heap.size := hb5.size
            have HB5 := hbt HB4 hb5
            dsimp only
            refine hK.out _ _ (HKS.out _ HB5.out) (fun hHeld => ?_)
            clear hK K hb5
            try simp only [Act.put, lq1, lq2, lq3, lq4, lq5, lq6]
            refine wpAnyH_take (i := 8) (v := ?_) rfl (by kernel_rfl) (by kernel_rfl) (by kernel_rfl) (fun _ _ _ h => nomatch h.1) (Or.inl ⟨by rfl, ?_⟩) (by assumption) ?_
            rotate_left
            ·intro w hSw; (try dsimp only at hSw); go_simp; try with_reducible rfl
            simp only [Act.put, lq1, lq2, lq3, lq4, lq5, lq6]
            refine wpAnyH_take (i := 9) (v := ?_) rfl (by kernel_rfl) (by kernel_rfl) (by kernel_rfl) (fun _ _ _ h => nomatch h.1) (Or.inl ⟨by rfl, ?_⟩) (by assumption) ?_
            rotate_left
            ·intro w hSw; (try dsimp only at hSw); go_simp; try with_reducible rfl
            simp only [Act.put, lq1, lq2, lq3, lq4, lq5, lq6]
            refine wpAnyH_take (i := 10) (v := ?_) rfl (by kernel_rfl) (by kernel_rfl) (by kernel_rfl) (fun _ _ _ h => nomatch h.1) (Or.inl ⟨by rfl, ?_⟩) (by assumption) ?_
            rotate_left
            ·intro w hSw; (try dsimp only at hSw); go_simp; try with_reducible rfl
            simp only [Act.put, lq1, lq2, lq3, lq4, lq5, lq6]
            refine wpAnyH_ready (rs := [11]) (by kernel_rfl) (by simp) (.cons rfl (fun K hK => ?_) .nil)
            go_simp
            refine hK.out _ _ (HKS.out _ (HB5.out.alloc HB5.out.size _)) (fun hHeld => ?_)
            clear hK K
            try simp only [Act.put, lq1, lq2, lq3, lq4, lq5, lq6]
            obtain ⟨u6, hu6⟩ : ∃ x, x = u5.alloc (.cells #[.int .i64 0, .slice none 0 0, .slice none 0 0] 25) := ⟨_, rfl⟩
            rw [← hu6]
            obtain ⟨g9, hg9⟩ : ∃ x, x = u5.heap.size := ⟨_, rfl⟩
            rw [← hg9]
            have hz6 : u5.heap.size < u6.heap.size := by rw [hu6]; simp
            have hgeg9 : w5.heap.size ≤ g9 := by have := HB5.out.size; omega
            have hb6 : Below u5.heap.size u5 u6 := by rw [hu6]; exact (Below.refl _ _).alloc (Nat.le_refl _) _
            have HB6 := hbt HB5 hb6
            have H96 : Hid (u6.heap[g9]? = some (.cells #[.int .i64 0, .slice none 0 0, .slice none 0 0] 25 (0, 0))) := Lib.hid (by rw [hu6, hg9]; exact heap_alloc_new u5 _)
            have hltg9 : g9 < u6.heap.size := by omega
            clear hb6 hu6 hg9
            refine wpAnyH_ready (rs := [12]) (by kernel_rfl) (by simp) (.cons rfl (fun K hK => ?_) .nil)
            obtain ⟨z0, j0⟩ := rd_at H96.out 0
            obtain ⟨z1, j1⟩ := rd_at H96.out 1
            obtain ⟨z2, j2⟩ := rd_at H96.out 2
            simp only [List.getElem?_toArray, List.getElem?_cons_zero, List.getElem?_cons_succ] at z0 z1 z2
            have h9lt : g9 < u6.heap.size := (Array.getElem?_eq_some_iff.1 H96.out).1
            go_simp
            refine hK.out _ _ (HKS.out _ (((HB6.out.setCell (p := ⟨g9, 0, none⟩) (by omega) _).setCell (p := ⟨g9, 1, none⟩) (by omega) _).setCell (p := ⟨g9, 2, none⟩) (by omega) _)) (fun hHeld => ?_)
            clear hK K
            try simp only [Act.put, lq1, lq2, lq3, lq4, lq5, lq6]
            obtain ⟨u7, hu7⟩ : ∃ x, x = (((u6.setCell ⟨g9, 0, none⟩ (.int .i64 0)).setCell ⟨g9, 1, none⟩ (.slice none 0 0)).setCell ⟨g9, 2, none⟩ (.slice none 0 0)) := ⟨_, rfl⟩
            have HB7 : Hid (Below w5.heap.size w5 u7) := Lib.hid (by rw [hu7]; exact (((HB6.out.setCell (p := ⟨g9, 0, none⟩) (by omega) _).setCell (p := ⟨g9, 1, none⟩) (by omega) _).setCell (p := ⟨g9, 2, none⟩) (by omega) _))
            rw [← hu7]
            clear hu7
            refine wpAnyH_ready (rs := [13]) (by kernel_rfl) (by simp) (.cons rfl (fun K hK => ?_) .nil)
            go_simp
            refine hK.out _ _ (HKS.out _ HB7.out) (fun hHeld => ?_)
            clear hK K
            try simp only [Act.put, lq1, lq2, lq3, lq4, lq5, lq6]
            have HB8 := Lib.hid HB7.out
            refine wpAnyH_done (by kernel_rfl) ?_ _
            exact ⟨rfl, ⟨_, _, _, _, _, _, _, _, _, _, _, _, rfl⟩, HB8.out⟩
           ·go_simp
            refine hK.out _ _ (HKS.out _ (HB4.out.alloc HB4.out.size _)) (fun hHeld => ?_)
            clear hK K
            try simp only [Act.put, lq1, lq2, lq3, lq4, lq5, lq6]
            obtain ⟨u5, hu5⟩ : ∃ x, x = u4.alloc (.cells #[.int .i64 0, .slice none 0 0, .slice none 0 0] 25) := ⟨_, rfl⟩
            rw [← hu5]
            obtain ⟨g9, hg9⟩ : ∃ x, x = u4.heap.size := ⟨_, rfl⟩
            rw [← hg9]
            have hz5 : u4.heap.size < u5.heap.size := by rw [hu5]; simp
            have hgeg9 : w5.heap.size ≤ g9 := by have := HB4.out.size; omega
            have hb5 : Below u4.heap.size u4 u5 := by rw [hu5]; exact (Below.refl _ _).alloc (Nat.le_refl _) _
            have HB5 := hbt HB4 hb5
            have HW5 : Hid (Sl u5 pW mW cW (ln ++ [0])) := Lib.hid (HW4.out.below hb5)
            have H95 : Hid (u5.heap[g9]? = some (.cells #[.int .i64 0, .slice none 0 0, .slice none 0 0] 25 (0, 0))) := Lib.hid (by rw [hu5, hg9]; exact heap_alloc_new u4 _)
            have hltg9 : g9 < u5.heap.size := by omega
            clear hb5 hu5 hg9
            refine wpAnyH_ready (rs := [7]) (by kernel_rfl) (by simp) (.cons rfl (fun K hK => ?_) .nil)
            go_simp
            refine (HM.out _ _ _ _ _ HW5.out).mono ?_
            rintro e u6 ⟨rfl, hb6⟩
            have hz6 : u5.heap.size ≤ u6.heap.size := hb6.size
            have HB6 := hbt HB5 hb6
            have H96 : Hid (u6.heap[g9]? = some (.cells #[.int .i64 0, .slice none 0 0, .slice none 0 0] 25 (0, 0))) := Lib.hid (by rw [hb6.block g9 (by omega)]; exact H95.out)
            dsimp only
            refine hK.out _ _ (HKS.out _ HB6.out) (fun hHeld => ?_)
            clear hK K hb6
            try simp only [Act.put, lq1, lq2, lq3, lq4, lq5, lq6]
            refine wpAnyH_take (i := 8) (v := ?_) rfl (by kernel_rfl) (by kernel_rfl) (by kernel_rfl) (fun _ _ _ h => nomatch h.1) (Or.inl ⟨by rfl, ?_⟩) (by assumption) ?_
            rotate_left
            ·intro w hSw; (try dsimp only at hSw); go_simp; try with_reducible rfl
            simp only [Act.put, lq1, lq2, lq3, lq4, lq5, lq6]
            refine wpAnyH_take (i := 9) (v := ?_) rfl (by kernel_rfl) (by kernel_rfl) (by kernel_rfl) (fun _ _ _ h => nomatch h.1) (Or.inl ⟨by rfl, ?_⟩) (by assumption) ?_
            rotate_left
            ·intro w hSw; (try dsimp only at hSw); go_simp; try with_reducible rfl
            simp only [Act.put, lq1, lq2, lq3, lq4, lq5, lq6]
            refine wpAnyH_take (i := 10) (v := ?_) rfl (by kernel_rfl) (by kernel_rfl) (by kernel_rfl) (fun _ _ _ h => nomatch h.1) (Or.inl ⟨by rfl, ?_⟩) (by assumption) ?_
            rotate_left
            ·intro w hSw; (try dsimp only at hSw); go_simp; try with_reducible rfl
            simp only [Act.put, lq1, lq2, lq3, lq4, lq5, lq6]
            refine wpAnyH_ready (rs := [12]) (by kernel_rfl) (by simp) (.cons rfl (fun K hK => ?_) .nil)
            obtain ⟨z0, j0⟩ := rd_at H96.out 0
            obtain ⟨z1, j1⟩ := rd_at H96.out 1
            obtain ⟨z2, j2⟩ := rd_at H96.out 2
            simp only [List.getElem?_toArray, List.getElem?_cons_zero, List.getElem?_cons_succ] at z0 z1 z2
            have h9lt : g9 < u6.heap.size := (Array.getElem?_eq_some_iff.1 H96.out).1
            go_simp
            refine hK.out _ _ (HKS.out _ (((HB6.out.setCell (p := ⟨g9, 0, none⟩) (by omega) _).setCell (p := ⟨g9, 1, none⟩) (by omega) _).setCell (p := ⟨g9, 2, none⟩) (by omega) _)) (fun hHeld => ?_)
            clear hK K
            try simp only [Act.put, lq1, lq2, lq3, lq4, lq5, lq6]
            obtain ⟨u7, hu7⟩ : ∃ x, x = (((u6.setCell ⟨g9, 0, none⟩ (.int .i64 0)).setCell ⟨g9, 1, none⟩ (.slice none 0 0)).setCell ⟨g9, 2, none⟩ (.slice none 0 0)) := ⟨_, rfl⟩
            have HB7 : Hid (Below w5.heap.size w5 u7) := Lib.hid (by rw [hu7]; exact (((HB6.out.setCell (p := ⟨g9, 0, none⟩) (by omega) _).setCell (p := ⟨g9, 1, none⟩) (by omega) _).setCell (p := ⟨g9, 2, none⟩) (by omega) _))
            rw [← hu7]
            clear hu7
            refine wpAnyH_ready (rs := [13]) (by kernel_rfl) (by simp) (.cons rfl (fun K hK => ?_) .nil)
            go_simp
            refine hK.out _ _ (HKS.out _ HB7.out) (fun hHeld => ?_)
            clear hK K
            try simp only [Act.put, lq1, lq2, lq3, lq4, lq5, lq6]
            have HB8 := Lib.hid HB7.out
            refine wpAnyH_done (by kernel_rfl) ?_ _
            exact ⟨rfl, ⟨_, _, _, _, _, _, _, _, _, _, _, _, rfl⟩, HB8.out⟩
          ·go_simp
           refine hK.out _ _ (HKS.out _ (HB3.out.alloc HB3.out.size _)) (fun hHeld => ?_)
           clear hK K
           try simp only [Act.put, lq1, lq2, lq3, lq4, lq5, lq6]
           obtain ⟨u4, hu4⟩ : ∃ x, x = u3.alloc (.cells #[.int .i64 0, .slice none 0 0, .slice none 0 0] 25) := ⟨_, rfl⟩
           rw [← hu4]
           obtain ⟨g9, hg9⟩ : ∃ x, x = u3.heap.size := ⟨_, rfl⟩
           rw [← hg9]
           have hz4 : u3.heap.size < u4.heap.size := by rw [hu4]; simp
           have hgeg9 : w5.heap.size ≤ g9 := by have := HB3.out.size; omega
           have hb4 : Below u3.heap.size u3 u4 := by rw [hu4]; exact (Below.refl _ _).alloc (Nat.le_refl _) _
           have HB4 := hbt HB3 hb4
           have HC4 : Hid (u4.heap[gC]? = some (.cells #[.int .u8 0] 5 (0, 0))) := Lib.hid (by rw [hb4.block gC (by omega)]; exact HC3.out)
           have HV4 : Hid (Own u4 w5.heap.size (.slice (some ⟨gV, 0, none⟩) nn cV) ln) := Lib.hid (HV3.out.below hb4)
           have H94 : Hid (u4.heap[g9]? = some (.cells #[.int .i64 0, .slice none 0 0, .slice none 0 0] 25 (0, 0))) := Lib.hid (by rw [hu4, hg9]; exact heap_alloc_new u3 _)
           have hltgCg9 : gC < g9 := by omega
           have hltgVg9 : gV < g9 := by omega
           have hltg9 : g9 < u4.heap.size := by omega
           clear hb4 hu4 hg9
           refine wpAnyH_ready (rs := [4]) (by kernel_rfl) (by simp) (.cons rfl (fun K hK => ?_) .nil)
           refine step_at (by rfl) (.tmp 51) (.tmp 52) rfl rfl HV4.out HNN.out (m := [0]) rfl rfl (Bs.of_block HC4.out rfl) (fun e => by cases e) (by have := HLN.out; simp; omega) HB4.out.size ?_
           intro vv u5 ho hg hd
           obtain ⟨mW, hmW⟩ : ∃ x, x = (ln ++ [(0 : UInt8)]).length := ⟨_, rfl⟩
           obtain ⟨pW, cW, rfl, hsW⟩ := ho.sl hmW
           have hz5 : u4.heap.size ≤ u5.heap.size := hg.size
           have HB5 : Hid (Below w5.heap.size w5 u5) := Lib.hid (HB4.out.trans (HV4.out.below_at (Nat.le_refl _) HB4.out.size hg))
           have H95 : Hid (u5.heap[g9]? = some (.cells #[.int .i64 0, .slice none 0 0, .slice none 0 0] 25 (0, 0))) := Lib.hid (by rw [hg.block g9 (by omega) (fun e => by have := Option.some.inj e; omega)]; exact H94.out)
           have HW5 : Hid (Sl u5 pW mW cW (ln ++ [0])) := Lib.hid hsW
           clear ho hg hd hsW hmW
           refine hK.out _ _ (HKS.out _ HB5.out) (fun hHeld => ?_)
           clear hK K
           try simp only [Act.put, lq1, lq2, lq3, lq4, lq5, lq6]
           refine wpAnyH_ready (rs := [7]) (by kernel_rfl) (by simp) (.cons rfl (fun K hK => ?_) .nil)
           go_simp
           refine (HM.out _ _ _ _ _ HW5.out).mono ?_
           rintro e u6 ⟨rfl, hb6⟩
           have hz6 : u5.heap.size ≤ u6.heap.size := hb6.size
           have HB6 := hbt HB5 hb6
           have H96 : Hid (u6.heap[g9]? = some (.cells #[.int .i64 0, .slice none 0 0, .slice none 0 0] 25 (0, 0))) := Lib.hid (by rw [hb6.block g9 (by omega)]; exact H95.out)
           dsimp only
           refine hK.out _ _ (HKS.out _ HB6.out) (fun hHeld => ?_)
           clear hK K hb6
           try simp only [Act.put, lq1, lq2, lq3, lq4, lq5, lq6]
           refine wpAnyH_take (i := 8) (v := ?_) rfl (by kernel_rfl) (by kernel_rfl) (by kernel_rfl) (fun _ _ _ h => nomatch h.1) (Or.inl ⟨by rfl, ?_⟩) (by assumption) ?_
           rotate_left
           ·intro w hSw; (try dsimp only at hSw); go_simp; try with_reducible rfl
           simp only [Act.put, lq1, lq2, lq3, lq4, lq5, lq6]
           refine wpAnyH_take (i := 9) (v := ?_) rfl (by kernel_rfl) (by kernel_rfl) (by kernel_rfl) (fun _ _ _ h => nomatch h.1) (Or.inl ⟨by rfl, ?_⟩) (by assumption) ?_
           rotate_left
           ·intro w hSw; (try dsimp only at hSw); go_simp; try with_reducible rfl
           simp only [Act.put, lq1, lq2, lq3, lq4, lq5, lq6]
           refine wpAnyH_take (i := 10) (v := ?_) rfl (by kernel_rfl) (by kernel_rfl) (by kernel_rfl) (fun _ _ _ h => nomatch h.1) (Or.inl ⟨by rfl, ?_⟩) (by assumption) ?_
           rotate_left
           ·intro w hSw; (try dsimp only at hSw); go_simp; try with_reducible rfl
           simp only [Act.put, lq1, lq2, lq3, lq4, lq5, lq6]
           refine wpAnyH_ready (rs := [12]) (by kernel_rfl) (by simp) (.cons rfl (fun K hK => ?_) .nil)
           obtain ⟨z0, j0⟩ := rd_at H96.out 0
           obtain ⟨z1, j1⟩ := rd_at H96.out 1
           obtain ⟨z2, j2⟩ := rd_at H96.out 2
           simp only [List.getElem?_toArray, List.getElem?_cons_zero, List.getElem?_cons_succ] at z0 z1 z2
           have h9lt : g9 < u6.heap.size := (Array.getElem?_eq_some_iff.1 H96.out).1
           go_simp
           refine hK.out _ _ (HKS.out _ (((HB6.out.setCell (p := ⟨g9, 0, none⟩) (by omega) _).setCell (p := ⟨g9, 1, none⟩) (by omega) _).setCell (p := ⟨g9, 2, none⟩) (by omega) _)) (fun hHeld => ?_)
           clear hK K
           try simp only [Act.put, lq1, lq2, lq3, lq4, lq5, lq6]
           obtain ⟨u7, hu7⟩ : ∃ x, x = (((u6.setCell ⟨g9, 0, none⟩ (.int .i64 0)).setCell ⟨g9, 1, none⟩ (.slice none 0 0)).setCell ⟨g9, 2, none⟩ (.slice none 0 0)) := ⟨_, rfl⟩
           have HB7 : Hid (Below w5.heap.size w5 u7) := Lib.hid (by rw [hu7]; exact (((HB6.out.setCell (p := ⟨g9, 0, none⟩) (by omega) _).setCell (p := ⟨g9, 1, none⟩) (by omega) _).setCell (p := ⟨g9, 2, none⟩) (by omega) _))
           rw [← hu7]
           clear hu7
           refine wpAnyH_ready (rs := [13]) (by kernel_rfl) (by simp) (.cons rfl (fun K hK => ?_) .nil)
           go_simp
           refine hK.out _ _ (HKS.out _ HB7.out) (fun hHeld => ?_)
           clear hK K
           try simp only [Act.put, lq1, lq2, lq3, lq4, lq5, lq6]
           have HB8 := Lib.hid HB7.out
           refine wpAnyH_done (by kernel_rfl) ?_ _
           exact ⟨rfl, ⟨_, _, _, _, _, _, _, _, _, _, _, _, rfl⟩, HB8.out⟩
         ·go_simp
          refine hK.out _ _ (HKS.out _ (HB2.out.alloc HB2.out.size _)) (fun hHeld => ?_)
          clear hK K
          try simp only [Act.put, lq1, lq2, lq3, lq4, lq5, lq6]
          obtain ⟨u3, hu3⟩ : ∃ x, x = u2.alloc (.cells #[.int .i64 0, .slice none 0 0, .slice none 0 0] 25) := ⟨_, rfl⟩
          rw [← hu3]
          obtain ⟨g9, hg9⟩ : ∃ x, x = u2.heap.size := ⟨_, rfl⟩
          rw [← hg9]
          have hz3 : u2.heap.size < u3.heap.size := by rw [hu3]; simp
          have hgeg9 : w5.heap.size ≤ g9 := by have := HB2.out.size; omega
          have hb3 : Below u2.heap.size u2 u3 := by rw [hu3]; exact (Below.refl _ _).alloc (Nat.le_refl _) _
          have HB3 := hbt HB2 hb3
          have HA3 : Hid (Own u3 w5.heap.size (.slice (some ⟨gA, 0, none⟩) 0 0) []) := Lib.hid (HA2.out.below hb3)
          have HC3 : Hid (u3.heap[gC]? = some (.cells #[.int .u8 0] 5 (0, 0))) := Lib.hid (by rw [hb3.block gC (by omega)]; exact HC2.out)
          have H93 : Hid (u3.heap[g9]? = some (.cells #[.int .i64 0, .slice none 0 0, .slice none 0 0] 25 (0, 0))) := Lib.hid (by rw [hu3, hg9]; exact heap_alloc_new u2 _)
          have hltgAg9 : gA < g9 := by omega
          have hltgCg9 : gC < g9 := by omega
          have hltg9 : g9 < u3.heap.size := by omega
          clear hb3 hu3 hg9
          refine wpAnyH_ready (rs := [2]) (by kernel_rfl) (by simp) (.cons rfl (fun K hK => ?_) .nil)
          refine step_at (by rfl) (.tmp 49) (.tmp 50) rfl rfl HA3.out rfl HNN.out rfl (HS5.out.b.below HB3.out) HS5.out.h0 (by have := HLN.out; simp; omega) HB3.out.size ?_
          intro vv u4 ho hg hd
          rw [List.nil_append] at ho hd
          obtain ⟨gV, cV, rfl, _, _, _, hgV, _⟩ := ho.some HNN.out hn0
          have hdV : gV = gA ∨ u3.heap.size ≤ gV := hd.elim (fun h => .inl (Option.some.inj h)) (fun h => .inr (World.ownsRow.lt h gV rfl).1)
          have hz4 : u3.heap.size ≤ u4.heap.size := hg.size
          have HB4 : Hid (Below w5.heap.size w5 u4) := Lib.hid (HB3.out.trans (HA3.out.below_at (Nat.le_refl _) HB3.out.size hg))
          have H94 : Hid (u4.heap[g9]? = some (.cells #[.int .i64 0, .slice none 0 0, .slice none 0 0] 25 (0, 0))) := Lib.hid (by rw [hg.block g9 (by omega) (fun e => by have := Option.some.inj e; omega)]; exact H93.out)
          have HC4 : Hid (u4.heap[gC]? = some (.cells #[.int .u8 0] 5 (0, 0))) := Lib.hid (by rw [hg.block gC (by omega) (fun e => by have := Option.some.inj e; omega)]; exact HC3.out)
          have HV4 : Hid (Own u4 w5.heap.size (.slice (some ⟨gV, 0, none⟩) nn cV) ln) := Lib.hid ho
          clear ho hg hd
          refine hK.out _ _ (HKS.out _ HB4.out) (fun hHeld => ?_)
          clear hK K
          try simp only [Act.put, lq1, lq2, lq3, lq4, lq5, lq6]
          refine wpAnyH_ready (rs := [4]) (by kernel_rfl) (by simp) (.cons rfl (fun K hK => ?_) .nil)
          refine step_at (by rfl) (.tmp 51) (.tmp 52) rfl rfl HV4.out HNN.out (m := [0]) rfl rfl (Bs.of_block HC4.out rfl) (fun e => by cases e) (by have := HLN.out; simp; omega) HB4.out.size ?_
          intro vv u5 ho hg hd
          obtain ⟨mW, hmW⟩ : ∃ x, x = (ln ++ [(0 : UInt8)]).length := ⟨_, rfl⟩
          obtain ⟨pW, cW, rfl, hsW⟩ := ho.sl hmW
          have hz5 : u4.heap.size ≤ u5.heap.size := hg.size
          have HB5 : Hid (Below w5.heap.size w5 u5) := Lib.hid (HB4.out.trans (HV4.out.below_at (Nat.le_refl _) HB4.out.size hg))
          have H95 : Hid (u5.heap[g9]? = some (.cells #[.int .i64 0, .slice none 0 0, .slice none 0 0] 25 (0, 0))) := Lib.hid (by rw [hg.block g9 (by omega) (fun e => by have := Option.some.inj e; omega)]; exact H94.out)
          have HW5 : Hid (Sl u5 pW mW cW (ln ++ [0])) := Lib.hid hsW
          clear ho hg hd hsW hmW
          refine hK.out _ _ (HKS.out _ HB5.out) (fun hHeld => ?_)
          clear hK K
          try simp only [Act.put, lq1, lq2, lq3, lq4, lq5, lq6]
          refine wpAnyH_ready (rs := [7]) (by kernel_rfl) (by simp) (.cons rfl (fun K hK => ?_) .nil)
          go_simp
          refine (HM.out _ _ _ _ _ HW5.out).mono ?_
          rintro e u6 ⟨rfl, hb6⟩
          have hz6 : u5.heap.size ≤ u6.heap.size := hb6.size
          have HB6 := hbt HB5 hb6
          have H96 : Hid (u6.heap[g9]? = some (.cells #[.int .i64 0, .slice none 0 0, .slice none 0 0] 25 (0, 0))) := Lib.hid (by rw [hb6.block g9 (by omega)]; exact H95.out)
          dsimp only
          refine hK.out _ _ (HKS.out _ HB6.out) (fun hHeld => ?_)
          clear hK K hb6
          try simp only [Act.put, lq1, lq2, lq3, lq4, lq5, lq6]
          refine wpAnyH_take (i := 8) (v := ?_) rfl (by kernel_rfl) (by kernel_rfl) (by kernel_rfl) (fun _ _ _ h => nomatch h.1) (Or.inl ⟨by rfl, ?_⟩) (by assumption) ?_
          rotate_left
          ·intro w hSw; (try dsimp only at hSw); go_simp; try with_reducible rfl
          simp only [Act.put, lq1, lq2, lq3, lq4, lq5, lq6]
          refine wpAnyH_take (i := 9) (v := ?_) rfl (by kernel_rfl) (by kernel_rfl) (by kernel_rfl) (fun _ _ _ h => nomatch h.1) (Or.inl ⟨by rfl, ?_⟩) (by assumption) ?_
          rotate_left
          ·intro w hSw; (try dsimp only at hSw); go_simp; try with_reducible rfl
          simp only [Act.put, lq1, lq2, lq3, lq4, lq5, lq6]
          refine wpAnyH_take (i := 10) (v := ?_) rfl (by kernel_rfl) (by kernel_rfl) (by kernel_rfl) (fun _ _ _ h => nomatch h.1) (Or.inl ⟨by rfl, ?_⟩) (by assumption) ?_
          rotate_left
          ·intro w hSw; (try dsimp only at hSw); go_simp; try with_reducible rfl
          simp only [Act.put, lq1, lq2, lq3, lq4, lq5, lq6]
          refine wpAnyH_ready (rs := [12]) (by kernel_rfl) (by simp) (.cons rfl (fun K hK => ?_) .nil)
          obtain ⟨z0, j0⟩ := rd_at H96.out 0
          obtain ⟨z1, j1⟩ := rd_at H96.out 1
          obtain ⟨z2, j2⟩ := rd_at H96.out 2
          simp only [List.getElem?_toArray, List.getElem?_cons_zero, List.getElem?_cons_succ] at z0 z1 z2
          have h9lt : g9 < u6.heap.size := (Array.getElem?_eq_some_iff.1 H96.out).1
          go_simp
          refine hK.out _ _ (HKS.out _ (((HB6.out.setCell (p := ⟨g9, 0, none⟩) (by omega) _).setCell (p := ⟨g9, 1, none⟩) (by omega) _).setCell (p := ⟨g9, 2, none⟩) (by omega) _)) (fun hHeld => ?_)
          clear hK K
          try simp only [Act.put, lq1, lq2, lq3, lq4, lq5, lq6]
          obtain ⟨u7, hu7⟩ : ∃ x, x = (((u6.setCell ⟨g9, 0, none⟩ (.int .i64 0)).setCell ⟨g9, 1, none⟩ (.slice none 0 0)).setCell ⟨g9, 2, none⟩ (.slice none 0 0)) := ⟨_, rfl⟩
          have HB7 : Hid (Below w5.heap.size w5 u7) := Lib.hid (by rw [hu7]; exact (((HB6.out.setCell (p := ⟨g9, 0, none⟩) (by omega) _).setCell (p := ⟨g9, 1, none⟩) (by omega) _).setCell (p := ⟨g9, 2, none⟩) (by omega) _))
          rw [← hu7]
          clear hu7
          refine wpAnyH_ready (rs := [13]) (by kernel_rfl) (by simp) (.cons rfl (fun K hK => ?_) .nil)
          go_simp
          refine hK.out _ _ (HKS.out _ HB7.out) (fun hHeld => ?_)
          clear hK K
          try simp only [Act.put, lq1, lq2, lq3, lq4, lq5, lq6]
          have HB8 := Lib.hid HB7.out
          refine wpAnyH_done (by kernel_rfl) ?_ _
          exact ⟨rfl, ⟨_, _, _, _, _, _, _, _, _, _, _, _, rfl⟩, HB8.out⟩
        ·go_simp
         refine hK.out _ _ (HKS.out _ (HB1.out.alloc HB1.out.size _)) (fun hHeld => ?_)
         clear hK K
         try simp only [Act.put, lq1, lq2, lq3, lq4, lq5, lq6]
         obtain ⟨u2, hu2⟩ : ∃ x, x = u1.alloc (.cells #[.int .i64 0, .slice none 0 0, .slice none 0 0] 25) := ⟨_, rfl⟩
         rw [← hu2]
         obtain ⟨g9, hg9⟩ : ∃ x, x = u1.heap.size := ⟨_, rfl⟩
         rw [← hg9]
         have hz2 : u1.heap.size < u2.heap.size := by rw [hu2]; simp
         have hgeg9 : w5.heap.size ≤ g9 := by have := HB1.out.size; omega
         have hb2 : Below u1.heap.size u1 u2 := by rw [hu2]; exact (Below.refl _ _).alloc (Nat.le_refl _) _
         have HB2 := hbt HB1 hb2
         have HA2 : Hid (Own u2 w5.heap.size (.slice (some ⟨gA, 0, none⟩) 0 0) []) := Lib.hid (HA1.out.below hb2)
         have H92 : Hid (u2.heap[g9]? = some (.cells #[.int .i64 0, .slice none 0 0, .slice none 0 0] 25 (0, 0))) := Lib.hid (by rw [hu2, hg9]; exact heap_alloc_new u1 _)
         have hltgAg9 : gA < g9 := by omega
         have hltg9 : g9 < u2.heap.size := by omega
         clear hb2 hu2 hg9
         refine wpAnyH_ready (rs := [2, 3]) (by kernel_rfl) (by simp) (.cons rfl (fun K hK => ?_) (.cons rfl (fun K hK => ?_) .nil))
         ·refine step_at (by rfl) (.tmp 49) (.tmp 50) rfl rfl HA2.out rfl HNN.out rfl (HS5.out.b.below HB2.out) HS5.out.h0 (by have := HLN.out; simp; omega) HB2.out.size ?_
          intro vv u3 ho hg hd
          rw [List.nil_append] at ho hd
          obtain ⟨gV, cV, rfl, _, _, _, hgV, _⟩ := ho.some HNN.out hn0
          have hdV : gV = gA ∨ u2.heap.size ≤ gV := hd.elim (fun h => .inl (Option.some.inj h)) (fun h => .inr (World.ownsRow.lt h gV rfl).1)
          have hz3 : u2.heap.size ≤ u3.heap.size := hg.size
          have HB3 : Hid (Below w5.heap.size w5 u3) := Lib.hid (HB2.out.trans (HA2.out.below_at (Nat.le_refl _) HB2.out.size hg))
          have H93 : Hid (u3.heap[g9]? = some (.cells #[.int .i64 0, .slice none 0 0, .slice none 0 0] 25 (0, 0))) := Lib.hid (by rw [hg.block g9 (by omega) (fun e => by have := Option.some.inj e; omega)]; exact H92.out)
          have HV3 : Hid (Own u3 w5.heap.size (.slice (some ⟨gV, 0, none⟩) nn cV) ln) := Lib.hid ho
          clear ho hg hd
          refine hK.out _ _ (HKS.out _ HB3.out) (fun hHeld => ?_)
          clear hK K
          try simp only [Act.put, lq1, lq2, lq3, lq4, lq5, lq6]
          refine wpAnyH_ready (rs := [3]) (by kernel_rfl) (by simp) (.cons rfl (fun K hK => ?_) .nil)
          go_simp
          refine hK.out _ _ (HKS.out _ (HB3.out.alloc HB3.out.size _)) (fun hHeld => ?_)
          clear hK K
          try simp only [Act.put, lq1, lq2, lq3, lq4, lq5, lq6]
          obtain ⟨u4, hu4⟩ : ∃ x, x = u3.alloc (.cells #[.int .u8 0] 5) := ⟨_, rfl⟩
          rw [← hu4]
          obtain ⟨gC, hgC⟩ : ∃ x, x = u3.heap.size := ⟨_, rfl⟩
          rw [← hgC]
          have hz4 : u3.heap.size < u4.heap.size := by rw [hu4]; simp
          have hgegC : w5.heap.size ≤ gC := by have := HB3.out.size; omega
          have hb4 : Below u3.heap.size u3 u4 := by rw [hu4]; exact (Below.refl _ _).alloc (Nat.le_refl _) _
          have HB4 := hbt HB3 hb4
          have H94 : Hid (u4.heap[g9]? = some (.cells #[.int .i64 0, .slice none 0 0, .slice none 0 0] 25 (0, 0))) := Lib.hid (by rw [hb4.block g9 (by omega)]; exact H93.out)
          have HV4 : Hid (Own u4 w5.heap.size (.slice (some ⟨gV, 0, none⟩) nn cV) ln) := Lib.hid (HV3.out.below hb4)
          have HC4 : Hid (u4.heap[gC]? = some (.cells #[.int .u8 0] 5 (0, 0))) := Lib.hid (by rw [hu4, hgC]; exact heap_alloc_new u3 _)
          have hltg9gC : g9 < gC := by omega
          have hltgVgC : gV < gC := by omega
          have hltgC : gC < u4.heap.size := by omega
          clear hb4 hu4 hgC
          refine wpAnyH_ready (rs := [4]) (by kernel_rfl) (by simp) (.cons rfl (fun K hK => ?_) .nil)
          refine step_at (by rfl) (.tmp 51) (.tmp 52) rfl rfl HV4.out HNN.out (m := [0]) rfl rfl (Bs.of_block HC4.out rfl) (fun e => by cases e) (by have := HLN.out; simp; omega) HB4.out.size ?_
          intro vv u5 ho hg hd
          obtain ⟨mW, hmW⟩ : ∃ x, x = (ln ++ [(0 : UInt8)]).length := ⟨_, rfl⟩
          obtain ⟨pW, cW, rfl, hsW⟩ := ho.sl hmW
          have hz5 : u4.heap.size ≤ u5.heap.size := hg.size
          have HB5 : Hid (Below w5.heap.size w5 u5) := Lib.hid (HB4.out.trans (HV4.out.below_at (Nat.le_refl _) HB4.out.size hg))
          have H95 : Hid (u5.heap[g9]? = some (.cells #[.int .i64 0, .slice none 0 0, .slice none 0 0] 25 (0, 0))) := Lib.hid (by rw [hg.block g9 (by omega) (fun e => by have := Option.some.inj e; omega)]; exact H94.out)
          have HW5 : Hid (Sl u5 pW mW cW (ln ++ [0])) := Lib.hid hsW
          clear ho hg hd hsW hmW
          refine hK.out _ _ (HKS.out _ HB5.out) (fun hHeld => ?_)
          clear hK K
          try simp only [Act.put, lq1, lq2, lq3, lq4, lq5, lq6]
          refine wpAnyH_ready (rs := [7]) (by kernel_rfl) (by simp) (.cons rfl (fun K hK => ?_) .nil)
          go_simp
          refine (HM.out _ _ _ _ _ HW5.out).mono ?_
          rintro e u6 ⟨rfl, hb6⟩
          have hz6 : u5.heap.size ≤ u6.heap.size := hb6.size
          have HB6 := hbt HB5 hb6
          have H96 : Hid (u6.heap[g9]? = some (.cells #[.int .i64 0, .slice none 0 0, .slice none 0 0] 25 (0, 0))) := Lib.hid (by rw [hb6.block g9 (by omega)]; exact H95.out)
          dsimp only
          refine hK.out _ _ (HKS.out _ HB6.out) (fun hHeld => ?_)
          clear hK K hb6
          try simp only [Act.put, lq1, lq2, lq3, lq4, lq5, lq6]
          refine wpAnyH_take (i := 8) (v := ?_) rfl (by kernel_rfl) (by kernel_rfl) (by kernel_rfl) (fun _ _ _ h => nomatch h.1) (Or.inl ⟨by rfl, ?_⟩) (by assumption) ?_
          rotate_left
          ·intro w hSw; (try dsimp only at hSw); go_simp; try with_reducible rfl
          simp only [Act.put, lq1, lq2, lq3, lq4, lq5, lq6]
          refine wpAnyH_take (i := 9) (v := ?_) rfl (by kernel_rfl) (by kernel_rfl) (by kernel_rfl) (fun _ _ _ h => nomatch h.1) (Or.inl ⟨by rfl, ?_⟩) (by assumption) ?_
          rotate_left
          ·intro w hSw; (try dsimp only at hSw); go_simp; try with_reducible rfl
          simp only [Act.put, lq1, lq2, lq3, lq4, lq5, lq6]
          refine wpAnyH_take (i := 10) (v := ?_) rfl (by kernel_rfl) (by kernel_rfl) (by kernel_rfl) (fun _ _ _ h => nomatch h.1) (Or.inl ⟨by rfl, ?_⟩) (by assumption) ?_
          rotate_left
          ·intro w hSw; (try dsimp only at hSw); go_simp; try with_reducible rfl
          simp only [Act.put, lq1, lq2, lq3, lq4, lq5, lq6]
          refine wpAnyH_ready (rs := [12]) (by kernel_rfl) (by simp) (.cons rfl (fun K hK => ?_) .nil)
          obtain ⟨z0, j0⟩ := rd_at H96.out 0
          obtain ⟨z1, j1⟩ := rd_at H96.out 1
          obtain ⟨z2, j2⟩ := rd_at H96.out 2
          simp only [List.getElem?_toArray, List.getElem?_cons_zero, List.getElem?_cons_succ] at z0 z1 z2
          have h9lt : g9 < u6.heap.size := (Array.getElem?_eq_some_iff.1 H96.out).1
          go_simp
          refine hK.out _ _ (HKS.out _ (((HB6.out.setCell (p := ⟨g9, 0, none⟩) (by omega) _).setCell (p := ⟨g9, 1, none⟩) (by omega) _).setCell (p := ⟨g9, 2, none⟩) (by omega) _)) (fun hHeld => ?_)
          clear hK K
          try simp only [Act.put, lq1, lq2, lq3, lq4, lq5, lq6]
          obtain ⟨u7, hu7⟩ : ∃ x, x = (((u6.setCell ⟨g9, 0, none⟩ (.int .i64 0)).setCell ⟨g9, 1, none⟩ (.slice none 0 0)).setCell ⟨g9, 2, none⟩ (.slice none 0 0)) := ⟨_, rfl⟩
          have HB7 : Hid (Below w5.heap.size w5 u7) := Lib.hid (by rw [hu7]; exact (((HB6.out.setCell (p := ⟨g9, 0, none⟩) (by omega) _).setCell (p := ⟨g9, 1, none⟩) (by omega) _).setCell (p := ⟨g9, 2, none⟩) (by omega) _))
          rw [← hu7]
          clear hu7
          refine wpAnyH_ready (rs := [13]) (by kernel_rfl) (by simp) (.cons rfl (fun K hK => ?_) .nil)
          go_simp
          refine hK.out _ _ (HKS.out _ HB7.out) (fun hHeld => ?_)
          clear hK K
          try simp only [Act.put, lq1, lq2, lq3, lq4, lq5, lq6]
          have HB8 := Lib.hid HB7.out
          refine wpAnyH_done (by kernel_rfl) ?_ _
          exact ⟨rfl, ⟨_, _, _, _, _, _, _, _, _, _, _, _, rfl⟩, HB8.out⟩
         ·go_simp
          refine hK.out _ _ (HKS.out _ (HB2.out.alloc HB2.out.size _)) (fun hHeld => ?_)
          clear hK K
          try simp only [Act.put, lq1, lq2, lq3, lq4, lq5, lq6]
          obtain ⟨u3, hu3⟩ : ∃ x, x = u2.alloc (.cells #[.int .u8 0] 5) := ⟨_, rfl⟩
          rw [← hu3]
          obtain ⟨gC, hgC⟩ : ∃ x, x = u2.heap.size := ⟨_, rfl⟩
          rw [← hgC]
          have hz3 : u2.heap.size < u3.heap.size := by rw [hu3]; simp
          have hgegC : w5.heap.size ≤ gC := by have := HB2.out.size; omega
          have hb3 : Below u2.heap.size u2 u3 := by rw [hu3]; exact (Below.refl _ _).alloc (Nat.le_refl _) _
          have HB3 := hbt HB2 hb3
          have H93 : Hid (u3.heap[g9]? = some (.cells #[.int .i64 0, .slice none 0 0, .slice none 0 0] 25 (0, 0))) := Lib.hid (by rw [hb3.block g9 (by omega)]; exact H92.out)
          have HA3 : Hid (Own u3 w5.heap.size (.slice (some ⟨gA, 0, none⟩) 0 0) []) := Lib.hid (HA2.out.below hb3)
          have HC3 : Hid (u3.heap[gC]? = some (.cells #[.int .u8 0] 5 (0, 0))) := Lib.hid (by rw [hu3, hgC]; exact heap_alloc_new u2 _)
          have hltg9gC : g9 < gC := by omega
          have hltgAgC : gA < gC := by omega
          have hltgC : gC < u3.heap.size := by omega
          clear hb3 hu3 hgC
          refine wpAnyH_ready (rs := [2]) (by kernel_rfl) (by simp) (.cons rfl (fun K hK => ?_) .nil)
          refine step_at (by rfl) (.tmp 49) (.tmp 50) rfl rfl HA3.out rfl HNN.out rfl (HS5.out.b.below HB3.out) HS5.out.h0 (by have := HLN.out; simp; omega) HB3.out.size ?_
          intro vv u4 ho hg hd
          rw [List.nil_append] at ho hd
          obtain ⟨gV, cV, rfl, _, _, _, hgV, _⟩ := ho.some HNN.out hn0
          have hdV : gV = gA ∨ u3.heap.size ≤ gV := hd.elim (fun h => .inl (Option.some.inj h)) (fun h => .inr (World.ownsRow.lt h gV rfl).1)
          have hz4 : u3.heap.size ≤ u4.heap.size := hg.size
          have HB4 : Hid (Below w5.heap.size w5 u4) := Lib.hid (HB3.out.trans (HA3.out.below_at (Nat.le_refl _) HB3.out.size hg))
          have H94 : Hid (u4.heap[g9]? = some (.cells #[.int .i64 0, .slice none 0 0, .slice none 0 0] 25 (0, 0))) := Lib.hid (by rw [hg.block g9 (by omega) (fun e => by have := Option.some.inj e; omega)]; exact H93.out)
          have HC4 : Hid (u4.heap[gC]? = some (.cells #[.int .u8 0] 5 (0, 0))) := Lib.hid (by rw [hg.block gC (by omega) (fun e => by have := Option.some.inj e; omega)]; exact HC3.out)
          have HV4 : Hid (Own u4 w5.heap.size (.slice (some ⟨gV, 0, none⟩) nn cV) ln) := Lib.hid ho
          clear ho hg hd
          refine hK.out _ _ (HKS.out _ HB4.out) (fun hHeld => ?_)
          clear hK K
          try simp only [Act.put, lq1, lq2, lq3, lq4, lq5, lq6]
          refine wpAnyH_ready (rs := [4]) (by kernel_rfl) (by simp) (.cons rfl (fun K hK => ?_) .nil)
          refine step_at (by rfl) (.tmp 51) (.tmp 52) rfl rfl HV4.out HNN.out (m := [0]) rfl rfl (Bs.of_block HC4.out rfl) (fun e => by cases e) (by have := HLN.out; simp; omega) HB4.out.size ?_
          intro vv u5 ho hg hd
          obtain ⟨mW, hmW⟩ : ∃ x, x = (ln ++ [(0 : UInt8)]).length := ⟨_, rfl⟩
          obtain ⟨pW, cW, rfl, hsW⟩ := ho.sl hmW
          have hz5 : u4.heap.size ≤ u5.heap.size := hg.size
          have HB5 : Hid (Below w5.heap.size w5 u5) := Lib.hid (HB4.out.trans (HV4.out.below_at (Nat.le_refl _) HB4.out.size hg))
          have H95 : Hid (u5.heap[g9]? = some (.cells #[.int .i64 0, .slice none 0 0, .slice none 0 0] 25 (0, 0))) := Lib.hid (by rw [hg.block g9 (by omega) (fun e => by have := Option.some.inj e; omega)]; exact H94.out)
          have HW5 : Hid (Sl u5 pW mW cW (ln ++ [0])) := Lib.hid hsW
          clear ho hg hd hsW hmW
          refine hK.out _ _ (HKS.out _ HB5.out) (fun hHeld => ?_)
          clear hK K
          try simp only [Act.put, lq1, lq2, lq3, lq4, lq5, lq6]
          refine wpAnyH_ready (rs := [7]) (by kernel_rfl) (by simp) (.cons rfl (fun K hK => ?_) .nil)
          go_simp
          refine (HM.out _ _ _ _ _ HW5.out).mono ?_
          rintro e u6 ⟨rfl, hb6⟩
          have hz6 : u5.heap.size ≤ u6.heap.size := hb6.size
          have HB6 := hbt HB5 hb6
          have H96 : Hid (u6.heap[g9]? = some (.cells #[.int .i64 0, .slice none 0 0, .slice none 0 0] 25 (0, 0))) := Lib.hid (by rw [hb6.block g9 (by omega)]; exact H95.out)
          dsimp only
          refine hK.out _ _ (HKS.out _ HB6.out) (fun hHeld => ?_)
          clear hK K hb6
          try simp only [Act.put, lq1, lq2, lq3, lq4, lq5, lq6]
          refine wpAnyH_take (i := 8) (v := ?_) rfl (by kernel_rfl) (by kernel_rfl) (by kernel_rfl) (fun _ _ _ h => nomatch h.1) (Or.inl ⟨by rfl, ?_⟩) (by assumption) ?_
          rotate_left
          ·intro w hSw; (try dsimp only at hSw); go_simp; try with_reducible rfl
          simp only [Act.put, lq1, lq2, lq3, lq4, lq5, lq6]
          refine wpAnyH_take (i := 9) (v := ?_) rfl (by kernel_rfl) (by kernel_rfl) (by kernel_rfl) (fun _ _ _ h => nomatch h.1) (Or.inl ⟨by rfl, ?_⟩) (by assumption) ?_
          rotate_left
          ·intro w hSw; (try dsimp only at hSw); go_simp; try with_reducible rfl
          simp only [Act.put, lq1, lq2, lq3, lq4, lq5, lq6]
          refine wpAnyH_take (i := 10) (v := ?_) rfl (by kernel_rfl) (by kernel_rfl) (by kernel_rfl) (fun _ _ _ h => nomatch h.1) (Or.inl ⟨by rfl, ?_⟩) (by assumption) ?_
          rotate_left
          ·intro w hSw; (try dsimp only at hSw); go_simp; try with_reducible rfl
          simp only [Act.put, lq1, lq2, lq3, lq4, lq5, lq6]
          refine wpAnyH_ready (rs := [12]) (by kernel_rfl) (by simp) (.cons rfl (fun K hK => ?_) .nil)
          obtain ⟨z0, j0⟩ := rd_at H96.out 0
          obtain ⟨z1, j1⟩ := rd_at H96.out 1
          obtain ⟨z2, j2⟩ := rd_at H96.out 2
          simp only [List.getElem?_toArray, List.getElem?_cons_zero, List.getElem?_cons_succ] at z0 z1 z2
          have h9lt : g9 < u6.heap.size := (Array.getElem?_eq_some_iff.1 H96.out).1
          go_simp
          refine hK.out _ _ (HKS.out _ (((HB6.out.setCell (p := ⟨g9, 0, none⟩) (by omega) _).setCell (p := ⟨g9, 1, none⟩) (by omega) _).setCell (p := ⟨g9, 2, none⟩) (by omega) _)) (fun hHeld => ?_)
          clear hK K
          try simp only [Act.put, lq1, lq2, lq3, lq4, lq5, lq6]
          obtain ⟨u7, hu7⟩ : ∃ x, x = (((u6.setCell ⟨g9, 0, none⟩ (.int .i64 0)).setCell ⟨g9, 1, none⟩ (.slice none 0 0)).setCell ⟨g9, 2, none⟩ (.slice none 0 0)) := ⟨_, rfl⟩
          have HB7 : Hid (Below w5.heap.size w5 u7) := Lib.hid (by rw [hu7]; exact (((HB6.out.setCell (p := ⟨g9, 0, none⟩) (by omega) _).setCell (p := ⟨g9, 1, none⟩) (by omega) _).setCell (p := ⟨g9, 2, none⟩) (by omega) _))
          rw [← hu7]
          clear hu7
          refine wpAnyH_ready (rs := [13]) (by kernel_rfl) (by simp) (.cons rfl (fun K hK => ?_) .nil)
          go_simp
          refine hK.out _ _ (HKS.out _ HB7.out) (fun hHeld => ?_)
          clear hK K
          try simp only [Act.put, lq1, lq2, lq3, lq4, lq5, lq6]
          have HB8 := Lib.hid HB7.out
          refine wpAnyH_done (by kernel_rfl) ?_ _
          exact ⟨rfl, ⟨_, _, _, _, _, _, _, _, _, _, _, _, rfl⟩, HB8.out⟩
       ·go_simp
        refine hK.out _ _ (HKS.out _ (HB0.out.alloc HB0.out.size _)) (fun hHeld => ?_)
        clear hK K
        try simp only [Act.put, lq1, lq2, lq3, lq4, lq5, lq6]
        obtain ⟨u1, hu1⟩ : ∃ x, x = u0.alloc (.cells #[.int .u8 0] 5) := ⟨_, rfl⟩
        rw [← hu1]
        obtain ⟨gC, hgC⟩ : ∃ x, x = u0.heap.size := ⟨_, rfl⟩
        rw [← hgC]
        have hz1 : u0.heap.size < u1.heap.size := by rw [hu1]; simp
        have hgegC : w5.heap.size ≤ gC := by have := HB0.out.size; omega
        have hb1 : Below u0.heap.size u0 u1 := by rw [hu1]; exact (Below.refl _ _).alloc (Nat.le_refl _) _
        have HB1 := hbt HB0 hb1
        have HC1 : Hid (u1.heap[gC]? = some (.cells #[.int .u8 0] 5 (0, 0))) := Lib.hid (by rw [hu1, hgC]; exact heap_alloc_new u0 _)
        have hltgC : gC < u1.heap.size := by omega
        clear hb1 hu1 hgC
        refine wpAnyH_ready (rs := [0, 11]) (by kernel_rfl) (by simp) (.cons rfl (fun K hK => ?_) (.cons rfl (fun K hK => ?_) .nil))
        ·go_simp
         refine hK.out _ _ (HKS.out _ (HB1.out.alloc HB1.out.size _)) (fun hHeld => ?_)
         clear hK K
         try simp only [Act.put, lq1, lq2, lq3, lq4, lq5, lq6]
         obtain ⟨u2, hu2⟩ : ∃ x, x = u1.alloc (.cells #[] 5) := ⟨_, rfl⟩
         rw [← hu2]
         obtain ⟨gA, hgA⟩ : ∃ x, x = u1.heap.size := ⟨_, rfl⟩
         rw [← hgA]
         have hz2 : u1.heap.size < u2.heap.size := by rw [hu2]; simp
         have hgegA : w5.heap.size ≤ gA := by have := HB1.out.size; omega
         have hb2 : Below u1.heap.size u1 u2 := by rw [hu2]; exact (Below.refl _ _).alloc (Nat.le_refl _) _
         have HB2 := hbt HB1 hb2
         have HC2 : Hid (u2.heap[gC]? = some (.cells #[.int .u8 0] 5 (0, 0))) := Lib.hid (by rw [hb2.block gC (by omega)]; exact HC1.out)
         have HA2 : Hid (Own u2 w5.heap.size (.slice (some ⟨gA, 0, none⟩) 0 0) []) := Lib.hid (by rw [hu2]; exact Own.fresh hgA (by have := HB1.out.size; omega))
         have hltgCgA : gC < gA := by omega
         have hltgA : gA < u2.heap.size := by omega
         clear hb2 hu2 hgA
         refine wpAnyH_ready (rs := [2, 11]) (by kernel_rfl) (by simp) (.cons rfl (fun K hK => ?_) (.cons rfl (fun K hK => ?_) .nil))
         ·refine step_at (by rfl) (.tmp 49) (.tmp 50) rfl rfl HA2.out rfl HNN.out rfl (HS5.out.b.below HB2.out) HS5.out.h0 (by have := HLN.out; simp; omega) HB2.out.size ?_
          intro vv u3 ho hg hd
          rw [List.nil_append] at ho hd
          obtain ⟨gV, cV, rfl, _, _, _, hgV, _⟩ := ho.some HNN.out hn0
          have hdV : gV = gA ∨ u2.heap.size ≤ gV := hd.elim (fun h => .inl (Option.some.inj h)) (fun h => .inr (World.ownsRow.lt h gV rfl).1)
          have hz3 : u2.heap.size ≤ u3.heap.size := hg.size
          have HB3 : Hid (Below w5.heap.size w5 u3) := Lib.hid (HB2.out.trans (HA2.out.below_at (Nat.le_refl _) HB2.out.size hg))
          have HC3 : Hid (u3.heap[gC]? = some (.cells #[.int .u8 0] 5 (0, 0))) := Lib.hid (by rw [hg.block gC (by omega) (fun e => by have := Option.some.inj e; omega)]; exact HC2.out)
          have HV3 : Hid (Own u3 w5.heap.size (.slice (some ⟨gV, 0, none⟩) nn cV) ln) := Lib.hid ho
          clear ho hg hd
          refine hK.out _ _ (HKS.out _ HB3.out) (fun hHeld => ?_)
          clear hK K
          try simp only [Act.put, lq1, lq2, lq3, lq4, lq5, lq6]
          refine wpAnyH_ready (rs := [4, 11]) (by kernel_rfl) (by simp) (.cons rfl (fun K hK => ?_) (.cons rfl (fun K hK => ?_) .nil))
          ·refine step_at (by rfl) (.tmp 51) (.tmp 52) rfl rfl HV3.out HNN.out (m := [0]) rfl rfl (Bs.of_block HC3.out rfl) (fun e => by cases e) (by have := HLN.out; simp; omega) HB3.out.size ?_
           intro vv u4 ho hg hd
           obtain ⟨mW, hmW⟩ : ∃ x, x = (ln ++ [(0 : UInt8)]).length := ⟨_, rfl⟩
           obtain ⟨pW, cW, rfl, hsW⟩ := ho.sl hmW
           have hz4 : u3.heap.size ≤ u4.heap.size := hg.size
           have HB4 : Hid (Below w5.heap.size w5 u4) := Lib.hid (HB3.out.trans (HV3.out.below_at (Nat.le_refl _) HB3.out.size hg))
           have HW4 : Hid (Sl u4 pW mW cW (ln ++ [0])) := Lib.hid hsW
           clear ho hg hd hsW hmW
           refine hK.out _ _ (HKS.out _ HB4.out) (fun hHeld => ?_)
           clear hK K
           try simp only [Act.put, lq1, lq2, lq3, lq4, lq5, lq6]
           refine wpAnyH_ready (rs := [7, 11]) (by kernel_rfl) (by simp) (.cons rfl (fun K hK => ?_) (.cons rfl (fun K hK => ?_) .nil))
           ·go_simp
            refine (HM.out _ _ _ _ _ HW4.out).mono ?_
            rintro e u5 ⟨rfl, hb5⟩
            have hz5 : u4.heap.size ≤ u5.heap.size := hb5.size
            have HB5 := hbt HB4 hb5
            dsimp only
            refine hK.out _ _ (HKS.out _ HB5.out) (fun hHeld => ?_)
            clear hK K hb5
            try simp only [Act.put, lq1, lq2, lq3, lq4, lq5, lq6]
            refine wpAnyH_take (i := 8) (v := ?_) rfl (by kernel_rfl) (by kernel_rfl) (by kernel_rfl) (fun _ _ _ h => nomatch h.1) (Or.inl ⟨by rfl, ?_⟩) (by assumption) ?_
            rotate_left
            ·intro w hSw; (try dsimp only at hSw); go_simp; try with_reducible rfl
            simp only [Act.put, lq1, lq2, lq3, lq4, lq5, lq6]
            refine wpAnyH_take (i := 9) (v := ?_) rfl (by kernel_rfl) (by kernel_rfl) (by kernel_rfl) (fun _ _ _ h => nomatch h.1) (Or.inl ⟨by rfl, ?_⟩) (by assumption) ?_
            rotate_left
            ·intro w hSw; (try dsimp only at hSw); go_simp; try with_reducible rfl
            simp only [Act.put, lq1, lq2, lq3, lq4, lq5, lq6]
            refine wpAnyH_take (i := 10) (v := ?_) rfl (by kernel_rfl) (by kernel_rfl) (by kernel_rfl) (fun _ _ _ h => nomatch h.1) (Or.inl ⟨by rfl, ?_⟩) (by assumption) ?_
            rotate_left
            ·intro w hSw; (try dsimp only at hSw); go_simp; try with_reducible rfl
            simp only [Act.put, lq1, lq2, lq3, lq4, lq5, lq6]
            refine wpAnyH_ready (rs := [11]) (by kernel_rfl) (by simp) (.cons rfl (fun K hK => ?_) .nil)
            go_simp
            refine hK.out _ _ (HKS.out _ (HB5.out.alloc HB5.out.size _)) (fun hHeld => ?_)
            clear hK K
            try simp only [Act.put, lq1, lq2, lq3, lq4, lq5, lq6]
            obtain ⟨u6, hu6⟩ : ∃ x, x = u5.alloc (.cells #[.int .i64 0, .slice none 0 0, .slice none 0 0] 25) := ⟨_, rfl⟩
            rw [← hu6]
            obtain ⟨g9, hg9⟩ : ∃ x, x = u5.heap.size := ⟨_, rfl⟩
            rw [← hg9]
            have hz6 : u5.heap.size < u6.heap.size := by rw [hu6]; simp
            have hgeg9 : w5.heap.size ≤ g9 := by have := HB5.out.size; omega
            have hb6 : Below u5.heap.size u5 u6 := by rw [hu6]; exact (Below.refl _ _).alloc (Nat.le_refl _) _
            have HB6 := hbt HB5 hb6
            have H96 : Hid (u6.heap[g9]? = some (.cells #[.int .i64 0, .slice none 0 0, .slice none 0 0] 25 (0, 0))) := Lib.hid (by rw [hu6, hg9]; exact heap_alloc_new u5 _)
            have hltg9 : g9 < u6.heap.size := by omega
            clear hb6 hu6 hg9
            refine wpAnyH_ready (rs := [12]) (by kernel_rfl) (by simp) (.cons rfl (fun K hK => ?_) .nil)
            obtain ⟨z0, j0⟩ := rd_at H96.out 0
            obtain ⟨z1, j1⟩ := rd_at H96.out 1
            obtain ⟨z2, j2⟩ := rd_at H96.out 2
            simp only [List.getElem?_toArray, List.getElem?_cons_zero, List.getElem?_cons_succ] at z0 z1 z2
            have h9lt : g9 < u6.heap.size := (Array.getElem?_eq_some_iff.1 H96.out).1
            go_simp
            refine hK.out _ _ (HKS.out _ (((HB6.out.setCell (p := ⟨g9, 0, none⟩) (by omega) _).setCell (p := ⟨g9, 1, none⟩) (by omega) _).setCell (p := ⟨g9, 2, none⟩) (by omega) _)) (fun hHeld => ?_)
            clear hK K
            try simp only [Act.put, lq1, lq2, lq3, lq4, lq5, lq6]
            obtain ⟨u7, hu7⟩ : ∃ x, x = (((u6.setCell ⟨g9, 0, none⟩ (.int .i64 0)).setCell ⟨g9, 1, none⟩ (.slice none 0 0)).setCell ⟨g9, 2, none⟩ (.slice none 0 0)) := ⟨_, rfl⟩
            have HB7 : Hid (Below w5.heap.size w5 u7) := Lib.hid (by rw [hu7]; exact (((HB6.out.setCell (p := ⟨g9, 0, none⟩) (by omega) _).setCell (p := ⟨g9, 1, none⟩) (by omega) _).setCell (p := ⟨g9, 2, none⟩) (by omega) _))
            rw [← hu7]
            clear hu7
            refine wpAnyH_ready (rs := [13]) (by kernel_rfl) (by simp) (.cons rfl (fun K hK => ?_) .nil)
            go_simp
            refine hK.out _ _ (HKS.out _ HB7.out) (fun hHeld => ?_)
            clear hK K
            try simp only [Act.put, lq1, lq2, lq3, lq4, lq5, lq6]
            have HB8 := Lib.hid HB7.out
            refine wpAnyH_done (by kernel_rfl) ?_ _
            exact ⟨rfl, ⟨_, _, _, _, _, _, _, _, _, _, _, _, rfl⟩, HB8.out⟩
           ·go_simp
            refine hK.out _ _ (HKS.out _ (HB4.out.alloc HB4.out.size _)) (fun hHeld => ?_)
            clear hK K
            try simp only [Act.put, lq1, lq2, lq3, lq4, lq5, lq6]
            obtain ⟨u5, hu5⟩ : ∃ x, x = u4.alloc (.cells #[.int .i64 0, .slice none 0 0, .slice none 0 0] 25) := ⟨_, rfl⟩
            rw [← hu5]
            obtain ⟨g9, hg9⟩ : ∃ x, x = u4.heap.size := ⟨_, rfl⟩
            rw [← hg9]
            have hz5 : u4.heap.size < u5.heap.size := by rw [hu5]; simp
            have hgeg9 : w5.heap.size ≤ g9 := by have := HB4.out.size; omega
            have hb5 : Below u4.heap.size u4 u5 := by rw [hu5]; exact (Below.refl _ _).alloc (Nat.le_refl _) _
            have HB5 := hbt HB4 hb5
            have HW5 : Hid (Sl u5 pW mW cW (ln ++ [0])) := Lib.hid (HW4.out.below hb5)
            have H95 : Hid (u5.heap[g9]? = some (.cells #[.int .i64 0, .slice none 0 0, .slice none 0 0] 25 (0, 0))) := Lib.hid (by rw [hu5, hg9]; exact heap_alloc_new u4 _)
            have hltg9 : g9 < u5.heap.size := by omega
            clear hb5 hu5 hg9
            refine wpAnyH_ready (rs := [7]) (by kernel_rfl) (by simp) (.cons rfl (fun K hK => ?_) .nil)
            go_simp
            refine (HM.out _ _ _ _ _ HW5.out).mono ?_
            rintro e u6 ⟨rfl, hb6⟩
            have hz6 : u5.heap.size ≤ u6.heap.size := hb6.size
            have HB6 := hbt HB5 hb6
            have H96 : Hid (u6.heap[g9]? = some (.cells #[.int .i64 0, .slice none 0 0, .slice none 0 0] 25 (0, 0))) := Lib.hid (by rw [hb6.block g9 (by omega)]; exact H95.out)
            dsimp only
            refine hK.out _ _ (HKS.out _ HB6.out) (fun hHeld => ?_)
            clear hK K hb6
            try simp only [Act.put, lq1, lq2, lq3, lq4, lq5, lq6]
            refine wpAnyH_take (i := 8) (v := ?_) rfl (by kernel_rfl) (by kernel_rfl) (by kernel_rfl) (fun _ _ _ h => nomatch h.1) (Or.inl ⟨by rfl, ?_⟩) (by assumption) ?_
            rotate_left
            ·intro w hSw; (try dsimp only at hSw); go_simp; try with_reducible rfl
            simp only [Act.put, lq1, lq2, lq3, lq4, lq5, lq6]
            refine wpAnyH_take (i := 9) (v := ?_) rfl (by kernel_rfl) (by kernel_rfl) (by kernel_rfl) (fun _ _ _ h => nomatch h.1) (Or.inl ⟨by rfl, ?_⟩) (by assumption) ?_
            rotate_left
            ·intro w hSw; (try dsimp only at hSw); go_simp; try with_reducible rfl
            simp only [Act.put, lq1, lq2, lq3, lq4, lq5, lq6]
            refine wpAnyH_take (i := 10) (v := ?_) rfl (by kernel_rfl) (by kernel_rfl) (by kernel_rfl) (fun _ _ _ h => nomatch h.1) (Or.inl ⟨by rfl, ?_⟩) (by assumption) ?_
            rotate_left
            ·intro w hSw; (try dsimp only at hSw); go_simp; try with_reducible rfl
            simp only [Act.put, lq1, lq2, lq3, lq4, lq5, lq6]
            refine wpAnyH_ready (rs := [12]) (by kernel_rfl) (by simp) (.cons rfl (fun K hK => ?_) .nil)
            obtain ⟨z0, j0⟩ := rd_at H96.out 0
            obtain ⟨z1, j1⟩ := rd_at H96.out 1
            obtain ⟨z2, j2⟩ := rd_at H96.out 2
            simp only [List.getElem?_toArray, List.getElem?_cons_zero, List.getElem?_cons_succ] at z0 z1 z2
            have h9lt : g9 < u6.heap.size := (Array.getElem?_eq_some_iff.1 H96.out).1
            go_simp
            refine hK.out _ _ (HKS.out _ (((HB6.out.setCell (p := ⟨g9, 0, none⟩) (by omega) _).setCell (p := ⟨g9, 1, none⟩) (by omega) _).setCell (p := ⟨g9, 2, none⟩) (by omega) _)) (fun hHeld => ?_)
            clear hK K
            try simp only [Act.put, lq1, lq2, lq3, lq4, lq5, lq6]
            obtain ⟨u7, hu7⟩ : ∃ x, x = (((u6.setCell ⟨g9, 0, none⟩ (.int .i64 0)).setCell ⟨g9, 1, none⟩ (.slice none 0 0)).setCell ⟨g9, 2, none⟩ (.slice none 0 0)) := ⟨_, rfl⟩
            have HB7 : Hid (Below w5.heap.size w5 u7) := Lib.hid (by rw [hu7]; exact (((HB6.out.setCell (p := ⟨g9, 0, none⟩) (by omega) _).setCell (p := ⟨g9, 1, none⟩) (by omega) _).setCell (p := ⟨g9, 2, none⟩) (by omega) _))
            rw [← hu7]
            clear hu7
            refine wpAnyH_ready (rs := [13]) (by kernel_rfl) (by simp) (.cons rfl (fun K hK => ?_) .nil)
            go_simp
            refine hK.out _ _ (HKS.out _ HB7.out) (fun hHeld => ?_)
            clear hK K
            try simp only [Act.put, lq1, lq2, lq3, lq4, lq5, lq6]
            have HB8 := Lib.hid HB7.out
            refine wpAnyH_done (by kernel_rfl) ?_ _
            exact ⟨rfl, ⟨_, _, _, _, _, _, _, _, _, _, _, _, rfl⟩, HB8.out⟩
          ·go_simp
           refine hK.out _ _ (HKS.out _ (HB3.out.alloc HB3.out.size _)) (fun hHeld => ?_)
           clear hK K
           try simp only [Act.put, lq1, lq2, lq3, lq4, lq5, lq6]
           obtain ⟨u4, hu4⟩ : ∃ x, x = u3.alloc (.cells #[.int .i64 0, .slice none 0 0, .slice none 0 0] 25) := ⟨_, rfl⟩
           rw [← hu4]
           obtain ⟨g9, hg9⟩ : ∃ x, x = u3.heap.size := ⟨_, rfl⟩
           rw [← hg9]
           have hz4 : u3.heap.size < u4.heap.size := by rw [hu4]; simp
           have hgeg9 : w5.heap.size ≤ g9 := by have := HB3.out.size; omega
           have hb4 : Below u3.heap.size u3 u4 := by rw [hu4]; exact (Below.refl _ _).alloc (Nat.le_refl _) _
           have HB4 := hbt HB3 hb4
           have HC4 : Hid (u4.heap[gC]? = some (.cells #[.int .u8 0] 5 (0, 0))) := Lib.hid (by rw [hb4.block gC (by omega)]; exact HC3.out)
           have HV4 : Hid (Own u4 w5.heap.size (.slice (some ⟨gV, 0, none⟩) nn cV) ln) := Lib.hid (HV3.out.below hb4)
           have H94 : Hid (u4.heap[g9]? = some (.cells #[.int .i64 0, .slice none 0 0, .slice none 0 0] 25 (0, 0))) := Lib.hid (by rw [hu4, hg9]; exact heap_alloc_new u3 _)
           have hltgCg9 : gC < g9 := by omega
           have hltgVg9 : gV < g9 := by omega
           have hltg9 : g9 < u4.heap.size := by omega
           clear hb4 hu4 hg9
           refine wpAnyH_ready (rs := [4]) (by kernel_rfl) (by simp) (.cons rfl (fun K hK => ?_) .nil)
           refine step_at (by rfl) (.tmp 51) (.tmp 52) rfl rfl HV4.out HNN.out (m := [0]) rfl rfl (Bs.of_block HC4.out rfl) (fun e => by cases e) (by have := HLN.out; simp; omega) HB4.out.size ?_
           intro vv u5 ho hg hd
           obtain ⟨mW, hmW⟩ : ∃ x, x = (ln ++ [(0 : UInt8)]).length := ⟨_, rfl⟩
           obtain ⟨pW, cW, rfl, hsW⟩ := ho.sl hmW
           have hz5 : u4.heap.size ≤ u5.heap.size := hg.size
           have HB5 : Hid (Below w5.heap.size w5 u5) := Lib.hid (HB4.out.trans (HV4.out.below_at (Nat.le_refl _) HB4.out.size hg))
           have H95 : Hid (u5.heap[g9]? = some (.cells #[.int .i64 0, .slice none 0 0, .slice none 0 0] 25 (0, 0))) := Lib.hid (by rw [hg.block g9 (by omega) (fun e => by have := Option.some.inj e; omega)]; exact H94.out)
           have HW5 : Hid (Sl u5 pW mW cW (ln ++ [0])) := Lib.hid hsW
           clear ho hg hd hsW hmW
           refine hK.out _ _ (HKS.out _ HB5.out) (fun hHeld => ?_)
           clear hK K
           try simp only [Act.put, lq1, lq2, lq3, lq4, lq5, lq6]
           refine wpAnyH_ready (rs := [7]) (by kernel_rfl) (by simp) (.cons rfl (fun K hK => ?_) .nil)
           go_simp
           refine (HM.out _ _ _ _ _ HW5.out).mono ?_
           rintro e u6 ⟨rfl, hb6⟩
           have hz6 : u5.heap.size ≤ u6.heap.size := hb6.size
           have HB6 := hbt HB5 hb6
           have H96 : Hid (u6.heap[g9]? = some (.cells #[.int .i64 0, .slice none 0 0, .slice none 0 0] 25 (0, 0))) := Lib.hid (by rw [hb6.block g9 (by omega)]; exact H95.out)
           dsimp only
           refine hK.out _ _ (HKS.out _ HB6.out) (fun hHeld => ?_)
           clear hK K hb6
           try simp only [Act.put, lq1, lq2, lq3, lq4, lq5, lq6]
           refine wpAnyH_take (i := 8) (v := ?_) rfl (by kernel_rfl) (by kernel_rfl) (by kernel_rfl) (fun _ _ _ h => nomatch h.1) (Or.inl ⟨by rfl, ?_⟩) (by assumption) ?_
           rotate_left
           ·intro w hSw; (try dsimp only at hSw); go_simp; try with_reducible rfl
           simp only [Act.put, lq1, lq2, lq3, lq4, lq5, lq6]
           refine wpAnyH_take (i := 9) (v := ?_) rfl (by kernel_rfl) (by kernel_rfl) (by kernel_rfl) (fun _ _ _ h => nomatch h.1) (Or.inl ⟨by rfl, ?_⟩) (by assumption) ?_
           rotate_left
           ·intro w hSw; (try dsimp only at hSw); go_simp; try with_reducible rfl
           simp only [Act.put, lq1, lq2, lq3, lq4, lq5, lq6]
           refine wpAnyH_take (i := 10) (v := ?_) rfl (by kernel_rfl) (by kernel_rfl) (by kernel_rfl) (fun _ _ _ h => nomatch h.1) (Or.inl ⟨by rfl, ?_⟩) (by assumption) ?_
           rotate_left
           ·intro w hSw; (try dsimp only at hSw); go_simp; try with_reducible rfl
           simp only [Act.put, lq1, lq2, lq3, lq4, lq5, lq6]
           refine wpAnyH_ready (rs := [12]) (by kernel_rfl) (by simp) (.cons rfl (fun K hK => ?_) .nil)
           obtain ⟨z0, j0⟩ := rd_at H96.out 0
           obtain ⟨z1, j1⟩ := rd_at H96.out 1
           obtain ⟨z2, j2⟩ := rd_at H96.out 2
           simp only [List.getElem?_toArray, List.getElem?_cons_zero, List.getElem?_cons_succ] at z0 z1 z2
           have h9lt : g9 < u6.heap.size := (Array.getElem?_eq_some_iff.1 H96.out).1
           go_simp
           refine hK.out _ _ (HKS.out _ (((HB6.out.setCell (p := ⟨g9, 0, none⟩) (by omega) _).setCell (p := ⟨g9, 1, none⟩) (by omega) _).setCell (p := ⟨g9, 2, none⟩) (by omega) _)) (fun hHeld => ?_)
           clear hK K
           try simp only [Act.put, lq1, lq2, lq3, lq4, lq5, lq6]
           obtain ⟨u7, hu7⟩ : ∃ x, x = (((u6.setCell ⟨g9, 0, none⟩ (.int .i64 0)).setCell ⟨g9, 1, none⟩ (.slice none 0 0)).setCell ⟨g9, 2, none⟩ (.slice none 0 0)) := ⟨_, rfl⟩
           have HB7 : Hid (Below w5.heap.size w5 u7) := Lib.hid (by rw [hu7]; exact (((HB6.out.setCell (p := ⟨g9, 0, none⟩) (by omega) _).setCell (p := ⟨g9, 1, none⟩) (by omega) _).setCell (p := ⟨g9, 2, none⟩) (by omega) _))
           rw [← hu7]
           clear hu7
           refine wpAnyH_ready (rs := [13]) (by kernel_rfl) (by simp) (.cons rfl (fun K hK => ?_) .nil)
           go_simp
           refine hK.out _ _ (HKS.out _ HB7.out) (fun hHeld => ?_)
           clear hK K
           try simp only [Act.put, lq1, lq2, lq3, lq4, lq5, lq6]
           have HB8 := Lib.hid HB7.out
           refine wpAnyH_done (by kernel_rfl) ?_ _
           exact ⟨rfl, ⟨_, _, _, _, _, _, _, _, _, _, _, _, rfl⟩, HB8.out⟩
         ·go_simp
          refine hK.out _ _ (HKS.out _ (HB2.out.alloc HB2.out.size _)) (fun hHeld => ?_)
          clear hK K
          try simp only [Act.put, lq1, lq2, lq3, lq4, lq5, lq6]
          obtain ⟨u3, hu3⟩ : ∃ x, x = u2.alloc (.cells #[.int .i64 0, .slice none 0 0, .slice none 0 0] 25) := ⟨_, rfl⟩
          rw [← hu3]
          obtain ⟨g9, hg9⟩ : ∃ x, x = u2.heap.size := ⟨_, rfl⟩
          rw [← hg9]
          have hz3 : u2.heap.size < u3.heap.size := by rw [hu3]; simp
          have hgeg9 : w5.heap.size ≤ g9 := by have := HB2.out.size; omega
          have hb3 : Below u2.heap.size u2 u3 := by rw [hu3]; exact (Below.refl _ _).alloc (Nat.le_refl _) _
          have HB3 := hbt HB2 hb3
          have HA3 : Hid (Own u3 w5.heap.size (.slice (some ⟨gA, 0, none⟩) 0 0) []) := Lib.hid (HA2.out.below hb3)
          have HC3 : Hid (u3.heap[gC]? = some (.cells #[.int .u8 0] 5 (0, 0))) := Lib.hid (by rw [hb3.block gC (by omega)]; exact HC2.out)
          have H93 : Hid (u3.heap[g9]? = some (.cells #[.int .i64 0, .slice none 0 0, .slice none 0 0] 25 (0, 0))) := Lib.hid (by rw [hu3, hg9]; exact heap_alloc_new u2 _)
          have hltgAg9 : gA < g9 := by omega
          have hltgCg9 : gC < g9 := by omega
          have hltg9 : g9 < u3.heap.size := by omega
          clear hb3 hu3 hg9
          refine wpAnyH_ready (rs := [2]) (by kernel_rfl) (by simp) (.cons rfl (fun K hK => ?_) .nil)
          refine step_at (by rfl) (.tmp 49) (.tmp 50) rfl rfl HA3.out rfl HNN.out rfl (HS5.out.b.below HB3.out) HS5.out.h0 (by have := HLN.out; simp; omega) HB3.out.size ?_
          intro vv u4 ho hg hd
          rw [List.nil_append] at ho hd
          obtain ⟨gV, cV, rfl, _, _, _, hgV, _⟩ := ho.some HNN.out hn0
          have hdV : gV = gA ∨ u3.heap.size ≤ gV := hd.elim (fun h => .inl (Option.some.inj h)) (fun h => .inr (World.ownsRow.lt h gV rfl).1)
          have hz4 : u3.heap.size ≤ u4.heap.size := hg.size
          have HB4 : Hid (Below w5.heap.size w5 u4) := Lib.hid (HB3.out.trans (HA3.out.below_at (Nat.le_refl _) HB3.out.size hg))
          have H94 : Hid (u4.heap[g9]? = some (.cells #[.int .i64 0, .slice none 0 0, .slice none 0 0] 25 (0, 0))) := Lib.hid (by rw [hg.block g9 (by omega) (fun e => by have := Option.some.inj e; omega)]; exact H93.out)
          have HC4 : Hid (u4.heap[gC]? = some (.cells #[.int .u8 0] 5 (0, 0))) := Lib.hid (by rw [hg.block gC (by omega) (fun e => by have := Option.some.inj e; omega)]; exact HC3.out)
          have HV4 : Hid (Own u4 w5.heap.size (.slice (some ⟨gV, 0, none⟩) nn cV) ln) := Lib.hid ho
          clear ho hg hd
          refine hK.out _ _ (HKS.out _ HB4.out) (fun hHeld => ?_)
          clear hK K
          try simp only [Act.put, lq1, lq2, lq3, lq4, lq5, lq6]
          refine wpAnyH_ready (rs := [4]) (by kernel_rfl) (by simp) (.cons rfl (fun K hK => ?_) .nil)
          refine step_at (by rfl) (.tmp 51) (.tmp 52) rfl rfl HV4.out HNN.out (m := [0]) rfl rfl (Bs.of_block HC4.out rfl) (fun e => by cases e) (by have := HLN.out; simp; omega) HB4.out.size ?_
          intro vv u5 ho hg hd
          obtain ⟨mW, hmW⟩ : ∃ x, x = (ln ++ [(0 : UInt8)]).length := ⟨_, rfl⟩
          obtain ⟨pW, cW, rfl, hsW⟩ := ho.sl hmW
          have hz5 : u4.heap.size ≤ u5.heap.size := hg.size
          have HB5 : Hid (Below w5.heap.size w5 u5) := Lib.hid (HB4.out.trans (HV4.out.below_at (Nat.le_refl _) HB4.out.size hg))
          have H95 : Hid (u5.heap[g9]? = some (.cells #[.int .i64 0, .slice none 0 0, .slice none 0 0] 25 (0, 0))) := Lib.hid (by rw [hg.block g9 (by omega) (fun e => by have := Option.some.inj e; omega)]; exact H94.out)
          have HW5 : Hid (Sl u5 pW mW cW (ln ++ [0])) := Lib.hid hsW
          clear ho hg hd hsW hmW
          refine hK.out _ _ (HKS.out _ HB5.out) (fun hHeld => ?_)
          clear hK K
          try simp only [Act.put, lq1, lq2, lq3, lq4, lq5, lq6]
          refine wpAnyH_ready (rs := [7]) (by kernel_rfl) (by simp) (.cons rfl (fun K hK => ?_) .nil)
          go_simp
          refine (HM.out _ _ _ _ _ HW5.out).mono ?_
          rintro e u6 ⟨rfl, hb6⟩
          have hz6 : u5.heap.size ≤ u6.heap.size := hb6.size
          have HB6 := hbt HB5 hb6
          have H96 : Hid (u6.heap[g9]? = some (.cells #[.int .i64 0, .slice none 0 0, .slice none 0 0] 25 (0, 0))) := Lib.hid (by rw [hb6.block g9 (by omega)]; exact H95.out)
          dsimp only
          refine hK.out _ _ (HKS.out _ HB6.out) (fun hHeld => ?_)
          clear hK K hb6
          try simp only [Act.put, lq1, lq2, lq3, lq4, lq5, lq6]
          refine wpAnyH_take (i := 8) (v := ?_) rfl (by kernel_rfl) (by kernel_rfl) (by kernel_rfl) (fun _ _ _ h => nomatch h.1) (Or.inl ⟨by rfl, ?_⟩) (by assumption) ?_
          rotate_left
          ·intro w hSw; (try dsimp only at hSw); go_simp; try with_reducible rfl
          simp only [Act.put, lq1, lq2, lq3, lq4, lq5, lq6]
          refine wpAnyH_take (i := 9) (v := ?_) rfl (by kernel_rfl) (by kernel_rfl) (by kernel_rfl) (fun _ _ _ h => nomatch h.1) (Or.inl ⟨by rfl, ?_⟩) (by assumption) ?_
          rotate_left
          ·intro w hSw; (try dsimp only at hSw); go_simp; try with_reducible rfl
          simp only [Act.put, lq1, lq2, lq3, lq4, lq5, lq6]
          refine wpAnyH_take (i := 10) (v := ?_) rfl (by kernel_rfl) (by kernel_rfl) (by kernel_rfl) (fun _ _ _ h => nomatch h.1) (Or.inl ⟨by rfl, ?_⟩) (by assumption) ?_
          rotate_left
          ·intro w hSw; (try dsimp only at hSw); go_simp; try with_reducible rfl
          simp only [Act.put, lq1, lq2, lq3, lq4, lq5, lq6]
          refine wpAnyH_ready (rs := [12]) (by kernel_rfl) (by simp) (.cons rfl (fun K hK => ?_) .nil)
          obtain ⟨z0, j0⟩ := rd_at H96.out 0
          obtain ⟨z1, j1⟩ := rd_at H96.out 1
          obtain ⟨z2, j2⟩ := rd_at H96.out 2
          simp only [List.getElem?_toArray, List.getElem?_cons_zero, List.getElem?_cons_succ] at z0 z1 z2
          have h9lt : g9 < u6.heap.size := (Array.getElem?_eq_some_iff.1 H96.out).1
          go_simp
          refine hK.out _ _ (HKS.out _ (((HB6.out.setCell (p := ⟨g9, 0, none⟩) (by omega) _).setCell (p := ⟨g9, 1, none⟩) (by omega) _).setCell (p := ⟨g9, 2, none⟩) (by omega) _)) (fun hHeld => ?_)
          clear hK K
          try simp only [Act.put, lq1, lq2, lq3, lq4, lq5, lq6]
          obtain ⟨u7, hu7⟩ : ∃ x, x = (((u6.setCell ⟨g9, 0, none⟩ (.int .i64 0)).setCell ⟨g9, 1, none⟩ (.slice none 0 0)).setCell ⟨g9, 2, none⟩ (.slice none 0 0)) := ⟨_, rfl⟩
          have HB7 : Hid (Below w5.heap.size w5 u7) := Lib.hid (by rw [hu7]; exact (((HB6.out.setCell (p := ⟨g9, 0, none⟩) (by omega) _).setCell (p := ⟨g9, 1, none⟩) (by omega) _).setCell (p := ⟨g9, 2, none⟩) (by omega) _))
          rw [← hu7]
          clear hu7
          refine wpAnyH_ready (rs := [13]) (by kernel_rfl) (by simp) (.cons rfl (fun K hK => ?_) .nil)
          go_simp
          refine hK.out _ _ (HKS.out _ HB7.out) (fun hHeld => ?_)
          clear hK K
          try simp only [Act.put, lq1, lq2, lq3, lq4, lq5, lq6]
          have HB8 := Lib.hid HB7.out
          refine wpAnyH_done (by kernel_rfl) ?_ _
          exact ⟨rfl, ⟨_, _, _, _, _, _, _, _, _, _, _, _, rfl⟩, HB8.out⟩
        ·go_simp
         refine hK.out _ _ (HKS.out _ (HB1.out.alloc HB1.out.size _)) (fun hHeld => ?_)
         clear hK K
         try simp only [Act.put, lq1, lq2, lq3, lq4, lq5, lq6]
         obtain ⟨u2, hu2⟩ : ∃ x, x = u1.alloc (.cells #[.int .i64 0, .slice none 0 0, .slice none 0 0] 25) := ⟨_, rfl⟩
         rw [← hu2]
         obtain ⟨g9, hg9⟩ : ∃ x, x = u1.heap.size := ⟨_, rfl⟩
         rw [← hg9]
         have hz2 : u1.heap.size < u2.heap.size := by rw [hu2]; simp
         have hgeg9 : w5.heap.size ≤ g9 := by have := HB1.out.size; omega
         have hb2 : Below u1.heap.size u1 u2 := by rw [hu2]; exact (Below.refl _ _).alloc (Nat.le_refl _) _
         have HB2 := hbt HB1 hb2
         have HC2 : Hid (u2.heap[gC]? = some (.cells #[.int .u8 0] 5 (0, 0))) := Lib.hid (by rw [hb2.block gC (by omega)]; exact HC1.out)
         have H92 : Hid (u2.heap[g9]? = some (.cells #[.int .i64 0, .slice none 0 0, .slice none 0 0] 25 (0, 0))) := Lib.hid (by rw [hu2, hg9]; exact heap_alloc_new u1 _)
         have hltgCg9 : gC < g9 := by omega
         have hltg9 : g9 < u2.heap.size := by omega
         clear hb2 hu2 hg9
         refine wpAnyH_ready (rs := [0]) (by kernel_rfl) (by simp) (.cons rfl (fun K hK => ?_) .nil)
         go_simp
         refine hK.out _ _ (HKS.out _ (HB2.out.alloc HB2.out.size _)) (fun hHeld => ?_)
         clear hK K
         try simp only [Act.put, lq1, lq2, lq3, lq4, lq5, lq6]
         obtain ⟨u3, hu3⟩ : ∃ x, x = u2.alloc (.cells #[] 5) := ⟨_, rfl⟩
         rw [← hu3]
         obtain ⟨gA, hgA⟩ : ∃ x, x = u2.heap.size := ⟨_, rfl⟩
         rw [← hgA]
         have hz3 : u2.heap.size < u3.heap.size := by rw [hu3]; simp
         have hgegA : w5.heap.size ≤ gA := by have := HB2.out.size; omega
         have hb3 : Below u2.heap.size u2 u3 := by rw [hu3]; exact (Below.refl _ _).alloc (Nat.le_refl _) _
         have HB3 := hbt HB2 hb3
         have H93 : Hid (u3.heap[g9]? = some (.cells #[.int .i64 0, .slice none 0 0, .slice none 0 0] 25 (0, 0))) := Lib.hid (by rw [hb3.block g9 (by omega)]; exact H92.out)
         have HC3 : Hid (u3.heap[gC]? = some (.cells #[.int .u8 0] 5 (0, 0))) := Lib.hid (by rw [hb3.block gC (by omega)]; exact HC2.out)
         have HA3 : Hid (Own u3 w5.heap.size (.slice (some ⟨gA, 0, none⟩) 0 0) []) := Lib.hid (by rw [hu3]; exact Own.fresh hgA (by have := HB2.out.size; omega))
         have hltg9gA : g9 < gA := by omega
         have hltgCgA : gC < gA := by omega
         have hltgA : gA < u3.heap.size := by omega
         clear hb3 hu3 hgA
         refine wpAnyH_ready (rs := [2]) (by kernel_rfl) (by simp) (.cons rfl (fun K hK => ?_) .nil)
         refine step_at (by rfl) (.tmp 49) (.tmp 50) rfl rfl HA3.out rfl HNN.out rfl (HS5.out.b.below HB3.out) HS5.out.h0 (by have := HLN.out; simp; omega) HB3.out.size ?_
         intro vv u4 ho hg hd
         rw [List.nil_append] at ho hd
         obtain ⟨gV, cV, rfl, _, _, _, hgV, _⟩ := ho.some HNN.out hn0
         have hdV : gV = gA ∨ u3.heap.size ≤ gV := hd.elim (fun h => .inl (Option.some.inj h)) (fun h => .inr (World.ownsRow.lt h gV rfl).1)
         have hz4 : u3.heap.size ≤ u4.heap.size := hg.size
         have HB4 : Hid (Below w5.heap.size w5 u4) := Lib.hid (HB3.out.trans (HA3.out.below_at (Nat.le_refl _) HB3.out.size hg))
         have H94 : Hid (u4.heap[g9]? = some (.cells #[.int .i64 0, .slice none 0 0, .slice none 0 0] 25 (0, 0))) := Lib.hid (by rw [hg.block g9 (by omega) (fun e => by have := Option.some.inj e; omega)]; exact H93.out)
         have HC4 : Hid (u4.heap[gC]? = some (.cells #[.int .u8 0] 5 (0, 0))) := Lib.hid (by rw [hg.block gC (by omega) (fun e => by have := Option.some.inj e; omega)]; exact HC3.out)
         have HV4 : Hid (Own u4 w5.heap.size (.slice (some ⟨gV, 0, none⟩) nn cV) ln) := Lib.hid ho
         clear ho hg hd
         refine hK.out _ _ (HKS.out _ HB4.out) (fun hHeld => ?_)
         clear hK K
         try simp only [Act.put, lq1, lq2, lq3, lq4, lq5, lq6]
         refine wpAnyH_ready (rs := [4]) (by kernel_rfl) (by simp) (.cons rfl (fun K hK => ?_) .nil)
         refine step_at (by rfl) (.tmp 51) (.tmp 52) rfl rfl HV4.out HNN.out (m := [0]) rfl rfl (Bs.of_block HC4.out rfl) (fun e => by cases e) (by have := HLN.out; simp; omega) HB4.out.size ?_
         intro vv u5 ho hg hd
         obtain ⟨mW, hmW⟩ : ∃ x, x = (ln ++ [(0 : UInt8)]).length := ⟨_, rfl⟩
         obtain ⟨pW, cW, rfl, hsW⟩ := ho.sl hmW
         have hz5 : u4.heap.size ≤ u5.heap.size := hg.size
         have HB5 : Hid (Below w5.heap.size w5 u5) := Lib.hid (HB4.out.trans (HV4.out.below_at (Nat.le_refl _) HB4.out.size hg))
         have H95 : Hid (u5.heap[g9]? = some (.cells #[.int .i64 0, .slice none 0 0, .slice none 0 0] 25 (0, 0))) := Lib.hid (by rw [hg.block g9 (by omega) (fun e => by have := Option.some.inj e; omega)]; exact H94.out)
         have HW5 : Hid (Sl u5 pW mW cW (ln ++ [0])) := Lib.hid hsW
         clear ho hg hd hsW hmW
         refine hK.out _ _ (HKS.out _ HB5.out) (fun hHeld => ?_)
         clear hK K
         try simp only [Act.put, lq1, lq2, lq3, lq4, lq5, lq6]
         refine wpAnyH_ready (rs := [7]) (by kernel_rfl) (by simp) (.cons rfl (fun K hK => ?_) .nil)
         go_simp
         refine (HM.out _ _ _ _ _ HW5.out).mono ?_
         rintro e u6 ⟨rfl, hb6⟩
         have hz6 : u5.heap.size ≤ u6.heap.size := hb6.size
         have HB6 := hbt HB5 hb6
         have H96 : Hid (u6.heap[g9]? = some (.cells #[.int .i64 0, .slice none 0 0, .slice none 0 0] 25 (0, 0))) := Lib.hid (by rw [hb6.block g9 (by omega)]; exact H95.out)
         dsimp only
         refine hK.out _ _ (HKS.out _ HB6.out) (fun hHeld => ?_)
         clear hK K hb6
         try simp only [Act.put, lq1, lq2, lq3, lq4, lq5, lq6]
         refine wpAnyH_take (i := 8) (v := ?_) rfl (by kernel_rfl) (by kernel_rfl) (by kernel_rfl) (fun _ _ _ h => nomatch h.1) (Or.inl ⟨by rfl, ?_⟩) (by assumption) ?_
         rotate_left
         ·intro w hSw; (try dsimp only at hSw); go_simp; try with_reducible rfl
         simp only [Act.put, lq1, lq2, lq3, lq4, lq5, lq6]
         refine wpAnyH_take (i := 9) (v := ?_) rfl (by kernel_rfl) (by kernel_rfl) (by kernel_rfl) (fun _ _ _ h => nomatch h.1) (Or.inl ⟨by rfl, ?_⟩) (by assumption) ?_
         rotate_left
         ·intro w hSw; (try dsimp only at hSw); go_simp; try with_reducible rfl
         simp only [Act.put, lq1, lq2, lq3, lq4, lq5, lq6]
         refine wpAnyH_take (i := 10) (v := ?_) rfl (by kernel_rfl) (by kernel_rfl) (by kernel_rfl) (fun _ _ _ h => nomatch h.1) (Or.inl ⟨by rfl, ?_⟩) (by assumption) ?_
         rotate_left
         ·intro w hSw; (try dsimp only at hSw); go_simp; try with_reducible rfl
         simp only [Act.put, lq1, lq2, lq3, lq4, lq5, lq6]
         refine wpAnyH_ready (rs := [12]) (by kernel_rfl) (by simp) (.cons rfl (fun K hK => ?_) .nil)
         obtain ⟨z0, j0⟩ := rd_at H96.out 0
         obtain ⟨z1, j1⟩ := rd_at H96.out 1
         obtain ⟨z2, j2⟩ := rd_at H96.out 2
         simp only [List.getElem?_toArray, List.getElem?_cons_zero, List.getElem?_cons_succ] at z0 z1 z2
         have h9lt : g9 < u6.heap.size := (Array.getElem?_eq_some_iff.1 H96.out).1
         go_simp
         refine hK.out _ _ (HKS.out _ (((HB6.out.setCell (p := ⟨g9, 0, none⟩) (by omega) _).setCell (p := ⟨g9, 1, none⟩) (by omega) _).setCell (p := ⟨g9, 2, none⟩) (by omega) _)) (fun hHeld => ?_)
         clear hK K
         try simp only [Act.put, lq1, lq2, lq3, lq4, lq5, lq6]
         obtain ⟨u7, hu7⟩ : ∃ x, x = (((u6.setCell ⟨g9, 0, none⟩ (.int .i64 0)).setCell ⟨g9, 1, none⟩ (.slice none 0 0)).setCell ⟨g9, 2, none⟩ (.slice none 0 0)) := ⟨_, rfl⟩
         have HB7 : Hid (Below w5.heap.size w5 u7) := Lib.hid (by rw [hu7]; exact (((HB6.out.setCell (p := ⟨g9, 0, none⟩) (by omega) _).setCell (p := ⟨g9, 1, none⟩) (by omega) _).setCell (p := ⟨g9, 2, none⟩) (by omega) _))
         rw [← hu7]
         clear hu7
         refine wpAnyH_ready (rs := [13]) (by kernel_rfl) (by simp) (.cons rfl (fun K hK => ?_) .nil)
         go_simp
         refine hK.out _ _ (HKS.out _ HB7.out) (fun hHeld => ?_)
         clear hK K
         try simp only [Act.put, lq1, lq2, lq3, lq4, lq5, lq6]
         have HB8 := Lib.hid HB7.out
         refine wpAnyH_done (by kernel_rfl) ?_ _
         exact ⟨rfl, ⟨_, _, _, _, _, _, _, _, _, _, _, _, rfl⟩, HB8.out⟩
       ·go_simp
        refine hK.out _ _ (HKS.out _ (HB0.out.alloc HB0.out.size _)) (fun hHeld => ?_)
        clear hK K
        try simp only [Act.put, lq1, lq2, lq3, lq4, lq5, lq6]
        obtain ⟨u1, hu1⟩ : ∃ x, x = u0.alloc (.cells #[.int .i64 0, .slice none 0 0, .slice none 0 0] 25) := ⟨_, rfl⟩
        rw [← hu1]
        obtain ⟨g9, hg9⟩ : ∃ x, x = u0.heap.size := ⟨_, rfl⟩
        rw [← hg9]
        have hz1 : u0.heap.size < u1.heap.size := by rw [hu1]; simp
        have hgeg9 : w5.heap.size ≤ g9 := by have := HB0.out.size; omega
        have hb1 : Below u0.heap.size u0 u1 := by rw [hu1]; exact (Below.refl _ _).alloc (Nat.le_refl _) _
        have HB1 := hbt HB0 hb1
        have H91 : Hid (u1.heap[g9]? = some (.cells #[.int .i64 0, .slice none 0 0, .slice none 0 0] 25 (0, 0))) := Lib.hid (by rw [hu1, hg9]; exact heap_alloc_new u0 _)
        have hltg9 : g9 < u1.heap.size := by omega
        clear hb1 hu1 hg9
        refine wpAnyH_ready (rs := [0, 3]) (by kernel_rfl) (by simp) (.cons rfl (fun K hK => ?_) (.cons rfl (fun K hK => ?_) .nil))
        ·go_simp
         refine hK.out _ _ (HKS.out _ (HB1.out.alloc HB1.out.size _)) (fun hHeld => ?_)
         clear hK K
         try simp only [Act.put, lq1, lq2, lq3, lq4, lq5, lq6]
         obtain ⟨u2, hu2⟩ : ∃ x, x = u1.alloc (.cells #[] 5) := ⟨_, rfl⟩
         rw [← hu2]
         obtain ⟨gA, hgA⟩ : ∃ x, x = u1.heap.size := ⟨_, rfl⟩
         rw [← hgA]
         have hz2 : u1.heap.size < u2.heap.size := by rw [hu2]; simp
         have hgegA : w5.heap.size ≤ gA := by have := HB1.out.size; omega
         have hb2 : Below u1.heap.size u1 u2 := by rw [hu2]; exact (Below.refl _ _).alloc (Nat.le_refl _) _
         have HB2 := hbt HB1 hb2
         have H92 : Hid (u2.heap[g9]? = some (.cells #[.int .i64 0, .slice none 0 0, .slice none 0 0] 25 (0, 0))) := Lib.hid (by rw [hb2.block g9 (by omega)]; exact H91.out)
         have HA2 : Hid (Own u2 w5.heap.size (.slice (some ⟨gA, 0, none⟩) 0 0) []) := Lib.hid (by rw [hu2]; exact Own.fresh hgA (by have := HB1.out.size; omega))
         have hltg9gA : g9 < gA := by omega
         have hltgA : gA < u2.heap.size := by omega
         clear hb2 hu2 hgA
         refine wpAnyH_ready (rs := [2, 3]) (by kernel_rfl) (by simp) (.cons rfl (fun K hK => ?_) (.cons rfl (fun K hK => ?_) .nil))
         ·refine step_at (by rfl) (.tmp 49) (.tmp 50) rfl rfl HA2.out rfl HNN.out rfl (HS5.out.b.below HB2.out) HS5.out.h0 (by have := HLN.out; simp; omega) HB2.out.size ?_
          intro vv u3 ho hg hd
          rw [List.nil_append] at ho hd
          obtain ⟨gV, cV, rfl, _, _, _, hgV, _⟩ := ho.some HNN.out hn0
          have hdV : gV = gA ∨ u2.heap.size ≤ gV := hd.elim (fun h => .inl (Option.some.inj h)) (fun h => .inr (World.ownsRow.lt h gV rfl).1)
          have hz3 : u2.heap.size ≤ u3.heap.size := hg.size
          have HB3 : Hid (Below w5.heap.size w5 u3) := Lib.hid (HB2.out.trans (HA2.out.below_at (Nat.le_refl _) HB2.out.size hg))
          have H93 : Hid (u3.heap[g9]? = some (.cells #[.int .i64 0, .slice none 0 0, .slice none 0 0] 25 (0, 0))) := Lib.hid (by rw [hg.block g9 (by omega) (fun e => by have := Option.some.inj e; omega)]; exact H92.out)
          have HV3 : Hid (Own u3 w5.heap.size (.slice (some ⟨gV, 0, none⟩) nn cV) ln) := Lib.hid ho
          clear ho hg hd
          refine hK.out _ _ (HKS.out _ HB3.out) (fun hHeld => ?_)
          clear hK K
          try simp only [Act.put, lq1, lq2, lq3, lq4, lq5, lq6]
          refine wpAnyH_ready (rs := [3]) (by kernel_rfl) (by simp) (.cons rfl (fun K hK => ?_) .nil)
          go_simp
          refine hK.out _ _ (HKS.out _ (HB3.out.alloc HB3.out.size _)) (fun hHeld => ?_)
          clear hK K
          try simp only [Act.put, lq1, lq2, lq3, lq4, lq5, lq6]
          obtain ⟨u4, hu4⟩ : ∃ x, x = u3.alloc (.cells #[.int .u8 0] 5) := ⟨_, rfl⟩
          rw [← hu4]
          obtain ⟨gC, hgC⟩ : ∃ x, x = u3.heap.size := ⟨_, rfl⟩
          rw [← hgC]
          have hz4 : u3.heap.size < u4.heap.size := by rw [hu4]; simp
          have hgegC : w5.heap.size ≤ gC := by have := HB3.out.size; omega
          have hb4 : Below u3.heap.size u3 u4 := by rw [hu4]; exact (Below.refl _ _).alloc (Nat.le_refl _) _
          have HB4 := hbt HB3 hb4
          have H94 : Hid (u4.heap[g9]? = some (.cells #[.int .i64 0, .slice none 0 0, .slice none 0 0] 25 (0, 0))) := Lib.hid (by rw [hb4.block g9 (by omega)]; exact H93.out)
          have HV4 : Hid (Own u4 w5.heap.size (.slice (some ⟨gV, 0, none⟩) nn cV) ln) := Lib.hid (HV3.out.below hb4)
          have HC4 : Hid (u4.heap[gC]? = some (.cells #[.int .u8 0] 5 (0, 0))) := Lib.hid (by rw [hu4, hgC]; exact heap_alloc_new u3 _)
          have hltg9gC : g9 < gC := by omega
          have hltgVgC : gV < gC := by omega
          have hltgC : gC < u4.heap.size := by omega
          clear hb4 hu4 hgC
          refine wpAnyH_ready (rs := [4]) (by kernel_rfl) (by simp) (.cons rfl (fun K hK => ?_) .nil)
          refine step_at (by rfl) (.tmp 51) (.tmp 52) rfl rfl HV4.out HNN.out (m := [0]) rfl rfl (Bs.of_block HC4.out rfl) (fun e => by cases e) (by have := HLN.out; simp; omega) HB4.out.size ?_
          intro vv u5 ho hg hd
          obtain ⟨mW, hmW⟩ : ∃ x, x = (ln ++ [(0 : UInt8)]).length := ⟨_, rfl⟩
          obtain ⟨pW, cW, rfl, hsW⟩ := ho.sl hmW
          have hz5 : u4.heap.size ≤ u5.heap.size := hg.size
          have HB5 : Hid (Below w5.heap.size w5 u5) := Lib.hid (HB4.out.trans (HV4.out.below_at (Nat.le_refl _) HB4.out.size hg))
          have H95 : Hid (u5.heap[g9]? = some (.cells #[.int .i64 0, .slice none 0 0, .slice none 0 0] 25 (0, 0))) := Lib.hid (by rw [hg.block g9 (by omega) (fun e => by have := Option.some.inj e; omega)]; exact H94.out)
          have HW5 : Hid (Sl u5 pW mW cW (ln ++ [0])) := Lib.hid hsW
          clear ho hg hd hsW hmW
          refine hK.out _ _ (HKS.out _ HB5.out) (fun hHeld => ?_)
          clear hK K
          try simp only [Act.put, lq1, lq2, lq3, lq4, lq5, lq6]
          refine wpAnyH_ready (rs := [7]) (by kernel_rfl) (by simp) (.cons rfl (fun K hK => ?_) .nil)
          go_simp
          refine (HM.out _ _ _ _ _ HW5.out).mono ?_
          rintro e u6 ⟨rfl, hb6⟩
          have hz6 : u5.heap.size ≤ u6.heap.size := hb6.size
          have HB6 := hbt HB5 hb6
          have H96 : Hid (u6.heap[g9]? = some (.cells #[.int .i64 0, .slice none 0 0, .slice none 0 0] 25 (0, 0))) := Lib.hid (by rw [hb6.block g9 (by omega)]; exact H95.out)
          dsimp only
          refine hK.out _ _ (HKS.out _ HB6.out) (fun hHeld => ?_)
          clear hK K hb6
          try simp only [Act.put, lq1, lq2, lq3, lq4, lq5, lq6]
          refine wpAnyH_take (i := 8) (v := ?_) rfl (by kernel_rfl) (by kernel_rfl) (by kernel_rfl) (fun _ _ _ h => nomatch h.1) (Or.inl ⟨by rfl, ?_⟩) (by assumption) ?_
          rotate_left
          ·intro w hSw; (try dsimp only at hSw); go_simp; try with_reducible rfl
          simp only [Act.put, lq1, lq2, lq3, lq4, lq5, lq6]
          refine wpAnyH_take (i := 9) (v := ?_) rfl (by kernel_rfl) (by kernel_rfl) (by kernel_rfl) (fun _ _ _ h => nomatch h.1) (Or.inl ⟨by rfl, ?_⟩) (by assumption) ?_
          rotate_left
          ·intro w hSw; (try dsimp only at hSw); go_simp; try with_reducible rfl
          simp only [Act.put, lq1, lq2, lq3, lq4, lq5, lq6]
          refine wpAnyH_take (i := 10) (v := ?_) rfl (by kernel_rfl) (by kernel_rfl) (by kernel_rfl) (fun _ _ _ h => nomatch h.1) (Or.inl ⟨by rfl, ?_⟩) (by assumption) ?_
          rotate_left
          ·intro w hSw; (try dsimp only at hSw); go_simp; try with_reducible rfl
          simp only [Act.put, lq1, lq2, lq3, lq4, lq5, lq6]
          refine wpAnyH_ready (rs := [12]) (by kernel_rfl) (by simp) (.cons rfl (fun K hK => ?_) .nil)
          obtain ⟨z0, j0⟩ := rd_at H96.out 0
          obtain ⟨z1, j1⟩ := rd_at H96.out 1
          obtain ⟨z2, j2⟩ := rd_at H96.out 2
          simp only [List.getElem?_toArray, List.getElem?_cons_zero, List.getElem?_cons_succ] at z0 z1 z2
          have h9lt : g9 < u6.heap.size := (Array.getElem?_eq_some_iff.1 H96.out).1
          go_simp
          refine hK.out _ _ (HKS.out _ (((HB6.out.setCell (p := ⟨g9, 0, none⟩) (by omega) _).setCell (p := ⟨g9, 1, none⟩) (by omega) _).setCell (p := ⟨g9, 2, none⟩) (by omega) _)) (fun hHeld => ?_)
          clear hK K
          try simp only [Act.put, lq1, lq2, lq3, lq4, lq5, lq6]
          obtain ⟨u7, hu7⟩ : ∃ x, x = (((u6.setCell ⟨g9, 0, none⟩ (.int .i64 0)).setCell ⟨g9, 1, none⟩ (.slice none 0 0)).setCell ⟨g9, 2, none⟩ (.slice none 0 0)) := ⟨_, rfl⟩
          have HB7 : Hid (Below w5.heap.size w5 u7) := Lib.hid (by rw [hu7]; exact (((HB6.out.setCell (p := ⟨g9, 0, none⟩) (by omega) _).setCell (p := ⟨g9, 1, none⟩) (by omega) _).setCell (p := ⟨g9, 2, none⟩) (by omega) _))
          rw [← hu7]
          clear hu7
          refine wpAnyH_ready (rs := [13]) (by kernel_rfl) (by simp) (.cons rfl (fun K hK => ?_) .nil)
          go_simp
          refine hK.out _ _ (HKS.out _ HB7.out) (fun hHeld => ?_)
          clear hK K
          try simp only [Act.put, lq1, lq2, lq3, lq4, lq5, lq6]
          have HB8 := Lib.hid HB7.out
          refine wpAnyH_done (by kernel_rfl) ?_ _
          exact ⟨rfl, ⟨_, _, _, _, _, _, _, _, _, _, _, _, rfl⟩, HB8.out⟩
         ·go_simp
          refine hK.out _ _ (HKS.out _ (HB2.out.alloc HB2.out.size _)) (fun hHeld => ?_)
          clear hK K
          try simp only [Act.put, lq1, lq2, lq3, lq4, lq5, lq6]
          obtain ⟨u3, hu3⟩ : ∃ x, x = u2.alloc (.cells #[.int .u8 0] 5) := ⟨_, rfl⟩
          rw [← hu3]
          obtain ⟨gC, hgC⟩ : ∃ x, x = u2.heap.size := ⟨_, rfl⟩
          rw [← hgC]
          have hz3 : u2.heap.size < u3.heap.size := by rw [hu3]; simp
          have hgegC : w5.heap.size ≤ gC := by have := HB2.out.size; omega
          have hb3 : Below u2.heap.size u2 u3 := by rw [hu3]; exact (Below.refl _ _).alloc (Nat.le_refl _) _
          have HB3 := hbt HB2 hb3
          have H93 : Hid (u3.heap[g9]? = some (.cells #[.int .i64 0, .slice none 0 0, .slice none 0 0] 25 (0, 0))) := Lib.hid (by rw [hb3.block g9 (by omega)]; exact H92.out)
          have HA3 : Hid (Own u3 w5.heap.size (.slice (some ⟨gA, 0, none⟩) 0 0) []) := Lib.hid (HA2.out.below hb3)
          have HC3 : Hid (u3.heap[gC]? = some (.cells #[.int .u8 0] 5 (0, 0))) := Lib.hid (by rw [hu3, hgC]; exact heap_alloc_new u2 _)
          have hltg9gC : g9 < gC := by omega
          have hltgAgC : gA < gC := by omega
          have hltgC : gC < u3.heap.size := by omega
          clear hb3 hu3 hgC
          refine wpAnyH_ready (rs := [2]) (by kernel_rfl) (by simp) (.cons rfl (fun K hK => ?_) .nil)
          refine step_at (by rfl) (.tmp 49) (.tmp 50) rfl rfl HA3.out rfl HNN.out rfl (HS5.out.b.below HB3.out) HS5.out.h0 (by have := HLN.out; simp; omega) HB3.out.size ?_
          intro vv u4 ho hg hd
          rw [List.nil_append] at ho hd
          obtain ⟨gV, cV, rfl, _, _, _, hgV, _⟩ := ho.some HNN.out hn0
          have hdV : gV = gA ∨ u3.heap.size ≤ gV := hd.elim (fun h => .inl (Option.some.inj h)) (fun h => .inr (World.ownsRow.lt h gV rfl).1)
          have hz4 : u3.heap.size ≤ u4.heap.size := hg.size
          have HB4 : Hid (Below w5.heap.size w5 u4) := Lib.hid (HB3.out.trans (HA3.out.below_at (Nat.le_refl _) HB3.out.size hg))
          have H94 : Hid (u4.heap[g9]? = some (.cells #[.int .i64 0, .slice none 0 0, .slice none 0 0] 25 (0, 0))) := Lib.hid (by rw [hg.block g9 (by omega) (fun e => by have := Option.some.inj e; omega)]; exact H93.out)
          have HC4 : Hid (u4.heap[gC]? = some (.cells #[.int .u8 0] 5 (0, 0))) := Lib.hid (by rw [hg.block gC (by omega) (fun e => by have := Option.some.inj e; omega)]; exact HC3.out)
          have HV4 : Hid (Own u4 w5.heap.size (.slice (some ⟨gV, 0, none⟩) nn cV) ln) := Lib.hid ho
          clear ho hg hd
          refine hK.out _ _ (HKS.out _ HB4.out) (fun hHeld => ?_)
          clear hK K
          try simp only [Act.put, lq1, lq2, lq3, lq4, lq5, lq6]
          refine wpAnyH_ready (rs := [4]) (by kernel_rfl) (by simp) (.cons rfl (fun K hK => ?_) .nil)
          refine step_at (by rfl) (.tmp 51) (.tmp 52) rfl rfl HV4.out HNN.out (m := [0]) rfl rfl (Bs.of_block HC4.out rfl) (fun e => by cases e) (by have := HLN.out; simp; omega) HB4.out.size ?_
          intro vv u5 ho hg hd
          obtain ⟨mW, hmW⟩ : ∃ x, x = (ln ++ [(0 : UInt8)]).length := ⟨_, rfl⟩
          obtain ⟨pW, cW, rfl, hsW⟩ := ho.sl hmW
          have hz5 : u4.heap.size ≤ u5.heap.size := hg.size
          have HB5 : Hid (Below w5.heap.size w5 u5) := Lib.hid (HB4.out.trans (HV4.out.below_at (Nat.le_refl _) HB4.out.size hg))
          have H95 : Hid (u5.heap[g9]? = some (.cells #[.int .i64 0, .slice none 0 0, .slice none 0 0] 25 (0, 0))) := Lib.hid (by rw [hg.block g9 (by omega) (fun e => by have := Option.some.inj e; omega)]; exact H94.out)
          have HW5 : Hid (Sl u5 pW mW cW (ln ++ [0])) := Lib.hid hsW
          clear ho hg hd hsW hmW
          refine hK.out _ _ (HKS.out _ HB5.out) (fun hHeld => ?_)
          clear hK K
          try simp only [Act.put, lq1, lq2, lq3, lq4, lq5, lq6]
          refine wpAnyH_ready (rs := [7]) (by kernel_rfl) (by simp) (.cons rfl (fun K hK => ?_) .nil)
          go_simp
          refine (HM.out _ _ _ _ _ HW5.out).mono ?_
          rintro e u6 ⟨rfl, hb6⟩
          have hz6 : u5.heap.size ≤ u6.heap.size := hb6.size
          have HB6 := hbt HB5 hb6
          have H96 : Hid (u6.heap[g9]? = some (.cells #[.int .i64 0, .slice none 0 0, .slice none 0 0] 25 (0, 0))) := Lib.hid (by rw [hb6.block g9 (by omega)]; exact H95.out)
          dsimp only
          refine hK.out _ _ (HKS.out _ HB6.out) (fun hHeld => ?_)
          clear hK K hb6
          try simp only [Act.put, lq1, lq2, lq3, lq4, lq5, lq6]
          refine wpAnyH_take (i := 8) (v := ?_) rfl (by kernel_rfl) (by kernel_rfl) (by kernel_rfl) (fun _ _ _ h => nomatch h.1) (Or.inl ⟨by rfl, ?_⟩) (by assumption) ?_
          rotate_left
          ·intro w hSw; (try dsimp only at hSw); go_simp; try with_reducible rfl
          simp only [Act.put, lq1, lq2, lq3, lq4, lq5, lq6]
          refine wpAnyH_take (i := 9) (v := ?_) rfl (by kernel_rfl) (by kernel_rfl) (by kernel_rfl) (fun _ _ _ h => nomatch h.1) (Or.inl ⟨by rfl, ?_⟩) (by assumption) ?_
          rotate_left
          ·intro w hSw; (try dsimp only at hSw); go_simp; try with_reducible rfl
          simp only [Act.put, lq1, lq2, lq3, lq4, lq5, lq6]
          refine wpAnyH_take (i := 10) (v := ?_) rfl (by kernel_rfl) (by kernel_rfl) (by kernel_rfl) (fun _ _ _ h => nomatch h.1) (Or.inl ⟨by rfl, ?_⟩) (by assumption) ?_
          rotate_left
          ·intro w hSw; (try dsimp only at hSw); go_simp; try with_reducible rfl
          simp only [Act.put, lq1, lq2, lq3, lq4, lq5, lq6]
          refine wpAnyH_ready (rs := [12]) (by kernel_rfl) (by simp) (.cons rfl (fun K hK => ?_) .nil)
          obtain ⟨z0, j0⟩ := rd_at H96.out 0
          obtain ⟨z1, j1⟩ := rd_at H96.out 1
          obtain ⟨z2, j2⟩ := rd_at H96.out 2
          simp only [List.getElem?_toArray, List.getElem?_cons_zero, List.getElem?_cons_succ] at z0 z1 z2
          have h9lt : g9 < u6.heap.size := (Array.getElem?_eq_some_iff.1 H96.out).1
          go_simp
          refine hK.out _ _ (HKS.out _ (((HB6.out.setCell (p := ⟨g9, 0, none⟩) (by omega) _).setCell (p := ⟨g9, 1, none⟩) (by omega) _).setCell (p := ⟨g9, 2, none⟩) (by omega) _)) (fun hHeld => ?_)
          clear hK K
          try simp only [Act.put, lq1, lq2, lq3, lq4, lq5, lq6]
          obtain ⟨u7, hu7⟩ : ∃ x, x = (((u6.setCell ⟨g9, 0, none⟩ (.int .i64 0)).setCell ⟨g9, 1, none⟩ (.slice none 0 0)).setCell ⟨g9, 2, none⟩ (.slice none 0 0)) := ⟨_, rfl⟩
          have HB7 : Hid (Below w5.heap.size w5 u7) := Lib.hid (by rw [hu7]; exact (((HB6.out.setCell (p := ⟨g9, 0, none⟩) (by omega) _).setCell (p := ⟨g9, 1, none⟩) (by omega) _).setCell (p := ⟨g9, 2, none⟩) (by omega) _))
          rw [← hu7]
          clear hu7
          refine wpAnyH_ready (rs := [13]) (by kernel_rfl) (by simp) (.cons rfl (fun K hK => ?_) .nil)
          go_simp
          refine hK.out _ _ (HKS.out _ HB7.out) (fun hHeld => ?_)
          clear hK K
          try simp only [Act.put, lq1, lq2, lq3, lq4, lq5, lq6]
          have HB8 := Lib.hid HB7.out
          refine wpAnyH_done (by kernel_rfl) ?_ _
          exact ⟨rfl, ⟨_, _, _, _, _, _, _, _, _, _, _, _, rfl⟩, HB8.out⟩
        ·go_simp
         refine hK.out _ _ (HKS.out _ (HB1.out.alloc HB1.out.size _)) (fun hHeld => ?_)
         clear hK K
         try simp only [Act.put, lq1, lq2, lq3, lq4, lq5, lq6]
         obtain ⟨u2, hu2⟩ : ∃ x, x = u1.alloc (.cells #[.int .u8 0] 5) := ⟨_, rfl⟩
         rw [← hu2]
         obtain ⟨gC, hgC⟩ : ∃ x, x = u1.heap.size := ⟨_, rfl⟩
         rw [← hgC]
         have hz2 : u1.heap.size < u2.heap.size := by rw [hu2]; simp
         have hgegC : w5.heap.size ≤ gC := by have := HB1.out.size; omega
         have hb2 : Below u1.heap.size u1 u2 := by rw [hu2]; exact (Below.refl _ _).alloc (Nat.le_refl _) _
         have HB2 := hbt HB1 hb2
         have H92 : Hid (u2.heap[g9]? = some (.cells #[.int .i64 0, .slice none 0 0, .slice none 0 0] 25 (0, 0))) := Lib.hid (by rw [hb2.block g9 (by omega)]; exact H91.out)
         have HC2 : Hid (u2.heap[gC]? = some (.cells #[.int .u8 0] 5 (0, 0))) := Lib.hid (by rw [hu2, hgC]; exact heap_alloc_new u1 _)
         have hltg9gC : g9 < gC := by omega
         have hltgC : gC < u2.heap.size := by omega
         clear hb2 hu2 hgC
         refine wpAnyH_ready (rs := [0]) (by kernel_rfl) (by simp) (.cons rfl (fun K hK => ?_) .nil)
         go_simp
         refine hK.out _ _ (HKS.out _ (HB2.out.alloc HB2.out.size _)) (fun hHeld => ?_)
         clear hK K
         try simp only [Act.put, lq1, lq2, lq3, lq4, lq5, lq6]
         obtain ⟨u3, hu3⟩ : ∃ x, x = u2.alloc (.cells #[] 5) := ⟨_, rfl⟩
         rw [← hu3]
         obtain ⟨gA, hgA⟩ : ∃ x, x = u2.heap.size := ⟨_, rfl⟩
         rw [← hgA]
         have hz3 : u2.heap.size < u3.heap.size := by rw [hu3]; simp
         have hgegA : w5.heap.size ≤ gA := by have := HB2.out.size; omega
         have hb3 : Below u2.heap.size u2 u3 := by rw [hu3]; exact (Below.refl _ _).alloc (Nat.le_refl _) _
         have HB3 := hbt HB2 hb3
         have H93 : Hid (u3.heap[g9]? = some (.cells #[.int .i64 0, .slice none 0 0, .slice none 0 0] 25 (0, 0))) := Lib.hid (by rw [hb3.block g9 (by omega)]; exact H92.out)
         have HC3 : Hid (u3.heap[gC]? = some (.cells #[.int .u8 0] 5 (0, 0))) := Lib.hid (by rw [hb3.block gC (by omega)]; exact HC2.out)
         have HA3 : Hid (Own u3 w5.heap.size (.slice (some ⟨gA, 0, none⟩) 0 0) []) := Lib.hid (by rw [hu3]; exact Own.fresh hgA (by have := HB2.out.size; omega))
         have hltg9gA : g9 < gA := by omega
         have hltgCgA : gC < gA := by omega
         have hltgA : gA < u3.heap.size := by omega
         clear hb3 hu3 hgA
         refine wpAnyH_ready (rs := [2]) (by kernel_rfl) (by simp) (.cons rfl (fun K hK => ?_) .nil)
         refine step_at (by rfl) (.tmp 49) (.tmp 50) rfl rfl HA3.out rfl HNN.out rfl (HS5.out.b.below HB3.out) HS5.out.h0 (by have := HLN.out; simp; omega) HB3.out.size ?_
         intro vv u4 ho hg hd
         rw [List.nil_append] at ho hd
         obtain ⟨gV, cV, rfl, _, _, _, hgV, _⟩ := ho.some HNN.out hn0
         have hdV : gV = gA ∨ u3.heap.size ≤ gV := hd.elim (fun h => .inl (Option.some.inj h)) (fun h => .inr (World.ownsRow.lt h gV rfl).1)
         have hz4 : u3.heap.size ≤ u4.heap.size := hg.size
         have HB4 : Hid (Below w5.heap.size w5 u4) := Lib.hid (HB3.out.trans (HA3.out.below_at (Nat.le_refl _) HB3.out.size hg))
         have H94 : Hid (u4.heap[g9]? = some (.cells #[.int .i64 0, .slice none 0 0, .slice none 0 0] 25 (0, 0))) := Lib.hid (by rw [hg.block g9 (by omega) (fun e => by have := Option.some.inj e; omega)]; exact H93.out)
         have HC4 : Hid (u4.heap[gC]? = some (.cells #[.int .u8 0] 5 (0, 0))) := Lib.hid (by rw [hg.block gC (by omega) (fun e => by have := Option.some.inj e; omega)]; exact HC3.out)
         have HV4 : Hid (Own u4 w5.heap.size (.slice (some ⟨gV, 0, none⟩) nn cV) ln) := Lib.hid ho
         clear ho hg hd
         refine hK.out _ _ (HKS.out _ HB4.out) (fun hHeld => ?_)
         clear hK K
         try simp only [Act.put, lq1, lq2, lq3, lq4, lq5, lq6]
         refine wpAnyH_ready (rs := [4]) (by kernel_rfl) (by simp) (.cons rfl (fun K hK => ?_) .nil)
         refine step_at (by rfl) (.tmp 51) (.tmp 52) rfl rfl HV4.out HNN.out (m := [0]) rfl rfl (Bs.of_block HC4.out rfl) (fun e => by cases e) (by have := HLN.out; simp; omega) HB4.out.size ?_
         intro vv u5 ho hg hd
         obtain ⟨mW, hmW⟩ : ∃ x, x = (ln ++ [(0 : UInt8)]).length := ⟨_, rfl⟩
         obtain ⟨pW, cW, rfl, hsW⟩ := ho.sl hmW
         have hz5 : u4.heap.size ≤ u5.heap.size := hg.size
         have HB5 : Hid (Below w5.heap.size w5 u5) := Lib.hid (HB4.out.trans (HV4.out.below_at (Nat.le_refl _) HB4.out.size hg))
         have H95 : Hid (u5.heap[g9]? = some (.cells #[.int .i64 0, .slice none 0 0, .slice none 0 0] 25 (0, 0))) := Lib.hid (by rw [hg.block g9 (by omega) (fun e => by have := Option.some.inj e; omega)]; exact H94.out)
         have HW5 : Hid (Sl u5 pW mW cW (ln ++ [0])) := Lib.hid hsW
         clear ho hg hd hsW hmW
         refine hK.out _ _ (HKS.out _ HB5.out) (fun hHeld => ?_)
         clear hK K
         try simp only [Act.put, lq1, lq2, lq3, lq4, lq5, lq6]
         refine wpAnyH_ready (rs := [7]) (by kernel_rfl) (by simp) (.cons rfl (fun K hK => ?_) .nil)
         go_simp
         refine (HM.out _ _ _ _ _ HW5.out).mono ?_
         rintro e u6 ⟨rfl, hb6⟩
         have hz6 : u5.heap.size ≤ u6.heap.size := hb6.size
         have HB6 := hbt HB5 hb6
         have H96 : Hid (u6.heap[g9]? = some (.cells #[.int .i64 0, .slice none 0 0, .slice none 0 0] 25 (0, 0))) := Lib.hid (by rw [hb6.block g9 (by omega)]; exact H95.out)
         dsimp only
         refine hK.out _ _ (HKS.out _ HB6.out) (fun hHeld => ?_)
         clear hK K hb6
         try simp only [Act.put, lq1, lq2, lq3, lq4, lq5, lq6]
         refine wpAnyH_take (i := 8) (v := ?_) rfl (by kernel_rfl) (by kernel_rfl) (by kernel_rfl) (fun _ _ _ h => nomatch h.1) (Or.inl ⟨by rfl, ?_⟩) (by assumption) ?_
         rotate_left
         ·intro w hSw; (try dsimp only at hSw); go_simp; try with_reducible rfl
         simp only [Act.put, lq1, lq2, lq3, lq4, lq5, lq6]
         refine wpAnyH_take (i := 9) (v := ?_) rfl (by kernel_rfl) (by kernel_rfl) (by kernel_rfl) (fun _ _ _ h => nomatch h.1) (Or.inl ⟨by rfl, ?_⟩) (by assumption) ?_
         rotate_left
         ·intro w hSw; (try dsimp only at hSw); go_simp; try with_reducible rfl
         simp only [Act.put, lq1, lq2, lq3, lq4, lq5, lq6]
         refine wpAnyH_take (i := 10) (v := ?_) rfl (by kernel_rfl) (by kernel_rfl) (by kernel_rfl) (fun _ _ _ h => nomatch h.1) (Or.inl ⟨by rfl, ?_⟩) (by assumption) ?_
         rotate_left
         ·intro w hSw; (try dsimp only at hSw); go_simp; try with_reducible rfl
         simp only [Act.put, lq1, lq2, lq3, lq4, lq5, lq6]
         refine wpAnyH_ready (rs := [12]) (by kernel_rfl) (by simp) (.cons rfl (fun K hK => ?_) .nil)
         obtain ⟨z0, j0⟩ := rd_at H96.out 0
         obtain ⟨z1, j1⟩ := rd_at H96.out 1
         obtain ⟨z2, j2⟩ := rd_at H96.out 2
         simp only [List.getElem?_toArray, List.getElem?_cons_zero, List.getElem?_cons_succ] at z0 z1 z2
         have h9lt : g9 < u6.heap.size := (Array.getElem?_eq_some_iff.1 H96.out).1
         go_simp
         refine hK.out _ _ (HKS.out _ (((HB6.out.setCell (p := ⟨g9, 0, none⟩) (by omega) _).setCell (p := ⟨g9, 1, none⟩) (by omega) _).setCell (p := ⟨g9, 2, none⟩) (by omega) _)) (fun hHeld => ?_)
         clear hK K
         try simp only [Act.put, lq1, lq2, lq3, lq4, lq5, lq6]
         obtain ⟨u7, hu7⟩ : ∃ x, x = (((u6.setCell ⟨g9, 0, none⟩ (.int .i64 0)).setCell ⟨g9, 1, none⟩ (.slice none 0 0)).setCell ⟨g9, 2, none⟩ (.slice none 0 0)) := ⟨_, rfl⟩
         have HB7 : Hid (Below w5.heap.size w5 u7) := Lib.hid (by rw [hu7]; exact (((HB6.out.setCell (p := ⟨g9, 0, none⟩) (by omega) _).setCell (p := ⟨g9, 1, none⟩) (by omega) _).setCell (p := ⟨g9, 2, none⟩) (by omega) _))
         rw [← hu7]
         clear hu7
         refine wpAnyH_ready (rs := [13]) (by kernel_rfl) (by simp) (.cons rfl (fun K hK => ?_) .nil)
         go_simp
         refine hK.out _ _ (HKS.out _ HB7.out) (fun hHeld => ?_)
         clear hK K
         try simp only [Act.put, lq1, lq2, lq3, lq4, lq5, lq6]
         have HB8 := Lib.hid HB7.out
         refine wpAnyH_done (by kernel_rfl) ?_ _
         exact ⟨rfl, ⟨_, _, _, _, _, _, _, _, _, _, _, _, rfl⟩, HB8.out⟩
      · rintro a' w6 ⟨⟨x1, x2, x3, x4, x5, x6, x7, x8, x9, x10, x11, x12, rfl⟩, hb6⟩
        simp only [Act.put, List.setIfInBounds_toArray, List.set_cons_zero, List.set_cons_succ]
        have HB6 : Hid (Below W.heap.size W w6) := Lib.hid (HB5.out.trans (hb6.mono HB5.out.size))
        obtain ⟨⟨k0, k1, k2⟩, k3, k4, k5, k6, k7⟩ := HK.out _ HB6.out
        have HY6 : Hid (w6.heap[w4.heap.size]? = some (.cells #[.int .i64 yi, .slice yq ym yc, .slice yq' ym' yc'] 25 (0, 0))) := Lib.hid (by rw [hb6.block _ (Array.getElem?_eq_some_iff.1 HY5.out).1]; exact HY5.out)
        obtain ⟨⟨z0, j0⟩, ⟨z1, j1⟩, ⟨z2, j2⟩⟩ : _ ∧ _ ∧ _ := ⟨rd_at HY6.out 0, rd_at HY6.out 1, rd_at HY6.out 2⟩
        simp only [List.getElem?_toArray, List.getElem?_cons_zero, List.getElem?_cons_succ] at z0 z1 z2
        have hn1 : ((nn : Int) == 0) = false := by rw [beq_eq_false_iff_ne]; omega
        have HB46 : Hid (Below w4.heap.size w4 w6) := Lib.hid (by have h5 : Below w4.heap.size w4 w5 := by rw [hw5.out]; exact (Below.refl _ _).alloc (Nat.le_refl _) _
                                                                  exact h5.trans (hb6.mono h5.size))
        have HS6 := Lib.hid (HS5.out.below hb6)
        clear hb6
        go_wp2_with fail
        refine (HSM.out _ HB46.out).mono ?_
        rintro e w7 ⟨rfl, hb7⟩
        have HB7 : Hid (Below W.heap.size W w7) := Lib.hid (HB6.out.trans (hb7.mono HB6.out.size))
        have HS7 := Lib.hid (HS6.out.below hb7)
        clear hb7 k0 k1 k2 k3 k4 k5 k6 k7 z0 z1 z2 j0 j1 j2 hn1
        obtain ⟨kk, hkk⟩ : ∃ kk, kk = nn - 1 := ⟨_, rfl⟩
        have hkn : (nn : Int) - 1 = (kk : Int) := by omega
        have hk1 : kk ≤ nn := by omega
        have hkc := HS7.out.h1
        have hk0 : (0 : Int) ≤ (kk : Int) := by omega
        have hk3 : (kk : Int) ≤ (c3 : Int) := by omega
        have HSL : Hid (Sl w7 p3 kk c3 (ln.take (ln.length - 1))) := Lib.hid ⟨HS7.out.b.take _, by have := HNN.out; rw [List.length_take]; omega, by omega, HS7.out.h2, HS7.out.h0, HS7.out.lo⟩
        obtain ⟨⟨k0, k1, k2⟩, k3, k4, k5, k6, k7⟩ := HK.out _ HB7.out
        have HKS7 : Hid (∀ w', Below w7.heap.size w7 w' → w'.cell? ⟨w.heap.size, 0, none⟩ = some (.int .i64 id)) := Lib.hid fun w' hb => (HK.out _ (HB7.out.trans (hb.mono HB7.out.size))).1.1
        clear HKS HS6 HS5 HB5 HY5 HY6 HB46 HSM
        go_wp2_with fail
        clear k0 k1 k2 k3 k4 k5 k6 k7
        refine wp_cut (fun a a' w' => (∃ x1 x2 x3 x4 x5 x6 x7 x8 x9 x10 x11 x12 : Value, a' = ((((((((((((a.put (some 77) x1).put (some 78) x2).put (some 79) x3).put (some 80) x4).put (some 81) x5).put (some 82) x6).put (some 83) x7).put (some 84) x8).put (some 76) x9).put (some 85) x10).put (some 86) x11).put (some 11) x12).put (some 12) (.int .i64 11)) ∧ Below w7.heap.size w7 w') ?_ ?_
        · obtain ⟨g3, o3, rfl, _, _⟩ := HS7.out.b.at hpos
          have hwk1 : IntKind.i64.wrap ((nn : Int) - 1) = (kk : Int) := by rw [hkn, IntKind.wrap_i64]; have := HS7.out.h2; omega
          have hwk2 : IntKind.i64.wrap (kk : Int) = (kk : Int) := by rw [IntKind.wrap_i64]; have := HS7.out.h2; omega
          clear hkk
          go_region_held3 (fun w' => w'.cell? ⟨w.heap.size, 0, none⟩ = some (.int .i64 id))
            (first | exact HKS7.out _ (Below.refl _ _).drew | exact HKS7.out _ HB9.out | exact HKS7.out _ (rbox1d w7 _) | exact HKS7.out _ ((Below.refl _ _).drew.alloc (Nat.le_refl _) _) | exact HKS7.out _ (HB9.out.alloc HB9.out.size _) | exact HKS7.out _ (((HB9.out.setCell (p := ⟨w7.heap.size, 0, none⟩) (Nat.le_refl _) _).setCell (p := ⟨w7.heap.size, 1, none⟩) (Nat.le_refl _) _).setCell (p := ⟨w7.heap.size, 2, none⟩) (Nat.le_refl _) _))
            (first
              | (go_at_call 8; refine (HL.out _ _ _ _ (HSL.out.below (Below.refl _ _).drew)).mono ?_; rintro e w9 ⟨rfl, hb9⟩; have HB9 : Hid (Below w7.heap.size w7 w9) := Lib.hid ((Below.refl _ _).drew.trans hb9); clear hb9)
              | (go_at_call 8; refine (HL.out _ _ _ _ (HSL.out.below (rbox1d w7 _))).mono ?_; rintro e w9 ⟨rfl, hb9⟩; have HB9 : Hid (Below w7.heap.size w7 w9) := Lib.hid ((rbox1d w7 _).trans (hb9.mono (rbox1d w7 _).size)); have HBX := Lib.hid (rbox1n hb9); have c0 : w9.cell? ⟨w7.heap.size, 0, none⟩ = some (.int .i64 0) := (Joins.cell_of_block HBX.out 0).trans rfl; have f0 : w9.frozen? ⟨w7.heap.size, 0, none⟩ = false := Joins.unfrozen_of_block HBX.out _; have c1 : w9.cell? ⟨w7.heap.size, 1, none⟩ = some (.slice none 0 0) := (Joins.cell_of_block HBX.out 1).trans rfl; have f1 : w9.frozen? ⟨w7.heap.size, 1, none⟩ = false := Joins.unfrozen_of_block HBX.out _; have c2 : w9.cell? ⟨w7.heap.size, 2, none⟩ = some (.slice none 0 0) := (Joins.cell_of_block HBX.out 2).trans rfl; have f2 : w9.frozen? ⟨w7.heap.size, 2, none⟩ = false := Joins.unfrozen_of_block HBX.out _; clear hb9))
          all_goals first
            | exact ⟨rfl, ⟨_, _, _, _, _, _, _, _, _, _, _, _, rfl⟩, HB9.out.alloc HB9.out.size _⟩
            | exact ⟨rfl, ⟨_, _, _, _, _, _, _, _, _, _, _, _, rfl⟩, (((HB9.out.setCell (p := ⟨w7.heap.size, 0, none⟩) (Nat.le_refl _) _).setCell (p := ⟨w7.heap.size, 1, none⟩) (Nat.le_refl _) _).setCell (p := ⟨w7.heap.size, 2, none⟩) (Nat.le_refl _) _)⟩
        · rintro a' w8 ⟨⟨x21, x22, x23, x24, x25, x26, x27, x28, x29, x30, x31, x32, rfl⟩, hb8⟩
          simp only [Act.put, List.setIfInBounds_toArray, List.set_cons_zero, List.set_cons_succ]
          have HB8 : Hid (Below W.heap.size W w8) := Lib.hid (HB7.out.trans (hb8.mono HB7.out.size))
          obtain ⟨⟨k0, k1, k2⟩, k3, k4, k5, k6, k7⟩ := HK.out _ HB8.out
          clear hb8
          go_wp2_with fail
          go_meet
          exact HB8.out
    · have hen2 : (en == 0) = false := by simpa using hen
      go_wp2_with fail
      go_meet
      exact HB3.out
  case rest =>
    have HBc : Hid (Below W.heap.size W wc) := Lib.hid hcut
    clear hcut HB3 HS3 k0 k1 k2 k3 k4 k5 k6 k7 hw3 HRN HN1
    obtain ⟨⟨k0, k1, k2⟩, k3, k4, k5, k6, k7⟩ := HK.out _ HBc.out
    have hwc : w.heap.size + 1 < wc.heap.size := by have := HWs.out; have := HBc.out.size; omega
    go_wp2_with fail
    refine (HE1.out _ (HWB.out _ HBc.out)).mono ?_
    rintro e wE ⟨v3, rfl, ho3, hb3⟩
    have HBE : Hid (Below W.heap.size W wE) := Lib.hid (HBc.out.trans (hb3.mono HBc.out.size))
    obtain ⟨pE, cE, rfl, hsE⟩ := ho3.sl HNE.out
    have HSE := Lib.hid hsE
    clear hb3 ho3 hsE k0 k1 k2 k3 k4 k5 k6 k7 hwc
    obtain ⟨⟨k0, k1, k2⟩, k3, k4, k5, k6, k7⟩ := HK.out _ HBE.out
    have hwE : w.heap.size + 1 < wE.heap.size := by have := HWs.out; have := HBE.out.size; omega
    go_upto_if 95 with fail
    go_cut [6] from 19 to 142 (fun x6 wx => Below W.heap.size W wx)
    case first =>
      by_cases hee : ee = 0
      · subst hee
        obtain ⟨hpos, hln, HY, HM⟩ := HRE.out le rfl
        have HLN := Lib.hid hln
        have HY := Lib.hid HY
        have HM := Lib.hid HM
        go_wp2_with fail
        refine (HY.out _ _ _ _ (HWB.out _ HBE.out) HSE.out).mono ?_
        rintro e w4 ⟨⟨y, rfl, hy, hsm⟩, hb4⟩
        obtain ⟨yi, yt, yf, yo, yq, ym, yc, yp⟩ := y
        dsimp only [Ed.cell] at hsm ⊢
        have HSM := Lib.hid hsm
        have HB4 : Hid (Below W.heap.size W w4) := Lib.hid (HBE.out.trans (hb4.mono HBE.out.size))
        have HS4 := Lib.hid (HSE.out.below hb4)
        clear hy hsm hb4 k0 k1 k2 k3 k4 k5 k6 k7 hwE
        obtain ⟨⟨k0, k1, k2⟩, k3, k4, k5, k6, k7⟩ := HK.out _ HB4.out
        have hw4 : w.heap.size + 1 < w4.heap.size := by have := HWs.out; have := HB4.out.size; omega
        clear HY
        go_wp2_with fail
        obtain ⟨w5, hw5⟩ : ∃ x, x = w4.alloc (.cells #[.int .i64 yi, .string yt, .int .i64 yf, .int .i64 yo, .slice yq ym yc] 27) := ⟨_, rfl⟩
        rw [← hw5]
        have HB5 : Hid (Below W.heap.size W w5) := Lib.hid (by rw [hw5]; exact HB4.out.alloc HB4.out.size _)
        have HS5 : Hid (Sl w5 pE ne cE le) := Lib.hid (by rw [hw5]; exact HS4.out.below ((Below.refl _ _).alloc (Nat.le_refl _) _))
        have HY5 : Hid (w5.heap[w4.heap.size]? = some (.cells #[.int .i64 yi, .string yt, .int .i64 yf, .int .i64 yo, .slice yq ym yc] 27 (0, 0))) := Lib.hid (by rw [hw5]; exact heap_alloc_new w4 _)
        have HKS : Hid (∀ w', Below w5.heap.size w5 w' → w'.cell? ⟨w.heap.size + 1, 0, none⟩ = some (.int .i64 ie)) := Lib.hid fun w' hb => (HK.out _ (HB5.out.trans (hb.mono HB5.out.size))).2.1
        have hn0 : 0 < ne := by have := HNE.out; omega
        replace hw5 := Lib.hid hw5
        clear k0 k1 k2 k3 k4 k5 k6 k7 hw4 HB4 HS4
        refine wp_cut (fun a a' w' => (∃ x1 x2 x3 x4 x5 x6 x7 x8 x9 x10 x11 x12 : Value, a' = ((((((((((((a.put (some 104) x1).put (some 105) x2).put (some 106) x3).put (some 107) x4).put (some 108) x5).put (some 109) x6).put (some 110) x7).put (some 111) x8).put (some 103) x9).put (some 112) x10).put (some 113) x11).put (some 16) x12).put (some 17) (.int .i64 11)) ∧ Below w5.heap.size w5 w') ?_ ?_
        ·refine wp_region_held_drew (S := fun w' => w'.cell? ⟨w.heap.size + 1, 0, none⟩ = some (.int .i64 ie)) (by kernel_rfl) (HKS.out _ (Below.refl _ _).drew) (fun hHeld => ?_)
         obtain ⟨u0, hu0⟩ : ∃ x, x = w5.drew := ⟨_, rfl⟩
         rw [← hu0] at hHeld ⊢
         have HB0 : Hid (Below w5.heap.size w5 u0) := Lib.hid (by rw [hu0]; exact (Below.refl _ _).drew)
         clear hu0
         refine wpAnyH_take (i := 1) (v := ?_) rfl (by kernel_rfl) (by kernel_rfl) (by kernel_rfl) (fun _ _ _ h => nomatch h.1) (Or.inl ⟨by rfl, ?_⟩) (by assumption) ?_
         rotate_left
         ·intro w hSw; (try dsimp only at hSw); go_simp; try with_reducible rfl
         simp only [Act.put, lq1, lq2, lq3, lq4, lq5, lq6]
         refine wpAnyH_take (i := 5) (v := ?_) rfl (by kernel_rfl) (by kernel_rfl) (by kernel_rfl) (fun _ _ _ h => nomatch h.1) (Or.inl ⟨by rfl, ?_⟩) (by assumption) ?_
         rotate_left
         ·intro w hSw; (try dsimp only at hSw); go_simp; try with_reducible rfl
         simp only [Act.put, lq1, lq2, lq3, lq4, lq5, lq6]
         refine wpAnyH_take (i := 6) (v := ?_) rfl (by kernel_rfl) (by kernel_rfl) (by kernel_rfl) (fun _ _ _ h => nomatch h.1) (Or.inl ⟨by rfl, ?_⟩) (by assumption) ?_
         rotate_left
         ·intro w hSw; (try dsimp only at hSw); go_simp; try with_reducible rfl
         simp only [Act.put, lq1, lq2, lq3, lq4, lq5, lq6]
         refine wpAnyH_ready (rs := [0, 3, 11]) (by kernel_rfl) (by simp) (.cons rfl (fun K hK => ?_) (.cons rfl (fun K hK => ?_) (.cons rfl (fun K hK => ?_) .nil)))
         ·go_simp
          refine hK.out _ _ (HKS.out _ (HB0.out.alloc HB0.out.size _)) (fun hHeld => ?_)
          clear hK K
          try simp only [Act.put, lq1, lq2, lq3, lq4, lq5, lq6]
          obtain ⟨u1, hu1⟩ : ∃ x, x = u0.alloc (.cells #[] 5) := ⟨_, rfl⟩
          rw [← hu1]
          obtain ⟨gA, hgA⟩ : ∃ x, x = u0.heap.size := ⟨_, rfl⟩
          rw [← hgA]
          have hz1 : u0.heap.size < u1.heap.size := by rw [hu1]; simp
          have hgegA : w5.heap.size ≤ gA := by have := HB0.out.size; omega
          have hb1 : Below u0.heap.size u0 u1 := by rw [hu1]; exact (Below.refl _ _).alloc (Nat.le_refl _) _
          have HB1 := hbt HB0 hb1
          have HA1 : Hid (Own u1 w5.heap.size (.slice (some ⟨gA, 0, none⟩) 0 0) []) := Lib.hid (by rw [hu1]; exact Own.fresh hgA (by have := HB0.out.size; omega))
          have hltgA : gA < u1.heap.size := by omega
          clear hb1 hu1 hgA
          refine wpAnyH_ready (rs := [2, 3, 11]) (by kernel_rfl) (by simp) (.cons rfl (fun K hK => ?_) (.cons rfl (fun K hK => ?_) (.cons rfl (fun K hK => ?_) .nil)))
          ·refine step_at (by rfl) (.tmp 104) (.tmp 105) rfl rfl HA1.out rfl HNE.out rfl (HS5.out.b.below HB1.out) HS5.out.h0 (by have := HLN.out; simp; omega) HB1.out.size ?_
           intro vv u2 ho hg hd
           rw [List.nil_append] at ho hd
           obtain ⟨gV, cV, rfl, _, _, _, hgV, _⟩ := ho.some HNE.out hn0
           have hdV : gV = gA ∨ u1.heap.size ≤ gV := hd.elim (fun h => .inl (Option.some.inj h)) (fun h => .inr (World.ownsRow.lt h gV rfl).1)
           have hz2 : u1.heap.size ≤ u2.heap.size := hg.size
           have HB2 : Hid (Below w5.heap.size w5 u2) := Lib.hid (HB1.out.trans (HA1.out.below_at (Nat.le_refl _) HB1.out.size hg))
           have HV2 : Hid (Own u2 w5.heap.size (.slice (some ⟨gV, 0, none⟩) ne cV) le) := Lib.hid ho
           clear ho hg hd
           refine hK.out _ _ (HKS.out _ HB2.out) (fun hHeld => ?_)
           clear hK K
           try simp only [Act.put, lq1, lq2, lq3, lq4, lq5, lq6]
           refine wpAnyH_ready (rs := [3, 11]) (by kernel_rfl) (by simp) (.cons rfl (fun K hK => ?_) (.cons rfl (fun K hK => ?_) .nil))
           ·go_simp
            refine hK.out _ _ (HKS.out _ (HB2.out.alloc HB2.out.size _)) (fun hHeld => ?_)
            clear hK K
            try simp only [Act.put, lq1, lq2, lq3, lq4, lq5, lq6]
            obtain ⟨u3, hu3⟩ : ∃ x, x = u2.alloc (.cells #[.int .u8 0] 5) := ⟨_, rfl⟩
            rw [← hu3]
            obtain ⟨gC, hgC⟩ : ∃ x, x = u2.heap.size := ⟨_, rfl⟩
            rw [← hgC]
            have hz3 : u2.heap.size < u3.heap.size := by rw [hu3]; simp
            have hgegC : w5.heap.size ≤ gC := by have := HB2.out.size; omega
            have hb3 : Below u2.heap.size u2 u3 := by rw [hu3]; exact (Below.refl _ _).alloc (Nat.le_refl _) _
            have HB3 := hbt HB2 hb3
            have HV3 : Hid (Own u3 w5.heap.size (.slice (some ⟨gV, 0, none⟩) ne cV) le) := Lib.hid (HV2.out.below hb3)
            have HC3 : Hid (u3.heap[gC]? = some (.cells #[.int .u8 0] 5 (0, 0))) := Lib.hid (by rw [hu3, hgC]; exact heap_alloc_new u2 _)
            have hltgVgC : gV < gC := by omega
            have hltgC : gC < u3.heap.size := by omega
            clear hb3 hu3 hgC
            refine wpAnyH_ready (rs := [4, 11]) (by kernel_rfl) (by simp) (.cons rfl (fun K hK => ?_) (.cons rfl (fun K hK => ?_) .nil))
            ·refine step_at (by rfl) (.tmp 106) (.tmp 107) rfl rfl HV3.out HNE.out (m := [0]) rfl rfl (Bs.of_block HC3.out rfl) (fun e => by cases e) (by have := HLN.out; simp; omega) HB3.out.size ?_
             intro vv u4 ho hg hd
             obtain ⟨mW, hmW⟩ : ∃ x, x = (le ++ [(0 : UInt8)]).length := ⟨_, rfl⟩
             obtain ⟨pW, cW, rfl, hsW⟩ := ho.sl hmW
             have hz4 : u3.heap.size ≤ u4.heap.size := hg.size
             have HB4 : Hid (Below w5.heap.size w5 u4) := Lib.hid (HB3.out.trans (HV3.out.below_at (Nat.le_refl _) HB3.out.size hg))
             have HW4 : Hid (Sl u4 pW mW cW (le ++ [0])) := Lib.hid hsW
             clear ho hg hd hsW hmW
             refine hK.out _ _ (HKS.out _ HB4.out) (fun hHeld => ?_)
             clear hK K
             try simp only [Act.put, lq1, lq2, lq3, lq4, lq5, lq6]
             refine wpAnyH_ready (rs := [7, 11]) (by kernel_rfl) (by simp) (.cons rfl (fun K hK => ?_) (.cons rfl (fun K hK => ?_) .nil))
             ·go_simp
              refine (HM.out _ _ _ _ _ HW4.out).mono ?_
              rintro e u5 ⟨rfl, hb5⟩
              have hz5 : u4.heap.size ≤ u5.heap.size := hb5.size
              have HB5 := hbt HB4 hb5
              dsimp only
              refine hK.out _ _ (HKS.out _ HB5.out) (fun hHeld => ?_)
              clear hK K hb5
              try simp only [Act.put, lq1, lq2, lq3, lq4, lq5, lq6]
              refine wpAnyH_take (i := 8) (v := ?_) rfl (by kernel_rfl) (by kernel_rfl) (by kernel_rfl) (fun _ _ _ h => nomatch h.1) (Or.inl ⟨by rfl, ?_⟩) (by assumption) ?_
              rotate_left
              ·intro w hSw; (try dsimp only at hSw); go_simp; try with_reducible rfl
              simp only [Act.put, lq1, lq2, lq3, lq4, lq5, lq6]
              refine wpAnyH_take (i := 9) (v := ?_) rfl (by kernel_rfl) (by kernel_rfl) (by kernel_rfl) (fun _ _ _ h => nomatch h.1) (Or.inl ⟨by rfl, ?_⟩) (by assumption) ?_
              rotate_left
              ·intro w hSw; (try dsimp only at hSw); go_simp; try with_reducible rfl
              simp only [Act.put, lq1, lq2, lq3, lq4, lq5, lq6]
              refine wpAnyH_take (i := 10) (v := ?_) rfl (by kernel_rfl) (by kernel_rfl) (by kernel_rfl) (fun _ _ _ h => nomatch h.1) (Or.inl ⟨by rfl, ?_⟩) (by assumption) ?_
              rotate_left
              ·intro w hSw; (try dsimp only at hSw); go_simp; try with_reducible rfl
              simp only [Act.put, lq1, lq2, lq3, lq4, lq5, lq6]
              refine wpAnyH_ready (rs := [11]) (by kernel_rfl) (by simp) (.cons rfl (fun K hK => ?_) .nil)
              go_simp
              refine hK.out _ _ (HKS.out _ (HB5.out.alloc HB5.out.size _)) (fun hHeld => ?_)
              clear hK K
              try simp only [Act.put, lq1, lq2, lq3, lq4, lq5, lq6]
              obtain ⟨u6, hu6⟩ : ∃ x, x = u5.alloc (.cells #[.int .i64 0, .string ⟨#[]⟩, .int .i64 0, .int .i64 0, .slice none 0 0] 27) := ⟨_, rfl⟩
              rw [← hu6]
              obtain ⟨g9, hg9⟩ : ∃ x, x = u5.heap.size := ⟨_, rfl⟩
              rw [← hg9]
              have hz6 : u5.heap.size < u6.heap.size := by rw [hu6]; simp
              have hgeg9 : w5.heap.size ≤ g9 := by have := HB5.out.size; omega
              have hb6 : Below u5.heap.size u5 u6 := by rw [hu6]; exact (Below.refl _ _).alloc (Nat.le_refl _) _
              have HB6 := hbt HB5 hb6
              have H96 : Hid (u6.heap[g9]? = some (.cells #[.int .i64 0, .string ⟨#[]⟩, .int .i64 0, .int .i64 0, .slice none 0 0] 27 (0, 0))) := Lib.hid (by rw [hu6, hg9]; exact heap_alloc_new u5 _)
              have hltg9 : g9 < u6.heap.size := by omega
              clear hb6 hu6 hg9
              refine wpAnyH_ready (rs := [12]) (by kernel_rfl) (by simp) (.cons rfl (fun K hK => ?_) .nil)
              obtain ⟨z0, j0⟩ := rd_at H96.out 0
              obtain ⟨z1, j1⟩ := rd_at H96.out 1
              obtain ⟨z2, j2⟩ := rd_at H96.out 2
              obtain ⟨z3, j3⟩ := rd_at H96.out 3
              obtain ⟨z4, j4⟩ := rd_at H96.out 4
              simp only [List.getElem?_toArray, List.getElem?_cons_zero, List.getElem?_cons_succ] at z0 z1 z2 z3 z4
              have h9lt : g9 < u6.heap.size := (Array.getElem?_eq_some_iff.1 H96.out).1
              go_simp
              refine hK.out _ _ (HKS.out _ (((((HB6.out.setCell (p := ⟨g9, 0, none⟩) (by omega) _).setCell (p := ⟨g9, 1, none⟩) (by omega) _).setCell (p := ⟨g9, 2, none⟩) (by omega) _).setCell (p := ⟨g9, 3, none⟩) (by omega) _).setCell (p := ⟨g9, 4, none⟩) (by omega) _)) (fun hHeld => ?_)
              clear hK K
              try simp only [Act.put, lq1, lq2, lq3, lq4, lq5, lq6]
              obtain ⟨u7, hu7⟩ : ∃ x, x = (((((u6.setCell ⟨g9, 0, none⟩ (.int .i64 0)).setCell ⟨g9, 1, none⟩ (.string ⟨#[]⟩)).setCell ⟨g9, 2, none⟩ (.int .i64 0)).setCell ⟨g9, 3, none⟩ (.int .i64 0)).setCell ⟨g9, 4, none⟩ (.slice none 0 0)) := ⟨_, rfl⟩
              have HB7 : Hid (Below w5.heap.size w5 u7) := Lib.hid (by rw [hu7]; exact (((((HB6.out.setCell (p := ⟨g9, 0, none⟩) (by omega) _).setCell (p := ⟨g9, 1, none⟩) (by omega) _).setCell (p := ⟨g9, 2, none⟩) (by omega) _).setCell (p := ⟨g9, 3, none⟩) (by omega) _).setCell (p := ⟨g9, 4, none⟩) (by omega) _))
              rw [← hu7]
              clear hu7
              refine wpAnyH_ready (rs := [13]) (by kernel_rfl) (by simp) (.cons rfl (fun K hK => ?_) .nil)
              go_simp
              refine hK.out _ _ (HKS.out _ HB7.out) (fun hHeld => ?_)
              clear hK K
              try simp only [Act.put, lq1, lq2, lq3, lq4, lq5, lq6]
              have HB8 := Lib.hid HB7.out
              refine wpAnyH_done (by kernel_rfl) ?_ _
              exact ⟨rfl, ⟨_, _, _, _, _, _, _, _, _, _, _, _, rfl⟩, HB8.out⟩
             ·go_simp
              refine hK.out _ _ (HKS.out _ (HB4.out.alloc HB4.out.size _)) (fun hHeld => ?_)
              clear hK K
              try simp only [Act.put, lq1, lq2, lq3, lq4, lq5, lq6]
              obtain ⟨u5, hu5⟩ : ∃ x, x = u4.alloc (.cells #[.int .i64 0, .string ⟨#[]⟩, .int .i64 0, .int .i64 0, .slice none 0 0] 27) := ⟨_, rfl⟩
              rw [← hu5]
              obtain ⟨g9, hg9⟩ : ∃ x, x = u4.heap.size := ⟨_, rfl⟩
              rw [← hg9]
              have hz5 : u4.heap.size < u5.heap.size := by rw [hu5]; simp
              have hgeg9 : w5.heap.size ≤ g9 := by have := HB4.out.size; omega
              have hb5 : Below u4.heap.size u4 u5 := by rw [hu5]; exact (Below.refl _ _).alloc (Nat.le_refl _) _
              have HB5 := hbt HB4 hb5
              have HW5 : Hid (Sl u5 pW mW cW (le ++ [0])) := Lib.hid (HW4.out.below hb5)
              have H95 : Hid (u5.heap[g9]? = some (.cells #[.int .i64 0, .string ⟨#[]⟩, .int .i64 0, .int .i64 0, .slice none 0 0] 27 (0, 0))) := Lib.hid (by rw [hu5, hg9]; exact heap_alloc_new u4 _)
              have hltg9 : g9 < u5.heap.size := by omega
              clear hb5 hu5 hg9
              refine wpAnyH_ready (rs := [7]) (by kernel_rfl) (by simp) (.cons rfl (fun K hK => ?_) .nil)
              go_simp
              refine (HM.out _ _ _ _ _ HW5.out).mono ?_
              rintro e u6 ⟨rfl, hb6⟩
              have hz6 : u5.heap.size ≤ u6.heap.size := hb6.size
              have HB6 := hbt HB5 hb6
              have H96 : Hid (u6.heap[g9]? = some (.cells #[.int .i64 0, .string ⟨#[]⟩, .int .i64 0, .int .i64 0, .slice none 0 0] 27 (0, 0))) := Lib.hid (by rw [hb6.block g9 (by omega)]; exact H95.out)
              dsimp only
              refine hK.out _ _ (HKS.out _ HB6.out) (fun hHeld => ?_)
              clear hK K hb6
              try simp only [Act.put, lq1, lq2, lq3, lq4, lq5, lq6]
              refine wpAnyH_take (i := 8) (v := ?_) rfl (by kernel_rfl) (by kernel_rfl) (by kernel_rfl) (fun _ _ _ h => nomatch h.1) (Or.inl ⟨by rfl, ?_⟩) (by assumption) ?_
              rotate_left
              ·intro w hSw; (try dsimp only at hSw); go_simp; try with_reducible rfl
              simp only [Act.put, lq1, lq2, lq3, lq4, lq5, lq6]
              refine wpAnyH_take (i := 9) (v := ?_) rfl (by kernel_rfl) (by kernel_rfl) (by kernel_rfl) (fun _ _ _ h => nomatch h.1) (Or.inl ⟨by rfl, ?_⟩) (by assumption) ?_
              rotate_left
              ·intro w hSw; (try dsimp only at hSw); go_simp; try with_reducible rfl
              simp only [Act.put, lq1, lq2, lq3, lq4, lq5, lq6]
              refine wpAnyH_take (i := 10) (v := ?_) rfl (by kernel_rfl) (by kernel_rfl) (by kernel_rfl) (fun _ _ _ h => nomatch h.1) (Or.inl ⟨by rfl, ?_⟩) (by assumption) ?_
              rotate_left
              ·intro w hSw; (try dsimp only at hSw); go_simp; try with_reducible rfl
              simp only [Act.put, lq1, lq2, lq3, lq4, lq5, lq6]
              refine wpAnyH_ready (rs := [12]) (by kernel_rfl) (by simp) (.cons rfl (fun K hK => ?_) .nil)
              obtain ⟨z0, j0⟩ := rd_at H96.out 0
              obtain ⟨z1, j1⟩ := rd_at H96.out 1
              obtain ⟨z2, j2⟩ := rd_at H96.out 2
              obtain ⟨z3, j3⟩ := rd_at H96.out 3
              obtain ⟨z4, j4⟩ := rd_at H96.out 4
              simp only [List.getElem?_toArray, List.getElem?_cons_zero, List.getElem?_cons_succ] at z0 z1 z2 z3 z4
              have h9lt : g9 < u6.heap.size := (Array.getElem?_eq_some_iff.1 H96.out).1
              go_simp
              refine hK.out _ _ (HKS.out _ (((((HB6.out.setCell (p := ⟨g9, 0, none⟩) (by omega) _).setCell (p := ⟨g9, 1, none⟩) (by omega) _).setCell (p := ⟨g9, 2, none⟩) (by omega) _).setCell (p := ⟨g9, 3, none⟩) (by omega) _).setCell (p := ⟨g9, 4, none⟩) (by omega) _)) (fun hHeld => ?_)
              clear hK K
              try simp only [Act.put, lq1, lq2, lq3, lq4, lq5, lq6]
              obtain ⟨u7, hu7⟩ : ∃ x, x = (((((u6.setCell ⟨g9, 0, none⟩ (.int .i64 0)).setCell ⟨g9, 1, none⟩ (.string ⟨#[]⟩)).setCell ⟨g9, 2, none⟩ (.int .i64 0)).setCell ⟨g9, 3, none⟩ (.int .i64 0)).setCell ⟨g9, 4, none⟩ (.slice none 0 0)) := ⟨_, rfl⟩
              have HB7 : Hid (Below w5.heap.size w5 u7) := Lib.hid (by rw [hu7]; exact (((((HB6.out.setCell (p := ⟨g9, 0, none⟩) (by omega) _).setCell (p := ⟨g9, 1, none⟩) (by omega) _).setCell (p := ⟨g9, 2, none⟩) (by omega) _).setCell (p := ⟨g9, 3, none⟩) (by omega) _).setCell (p := ⟨g9, 4, none⟩) (by omega) _))
              rw [← hu7]
              clear hu7
              refine wpAnyH_ready (rs := [13]) (by kernel_rfl) (by simp) (.cons rfl (fun K hK => ?_) .nil)
              go_simp
              refine hK.out _ _ (HKS.out _ HB7.out) (fun hHeld => ?_)
              clear hK K
              try simp only [Act.put, lq1, lq2, lq3, lq4, lq5, lq6]
              have HB8 := Lib.hid HB7.out
              refine wpAnyH_done (by kernel_rfl) ?_ _
              exact ⟨rfl, ⟨_, _, _, _, _, _, _, _, _, _, _, _, rfl⟩, HB8.out⟩
            ·go_simp
             refine hK.out _ _ (HKS.out _ (HB3.out.alloc HB3.out.size _)) (fun hHeld => ?_)
             clear hK K
             try simp only [Act.put, lq1, lq2, lq3, lq4, lq5, lq6]
             obtain ⟨u4, hu4⟩ : ∃ x, x = u3.alloc (.cells #[.int .i64 0, .string ⟨#[]⟩, .int .i64 0, .int .i64 0, .slice none 0 0] 27) := ⟨_, rfl⟩
             rw [← hu4]
             obtain ⟨g9, hg9⟩ : ∃ x, x = u3.heap.size := ⟨_, rfl⟩
             rw [← hg9]
             have hz4 : u3.heap.size < u4.heap.size := by rw [hu4]; simp
             have hgeg9 : w5.heap.size ≤ g9 := by have := HB3.out.size; omega
             have hb4 : Below u3.heap.size u3 u4 := by rw [hu4]; exact (Below.refl _ _).alloc (Nat.le_refl _) _
             have HB4 := hbt HB3 hb4
             have HC4 : Hid (u4.heap[gC]? = some (.cells #[.int .u8 0] 5 (0, 0))) := Lib.hid (by rw [hb4.block gC (by omega)]; exact HC3.out)
             have HV4 : Hid (Own u4 w5.heap.size (.slice (some ⟨gV, 0, none⟩) ne cV) le) := Lib.hid (HV3.out.below hb4)
             have H94 : Hid (u4.heap[g9]? = some (.cells #[.int .i64 0, .string ⟨#[]⟩, .int .i64 0, .int .i64 0, .slice none 0 0] 27 (0, 0))) := Lib.hid (by rw [hu4, hg9]; exact heap_alloc_new u3 _)
             have hltgCg9 : gC < g9 := by omega
             have hltgVg9 : gV < g9 := by omega
             have hltg9 : g9 < u4.heap.size := by omega
             clear hb4 hu4 hg9
             refine wpAnyH_ready (rs := [4]) (by kernel_rfl) (by simp) (.cons rfl (fun K hK => ?_) .nil)
             refine step_at (by rfl) (.tmp 106) (.tmp 107) rfl rfl HV4.out HNE.out (m := [0]) rfl rfl (Bs.of_block HC4.out rfl) (fun e => by cases e) (by have := HLN.out; simp; omega) HB4.out.size ?_
             intro vv u5 ho hg hd
             obtain ⟨mW, hmW⟩ : ∃ x, x = (le ++ [(0 : UInt8)]).length := ⟨_, rfl⟩
             obtain ⟨pW, cW, rfl, hsW⟩ := ho.sl hmW
             have hz5 : u4.heap.size ≤ u5.heap.size := hg.size
             have HB5 : Hid (Below w5.heap.size w5 u5) := Lib.hid (HB4.out.trans (HV4.out.below_at (Nat.le_refl _) HB4.out.size hg))
             have H95 : Hid (u5.heap[g9]? = some (.cells #[.int .i64 0, .string ⟨#[]⟩, .int .i64 0, .int .i64 0, .slice none 0 0] 27 (0, 0))) := Lib.hid (by rw [hg.block g9 (by omega) (fun e => by have := Option.some.inj e; omega)]; exact H94.out)
             have HW5 : Hid (Sl u5 pW mW cW (le ++ [0])) := Lib.hid hsW
             clear ho hg hd hsW hmW
             refine hK.out _ _ (HKS.out _ HB5.out) (fun hHeld => ?_)
             clear hK K
             try simp only [Act.put, lq1, lq2, lq3, lq4, lq5, lq6]
             refine wpAnyH_ready (rs := [7]) (by kernel_rfl) (by simp) (.cons rfl (fun K hK => ?_) .nil)
             go_simp
             refine (HM.out _ _ _ _ _ HW5.out).mono ?_
             rintro e u6 ⟨rfl, hb6⟩
             have hz6 : u5.heap.size ≤ u6.heap.size := hb6.size
             have HB6 := hbt HB5 hb6
             have H96 : Hid (u6.heap[g9]? = some (.cells #[.int .i64 0, .string ⟨#[]⟩, .int .i64 0, .int .i64 0, .slice none 0 0] 27 (0, 0))) := Lib.hid (by rw [hb6.block g9 (by omega)]; exact H95.out)
             dsimp only
             refine hK.out _ _ (HKS.out _ HB6.out) (fun hHeld => ?_)
             clear hK K hb6
             try simp only [Act.put, lq1, lq2, lq3, lq4, lq5, lq6]
             refine wpAnyH_take (i := 8) (v := ?_) rfl (by kernel_rfl) (by kernel_rfl) (by kernel_rfl) (fun _ _ _ h => nomatch h.1) (Or.inl ⟨by rfl, ?_⟩) (by assumption) ?_
             rotate_left
             ·intro w hSw; (try dsimp only at hSw); go_simp; try with_reducible rfl
             simp only [Act.put, lq1, lq2, lq3, lq4, lq5, lq6]
             refine wpAnyH_take (i := 9) (v := ?_) rfl (by kernel_rfl) (by kernel_rfl) (by kernel_rfl) (fun _ _ _ h => nomatch h.1) (Or.inl ⟨by rfl, ?_⟩) (by assumption) ?_
             rotate_left
             ·intro w hSw; (try dsimp only at hSw); go_simp; try with_reducible rfl
             simp only [Act.put, lq1, lq2, lq3, lq4, lq5, lq6]
             refine wpAnyH_take (i := 10) (v := ?_) rfl (by kernel_rfl) (by kernel_rfl) (by kernel_rfl) (fun _ _ _ h => nomatch h.1) (Or.inl ⟨by rfl, ?_⟩) (by assumption) ?_
             rotate_left
             ·intro w hSw; (try dsimp only at hSw); go_simp; try with_reducible rfl
             simp only [Act.put, lq1, lq2, lq3, lq4, lq5, lq6]
             refine wpAnyH_ready (rs := [12]) (by kernel_rfl) (by simp) (.cons rfl (fun K hK => ?_) .nil)
             obtain ⟨z0, j0⟩ := rd_at H96.out 0
             obtain ⟨z1, j1⟩ := rd_at H96.out 1
             obtain ⟨z2, j2⟩ := rd_at H96.out 2
             obtain ⟨z3, j3⟩ := rd_at H96.out 3
             obtain ⟨z4, j4⟩ := rd_at H96.out 4
             simp only [List.getElem?_toArray, List.getElem?_cons_zero, List.getElem?_cons_succ] at z0 z1 z2 z3 z4
             have h9lt : g9 < u6.heap.size := (Array.getElem?_eq_some_iff.1 H96.out).1
             go_simp
             refine hK.out _ _ (HKS.out _ (((((HB6.out.setCell (p := ⟨g9, 0, none⟩) (by omega) _).setCell (p := ⟨g9, 1, none⟩) (by omega) _).setCell (p := ⟨g9, 2, none⟩) (by omega) _).setCell (p := ⟨g9, 3, none⟩) (by omega) _).setCell (p := ⟨g9, 4, none⟩) (by omega) _)) (fun hHeld => ?_)
             clear hK K
             try simp only [Act.put, lq1, lq2, lq3, lq4, lq5, lq6]
             obtain ⟨u7, hu7⟩ : ∃ x, x = (((((u6.setCell ⟨g9, 0, none⟩ (.int .i64 0)).setCell ⟨g9, 1, none⟩ (.string ⟨#[]⟩)).setCell ⟨g9, 2, none⟩ (.int .i64 0)).setCell ⟨g9, 3, none⟩ (.int .i64 0)).setCell ⟨g9, 4, none⟩ (.slice none 0 0)) := ⟨_, rfl⟩
             have HB7 : Hid (Below w5.heap.size w5 u7) := Lib.hid (by rw [hu7]; exact (((((HB6.out.setCell (p := ⟨g9, 0, none⟩) (by omega) _).setCell (p := ⟨g9, 1, none⟩) (by omega) _).setCell (p := ⟨g9, 2, none⟩) (by omega) _).setCell (p := ⟨g9, 3, none⟩) (by omega) _).setCell (p := ⟨g9, 4, none⟩) (by omega) _))
             rw [← hu7]
             clear hu7
             refine wpAnyH_ready (rs := [13]) (by kernel_rfl) (by simp) (.cons rfl (fun K hK => ?_) .nil)
             go_simp
             refine hK.out _ _ (HKS.out _ HB7.out) (fun hHeld => ?_)
             clear hK K
             try simp only [Act.put, lq1, lq2, lq3, lq4, lq5, lq6]
             have HB8 := Lib.hid HB7.out
             refine wpAnyH_done (by kernel_rfl) ?_ _
             exact ⟨rfl, ⟨_, _, _, _, _, _, _, _, _, _, _, _, rfl⟩, HB8.out⟩
           ·go_simp
            refine hK.out _ _ (HKS.out _ (HB2.out.alloc HB2.out.size _)) (fun hHeld => ?_)
            clear hK K
            try simp only [Act.put, lq1, lq2, lq3, lq4, lq5, lq6]
            obtain ⟨u3, hu3⟩ : ∃ x, x = u2.alloc (.cells #[.int .i64 0, .string ⟨#[]⟩, .int .i64 0, .int .i64 0, .slice none 0 0] 27) := ⟨_, rfl⟩
            rw [← hu3]
            obtain ⟨g9, hg9⟩ : ∃ x, x = u2.heap.size := ⟨_, rfl⟩
            rw [← hg9]
            have hz3 : u2.heap.size < u3.heap.size := by rw [hu3]; simp
            have hgeg9 : w5.heap.size ≤ g9 := by have := HB2.out.size; omega
            have hb3 : Below u2.heap.size u2 u3 := by rw [hu3]; exact (Below.refl _ _).alloc (Nat.le_refl _) _
            have HB3 := hbt HB2 hb3
            have HV3 : Hid (Own u3 w5.heap.size (.slice (some ⟨gV, 0, none⟩) ne cV) le) := Lib.hid (HV2.out.below hb3)
            have H93 : Hid (u3.heap[g9]? = some (.cells #[.int .i64 0, .string ⟨#[]⟩, .int .i64 0, .int .i64 0, .slice none 0 0] 27 (0, 0))) := Lib.hid (by rw [hu3, hg9]; exact heap_alloc_new u2 _)
            have hltgVg9 : gV < g9 := by omega
            have hltg9 : g9 < u3.heap.size := by omega
            clear hb3 hu3 hg9
            refine wpAnyH_ready (rs := [3]) (by kernel_rfl) (by simp) (.cons rfl (fun K hK => ?_) .nil)
            go_simp
            refine hK.out _ _ (HKS.out _ (HB3.out.alloc HB3.out.size _)) (fun hHeld => ?_)
            clear hK K
            try simp only [Act.put, lq1, lq2, lq3, lq4, lq5, lq6]
            obtain ⟨u4, hu4⟩ : ∃ x, x = u3.alloc (.cells #[.int .u8 0] 5) := ⟨_, rfl⟩
            rw [← hu4]
            obtain ⟨gC, hgC⟩ : ∃ x, x = u3.heap.size := ⟨_, rfl⟩
            rw [← hgC]
            have hz4 : u3.heap.size < u4.heap.size := by rw [hu4]; simp
            have hgegC : w5.heap.size ≤ gC := by have := HB3.out.size; omega
            have hb4 : Below u3.heap.size u3 u4 := by rw [hu4]; exact (Below.refl _ _).alloc (Nat.le_refl _) _
            have HB4 := hbt HB3 hb4
            have H94 : Hid (u4.heap[g9]? = some (.cells #[.int .i64 0, .string ⟨#[]⟩, .int .i64 0, .int .i64 0, .slice none 0 0] 27 (0, 0))) := Lib.hid (by rw [hb4.block g9 (by omega)]; exact H93.out)
            have HV4 : Hid (Own u4 w5.heap.size (.slice (some ⟨gV, 0, none⟩) ne cV) le) := Lib.hid (HV3.out.below hb4)
            have HC4 : Hid (u4.heap[gC]? = some (.cells #[.int .u8 0] 5 (0, 0))) := Lib.hid (by rw [hu4, hgC]; exact heap_alloc_new u3 _)
            have hltg9gC : g9 < gC := by omega
            have hltgVgC : gV < gC := by omega
            have hltgC : gC < u4.heap.size := by omega
            clear hb4 hu4 hgC
            refine wpAnyH_ready (rs := [4]) (by kernel_rfl) (by simp) (.cons rfl (fun K hK => ?_) .nil)
            refine step_at (by rfl) (.tmp 106) (.tmp 107) rfl rfl HV4.out HNE.out (m := [0]) rfl rfl (Bs.of_block HC4.out rfl) (fun e => by cases e) (by have := HLN.out; simp; omega) HB4.out.size ?_
            intro vv u5 ho hg hd
            obtain ⟨mW, hmW⟩ : ∃ x, x = (le ++ [(0 : UInt8)]).length := ⟨_, rfl⟩
            obtain ⟨pW, cW, rfl, hsW⟩ := ho.sl hmW
            have hz5 : u4.heap.size ≤ u5.heap.size := hg.size
            have HB5 : Hid (Below w5.heap.size w5 u5) := Lib.hid (HB4.out.trans (HV4.out.below_at (Nat.le_refl _) HB4.out.size hg))
            have H95 : Hid (u5.heap[g9]? = some (.cells #[.int .i64 0, .string ⟨#[]⟩, .int .i64 0, .int .i64 0, .slice none 0 0] 27 (0, 0))) := Lib.hid (by rw [hg.block g9 (by omega) (fun e => by have := Option.some.inj e; omega)]; exact H94.out)
            have HW5 : Hid (Sl u5 pW mW cW (le ++ [0])) := Lib.hid hsW
            clear ho hg hd hsW hmW
            refine hK.out _ _ (HKS.out _ HB5.out) (fun hHeld => ?_)
            clear hK K
            try simp only [Act.put, lq1, lq2, lq3, lq4, lq5, lq6]
            refine wpAnyH_ready (rs := [7]) (by kernel_rfl) (by simp) (.cons rfl (fun K hK => ?_) .nil)
            go_simp
            refine (HM.out _ _ _ _ _ HW5.out).mono ?_
            rintro e u6 ⟨rfl, hb6⟩
            have hz6 : u5.heap.size ≤ u6.heap.size := hb6.size
            have HB6 := hbt HB5 hb6
            have H96 : Hid (u6.heap[g9]? = some (.cells #[.int .i64 0, .string ⟨#[]⟩, .int .i64 0, .int .i64 0, .slice none 0 0] 27 (0, 0))) := Lib.hid (by rw [hb6.block g9 (by omega)]; exact H95.out)
            dsimp only
            refine hK.out _ _ (HKS.out _ HB6.out) (fun hHeld => ?_)
            clear hK K hb6
            try simp only [Act.put, lq1, lq2, lq3, lq4, lq5, lq6]
            refine wpAnyH_take (i := 8) (v := ?_) rfl (by kernel_rfl) (by kernel_rfl) (by kernel_rfl) (fun _ _ _ h => nomatch h.1) (Or.inl ⟨by rfl, ?_⟩) (by assumption) ?_
            rotate_left
            ·intro w hSw; (try dsimp only at hSw); go_simp; try with_reducible rfl
            simp only [Act.put, lq1, lq2, lq3, lq4, lq5, lq6]
            refine wpAnyH_take (i := 9) (v := ?_) rfl (by kernel_rfl) (by kernel_rfl) (by kernel_rfl) (fun _ _ _ h => nomatch h.1) (Or.inl ⟨by rfl, ?_⟩) (by assumption) ?_
            rotate_left
            ·intro w hSw; (try dsimp only at hSw); go_simp; try with_reducible rfl
            simp only [Act.put, lq1, lq2, lq3, lq4, lq5, lq6]
            refine wpAnyH_take (i := 10) (v := ?_) rfl (by kernel_rfl) (by kernel_rfl) (by kernel_rfl) (fun _ _ _ h => nomatch h.1) (Or.inl ⟨by rfl, ?_⟩) (by assumption) ?_
            rotate_left
            ·intro w hSw; (try dsimp only at hSw); go_simp; try with_reducible rfl
            simp only [Act.put, lq1, lq2, lq3, lq4, lq5, lq6]
            refine wpAnyH_ready (rs := [12]) (by kernel_rfl) (by simp) (.cons rfl (fun K hK => ?_) .nil)
            obtain ⟨z0, j0⟩ := rd_at H96.out 0
            obtain ⟨z1, j1⟩ := rd_at H96.out 1
            obtain ⟨z2, j2⟩ := rd_at H96.out 2
            obtain ⟨z3, j3⟩ := rd_at H96.out 3
            obtain ⟨z4, j4⟩ := rd_at H96.out 4
            simp only [List.getElem?_toArray, List.getElem?_cons_zero, List.getElem?_cons_succ] at z0 z1 z2 z3 z4
            have h9lt : g9 < u6.heap.size := (Array.getElem?_eq_some_iff.1 H96.out).1
            go_simp
            refine hK.out _ _ (HKS.out _ (((((HB6.out.setCell (p := ⟨g9, 0, none⟩) (by omega) _).setCell (p := ⟨g9, 1, none⟩) (by omega) _).setCell (p := ⟨g9, 2, none⟩) (by omega) _).setCell (p := ⟨g9, 3, none⟩) (by omega) _).setCell (p := ⟨g9, 4, none⟩) (by omega) _)) (fun hHeld => ?_)
            clear hK K
            try simp only [Act.put, lq1, lq2, lq3, lq4, lq5, lq6]
            obtain ⟨u7, hu7⟩ : ∃ x, x = (((((u6.setCell ⟨g9, 0, none⟩ (.int .i64 0)).setCell ⟨g9, 1, none⟩ (.string ⟨#[]⟩)).setCell ⟨g9, 2, none⟩ (.int .i64 0)).setCell ⟨g9, 3, none⟩ (.int .i64 0)).setCell ⟨g9, 4, none⟩ (.slice none 0 0)) := ⟨_, rfl⟩
            have HB7 : Hid (Below w5.heap.size w5 u7) := Lib.hid (by rw [hu7]; exact (((((HB6.out.setCell (p := ⟨g9, 0, none⟩) (by omega) _).setCell (p := ⟨g9, 1, none⟩) (by omega) _).setCell (p := ⟨g9, 2, none⟩) (by omega) _).setCell (p := ⟨g9, 3, none⟩) (by omega) _).setCell (p := ⟨g9, 4, none⟩) (by omega) _))
            rw [← hu7]
            clear hu7
            refine wpAnyH_ready (rs := [13]) (by kernel_rfl) (by simp) (.cons rfl (fun K hK => ?_) .nil)
            go_simp
            refine hK.out _ _ (HKS.out _ HB7.out) (fun hHeld => ?_)
            clear hK K
            try simp only [Act.put, lq1, lq2, lq3, lq4, lq5, lq6]
            have HB8 := Lib.hid HB7.out
            refine wpAnyH_done (by kernel_rfl) ?_ _
            exact ⟨rfl, ⟨_, _, _, _, _, _, _, _, _, _, _, _, rfl⟩, HB8.out⟩
          ·go_simp
           refine hK.out _ _ (HKS.out _ (HB1.out.alloc HB1.out.size _)) (fun hHeld => ?_)
           clear hK K
           try simp only [Act.put, lq1, lq2, lq3, lq4, lq5, lq6]
           obtain ⟨u2, hu2⟩ : ∃ x, x = u1.alloc (.cells #[.int .u8 0] 5) := ⟨_, rfl⟩
           rw [← hu2]
           obtain ⟨gC, hgC⟩ : ∃ x, x = u1.heap.size := ⟨_, rfl⟩
           rw [← hgC]
           have hz2 : u1.heap.size < u2.heap.size := by rw [hu2]; simp
           have hgegC : w5.heap.size ≤ gC := by have := HB1.out.size; omega
           have hb2 : Below u1.heap.size u1 u2 := by rw [hu2]; exact (Below.refl _ _).alloc (Nat.le_refl _) _
           have HB2 := hbt HB1 hb2
           have HA2 : Hid (Own u2 w5.heap.size (.slice (some ⟨gA, 0, none⟩) 0 0) []) := Lib.hid (HA1.out.below hb2)
           have HC2 : Hid (u2.heap[gC]? = some (.cells #[.int .u8 0] 5 (0, 0))) := Lib.hid (by rw [hu2, hgC]; exact heap_alloc_new u1 _)
           have hltgAgC : gA < gC := by omega
           have hltgC : gC < u2.heap.size := by omega
           clear hb2 hu2 hgC
           refine wpAnyH_ready (rs := [2, 11]) (by kernel_rfl) (by simp) (.cons rfl (fun K hK => ?_) (.cons rfl (fun K hK => ?_) .nil))
           ·refine step_at (by rfl) (.tmp 104) (.tmp 105) rfl rfl HA2.out rfl HNE.out rfl (HS5.out.b.below HB2.out) HS5.out.h0 (by have := HLN.out; simp; omega) HB2.out.size ?_
            intro vv u3 ho hg hd
            rw [List.nil_append] at ho hd
            obtain ⟨gV, cV, rfl, _, _, _, hgV, _⟩ := ho.some HNE.out hn0
            have hdV : gV = gA ∨ u2.heap.size ≤ gV := hd.elim (fun h => .inl (Option.some.inj h)) (fun h => .inr (World.ownsRow.lt h gV rfl).1)
            have hz3 : u2.heap.size ≤ u3.heap.size := hg.size
            have HB3 : Hid (Below w5.heap.size w5 u3) := Lib.hid (HB2.out.trans (HA2.out.below_at (Nat.le_refl _) HB2.out.size hg))
            have HC3 : Hid (u3.heap[gC]? = some (.cells #[.int .u8 0] 5 (0, 0))) := Lib.hid (by rw [hg.block gC (by omega) (fun e => by have := Option.some.inj e; omega)]; exact HC2.out)
            have HV3 : Hid (Own u3 w5.heap.size (.slice (some ⟨gV, 0, none⟩) ne cV) le) := Lib.hid ho
            clear ho hg hd
            refine hK.out _ _ (HKS.out _ HB3.out) (fun hHeld => ?_)
            clear hK K
            try simp only [Act.put, lq1, lq2, lq3, lq4, lq5, lq6]
            refine wpAnyH_ready (rs := [4, 11]) (by kernel_rfl) (by simp) (.cons rfl (fun K hK => ?_) (.cons rfl (fun K hK => ?_) .nil))
            ·refine step_at (by rfl) (.tmp 106) (.tmp 107) rfl rfl HV3.out HNE.out (m := [0]) rfl rfl (Bs.of_block HC3.out rfl) (fun e => by cases e) (by have := HLN.out; simp; omega) HB3.out.size ?_
             intro vv u4 ho hg hd
             obtain ⟨mW, hmW⟩ : ∃ x, x = (le ++ [(0 : UInt8)]).length := ⟨_, rfl⟩
             obtain ⟨pW, cW, rfl, hsW⟩ := ho.sl hmW
             have hz4 : u3.heap.size ≤ u4.heap.size := hg.size
             have HB4 : Hid (Below w5.heap.size w5 u4) := Lib.hid (HB3.out.trans (HV3.out.below_at (Nat.le_refl _) HB3.out.size hg))
             have HW4 : Hid (Sl u4 pW mW cW (le ++ [0])) := Lib.hid hsW
             clear ho hg hd hsW hmW
             refine hK.out _ _ (HKS.out _ HB4.out) (fun hHeld => ?_)
             clear hK K
             try simp only [Act.put, lq1, lq2, lq3, lq4, lq5, lq6]
             refine wpAnyH_ready (rs := [7, 11]) (by kernel_rfl) (by simp) (.cons rfl (fun K hK => ?_) (.cons rfl (fun K hK => ?_) .nil))
             ·go_simp
              refine (HM.out _ _ _ _ _ HW4.out).mono ?_
              rintro e u5 ⟨rfl, hb5⟩
              have hz5 : u4.heap.size ≤ u5.heap.size := hb5.size
              have HB5 := hbt HB4 hb5
              dsimp only
              refine hK.out _ _ (HKS.out _ HB5.out) (fun hHeld => ?_)
              clear hK K hb5
              try simp only [Act.put, lq1, lq2, lq3, lq4, lq5, lq6]
              refine wpAnyH_take (i := 8) (v := ?_) rfl (by kernel_rfl) (by kernel_rfl) (by kernel_rfl) (fun _ _ _ h => nomatch h.1) (Or.inl ⟨by rfl, ?_⟩) (by assumption) ?_
              rotate_left
              ·intro w hSw; (try dsimp only at hSw); go_simp; try with_reducible rfl
              simp only [Act.put, lq1, lq2, lq3, lq4, lq5, lq6]
              refine wpAnyH_take (i := 9) (v := ?_) rfl (by kernel_rfl) (by kernel_rfl) (by kernel_rfl) (fun _ _ _ h => nomatch h.1) (Or.inl ⟨by rfl, ?_⟩) (by assumption) ?_
              rotate_left
              ·intro w hSw; (try dsimp only at hSw); go_simp; try with_reducible rfl
              simp only [Act.put, lq1, lq2, lq3, lq4, lq5, lq6]
              refine wpAnyH_take (i := 10) (v := ?_) rfl (by kernel_rfl) (by kernel_rfl) (by kernel_rfl) (fun _ _ _ h => nomatch h.1) (Or.inl ⟨by rfl, ?_⟩) (by assumption) ?_
              rotate_left
              ·intro w hSw; (try dsimp only at hSw); go_simp; try with_reducible rfl
              simp only [Act.put, lq1, lq2, lq3, lq4, lq5, lq6]
              refine wpAnyH_ready (rs := [11]) (by kernel_rfl) (by simp) (.cons rfl (fun K hK => ?_) .nil)
              go_simp
              refine hK.out _ _ (HKS.out _ (HB5.out.alloc HB5.out.size _)) (fun hHeld => ?_)
              clear hK K
              try simp only [Act.put, lq1, lq2, lq3, lq4, lq5, lq6]
              obtain ⟨u6, hu6⟩ : ∃ x, x = u5.alloc (.cells #[.int .i64 0, .string ⟨#[]⟩, .int .i64 0, .int .i64 0, .slice none 0 0] 27) := ⟨_, rfl⟩
              rw [← hu6]
              obtain ⟨g9, hg9⟩ : ∃ x, x = u5.heap.size := ⟨_, rfl⟩
              rw [← hg9]
              have hz6 : u5.heap.size < u6.heap.size := by rw [hu6]; simp
              have hgeg9 : w5.heap.size ≤ g9 := by have := HB5.out.size; omega
              have hb6 : Below u5.heap.size u5 u6 := by rw [hu6]; exact (Below.refl _ _).alloc (Nat.le_refl _) _
              have HB6 := hbt HB5 hb6
              have H96 : Hid (u6.heap[g9]? = some (.cells #[.int .i64 0, .string ⟨#[]⟩, .int .i64 0, .int .i64 0, .slice none 0 0] 27 (0, 0))) := Lib.hid (by rw [hu6, hg9]; exact heap_alloc_new u5 _)
              have hltg9 : g9 < u6.heap.size := by omega
              clear hb6 hu6 hg9
              refine wpAnyH_ready (rs := [12]) (by kernel_rfl) (by simp) (.cons rfl (fun K hK => ?_) .nil)
              obtain ⟨z0, j0⟩ := rd_at H96.out 0
              obtain ⟨z1, j1⟩ := rd_at H96.out 1
              obtain ⟨z2, j2⟩ := rd_at H96.out 2
              obtain ⟨z3, j3⟩ := rd_at H96.out 3
              obtain ⟨z4, j4⟩ := rd_at H96.out 4
              simp only [List.getElem?_toArray, List.getElem?_cons_zero, List.getElem?_cons_succ] at z0 z1 z2 z3 z4
              have h9lt : g9 < u6.heap.size := (Array.getElem?_eq_some_iff.1 H96.out).1
              go_simp
              refine hK.out _ _ (HKS.out _ (((((HB6.out.setCell (p := ⟨g9, 0, none⟩) (by omega) _).setCell (p := ⟨g9, 1, none⟩) (by omega) _).setCell (p := ⟨g9, 2, none⟩) (by omega) _).setCell (p := ⟨g9, 3, none⟩) (by omega) _).setCell (p := ⟨g9, 4, none⟩) (by omega) _)) (fun hHeld => ?_)
              clear hK K
              try simp only [Act.put, lq1, lq2, lq3, lq4, lq5, lq6]
              obtain ⟨u7, hu7⟩ : ∃ x, x = (((((u6.setCell ⟨g9, 0, none⟩ (.int .i64 0)).setCell ⟨g9, 1, none⟩ (.string ⟨#[]⟩)).setCell ⟨g9, 2, none⟩ (.int .i64 0)).setCell ⟨g9, 3, none⟩ (.int .i64 0)).setCell ⟨g9, 4, none⟩ (.slice none 0 0)) := ⟨_, rfl⟩
              have HB7 : Hid (Below w5.heap.size w5 u7) := Lib.hid (by rw [hu7]; exact (((((HB6.out.setCell (p := ⟨g9, 0, none⟩) (by omega) _).setCell (p := ⟨g9, 1, none⟩) (by omega) _).setCell (p := ⟨g9, 2, none⟩) (by omega) _).setCell (p := ⟨g9, 3, none⟩) (by omega) _).setCell (p := ⟨g9, 4, none⟩) (by omega) _))
              rw [← hu7]
              clear hu7
              refine wpAnyH_ready (rs := [13]) (by kernel_rfl) (by simp) (.cons rfl (fun K hK => ?_) .nil)
              go_simp
              refine hK.out _ _ (HKS.out _ HB7.out) (fun hHeld => ?_)
              clear hK K
              try simp only [Act.put, lq1, lq2, lq3, lq4, lq5, lq6]
              have HB8 := Lib.hid HB7.out
              refine wpAnyH_done (by kernel_rfl) ?_ _
              exact ⟨rfl, ⟨_, _, _, _, _, _, _, _, _, _, _, _, rfl⟩, HB8.out⟩
             ·go_simp
              refine hK.out _ _ (HKS.out _ (HB4.out.alloc HB4.out.size _)) (fun hHeld => ?_)
              clear hK K
              try simp only [Act.put, lq1, lq2, lq3, lq4, lq5, lq6]
              obtain ⟨u5, hu5⟩ : ∃ x, x = u4.alloc (.cells #[.int .i64 0, .string ⟨#[]⟩, .int .i64 0, .int .i64 0, .slice none 0 0] 27) := ⟨_, rfl⟩
              rw [← hu5]
              obtain ⟨g9, hg9⟩ : ∃ x, x = u4.heap.size := ⟨_, rfl⟩
              rw [← hg9]
              have hz5 : u4.heap.size < u5.heap.size := by rw [hu5]; simp
              have hgeg9 : w5.heap.size ≤ g9 := by have := HB4.out.size; omega
              have hb5 : Below u4.heap.size u4 u5 := by rw [hu5]; exact (Below.refl _ _).alloc (Nat.le_refl _) _
              have HB5 := hbt HB4 hb5
              have HW5 : Hid (Sl u5 pW mW cW (le ++ [0])) := Lib.hid (HW4.out.below hb5)
              have H95 : Hid (u5.heap[g9]? = some (.cells #[.int .i64 0, .string ⟨#[]⟩, .int .i64 0, .int .i64 0, .slice none 0 0] 27 (0, 0))) := Lib.hid (by rw [hu5, hg9]; exact heap_alloc_new u4 _)
              have hltg9 : g9 < u5.heap.size := by omega
              clear hb5 hu5 hg9
              refine wpAnyH_ready (rs := [7]) (by kernel_rfl) (by simp) (.cons rfl (fun K hK => ?_) .nil)
              go_simp
              refine (HM.out _ _ _ _ _ HW5.out).mono ?_
              rintro e u6 ⟨rfl, hb6⟩
              have hz6 : u5.heap.size ≤ u6.heap.size := hb6.size
              have HB6 := hbt HB5 hb6
              have H96 : Hid (u6.heap[g9]? = some (.cells #[.int .i64 0, .string ⟨#[]⟩, .int .i64 0, .int .i64 0, .slice none 0 0] 27 (0, 0))) := Lib.hid (by rw [hb6.block g9 (by omega)]; exact H95.out)
              dsimp only
              refine hK.out _ _ (HKS.out _ HB6.out) (fun hHeld => ?_)
              clear hK K hb6
              try simp only [Act.put, lq1, lq2, lq3, lq4, lq5, lq6]
              refine wpAnyH_take (i := 8) (v := ?_) rfl (by kernel_rfl) (by kernel_rfl) (by kernel_rfl) (fun _ _ _ h => nomatch h.1) (Or.inl ⟨by rfl, ?_⟩) (by assumption) ?_
              rotate_left
              ·intro w hSw; (try dsimp only at hSw); go_simp; try with_reducible rfl
              simp only [Act.put, lq1, lq2, lq3, lq4, lq5, lq6]
              refine wpAnyH_take (i := 9) (v := ?_) rfl (by kernel_rfl) (by kernel_rfl) (by kernel_rfl) (fun _ _ _ h => nomatch h.1) (Or.inl ⟨by rfl, ?_⟩) (by assumption) ?_
              rotate_left
              ·intro w hSw; (try dsimp only at hSw); go_simp; try with_reducible rfl
              simp only [Act.put, lq1, lq2, lq3, lq4, lq5, lq6]
              refine wpAnyH_take (i := 10) (v := ?_) rfl (by kernel_rfl) (by kernel_rfl) (by kernel_rfl) (fun _ _ _ h => nomatch h.1) (Or.inl ⟨by rfl, ?_⟩) (by assumption) ?_
              rotate_left
              ·intro w hSw; (try dsimp only at hSw); go_simp; try with_reducible rfl
              simp only [Act.put, lq1, lq2, lq3, lq4, lq5, lq6]
              refine wpAnyH_ready (rs := [12]) (by kernel_rfl) (by simp) (.cons rfl (fun K hK => ?_) .nil)
              obtain ⟨z0, j0⟩ := rd_at H96.out 0
              obtain ⟨z1, j1⟩ := rd_at H96.out 1
              obtain ⟨z2, j2⟩ := rd_at H96.out 2
              obtain ⟨z3, j3⟩ := rd_at H96.out 3
              obtain ⟨z4, j4⟩ := rd_at H96.out 4
              simp only [List.getElem?_toArray, List.getElem?_cons_zero, List.getElem?_cons_succ] at z0 z1 z2 z3 z4
              have h9lt : g9 < u6.heap.size := (Array.getElem?_eq_some_iff.1 H96.out).1
              go_simp
              refine hK.out _ _ (HKS.out _ (((((HB6.out.setCell (p := ⟨g9, 0, none⟩) (by omega) _).setCell (p := ⟨g9, 1, none⟩) (by omega) _).setCell (p := ⟨g9, 2, none⟩) (by omega) _).setCell (p := ⟨g9, 3, none⟩) (by omega) _).setCell (p := ⟨g9, 4, none⟩) (by omega) _)) (fun hHeld => ?_)
              clear hK K
              try simp only [Act.put, lq1, lq2, lq3, lq4, lq5, lq6]
              obtain ⟨u7, hu7⟩ : ∃ x, x = (((((u6.setCell ⟨g9, 0, none⟩ (.int .i64 0)).setCell ⟨g9, 1, none⟩ (.string ⟨#[]⟩)).setCell ⟨g9, 2, none⟩ (.int .i64 0)).setCell ⟨g9, 3, none⟩ (.int .i64 0)).setCell ⟨g9, 4, none⟩ (.slice none 0 0)) := ⟨_, rfl⟩
              have HB7 : Hid (Below w5.heap.size w5 u7) := Lib.hid (by rw [hu7]; exact (((((HB6.out.setCell (p := ⟨g9, 0, none⟩) (by omega) _).setCell (p := ⟨g9, 1, none⟩) (by omega) _).setCell (p := ⟨g9, 2, none⟩) (by omega) _).setCell (p := ⟨g9, 3, none⟩) (by omega) _).setCell (p := ⟨g9, 4, none⟩) (by omega) _))
              rw [← hu7]
              clear hu7
              refine wpAnyH_ready (rs := [13]) (by kernel_rfl) (by simp) (.cons rfl (fun K hK => ?_) .nil)
              go_simp
              refine hK.out _ _ (HKS.out _ HB7.out) (fun hHeld => ?_)
              clear hK K
              try simp only [Act.put, lq1, lq2, lq3, lq4, lq5, lq6]
              have HB8 := Lib.hid HB7.out
              refine wpAnyH_done (by kernel_rfl) ?_ _
              exact ⟨rfl, ⟨_, _, _, _, _, _, _, _, _, _, _, _, rfl⟩, HB8.out⟩
            ·go_simp
             refine hK.out _ _ (HKS.out _ (HB3.out.alloc HB3.out.size _)) (fun hHeld => ?_)
             clear hK K
             try simp only [Act.put, lq1, lq2, lq3, lq4, lq5, lq6]
             obtain ⟨u4, hu4⟩ : ∃ x, x = u3.alloc (.cells #[.int .i64 0, .string ⟨#[]⟩, .int .i64 0, .int .i64 0, .slice none 0 0] 27) := ⟨_, rfl⟩
             rw [← hu4]
             obtain ⟨g9, hg9⟩ : ∃ x, x = u3.heap.size := ⟨_, rfl⟩
             rw [← hg9]
             have hz4 : u3.heap.size < u4.heap.size := by rw [hu4]; simp
             have hgeg9 : w5.heap.size ≤ g9 := by have := HB3.out.size; omega
             have hb4 : Below u3.heap.size u3 u4 := by rw [hu4]; exact (Below.refl _ _).alloc (Nat.le_refl _) _
             have HB4 := hbt HB3 hb4
             have HC4 : Hid (u4.heap[gC]? = some (.cells #[.int .u8 0] 5 (0, 0))) := Lib.hid (by rw [hb4.block gC (by omega)]; exact HC3.out)
             have HV4 : Hid (Own u4 w5.heap.size (.slice (some ⟨gV, 0, none⟩) ne cV) le) := Lib.hid (HV3.out.below hb4)
             have H94 : Hid (u4.heap[g9]? = some (.cells #[.int .i64 0, .string ⟨#[]⟩, .int .i64 0, .int .i64 0, .slice none 0 0] 27 (0, 0))) := Lib.hid (by rw [hu4, hg9]; exact heap_alloc_new u3 _)
             have hltgCg9 : gC < g9 := by omega
             have hltgVg9 : gV < g9 := by omega
             have hltg9 : g9 < u4.heap.size := by omega
             clear hb4 hu4 hg9
             refine wpAnyH_ready (rs := [4]) (by kernel_rfl) (by simp) (.cons rfl (fun K hK => ?_) .nil)
             refine step_at (by rfl) (.tmp 106) (.tmp 107) rfl rfl HV4.out HNE.out (m := [0]) rfl rfl (Bs.of_block HC4.out rfl) (fun e => by cases e) (by have := HLN.out; simp; omega) HB4.out.size ?_
             intro vv u5 ho hg hd
             obtain ⟨mW, hmW⟩ : ∃ x, x = (le ++ [(0 : UInt8)]).length := ⟨_, rfl⟩
             obtain ⟨pW, cW, rfl, hsW⟩ := ho.sl hmW
             have hz5 : u4.heap.size ≤ u5.heap.size := hg.size
             have HB5 : Hid (Below w5.heap.size w5 u5) := Lib.hid (HB4.out.trans (HV4.out.below_at (Nat.le_refl _) HB4.out.size hg))
             have H95 : Hid (u5.heap[g9]? = some (.cells #[.int .i64 0, .string ⟨#[]⟩, .int .i64 0, .int .i64 0, .slice none 0 0] 27 (0, 0))) := Lib.hid (by rw [hg.block g9 (by omega) (fun e => by have := Option.some.inj e; omega)]; exact H94.out)
             have HW5 : Hid (Sl u5 pW mW cW (le ++ [0])) := Lib.hid hsW
             clear ho hg hd hsW hmW
             refine hK.out _ _ (HKS.out _ HB5.out) (fun hHeld => ?_)
             clear hK K
             try simp only [Act.put, lq1, lq2, lq3, lq4, lq5, lq6]
             refine wpAnyH_ready (rs := [7]) (by kernel_rfl) (by simp) (.cons rfl (fun K hK => ?_) .nil)
             go_simp
             refine (HM.out _ _ _ _ _ HW5.out).mono ?_
             rintro e u6 ⟨rfl, hb6⟩
             have hz6 : u5.heap.size ≤ u6.heap.size := hb6.size
             have HB6 := hbt HB5 hb6
             have H96 : Hid (u6.heap[g9]? = some (.cells #[.int .i64 0, .string ⟨#[]⟩, .int .i64 0, .int .i64 0, .slice none 0 0] 27 (0, 0))) := Lib.hid (by rw [hb6.block g9 (by omega)]; exact H95.out)
             dsimp only
             refine hK.out _ _ (HKS.out _ HB6.out) (fun hHeld => ?_)
             clear hK K hb6
             try simp only [Act.put, lq1, lq2, lq3, lq4, lq5, lq6]
             refine wpAnyH_take (i := 8) (v := ?_) rfl (by kernel_rfl) (by kernel_rfl) (by kernel_rfl) (fun _ _ _ h => nomatch h.1) (Or.inl ⟨by rfl, ?_⟩) (by assumption) ?_
             rotate_left
             ·intro w hSw; (try dsimp only at hSw); go_simp; try with_reducible rfl
             simp only [Act.put, lq1, lq2, lq3, lq4, lq5, lq6]
             refine wpAnyH_take (i := 9) (v := ?_) rfl (by kernel_rfl) (by kernel_rfl) (by kernel_rfl) (fun _ _ _ h => nomatch h.1) (Or.inl ⟨by rfl, ?_⟩) (by assumption) ?_
             rotate_left
             ·intro w hSw; (try dsimp only at hSw); go_simp; try with_reducible rfl
             simp only [Act.put, lq1, lq2, lq3, lq4, lq5, lq6]
             refine wpAnyH_take (i := 10) (v := ?_) rfl (by kernel_rfl) (by kernel_rfl) (by kernel_rfl) (fun _ _ _ h => nomatch h.1) (Or.inl ⟨by rfl, ?_⟩) (by assumption) ?_
             rotate_left
             ·intro w hSw; (try dsimp only at hSw); go_simp; try with_reducible rfl
             simp only [Act.put, lq1, lq2, lq3, lq4, lq5, lq6]
             refine wpAnyH_ready (rs := [12]) (by kernel_rfl) (by simp) (.cons rfl (fun K hK => ?_) .nil)
             obtain ⟨z0, j0⟩ := rd_at H96.out 0
             obtain ⟨z1, j1⟩ := rd_at H96.out 1
             obtain ⟨z2, j2⟩ := rd_at H96.out 2
             obtain ⟨z3, j3⟩ := rd_at H96.out 3
             obtain ⟨z4, j4⟩ := rd_at H96.out 4
             simp only [List.getElem?_toArray, List.getElem?_cons_zero, List.getElem?_cons_succ] at z0 z1 z2 z3 z4
             have h9lt : g9 < u6.heap.size := (Array.getElem?_eq_some_iff.1 H96.out).1
             go_simp
             refine hK.out _ _ (HKS.out _ (((((HB6.out.setCell (p := ⟨g9, 0, none⟩) (by omega) _).setCell (p := ⟨g9, 1, none⟩) (by omega) _).setCell (p := ⟨g9, 2, none⟩) (by omega) _).setCell (p := ⟨g9, 3, none⟩) (by omega) _).setCell (p := ⟨g9, 4, none⟩) (by omega) _)) (fun hHeld => ?_)
             clear hK K
             try simp only [Act.put, lq1, lq2, lq3, lq4, lq5, lq6]
             obtain ⟨u7, hu7⟩ : ∃ x, x = (((((u6.setCell ⟨g9, 0, none⟩ (.int .i64 0)).setCell ⟨g9, 1, none⟩ (.string ⟨#[]⟩)).setCell ⟨g9, 2, none⟩ (.int .i64 0)).setCell ⟨g9, 3, none⟩ (.int .i64 0)).setCell ⟨g9, 4, none⟩ (.slice none 0 0)) := ⟨_, rfl⟩
             have HB7 : Hid (Below w5.heap.size w5 u7) := Lib.hid (by rw [hu7]; exact (((((HB6.out.setCell (p := ⟨g9, 0, none⟩) (by omega) _).setCell (p := ⟨g9, 1, none⟩) (by omega) _).setCell (p := ⟨g9, 2, none⟩) (by omega) _).setCell (p := ⟨g9, 3, none⟩) (by omega) _).setCell (p := ⟨g9, 4, none⟩) (by omega) _))
             rw [← hu7]
             clear hu7
             refine wpAnyH_ready (rs := [13]) (by kernel_rfl) (by simp) (.cons rfl (fun K hK => ?_) .nil)
             go_simp
             refine hK.out _ _ (HKS.out _ HB7.out) (fun hHeld => ?_)
             clear hK K
             try simp only [Act.put, lq1, lq2, lq3, lq4, lq5, lq6]
             have HB8 := Lib.hid HB7.out
             refine wpAnyH_done (by kernel_rfl) ?_ _
             exact ⟨rfl, ⟨_, _, _, _, _, _, _, _, _, _, _, _, rfl⟩, HB8.out⟩
           ·go_simp
            refine hK.out _ _ (HKS.out _ (HB2.out.alloc HB2.out.size _)) (fun hHeld => ?_)
            clear hK K
            try simp only [Act.put, lq1, lq2, lq3, lq4, lq5, lq6]
            obtain ⟨u3, hu3⟩ : ∃ x, x = u2.alloc (.cells #[.int .i64 0, .string ⟨#[]⟩, .int .i64 0, .int .i64 0, .slice none 0 0] 27) := ⟨_, rfl⟩
            rw [← hu3]
            obtain ⟨g9, hg9⟩ : ∃ x, x = u2.heap.size := ⟨_, rfl⟩
            rw [← hg9]
            have hz3 : u2.heap.size < u3.heap.size := by rw [hu3]; simp
            have hgeg9 : w5.heap.size ≤ g9 := by have := HB2.out.size; omega
            have hb3 : Below u2.heap.size u2 u3 := by rw [hu3]; exact (Below.refl _ _).alloc (Nat.le_refl _) _
            have HB3 := hbt HB2 hb3
            have HA3 : Hid (Own u3 w5.heap.size (.slice (some ⟨gA, 0, none⟩) 0 0) []) := Lib.hid (HA2.out.below hb3)
            have HC3 : Hid (u3.heap[gC]? = some (.cells #[.int .u8 0] 5 (0, 0))) := Lib.hid (by rw [hb3.block gC (by omega)]; exact HC2.out)
            have H93 : Hid (u3.heap[g9]? = some (.cells #[.int .i64 0, .string ⟨#[]⟩, .int .i64 0, .int .i64 0, .slice none 0 0] 27 (0, 0))) := Lib.hid (by rw [hu3, hg9]; exact heap_alloc_new u2 _)
            have hltgAg9 : gA < g9 := by omega
            have hltgCg9 : gC < g9 := by omega
            have hltg9 : g9 < u3.heap.size := by omega
            clear hb3 hu3 hg9
            refine wpAnyH_ready (rs := [2]) (by kernel_rfl) (by simp) (.cons rfl (fun K hK => ?_) .nil)
            refine step_at (by rfl) (.tmp 104) (.tmp 105) rfl rfl HA3.out rfl HNE.out rfl (HS5.out.b.below HB3.out) HS5.out.h0 (by have := HLN.out; simp; omega) HB3.out.size ?_
            intro vv u4 ho hg hd
            rw [List.nil_append] at ho hd
            obtain ⟨gV, cV, rfl, _, _, _, hgV, _⟩ := ho.some HNE.out hn0
            have hdV : gV = gA ∨ u3.heap.size ≤ gV := hd.elim (fun h => .inl (Option.some.inj h)) (fun h => .inr (World.ownsRow.lt h gV rfl).1)
            have hz4 : u3.heap.size ≤ u4.heap.size := hg.size
            have HB4 : Hid (Below w5.heap.size w5 u4) := Lib.hid (HB3.out.trans (HA3.out.below_at (Nat.le_refl _) HB3.out.size hg))
            have H94 : Hid (u4.heap[g9]? = some (.cells #[.int .i64 0, .string ⟨#[]⟩, .int .i64 0, .int .i64 0, .slice none 0 0] 27 (0, 0))) := Lib.hid (by rw [hg.block g9 (by omega) (fun e => by have := Option.some.inj e; omega)]; exact H93.out)
            have HC4 : Hid (u4.heap[gC]? = some (.cells #[.int .u8 0] 5 (0, 0))) := Lib.hid (by rw [hg.block gC (by omega) (fun e => by have := Option.some.inj e; omega)]; exact HC3.out)
            have HV4 : Hid (Own u4 w5.heap.size (.slice (some ⟨gV, 0, none⟩) ne cV) le) := Lib.hid ho
            clear ho hg hd
            refine hK.out _ _ (HKS.out _ HB4.out) (fun hHeld => ?_)
            clear hK K
            try simp only [Act.put, lq1, lq2, lq3, lq4, lq5, lq6]
            refine wpAnyH_ready (rs := [4]) (by kernel_rfl) (by simp) (.cons rfl (fun K hK => ?_) .nil)
            refine step_at (by rfl) (.tmp 106) (.tmp 107) rfl rfl HV4.out HNE.out (m := [0]) rfl rfl (Bs.of_block HC4.out rfl) (fun e => by cases e) (by have := HLN.out; simp; omega) HB4.out.size ?_
            intro vv u5 ho hg hd
            obtain ⟨mW, hmW⟩ : ∃ x, x = (le ++ [(0 : UInt8)]).length := ⟨_, rfl⟩
            obtain ⟨pW, cW, rfl, hsW⟩ := ho.sl hmW
            have hz5 : u4.heap.size ≤ u5.heap.size := hg.size
            have HB5 : Hid (Below w5.heap.size w5 u5) := Lib.hid (HB4.out.trans (HV4.out.below_at (Nat.le_refl _) HB4.out.size hg))
            have H95 : Hid (u5.heap[g9]? = some (.cells #[.int .i64 0, .string ⟨#[]⟩, .int .i64 0, .int .i64 0, .slice none 0 0] 27 (0, 0))) := Lib.hid (by rw [hg.block g9 (by omega) (fun e => by have := Option.some.inj e; omega)]; exact H94.out)
            have HW5 : Hid (Sl u5 pW mW cW (le ++ [0])) := Lib.hid hsW
            clear ho hg hd hsW hmW
            refine hK.out _ _ (HKS.out _ HB5.out) (fun hHeld => ?_)
            clear hK K
            try simp only [Act.put, lq1, lq2, lq3, lq4, lq5, lq6]
            refine wpAnyH_ready (rs := [7]) (by kernel_rfl) (by simp) (.cons rfl (fun K hK => ?_) .nil)
            go_simp
            refine (HM.out _ _ _ _ _ HW5.out).mono ?_
            rintro e u6 ⟨rfl, hb6⟩
            have hz6 : u5.heap.size ≤ u6.heap.size := hb6.size
            have HB6 := hbt HB5 hb6
            have H96 : Hid (u6.heap[g9]? = some (.cells #[.int .i64 0, .string ⟨#[]⟩, .int .i64 0, .int .i64 0, .slice none 0 0] 27 (0, 0))) := Lib.hid (by rw [hb6.block g9 (by omega)]; exact H95.out)
            dsimp only
            refine hK.out _ _ (HKS.out _ HB6.out) (fun hHeld => ?_)
            clear hK K hb6
            try simp only [Act.put, lq1, lq2, lq3, lq4, lq5, lq6]
            refine wpAnyH_take (i := 8) (v := ?_) rfl (by kernel_rfl) (by kernel_rfl) (by kernel_rfl) (fun _ _ _ h => nomatch h.1) (Or.inl ⟨by rfl, ?_⟩) (by assumption) ?_
            rotate_left
            ·intro w hSw; (try dsimp only at hSw); go_simp; try with_reducible rfl
            simp only [Act.put, lq1, lq2, lq3, lq4, lq5, lq6]
            refine wpAnyH_take (i := 9) (v := ?_) rfl (by kernel_rfl) (by kernel_rfl) (by kernel_rfl) (fun _ _ _ h => nomatch h.1) (Or.inl ⟨by rfl, ?_⟩) (by assumption) ?_
            rotate_left
            ·intro w hSw; (try dsimp only at hSw); go_simp; try with_reducible rfl
            simp only [Act.put, lq1, lq2, lq3, lq4, lq5, lq6]
            refine wpAnyH_take (i := 10) (v := ?_) rfl (by kernel_rfl) (by kernel_rfl) (by kernel_rfl) (fun _ _ _ h => nomatch h.1) (Or.inl ⟨by rfl, ?_⟩) (by assumption) ?_
            rotate_left
            ·intro w hSw; (try dsimp only at hSw); go_simp; try with_reducible rfl
            simp only [Act.put, lq1, lq2, lq3, lq4, lq5, lq6]
            refine wpAnyH_ready (rs := [12]) (by kernel_rfl) (by simp) (.cons rfl (fun K hK => ?_) .nil)
            obtain ⟨z0, j0⟩ := rd_at H96.out 0
            obtain ⟨z1, j1⟩ := rd_at H96.out 1
            obtain ⟨z2, j2⟩ := rd_at H96.out 2
            obtain ⟨z3, j3⟩ := rd_at H96.out 3
            obtain ⟨z4, j4⟩ := rd_at H96.out 4
            simp only [List.getElem?_toArray, List.getElem?_cons_zero, List.getElem?_cons_succ] at z0 z1 z2 z3 z4
            have h9lt : g9 < u6.heap.size := (Array.getElem?_eq_some_iff.1 H96.out).1
            go_simp
            refine hK.out _ _ (HKS.out _ (((((HB6.out.setCell (p := ⟨g9, 0, none⟩) (by omega) _).setCell (p := ⟨g9, 1, none⟩) (by omega) _).setCell (p := ⟨g9, 2, none⟩) (by omega) _).setCell (p := ⟨g9, 3, none⟩) (by omega) _).setCell (p := ⟨g9, 4, none⟩) (by omega) _)) (fun hHeld => ?_)
            clear hK K
            try simp only [Act.put, lq1, lq2, lq3, lq4, lq5, lq6]
            obtain ⟨u7, hu7⟩ : ∃ x, x = (((((u6.setCell ⟨g9, 0, none⟩ (.int .i64 0)).setCell ⟨g9, 1, none⟩ (.string ⟨#[]⟩)).setCell ⟨g9, 2, none⟩ (.int .i64 0)).setCell ⟨g9, 3, none⟩ (.int .i64 0)).setCell ⟨g9, 4, none⟩ (.slice none 0 0)) := ⟨_, rfl⟩
            have HB7 : Hid (Below w5.heap.size w5 u7) := Lib.hid (by rw [hu7]; exact (((((HB6.out.setCell (p := ⟨g9, 0, none⟩) (by omega) _).setCell (p := ⟨g9, 1, none⟩) (by omega) _).setCell (p := ⟨g9, 2, none⟩) (by omega) _).setCell (p := ⟨g9, 3, none⟩) (by omega) _).setCell (p := ⟨g9, 4, none⟩) (by omega) _))
            rw [← hu7]
            clear hu7
            refine wpAnyH_ready (rs := [13]) (by kernel_rfl) (by simp) (.cons rfl (fun K hK => ?_) .nil)
            go_simp
            refine hK.out _ _ (HKS.out _ HB7.out) (fun hHeld => ?_)
            clear hK K
            try simp only [Act.put, lq1, lq2, lq3, lq4, lq5, lq6]
            have HB8 := Lib.hid HB7.out
            refine wpAnyH_done (by kernel_rfl) ?_ _
            exact ⟨rfl, ⟨_, _, _, _, _, _, _, _, _, _, _, _, rfl⟩, HB8.out⟩
          ·go_simp
           refine hK.out _ _ (HKS.out _ (HB1.out.alloc HB1.out.size _)) (fun hHeld => ?_)
           clear hK K
           try simp only [Act.put, lq1, lq2, lq3, lq4, lq5, lq6]
           obtain ⟨u2, hu2⟩ : ∃ x, x = u1.alloc (.cells #[.int .i64 0, .string ⟨#[]⟩, .int .i64 0, .int .i64 0, .slice none 0 0] 27) := ⟨_, rfl⟩
           rw [← hu2]
           obtain ⟨g9, hg9⟩ : ∃ x, x = u1.heap.size := ⟨_, rfl⟩
           rw [← hg9]
           have hz2 : u1.heap.size < u2.heap.size := by rw [hu2]; simp
           have hgeg9 : w5.heap.size ≤ g9 := by have := HB1.out.size; omega
           have hb2 : Below u1.heap.size u1 u2 := by rw [hu2]; exact (Below.refl _ _).alloc (Nat.le_refl _) _
           have HB2 := hbt HB1 hb2
           have HA2 : Hid (Own u2 w5.heap.size (.slice (some ⟨gA, 0, none⟩) 0 0) []) := Lib.hid (HA1.out.below hb2)
           have H92 : Hid (u2.heap[g9]? = some (.cells #[.int .i64 0, .string ⟨#[]⟩, .int .i64 0, .int .i64 0, .slice none 0 0] 27 (0, 0))) := Lib.hid (by rw [hu2, hg9]; exact heap_alloc_new u1 _)
           have hltgAg9 : gA < g9 := by omega
           have hltg9 : g9 < u2.heap.size := by omega
           clear hb2 hu2 hg9
           refine wpAnyH_ready (rs := [2, 3]) (by kernel_rfl) (by simp) (.cons rfl (fun K hK => ?_) (.cons rfl (fun K hK => ?_) .nil))
           ·refine step_at (by rfl) (.tmp 104) (.tmp 105) rfl rfl HA2.out rfl HNE.out rfl (HS5.out.b.below HB2.out) HS5.out.h0 (by have := HLN.out; simp; omega) HB2.out.size ?_
            intro vv u3 ho hg hd
            rw [List.nil_append] at ho hd
            obtain ⟨gV, cV, rfl, _, _, _, hgV, _⟩ := ho.some HNE.out hn0
            have hdV : gV = gA ∨ u2.heap.size ≤ gV := hd.elim (fun h => .inl (Option.some.inj h)) (fun h => .inr (World.ownsRow.lt h gV rfl).1)
            have hz3 : u2.heap.size ≤ u3.heap.size := hg.size
            have HB3 : Hid (Below w5.heap.size w5 u3) := Lib.hid (HB2.out.trans (HA2.out.below_at (Nat.le_refl _) HB2.out.size hg))
            have H93 : Hid (u3.heap[g9]? = some (.cells #[.int .i64 0, .string ⟨#[]⟩, .int .i64 0, .int .i64 0, .slice none 0 0] 27 (0, 0))) := Lib.hid (by rw [hg.block g9 (by omega) (fun e => by have := Option.some.inj e; omega)]; exact H92.out)
            have HV3 : Hid (Own u3 w5.heap.size (.slice (some ⟨gV, 0, none⟩) ne cV) le) := Lib.hid ho
            clear ho hg hd
            refine hK.out _ _ (HKS.out _ HB3.out) (fun hHeld => ?_)
            clear hK K
            try simp only [Act.put, lq1, lq2, lq3, lq4, lq5, lq6]
            refine wpAnyH_ready (rs := [3]) (by kernel_rfl) (by simp) (.cons rfl (fun K hK => ?_) .nil)
            go_simp
            refine hK.out _ _ (HKS.out _ (HB3.out.alloc HB3.out.size _)) (fun hHeld => ?_)
            clear hK K
            try simp only [Act.put, lq1, lq2, lq3, lq4, lq5, lq6]
            obtain ⟨u4, hu4⟩ : ∃ x, x = u3.alloc (.cells #[.int .u8 0] 5) := ⟨_, rfl⟩
            rw [← hu4]
            obtain ⟨gC, hgC⟩ : ∃ x, x = u3.heap.size := ⟨_, rfl⟩
            rw [← hgC]
            have hz4 : u3.heap.size < u4.heap.size := by rw [hu4]; simp
            have hgegC : w5.heap.size ≤ gC := by have := HB3.out.size; omega
            have hb4 : Below u3.heap.size u3 u4 := by rw [hu4]; exact (Below.refl _ _).alloc (Nat.le_refl _) _
            have HB4 := hbt HB3 hb4
            have H94 : Hid (u4.heap[g9]? = some (.cells #[.int .i64 0, .string ⟨#[]⟩, .int .i64 0, .int .i64 0, .slice none 0 0] 27 (0, 0))) := Lib.hid (by rw [hb4.block g9 (by omega)]; exact H93.out)
            have HV4 : Hid (Own u4 w5.heap.size (.slice (some ⟨gV, 0, none⟩) ne cV) le) := Lib.hid (HV3.out.below hb4)
            have HC4 : Hid (u4.heap[gC]? = some (.cells #[.int .u8 0] 5 (0, 0))) := Lib.hid (by rw [hu4, hgC]; exact heap_alloc_new u3 _)
            have hltg9gC : g9 < gC := by omega
            have hltgVgC : gV < gC := by omega
            have hltgC : gC < u4.heap.size := by omega
            clear hb4 hu4 hgC
            refine wpAnyH_ready (rs := [4]) (by kernel_rfl) (by simp) (.cons rfl (fun K hK => ?_) .nil)
            refine step_at (by rfl) (.tmp 106) (.tmp 107) rfl rfl HV4.out HNE.out (m := [0]) rfl rfl (Bs.of_block HC4.out rfl) (fun e => by cases e) (by have := HLN.out; simp; omega) HB4.out.size ?_
            intro vv u5 ho hg hd
            obtain ⟨mW, hmW⟩ : ∃ x, x = (le ++ [(0 : UInt8)]).length := ⟨_, rfl⟩
            obtain ⟨pW, cW, rfl, hsW⟩ := ho.sl hmW
            have hz5 : u4.heap.size ≤ u5.heap.size := hg.size
            have HB5 : Hid (Below w5.heap.size w5 u5) := Lib.hid (HB4.out.trans (HV4.out.below_at (Nat.le_refl _) HB4.out.size hg))
            have H95 : Hid (u5.heap[g9]? = some (.cells #[.int .i64 0, .string ⟨#[]⟩, .int .i64 0, .int .i64 0, .slice none 0 0] 27 (0, 0))) := Lib.hid (by rw [hg.block g9 (by omega) (fun e => by have := Option.some.inj e; omega)]; exact H94.out)
            have HW5 : Hid (Sl u5 pW mW cW (le ++ [0])) := Lib.hid hsW
            clear ho hg hd hsW hmW
            refine hK.out _ _ (HKS.out _ HB5.out) (fun hHeld => ?_)
            clear hK K
            try simp only [Act.put, lq1, lq2, lq3, lq4, lq5, lq6]
            refine wpAnyH_ready (rs := [7]) (by kernel_rfl) (by simp) (.cons rfl (fun K hK => ?_) .nil)
            go_simp
            refine (HM.out _ _ _ _ _ HW5.out).mono ?_
            rintro e u6 ⟨rfl, hb6⟩
            have hz6 : u5.heap.size ≤ u6.heap.size := hb6.size
            have HB6 := hbt HB5 hb6
            have H96 : Hid (u6.heap[g9]? = some (.cells #[.int .i64 0, .string ⟨#[]⟩, .int .i64 0, .int .i64 0, .slice none 0 0] 27 (0, 0))) := Lib.hid (by rw [hb6.block g9 (by omega)]; exact H95.out)
            dsimp only
            refine hK.out _ _ (HKS.out _ HB6.out) (fun hHeld => ?_)
            clear hK K hb6
            try simp only [Act.put, lq1, lq2, lq3, lq4, lq5, lq6]
            refine wpAnyH_take (i := 8) (v := ?_) rfl (by kernel_rfl) (by kernel_rfl) (by kernel_rfl) (fun _ _ _ h => nomatch h.1) (Or.inl ⟨by rfl, ?_⟩) (by assumption) ?_
            rotate_left
            ·intro w hSw; (try dsimp only at hSw); go_simp; try with_reducible rfl
            simp only [Act.put, lq1, lq2, lq3, lq4, lq5, lq6]
            refine wpAnyH_take (i := 9) (v := ?_) rfl (by kernel_rfl) (by kernel_rfl) (by kernel_rfl) (fun _ _ _ h => nomatch h.1) (Or.inl ⟨by rfl, ?_⟩) (by assumption) ?_
            rotate_left
            ·intro w hSw; (try dsimp only at hSw); go_simp; try with_reducible rfl
            simp only [Act.put, lq1, lq2, lq3, lq4, lq5, lq6]
            refine wpAnyH_take (i := 10) (v := ?_) rfl (by kernel_rfl) (by kernel_rfl) (by kernel_rfl) (fun _ _ _ h => nomatch h.1) (Or.inl ⟨by rfl, ?_⟩) (by assumption) ?_
            rotate_left
            ·intro w hSw; (try dsimp only at hSw); go_simp; try with_reducible rfl
            simp only [Act.put, lq1, lq2, lq3, lq4, lq5, lq6]
            refine wpAnyH_ready (rs := [12]) (by kernel_rfl) (by simp) (.cons rfl (fun K hK => ?_) .nil)
            obtain ⟨z0, j0⟩ := rd_at H96.out 0
            obtain ⟨z1, j1⟩ := rd_at H96.out 1
            obtain ⟨z2, j2⟩ := rd_at H96.out 2
            obtain ⟨z3, j3⟩ := rd_at H96.out 3
            obtain ⟨z4, j4⟩ := rd_at H96.out 4
            simp only [List.getElem?_toArray, List.getElem?_cons_zero, List.getElem?_cons_succ] at z0 z1 z2 z3 z4
            have h9lt : g9 < u6.heap.size := (Array.getElem?_eq_some_iff.1 H96.out).1
            go_simp
            refine hK.out _ _ (HKS.out _ (((((HB6.out.setCell (p := ⟨g9, 0, none⟩) (by omega) _).setCell (p := ⟨g9, 1, none⟩) (by omega) _).setCell (p := ⟨g9, 2, none⟩) (by omega) _).setCell (p := ⟨g9, 3, none⟩) (by omega) _).setCell (p := ⟨g9, 4, none⟩) (by omega) _)) (fun hHeld => ?_)
            clear hK K
            try simp only [Act.put, lq1, lq2, lq3, lq4, lq5, lq6]
            obtain ⟨u7, hu7⟩ : ∃ x, x = (((((u6.setCell ⟨g9, 0, none⟩ (.int .i64 0)).setCell ⟨g9, 1, none⟩ (.string ⟨#[]⟩)).setCell ⟨g9, 2, none⟩ (.int .i64 0)).setCell ⟨g9, 3, none⟩ (.int .i64 0)).setCell ⟨g9, 4, none⟩ (.slice none 0 0)) := ⟨_, rfl⟩
            have HB7 : Hid (Below w5.heap.size w5 u7) := Lib.hid (by rw [hu7]; exact (((((HB6.out.setCell (p := ⟨g9, 0, none⟩) (by omega) _).setCell (p := ⟨g9, 1, none⟩) (by omega) _).setCell (p := ⟨g9, 2, none⟩) (by omega) _).setCell (p := ⟨g9, 3, none⟩) (by omega) _).setCell (p := ⟨g9, 4, none⟩) (by omega) _))
            rw [← hu7]
            clear hu7
            refine wpAnyH_ready (rs := [13]) (by kernel_rfl) (by simp) (.cons rfl (fun K hK => ?_) .nil)
            go_simp
            refine hK.out _ _ (HKS.out _ HB7.out) (fun hHeld => ?_)
            clear hK K
            try simp only [Act.put, lq1, lq2, lq3, lq4, lq5, lq6]
            have HB8 := Lib.hid HB7.out
            refine wpAnyH_done (by kernel_rfl) ?_ _
            exact ⟨rfl, ⟨_, _, _, _, _, _, _, _, _, _, _, _, rfl⟩, HB8.out⟩
           ·go_simp
            refine hK.out _ _ (HKS.out _ (HB2.out.alloc HB2.out.size _)) (fun hHeld => ?_)
            clear hK K
            try simp only [Act.put, lq1, lq2, lq3, lq4, lq5, lq6]
            obtain ⟨u3, hu3⟩ : ∃ x, x = u2.alloc (.cells #[.int .u8 0] 5) := ⟨_, rfl⟩
            rw [← hu3]
            obtain ⟨gC, hgC⟩ : ∃ x, x = u2.heap.size := ⟨_, rfl⟩
            rw [← hgC]
            have hz3 : u2.heap.size < u3.heap.size := by rw [hu3]; simp
            have hgegC : w5.heap.size ≤ gC := by have := HB2.out.size; omega
            have hb3 : Below u2.heap.size u2 u3 := by rw [hu3]; exact (Below.refl _ _).alloc (Nat.le_refl _) _
            have HB3 := hbt HB2 hb3
            have H93 : Hid (u3.heap[g9]? = some (.cells #[.int .i64 0, .string ⟨#[]⟩, .int .i64 0, .int .i64 0, .slice none 0 0] 27 (0, 0))) := Lib.hid (by rw [hb3.block g9 (by omega)]; exact H92.out)
            have HA3 : Hid (Own u3 w5.heap.size (.slice (some ⟨gA, 0, none⟩) 0 0) []) := Lib.hid (HA2.out.below hb3)
            have HC3 : Hid (u3.heap[gC]? = some (.cells #[.int .u8 0] 5 (0, 0))) := Lib.hid (by rw [hu3, hgC]; exact heap_alloc_new u2 _)
            have hltg9gC : g9 < gC := by omega
            have hltgAgC : gA < gC := by omega
            have hltgC : gC < u3.heap.size := by omega
            clear hb3 hu3 hgC
            refine wpAnyH_ready (rs := [2]) (by kernel_rfl) (by simp) (.cons rfl (fun K hK => ?_) .nil)
            refine step_at (by rfl) (.tmp 104) (.tmp 105) rfl rfl HA3.out rfl HNE.out rfl (HS5.out.b.below HB3.out) HS5.out.h0 (by have := HLN.out; simp; omega) HB3.out.size ?_
            intro vv u4 ho hg hd
            rw [List.nil_append] at ho hd
            obtain ⟨gV, cV, rfl, _, _, _, hgV, _⟩ := ho.some HNE.out hn0
            have hdV : gV = gA ∨ u3.heap.size ≤ gV := hd.elim (fun h => .inl (Option.some.inj h)) (fun h => .inr (World.ownsRow.lt h gV rfl).1)
            have hz4 : u3.heap.size ≤ u4.heap.size := hg.size
            have HB4 : Hid (Below w5.heap.size w5 u4) := Lib.hid (HB3.out.trans (HA3.out.below_at (Nat.le_refl _) HB3.out.size hg))
            have H94 : Hid (u4.heap[g9]? = some (.cells #[.int .i64 0, .string ⟨#[]⟩, .int .i64 0, .int .i64 0, .slice none 0 0] 27 (0, 0))) := Lib.hid (by rw [hg.block g9 (by omega) (fun e => by have := Option.some.inj e; omega)]; exact H93.out)
            have HC4 : Hid (u4.heap[gC]? = some (.cells #[.int .u8 0] 5 (0, 0))) := Lib.hid (by rw [hg.block gC (by omega) (fun e => by have := Option.some.inj e; omega)]; exact HC3.out)
            have HV4 : Hid (Own u4 w5.heap.size (.slice (some ⟨gV, 0, none⟩) ne cV) le) := Lib.hid ho
            clear ho hg hd
            refine hK.out _ _ (HKS.out _ HB4.out) (fun hHeld => ?_)
            clear hK K
            try simp only [Act.put, lq1, lq2, lq3, lq4, lq5, lq6]
            refine wpAnyH_ready (rs := [4]) (by kernel_rfl) (by simp) (.cons rfl (fun K hK => ?_) .nil)
            refine step_at (by rfl) (.tmp 106) (.tmp 107) rfl rfl HV4.out HNE.out (m := [0]) rfl rfl (Bs.of_block HC4.out rfl) (fun e => by cases e) (by have := HLN.out; simp; omega) HB4.out.size ?_
            intro vv u5 ho hg hd
            obtain ⟨mW, hmW⟩ : ∃ x, x = (le ++ [(0 : UInt8)]).length := ⟨_, rfl⟩
            obtain ⟨pW, cW, rfl, hsW⟩ := ho.sl hmW
            have hz5 : u4.heap.size ≤ u5.heap.size := hg.size
            have HB5 : Hid (Below w5.heap.size w5 u5) := Lib.hid (HB4.out.trans (HV4.out.below_at (Nat.le_refl _) HB4.out.size hg))
            have H95 : Hid (u5.heap[g9]? = some (.cells #[.int .i64 0, .string ⟨#[]⟩, .int .i64 0, .int .i64 0, .slice none 0 0] 27 (0, 0))) := Lib.hid (by rw [hg.block g9 (by omega) (fun e => by have := Option.some.inj e; omega)]; exact H94.out)
            have HW5 : Hid (Sl u5 pW mW cW (le ++ [0])) := Lib.hid hsW
            clear ho hg hd hsW hmW
            refine hK.out _ _ (HKS.out _ HB5.out) (fun hHeld => ?_)
            clear hK K
            try simp only [Act.put, lq1, lq2, lq3, lq4, lq5, lq6]
            refine wpAnyH_ready (rs := [7]) (by kernel_rfl) (by simp) (.cons rfl (fun K hK => ?_) .nil)
            go_simp
            refine (HM.out _ _ _ _ _ HW5.out).mono ?_
            rintro e u6 ⟨rfl, hb6⟩
            have hz6 : u5.heap.size ≤ u6.heap.size := hb6.size
            have HB6 := hbt HB5 hb6
            have H96 : Hid (u6.heap[g9]? = some (.cells #[.int .i64 0, .string ⟨#[]⟩, .int .i64 0, .int .i64 0, .slice none 0 0] 27 (0, 0))) := Lib.hid (by rw [hb6.block g9 (by omega)]; exact H95.out)
            dsimp only
            refine hK.out _ _ (HKS.out _ HB6.out) (fun hHeld => ?_)
            clear hK K hb6
            try simp only [Act.put, lq1, lq2, lq3, lq4, lq5, lq6]
            refine wpAnyH_take (i := 8) (v := ?_) rfl (by kernel_rfl) (by kernel_rfl) (by kernel_rfl) (fun _ _ _ h => nomatch h.1) (Or.inl ⟨by rfl, ?_⟩) (by assumption) ?_
            rotate_left
            ·intro w hSw; (try dsimp only at hSw); go_simp; try with_reducible rfl
            simp only [Act.put, lq1, lq2, lq3, lq4, lq5, lq6]
            refine wpAnyH_take (i := 9) (v := ?_) rfl (by kernel_rfl) (by kernel_rfl) (by kernel_rfl) (fun _ _ _ h => nomatch h.1) (Or.inl ⟨by rfl, ?_⟩) (by assumption) ?_
            rotate_left
            ·intro w hSw; (try dsimp only at hSw); go_simp; try with_reducible rfl
            simp only [Act.put, lq1, lq2, lq3, lq4, lq5, lq6]
            refine wpAnyH_take (i := 10) (v := ?_) rfl (by kernel_rfl) (by kernel_rfl) (by kernel_rfl) (fun _ _ _ h => nomatch h.1) (Or.inl ⟨by rfl, ?_⟩) (by assumption) ?_
            rotate_left
            ·intro w hSw; (try dsimp only at hSw); go_simp; try with_reducible rfl
            simp only [Act.put, lq1, lq2, lq3, lq4, lq5, lq6]
            refine wpAnyH_ready (rs := [12]) (by kernel_rfl) (by simp) (.cons rfl (fun K hK => ?_) .nil)
            obtain ⟨z0, j0⟩ := rd_at H96.out 0
            obtain ⟨z1, j1⟩ := rd_at H96.out 1
            obtain ⟨z2, j2⟩ := rd_at H96.out 2
            obtain ⟨z3, j3⟩ := rd_at H96.out 3
            obtain ⟨z4, j4⟩ := rd_at H96.out 4
            simp only [List.getElem?_toArray, List.getElem?_cons_zero, List.getElem?_cons_succ] at z0 z1 z2 z3 z4
            have h9lt : g9 < u6.heap.size := (Array.getElem?_eq_some_iff.1 H96.out).1
            go_simp
            refine hK.out _ _ (HKS.out _ (((((HB6.out.setCell (p := ⟨g9, 0, none⟩) (by omega) _).setCell (p := ⟨g9, 1, none⟩) (by omega) _).setCell (p := ⟨g9, 2, none⟩) (by omega) _).setCell (p := ⟨g9, 3, none⟩) (by omega) _).setCell (p := ⟨g9, 4, none⟩) (by omega) _)) (fun hHeld => ?_)
            clear hK K
            try simp only [Act.put, lq1, lq2, lq3, lq4, lq5, lq6]
            obtain ⟨u7, hu7⟩ : ∃ x, x = (((((u6.setCell ⟨g9, 0, none⟩ (.int .i64 0)).setCell ⟨g9, 1, none⟩ (.string ⟨#[]⟩)).setCell ⟨g9, 2, none⟩ (.int .i64 0)).setCell ⟨g9, 3, none⟩ (.int .i64 0)).setCell ⟨g9, 4, none⟩ (.slice none 0 0)) := ⟨_, rfl⟩
            have HB7 : Hid (Below w5.heap.size w5 u7) := Lib.hid (by rw [hu7]; exact (((((HB6.out.setCell (p := ⟨g9, 0, none⟩) (by omega) _).setCell (p := ⟨g9, 1, none⟩) (by omega) _).setCell (p := ⟨g9, 2, none⟩) (by omega) _).setCell (p := ⟨g9, 3, none⟩) (by omega) _).setCell (p := ⟨g9, 4, none⟩) (by omega) _))
            rw [← hu7]
            clear hu7
            refine wpAnyH_ready (rs := [13]) (by kernel_rfl) (by simp) (.cons rfl (fun K hK => ?_) .nil)
            go_simp
            refine hK.out _ _ (HKS.out _ HB7.out) (fun hHeld => ?_)
            clear hK K
            try simp only [Act.put, lq1, lq2, lq3, lq4, lq5, lq6]
            have HB8 := Lib.hid HB7.out
            refine wpAnyH_done (by kernel_rfl) ?_ _
            exact ⟨rfl, ⟨_, _, _, _, _, _, _, _, _, _, _, _, rfl⟩, HB8.out⟩
         ·go_simp
          refine hK.out _ _ (HKS.out _ (HB0.out.alloc HB0.out.size _)) (fun hHeld => ?_)
          clear hK K
          try simp only [Act.put, lq1, lq2, lq3, lq4, lq5, lq6]
          obtain ⟨u1, hu1⟩ : ∃ x, x = u0.alloc (.cells #[.int .u8 0] 5) := ⟨_, rfl⟩
          rw [← hu1]
          obtain ⟨gC, hgC⟩ : ∃ x, x = u0.heap.size := ⟨_, rfl⟩
          rw [← hgC]
          have hz1 : u0.heap.size < u1.heap.size := by rw [hu1]; simp
          have hgegC : w5.heap.size ≤ gC := by have := HB0.out.size; omega
          have hb1 : Below u0.heap.size u0 u1 := by rw [hu1]; exact (Below.refl _ _).alloc (Nat.le_refl _) _
          have HB1 := hbt HB0 hb1
          have HC1 : Hid (u1.heap[gC]? = some (.cells #[.int .u8 0] 5 (0, 0))) := Lib.hid (by rw [hu1, hgC]; exact heap_alloc_new u0 _)
          have hltgC : gC < u1.heap.size := by omega
          clear hb1 hu1 hgC
          refine wpAnyH_ready (rs := [0, 11]) (by kernel_rfl) (by simp) (.cons rfl (fun K hK => ?_) (.cons rfl (fun K hK => ?_) .nil))
          ·go_simp
           refine hK.out _ _ (HKS.out _ (HB1.out.alloc HB1.out.size _)) (fun hHeld => ?_)
           clear hK K
           try simp only [Act.put, lq1, lq2, lq3, lq4, lq5, lq6]
           obtain ⟨u2, hu2⟩ : ∃ x, x = u1.alloc (.cells #[] 5) := ⟨_, rfl⟩
           rw [← hu2]
           obtain ⟨gA, hgA⟩ : ∃ x, x = u1.heap.size := ⟨_, rfl⟩
           rw [← hgA]
           have hz2 : u1.heap.size < u2.heap.size := by rw [hu2]; simp
           have hgegA : w5.heap.size ≤ gA := by have := HB1.out.size; omega
           have hb2 : Below u1.heap.size u1 u2 := by rw [hu2]; exact (Below.refl _ _).alloc (Nat.le_refl _) _
           have HB2 := hbt HB1 hb2
           have HC2 : Hid (u2.heap[gC]? = some (.cells #[.int .u8 0] 5 (0, 0))) := Lib.hid (by rw [hb2.block gC (by omega)]; exact HC1.out)
           have HA2 : Hid (Own u2 w5.heap.size (.slice (some ⟨gA, 0, none⟩) 0 0) []) := Lib.hid (by rw [hu2]; exact Own.fresh hgA (by have := HB1.out.size; omega))
           have hltgCgA : gC < gA := by omega
           have hltgA : gA < u2.heap.size := by omega
           clear hb2 hu2 hgA
           refine wpAnyH_ready (rs := [2, 11]) (by kernel_rfl) (by simp) (.cons rfl (fun K hK => ?_) (.cons rfl (fun K hK => ?_) .nil))
           ·refine step_at (by rfl) (.tmp 104) (.tmp 105) rfl rfl HA2.out rfl HNE.out rfl (HS5.out.b.below HB2.out) HS5.out.h0 (by have := HLN.out; simp; omega) HB2.out.size ?_
            intro vv u3 ho hg hd
            rw [List.nil_append] at ho hd
            obtain ⟨gV, cV, rfl, _, _, _, hgV, _⟩ := ho.some HNE.out hn0
            have hdV : gV = gA ∨ u2.heap.size ≤ gV := hd.elim (fun h => .inl (Option.some.inj h)) (fun h => .inr (World.ownsRow.lt h gV rfl).1)
            have hz3 : u2.heap.size ≤ u3.heap.size := hg.size
            have HB3 : Hid (Below w5.heap.size w5 u3) := Lib.hid (HB2.out.trans (HA2.out.below_at (Nat.le_refl _) HB2.out.size hg))
            have HC3 : Hid (u3.heap[gC]? = some (.cells #[.int .u8 0] 5 (0, 0))) := Lib.hid (by rw [hg.block gC (by omega) (fun e => by have := Option.some.inj e; omega)]; exact HC2.out)
            have HV3 : Hid (Own u3 w5.heap.size (.slice (some ⟨gV, 0, none⟩) ne cV) le) := Lib.hid ho
            clear ho hg hd
            refine hK.out _ _ (HKS.out _ HB3.out) (fun hHeld => ?_)
            clear hK K
            try simp only [Act.put, lq1, lq2, lq3, lq4, lq5, lq6]
            refine wpAnyH_ready (rs := [4, 11]) (by kernel_rfl) (by simp) (.cons rfl (fun K hK => ?_) (.cons rfl (fun K hK => ?_) .nil))
            ·refine step_at (by rfl) (.tmp 106) (.tmp 107) rfl rfl HV3.out HNE.out (m := [0]) rfl rfl (Bs.of_block HC3.out rfl) (fun e => by cases e) (by have := HLN.out; simp; omega) HB3.out.size ?_
             intro vv u4 ho hg hd
             obtain ⟨mW, hmW⟩ : ∃ x, x = (le ++ [(0 : UInt8)]).length := ⟨_, rfl⟩
             obtain ⟨pW, cW, rfl, hsW⟩ := ho.sl hmW
             have hz4 : u3.heap.size ≤ u4.heap.size := hg.size
             have HB4 : Hid (Below w5.heap.size w5 u4) := Lib.hid (HB3.out.trans (HV3.out.below_at (Nat.le_refl _) HB3.out.size hg))
             have HW4 : Hid (Sl u4 pW mW cW (le ++ [0])) := Lib.hid hsW
             clear ho hg hd hsW hmW
             refine hK.out _ _ (HKS.out _ HB4.out) (fun hHeld => ?_)
             clear hK K
             try simp only [Act.put, lq1, lq2, lq3, lq4, lq5, lq6]
             refine wpAnyH_ready (rs := [7, 11]) (by kernel_rfl) (by simp) (.cons rfl (fun K hK => ?_) (.cons rfl (fun K hK => ?_) .nil))
             ·go_simp
              refine (HM.out _ _ _ _ _ HW4.out).mono ?_
              rintro e u5 ⟨rfl, hb5⟩
              have hz5 : u4.heap.size ≤ u5.heap.size := hb5.size
              have HB5 := hbt HB4 hb5
              dsimp only
              refine hK.out _ _ (HKS.out _ HB5.out) (fun hHeld => ?_)
              clear hK K hb5
              try simp only [Act.put, lq1, lq2, lq3, lq4, lq5, lq6]
              refine wpAnyH_take (i := 8) (v := ?_) rfl (by kernel_rfl) (by kernel_rfl) (by kernel_rfl) (fun _ _ _ h => nomatch h.1) (Or.inl ⟨by rfl, ?_⟩) (by assumption) ?_
              rotate_left
              ·intro w hSw; (try dsimp only at hSw); go_simp; try with_reducible rfl
              simp only [Act.put, lq1, lq2, lq3, lq4, lq5, lq6]
              refine wpAnyH_take (i := 9) (v := ?_) rfl (by kernel_rfl) (by kernel_rfl) (by kernel_rfl) (fun _ _ _ h => nomatch h.1) (Or.inl ⟨by rfl, ?_⟩) (by assumption) ?_
              rotate_left
              ·intro w hSw; (try dsimp only at hSw); go_simp; try with_reducible rfl
              simp only [Act.put, lq1, lq2, lq3, lq4, lq5, lq6]
              refine wpAnyH_take (i := 10) (v := ?_) rfl (by kernel_rfl) (by kernel_rfl) (by kernel_rfl) (fun _ _ _ h => nomatch h.1) (Or.inl ⟨by rfl, ?_⟩) (by assumption) ?_
              rotate_left
              ·intro w hSw; (try dsimp only at hSw); go_simp; try with_reducible rfl
              simp only [Act.put, lq1, lq2, lq3, lq4, lq5, lq6]
              refine wpAnyH_ready (rs := [11]) (by kernel_rfl) (by simp) (.cons rfl (fun K hK => ?_) .nil)
              go_simp
              refine hK.out _ _ (HKS.out _ (HB5.out.alloc HB5.out.size _)) (fun hHeld => ?_)
              clear hK K
              try simp only [Act.put, lq1, lq2, lq3, lq4, lq5, lq6]
              obtain ⟨u6, hu6⟩ : ∃ x, x = u5.alloc (.cells #[.int .i64 0, .string ⟨#[]⟩, .int .i64 0, .int .i64 0, .slice none 0 0] 27) := ⟨_, rfl⟩
              rw [← hu6]
              obtain ⟨g9, hg9⟩ : ∃ x, x = u5.heap.size := ⟨_, rfl⟩
              rw [← hg9]
              have hz6 : u5.heap.size < u6.heap.size := by rw [hu6]; simp
              have hgeg9 : w5.heap.size ≤ g9 := by have := HB5.out.size; omega
              have hb6 : Below u5.heap.size u5 u6 := by rw [hu6]; exact (Below.refl _ _).alloc (Nat.le_refl _) _
              have HB6 := hbt HB5 hb6
              have H96 : Hid (u6.heap[g9]? = some (.cells #[.int .i64 0, .string ⟨#[]⟩, .int .i64 0, .int .i64 0, .slice none 0 0] 27 (0, 0))) := Lib.hid (by rw [hu6, hg9]; exact heap_alloc_new u5 _)
              have hltg9 : g9 < u6.heap.size := by omega
              clear hb6 hu6 hg9
              refine wpAnyH_ready (rs := [12]) (by kernel_rfl) (by simp) (.cons rfl (fun K hK => ?_) .nil)
              obtain ⟨z0, j0⟩ := rd_at H96.out 0
              obtain ⟨z1, j1⟩ := rd_at H96.out 1
              obtain ⟨z2, j2⟩ := rd_at H96.out 2
              obtain ⟨z3, j3⟩ := rd_at H96.out 3
              obtain ⟨z4, j4⟩ := rd_at H96.out 4
              simp only [List.getElem?_toArray, List.getElem?_cons_zero, List.getElem?_cons_succ] at z0 z1 z2 z3 z4
              have h9lt : g9 < u6.heap.size := (Array.getElem?_eq_some_iff.1 H96.out).1
              go_simp
              refine hK.out _ _ (HKS.out _ (((((HB6.out.setCell (p := ⟨g9, 0, none⟩) (by omega) _).setCell (p := ⟨g9, 1, none⟩) (by omega) _).setCell (p := ⟨g9, 2, none⟩) (by omega) _).setCell (p := ⟨g9, 3, none⟩) (by omega) _).setCell (p := ⟨g9, 4, none⟩) (by omega) _)) (fun hHeld => ?_)
              clear hK K
              try simp only [Act.put, lq1, lq2, lq3, lq4, lq5, lq6]
              obtain ⟨u7, hu7⟩ : ∃ x, x = (((((u6.setCell ⟨g9, 0, none⟩ (.int .i64 0)).setCell ⟨g9, 1, none⟩ (.string ⟨#[]⟩)).setCell ⟨g9, 2, none⟩ (.int .i64 0)).setCell ⟨g9, 3, none⟩ (.int .i64 0)).setCell ⟨g9, 4, none⟩ (.slice none 0 0)) := ⟨_, rfl⟩
              have HB7 : Hid (Below w5.heap.size w5 u7) := Lib.hid (by rw [hu7]; exact (((((HB6.out.setCell (p := ⟨g9, 0, none⟩) (by omega) _).setCell (p := ⟨g9, 1, none⟩) (by omega) _).setCell (p := ⟨g9, 2, none⟩) (by omega) _).setCell (p := ⟨g9, 3, none⟩) (by omega) _).setCell (p := ⟨g9, 4, none⟩) (by omega) _))
              rw [← hu7]
              clear hu7
              refine wpAnyH_ready (rs := [13]) (by kernel_rfl) (by simp) (.cons rfl (fun K hK => ?_) .nil)
              go_simp
              refine hK.out _ _ (HKS.out _ HB7.out) (fun hHeld => ?_)
              clear hK K
              try simp only [Act.put, lq1, lq2, lq3, lq4, lq5, lq6]
              have HB8 := Lib.hid HB7.out
              refine wpAnyH_done (by kernel_rfl) ?_ _
              exact ⟨rfl, ⟨_, _, _, _, _, _, _, _, _, _, _, _, rfl⟩, HB8.out⟩
             ·go_simp
              refine hK.out _ _ (HKS.out _ (HB4.out.alloc HB4.out.size _)) (fun hHeld => ?_)
              clear hK K
              try simp only [Act.put, lq1, lq2, lq3, lq4, lq5, lq6]
              obtain ⟨u5, hu5⟩ : ∃ x, x = u4.alloc (.cells #[.int .i64 0, .string ⟨#[]⟩, .int .i64 0, .int .i64 0, .slice none 0 0] 27) := ⟨_, rfl⟩
              rw [← hu5]
              obtain ⟨g9, hg9⟩ : ∃ x, x = u4.heap.size := ⟨_, rfl⟩
              rw [← hg9]
              have hz5 : u4.heap.size < u5.heap.size := by rw [hu5]; simp
              have hgeg9 : w5.heap.size ≤ g9 := by have := HB4.out.size; omega
              have hb5 : Below u4.heap.size u4 u5 := by rw [hu5]; exact (Below.refl _ _).alloc (Nat.le_refl _) _
              have HB5 := hbt HB4 hb5
              have HW5 : Hid (Sl u5 pW mW cW (le ++ [0])) := Lib.hid (HW4.out.below hb5)
              have H95 : Hid (u5.heap[g9]? = some (.cells #[.int .i64 0, .string ⟨#[]⟩, .int .i64 0, .int .i64 0, .slice none 0 0] 27 (0, 0))) := Lib.hid (by rw [hu5, hg9]; exact heap_alloc_new u4 _)
              have hltg9 : g9 < u5.heap.size := by omega
              clear hb5 hu5 hg9
              refine wpAnyH_ready (rs := [7]) (by kernel_rfl) (by simp) (.cons rfl (fun K hK => ?_) .nil)
              go_simp
              refine (HM.out _ _ _ _ _ HW5.out).mono ?_
              rintro e u6 ⟨rfl, hb6⟩
              have hz6 : u5.heap.size ≤ u6.heap.size := hb6.size
              have HB6 := hbt HB5 hb6
              have H96 : Hid (u6.heap[g9]? = some (.cells #[.int .i64 0, .string ⟨#[]⟩, .int .i64 0, .int .i64 0, .slice none 0 0] 27 (0, 0))) := Lib.hid (by rw [hb6.block g9 (by omega)]; exact H95.out)
              dsimp only
              refine hK.out _ _ (HKS.out _ HB6.out) (fun hHeld => ?_)
              clear hK K hb6
              try simp only [Act.put, lq1, lq2, lq3, lq4, lq5, lq6]
              refine wpAnyH_take (i := 8) (v := ?_) rfl (by kernel_rfl) (by kernel_rfl) (by kernel_rfl) (fun _ _ _ h => nomatch h.1) (Or.inl ⟨by rfl, ?_⟩) (by assumption) ?_
              rotate_left
              ·intro w hSw; (try dsimp only at hSw); go_simp; try with_reducible rfl
              simp only [Act.put, lq1, lq2, lq3, lq4, lq5, lq6]
              refine wpAnyH_take (i := 9) (v := ?_) rfl (by kernel_rfl) (by kernel_rfl) (by kernel_rfl) (fun _ _ _ h => nomatch h.1) (Or.inl ⟨by rfl, ?_⟩) (by assumption) ?_
              rotate_left
              ·intro w hSw; (try dsimp only at hSw); go_simp; try with_reducible rfl
              simp only [Act.put, lq1, lq2, lq3, lq4, lq5, lq6]
              refine wpAnyH_take (i := 10) (v := ?_) rfl (by kernel_rfl) (by kernel_rfl) (by kernel_rfl) (fun _ _ _ h => nomatch h.1) (Or.inl ⟨by rfl, ?_⟩) (by assumption) ?_
              rotate_left
              ·intro w hSw; (try dsimp only at hSw); go_simp; try with_reducible rfl
              simp only [Act.put, lq1, lq2, lq3, lq4, lq5, lq6]
              refine wpAnyH_ready (rs := [12]) (by kernel_rfl) (by simp) (.cons rfl (fun K hK => ?_) .nil)
              obtain ⟨z0, j0⟩ := rd_at H96.out 0
              obtain ⟨z1, j1⟩ := rd_at H96.out 1
              obtain ⟨z2, j2⟩ := rd_at H96.out 2
              obtain ⟨z3, j3⟩ := rd_at H96.out 3
              obtain ⟨z4, j4⟩ := rd_at H96.out 4
              simp only [List.getElem?_toArray, List.getElem?_cons_zero, List.getElem?_cons_succ] at z0 z1 z2 z3 z4
              have h9lt : g9 < u6.heap.size := (Array.getElem?_eq_some_iff.1 H96.out).1
              go_simp
              refine hK.out _ _ (HKS.out _ (((((HB6.out.setCell (p := ⟨g9, 0, none⟩) (by omega) _).setCell (p := ⟨g9, 1, none⟩) (by omega) _).setCell (p := ⟨g9, 2, none⟩) (by omega) _).setCell (p := ⟨g9, 3, none⟩) (by omega) _).setCell (p := ⟨g9, 4, none⟩) (by omega) _)) (fun hHeld => ?_)
              clear hK K
              try simp only [Act.put, lq1, lq2, lq3, lq4, lq5, lq6]
              obtain ⟨u7, hu7⟩ : ∃ x, x = (((((u6.setCell ⟨g9, 0, none⟩ (.int .i64 0)).setCell ⟨g9, 1, none⟩ (.string ⟨#[]⟩)).setCell ⟨g9, 2, none⟩ (.int .i64 0)).setCell ⟨g9, 3, none⟩ (.int .i64 0)).setCell ⟨g9, 4, none⟩ (.slice none 0 0)) := ⟨_, rfl⟩
              have HB7 : Hid (Below w5.heap.size w5 u7) := Lib.hid (by rw [hu7]; exact (((((HB6.out.setCell (p := ⟨g9, 0, none⟩) (by omega) _).setCell (p := ⟨g9, 1, none⟩) (by omega) _).setCell (p := ⟨g9, 2, none⟩) (by omega) _).setCell (p := ⟨g9, 3, none⟩) (by omega) _).setCell (p := ⟨g9, 4, none⟩) (by omega) _))
              rw [← hu7]
              clear hu7
              refine wpAnyH_ready (rs := [13]) (by kernel_rfl) (by simp) (.cons rfl (fun K hK => ?_) .nil)
              go_simp
              refine hK.out _ _ (HKS.out _ HB7.out) (fun hHeld => ?_)
              clear hK K
              try simp only [Act.put, lq1, lq2, lq3, lq4, lq5, lq6]
              have HB8 := Lib.hid HB7.out
              refine wpAnyH_done (by kernel_rfl) ?_ _
              exact ⟨rfl, ⟨_, _, _, _, _, _, _, _, _, _, _, _, rfl⟩, HB8.out⟩
            ·go_simp
             refine hK.out _ _ (HKS.out _ (HB3.out.alloc HB3.out.size _)) (fun hHeld => ?_)
             clear hK K
             try simp only [Act.put, lq1, lq2, lq3, lq4, lq5, lq6]
             obtain ⟨u4, hu4⟩ : ∃ x, x = u3.alloc (.cells #[.int .i64 0, .string ⟨#[]⟩, .int .i64 0, .int .i64 0, .slice none 0 0] 27) := ⟨_, rfl⟩
             rw [← hu4]
             obtain ⟨g9, hg9⟩ : ∃ x, x = u3.heap.size := ⟨_, rfl⟩
             rw [← hg9]
             have hz4 : u3.heap.size < u4.heap.size := by rw [hu4]; simp
             have hgeg9 : w5.heap.size ≤ g9 := by have := HB3.out.size; omega
             have hb4 : Below u3.heap.size u3 u4 := by rw [hu4]; exact (Below.refl _ _).alloc (Nat.le_refl _) _
             have HB4 := hbt HB3 hb4
             have HC4 : Hid (u4.heap[gC]? = some (.cells #[.int .u8 0] 5 (0, 0))) := Lib.hid (by rw [hb4.block gC (by omega)]; exact HC3.out)
             have HV4 : Hid (Own u4 w5.heap.size (.slice (some ⟨gV, 0, none⟩) ne cV) le) := Lib.hid (HV3.out.below hb4)
             have H94 : Hid (u4.heap[g9]? = some (.cells #[.int .i64 0, .string ⟨#[]⟩, .int .i64 0, .int .i64 0, .slice none 0 0] 27 (0, 0))) := Lib.hid (by rw [hu4, hg9]; exact heap_alloc_new u3 _)
             have hltgCg9 : gC < g9 := by omega
             have hltgVg9 : gV < g9 := by omega
             have hltg9 : g9 < u4.heap.size := by omega
             clear hb4 hu4 hg9
             refine wpAnyH_ready (rs := [4]) (by kernel_rfl) (by simp) (.cons rfl (fun K hK => ?_) .nil)
             refine step_at (by rfl) (.tmp 106) (.tmp 107) rfl rfl HV4.out HNE.out (m := [0]) rfl rfl (Bs.of_block HC4.out rfl) (fun e => by cases e) (by have := HLN.out; simp; omega) HB4.out.size ?_
             intro vv u5 ho hg hd
             obtain ⟨mW, hmW⟩ : ∃ x, x = (le ++ [(0 : UInt8)]).length := ⟨_, rfl⟩
             obtain ⟨pW, cW, rfl, hsW⟩ := ho.sl hmW
             have hz5 : u4.heap.size ≤ u5.heap.size := hg.size
             have HB5 : Hid (Below w5.heap.size w5 u5) := Lib.hid (HB4.out.trans (HV4.out.below_at (Nat.le_refl _) HB4.out.size hg))
             have H95 : Hid (u5.heap[g9]? = some (.cells #[.int .i64 0, .string ⟨#[]⟩, .int .i64 0, .int .i64 0, .slice none 0 0] 27 (0, 0))) := Lib.hid (by rw [hg.block g9 (by omega) (fun e => by have := Option.some.inj e; omega)]; exact H94.out)
             have HW5 : Hid (Sl u5 pW mW cW (le ++ [0])) := Lib.hid hsW
             clear ho hg hd hsW hmW
             refine hK.out _ _ (HKS.out _ HB5.out) (fun hHeld => ?_)
             clear hK K
             try simp only [Act.put, lq1, lq2, lq3, lq4, lq5, lq6]
             refine wpAnyH_ready (rs := [7]) (by kernel_rfl) (by simp) (.cons rfl (fun K hK => ?_) .nil)
             go_simp
             refine (HM.out _ _ _ _ _ HW5.out).mono ?_
             rintro e u6 ⟨rfl, hb6⟩
             have hz6 : u5.heap.size ≤ u6.heap.size := hb6.size
             have HB6 := hbt HB5 hb6
             have H96 : Hid (u6.heap[g9]? = some (.cells #[.int .i64 0, .string ⟨#[]⟩, .int .i64 0, .int .i64 0, .slice none 0 0] 27 (0, 0))) := Lib.hid (by rw [hb6.block g9 (by omega)]; exact H95.out)
             dsimp only
             refine hK.out _ _ (HKS.out _ HB6.out) (fun hHeld => ?_)
             clear hK K hb6
             try simp only [Act.put, lq1, lq2, lq3, lq4, lq5, lq6]
             refine wpAnyH_take (i := 8) (v := ?_) rfl (by kernel_rfl) (by kernel_rfl) (by kernel_rfl) (fun _ _ _ h => nomatch h.1) (Or.inl ⟨by rfl, ?_⟩) (by assumption) ?_
             rotate_left
             ·intro w hSw; (try dsimp only at hSw); go_simp; try with_reducible rfl
             simp only [Act.put, lq1, lq2, lq3, lq4, lq5, lq6]
             refine wpAnyH_take (i := 9) (v := ?_) rfl (by kernel_rfl) (by kernel_rfl) (by kernel_rfl) (fun _ _ _ h => nomatch h.1) (Or.inl ⟨by rfl, ?_⟩) (by assumption) ?_
             rotate_left
             ·intro w hSw; (try dsimp only at hSw); go_simp; try with_reducible rfl
             simp only [Act.put, lq1, lq2, lq3, lq4, lq5, lq6]
             refine wpAnyH_take (i := 10) (v := ?_) rfl (by kernel_rfl) (by kernel_rfl) (by kernel_rfl) (fun _ _ _ h => nomatch h.1) (Or.inl ⟨by rfl, ?_⟩) (by assumption) ?_
             rotate_left
             ·intro w hSw; (try dsimp only at hSw); go_simp; try with_reducible rfl
             simp only [Act.put, lq1, lq2, lq3, lq4, lq5, lq6]
             refine wpAnyH_ready (rs := [12]) (by kernel_rfl) (by simp) (.cons rfl (fun K hK => ?_) .nil)
             obtain ⟨z0, j0⟩ := rd_at H96.out 0
             obtain ⟨z1, j1⟩ := rd_at H96.out 1
             obtain ⟨z2, j2⟩ := rd_at H96.out 2
             obtain ⟨z3, j3⟩ := rd_at H96.out 3
             obtain ⟨z4, j4⟩ := rd_at H96.out 4
             simp only [List.getElem?_toArray, List.getElem?_cons_zero, List.getElem?_cons_succ] at z0 z1 z2 z3 z4
             have h9lt : g9 < u6.heap.size := (Array.getElem?_eq_some_iff.1 H96.out).1
             go_simp
             refine hK.out _ _ (HKS.out _ (((((HB6.out.setCell (p := ⟨g9, 0, none⟩) (by omega) _).setCell (p := ⟨g9, 1, none⟩) (by omega) _).setCell (p := ⟨g9, 2, none⟩) (by omega) _).setCell (p := ⟨g9, 3, none⟩) (by omega) _).setCell (p := ⟨g9, 4, none⟩) (by omega) _)) (fun hHeld => ?_)
             clear hK K
             try simp only [Act.put, lq1, lq2, lq3, lq4, lq5, lq6]
             obtain ⟨u7, hu7⟩ : ∃ x, x = (((((u6.setCell ⟨g9, 0, none⟩ (.int .i64 0)).setCell ⟨g9, 1, none⟩ (.string ⟨#[]⟩)).setCell ⟨g9, 2, none⟩ (.int .i64 0)).setCell ⟨g9, 3, none⟩ (.int .i64 0)).setCell ⟨g9, 4, none⟩ (.slice none 0 0)) := ⟨_, rfl⟩
             have HB7 : Hid (Below w5.heap.size w5 u7) := Lib.hid (by rw [hu7]; exact (((((HB6.out.setCell (p := ⟨g9, 0, none⟩) (by omega) _).setCell (p := ⟨g9, 1, none⟩) (by omega) _).setCell (p := ⟨g9, 2, none⟩) (by omega) _).setCell (p := ⟨g9, 3, none⟩) (by omega) _).setCell (p := ⟨g9, 4, none⟩) (by omega) _))
             rw [← hu7]
             clear hu7
             refine wpAnyH_ready (rs := [13]) (by kernel_rfl) (by simp) (.cons rfl (fun K hK => ?_) .nil)
             go_simp
             refine hK.out _ _ (HKS.out _ HB7.out) (fun hHeld => ?_)
             clear hK K
             try simp only [Act.put, lq1, lq2, lq3, lq4, lq5, lq6]
             have HB8 := Lib.hid HB7.out
             refine wpAnyH_done (by kernel_rfl) ?_ _
             exact ⟨rfl, ⟨_, _, _, _, _, _, _, _, _, _, _, _, rfl⟩, HB8.out⟩
           ·go_simp
            refine hK.out _ _ (HKS.out _ (HB2.out.alloc HB2.out.size _)) (fun hHeld => ?_)
            clear hK K
            try simp only [Act.put, lq1, lq2, lq3, lq4, lq5, lq6]
            obtain ⟨u3, hu3⟩ : ∃ x, x = u2.alloc (.cells #[.int .i64 0, .string ⟨#[]⟩, .int .i64 0, .int .i64 0, .slice none 0 0] 27) := ⟨_, rfl⟩
            rw [← hu3]
            obtain ⟨g9, hg9⟩ : ∃ x, x = u2.heap.size := ⟨_, rfl⟩
            rw [← hg9]
            have hz3 : u2.heap.size < u3.heap.size := by rw [hu3]; simp
            have hgeg9 : w5.heap.size ≤ g9 := by have := HB2.out.size; omega
            have hb3 : Below u2.heap.size u2 u3 := by rw [hu3]; exact (Below.refl _ _).alloc (Nat.le_refl _) _
            have HB3 := hbt HB2 hb3
            have HA3 : Hid (Own u3 w5.heap.size (.slice (some ⟨gA, 0, none⟩) 0 0) []) := Lib.hid (HA2.out.below hb3)
            have HC3 : Hid (u3.heap[gC]? = some (.cells #[.int .u8 0] 5 (0, 0))) := Lib.hid (by rw [hb3.block gC (by omega)]; exact HC2.out)
            have H93 : Hid (u3.heap[g9]? = some (.cells #[.int .i64 0, .string ⟨#[]⟩, .int .i64 0, .int .i64 0, .slice none 0 0] 27 (0, 0))) := Lib.hid (by rw [hu3, hg9]; exact heap_alloc_new u2 _)
            have hltgAg9 : gA < g9 := by omega
            have hltgCg9 : gC < g9 := by omega
            have hltg9 : g9 < u3.heap.size := by omega
            clear hb3 hu3 hg9
            refine wpAnyH_ready (rs := [2]) (by kernel_rfl) (by simp) (.cons rfl (fun K hK => ?_) .nil)
            refine step_at (by rfl) (.tmp 104) (.tmp 105) rfl rfl HA3.out rfl HNE.out rfl (HS5.out.b.below HB3.out) HS5.out.h0 (by have := HLN.out; simp; omega) HB3.out.size ?_
            intro vv u4 ho hg hd
            rw [List.nil_append] at ho hd
            obtain ⟨gV, cV, rfl, _, _, _, hgV, _⟩ := ho.some HNE.out hn0
            have hdV : gV = gA ∨ u3.heap.size ≤ gV := hd.elim (fun h => .inl (Option.some.inj h)) (fun h => .inr (World.ownsRow.lt h gV rfl).1)
            have hz4 : u3.heap.size ≤ u4.heap.size := hg.size
            have HB4 : Hid (Below w5.heap.size w5 u4) := Lib.hid (HB3.out.trans (HA3.out.below_at (Nat.le_refl _) HB3.out.size hg))
            have H94 : Hid (u4.heap[g9]? = some (.cells #[.int .i64 0, .string ⟨#[]⟩, .int .i64 0, .int .i64 0, .slice none 0 0] 27 (0, 0))) := Lib.hid (by rw [hg.block g9 (by omega) (fun e => by have := Option.some.inj e; omega)]; exact H93.out)
            have HC4 : Hid (u4.heap[gC]? = some (.cells #[.int .u8 0] 5 (0, 0))) := Lib.hid (by rw [hg.block gC (by omega) (fun e => by have := Option.some.inj e; omega)]; exact HC3.out)
            have HV4 : Hid (Own u4 w5.heap.size (.slice (some ⟨gV, 0, none⟩) ne cV) le) := Lib.hid ho
            clear ho hg hd
            refine hK.out _ _ (HKS.out _ HB4.out) (fun hHeld => ?_)
            clear hK K
            try simp only [Act.put, lq1, lq2, lq3, lq4, lq5, lq6]
            refine wpAnyH_ready (rs := [4]) (by kernel_rfl) (by simp) (.cons rfl (fun K hK => ?_) .nil)
            refine step_at (by rfl) (.tmp 106) (.tmp 107) rfl rfl HV4.out HNE.out (m := [0]) rfl rfl (Bs.of_block HC4.out rfl) (fun e => by cases e) (by have := HLN.out; simp; omega) HB4.out.size ?_
            intro vv u5 ho hg hd
            obtain ⟨mW, hmW⟩ : ∃ x, x = (le ++ [(0 : UInt8)]).length := ⟨_, rfl⟩
            obtain ⟨pW, cW, rfl, hsW⟩ := ho.sl hmW
            have hz5 : u4.heap.size ≤ u5.heap.size := hg.size
            have HB5 : Hid (Below w5.heap.size w5 u5) := Lib.hid (HB4.out.trans (HV4.out.below_at (Nat.le_refl _) HB4.out.size hg))
            have H95 : Hid (u5.heap[g9]? = some (.cells #[.int .i64 0, .string ⟨#[]⟩, .int .i64 0, .int .i64 0, .slice none 0 0] 27 (0, 0))) := Lib.hid (by rw [hg.block g9 (by omega) (fun e => by have := Option.some.inj e; omega)]; exact H94.out)
            have HW5 : Hid (Sl u5 pW mW cW (le ++ [0])) := Lib.hid hsW
            clear ho hg hd hsW hmW
            refine hK.out _ _ (HKS.out _ HB5.out) (fun hHeld => ?_)
            clear hK K
            try simp only [Act.put, lq1, lq2, lq3, lq4, lq5, lq6]
            refine wpAnyH_ready (rs := [7]) (by kernel_rfl) (by simp) (.cons rfl (fun K hK => ?_) .nil)
            go_simp
            refine (HM.out _ _ _ _ _ HW5.out).mono ?_
            rintro e u6 ⟨rfl, hb6⟩
            have hz6 : u5.heap.size ≤ u6.heap.size := hb6.size
            have HB6 := hbt HB5 hb6
            have H96 : Hid (u6.heap[g9]? = some (.cells #[.int .i64 0, .string ⟨#[]⟩, .int .i64 0, .int .i64 0, .slice none 0 0] 27 (0, 0))) := Lib.hid (by rw [hb6.block g9 (by omega)]; exact H95.out)
            dsimp only
            refine hK.out _ _ (HKS.out _ HB6.out) (fun hHeld => ?_)
            clear hK K hb6
            try simp only [Act.put, lq1, lq2, lq3, lq4, lq5, lq6]
            refine wpAnyH_take (i := 8) (v := ?_) rfl (by kernel_rfl) (by kernel_rfl) (by kernel_rfl) (fun _ _ _ h => nomatch h.1) (Or.inl ⟨by rfl, ?_⟩) (by assumption) ?_
            rotate_left
            ·intro w hSw; (try dsimp only at hSw); go_simp; try with_reducible rfl
            simp only [Act.put, lq1, lq2, lq3, lq4, lq5, lq6]
            refine wpAnyH_take (i := 9) (v := ?_) rfl (by kernel_rfl) (by kernel_rfl) (by kernel_rfl) (fun _ _ _ h => nomatch h.1) (Or.inl ⟨by rfl, ?_⟩) (by assumption) ?_
            rotate_left
            ·intro w hSw; (try dsimp only at hSw); go_simp; try with_reducible rfl
            simp only [Act.put, lq1, lq2, lq3, lq4, lq5, lq6]
            refine wpAnyH_take (i := 10) (v := ?_) rfl (by kernel_rfl) (by kernel_rfl) (by kernel_rfl) (fun _ _ _ h => nomatch h.1) (Or.inl ⟨by rfl, ?_⟩) (by assumption) ?_
            rotate_left
            ·intro w hSw; (try dsimp only at hSw); go_simp; try with_reducible rfl
            simp only [Act.put, lq1, lq2, lq3, lq4, lq5, lq6]
            refine wpAnyH_ready (rs := [12]) (by kernel_rfl) (by simp) (.cons rfl (fun K hK => ?_) .nil)
            obtain ⟨z0, j0⟩ := rd_at H96.out 0
            obtain ⟨z1, j1⟩ := rd_at H96.out 1
            obtain ⟨z2, j2⟩ := rd_at H96.out 2
            obtain ⟨z3, j3⟩ := rd_at H96.out 3
            obtain ⟨z4, j4⟩ := rd_at H96.out 4
            simp only [List.getElem?_toArray, List.getElem?_cons_zero, List.getElem?_cons_succ] at z0 z1 z2 z3 z4
            have h9lt : g9 < u6.heap.size := (Array.getElem?_eq_some_iff.1 H96.out).1
            go_simp
            refine hK.out _ _ (HKS.out _ (((((HB6.out.setCell (p := ⟨g9, 0, none⟩) (by omega) _).setCell (p := ⟨g9, 1, none⟩) (by omega) _).setCell (p := ⟨g9, 2, none⟩) (by omega) _).setCell (p := ⟨g9, 3, none⟩) (by omega) _).setCell (p := ⟨g9, 4, none⟩) (by omega) _)) (fun hHeld => ?_)
            clear hK K
            try simp only [Act.put, lq1, lq2, lq3, lq4, lq5, lq6]
            obtain ⟨u7, hu7⟩ : ∃ x, x = (((((u6.setCell ⟨g9, 0, none⟩ (.int .i64 0)).setCell ⟨g9, 1, none⟩ (.string ⟨#[]⟩)).setCell ⟨g9, 2, none⟩ (.int .i64 0)).setCell ⟨g9, 3, none⟩ (.int .i64 0)).setCell ⟨g9, 4, none⟩ (.slice none 0 0)) := ⟨_, rfl⟩
            have HB7 : Hid (Below w5.heap.size w5 u7) := Lib.hid (by rw [hu7]; exact (((((HB6.out.setCell (p := ⟨g9, 0, none⟩) (by omega) _).setCell (p := ⟨g9, 1, none⟩) (by omega) _).setCell (p := ⟨g9, 2, none⟩) (by omega) _).setCell (p := ⟨g9, 3, none⟩) (by omega) _).setCell (p := ⟨g9, 4, none⟩) (by omega) _))
            rw [← hu7]
            clear hu7
            refine wpAnyH_ready (rs := [13]) (by kernel_rfl) (by simp) (.cons rfl (fun K hK => ?_) .nil)
            go_simp
            refine hK.out _ _ (HKS.out _ HB7.out) (fun hHeld => ?_)
            clear hK K
            try simp only [Act.put, lq1, lq2, lq3, lq4, lq5, lq6]
            have HB8 := Lib.hid HB7.out
            refine wpAnyH_done (by kernel_rfl) ?_ _
            exact ⟨rfl, ⟨_, _, _, _, _, _, _, _, _, _, _, _, rfl⟩, HB8.out⟩
          ·go_simp
           refine hK.out _ _ (HKS.out _ (HB1.out.alloc HB1.out.size _)) (fun hHeld => ?_)
           clear hK K
           try simp only [Act.put, lq1, lq2, lq3, lq4, lq5, lq6]
           obtain ⟨u2, hu2⟩ : ∃ x, x = u1.alloc (.cells #[.int .i64 0, .string ⟨#[]⟩, .int .i64 0, .int .i64 0, .slice none 0 0] 27) := ⟨_, rfl⟩
           rw [← hu2]
           obtain ⟨g9, hg9⟩ : ∃ x, x = u1.heap.size := ⟨_, rfl⟩
           rw [← hg9]
           have hz2 : u1.heap.size < u2.heap.size := by rw [hu2]; simp
           have hgeg9 : w5.heap.size ≤ g9 := by have := HB1.out.size; omega
           have hb2 : Below u1.heap.size u1 u2 := by rw [hu2]; exact (Below.refl _ _).alloc (Nat.le_refl _) _
           have HB2 := hbt HB1 hb2
           have HC2 : Hid (u2.heap[gC]? = some (.cells #[.int .u8 0] 5 (0, 0))) := Lib.hid (by rw [hb2.block gC (by omega)]; exact HC1.out)
           have H92 : Hid (u2.heap[g9]? = some (.cells #[.int .i64 0, .string ⟨#[]⟩, .int .i64 0, .int .i64 0, .slice none 0 0] 27 (0, 0))) := Lib.hid (by rw [hu2, hg9]; exact heap_alloc_new u1 _)
           have hltgCg9 : gC < g9 := by omega
           have hltg9 : g9 < u2.heap.size := by omega
           clear hb2 hu2 hg9
           refine wpAnyH_ready (rs := [0]) (by kernel_rfl) (by simp) (.cons rfl (fun K hK => ?_) .nil)
           go_simp
           refine hK.out _ _ (HKS.out _ (HB2.out.alloc HB2.out.size _)) (fun hHeld => ?_)
           clear hK K
           try simp only [Act.put, lq1, lq2, lq3, lq4, lq5, lq6]
           obtain ⟨u3, hu3⟩ : ∃ x, x = u2.alloc (.cells #[] 5) := ⟨_, rfl⟩
           rw [← hu3]
           obtain ⟨gA, hgA⟩ : ∃ x, x = u2.heap.size := ⟨_, rfl⟩
           rw [← hgA]
           have hz3 : u2.heap.size < u3.heap.size := by rw [hu3]; simp
           have hgegA : w5.heap.size ≤ gA := by have := HB2.out.size; omega
           have hb3 : Below u2.heap.size u2 u3 := by rw [hu3]; exact (Below.refl _ _).alloc (Nat.le_refl _) _
           have HB3 := hbt HB2 hb3
           have H93 : Hid (u3.heap[g9]? = some (.cells #[.int .i64 0, .string ⟨#[]⟩, .int .i64 0, .int .i64 0, .slice none 0 0] 27 (0, 0))) := Lib.hid (by rw [hb3.block g9 (by omega)]; exact H92.out)
           have HC3 : Hid (u3.heap[gC]? = some (.cells #[.int .u8 0] 5 (0, 0))) := Lib.hid (by rw [hb3.block gC (by omega)]; exact HC2.out)
           have HA3 : Hid (Own u3 w5.heap.size (.slice (some ⟨gA, 0, none⟩) 0 0) []) := Lib.hid (by rw [hu3]; exact Own.fresh hgA (by have := HB2.out.size; omega))
           have hltg9gA : g9 < gA := by omega
           have hltgCgA : gC < gA := by omega
           have hltgA : gA < u3.heap.size := by omega
           clear hb3 hu3 hgA
           refine wpAnyH_ready (rs := [2]) (by kernel_rfl) (by simp) (.cons rfl (fun K hK => ?_) .nil)
           refine step_at (by rfl) (.tmp 104) (.tmp 105) rfl rfl HA3.out rfl HNE.out rfl (HS5.out.b.below HB3.out) HS5.out.h0 (by have := HLN.out; simp; omega) HB3.out.size ?_
           intro vv u4 ho hg hd
           rw [List.nil_append] at ho hd
           obtain ⟨gV, cV, rfl, _, _, _, hgV, _⟩ := ho.some HNE.out hn0
           have hdV : gV = gA ∨ u3.heap.size ≤ gV := hd.elim (fun h => .inl (Option.some.inj h)) (fun h => .inr (World.ownsRow.lt h gV rfl).1)
           have hz4 : u3.heap.size ≤ u4.heap.size := hg.size
           have HB4 : Hid (Below w5.heap.size w5 u4) := Lib.hid (HB3.out.trans (HA3.out.below_at (Nat.le_refl _) HB3.out.size hg))
           have H94 : Hid (u4.heap[g9]? = some (.cells #[.int .i64 0, .string ⟨#[]⟩, .int .i64 0, .int .i64 0, .slice none 0 0] 27 (0, 0))) := Lib.hid (by rw [hg.block g9 (by omega) (fun e => by have := Option.some.inj e; omega)]; exact H93.out)
           have HC4 : Hid (u4.heap[gC]? = some (.cells #[.int .u8 0] 5 (0, 0))) := Lib.hid (by rw [hg.block gC (by omega) (fun e => by have := Option.some.inj e; omega)]; exact HC3.out)
           have HV4 : Hid (Own u4 w5.heap.size (.slice (some ⟨gV, 0, none⟩) ne cV) le) := Lib.hid ho
           clear ho hg hd
           refine hK.out _ _ (HKS.out _ HB4.out) (fun hHeld => ?_)
           clear hK K
           try simp only [Act.put, lq1, lq2, lq3, lq4, lq5, lq6]
           refine wpAnyH_ready (rs := [4]) (by kernel_rfl) (by simp) (.cons rfl (fun K hK => ?_) .nil)
           refine step_at (by rfl) (.tmp 106) (.tmp 107) rfl rfl HV4.out HNE.out (m := [0]) rfl rfl (Bs.of_block HC4.out rfl) (fun e => by cases e) (by have := HLN.out; simp; omega) HB4.out.size ?_
           intro vv u5 ho hg hd
           obtain ⟨mW, hmW⟩ : ∃ x, x = (le ++ [(0 : UInt8)]).length := ⟨_, rfl⟩
           obtain ⟨pW, cW, rfl, hsW⟩ := ho.sl hmW
           have hz5 : u4.heap.size ≤ u5.heap.size := hg.size
           have HB5 : Hid (Below w5.heap.size w5 u5) := Lib.hid (HB4.out.trans (HV4.out.below_at (Nat.le_refl _) HB4.out.size hg))
           have H95 : Hid (u5.heap[g9]? = some (.cells #[.int .i64 0, .string ⟨#[]⟩, .int .i64 0, .int .i64 0, .slice none 0 0] 27 (0, 0))) := Lib.hid (by rw [hg.block g9 (by omega) (fun e => by have := Option.some.inj e; omega)]; exact H94.out)
           have HW5 : Hid (Sl u5 pW mW cW (le ++ [0])) := Lib.hid hsW
           clear ho hg hd hsW hmW
           refine hK.out _ _ (HKS.out _ HB5.out) (fun hHeld => ?_)
           clear hK K
           try simp only [Act.put, lq1, lq2, lq3, lq4, lq5, lq6]
           refine wpAnyH_ready (rs := [7]) (by kernel_rfl) (by simp) (.cons rfl (fun K hK => ?_) .nil)
           go_simp
           refine (HM.out _ _ _ _ _ HW5.out).mono ?_
           rintro e u6 ⟨rfl, hb6⟩
           have hz6 : u5.heap.size ≤ u6.heap.size := hb6.size
           have HB6 := hbt HB5 hb6
           have H96 : Hid (u6.heap[g9]? = some (.cells #[.int .i64 0, .string ⟨#[]⟩, .int .i64 0, .int .i64 0, .slice none 0 0] 27 (0, 0))) := Lib.hid (by rw [hb6.block g9 (by omega)]; exact H95.out)
           dsimp only
           refine hK.out _ _ (HKS.out _ HB6.out) (fun hHeld => ?_)
           clear hK K hb6
           try simp only [Act.put, lq1, lq2, lq3, lq4, lq5, lq6]
           refine wpAnyH_take (i := 8) (v := ?_) rfl (by kernel_rfl) (by kernel_rfl) (by kernel_rfl) (fun _ _ _ h => nomatch h.1) (Or.inl ⟨by rfl, ?_⟩) (by assumption) ?_
           rotate_left
           ·intro w hSw; (try dsimp only at hSw); go_simp; try with_reducible rfl
           simp only [Act.put, lq1, lq2, lq3, lq4, lq5, lq6]
           refine wpAnyH_take (i := 9) (v := ?_) rfl (by kernel_rfl) (by kernel_rfl) (by kernel_rfl) (fun _ _ _ h => nomatch h.1) (Or.inl ⟨by rfl, ?_⟩) (by assumption) ?_
           rotate_left
           ·intro w hSw; (try dsimp only at hSw); go_simp; try with_reducible rfl
           simp only [Act.put, lq1, lq2, lq3, lq4, lq5, lq6]
           refine wpAnyH_take (i := 10) (v := ?_) rfl (by kernel_rfl) (by kernel_rfl) (by kernel_rfl) (fun _ _ _ h => nomatch h.1) (Or.inl ⟨by rfl, ?_⟩) (by assumption) ?_
           rotate_left
           ·intro w hSw; (try dsimp only at hSw); go_simp; try with_reducible rfl
           simp only [Act.put, lq1, lq2, lq3, lq4, lq5, lq6]
           refine wpAnyH_ready (rs := [12]) (by kernel_rfl) (by simp) (.cons rfl (fun K hK => ?_) .nil)
           obtain ⟨z0, j0⟩ := rd_at H96.out 0
           obtain ⟨z1, j1⟩ := rd_at H96.out 1
           obtain ⟨z2, j2⟩ := rd_at H96.out 2
           obtain ⟨z3, j3⟩ := rd_at H96.out 3
           obtain ⟨z4, j4⟩ := rd_at H96.out 4
           simp only [List.getElem?_toArray, List.getElem?_cons_zero, List.getElem?_cons_succ] at z0 z1 z2 z3 z4
           have h9lt : g9 < u6.heap.size := (Array.getElem?_eq_some_iff.1 H96.out).1
           go_simp
           refine hK.out _ _ (HKS.out _ (((((HB6.out.setCell (p := ⟨g9, 0, none⟩) (by omega) _).setCell (p := ⟨g9, 1, none⟩) (by omega) _).setCell (p := ⟨g9, 2, none⟩) (by omega) _).setCell (p := ⟨g9, 3, none⟩) (by omega) _).setCell (p := ⟨g9, 4, none⟩) (by omega) _)) (fun hHeld => ?_)
           clear hK K
           try simp only [Act.put, lq1, lq2, lq3, lq4, lq5, lq6]
           obtain ⟨u7, hu7⟩ : ∃ x, x = (((((u6.setCell ⟨g9, 0, none⟩ (.int .i64 0)).setCell ⟨g9, 1, none⟩ (.string ⟨#[]⟩)).setCell ⟨g9, 2, none⟩ (.int .i64 0)).setCell ⟨g9, 3, none⟩ (.int .i64 0)).setCell ⟨g9, 4, none⟩ (.slice none 0 0)) := ⟨_, rfl⟩
           have HB7 : Hid (Below w5.heap.size w5 u7) := Lib.hid (by rw [hu7]; exact (((((HB6.out.setCell (p := ⟨g9, 0, none⟩) (by omega) _).setCell (p := ⟨g9, 1, none⟩) (by omega) _).setCell (p := ⟨g9, 2, none⟩) (by omega) _).setCell (p := ⟨g9, 3, none⟩) (by omega) _).setCell (p := ⟨g9, 4, none⟩) (by omega) _))
           rw [← hu7]
           clear hu7
           refine wpAnyH_ready (rs := [13]) (by kernel_rfl) (by simp) (.cons rfl (fun K hK => ?_) .nil)
           go_simp
           refine hK.out _ _ (HKS.out _ HB7.out) (fun hHeld => ?_)
           clear hK K
           try simp only [Act.put, lq1, lq2, lq3, lq4, lq5, lq6]
           have HB8 := Lib.hid HB7.out
           refine wpAnyH_done (by kernel_rfl) ?_ _
           exact ⟨rfl, ⟨_, _, _, _, _, _, _, _, _, _, _, _, rfl⟩, HB8.out⟩
         ·go_simp
          refine hK.out _ _ (HKS.out _ (HB0.out.alloc HB0.out.size _)) (fun hHeld => ?_)
          clear hK K
          try simp only [Act.put, lq1, lq2, lq3, lq4, lq5, lq6]
          obtain ⟨u1, hu1⟩ : ∃ x, x = u0.alloc (.cells #[.int .i64 0, .string ⟨#[]⟩, .int .i64 0, .int .i64 0, .slice none 0 0] 27) := ⟨_, rfl⟩
          rw [← hu1]
          obtain ⟨g9, hg9⟩ : ∃ x, x = u0.heap.size := ⟨_, rfl⟩
          rw [← hg9]
          have hz1 : u0.heap.size < u1.heap.size := by rw [hu1]; simp
          have hgeg9 : w5.heap.size ≤ g9 := by have := HB0.out.size; omega
          have hb1 : Below u0.heap.size u0 u1 := by rw [hu1]; exact (Below.refl _ _).alloc (Nat.le_refl _) _
          have HB1 := hbt HB0 hb1
          have H91 : Hid (u1.heap[g9]? = some (.cells #[.int .i64 0, .string ⟨#[]⟩, .int .i64 0, .int .i64 0, .slice none 0 0] 27 (0, 0))) := Lib.hid (by rw [hu1, hg9]; exact heap_alloc_new u0 _)
          have hltg9 : g9 < u1.heap.size := by omega
          clear hb1 hu1 hg9
          refine wpAnyH_ready (rs := [0, 3]) (by kernel_rfl) (by simp) (.cons rfl (fun K hK => ?_) (.cons rfl (fun K hK => ?_) .nil))
          ·go_simp
           refine hK.out _ _ (HKS.out _ (HB1.out.alloc HB1.out.size _)) (fun hHeld => ?_)
           clear hK K
           try simp only [Act.put, lq1, lq2, lq3, lq4, lq5, lq6]
           obtain ⟨u2, hu2⟩ : ∃ x, x = u1.alloc (.cells #[] 5) := ⟨_, rfl⟩
           rw [← hu2]
           obtain ⟨gA, hgA⟩ : ∃ x, x = u1.heap.size := ⟨_, rfl⟩
           rw [← hgA]
           have hz2 : u1.heap.size < u2.heap.size := by rw [hu2]; simp
           have hgegA : w5.heap.size ≤ gA := by have := HB1.out.size; omega
           have hb2 : Below u1.heap.size u1 u2 := by rw [hu2]; exact (Below.refl _ _).alloc (Nat.le_refl _) _
           have HB2 := hbt HB1 hb2
           have H92 : Hid (u2.heap[g9]? = some (.cells #[.int .i64 0, .string ⟨#[]⟩, .int .i64 0, .int .i64 0, .slice none 0 0] 27 (0, 0))) := Lib.hid (by rw [hb2.block g9 (by omega)]; exact H91.out)
           have HA2 : Hid (Own u2 w5.heap.size (.slice (some ⟨gA, 0, none⟩) 0 0) []) := Lib.hid (by rw [hu2]; exact Own.fresh hgA (by have := HB1.out.size; omega))
           have hltg9gA : g9 < gA := by omega
           have hltgA : gA < u2.heap.size := by omega
           clear hb2 hu2 hgA
           refine wpAnyH_ready (rs := [2, 3]) (by kernel_rfl) (by simp) (.cons rfl (fun K hK => ?_) (.cons rfl (fun K hK => ?_) .nil))
           ·refine step_at (by rfl) (.tmp 104) (.tmp 105) rfl rfl HA2.out rfl HNE.out rfl (HS5.out.b.below HB2.out) HS5.out.h0 (by have := HLN.out; simp; omega) HB2.out.size ?_
            intro vv u3 ho hg hd
            rw [List.nil_append] at ho hd
            obtain ⟨gV, cV, rfl, _, _, _, hgV, _⟩ := ho.some HNE.out hn0
            have hdV : gV = gA ∨ u2.heap.size ≤ gV := hd.elim (fun h => .inl (Option.some.inj h)) (fun h => .inr (World.ownsRow.lt h gV rfl).1)
            have hz3 : u2.heap.size ≤ u3.heap.size := hg.size
            have HB3 : Hid (Below w5.heap.size w5 u3) := Lib.hid (HB2.out.trans (HA2.out.below_at (Nat.le_refl _) HB2.out.size hg))
            have H93 : Hid (u3.heap[g9]? = some (.cells #[.int .i64 0, .string ⟨#[]⟩, .int .i64 0, .int .i64 0, .slice none 0 0] 27 (0, 0))) := Lib.hid (by rw [hg.block g9 (by omega) (fun e => by have := Option.some.inj e; omega)]; exact H92.out)
            have HV3 : Hid (Own u3 w5.heap.size (.slice (some ⟨gV, 0, none⟩) ne cV) le) := Lib.hid ho
            clear ho hg hd
            refine hK.out _ _ (HKS.out _ HB3.out) (fun hHeld => ?_)
            clear hK K
            try simp only [Act.put, lq1, lq2, lq3, lq4, lq5, lq6]
            refine wpAnyH_ready (rs := [3]) (by kernel_rfl) (by simp) (.cons rfl (fun K hK => ?_) .nil)
            go_simp
            refine hK.out _ _ (HKS.out _ (HB3.out.alloc HB3.out.size _)) (fun hHeld => ?_)
            clear hK K
            try simp only [Act.put, lq1, lq2, lq3, lq4, lq5, lq6]
            obtain ⟨u4, hu4⟩ : ∃ x, x = u3.alloc (.cells #[.int .u8 0] 5) := ⟨_, rfl⟩
            rw [← hu4]
            obtain ⟨gC, hgC⟩ : ∃ x, x = u3.heap.size := ⟨_, rfl⟩
            rw [← hgC]
            have hz4 : u3.heap.size < u4.heap.size := by rw [hu4]; simp
            have hgegC : w5.heap.size ≤ gC := by have := HB3.out.size; omega
            have hb4 : Below u3.heap.size u3 u4 := by rw [hu4]; exact (Below.refl _ _).alloc (Nat.le_refl _) _
            have HB4 := hbt HB3 hb4
            have H94 : Hid (u4.heap[g9]? = some (.cells #[.int .i64 0, .string ⟨#[]⟩, .int .i64 0, .int .i64 0, .slice none 0 0] 27 (0, 0))) := Lib.hid (by rw [hb4.block g9 (by omega)]; exact H93.out)
            have HV4 : Hid (Own u4 w5.heap.size (.slice (some ⟨gV, 0, none⟩) ne cV) le) := Lib.hid (HV3.out.below hb4)
            have HC4 : Hid (u4.heap[gC]? = some (.cells #[.int .u8 0] 5 (0, 0))) := Lib.hid (by rw [hu4, hgC]; exact heap_alloc_new u3 _)
            have hltg9gC : g9 < gC := by omega
            have hltgVgC : gV < gC := by omega
            have hltgC : gC < u4.heap.size := by omega
            clear hb4 hu4 hgC
            refine wpAnyH_ready (rs := [4]) (by kernel_rfl) (by simp) (.cons rfl (fun K hK => ?_) .nil)
            refine step_at (by rfl) (.tmp 106) (.tmp 107) rfl rfl HV4.out HNE.out (m := [0]) rfl rfl (Bs.of_block HC4.out rfl) (fun e => by cases e) (by have := HLN.out; simp; omega) HB4.out.size ?_
            intro vv u5 ho hg hd
            obtain ⟨mW, hmW⟩ : ∃ x, x = (le ++ [(0 : UInt8)]).length := ⟨_, rfl⟩
            obtain ⟨pW, cW, rfl, hsW⟩ := ho.sl hmW
            have hz5 : u4.heap.size ≤ u5.heap.size := hg.size
            have HB5 : Hid (Below w5.heap.size w5 u5) := Lib.hid (HB4.out.trans (HV4.out.below_at (Nat.le_refl _) HB4.out.size hg))
            have H95 : Hid (u5.heap[g9]? = some (.cells #[.int .i64 0, .string ⟨#[]⟩, .int .i64 0, .int .i64 0, .slice none 0 0] 27 (0, 0))) := Lib.hid (by rw [hg.block g9 (by omega) (fun e => by have := Option.some.inj e; omega)]; exact H94.out)
            have HW5 : Hid (Sl u5 pW mW cW (le ++ [0])) := Lib.hid hsW
            clear ho hg hd hsW hmW
            refine hK.out _ _ (HKS.out _ HB5.out) (fun hHeld => ?_)
            clear hK K
            try simp only [Act.put, lq1, lq2, lq3, lq4, lq5, lq6]
            refine wpAnyH_ready (rs := [7]) (by kernel_rfl) (by simp) (.cons rfl (fun K hK => ?_) .nil)
            go_simp
            refine (HM.out _ _ _ _ _ HW5.out).mono ?_
            rintro e u6 ⟨rfl, hb6⟩
            have hz6 : u5.heap.size ≤ u6.heap.size := hb6.size
            have HB6 := hbt HB5 hb6
            have H96 : Hid (u6.heap[g9]? = some (.cells #[.int .i64 0, .string ⟨#[]⟩, .int .i64 0, .int .i64 0, .slice none 0 0] 27 (0, 0))) := Lib.hid (by rw [hb6.block g9 (by omega)]; exact H95.out)
            dsimp only
            refine hK.out _ _ (HKS.out _ HB6.out) (fun hHeld => ?_)
            clear hK K hb6
            try simp only [Act.put, lq1, lq2, lq3, lq4, lq5, lq6]
            refine wpAnyH_take (i := 8) (v := ?_) rfl (by kernel_rfl) (by kernel_rfl) (by kernel_rfl) (fun _ _ _ h => nomatch h.1) (Or.inl ⟨by rfl, ?_⟩) (by assumption) ?_
            rotate_left
            ·intro w hSw; (try dsimp only at hSw); go_simp; try with_reducible rfl
            simp only [Act.put, lq1, lq2, lq3, lq4, lq5, lq6]
            refine wpAnyH_take (i := 9) (v := ?_) rfl (by kernel_rfl) (by kernel_rfl) (by kernel_rfl) (fun _ _ _ h => nomatch h.1) (Or.inl ⟨by rfl, ?_⟩) (by assumption) ?_
            rotate_left
            ·intro w hSw; (try dsimp only at hSw); go_simp; try with_reducible rfl
            simp only [Act.put, lq1, lq2, lq3, lq4, lq5, lq6]
            refine wpAnyH_take (i := 10) (v := ?_) rfl (by kernel_rfl) (by kernel_rfl) (by kernel_rfl) (fun _ _ _ h => nomatch h.1) (Or.inl ⟨by rfl, ?_⟩) (by assumption) ?_
            rotate_left
            ·intro w hSw; (try dsimp only at hSw); go_simp; try with_reducible rfl
            simp only [Act.put, lq1, lq2, lq3, lq4, lq5, lq6]
            refine wpAnyH_ready (rs := [12]) (by kernel_rfl) (by simp) (.cons rfl (fun K hK => ?_) .nil)
            obtain ⟨z0, j0⟩ := rd_at H96.out 0
            obtain ⟨z1, j1⟩ := rd_at H96.out 1
            obtain ⟨z2, j2⟩ := rd_at H96.out 2
            obtain ⟨z3, j3⟩ := rd_at H96.out 3
            obtain ⟨z4, j4⟩ := rd_at H96.out 4
            simp only [List.getElem?_toArray, List.getElem?_cons_zero, List.getElem?_cons_succ] at z0 z1 z2 z3 z4
            have h9lt : g9 < u6.heap.size := (Array.getElem?_eq_some_iff.1 H96.out).1
            go_simp
            refine hK.out _ _ (HKS.out _ (((((HB6.out.setCell (p := ⟨g9, 0, none⟩) (by omega) _).setCell (p := ⟨g9, 1, none⟩) (by omega) _).setCell (p := ⟨g9, 2, none⟩) (by omega) _).setCell (p := ⟨g9, 3, none⟩) (by omega) _).setCell (p := ⟨g9, 4, none⟩) (by omega) _)) (fun hHeld => ?_)
            clear hK K
            try simp only [Act.put, lq1, lq2, lq3, lq4, lq5, lq6]
            obtain ⟨u7, hu7⟩ : ∃ x, x = (((((u6.setCell ⟨g9, 0, none⟩ (.int .i64 0)).setCell ⟨g9, 1, none⟩ (.string ⟨#[]⟩)).setCell ⟨g9, 2, none⟩ (.int .i64 0)).setCell ⟨g9, 3, none⟩ (.int .i64 0)).setCell ⟨g9, 4, none⟩ (.slice none 0 0)) := ⟨_, rfl⟩
            have HB7 : Hid (Below w5.heap.size w5 u7) := Lib.hid (by rw [hu7]; exact (((((HB6.out.setCell (p := ⟨g9, 0, none⟩) (by omega) _).setCell (p := ⟨g9, 1, none⟩) (by omega) _).setCell (p := ⟨g9, 2, none⟩) (by omega) _).setCell (p := ⟨g9, 3, none⟩) (by omega) _).setCell (p := ⟨g9, 4, none⟩) (by omega) _))
            rw [← hu7]
            clear hu7
            refine wpAnyH_ready (rs := [13]) (by kernel_rfl) (by simp) (.cons rfl (fun K hK => ?_) .nil)
            go_simp
            refine hK.out _ _ (HKS.out _ HB7.out) (fun hHeld => ?_)
            clear hK K
            try simp only [Act.put, lq1, lq2, lq3, lq4, lq5, lq6]
            have HB8 := Lib.hid HB7.out
            refine wpAnyH_done (by kernel_rfl) ?_ _
            exact ⟨rfl, ⟨_, _, _, _, _, _, _, _, _, _, _, _, rfl⟩, HB8.out⟩
           ·go_simp
            refine hK.out _ _ (HKS.out _ (HB2.out.alloc HB2.out.size _)) (fun hHeld => ?_)
            clear hK K
            try simp only [Act.put, lq1, lq2, lq3, lq4, lq5, lq6]
            obtain ⟨u3, hu3⟩ : ∃ x, x = u2.alloc (.cells #[.int .u8 0] 5) := ⟨_, rfl⟩
            rw [← hu3]
            obtain ⟨gC, hgC⟩ : ∃ x, x = u2.heap.size := ⟨_, rfl⟩
            rw [← hgC]
            have hz3 : u2.heap.size < u3.heap.size := by rw [hu3]; simp
            have hgegC : w5.heap.size ≤ gC := by have := HB2.out.size; omega
            have hb3 : Below u2.heap.size u2 u3 := by rw [hu3]; exact (Below.refl _ _).alloc (Nat.le_refl _) _
            have HB3 := hbt HB2 hb3
            have H93 : Hid (u3.heap[g9]? = some (.cells #[.int .i64 0, .string ⟨#[]⟩, .int .i64 0, .int .i64 0, .slice none 0 0] 27 (0, 0))) := Lib.hid (by rw [hb3.block g9 (by omega)]; exact H92.out)
            have HA3 : Hid (Own u3 w5.heap.size (.slice (some ⟨gA, 0, none⟩) 0 0) []) := Lib.hid (HA2.out.below hb3)
            have HC3 : Hid (u3.heap[gC]? = some (.cells #[.int .u8 0] 5 (0, 0))) := Lib.hid (by rw [hu3, hgC]; exact heap_alloc_new u2 _)
            have hltg9gC : g9 < gC := by omega
            have hltgAgC : gA < gC := by omega
            have hltgC : gC < u3.heap.size := by omega
            clear hb3 hu3 hgC
            refine wpAnyH_ready (rs := [2]) (by kernel_rfl) (by simp) (.cons rfl (fun K hK => ?_) .nil)
            refine step_at (by rfl) (.tmp 104) (.tmp 105) rfl rfl HA3.out rfl HNE.out rfl (HS5.out.b.below HB3.out) HS5.out.h0 (by have := HLN.out; simp; omega) HB3.out.size ?_
            intro vv u4 ho hg hd
            rw [List.nil_append] at ho hd
            obtain ⟨gV, cV, rfl, _, _, _, hgV, _⟩ := ho.some HNE.out hn0
            have hdV : gV = gA ∨ u3.heap.size ≤ gV := hd.elim (fun h => .inl (Option.some.inj h)) (fun h => .inr (World.ownsRow.lt h gV rfl).1)
            have hz4 : u3.heap.size ≤ u4.heap.size := hg.size
            have HB4 : Hid (Below w5.heap.size w5 u4) := Lib.hid (HB3.out.trans (HA3.out.below_at (Nat.le_refl _) HB3.out.size hg))
            have H94 : Hid (u4.heap[g9]? = some (.cells #[.int .i64 0, .string ⟨#[]⟩, .int .i64 0, .int .i64 0, .slice none 0 0] 27 (0, 0))) := Lib.hid (by rw [hg.block g9 (by omega) (fun e => by have := Option.some.inj e; omega)]; exact H93.out)
            have HC4 : Hid (u4.heap[gC]? = some (.cells #[.int .u8 0] 5 (0, 0))) := Lib.hid (by rw [hg.block gC (by omega) (fun e => by have := Option.some.inj e; omega)]; exact HC3.out)
            have HV4 : Hid (Own u4 w5.heap.size (.slice (some ⟨gV, 0, none⟩) ne cV) le) := Lib.hid ho
            clear ho hg hd
            refine hK.out _ _ (HKS.out _ HB4.out) (fun hHeld => ?_)
            clear hK K
            try simp only [Act.put, lq1, lq2, lq3, lq4, lq5, lq6]
            refine wpAnyH_ready (rs := [4]) (by kernel_rfl) (by simp) (.cons rfl (fun K hK => ?_) .nil)
            refine step_at (by rfl) (.tmp 106) (.tmp 107) rfl rfl HV4.out HNE.out (m := [0]) rfl rfl (Bs.of_block HC4.out rfl) (fun e => by cases e) (by have := HLN.out; simp; omega) HB4.out.size ?_
            intro vv u5 ho hg hd
            obtain ⟨mW, hmW⟩ : ∃ x, x = (le ++ [(0 : UInt8)]).length := ⟨_, rfl⟩
            obtain ⟨pW, cW, rfl, hsW⟩ := ho.sl hmW
            have hz5 : u4.heap.size ≤ u5.heap.size := hg.size
            have HB5 : Hid (Below w5.heap.size w5 u5) := Lib.hid (HB4.out.trans (HV4.out.below_at (Nat.le_refl _) HB4.out.size hg))
            have H95 : Hid (u5.heap[g9]? = some (.cells #[.int .i64 0, .string ⟨#[]⟩, .int .i64 0, .int .i64 0, .slice none 0 0] 27 (0, 0))) := Lib.hid (by rw [hg.block g9 (by omega) (fun e => by have := Option.some.inj e; omega)]; exact H94.out)
            have HW5 : Hid (Sl u5 pW mW cW (le ++ [0])) := Lib.hid hsW
            clear ho hg hd hsW hmW
            refine hK.out _ _ (HKS.out _ HB5.out) (fun hHeld => ?_)
            clear hK K
            try simp only [Act.put, lq1, lq2, lq3, lq4, lq5, lq6]
            refine wpAnyH_ready (rs := [7]) (by kernel_rfl) (by simp) (.cons rfl (fun K hK => ?_) .nil)
            go_simp
            refine (HM.out _ _ _ _ _ HW5.out).mono ?_
            rintro e u6 ⟨rfl, hb6⟩
            have hz6 : u5.heap.size ≤ u6.heap.size := hb6.size
            have HB6 := hbt HB5 hb6
            have H96 : Hid (u6.heap[g9]? = some (.cells #[.int .i64 0, .string ⟨#[]⟩, .int .i64 0, .int .i64 0, .slice none 0 0] 27 (0, 0))) := Lib.hid (by rw [hb6.block g9 (by omega)]; exact H95.out)
            dsimp only
            refine hK.out _ _ (HKS.out _ HB6.out) (fun hHeld => ?_)
            clear hK K hb6
            try simp only [Act.put, lq1, lq2, lq3, lq4, lq5, lq6]
            refine wpAnyH_take (i := 8) (v := ?_) rfl (by kernel_rfl) (by kernel_rfl) (by kernel_rfl) (fun _ _ _ h => nomatch h.1) (Or.inl ⟨by rfl, ?_⟩) (by assumption) ?_
            rotate_left
            ·intro w hSw; (try dsimp only at hSw); go_simp; try with_reducible rfl
            simp only [Act.put, lq1, lq2, lq3, lq4, lq5, lq6]
            refine wpAnyH_take (i := 9) (v := ?_) rfl (by kernel_rfl) (by kernel_rfl) (by kernel_rfl) (fun _ _ _ h => nomatch h.1) (Or.inl ⟨by rfl, ?_⟩) (by assumption) ?_
            rotate_left
            ·intro w hSw; (try dsimp only at hSw); go_simp; try with_reducible rfl
            simp only [Act.put, lq1, lq2, lq3, lq4, lq5, lq6]
            refine wpAnyH_take (i := 10) (v := ?_) rfl (by kernel_rfl) (by kernel_rfl) (by kernel_rfl) (fun _ _ _ h => nomatch h.1) (Or.inl ⟨by rfl, ?_⟩) (by assumption) ?_
            rotate_left
            ·intro w hSw; (try dsimp only at hSw); go_simp; try with_reducible rfl
            simp only [Act.put, lq1, lq2, lq3, lq4, lq5, lq6]
            refine wpAnyH_ready (rs := [12]) (by kernel_rfl) (by simp) (.cons rfl (fun K hK => ?_) .nil)
            obtain ⟨z0, j0⟩ := rd_at H96.out 0
            obtain ⟨z1, j1⟩ := rd_at H96.out 1
            obtain ⟨z2, j2⟩ := rd_at H96.out 2
            obtain ⟨z3, j3⟩ := rd_at H96.out 3
            obtain ⟨z4, j4⟩ := rd_at H96.out 4
            simp only [List.getElem?_toArray, List.getElem?_cons_zero, List.getElem?_cons_succ] at z0 z1 z2 z3 z4
            have h9lt : g9 < u6.heap.size := (Array.getElem?_eq_some_iff.1 H96.out).1
            go_simp
            refine hK.out _ _ (HKS.out _ (((((HB6.out.setCell (p := ⟨g9, 0, none⟩) (by omega) _).setCell (p := ⟨g9, 1, none⟩) (by omega) _).setCell (p := ⟨g9, 2, none⟩) (by omega) _).setCell (p := ⟨g9, 3, none⟩) (by omega) _).setCell (p := ⟨g9, 4, none⟩) (by omega) _)) (fun hHeld => ?_)
            clear hK K
            try simp only [Act.put, lq1, lq2, lq3, lq4, lq5, lq6]
            obtain ⟨u7, hu7⟩ : ∃ x, x = (((((u6.setCell ⟨g9, 0, none⟩ (.int .i64 0)).setCell ⟨g9, 1, none⟩ (.string ⟨#[]⟩)).setCell ⟨g9, 2, none⟩ (.int .i64 0)).setCell ⟨g9, 3, none⟩ (.int .i64 0)).setCell ⟨g9, 4, none⟩ (.slice none 0 0)) := ⟨_, rfl⟩
            have HB7 : Hid (Below w5.heap.size w5 u7) := Lib.hid (by rw [hu7]; exact (((((HB6.out.setCell (p := ⟨g9, 0, none⟩) (by omega) _).setCell (p := ⟨g9, 1, none⟩) (by omega) _).setCell (p := ⟨g9, 2, none⟩) (by omega) _).setCell (p := ⟨g9, 3, none⟩) (by omega) _).setCell (p := ⟨g9, 4, none⟩) (by omega) _))
            rw [← hu7]
            clear hu7
            refine wpAnyH_ready (rs := [13]) (by kernel_rfl) (by simp) (.cons rfl (fun K hK => ?_) .nil)
            go_simp
            refine hK.out _ _ (HKS.out _ HB7.out) (fun hHeld => ?_)
            clear hK K
            try simp only [Act.put, lq1, lq2, lq3, lq4, lq5, lq6]
            have HB8 := Lib.hid HB7.out
            refine wpAnyH_done (by kernel_rfl) ?_ _
            exact ⟨rfl, ⟨_, _, _, _, _, _, _, _, _, _, _, _, rfl⟩, HB8.out⟩
          ·go_simp
           refine hK.out _ _ (HKS.out _ (HB1.out.alloc HB1.out.size _)) (fun hHeld => ?_)
           clear hK K
           try simp only [Act.put, lq1, lq2, lq3, lq4, lq5, lq6]
           obtain ⟨u2, hu2⟩ : ∃ x, x = u1.alloc (.cells #[.int .u8 0] 5) := ⟨_, rfl⟩
           rw [← hu2]
           obtain ⟨gC, hgC⟩ : ∃ x, x = u1.heap.size := ⟨_, rfl⟩
           rw [← hgC]
           have hz2 : u1.heap.size < u2.heap.size := by rw [hu2]; simp
           have hgegC : w5.heap.size ≤ gC := by have := HB1.out.size; omega
           have hb2 : Below u1.heap.size u1 u2 := by rw [hu2]; exact (Below.refl _ _).alloc (Nat.le_refl _) _
           have HB2 := hbt HB1 hb2
           have H92 : Hid (u2.heap[g9]? = some (.cells #[.int .i64 0, .string ⟨#[]⟩, .int .i64 0, .int .i64 0, .slice none 0 0] 27 (0, 0))) := Lib.hid (by rw [hb2.block g9 (by omega)]; exact H91.out)
           have HC2 : Hid (u2.heap[gC]? = some (.cells #[.int .u8 0] 5 (0, 0))) := Lib.hid (by rw [hu2, hgC]; exact heap_alloc_new u1 _)
           have hltg9gC : g9 < gC := by omega
           have hltgC : gC < u2.heap.size := by omega
           clear hb2 hu2 hgC
           refine wpAnyH_ready (rs := [0]) (by kernel_rfl) (by simp) (.cons rfl (fun K hK => ?_) .nil)
           go_simp
           refine hK.out _ _ (HKS.out _ (HB2.out.alloc HB2.out.size _)) (fun hHeld => ?_)
           clear hK K
           try simp only [Act.put, lq1, lq2, lq3, lq4, lq5, lq6]
           obtain ⟨u3, hu3⟩ : ∃ x, x = u2.alloc (.cells #[] 5) := ⟨_, rfl⟩
           rw [← hu3]
           obtain ⟨gA, hgA⟩ : ∃ x, x = u2.heap.size := ⟨_, rfl⟩
           rw [← hgA]
           have hz3 : u2.heap.size < u3.heap.size := by rw [hu3]; simp
           have hgegA : w5.heap.size ≤ gA := by have := HB2.out.size; omega
           have hb3 : Below u2.heap.size u2 u3 := by rw [hu3]; exact (Below.refl _ _).alloc (Nat.le_refl _) _
           have HB3 := hbt HB2 hb3
           have H93 : Hid (u3.heap[g9]? = some (.cells #[.int .i64 0, .string ⟨#[]⟩, .int .i64 0, .int .i64 0, .slice none 0 0] 27 (0, 0))) := Lib.hid (by rw [hb3.block g9 (by omega)]; exact H92.out)
           have HC3 : Hid (u3.heap[gC]? = some (.cells #[.int .u8 0] 5 (0, 0))) := Lib.hid (by rw [hb3.block gC (by omega)]; exact HC2.out)
           have HA3 : Hid (Own u3 w5.heap.size (.slice (some ⟨gA, 0, none⟩) 0 0) []) := Lib.hid (by rw [hu3]; exact Own.fresh hgA (by have := HB2.out.size; omega))
           have hltg9gA : g9 < gA := by omega
           have hltgCgA : gC < gA := by omega
           have hltgA : gA < u3.heap.size := by omega
           clear hb3 hu3 hgA
           refine wpAnyH_ready (rs := [2]) (by kernel_rfl) (by simp) (.cons rfl (fun K hK => ?_) .nil)
           refine step_at (by rfl) (.tmp 104) (.tmp 105) rfl rfl HA3.out rfl HNE.out rfl (HS5.out.b.below HB3.out) HS5.out.h0 (by have := HLN.out; simp; omega) HB3.out.size ?_
           intro vv u4 ho hg hd
           rw [List.nil_append] at ho hd
           obtain ⟨gV, cV, rfl, _, _, _, hgV, _⟩ := ho.some HNE.out hn0
           have hdV : gV = gA ∨ u3.heap.size ≤ gV := hd.elim (fun h => .inl (Option.some.inj h)) (fun h => .inr (World.ownsRow.lt h gV rfl).1)
           have hz4 : u3.heap.size ≤ u4.heap.size := hg.size
           have HB4 : Hid (Below w5.heap.size w5 u4) := Lib.hid (HB3.out.trans (HA3.out.below_at (Nat.le_refl _) HB3.out.size hg))
           have H94 : Hid (u4.heap[g9]? = some (.cells #[.int .i64 0, .string ⟨#[]⟩, .int .i64 0, .int .i64 0, .slice none 0 0] 27 (0, 0))) := Lib.hid (by rw [hg.block g9 (by omega) (fun e => by have := Option.some.inj e; omega)]; exact H93.out)
           have HC4 : Hid (u4.heap[gC]? = some (.cells #[.int .u8 0] 5 (0, 0))) := Lib.hid (by rw [hg.block gC (by omega) (fun e => by have := Option.some.inj e; omega)]; exact HC3.out)
           have HV4 : Hid (Own u4 w5.heap.size (.slice (some ⟨gV, 0, none⟩) ne cV) le) := Lib.hid ho
           clear ho hg hd
           refine hK.out _ _ (HKS.out _ HB4.out) (fun hHeld => ?_)
           clear hK K
           try simp only [Act.put, lq1, lq2, lq3, lq4, lq5, lq6]
           refine wpAnyH_ready (rs := [4]) (by kernel_rfl) (by simp) (.cons rfl (fun K hK => ?_) .nil)
           refine step_at (by rfl) (.tmp 106) (.tmp 107) rfl rfl HV4.out HNE.out (m := [0]) rfl rfl (Bs.of_block HC4.out rfl) (fun e => by cases e) (by have := HLN.out; simp; omega) HB4.out.size ?_
           intro vv u5 ho hg hd
           obtain ⟨mW, hmW⟩ : ∃ x, x = (le ++ [(0 : UInt8)]).length := ⟨_, rfl⟩
           obtain ⟨pW, cW, rfl, hsW⟩ := ho.sl hmW
           have hz5 : u4.heap.size ≤ u5.heap.size := hg.size
           have HB5 : Hid (Below w5.heap.size w5 u5) := Lib.hid (HB4.out.trans (HV4.out.below_at (Nat.le_refl _) HB4.out.size hg))
           have H95 : Hid (u5.heap[g9]? = some (.cells #[.int .i64 0, .string ⟨#[]⟩, .int .i64 0, .int .i64 0, .slice none 0 0] 27 (0, 0))) := Lib.hid (by rw [hg.block g9 (by omega) (fun e => by have := Option.some.inj e; omega)]; exact H94.out)
           have HW5 : Hid (Sl u5 pW mW cW (le ++ [0])) := Lib.hid hsW
           clear ho hg hd hsW hmW
           refine hK.out _ _ (HKS.out _ HB5.out) (fun hHeld => ?_)
           clear hK K
           try simp only [Act.put, lq1, lq2, lq3, lq4, lq5, lq6]
           refine wpAnyH_ready (rs := [7]) (by kernel_rfl) (by simp) (.cons rfl (fun K hK => ?_) .nil)
           go_simp
           refine (HM.out _ _ _ _ _ HW5.out).mono ?_
           rintro e u6 ⟨rfl, hb6⟩
           have hz6 : u5.heap.size ≤ u6.heap.size := hb6.size
           have HB6 := hbt HB5 hb6
           have H96 : Hid (u6.heap[g9]? = some (.cells #[.int .i64 0, .string ⟨#[]⟩, .int .i64 0, .int .i64 0, .slice none 0 0] 27 (0, 0))) := Lib.hid (by rw [hb6.block g9 (by omega)]; exact H95.out)
           dsimp only
           refine hK.out _ _ (HKS.out _ HB6.out) (fun hHeld => ?_)
           clear hK K hb6
           try simp only [Act.put, lq1, lq2, lq3, lq4, lq5, lq6]
           refine wpAnyH_take (i := 8) (v := ?_) rfl (by kernel_rfl) (by kernel_rfl) (by kernel_rfl) (fun _ _ _ h => nomatch h.1) (Or.inl ⟨by rfl, ?_⟩) (by assumption) ?_
           rotate_left
           ·intro w hSw; (try dsimp only at hSw); go_simp; try with_reducible rfl
           simp only [Act.put, lq1, lq2, lq3, lq4, lq5, lq6]
           refine wpAnyH_take (i := 9) (v := ?_) rfl (by kernel_rfl) (by kernel_rfl) (by kernel_rfl) (fun _ _ _ h => nomatch h.1) (Or.inl ⟨by rfl, ?_⟩) (by assumption) ?_
           rotate_left
           ·intro w hSw; (try dsimp only at hSw); go_simp; try with_reducible rfl
           simp only [Act.put, lq1, lq2, lq3, lq4, lq5, lq6]
           refine wpAnyH_take (i := 10) (v := ?_) rfl (by kernel_rfl) (by kernel_rfl) (by kernel_rfl) (fun _ _ _ h => nomatch h.1) (Or.inl ⟨by rfl, ?_⟩) (by assumption) ?_
           rotate_left
           ·intro w hSw; (try dsimp only at hSw); go_simp; try with_reducible rfl
           simp only [Act.put, lq1, lq2, lq3, lq4, lq5, lq6]
           refine wpAnyH_ready (rs := [12]) (by kernel_rfl) (by simp) (.cons rfl (fun K hK => ?_) .nil)
           obtain ⟨z0, j0⟩ := rd_at H96.out 0
           obtain ⟨z1, j1⟩ := rd_at H96.out 1
           obtain ⟨z2, j2⟩ := rd_at H96.out 2
           obtain ⟨z3, j3⟩ := rd_at H96.out 3
           obtain ⟨z4, j4⟩ := rd_at H96.out 4
           simp only [List.getElem?_toArray, List.getElem?_cons_zero, List.getElem?_cons_succ] at z0 z1 z2 z3 z4
           have h9lt : g9 < u6.heap.size := (Array.getElem?_eq_some_iff.1 H96.out).1
           go_simp
           refine hK.out _ _ (HKS.out _ (((((HB6.out.setCell (p := ⟨g9, 0, none⟩) (by omega) _).setCell (p := ⟨g9, 1, none⟩) (by omega) _).setCell (p := ⟨g9, 2, none⟩) (by omega) _).setCell (p := ⟨g9, 3, none⟩) (by omega) _).setCell (p := ⟨g9, 4, none⟩) (by omega) _)) (fun hHeld => ?_)
           clear hK K
           try simp only [Act.put, lq1, lq2, lq3, lq4, lq5, lq6]
           obtain ⟨u7, hu7⟩ : ∃ x, x = (((((u6.setCell ⟨g9, 0, none⟩ (.int .i64 0)).setCell ⟨g9, 1, none⟩ (.string ⟨#[]⟩)).setCell ⟨g9, 2, none⟩ (.int .i64 0)).setCell ⟨g9, 3, none⟩ (.int .i64 0)).setCell ⟨g9, 4, none⟩ (.slice none 0 0)) := ⟨_, rfl⟩
           have HB7 : Hid (Below w5.heap.size w5 u7) := Lib.hid (by rw [hu7]; exact (((((HB6.out.setCell (p := ⟨g9, 0, none⟩) (by omega) _).setCell (p := ⟨g9, 1, none⟩) (by omega) _).setCell (p := ⟨g9, 2, none⟩) (by omega) _).setCell (p := ⟨g9, 3, none⟩) (by omega) _).setCell (p := ⟨g9, 4, none⟩) (by omega) _))
           rw [← hu7]
           clear hu7
           refine wpAnyH_ready (rs := [13]) (by kernel_rfl) (by simp) (.cons rfl (fun K hK => ?_) .nil)
           go_simp
           refine hK.out _ _ (HKS.out _ HB7.out) (fun hHeld => ?_)
           clear hK K
           try simp only [Act.put, lq1, lq2, lq3, lq4, lq5, lq6]
           have HB8 := Lib.hid HB7.out
           refine wpAnyH_done (by kernel_rfl) ?_ _
           exact ⟨rfl, ⟨_, _, _, _, _, _, _, _, _, _, _, _, rfl⟩, HB8.out⟩
        · rintro a' w6 ⟨⟨x1, x2, x3, x4, x5, x6, x7, x8, x9, x10, x11, x12, rfl⟩, hb6⟩
          simp only [Act.put, List.setIfInBounds_toArray, List.set_cons_zero, List.set_cons_succ]
          have HB6 : Hid (Below W.heap.size W w6) := Lib.hid (HB5.out.trans (hb6.mono HB5.out.size))
          obtain ⟨⟨k0, k1, k2⟩, k3, k4, k5, k6, k7⟩ := HK.out _ HB6.out
          have HY6 : Hid (w6.heap[w4.heap.size]? = some (.cells #[.int .i64 yi, .string yt, .int .i64 yf, .int .i64 yo, .slice yq ym yc] 27 (0, 0))) := Lib.hid (by rw [hb6.block _ (Array.getElem?_eq_some_iff.1 HY5.out).1]; exact HY5.out)
          obtain ⟨⟨z0, j0⟩, ⟨z1, j1⟩, ⟨z2, j2⟩, ⟨z3, j3⟩, ⟨z4, j4⟩⟩ : _ ∧ _ ∧ _ ∧ _ ∧ _ := ⟨rd_at HY6.out 0, rd_at HY6.out 1, rd_at HY6.out 2, rd_at HY6.out 3, rd_at HY6.out 4⟩
          simp only [List.getElem?_toArray, List.getElem?_cons_zero, List.getElem?_cons_succ] at z0 z1 z2 z3 z4
          have hn1 : ((ne : Int) == 0) = false := by rw [beq_eq_false_iff_ne]; omega
          have HB46 : Hid (Below w4.heap.size w4 w6) := Lib.hid (by have h5 : Below w4.heap.size w4 w5 := by rw [hw5.out]; exact (Below.refl _ _).alloc (Nat.le_refl _) _
                                                                    exact h5.trans (hb6.mono h5.size))
          clear hb6
          go_wp2_with fail
          refine (HSM.out _ HB46.out).mono ?_
          rintro e w7 ⟨rfl, hb7⟩
          have HB7 : Hid (Below W.heap.size W w7) := Lib.hid (HB6.out.trans (hb7.mono HB6.out.size))
          clear hb7 k0 k1 k2 k3 k4 k5 k6 k7 z0 z1 z2 z3 z4 j0 j1 j2 j3 j4 hn1
          go_wp2_with fail
          go_meet
          exact HB7.out
      · have hee2 : (ee == 0) = false := by simpa using hee
        go_wp2_with fail
        go_meet
        exact HBE.out
    case rest =>
      have HBf : Hid (Below W.heap.size W wc) := Lib.hid hcut
      clear hcut HBE HSE k0 k1 k2 k3 k4 k5 k6 k7 hwE HRE HE1 HBc
      go_wp2_with fail
      refine (HONE.out _).mono ?_
      rintro e w9 ⟨v9, rfl, ho9, hb9⟩
      have HB9 : Hid (Below W.heap.size W w9) := Lib.hid (HBf.out.trans (hb9.mono HBf.out.size))
      obtain ⟨p9, c9, rfl, hs9⟩ := ho9.sl HONL.out.symm
      clear hb9 ho9 hs9
      go_wp2
      go_ret
      exact ⟨rfl, HWB.out _ HB9.out⟩

end Go.Proofs.Ytekaedafhiddeaa
