/-
  tree.cut: a node as it is, or as two.
  tree.cut: a branch as two.
-/
import Derived.Test.YtfpdcfomfikkiaaGreatDoorH26
import Derived.Test.YtfpdcfomfikkiaaGreatDoorH27
set_option linter.unusedVariables false
set_option linter.unusedSimpArgs false
set_option maxRecDepth 100000
namespace Go.Proofs.YtfpdcfomfikkiaaGreatDoor
open Go.RowKit

/-- Nodes that lie at q. -/
def Nds (w : World) (q : Option Addr) (ls : List Nd) : Prop := ls ≠ [] → ∃ b o, q = some ⟨b, o, none⟩ ∧ ∀ i n, ls[i]? = some n → w.cell? ⟨b, o + i * 4, none⟩ = some (.bool n.leaf) ∧ w.cell? ⟨b, o + i * 4 + 1, none⟩ = some (.slice n.kq n.ks.length n.kc) ∧ w.cell? ⟨b, o + i * 4 + 2, none⟩ = some (.slice n.vq n.vs.length n.vc) ∧ w.cell? ⟨b, o + i * 4 + 3, none⟩ = some (.slice n.iq n.is.length n.ic)
theorem Nds.below {w w' : World} {q : Option Addr} {l : List Nd} (h : Nds w q l) (hb : Below w.heap.size w w') : Nds w' q l := by
  intro hne
  obtain ⟨b, o, hp, hc⟩ := h hne
  refine ⟨b, o, hp, fun i u hi => ?_⟩
  obtain ⟨h0, h1, h2, h3⟩ := hc i u hi
  rw [hb.cell (World.block_lt_of_cell? _ _ h0), hb.cell (World.block_lt_of_cell? _ _ h1), hb.cell (World.block_lt_of_cell? _ _ h2), hb.cell (World.block_lt_of_cell? _ _ h3)]
  exact ⟨h0, h1, h2, h3⟩
theorem nds_one {w : World} {g : Nat} {n : Nd} {t : TypeId} {f : Nat × Nat} (h : w.heap[g]? = some (.cells n.cells t f)) : Nds w (some ⟨g, 0, none⟩) [n] := fun _ => ⟨g, 0, rfl, fun i u hi => by
  match i, hi with
  | 0, hi =>
    cases hi
    exact ⟨Joins.cell_of_block h 0, Joins.cell_of_block h 1, Joins.cell_of_block h 2, Joins.cell_of_block h 3⟩
  | i + 1, hi => simp at hi⟩
theorem nds_two {w : World} {g : Nat} {a b : Nd} {t : TypeId} {f : Nat × Nat} (h : w.heap[g]? = some (.cells #[.bool a.leaf, .slice a.kq a.ks.length a.kc, .slice a.vq a.vs.length a.vc, .slice a.iq a.is.length a.ic, .bool b.leaf, .slice b.kq b.ks.length b.kc, .slice b.vq b.vs.length b.vc, .slice b.iq b.is.length b.ic] t f)) : Nds w (some ⟨g, 0, none⟩) [a, b] := fun _ => ⟨g, 0, rfl, fun i u hi => by
  match i, hi with
  | 0, hi =>
    cases hi
    exact ⟨Joins.cell_of_block h 0, Joins.cell_of_block h 1, Joins.cell_of_block h 2, Joins.cell_of_block h 3⟩
  | 1, hi =>
    cases hi
    exact ⟨Joins.cell_of_block h 4, Joins.cell_of_block h 5, Joins.cell_of_block h 6, Joins.cell_of_block h 7⟩
  | i + 2, hi => simp at hi⟩

/-- A row: a node or two; the key between them. -/
structure Rw where
  nq : Option Addr
  nc : Nat
  ns : List Nd
  bq : Option Addr
  bc : Nat
  bs : List Kb
def Rw.cell (r : Rw) : Value := .agg #[.slice r.nq r.ns.length r.nc, .slice r.bq r.bs.length r.bc]
/-- The halves of a node. -/
def qadd (q : Option Addr) (k : Nat) : Option Addr := q.map fun a => a.add k
def Nd.lowL (n : Nd) (k : Nat) : Nd := ⟨true, n.kq, n.kc, n.ks.take k, n.vq, n.vc, n.vs.take k, none, 0, []⟩
def Nd.highL (n : Nd) (k : Nat) : Nd := ⟨true, qadd n.kq k, n.kc - k, n.ks.drop k, qadd n.vq (k * 3), n.vc - k, n.vs.drop k, none, 0, []⟩
def Nd.lowB (n : Nd) (k : Nat) : Nd := ⟨false, n.kq, n.kc, n.ks.take (k - 1), none, 0, [], n.iq, n.ic, n.is.take k⟩
def Nd.highB (n : Nd) (k : Nat) : Nd := ⟨false, qadd n.kq k, n.kc - k, n.ks.drop k, none, 0, [], qadd n.iq k, n.ic - k, n.is.drop k⟩
def rwL (n : Nd) (k g : Nat) : Rw := ⟨some ⟨g, 0, none⟩, 2, [n.lowL k, n.highL k], qadd n.kq k, n.kc - k, (n.ks.drop k).take 1⟩
def rwB (n : Nd) (k g : Nat) : Rw := ⟨some ⟨g, 0, none⟩, 2, [n.lowB k, n.highB k], qadd n.kq (k - 1), n.kc - (k - 1), (n.ks.drop (k - 1)).take 1⟩
def rw1 (n : Nd) (g : Nat) : Rw := ⟨some ⟨g, 0, none⟩, 1, [n], none, 0, []⟩
theorem cset2 {w : World} {R : Nat} {x0 x1 a0 a1 : Value} {t : TypeId} (h : w.heap[R]? = some (.cells #[x0, x1] t (0, 0))) : ((w.setCell ⟨R, 0, none⟩ a0).setCell ⟨R, 1, none⟩ a1).heap[R]? = some (.cells #[a0, a1] t (0, 0)) := by
  simp [World.setCell, Array.getElem?_modify, h]
theorem gb2 (w : World) (R : Nat) (a b : Value) : w.grownBy ((w.setCell ⟨R, 0, none⟩ a).setCell ⟨R, 1, none⟩ b) (some R) := gb_set (gb_set (gb_refl w R) 0 a) 1 b
def CutIs (n : Nd) (g : Nat) (r : Rw) : Prop := (n.s.size ≤ 493 ∧ r = rw1 n g) ∨ (493 < n.s.size ∧ ∃ k f, ShCut (szN n) 492 k f ∧ 1 ≤ k ∧ r = if n.leaf then rwL n k g else rwB n k g)
def CutPost (w : World) (n : Nd) (e : Ending) (w' : World) : Prop := ∃ g r, e = .returned r.cell ∧ CutIs n g r ∧ w.heap.size ≤ g ∧ Nds w' (some ⟨g, 0, none⟩) r.ns ∧ Below w.heap.size w w'

set_option maxHeartbeats 3200000 in
theorem cut1_any {w : World} {n : Nd} (h : n.Ok w) (hc : n.s.count ≤ 100000) (hs : n.s.size ≤ 493) :
    Calls Tryz.prog 93 #[n.cell] w (CutPost w n) := by
  obtain ⟨W, hW⟩ : ∃ W, W = (w.alloc (.cells n.cells 82)).alloc (.cells #[.slice none 0 0, .slice none 0 0] 168) := ⟨_, rfl⟩
  obtain ⟨hb0, hb1, hbw, hws⟩ := boxes w n.cells #[.slice none 0 0, .slice none 0 0] 82 168
  rw [← hW] at hb0 hb1 hbw hws
  have HCS := Lib.hid (size_any (h.below hbw) hc)
  have HB := Lib.hid hbw
  have HWS := Lib.hid hws
  have HB1 := Lib.hid hb1
  have HX : Hid (∀ w', Below W.heap.size W w' → w'.cell? ⟨w.heap.size, 0, none⟩ = some (.bool n.leaf) ∧ w'.cell? ⟨w.heap.size, 1, none⟩ = some (.slice n.kq n.ks.length n.kc) ∧ w'.cell? ⟨w.heap.size, 2, none⟩ = some (.slice n.vq n.vs.length n.vc) ∧ w'.cell? ⟨w.heap.size, 3, none⟩ = some (.slice n.iq n.is.length n.ic) ∧ w'.cell? ⟨w.heap.size + 1, 0, none⟩ = some (.slice none 0 0) ∧ w'.cell? ⟨w.heap.size + 1, 1, none⟩ = some (.slice none 0 0)) := Lib.hid fun w' hb => by
    have h0 := (hb.block w.heap.size (by omega)).trans hb0
    have h1 := (hb.block (w.heap.size + 1) (by omega)).trans hb1
    exact ⟨Joins.cell_of_block h0 0, Joins.cell_of_block h0 1, Joins.cell_of_block h0 2, Joins.cell_of_block h0 3, Joins.cell_of_block h1 0, Joins.cell_of_block h1 1⟩
  obtain ⟨c0, c1, c2, c3, c4, c5⟩ := HX.out W (Below.refl _ _)
  have HS := Lib.hid hs
  unfold Nd.cell at HCS ⊢
  unfold Nd.cells at hW
  obtain ⟨m1, hm1⟩ : ∃ m, m = n.ks.length := ⟨_, rfl⟩
  obtain ⟨m2, hm2⟩ : ∃ m, m = n.vs.length := ⟨_, rfl⟩
  obtain ⟨m3, hm3⟩ : ∃ m, m = n.is.length := ⟨_, rfl⟩
  obtain ⟨sz, hsz⟩ : ∃ m, m = n.s.size := ⟨_, rfl⟩
  rw [← hm1, ← hm2, ← hm3, ← hsz] at HCS
  rw [← hm1] at c1 HX hW ⊢
  rw [← hm2] at c2 HX hW ⊢
  rw [← hm3] at c3 HX hW ⊢
  have d1 : decide ((sz : Int) ≤ 493) = true := decide_eq_true (by omega)
  have HM := Lib.hid hm1
  have HM2 := Lib.hid hm2
  have HM3 := Lib.hid hm3
  clear hm1 hm2 hm3 hsz hb0 hb1 hbw hws h hc hs
  go_enter Tryz.func93, Tryz.ntmps93
  go_wp2_with fail
  rw [← hW]
  replace hW := Lib.hid hW
  refine HCS.out.mono ?_
  rintro e w1 ⟨rfl, hb⟩
  have HB2 := Lib.hid hb
  clear c0 c1 c2 c3 c4 c5
  obtain ⟨c0, c1, c2, c3, c4, c5⟩ := HX.out w1 hb
  have hbk : (w1.alloc (.cells #[.bool n.leaf, .slice n.kq m1 n.kc, .slice n.vq m2 n.vc, .slice n.iq m3 n.ic] 82)).heap[w.heap.size + 1]? = some (.cells #[.slice none 0 0, .slice none 0 0] 168 (0, 0)) := alloc_old ((hb.block _ (by have := HWS.out; omega)).trans HB1.out) _
  have z4 := (Joins.cell_of_block hbk 0).trans rfl
  have z5 := (Joins.cell_of_block hbk 1).trans rfl
  have y4 := Joins.unfrozen_of_block hbk 0
  have y5 := Joins.unfrozen_of_block hbk 1
  have HBK := Lib.hid hbk
  clear hb hbk
  go_wp2
  refine bodyPost_ret (results_cell_row rfl _ _ (w.heap.size + 1) 168 #[.slice (some ⟨w1.heap.size, 0, none⟩) 1 1, .slice none 0 0] (0, 0) _ (by kernel_rfl) (cset2 HBK.out) Tryz.underlying168 rfl (by kernel_rfl)) rfl ?_
  have h1 := HB.out.size
  have h2 := HB2.out.size
  have h3 := HWS.out
  have hg := gb2 (w1.alloc (.cells #[.bool n.leaf, .slice n.kq m1 n.kc, .slice n.vq m2 n.vc, .slice n.iq m3 n.ic] 82)) (w.heap.size + 1) (.slice (some ⟨w1.heap.size, 0, none⟩) 1 1) (.slice none 0 0)
  refine ⟨w1.heap.size, rw1 n w1.heap.size, rfl, .inl ⟨HS.out, rfl⟩, by omega, nds_one (t := 82) (f := (0, 0)) ?_, ?_⟩
  · rw [hg.block _ (by simp) (fun e => by have := Option.some.inj e; omega), heap_alloc_new]
    unfold Nd.cells
    rw [HM.out, HM2.out, HM3.out]
  · exact ((HB.out.trans (HB2.out.mono (by omega))).alloc (by omega) _).grown hg (by simp; omega) (fun k hk => by have := Option.some.inj hk; omega)

theorem iown_ok {w : World} {B : Nat} {v : Value} {l : List Int} (h : IOwn w B v l) : ∃ q c, v = .slice q l.length c ∧ KsOk w q l.length c l := by
  rcases h.2 with ⟨rfl, h0⟩ | ⟨g, cap, cur, rfl, _, hg, hnc, hcm, _, hc⟩
  · exact ⟨none, 0, by rw [h0], rfl, by omega, by omega, fun hne => absurd (List.eq_nil_of_length_eq_zero h0) hne⟩
  · refine ⟨_, cap, rfl, rfl, hnc, by unfold maxLen at hcm; omega, fun _ => ⟨g, 0, rfl, fun i x hi => ?_⟩⟩
    have := World.ownsRow.cells h (g := g) rfl i (.int .i64 x) (by simp [iCells, hi])
    simpa [Addr.add_lit] using this
set_option maxHeartbeats 3200000 in
theorem cutL_any {w : World} {n : Nd} (h : n.Ok w) (hc : n.s.count ≤ 100000) (hs : 493 < n.s.size) (hl : n.leaf = true) (hvk : n.vs.length = n.ks.length) (hk : ∀ k f, ShCut (szN n) 492 k f → 1 ≤ k ∧ k < n.ks.length) :
    Calls Tryz.prog 93 #[n.cell] w (CutPost w n) := by
  obtain ⟨W, hW⟩ : ∃ W, W = (w.alloc (.cells n.cells 82)).alloc (.cells #[.slice none 0 0, .slice none 0 0] 168) := ⟨_, rfl⟩
  obtain ⟨hb0, hb1, hbw, hws⟩ := boxes w n.cells #[.slice none 0 0, .slice none 0 0] 82 168
  rw [← hW] at hb0 hb1 hbw hws
  have HCS := Lib.hid (size_any (h.below hbw) hc)
  have HB := Lib.hid hbw
  have HWS := Lib.hid hws
  have HB1 := Lib.hid hb1
  have HX : Hid (∀ w', Below W.heap.size W w' → w'.cell? ⟨w.heap.size, 0, none⟩ = some (.bool n.leaf) ∧ w'.cell? ⟨w.heap.size, 1, none⟩ = some (.slice n.kq n.ks.length n.kc) ∧ w'.cell? ⟨w.heap.size, 2, none⟩ = some (.slice n.vq n.vs.length n.vc) ∧ w'.cell? ⟨w.heap.size, 3, none⟩ = some (.slice n.iq n.is.length n.ic) ∧ w'.cell? ⟨w.heap.size + 1, 0, none⟩ = some (.slice none 0 0) ∧ w'.cell? ⟨w.heap.size + 1, 1, none⟩ = some (.slice none 0 0)) := Lib.hid fun w' hb => by
    have h0 := (hb.block w.heap.size (by omega)).trans hb0
    have h1 := (hb.block (w.heap.size + 1) (by omega)).trans hb1
    exact ⟨Joins.cell_of_block h0 0, Joins.cell_of_block h0 1, Joins.cell_of_block h0 2, Joins.cell_of_block h0 3, Joins.cell_of_block h1 0, Joins.cell_of_block h1 1⟩
  obtain ⟨c0, c1, c2, c3, c4, c5⟩ := HX.out W (Below.refl _ _)
  unfold Nd.cell at HCS ⊢
  unfold Nd.cells at hW
  have HCE : Hid (n.cell = .agg #[.bool n.leaf, .slice n.kq n.ks.length n.kc, .slice n.vq n.vs.length n.vc, .slice n.iq n.is.length n.ic]) := Lib.hid rfl
  have HS := Lib.hid hs
  have HZ := Lib.hid (fun w' hb => sizes_any (h.below (w' := w') hb) (fun _ => hvk) hc)
  have HL := Lib.hid hl
  have h1 := h.k1
  have h2 := h.k2
  have h3 := h.v1
  have h4 := h.v2
  have hne : 0 < n.ks.length := by
    by_cases h0 : n.ks = []
    · exfalso
      unfold NdS.size Nd.s at hs
      dsimp only at hs
      rw [hl, h0] at hs
      simp [sizeL] at hs
    · exact List.length_pos_iff.2 h0
  obtain ⟨adk, hadk⟩ : ∃ a, n.kq = some a := by
    cases hq : n.kq with
    | some a => exact ⟨a, rfl⟩
    | none => have h0 := h.kz hq; omega
  obtain ⟨adv, hadv⟩ : ∃ a, n.vq = some a := by
    cases hq : n.vq with
    | some a => exact ⟨a, rfl⟩
    | none => have h0 := h.vz hq; omega
  have HQ1 := Lib.hid hadk
  have HQ2 := Lib.hid hadv
  clear hne
  rw [hl] at c0 HX hW HCS HCE ⊢
  rw [hadk] at c1 HX hW HCS HCE ⊢
  rw [hadv] at c2 HX hW HCS HCE ⊢
  obtain ⟨m1, hm1⟩ : ∃ m, m = n.ks.length := ⟨_, rfl⟩
  obtain ⟨m2, hm2⟩ : ∃ m, m = n.vs.length := ⟨_, rfl⟩
  obtain ⟨m3, hm3⟩ : ∃ m, m = n.is.length := ⟨_, rfl⟩
  obtain ⟨sz, hsz⟩ : ∃ m, m = n.s.size := ⟨_, rfl⟩
  rw [← hm1, ← hm2, ← hm3, ← hsz] at HCS
  rw [← hm1] at h1 hk hvk c1 HX hW HCE ⊢
  rw [← hm2] at hvk h3 c2 HX hW HCE ⊢
  rw [← hm3] at c3 HX hW HCE ⊢
  have d1 : decide ((sz : Int) ≤ 493) = false := decide_eq_false (by omega)
  have HM := Lib.hid hm1
  have HM2 := Lib.hid hm2
  have HM3 := Lib.hid hm3
  have HK := Lib.hid hk
  obtain rfl : m2 = m1 := hvk
  clear hm1 hm2 hm3 hsz hb0 hb1 hbw hws h hc hs hk hl hadk hadv
  go_enter Tryz.func93, Tryz.ntmps93
  go_wp2_with fail
  rw [← hW]
  replace hW := Lib.hid hW
  refine HCS.out.mono ?_
  rintro e w1 ⟨rfl, hb⟩
  have HB2 := Lib.hid hb
  clear c0 c1 c2 c3 c4 c5
  obtain ⟨c0, c1, c2, c3, c4, c5⟩ := HX.out w1 hb
  have HZ1 := Lib.hid (HZ.out w1 (HB.out.trans (hb.mono (by have := HWS.out; have := HB.out.size; omega))))
  rw [HCE.out] at HZ1
  clear hb HZ
  go_wp2_with fail
  refine HZ1.out.mono ?_
  rintro e w2 ⟨v, rfl, hv, hb⟩
  obtain ⟨qz, cz, rfl, hkz⟩ := iown_ok hv
  have HB3 : Hid (Below W.heap.size W w2) := Lib.hid (HB2.out.trans (hb.mono HB2.out.size))
  have HSC := Lib.hid (shCut_any hkz 492)
  clear HZ1 hv hb hkz
  generalize (szN n).length = ln at *
  go_wp2_with fail
  refine HSC.out.mono ?_
  rintro e w3 ⟨k, f, rfl, hsc, hb⟩
  obtain ⟨k1, k2⟩ := HK.out k f hsc
  have HB4 : Hid (Below W.heap.size W w3) := Lib.hid (HB3.out.trans (hb.mono HB3.out.size))
  have HSK := Lib.hid hsc
  clear c0 c1 c2 c3 c4 c5 hb hsc HSC
  obtain ⟨c0, c1, c2, c3, c4, c5⟩ := HX.out w3 HB4.out
  have b1 : (0 : Int) ≤ (k : Int) := by omega
  have b2 : (k : Int) ≤ (n.kc : Int) := by omega
  have b3 : (k : Int) ≤ (n.vc : Int) := by omega
  have b4 : k ≤ n.kc := by omega
  have b5 : k ≤ n.vc := by omega
  go_wp2_with fail
  have hA : Below W.heap.size W (w3.alloc (.cells #[.bool false, .slice none 0 0, .slice none 0 0, .slice none 0 0] 82)).drew := (HB4.out.alloc HB4.out.size _).drew
  obtain ⟨e0, e1, e2, e3, e4, e5⟩ := HX.out _ hA
  have hn : (w3.alloc (.cells #[.bool false, .slice none 0 0, .slice none 0 0, .slice none 0 0] 82)).drew.heap[w3.heap.size]? = some (.cells #[.bool false, .slice none 0 0, .slice none 0 0, .slice none 0 0] 82 (0, 0)) := heap_alloc_new w3 _
  have f0 := (Joins.cell_of_block hn 0).trans rfl
  have f1 := (Joins.cell_of_block hn 1).trans rfl
  have f2 := (Joins.cell_of_block hn 2).trans rfl
  have f3 := (Joins.cell_of_block hn 3).trans rfl
  have y0 := Joins.unfrozen_of_block hn 0
  have y1 := Joins.unfrozen_of_block hn 1
  have y2 := Joins.unfrozen_of_block hn 2
  have y3 := Joins.unfrozen_of_block hn 3
  have HA := Lib.hid hA
  have HN := Lib.hid hn
  clear hA hn
  go_region
  all_goals
    go_wp2_with fail
    clear e0 e1 e2 e3 e4 e5 f0 f1 f2 f3 y0 y1 y2 y3 c0 c1 c2 c3 c4 c5
    generalize hw5 : (w3.alloc (.cells #[.bool true, .slice (some adk) k n.kc, .slice (some adv) k n.vc, .slice none 0 0] 82)).drew = w5
    have hbox5 : w5.heap[w3.heap.size]? = some (.cells #[.bool true, .slice (some adk) k n.kc, .slice (some adv) k n.vc, .slice none 0 0] 82 (0, 0)) := by
      rw [← hw5]
      exact heap_alloc_new w3 _
    have HB5 : Hid (Below W.heap.size W w5) := Lib.hid (by
      rw [← hw5]
      exact (HB4.out.alloc HB4.out.size _).drew)
    have HBX5 := Lib.hid hbox5
    have HL5 : Hid (w3.heap.size < w5.heap.size) := Lib.hid (Array.getElem?_eq_some_iff.1 hbox5).1
    clear hw5 hbox5 HN HA
    have hA : Below W.heap.size W (w5.alloc (.cells #[.bool false, .slice none 0 0, .slice none 0 0, .slice none 0 0] 82)).drew := (HB5.out.alloc HB5.out.size _).drew
    obtain ⟨c0, c1, c2, c3, c4, c5⟩ := HX.out _ HB5.out
    obtain ⟨e0, e1, e2, e3, e4, e5⟩ := HX.out _ hA
    have hn : (w5.alloc (.cells #[.bool false, .slice none 0 0, .slice none 0 0, .slice none 0 0] 82)).drew.heap[w5.heap.size]? = some (.cells #[.bool false, .slice none 0 0, .slice none 0 0, .slice none 0 0] 82 (0, 0)) := heap_alloc_new w5 _
    have f0 := (Joins.cell_of_block hn 0).trans rfl
    have f1 := (Joins.cell_of_block hn 1).trans rfl
    have f2 := (Joins.cell_of_block hn 2).trans rfl
    have f3 := (Joins.cell_of_block hn 3).trans rfl
    have y0 := Joins.unfrozen_of_block hn 0
    have y1 := Joins.unfrozen_of_block hn 1
    have y2 := Joins.unfrozen_of_block hn 2
    have y3 := Joins.unfrozen_of_block hn 3
    have HA6 := Lib.hid hA
    have HN6 := Lib.hid hn
    clear hA hn
    have b6 : (k : Int) ≤ (m2 : Int) := by omega
    have b7 : ¬ n.kc = k := by omega
    have b8 : ¬ n.vc = k := by omega
    have b9 : k ≤ m2 := by omega
    go_region
    all_goals
      go_wp2_with fail
      clear e0 e1 e2 e3 e4 e5 f0 f1 f2 f3 y0 y1 y2 y3 c0 c1 c2 c3 c4 c5
      generalize hw6 : (w5.alloc (.cells #[.bool true, .slice (some (adk.add k)) (m2 - k) (n.kc - k), .slice (some (adv.add (k * 3))) (m2 - k) (n.vc - k), .slice none 0 0] 82)).drew = w6
      have hbox6 : w6.heap[w5.heap.size]? = some (.cells #[.bool true, .slice (some (adk.add k)) (m2 - k) (n.kc - k), .slice (some (adv.add (k * 3))) (m2 - k) (n.vc - k), .slice none 0 0] 82 (0, 0)) := by
        rw [← hw6]
        exact heap_alloc_new w5 _
      have hb56 : Below w5.heap.size w5 w6 := by
        rw [← hw6]
        exact ((Below.refl _ _).alloc (Nat.le_refl _) _).drew
      have hbox5 : w6.heap[w3.heap.size]? = some (.cells #[.bool true, .slice (some adk) k n.kc, .slice (some adv) k n.vc, .slice none 0 0] 82 (0, 0)) := (hb56.block _ HL5.out).trans HBX5.out
      have HB6 : Hid (Below W.heap.size W w6) := Lib.hid (HB5.out.trans (hb56.mono HB5.out.size))
      clear hw6 hb56 HN6 HA6
      have hA : Below W.heap.size W (w6.alloc (.cells #[.bool true, .slice (some adk) k n.kc, .slice (some adv) k n.vc, .slice none 0 0, .bool true, .slice (some (adk.add k)) (m2 - k) (n.kc - k), .slice (some (adv.add (k * 3))) (m2 - k) (n.vc - k), .slice none 0 0] 82)).drew := (HB6.out.alloc HB6.out.size _).drew
      obtain ⟨c0, c1, c2, c3, c4, c5⟩ := HX.out _ HB6.out
      obtain ⟨e0, e1, e2, e3, e4, e5⟩ := HX.out _ hA
      have f0 := (Joins.cell_of_block hbox5 0).trans rfl
      have f1 := (Joins.cell_of_block hbox5 1).trans rfl
      have f2 := (Joins.cell_of_block hbox5 2).trans rfl
      have f3 := (Joins.cell_of_block hbox5 3).trans rfl
      have g0 := (Joins.cell_of_block hbox6 0).trans rfl
      have g1 := (Joins.cell_of_block hbox6 1).trans rfl
      have g2 := (Joins.cell_of_block hbox6 2).trans rfl
      have g3 := (Joins.cell_of_block hbox6 3).trans rfl
      have hbk : (w6.alloc (.cells #[.bool true, .slice (some adk) k n.kc, .slice (some adv) k n.vc, .slice none 0 0, .bool true, .slice (some (adk.add k)) (m2 - k) (n.kc - k), .slice (some (adv.add (k * 3))) (m2 - k) (n.vc - k), .slice none 0 0] 82)).drew.heap[w.heap.size + 1]? = some (.cells #[.slice none 0 0, .slice none 0 0] 168 (0, 0)) := (hA.block _ (by have := HWS.out; omega)).trans HB1.out
      have hbk' : (w6.alloc (.cells #[.bool true, .slice (some adk) k n.kc, .slice (some adv) k n.vc, .slice none 0 0, .bool true, .slice (some (adk.add k)) (m2 - k) (n.kc - k), .slice (some (adv.add (k * 3))) (m2 - k) (n.vc - k), .slice none 0 0] 82)).heap[w.heap.size + 1]? = some (.cells #[.slice none 0 0, .slice none 0 0] 168 (0, 0)) := hbk
      have x4 := (Joins.cell_of_block hbk' 0).trans rfl
      have x5 := (Joins.cell_of_block hbk' 1).trans rfl
      have u4 := Joins.unfrozen_of_block hbk' 0
      have u5 := Joins.unfrozen_of_block hbk' 1
      clear hbk'
      have y4 := Joins.unfrozen_of_block hbk 0
      have y5 := Joins.unfrozen_of_block hbk 1
      have hn : (w6.alloc (.cells #[.bool true, .slice (some adk) k n.kc, .slice (some adv) k n.vc, .slice none 0 0, .bool true, .slice (some (adk.add k)) (m2 - k) (n.kc - k), .slice (some (adv.add (k * 3))) (m2 - k) (n.vc - k), .slice none 0 0] 82)).drew.heap[w6.heap.size]? = some (.cells #[.bool true, .slice (some adk) k n.kc, .slice (some adv) k n.vc, .slice none 0 0, .bool true, .slice (some (adk.add k)) (m2 - k) (n.kc - k), .slice (some (adv.add (k * 3))) (m2 - k) (n.vc - k), .slice none 0 0] 82 (0, 0)) := heap_alloc_new w6 _
      have HA6 := Lib.hid hA
      have HN6 := Lib.hid hn
      have HBK := Lib.hid hbk
      clear hA hn hbk hbox5 hbox6
      have b10 : (k : Int) ≤ (k : Int) + 1 := by omega
      have b11 : (k : Int) + 1 ≤ (n.kc : Int) := by omega
      have b12 : (0 : Int) ≤ (k : Int) + 1 := by omega
      have b13 : k + 1 ≤ n.kc := by omega
      go_region
      all_goals
        go_wp2
        refine bodyPost_ret (results_cell_row rfl _ _ (w.heap.size + 1) 168 #[.slice (some ⟨w6.heap.size, 0, none⟩) 2 2, .slice (some (adk.add k)) 1 (n.kc - k)] (0, 0) _ (by kernel_rfl) (cset2 HBK.out) Tryz.underlying168 rfl (by kernel_rfl)) rfl ?_
        have hl1 : ((n.ks.drop k).take 1).length = 1 := by rw [List.length_take, List.length_drop, ← HM.out]; omega
        have l1 : (n.ks.take k).length = k := by rw [List.length_take, ← HM.out]; omega
        have l2 : (n.vs.take k).length = k := by rw [List.length_take, ← HM2.out]; omega
        have l3 : (n.ks.drop k).length = m2 - k := by rw [List.length_drop, ← HM.out]
        have l4 : (n.vs.drop k).length = m2 - k := by rw [List.length_drop, ← HM2.out]
        have h1 := HB.out.size
        have h2 := HB6.out.size
        have h3 := HWS.out
        have hg := gb2 (w6.alloc (.cells #[.bool true, .slice (some adk) k n.kc, .slice (some adv) k n.vc, .slice none 0 0, .bool true, .slice (some (adk.add k)) (m2 - k) (n.kc - k), .slice (some (adv.add (k * 3))) (m2 - k) (n.vc - k), .slice none 0 0] 82)).drew (w.heap.size + 1) (.slice (some ⟨w6.heap.size, 0, none⟩) 2 2) (.slice (some (adk.add k)) 1 (n.kc - k))
        refine ⟨w6.heap.size, rwL n k w6.heap.size, ?_, .inr ⟨HS.out, k, f, HSK.out, k1, by rw [HL.out]; rfl⟩, by omega, nds_two (t := 82) (f := (0, 0)) ?_, ?_⟩
        · show _ = Ending.returned (.agg #[.slice (some ⟨w6.heap.size, 0, none⟩) 2 2, .slice (qadd n.kq k) ((n.ks.drop k).take 1).length (n.kc - k)])
          rw [hl1, HQ1.out]
          rfl
        · refine (hg.block _ (Array.getElem?_eq_some_iff.1 HN6.out).1 (fun e => by have := Option.some.inj e; omega)).trans (HN6.out.trans ?_)
          show _ = some (Obj.cells #[.bool true, .slice n.kq (n.ks.take k).length n.kc, .slice n.vq (n.vs.take k).length n.vc, .slice none 0 0, .bool true, .slice (qadd n.kq k) (n.ks.drop k).length (n.kc - k), .slice (qadd n.vq (k * 3)) (n.vs.drop k).length (n.vc - k), .slice none 0 0] 82 (0, 0))
          rw [l1, l2, l3, l4, HQ1.out, HQ2.out]
          rfl
        · exact (HB.out.trans (HA6.out.mono (by omega))).grown hg (by have := HA6.out.size; omega) (fun k hk => by have := Option.some.inj hk; omega)

end Go.Proofs.YtfpdcfomfikkiaaGreatDoor

set_option linter.unusedVariables false
set_option linter.unusedSimpArgs false
set_option maxRecDepth 100000
namespace Go.Proofs.YtfpdcfomfikkiaaGreatDoor
open Go.RowKit

set_option maxHeartbeats 3200000 in
theorem cutB_any {w : World} {n : Nd} (h : n.Ok w) (hc : n.s.count ≤ 100000) (hs : 493 < n.s.size) (hl : n.leaf = false) (hik : n.is.length = n.ks.length + 1) (hk : ∀ k f, ShCut (szN n) 492 k f → 1 ≤ k ∧ k < n.ks.length) :
    Calls Tryz.prog 93 #[n.cell] w (CutPost w n) := by
  obtain ⟨W, hW⟩ : ∃ W, W = (w.alloc (.cells n.cells 82)).alloc (.cells #[.slice none 0 0, .slice none 0 0] 168) := ⟨_, rfl⟩
  obtain ⟨hb0, hb1, hbw, hws⟩ := boxes w n.cells #[.slice none 0 0, .slice none 0 0] 82 168
  rw [← hW] at hb0 hb1 hbw hws
  have HCS := Lib.hid (size_any (h.below hbw) hc)
  have HB := Lib.hid hbw
  have HWS := Lib.hid hws
  have HB1 := Lib.hid hb1
  have HX : Hid (∀ w', Below W.heap.size W w' → w'.cell? ⟨w.heap.size, 0, none⟩ = some (.bool n.leaf) ∧ w'.cell? ⟨w.heap.size, 1, none⟩ = some (.slice n.kq n.ks.length n.kc) ∧ w'.cell? ⟨w.heap.size, 2, none⟩ = some (.slice n.vq n.vs.length n.vc) ∧ w'.cell? ⟨w.heap.size, 3, none⟩ = some (.slice n.iq n.is.length n.ic) ∧ w'.cell? ⟨w.heap.size + 1, 0, none⟩ = some (.slice none 0 0) ∧ w'.cell? ⟨w.heap.size + 1, 1, none⟩ = some (.slice none 0 0)) := Lib.hid fun w' hb => by
    have h0 := (hb.block w.heap.size (by omega)).trans hb0
    have h1 := (hb.block (w.heap.size + 1) (by omega)).trans hb1
    exact ⟨Joins.cell_of_block h0 0, Joins.cell_of_block h0 1, Joins.cell_of_block h0 2, Joins.cell_of_block h0 3, Joins.cell_of_block h1 0, Joins.cell_of_block h1 1⟩
  obtain ⟨c0, c1, c2, c3, c4, c5⟩ := HX.out W (Below.refl _ _)
  unfold Nd.cell at HCS ⊢
  unfold Nd.cells at hW
  have HCE : Hid (n.cell = .agg #[.bool n.leaf, .slice n.kq n.ks.length n.kc, .slice n.vq n.vs.length n.vc, .slice n.iq n.is.length n.ic]) := Lib.hid rfl
  have HS := Lib.hid hs
  have HZ := Lib.hid (fun w' hb => sizes_any (h.below (w' := w') hb) (fun h => by rw [hl] at h; cases h) hc)
  have HL := Lib.hid hl
  have h1 := h.k1
  have h2 := h.k2
  have h3 := h.i1
  have h4 := h.i2
  have hne : 0 < n.ks.length := by
    by_cases h0 : n.ks = []
    · exfalso
      unfold NdS.size Nd.s at hs
      dsimp only at hs
      rw [hl, h0] at hs
      simp [sizeB] at hs
    · exact List.length_pos_iff.2 h0
  obtain ⟨adk, hadk⟩ : ∃ a, n.kq = some a := by
    cases hq : n.kq with
    | some a => exact ⟨a, rfl⟩
    | none => have h0 := h.kz hq; omega
  obtain ⟨adv, hadv⟩ : ∃ a, n.iq = some a := by
    cases hq : n.iq with
    | some a => exact ⟨a, rfl⟩
    | none => have h0 := h.iz hq; omega
  have HQ1 := Lib.hid hadk
  have HQ2 := Lib.hid hadv
  clear hne
  rw [hl] at c0 HX hW HCS HCE ⊢
  rw [hadk] at c1 HX hW HCS HCE ⊢
  rw [hadv] at c3 HX hW HCS HCE ⊢
  obtain ⟨m1, hm1⟩ : ∃ m, m = n.ks.length := ⟨_, rfl⟩
  obtain ⟨m2, hm2⟩ : ∃ m, m = n.vs.length := ⟨_, rfl⟩
  obtain ⟨m3, hm3⟩ : ∃ m, m = n.is.length := ⟨_, rfl⟩
  obtain ⟨sz, hsz⟩ : ∃ m, m = n.s.size := ⟨_, rfl⟩
  rw [← hm1, ← hm2, ← hm3, ← hsz] at HCS
  rw [← hm1] at h1 hk hik c1 HX hW HCE ⊢
  rw [← hm2] at c2 HX hW HCE ⊢
  rw [← hm3] at hik h3 c3 HX hW HCE ⊢
  have d1 : decide ((sz : Int) ≤ 493) = false := decide_eq_false (by omega)
  have HM := Lib.hid hm1
  have HM2 := Lib.hid hm2
  have HM3 := Lib.hid hm3
  have HK := Lib.hid hk
  have HIK := Lib.hid hik
  clear hm1 hm2 hm3 hsz hb0 hb1 hbw hws h hc hs hk hl hadk hadv hik
  go_enter Tryz.func93, Tryz.ntmps93
  go_wp2_with fail
  rw [← hW]
  replace hW := Lib.hid hW
  refine HCS.out.mono ?_
  rintro e w1 ⟨rfl, hb⟩
  have HB2 := Lib.hid hb
  clear c0 c1 c2 c3 c4 c5
  obtain ⟨c0, c1, c2, c3, c4, c5⟩ := HX.out w1 hb
  have HZ1 := Lib.hid (HZ.out w1 (HB.out.trans (hb.mono (by have := HWS.out; have := HB.out.size; omega))))
  rw [HCE.out] at HZ1
  clear hb HZ
  go_wp2_with fail
  refine HZ1.out.mono ?_
  rintro e w2 ⟨v, rfl, hv, hb⟩
  obtain ⟨qz, cz, rfl, hkz⟩ := iown_ok hv
  have HB3 : Hid (Below W.heap.size W w2) := Lib.hid (HB2.out.trans (hb.mono HB2.out.size))
  have HSC := Lib.hid (shCut_any hkz 492)
  clear HZ1 hv hb hkz
  generalize (szN n).length = ln at *
  go_wp2_with fail
  refine HSC.out.mono ?_
  rintro e w3 ⟨k, f, rfl, hsc, hb⟩
  obtain ⟨k1, k2⟩ := HK.out k f hsc
  obtain ⟨kp, hkp⟩ : ∃ p, k = p + 1 := ⟨k - 1, by omega⟩
  have HKP := Lib.hid hkp
  have p0 : (k : Int) - 1 = (kp : Int) := by omega
  have p1 : (kp : Int) ≤ (k : Int) := by omega
  have p2 : (kp : Int) ≤ (n.kc : Int) := by omega
  have p3 : (0 : Int) ≤ (kp : Int) := by omega
  have p4 : kp ≤ k := by omega
  have p5 : kp ≤ n.kc := by omega
  have p6 : k - kp = 1 := by omega
  have p7 : ¬ n.kc = kp := by omega
  have q1 : k ≤ n.ic := by have := HIK.out; omega
  have q2 : k < m3 := by have := HIK.out; omega
  clear hkp
  have HB4 : Hid (Below W.heap.size W w3) := Lib.hid (HB3.out.trans (hb.mono HB3.out.size))
  have HSK := Lib.hid hsc
  clear c0 c1 c2 c3 c4 c5 hb hsc HSC
  obtain ⟨c0, c1, c2, c3, c4, c5⟩ := HX.out w3 HB4.out
  have b1 : (0 : Int) ≤ (k : Int) := by omega
  have b2 : (k : Int) ≤ (n.kc : Int) := by omega
  have b3 : (k : Int) ≤ (n.ic : Int) := by omega
  have b4 : k ≤ n.kc := by omega
  have b5 : k ≤ n.ic := by omega
  go_wp2_with fail
  have hA : Below W.heap.size W (w3.alloc (.cells #[.bool false, .slice none 0 0, .slice none 0 0, .slice none 0 0] 82)).drew := (HB4.out.alloc HB4.out.size _).drew
  obtain ⟨e0, e1, e2, e3, e4, e5⟩ := HX.out _ hA
  have hn : (w3.alloc (.cells #[.bool false, .slice none 0 0, .slice none 0 0, .slice none 0 0] 82)).drew.heap[w3.heap.size]? = some (.cells #[.bool false, .slice none 0 0, .slice none 0 0, .slice none 0 0] 82 (0, 0)) := heap_alloc_new w3 _
  have f0 := (Joins.cell_of_block hn 0).trans rfl
  have f1 := (Joins.cell_of_block hn 1).trans rfl
  have f2 := (Joins.cell_of_block hn 2).trans rfl
  have f3 := (Joins.cell_of_block hn 3).trans rfl
  have y0 := Joins.unfrozen_of_block hn 0
  have y1 := Joins.unfrozen_of_block hn 1
  have y2 := Joins.unfrozen_of_block hn 2
  have y3 := Joins.unfrozen_of_block hn 3
  have HA := Lib.hid hA
  have HN := Lib.hid hn
  clear hA hn
  go_region
  all_goals
    go_wp2_with fail
    clear e0 e1 e2 e3 e4 e5 f0 f1 f2 f3 y0 y1 y2 y3 c0 c1 c2 c3 c4 c5
    generalize hw5 : (w3.alloc (.cells #[.bool false, .slice (some adk) kp n.kc, .slice none 0 0, .slice (some adv) k n.ic] 82)).drew = w5
    have hbox5 : w5.heap[w3.heap.size]? = some (.cells #[.bool false, .slice (some adk) kp n.kc, .slice none 0 0, .slice (some adv) k n.ic] 82 (0, 0)) := by
      rw [← hw5]
      exact heap_alloc_new w3 _
    have HB5 : Hid (Below W.heap.size W w5) := Lib.hid (by
      rw [← hw5]
      exact (HB4.out.alloc HB4.out.size _).drew)
    have HBX5 := Lib.hid hbox5
    have HL5 : Hid (w3.heap.size < w5.heap.size) := Lib.hid (Array.getElem?_eq_some_iff.1 hbox5).1
    clear hw5 hbox5 HN HA
    have hA : Below W.heap.size W (w5.alloc (.cells #[.bool false, .slice none 0 0, .slice none 0 0, .slice none 0 0] 82)).drew := (HB5.out.alloc HB5.out.size _).drew
    obtain ⟨c0, c1, c2, c3, c4, c5⟩ := HX.out _ HB5.out
    obtain ⟨e0, e1, e2, e3, e4, e5⟩ := HX.out _ hA
    have hn : (w5.alloc (.cells #[.bool false, .slice none 0 0, .slice none 0 0, .slice none 0 0] 82)).drew.heap[w5.heap.size]? = some (.cells #[.bool false, .slice none 0 0, .slice none 0 0, .slice none 0 0] 82 (0, 0)) := heap_alloc_new w5 _
    have f0 := (Joins.cell_of_block hn 0).trans rfl
    have f1 := (Joins.cell_of_block hn 1).trans rfl
    have f2 := (Joins.cell_of_block hn 2).trans rfl
    have f3 := (Joins.cell_of_block hn 3).trans rfl
    have y0 := Joins.unfrozen_of_block hn 0
    have y1 := Joins.unfrozen_of_block hn 1
    have y2 := Joins.unfrozen_of_block hn 2
    have y3 := Joins.unfrozen_of_block hn 3
    have HA6 := Lib.hid hA
    have HN6 := Lib.hid hn
    clear hA hn
    have b6 : (k : Int) ≤ (m1 : Int) := by omega
    have b7 : ¬ n.kc = k := by omega
    have b8 : ¬ n.ic = k := by omega
    have b9 : k ≤ m1 := by omega
    have b19 : k ≤ m3 := by omega
    have b18 : (k : Int) ≤ (m3 : Int) := by omega
    go_region
    all_goals
      go_wp2_with fail
      clear e0 e1 e2 e3 e4 e5 f0 f1 f2 f3 y0 y1 y2 y3 c0 c1 c2 c3 c4 c5
      generalize hw6 : (w5.alloc (.cells #[.bool false, .slice (some (adk.add k)) (m1 - k) (n.kc - k), .slice none 0 0, .slice (some (adv.add k)) (m3 - k) (n.ic - k)] 82)).drew = w6
      have hbox6 : w6.heap[w5.heap.size]? = some (.cells #[.bool false, .slice (some (adk.add k)) (m1 - k) (n.kc - k), .slice none 0 0, .slice (some (adv.add k)) (m3 - k) (n.ic - k)] 82 (0, 0)) := by
        rw [← hw6]
        exact heap_alloc_new w5 _
      have hb56 : Below w5.heap.size w5 w6 := by
        rw [← hw6]
        exact ((Below.refl _ _).alloc (Nat.le_refl _) _).drew
      have hbox5 : w6.heap[w3.heap.size]? = some (.cells #[.bool false, .slice (some adk) kp n.kc, .slice none 0 0, .slice (some adv) k n.ic] 82 (0, 0)) := (hb56.block _ HL5.out).trans HBX5.out
      have HB6 : Hid (Below W.heap.size W w6) := Lib.hid (HB5.out.trans (hb56.mono HB5.out.size))
      clear hw6 hb56 HN6 HA6
      have hA : Below W.heap.size W (w6.alloc (.cells #[.bool false, .slice (some adk) kp n.kc, .slice none 0 0, .slice (some adv) k n.ic, .bool false, .slice (some (adk.add k)) (m1 - k) (n.kc - k), .slice none 0 0, .slice (some (adv.add k)) (m3 - k) (n.ic - k)] 82)).drew := (HB6.out.alloc HB6.out.size _).drew
      obtain ⟨c0, c1, c2, c3, c4, c5⟩ := HX.out _ HB6.out
      obtain ⟨e0, e1, e2, e3, e4, e5⟩ := HX.out _ hA
      have f0 := (Joins.cell_of_block hbox5 0).trans rfl
      have f1 := (Joins.cell_of_block hbox5 1).trans rfl
      have f2 := (Joins.cell_of_block hbox5 2).trans rfl
      have f3 := (Joins.cell_of_block hbox5 3).trans rfl
      have g0 := (Joins.cell_of_block hbox6 0).trans rfl
      have g1 := (Joins.cell_of_block hbox6 1).trans rfl
      have g2 := (Joins.cell_of_block hbox6 2).trans rfl
      have g3 := (Joins.cell_of_block hbox6 3).trans rfl
      have hbk : (w6.alloc (.cells #[.bool false, .slice (some adk) kp n.kc, .slice none 0 0, .slice (some adv) k n.ic, .bool false, .slice (some (adk.add k)) (m1 - k) (n.kc - k), .slice none 0 0, .slice (some (adv.add k)) (m3 - k) (n.ic - k)] 82)).drew.heap[w.heap.size + 1]? = some (.cells #[.slice none 0 0, .slice none 0 0] 168 (0, 0)) := (hA.block _ (by have := HWS.out; omega)).trans HB1.out
      have hbk' : (w6.alloc (.cells #[.bool false, .slice (some adk) kp n.kc, .slice none 0 0, .slice (some adv) k n.ic, .bool false, .slice (some (adk.add k)) (m1 - k) (n.kc - k), .slice none 0 0, .slice (some (adv.add k)) (m3 - k) (n.ic - k)] 82)).heap[w.heap.size + 1]? = some (.cells #[.slice none 0 0, .slice none 0 0] 168 (0, 0)) := hbk
      have x4 := (Joins.cell_of_block hbk' 0).trans rfl
      have x5 := (Joins.cell_of_block hbk' 1).trans rfl
      have u4 := Joins.unfrozen_of_block hbk' 0
      have u5 := Joins.unfrozen_of_block hbk' 1
      clear hbk'
      have y4 := Joins.unfrozen_of_block hbk 0
      have y5 := Joins.unfrozen_of_block hbk 1
      have hn : (w6.alloc (.cells #[.bool false, .slice (some adk) kp n.kc, .slice none 0 0, .slice (some adv) k n.ic, .bool false, .slice (some (adk.add k)) (m1 - k) (n.kc - k), .slice none 0 0, .slice (some (adv.add k)) (m3 - k) (n.ic - k)] 82)).drew.heap[w6.heap.size]? = some (.cells #[.bool false, .slice (some adk) kp n.kc, .slice none 0 0, .slice (some adv) k n.ic, .bool false, .slice (some (adk.add k)) (m1 - k) (n.kc - k), .slice none 0 0, .slice (some (adv.add k)) (m3 - k) (n.ic - k)] 82 (0, 0)) := heap_alloc_new w6 _
      have HA6 := Lib.hid hA
      have HN6 := Lib.hid hn
      have HBK := Lib.hid hbk
      clear hA hn hbk hbox5 hbox6
      have b10 : (k : Int) ≤ (k : Int) + 1 := by omega
      have b11 : (k : Int) + 1 ≤ (n.kc : Int) := by omega
      have b12 : (0 : Int) ≤ (k : Int) + 1 := by omega
      have b13 : k + 1 ≤ n.kc := by omega
      go_region
      all_goals
        go_wp2
        refine bodyPost_ret (results_cell_row rfl _ _ (w.heap.size + 1) 168 #[.slice (some ⟨w6.heap.size, 0, none⟩) 2 2, .slice (some (adk.add kp)) 1 (n.kc - kp)] (0, 0) _ (by kernel_rfl) (cset2 HBK.out) Tryz.underlying168 rfl (by kernel_rfl)) rfl ?_
        have ek : k - 1 = kp := by have := HKP.out; omega
        have hl1 : ((n.ks.drop kp).take 1).length = 1 := by rw [List.length_take, List.length_drop, ← HM.out]; omega
        have l1 : (n.ks.take kp).length = kp := by rw [List.length_take, ← HM.out]; omega
        have l2 : (n.is.take k).length = k := by rw [List.length_take, ← HM3.out]; omega
        have l3 : (n.ks.drop k).length = m1 - k := by rw [List.length_drop, ← HM.out]
        have l4 : (n.is.drop k).length = m3 - k := by rw [List.length_drop, ← HM3.out]
        have h1 := HB.out.size
        have h2 := HB6.out.size
        have h3 := HWS.out
        have hg := gb2 (w6.alloc (.cells #[.bool false, .slice (some adk) kp n.kc, .slice none 0 0, .slice (some adv) k n.ic, .bool false, .slice (some (adk.add k)) (m1 - k) (n.kc - k), .slice none 0 0, .slice (some (adv.add k)) (m3 - k) (n.ic - k)] 82)).drew (w.heap.size + 1) (.slice (some ⟨w6.heap.size, 0, none⟩) 2 2) (.slice (some (adk.add kp)) 1 (n.kc - kp))
        refine ⟨w6.heap.size, rwB n k w6.heap.size, ?_, .inr ⟨HS.out, k, f, HSK.out, k1, by rw [HL.out]; rfl⟩, by omega, nds_two (t := 82) (f := (0, 0)) ?_, ?_⟩
        · show _ = Ending.returned (.agg #[.slice (some ⟨w6.heap.size, 0, none⟩) 2 2, .slice (qadd n.kq (k - 1)) ((n.ks.drop (k - 1)).take 1).length (n.kc - (k - 1))])
          rw [ek, hl1, HQ1.out]
          rfl
        · refine (hg.block _ (Array.getElem?_eq_some_iff.1 HN6.out).1 (fun e => by have := Option.some.inj e; omega)).trans (HN6.out.trans ?_)
          show _ = some (Obj.cells #[.bool false, .slice n.kq (n.ks.take (k - 1)).length n.kc, .slice none 0 0, .slice n.iq (n.is.take k).length n.ic, .bool false, .slice (qadd n.kq k) (n.ks.drop k).length (n.kc - k), .slice none 0 0, .slice (qadd n.iq k) (n.is.drop k).length (n.ic - k)] 82 (0, 0))
          rw [ek, l1, l2, l3, l4, HQ1.out, HQ2.out]
          rfl
        · exact (HB.out.trans (HA6.out.mono (by omega))).grown hg (by have := HA6.out.size; omega) (fun k hk => by have := Option.some.inj hk; omega)

end Go.Proofs.YtfpdcfomfikkiaaGreatDoor

