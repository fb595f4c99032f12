/-
  tree: look.node.
  tree: what is called for each node, where the first one is none.
  The order of keys, plain; where a key stands among others.
  slices.BinarySearchFunc over keys; place.kid, top, way.end, step.val.
-/
import Derived.Test.YtngnmakeaniapaaGreatDoorH22
import Derived.Test.YtngnmakeaniapaaGreatDoorH27
import Derived.Test.YtngnmakeaniapaaGreatDoorH19
import Derived.Test.YtngnmakeaniapaaGreatDoorH02
import Derived.RangeFuncNested
import Derived.RangeFuncBound
import Derived.RangeFuncCalls
import Derived.RangeFuncLeaves
import Derived.Shelf.Abstract
import Derived.WalkKit
import Derived.OwnWalkIn
import Derived.TacticsInMore
import Derived.LoopNIn
import Derived.LoopIn
import Derived.Lib.Bytealg
import Derived.LoopTactic
set_option linter.unusedVariables false
set_option linter.unusedSimpArgs false
set_option maxRecDepth 100000
namespace Go.Proofs.YtngnmakeaniapaaGreatDoor
open Go.RowKit

/-- Types of boxes that no pager has. -/
def offTy (t : TypeId) : Bool := t != 56 && t != 102 && t != 5 && t != 140 && t != 183 && t != 198
def isBox (R : Nat) : Nat → Obj → Bool
  | i, .cells _ t _ => i == R && offTy t
  | _, _ => false
theorem isBox_off {R : Nat} {t : TypeId} (h : offTy t = false) (i : Nat) (c : Array Value) (f : Nat × Nat) : isBox R i (.cells c t f) = false := by simp [isBox, h]
section
variable {w w' : World} {B P pd sm : Nat} {X : PG} {seen seen' : Int → Bool}
theorem LookAt.off (h : LookAt w B P pd sm X seen) {R : Nat} {c : Array Value} {t : TypeId} {f : Nat × Nat} (hR : w.heap[R]? = some (.cells c t f)) (hg : w.grownBy w' (some R)) (hB : B ≤ R) (ht : offTy t = true) : LookAt w' B P pd sm X seen := by
  have hk : Keeps (isBox R) w w' := Keeps.grown hg fun b o hb ho => by cases hb; rw [hR] at ho; cases ho; simp [isBox, ht]
  obtain ⟨hT, ⟨lm, fm, pl, um, wm, la, v, hg1, hn⟩, hz, hm0, hb⟩ := h
  refine ⟨?_, ⟨lm, fm, pl, um, wm, la, v, ⟨hk.stay hg1.blk (isBox_off (by decide) _ _ _), hg1.disk.keeps hk (fun _ _ _ => isBox_off (by decide) _ _ _) (fun _ _ _ => isBox_off (by decide) _ _ _) (fun _ _ _ => isBox_off (by decide) _ _ _) (fun _ _ => rfl) (fun _ _ => rfl), hg1.list.keeps hk (fun _ => isBox_off (by decide) _ _ _) (fun _ _ => rfl) (fun _ _ => rfl), hg1.mla.keeps hk (fun _ _ => rfl), pins_keeps hg1.pins hk (fun _ _ _ => isBox_off (by decide) _ _ _), hg1.bP, hg1.bu, hg1.bw, hg1.ba, hg1.nlm, hg1.nfm, hg1.nla, hg1.g0, hg1.mP⟩, hn⟩, hz, ?_, hb⟩
  · obtain ⟨t', fr, hx⟩ := hT
    exact ⟨t', fr, (hg.block _ (Array.getElem?_eq_some_iff.1 hx).1 (fun e => by have := Option.some.inj e; omega)).trans hx⟩
  · obtain ⟨es, cc, hx, _⟩ := hm0.st
    exact hm0.block (hg.block _ hm0.lt (fun e => by have := Option.some.inj e; subst this; rw [hR] at hx; cases hx))

/-- What a node is, at a place. -/
def NodeIs (X : PG) (k : Int) (s : NdS) : Prop := ∃ kind l, X.page k = some (kind, l) ∧ readS kind.toNat l s
def NodeAt (X : PG) (seen : Int → Bool) (no deep : Int) (sp : SpS) (s : NdS) : Prop := seen no = false ∧ deep ≤ 16 ∧ NodeIs X no s ∧ takesS sp s = true
theorem NodeIs.one {X : PG} {k : Int} {s t : NdS} (h : NodeIs X k s) (h' : NodeIs X k t) : s = t := by
  obtain ⟨a, l, h1, h2⟩ := h
  obtain ⟨b, m, h3, h4⟩ := h'
  rw [h1] at h3
  cases h3
  exact Option.some.inj (h2.1.symm.trans h4.1)

def LNodePost (w : World) (B P pd sm : Nat) (X : PG) (seen : Int → Bool) (pc : Pc) (e : Ending) (w' : World) : Prop :=
  (∃ n : Nd, e = .returned (.tuple #[n.cell, .int .i64 0]) ∧ NodeAt X seen pc.no pc.deep pc.s.s n.s ∧ n.s.Right ∧ NOwn w' n ∧ LookAt w' B P pd sm X (add seen pc.no) ∧ LStep sm w w') ∨
  (e = .returned (.tuple #[Nd.zero.cell, .int .i64 18]) ∧ (∀ s, ¬ NodeAt X seen pc.no pc.deep pc.s.s s) ∧ (∃ seen', LookAt w' B P pd sm X seen') ∧ LStep sm w w')

theorem ndZero : Nd.zero.cell = .agg #[.bool false, .slice none 0 0, .slice none 0 0, .slice none 0 0] := rfl

set_option maxHeartbeats 3200000 in
theorem lookNode_any (h : LookAt w B P pd sm X seen) (hBw : B ≤ w.heap.size) {pc : Pc} (hp : pc.s.Ok w) :
    Calls Tryz.prog 135 #[.agg #[.pointer (some ⟨P, 0, none⟩), .map (some sm)], pc.v] w (LNodePost w B P pd sm X seen pc) := by
  obtain ⟨W, hW⟩ : ∃ W, W = ((w.alloc (.cells #[.pointer (some ⟨P, 0, none⟩), .map (some sm)] 143)).alloc (.cells pc.cells 172)).alloc (.cells #[.bool false, .slice none 0 0, .slice none 0 0, .slice none 0 0] 154) := ⟨_, rfl⟩
  have hbw : Below w.heap.size w W := by rw [hW]; exact sbox3 _ _ _ _
  obtain ⟨b0, b1, b2, hws⟩ := sbox3_heap w (.cells #[.pointer (some ⟨P, 0, none⟩), .map (some sm)] 143) (.cells pc.cells 172) (.cells #[.bool false, .slice none 0 0, .slice none 0 0, .slice none 0 0] 154)
  rw [← hW] at b0 b1 b2 hws
  have HW := Lib.hid (h.below hbw)
  have HST : Hid (LStep sm w W) := Lib.hid (h.step hbw)
  have HSZ := Lib.hid hws
  have hlt := h.lt
  have HLT := Lib.hid hlt
  have HBB : Hid (B ≤ w.heap.size) := Lib.hid hBw
  have HX : Hid (∀ w', Keeps (isMaps [sm]) W w' → PBox w' (w.heap.size + 1) pc ∧ RBox w' (w.heap.size + 1 + 1) ∧ w'.cell? ⟨w.heap.size, 0, none⟩ = some (.pointer (some ⟨P, 0, none⟩)) ∧ w'.cell? ⟨w.heap.size, 1, none⟩ = some (.map (some sm))) := Lib.hid fun w' hk =>
    ⟨PBox.of (hk.stay b1 rfl), hk.stay b2 rfl, (Joins.cell_of_block (hk.stay b0 rfl) 0).trans rfl, (Joins.cell_of_block (hk.stay b0 rfl) 1).trans rfl⟩
  have HSPO : Hid (∀ w', Keeps (isMaps [sm]) w w' → pc.s.Ok w') := Lib.hid fun w' hk => by
    have hb : ∀ {q : Option Addr} {l : List UInt8}, Bs w q l → Bs w' q l := fun hq => hk.bs hq (fun _ _ _ _ _ _ _ => rfl)
    exact ⟨⟨hb hp.f.bs, hp.f.h1, hp.f.h2, hp.f.z⟩, ⟨hb hp.t.bs, hp.t.h1, hp.t.h2, hp.t.z⟩⟩
  have HRF : Hid (∀ w1 seen', LookAt w1 B P pd sm X seen' → ∀ a b c d, RBox w1 (w.heap.size + 1 + 1) → LookAt ((((w1.setCell ⟨w.heap.size + 1 + 1, 0, none⟩ a).setCell ⟨w.heap.size + 1 + 1, 1, none⟩ b).setCell ⟨w.heap.size + 1 + 1, 2, none⟩ c).setCell ⟨w.heap.size + 1 + 1, 3, none⟩ d) B P pd sm X seen') := Lib.hid fun w1 seen' h1 a b c d hr => h1.off hr (gb4 w1 _ a b c d) (by omega) (by decide)
  have HLS : Hid (∀ w1, LStep sm w w1 → ∀ a b c d, LStep sm w ((((w1.setCell ⟨w.heap.size + 1 + 1, 0, none⟩ a).setCell ⟨w.heap.size + 1 + 1, 1, none⟩ b).setCell ⟨w.heap.size + 1 + 1, 2, none⟩ c).setCell ⟨w.heap.size + 1 + 1, 3, none⟩ d)) := Lib.hid fun w1 h1 a b c d =>
    ⟨below4 h1.below (by have := HLT.out; omega) a b c d, ⟨by have := h1.size; simpa using this, fun {i o} ho hK => by
      have hi := (Array.getElem?_eq_some_iff.1 ho).1
      have hg := gb4 w1 (w.heap.size + 1 + 1) a b c d
      rw [hg.block i (by have := h1.size; omega) (fun e => by have := Option.some.inj e; omega)]
      exact h1.keeps.stay ho hK⟩⟩
  have HNP : Hid (∀ s, NodeAt X seen pc.no pc.deep pc.s.s s → seen pc.no = false ∧ pc.deep ≤ 16 ∧ NodeIs X pc.no s ∧ takesS pc.s.s s = true) := Lib.hid fun s h => h
  have HNQ : Hid (∀ s, seen pc.no = false → pc.deep ≤ 16 → NodeIs X pc.no s → takesS pc.s.s s = true → NodeAt X seen pc.no pc.deep pc.s.s s) := Lib.hid fun s h1 h2 h3 h4 => ⟨h1, h2, h3, h4⟩
  have HPG := Lib.hid (lookPage_any HW.out pc.no)
  have hms := Keeps.refl (isMaps [sm]) W
  obtain ⟨⟨p0, p1, p2, p3, p4⟩, hr0, x0, x1⟩ := HX.out W hms
  have HR0 := Lib.hid hr0
  have HKW : Hid (Keeps (isMaps [sm]) w W) := Lib.hid (Keeps.below hbw)
  unfold Pc.v
  unfold Pc.cells at hW
  by_cases hd : 16 < pc.deep
  · have d1 : decide (16 < pc.deep) = true := decide_eq_true hd
    have HND : Hid (¬ pc.deep ≤ 16) := Lib.hid (by omega)
    clear h hbw b0 b1 b2 hws hlt hp hBw hms hr0 HPG hd
    go_enter Tryz.func135, Tryz.ntmps135
    go_wp2
    rw [← hW]
    refine bodyPost_ret (results_cell_tmp rfl _ _ (w.heap.size + 1 + 1) 154 _ (0, 0) (by kernel_rfl) HR0.out Tryz.underlying154 (by kernel_rfl)) rfl ?_
    exact .inr ⟨rfl, (fun s hs => by have h1 := HND.out; have h2 := (HNP.out s hs).2.1; omega), ⟨_, HW.out⟩, HST.out⟩
  · have d1 : decide (16 < pc.deep) = false := decide_eq_false hd
    have HND : Hid (pc.deep ≤ 16) := Lib.hid (by omega)
    clear h hbw b0 b1 b2 hws hlt hp hBw hms hr0 hd
    go_enter Tryz.func135, Tryz.ntmps135
    go_wp2_with fail
    rw [← hW]
    replace hW := Lib.hid hW
    refine HPG.out.mono ?_
    clear HPG p0 p1 p2 p3 p4 x0 x1
    rintro e w1 (⟨kind, l, v, hs, hpg, rfl, ho, hl, hst⟩ | ⟨hno, rfl, ⟨seen', hl⟩, hst⟩)
    · have HL1 := Lib.hid hl
      have HS1 := Lib.hid hst
      have HSN := Lib.hid hs
      have HPGE := Lib.hid hpg
      obtain ⟨q, c, rfl, hnc, hc, hbs, hz⟩ := ho.form (n := l.length) rfl
      have HRD := Lib.hid (ndReadO_any kind.toNat hbs rfl hnc hc (by first | exact hz.1 | exact hz))
      have HNI : Hid (∀ s, NodeIs X pc.no s ↔ readS kind.toNat l s) := Lib.hid fun s => ⟨fun ⟨a, m, h1, h2⟩ => by rw [HPGE.out] at h1; cases h1; exact h2, fun h1 => ⟨_, _, HPGE.out, h1⟩⟩
      obtain ⟨⟨p0, p1, p2, p3, p4⟩, hr1, x0, x1⟩ := HX.out w1 (hst.keeps)
      have HR1 := Lib.hid hr1
      obtain ⟨⟨r0, r1, r2, r3⟩, ⟨v0, v1, v2, v3⟩, hrl⟩ := HR1.out.cells
      clear hr1
      clear hs hpg ho hl hst hbs hz r0 r1 r2 r3 v0 v1 v2 v3 hrl
      generalize l.length = ln at *
      try dsimp only
      go_wp2_with fail
      refine HRD.out.mono ?_
      clear HRD p0 p1 p2 p3 p4 x0 x1
      rintro e w2 (⟨n, rfl, hrs, hno, hb2⟩ | ⟨rfl, hrs, hb2⟩)
      · have HRS := Lib.hid hrs
        have HNO := Lib.hid hno
        have HB2 := Lib.hid hb2
        have HK2 : Hid (Keeps (isMaps [sm]) W w2) := Lib.hid (HS1.out.keeps.trans (Keeps.below hb2))
        have HL2 := Lib.hid (HL1.out.below hb2)
        have HS2 : Hid (LStep sm w w2) := Lib.hid ((HST.out.trans HS1.out).trans (HL1.out.step hb2))
        obtain ⟨W3, hW3⟩ : ∃ W3, W3 = w2.alloc (.cells #[.bool n.leaf, .slice n.kq n.ks.length n.kc, .slice n.vq n.vs.length n.vc, .slice n.iq n.is.length n.ic] 154) := ⟨_, rfl⟩
        have hb3 : Below w2.heap.size w2 W3 := by rw [hW3]; exact sbox1 _ _
        have HK3 : Hid (Keeps (isMaps [sm]) W W3) := Lib.hid (HK2.out.trans (Keeps.below hb3))
        have HL3 := Lib.hid (HL2.out.below hb3)
        have HS3 : Hid (LStep sm w W3) := Lib.hid (HS2.out.trans (HL2.out.step hb3))
        have HN3 := Lib.hid (HNO.out.below hb3)
        have hbx : W3.heap[w2.heap.size]? = some (.cells n.cells 154 (0, 0)) := by rw [hW3]; exact heap_alloc_new _ _
        have HBX : Hid (∀ w', Below W3.heap.size W3 w' → NBox w' w2.heap.size n) := Lib.hid fun w' hb => (NBox.of hbx).low hb (Array.getElem?_eq_some_iff.1 hbx).1
        have HTK := Lib.hid (takes_any (HSPO.out _ (HKW.out.trans HK3.out)) HN3.out.ok (by
          have := hrs.2.1.many
          have e : n.s.ks.length = n.ks.length := by show (n.ks.map Kb.l).length = _; rw [List.length_map]
          omega))
        unfold Pc.v Nd.cell at HTK
        have HNAT : Hid (∀ s, NodeIs X pc.no s → s = n.s) := Lib.hid fun s hs => Option.some.inj (((HNI.out s).1 hs).1.symm.trans HRS.out.1)
        obtain ⟨⟨p0, p1, p2, p3, p4⟩, _, x0, x1⟩ := HX.out w2 HK2.out
        have hl1 : w.heap.size + 1 < w2.heap.size := World.block_lt_of_cell? _ _ p0
        have hl2 : w.heap.size < w2.heap.size := by omega
        clear hrs hno hb2 hb3 hbx
        dsimp only [Nd.cell]
        go_wp2_with fail
        rw [← hW3]
        replace hW3 := Lib.hid hW3
        clear hW
        refine HTK.out.mono ?_
        clear HTK p0 p1 p2 p3 p4 x0 x1 hl1 hl2
        rintro e w4 ⟨rfl, hb4⟩
        have HB4 := Lib.hid hb4
        have HK4 : Hid (Keeps (isMaps [sm]) W w4) := Lib.hid (HK3.out.trans (Keeps.below hb4))
        have HL4 := Lib.hid (HL3.out.below hb4)
        have HS4 : Hid (LStep sm w w4) := Lib.hid (HS3.out.trans (HL3.out.step hb4))
        have HN4 := Lib.hid (HN3.out.below hb4)
        obtain ⟨n0, n1, n2, n3⟩ := HBX.out w4 hb4
        obtain ⟨_, hr4, _, _⟩ := HX.out w4 HK4.out
        have HR4 := Lib.hid hr4
        obtain ⟨⟨r0, r1, r2, r3⟩, ⟨v0, v1, v2, v3⟩, hrl⟩ := HR4.out.cells
        clear hb4 hr4
        cases htk : takesS pc.s.s n.s
        · have HT := Lib.hid htk
          clear htk
          try dsimp only
          go_wp2
          refine bodyPost_ret (results_cell_tmp rfl _ _ (w.heap.size + 1 + 1) 154 _ (0, 0) (by kernel_rfl) (ndSet4 HR4.out) Tryz.underlying154 (by kernel_rfl)) rfl ?_
          exact .inr ⟨rfl, (fun s hs => by
            have h1 := HNP.out s hs
            have h2 := HNAT.out s h1.2.2.1
            rw [h2, HT.out] at h1
            cases h1.2.2.2), ⟨_, HRF.out _ _ HL4.out _ _ _ _ HR4.out⟩, HLS.out _ HS4.out _ _ _ _⟩
        · have HT := Lib.hid htk
          clear htk
          try dsimp only
          go_wp2
          refine bodyPost_ret (results_cell_tmp rfl _ _ (w.heap.size + 1 + 1) 154 _ (0, 0) (by kernel_rfl) (ndSet4 HR4.out) Tryz.underlying154 (by kernel_rfl)) rfl ?_
          exact .inl ⟨n, rfl, HNQ.out _ HSN.out HND.out ((HNI.out _).2 HRS.out) HT.out, HRS.out.2.1, HN4.out.off HR4.out (gb4 w4 _ _ _ _ _), HRF.out _ _ HL4.out _ _ _ _ HR4.out, HLS.out _ HS4.out _ _ _ _⟩
      · have HRS := Lib.hid hrs
        have HK2 : Hid (Keeps (isMaps [sm]) W w2) := Lib.hid (HS1.out.keeps.trans (Keeps.below hb2))
        have HL2 := Lib.hid (HL1.out.below hb2)
        have HS2 : Hid (LStep sm w w2) := Lib.hid ((HST.out.trans HS1.out).trans (HL1.out.step hb2))
        obtain ⟨W3, hW3⟩ : ∃ W3, W3 = w2.alloc (.cells #[.bool false, .slice none 0 0, .slice none 0 0, .slice none 0 0] 154) := ⟨_, rfl⟩
        have hb3 : Below w2.heap.size w2 W3 := by rw [hW3]; exact sbox1 _ _
        have HK3 : Hid (Keeps (isMaps [sm]) W W3) := Lib.hid (HK2.out.trans (Keeps.below hb3))
        have HL3 := Lib.hid (HL2.out.below hb3)
        have HS3 : Hid (LStep sm w W3) := Lib.hid (HS2.out.trans (HL2.out.step hb3))
        obtain ⟨⟨p0, p1, p2, p3, p4⟩, hr3, x0, x1⟩ := HX.out W3 HK3.out
        have HR3 := Lib.hid hr3
        have HR2 := Lib.hid (HX.out w2 HK2.out).2.1
        obtain ⟨⟨r0, r1, r2, r3⟩, ⟨v0, v1, v2, v3⟩, hrl⟩ := HR2.out.cells
        clear hrs hb2 hb3 hr3
        rw [ndZero]
        try dsimp only
        go_wp2
        refine bodyPost_ret (results_cell_tmp rfl _ _ (w.heap.size + 1 + 1) 154 _ (0, 0) (by kernel_rfl) (alloc_blk (ndSet4 HR2.out)) Tryz.underlying154 (by kernel_rfl)) rfl ?_
        have HLA : Hid (Below ((((w2.setCell ⟨w.heap.size + 1 + 1, 0, none⟩ (.bool false)).setCell ⟨w.heap.size + 1 + 1, 1, none⟩ (.slice none 0 0)).setCell ⟨w.heap.size + 1 + 1, 2, none⟩ (.slice none 0 0)).setCell ⟨w.heap.size + 1 + 1, 3, none⟩ (.slice none 0 0)).heap.size _ _) := Lib.hid (sbox1 _ (.cells #[.bool false, .slice none 0 0, .slice none 0 0, .slice none 0 0] 154))
        have HLQ := Lib.hid (HRF.out _ _ HL2.out (.bool false) (.slice none 0 0) (.slice none 0 0) (.slice none 0 0) HR2.out)
        exact .inr ⟨rfl, (fun s hs => HRS.out s ((HNI.out s).1 (HNP.out s hs).2.2.1)), ⟨_, HLQ.out.below HLA.out⟩, (HLS.out _ HS2.out _ _ _ _).trans (HLQ.out.step HLA.out)⟩
    · have HL1 := Lib.hid hl
      have HS1 := Lib.hid hst
      have HNO := Lib.hid hno
      obtain ⟨⟨p0, p1, p2, p3, p4⟩, hr1, x0, x1⟩ := HX.out w1 (hst.keeps)
      have HR1 := Lib.hid hr1
      obtain ⟨⟨r0, r1, r2, r3⟩, ⟨v0, v1, v2, v3⟩, hrl⟩ := HR1.out.cells
      clear hr1
      clear hl hst hno p0 p1 p2 p3 p4 x0 x1
      try dsimp only
      go_wp2
      refine bodyPost_ret (results_cell_tmp rfl _ _ (w.heap.size + 1 + 1) 154 _ (0, 0) (by kernel_rfl) (ndSet4 HR1.out) Tryz.underlying154 (by kernel_rfl)) rfl ?_
      exact .inr ⟨rfl, (fun s hs => by
        have h1 := HNP.out s hs
        obtain ⟨a, m, h2, _⟩ := h1.2.2.1
        exact HNO.out ⟨h1.1, by rw [h2]; exact fun h => (by cases h)⟩), ⟨_, HRF.out _ _ HL1.out _ _ _ _ HR1.out⟩, HLS.out _ (HST.out.trans HS1.out) _ _ _ _⟩
end

end Go.Proofs.YtngnmakeaniapaaGreatDoor

set_option linter.unusedVariables false
set_option linter.unusedSimpArgs false
set_option maxRecDepth 100000
namespace Go.Proofs.YtngnmakeaniapaaGreatDoor
open Go.RowKit Go.Shelf

attribute [local go_sem] Oper.semAt_some

set_option maxHeartbeats 1600000 in
theorem eachW_any {w : World} {l by_ bd : Nat} {pc : Pc} {K : World → Prop} (hy : w.cell? ⟨by_, 0, none⟩ = some (.func (.yield l) #[] #[]))
    (hR : ∀ W, Below w.heap.size w W → YieldAt Fence.wide 2 Tryz.prog l #[Nd.zero.cell, .int .i64 18] W fun e W' => e = .returned (.bool false) ∧ K W') :
    Calls Tryz.prog 123 #[pc.v, Nd.zero.cell, .int .i64 18, .pointer (some ⟨bd, 0, none⟩), .pointer (some ⟨by_, 0, none⟩)] w fun e w' => e = .returned (.bool false) ∧ K w' := by
  have hbw : Below w.heap.size w ((w.alloc (.cells pc.cells 172)).alloc (.cells #[.bool false, .slice none 0 0, .slice none 0 0, .slice none 0 0] 154)) := sbox2 _ _ _
  obtain ⟨fn, tmps, assign, body, hyl, hRR⟩ := hR _ hbw
  have hyW : ((w.alloc (.cells pc.cells 172)).alloc (.cells #[.bool false, .slice none 0 0, .slice none 0 0, .slice none 0 0] 154)).cell? ⟨by_, 0, none⟩ = some (.func (.yield l) #[] #[]) := by rw [hbw.cell (World.block_lt_of_cell? _ _ hy)]; exact hy
  unfold Nd.cell Nd.zero at hyl
  unfold Pc.v Pc.cells at *
  unfold Nd.cell Nd.zero
  dsimp only [List.length_nil] at *
  clear hR hy hbw
  refine (callsIn_wide (n := 3)).1 (callsIn_of_wp Tryz.func123 rfl trivial ?_)
  simp only [Tryz.ntmps123, List.size_toArray, List.length_cons, List.length_nil, Nat.reduceAdd, Nat.reduceSub, Array.replicate_succ, Array.replicate_zero, List.push_toArray, List.append_toArray, List.nil_append, List.cons_append]
  gi_wp2
  refine hRR.mono ?_
  rintro e W' ⟨rfl, hK⟩
  gi_wp2
  go_ret
  exact ⟨rfl, hK⟩

section
variable {w : World} {B P pd sm : Nat} {X : PG} {seen : Int → Bool}

set_option maxHeartbeats 1600000 in
theorem belowW_any (h : LookAt w B P pd sm X seen) (hBw : B ≤ w.heap.size) {pc : Pc} (hp : pc.s.Ok w) (hno : ∀ s, ¬ NodeAt X seen pc.no pc.deep pc.s.s s) {l by_ bd : Nat} {ty : TypeId} {K : World → Prop} (nv : Value)
    (hy : w.heap[by_]? = some (.cells #[.func (.yield l) #[] #[]] ty (0, 0)))
    (hR : ∀ W seen', LookAt W B P pd sm X seen' → LStep sm w W → YieldAt Fence.wide 2 Tryz.prog l #[Nd.zero.cell, .int .i64 18] W fun e W' => e = .returned (.bool false) ∧ K W') :
    Calls Tryz.prog 124 #[.agg #[.pointer (some ⟨P, 0, none⟩), .map (some sm)], pc.v, nv, .func (.func 123) #[] #[.pointer (some ⟨bd, 0, none⟩), .pointer (some ⟨by_, 0, none⟩)]] w fun e w' => e = .returned (.bool false) ∧ K w' := by
  obtain ⟨W, hW⟩ : ∃ W, W = (w.alloc (.cells #[.pointer (some ⟨P, 0, none⟩), .map (some sm)] 143)).alloc (.cells pc.cells 172) := ⟨_, rfl⟩
  have hbw : Below w.heap.size w W := by rw [hW]; exact sbox2 _ _ _
  obtain ⟨b0, b1, _, hws⟩ := boxes w #[.pointer (some ⟨P, 0, none⟩), .map (some sm)] pc.cells 143 172
  rw [← hW] at b0 b1 hws
  have HLN := Lib.hid (lookNode_any (h.below hbw) (by omega) (hp.below hbw))
  have HNO := Lib.hid hno
  have HLS : Hid (LStep sm w W) := Lib.hid (h.step hbw)
  have HX : Hid (∀ w', Keeps (isMaps [sm]) W w' → PBox w' (w.heap.size + 1) pc) := Lib.hid fun w' hk => PBox.of (hk.stay b1 rfl)
  have HB0 : Hid (∀ w', Keeps (isMaps [sm]) W w' → w'.cell? ⟨w.heap.size, 0, none⟩ = some (.pointer (some ⟨P, 0, none⟩)) ∧ w'.cell? ⟨w.heap.size, 1, none⟩ = some (.map (some sm))) := Lib.hid fun w' hk => ⟨(Joins.cell_of_block (hk.stay b0 rfl) 0).trans rfl, (Joins.cell_of_block (hk.stay b0 rfl) 1).trans rfl⟩
  have HY := Lib.hid hy
  have HR := Lib.hid hR
  obtain ⟨p0, p1, p2, p3, p4⟩ := HX.out W (Keeps.refl _ _)
  obtain ⟨x0, x1⟩ := HB0.out W (Keeps.refl _ _)
  unfold Pc.v at *
  unfold Pc.cells at hW
  clear h hBw hp hno hbw b0 b1 hws hy hR
  go_enter Tryz.func124, Tryz.ntmps124
  go_wp2_with fail
  rw [← hW]
  replace hW := Lib.hid hW
  refine HLN.out.mono ?_
  rintro e w1 (⟨n, rfl, hna, _⟩ | ⟨rfl, _, ⟨seen', hla⟩, hst⟩)
  · exact absurd hna (HNO.out _)
  clear HLN p0 p1 p2 p3 p4 x0 x1
  obtain ⟨W2, hW2⟩ : ∃ W2, W2 = w1.alloc (.cells #[.bool false, .slice none 0 0, .slice none 0 0, .slice none 0 0] 154) := ⟨_, rfl⟩
  have hb2 : Below w1.heap.size w1 W2 := by rw [hW2]; exact sbox1 _ _
  have hs2 : LStep sm w W2 := (HLS.out.trans hst).trans (hla.step hb2)
  obtain ⟨p0, p1, p2, p3, p4⟩ := HX.out W2 (hst.keeps.trans (Keeps.below hb2))
  have hbx : W2.heap[w1.heap.size]? = some (.cells #[.bool false, .slice none 0 0, .slice none 0 0, .slice none 0 0] 154 (0, 0)) := by rw [hW2]; exact heap_alloc_new _ _
  have n0 : W2.cell? ⟨w1.heap.size, 0, none⟩ = some (.bool false) := (Joins.cell_of_block hbx 0).trans rfl
  have n1 : W2.cell? ⟨w1.heap.size, 1, none⟩ = some (.slice none 0 0) := (Joins.cell_of_block hbx 1).trans rfl
  have n2 : W2.cell? ⟨w1.heap.size, 2, none⟩ = some (.slice none 0 0) := (Joins.cell_of_block hbx 2).trans rfl
  have n3 : W2.cell? ⟨w1.heap.size, 3, none⟩ = some (.slice none 0 0) := (Joins.cell_of_block hbx 3).trans rfl
  have HE := Lib.hid (eachW_any (w := W2) (l := l) (by_ := by_) (bd := bd) (pc := pc) (K := K) ((Joins.cell_of_block (hs2.keeps.stay HY.out rfl) 0).trans rfl) (fun W3 hb3 => HR.out W3 seen' ((hla.below hb2).below hb3) (hs2.trans ((hla.below hb2).step hb3))))
  unfold Pc.v Nd.cell Nd.zero at HE
  clear hla hst hb2 hs2 hbx
  subst hW2
  dsimp only [Nd.cell, Nd.zero, List.length_nil]
  go_wp2_with fail
  refine HE.out.mono ?_
  rintro e w3 ⟨rfl, hK⟩
  clear p0 p1 p2 p3 p4 n0 n1 n2 n3
  go_wp2
  go_ret
  exact ⟨rfl, hK⟩
end

end Go.Proofs.YtngnmakeaniapaaGreatDoor

set_option linter.unusedVariables false
set_option maxRecDepth 100000
namespace Go.Proofs.YtngnmakeaniapaaGreatDoor
open Go.RowKit

abbrev Key := List UInt8
theorem kc_cons (a b : UInt8) (l m : Key) : Lib.compareBytes (a :: l) (b :: m) = if a < b then -1 else if b < a then 1 else Lib.compareBytes l m := by rw [Lib.compareBytes]
theorem kc_three : ∀ l m : Key, Lib.compareBytes l m = -1 ∨ Lib.compareBytes l m = 0 ∨ Lib.compareBytes l m = 1
  | [], [] => by right; left; rfl
  | [], _ :: _ => by left; rfl
  | _ :: _, [] => by right; right; rfl
  | a :: l, b :: m => by
    rw [kc_cons]
    split
    · exact .inl rfl
    · split
      · exact .inr (.inr rfl)
      · exact kc_three l m
theorem kc_self : ∀ l : Key, Lib.compareBytes l l = 0
  | [] => rfl
  | a :: l => by rw [kc_cons, if_neg (by simp), if_neg (by simp)]; exact kc_self l
theorem kc_zero : ∀ {l m : Key}, Lib.compareBytes l m = 0 → l = m
  | [], [], _ => rfl
  | [], _ :: _, h => by cases h
  | _ :: _, [], h => by cases h
  | a :: l, b :: m, h => by
    rw [kc_cons] at h
    split at h
    · cases h
    · split at h
      · cases h
      · rename_i h1 h2
        have e : a = b := UInt8.le_antisymm (UInt8.not_lt.1 h2) (UInt8.not_lt.1 h1)
        rw [e, kc_zero h]
theorem kc_neg : ∀ l m : Key, Lib.compareBytes m l = -Lib.compareBytes l m
  | [], [] => rfl
  | [], _ :: _ => rfl
  | _ :: _, [] => rfl
  | a :: l, b :: m => by
    rw [kc_cons, kc_cons]
    by_cases h1 : a < b
    · rw [if_pos h1, if_neg (UInt8.not_lt.2 (UInt8.le_of_lt h1)), if_pos h1]; rfl
    · by_cases h2 : b < a
      · rw [if_pos h2, if_neg h1, if_pos h2]
      · rw [if_neg h1, if_neg h2, if_neg h2, if_neg h1]; exact kc_neg l m

/-- One key is below another. -/
def KLt (a b : Key) : Prop := Lib.compareBytes a b < 0
def KLe (a b : Key) : Prop := Lib.compareBytes a b ≤ 0
instance (a b : Key) : Decidable (KLt a b) := inferInstanceAs (Decidable (_ < _))
instance (a b : Key) : Decidable (KLe a b) := inferInstanceAs (Decidable (_ ≤ _))
theorem KLt.irrefl (a : Key) : ¬ KLt a a := by unfold KLt; rw [kc_self]; omega
theorem KLt.trans : ∀ {a b c : Key}, KLt a b → KLt b c → KLt a c
  | [], _, [], h, h' => by
    unfold KLt at *
    rename_i b
    cases b with
    | nil => exact h
    | cons x l => cases h'
  | [], _, _ :: _, _, _ => by show (-1 : Int) < 0; omega
  | _ :: _, [], _, h, _ => by cases h
  | _ :: _, _ :: _, [], _, h => by cases h
  | a :: l, b :: m, c :: n, h, h' => by
    unfold KLt at *
    rw [kc_cons] at *
    by_cases h1 : a < b
    · by_cases h2 : b < c
      · rw [if_pos (UInt8.lt_trans h1 h2)]; omega
      · rw [if_neg h2] at h'
        by_cases h3 : c < b
        · rw [if_pos h3] at h'; omega
        · have e : b = c := UInt8.le_antisymm (UInt8.not_lt.1 h3) (UInt8.not_lt.1 h2)
          rw [← e, if_pos h1]; omega
    · rw [if_neg h1] at h
      by_cases h3 : b < a
      · rw [if_pos h3] at h; omega
      · rw [if_neg h3] at h
        have e : a = b := UInt8.le_antisymm (UInt8.not_lt.1 h3) (UInt8.not_lt.1 h1)
        rw [e]
        by_cases h2 : b < c
        · rw [if_pos h2]; omega
        · rw [if_neg h2] at h' ⊢
          by_cases h4 : c < b
          · rw [if_pos h4] at h'; omega
          · rw [if_neg h4] at h' ⊢
            exact KLt.trans (show KLt l m from h) (show KLt m n from h')
theorem KLe.iff {a b : Key} : KLe a b ↔ KLt a b ∨ a = b := by
  unfold KLe KLt
  constructor
  · intro h
    rcases kc_three a b with h1 | h1 | h1
    · exact .inl (by omega)
    · exact .inr (kc_zero h1)
    · omega
  · rintro (h | rfl)
    · omega
    · rw [kc_self]; omega
theorem KLe.refl (a : Key) : KLe a a := KLe.iff.2 (.inr rfl)
theorem KLt.le {a b : Key} (h : KLt a b) : KLe a b := KLe.iff.2 (.inl h)
theorem KLe.trans {a b c : Key} (h : KLe a b) (h' : KLe b c) : KLe a c := by
  rcases KLe.iff.1 h with h | rfl
  · rcases KLe.iff.1 h' with h' | rfl
    · exact (h.trans h').le
    · exact h.le
  · exact h'
theorem KLe.lt {a b c : Key} (h : KLe a b) (h' : KLt b c) : KLt a c := by
  rcases KLe.iff.1 h with h | rfl
  · exact h.trans h'
  · exact h'
theorem KLt.lt_le {a b c : Key} (h : KLt a b) (h' : KLe b c) : KLt a c := by
  rcases KLe.iff.1 h' with h' | rfl
  · exact h.trans h'
  · exact h
theorem KLt.not_le {a b : Key} : KLt a b ↔ ¬ KLe b a := by
  unfold KLt KLe
  have := kc_neg a b
  omega
theorem KLe.not_lt {a b : Key} : KLe a b ↔ ¬ KLt b a := by
  unfold KLt KLe
  have := kc_neg a b
  omega
theorem KLt.ne {a b : Key} (h : KLt a b) : a ≠ b := fun e => KLt.irrefl a (e ▸ h)
theorem KLe.nil (a : Key) : KLe [] a := by
  unfold KLe
  cases a with
  | nil => decide
  | cons x l => show (-1 : Int) ≤ 0; omega
theorem kc_pos {a b : Key} : 0 < Lib.compareBytes a b ↔ KLt b a := by
  unfold KLt
  have := kc_neg a b
  omega

/-- Keys that rise. -/
def Up (ks : List Key) : Prop := ks.Pairwise KLt
theorem Rise.up {ks : List Key} (h : Rise ks) : Up ks := by
  rw [Up, List.pairwise_iff_getElem]
  intro i j hi hj hij
  induction j with
  | zero => omega
  | succ j ih =>
    have hs : KLt ks[j] ks[j + 1] := by
      have := (h (j + 1) ks[j + 1] (List.getElem?_eq_getElem hj)).2 ks[j] (by omega) (by simp)
      exact this
    rcases Nat.lt_or_ge i j with h1 | h1
    · exact (ih (by omega) h1).trans hs
    · obtain rfl : i = j := by omega
      exact hs
theorem Up.rise {ks : List Key} (h : Up ks) (hl : ∀ k ∈ ks, k.length ≤ 72) : Rise ks := by
  intro i k hk
  refine ⟨hl k (List.mem_of_getElem? hk), fun k' h0 hk' => ?_⟩
  obtain ⟨h1, rfl⟩ := List.getElem?_eq_some_iff.1 hk
  obtain ⟨h2, rfl⟩ := List.getElem?_eq_some_iff.1 hk'
  exact List.pairwise_iff_getElem.1 h _ _ h2 h1 (by omega)

/-- Where a key stands, or would. -/
structure At1 (l : List Key) (n : Key) (k : Nat) (b : Bool) : Prop where
  le : k ≤ l.length
  lo : ∀ p ∈ l.take k, KLt p n
  hi : ∀ p ∈ l.drop k, KLe n p
  eq : b = true ↔ l[k]? = some n
theorem up_lo {l : List Key} (h : Up l) {n : Key} {k : Nat} {x : Key} (hx : l[k]? = some x) (hc : KLt x n) : ∀ p ∈ l.take (k + 1), KLt p n := by
  obtain ⟨hk, rfl⟩ := List.getElem?_eq_some_iff.1 hx
  intro p hp
  rw [List.take_succ_eq_append_getElem hk, List.mem_append] at hp
  rcases hp with hp | hp
  · obtain ⟨i, hi, rfl⟩ := List.mem_iff_getElem.1 hp
    rw [List.length_take] at hi
    rw [List.getElem_take]
    exact (List.pairwise_iff_getElem.1 h i k (by omega) hk (by omega)).trans hc
  · obtain rfl := List.mem_singleton.1 hp
    exact hc
theorem up_hi {l : List Key} (h : Up l) {n : Key} {k : Nat} {x : Key} (hx : l[k]? = some x) (hc : KLe n x) : ∀ p ∈ l.drop k, KLe n p := by
  obtain ⟨hk, rfl⟩ := List.getElem?_eq_some_iff.1 hx
  intro p hp
  obtain ⟨i, hi, rfl⟩ := List.mem_iff_getElem.1 hp
  rw [List.getElem_drop]
  rcases Nat.eq_zero_or_pos i with h0 | h0
  · subst h0
    exact hc
  · have hki : k + i < l.length := by rw [List.length_drop] at hi; omega
    exact hc.trans (List.pairwise_iff_getElem.1 h k (k + i) hk hki (by omega)).le
/-- It is the one place. -/
theorem At1.one {l : List Key} {n : Key} {k k' : Nat} {b b' : Bool} (h : At1 l n k b) (h' : At1 l n k' b') : k = k' ∧ b = b' := by
  have aux : ∀ {k k' : Nat} {b b' : Bool}, At1 l n k b → At1 l n k' b' → ¬ k < k' := fun {k k' b b'} h h' hlt => by
    have hk : k < l.length := Nat.lt_of_lt_of_le hlt h'.le
    have h1 : KLt l[k] n := h'.lo _ (List.mem_of_getElem? (i := k) (by rw [List.getElem?_take_of_lt hlt, List.getElem?_eq_getElem hk]))
    have h2 : KLe n l[k] := h.hi _ (List.mem_of_getElem? (i := 0) (by rw [List.getElem?_drop]; simp [hk]))
    exact KLt.not_le.1 h1 h2
  have hk : k = k' := by have := aux h h'; have := aux h' h; omega
  subst hk
  refine ⟨rfl, ?_⟩
  have := h.eq.trans h'.eq.symm
  cases b <;> cases b' <;> simp_all

end Go.Proofs.YtngnmakeaniapaaGreatDoor

set_option linter.unusedVariables false
set_option linter.unusedSimpArgs false
set_option maxRecDepth 100000
namespace Go.Proofs.YtngnmakeaniapaaGreatDoor
open Go.RowKit

def BsPost (w : World) (l : List Key) (n : Key) (e : Ending) (w' : World) : Prop := ∃ (k : Nat) (b : Bool), e = .returned (.tuple #[.int .i64 (k : Int), .bool b]) ∧ At1 l n k b ∧ Below w.heap.size w w'

set_option maxHeartbeats 3200000 in
theorem bsKeys_any {w : World} {q : Option Addr} {m c : Nat} {l : List Kb} (hl : Kbs w q l) (ho : ∀ x ∈ l, x.Ok w) (hn : m = l.length) (hmc : m ≤ c) (h16 : m ≤ 1000000) (hup : Up (l.map Kb.l)) {n : Kb} (hk : n.Ok w) :
    Calls Tryz.prog 136 #[.slice q m c, .slice n.q n.l.length n.c, .func (.func 137) #[] #[]] w (BsPost w (l.map Kb.l) n.l) := by
  have eg : ∀ args (w : World), (callFunc 137 args).run Tryz.prog w = .ok (.enter 137 args) w := fun _ _ => rfl
  have HN := Lib.hid hn
  have HL := Lib.hid hl
  have HO := Lib.hid ho
  have HI := Lib.hid hup
  have HCM : Hid (∀ (x : Kb), x ∈ l → ∀ w1, Below w.heap.size w w1 → Calls Tryz.prog 137 #[.slice x.q x.l.length x.c, .slice n.q n.l.length n.c] w1 fun e w' => e = .returned (.int .i64 (Lib.compareBytes x.l n.l)) ∧ w1 = w') := Lib.hid fun x hx w1 hb => bytesCompare_any ((ho x hx).bs.below hb) (hk.bs.below hb) _ _ _ _ rfl rfl (ho x hx).z hk.z
  clear hn hl hup ho hk
  generalize n.l.length = nl at *
  go_enter Tryz.func136, Tryz.ntmps136
  go_wp2
  go_loopw [9, 10] (fun x y wr => ∃ a b : Nat, x = .int .i64 a ∧ y = .int .i64 b ∧ a ≤ b ∧ b ≤ m ∧ (∀ p ∈ (l.map Kb.l).take a, KLt p n.l) ∧ (∀ p ∈ (l.map Kb.l).drop b, KLe n.l p) ∧ Below w.heap.size w wr) (fun x y _ => (intOf y).toNat - (intOf x).toNat)
  case atStart => exact ⟨0, m, rfl, rfl, by omega, by omega, by simp, by rw [List.drop_eq_nil_of_le (by rw [List.length_map, HN.out]; omega)]; simp, Below.refl _ _⟩
  case round =>
    obtain ⟨a, b, rfl, rfl, hab, hbm, hlo, hhi, hb⟩ := hrel
    have HLO := Lib.hid hlo
    have HHI := Lib.hid hhi
    have HB := Lib.hid hb
    clear hlo hhi hb
    by_cases hlt : a < b
    · obtain ⟨h, hh⟩ : ∃ h : Nat, ((a : Int) + (b : Int)) / 2 = (h : Int) := ⟨(a + b) / 2, by omega⟩
      have hah : a ≤ h ∧ h < b := by omega
      obtain ⟨hah, hhb⟩ := hah
      obtain ⟨x, hx⟩ : ∃ x, l[h]? = some x := ⟨_, List.getElem?_eq_getElem (by have := HN.out; omega)⟩
      have hxm : (l.map Kb.l)[h]? = some x.l := by rw [List.getElem?_map, hx]; rfl
      obtain ⟨b0, o0, rfl, hblt, hc⟩ := HL.out.at hx
      have c0 : wr.cell? ⟨b0, o0 + h, none⟩ = some (.slice x.q x.l.length x.c) := by rw [HB.out.cell (p := ⟨b0, o0 + h, none⟩) hblt]; exact hc
      have HC := Lib.hid (HCM.out x (List.mem_of_getElem? hx) _ HB.out)
      have HLO2 : Hid (Lib.compareBytes x.l n.l < 0 → ∀ p ∈ (l.map Kb.l).take (h + 1), KLt p n.l) := Lib.hid (up_lo HI.out hxm)
      have HHI2 : Hid (0 ≤ Lib.compareBytes x.l n.l → ∀ p ∈ (l.map Kb.l).drop h, KLe n.l p) := Lib.hid fun h0 => up_hi HI.out hxm (KLe.not_lt.2 (by show ¬ _ < _; omega))
      have hhm : h < m := by omega
      have hhmi : (h : Int) < (m : Int) := by omega
      clear hx hxm hc hblt
      generalize Lib.compareBytes x.l n.l = r at *
      generalize x.l.length = xl at *
      by_cases hr : r < 0
      · go_wp2_with fail
        refine HC.out.mono ?_
        rintro e w1 ⟨rfl, rfl⟩
        have HL2 := Lib.hid (HLO2.out hr)
        go_wp2
        go_roundw
        case rel => exact ⟨h + 1, b, by go_num, rfl, by omega, hbm, HL2.out, HHI.out, HB.out⟩
        case measure => simp [intOf]; omega
      · go_wp2_with fail
        refine HC.out.mono ?_
        rintro e w1 ⟨rfl, rfl⟩
        have HH2 := Lib.hid (HHI2.out (by omega))
        go_wp2
        go_roundw
        case rel => exact ⟨a, h, rfl, rfl, hah, by omega, HLO.out, HH2.out, HB.out⟩
        case measure => simp [intOf]; omega
    · have hab' : a = b := by omega
      subst hab'
      by_cases ham : a < m
      · obtain ⟨x, hx⟩ : ∃ x, l[a]? = some x := ⟨_, List.getElem?_eq_getElem (by have := HN.out; omega)⟩
        have hxm : (l.map Kb.l)[a]? = some x.l := by rw [List.getElem?_map, hx]; rfl
        obtain ⟨b0, o0, rfl, hblt, hc⟩ := HL.out.at hx
        have c0 : wr.cell? ⟨b0, o0 + a, none⟩ = some (.slice x.q x.l.length x.c) := by rw [HB.out.cell (p := ⟨b0, o0 + a, none⟩) hblt]; exact hc
        have HC := Lib.hid (HCM.out x (List.mem_of_getElem? hx) _ HB.out)
        have HEQ : Hid ((Lib.compareBytes x.l n.l == 0) = true ↔ (l.map Kb.l)[a]? = some n.l) := Lib.hid (by
          rw [beq_iff_eq, hxm]
          exact ⟨fun h => by rw [kc_zero h], fun h => by rw [Option.some.inj h]; exact kc_self _⟩)
        clear hx hxm hc hblt
        generalize Lib.compareBytes x.l n.l = r at *
        generalize x.l.length = xl at *
        obtain ⟨z, hz⟩ : ∃ z, (r == 0) = z := ⟨_, rfl⟩
        rw [hz] at HEQ
        have ham1 : decide ((a : Int) < (m : Int)) = true := decide_eq_true (by omega)
        have hami : (a : Int) < (m : Int) := by omega
        go_wp2_with fail
        refine HC.out.mono ?_
        rintro e w1 ⟨rfl, rfl⟩
        go_wp2
        go_ret2
        exact ⟨a, z, rfl, ⟨by rw [List.length_map, ← HN.out]; omega, HLO.out, HHI.out, HEQ.out⟩, HB.out⟩
      · have ham0 : a = m := by omega
        have ham1 : decide ((a : Int) < (m : Int)) = false := decide_eq_false (by omega)
        go_wp2
        go_ret2
        refine ⟨a, false, rfl, ⟨by rw [List.length_map, ← HN.out]; omega, HLO.out, HHI.out, ?_⟩, HB.out⟩
        constructor
        · intro h; cases h
        · intro hp
          rw [List.getElem?_eq_none (by rw [List.length_map, ← HN.out]; omega)] at hp
          cases hp

set_option maxHeartbeats 400000 in
theorem top_any {w : World} (k : Int) : Calls Tryz.prog 125 #[.int .i64 k] w fun e w' => e = .returned (.agg #[.int .i64 k, .int .i64 1, .slice none 0 0, .slice none 0 0, .bool false]) ∧ Below w.heap.size w w' := by
  go_enter Tryz.func125, Tryz.ntmps125
  go_wp2
  have hb := heap_alloc_new w (.cells #[.int .i64 k, .int .i64 1, .slice none 0 0, .slice none 0 0, .bool false] 172)
  obtain ⟨W, hW⟩ : ∃ W, W = w.alloc (.cells #[.int .i64 k, .int .i64 1, .slice none 0 0, .slice none 0 0, .bool false] 172) := ⟨_, rfl⟩
  rw [← hW] at hb ⊢
  have HB : Below w.heap.size w W := by rw [hW]; exact sbox1 _ _
  have g0 := (Joins.cell_of_block hb 0).trans rfl
  have g1 := (Joins.cell_of_block hb 1).trans rfl
  have g2 := (Joins.cell_of_block hb 2).trans rfl
  have g3 := (Joins.cell_of_block hb 3).trans rfl
  have g4 := (Joins.cell_of_block hb 4).trans rfl
  refine bodyPost_ret (v := .agg #[.int .i64 k, .int .i64 1, .slice none 0 0, .slice none 0 0, .bool false]) (by simp [results, Tryz.results125, go_sem, g0, g1, g2, g3, g4]) rfl ⟨rfl, HB⟩

end Go.Proofs.YtngnmakeaniapaaGreatDoor

