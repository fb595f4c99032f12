/-
  node.leafRight.
  tree.
  node's rest.
-/
import Derived.Test.YtbbgdbnjmonbgaaGreatDoorH00
import Derived.Test.YtbbgdbnjmonbgaaGreatDoorH15
import Derived.Test.YtbbgdbnjmonbgaaGreatDoorH14
import Derived.Test.YtbbgdbnjmonbgaaGreatDoorH13
import Derived.Deep.RegionHeld3
set_option linter.unusedVariables false
set_option maxRecDepth 100000
namespace Go.Proofs.YtbbgdbnjmonbgaaGreatDoor
open Go.RowKit
theorem any_wrong {l : List Vl} : l.any wrongV = false ↔ ∀ v ∈ l.map Vl.s, v.Right := by
 rw [List.any_eq_false]
 constructor
 ·
  intro h v hv
  obtain ⟨x, hx, rfl⟩ := List.mem_map.1 hv
  exact (wrongV_iff x).1 (by simpa using h x hx)
 ·
  intro h x hx
  have := (wrongV_iff x).2 (h _ (List.mem_map_of_mem hx))
  simp [this]
theorem any_page {l : List Int} : l.any noPage = false ↔ ∀ i ∈ l, PageOk i := by
 rw [List.any_eq_false]
 constructor
 ·
  intro h v hv
  exact (noPage_iff v).1 (by simpa using h v hv)
 ·
  intro h x hx
  have := (noPage_iff x).2 (h _ hx)
  simp [this]
def TellsB (P : Prop) (w : World) (e : Ending) (w' : World) : Prop := ∃ b : Bool, e = .returned (.bool b) ∧ (b = true ↔ P) ∧ Below w.heap.size w w'
theorem nd_box (w : World) (n : Nd) : ∃ W, W = w.alloc (.cells #[.bool n.leaf, .slice n.kq n.ks.length n.kc, .slice n.vq n.vs.length n.vc, .slice n.iq n.is.length n.ic] 106) ∧ Below w.heap.size w W ∧ W.heap.size = w.heap.size + 1 ∧
  (∀ w', Below W.heap.size W w' → Below w.heap.size w w' ∧ w'.cell? ⟨w.heap.size, 0, none⟩ = some (.bool n.leaf) ∧ w'.cell? ⟨w.heap.size, 1, none⟩ = some (.slice n.kq n.ks.length n.kc) ∧ w'.cell? ⟨w.heap.size, 2, none⟩ = some (.slice n.vq n.vs.length n.vc) ∧ w'.cell? ⟨w.heap.size, 3, none⟩ = some (.slice n.iq n.is.length n.ic)) := by
 refine ⟨_, rfl, (Below.refl _ _).alloc (Nat.le_refl _) _, by simp, fun w' hb => ?_⟩
 have h1 := (hb.block w.heap.size (by simp)).trans (heap_alloc_new w _)
 exact ⟨((Below.refl _ _).alloc (Nat.le_refl _) _).trans (hb.mono (by simp)), jC h1 0, jC h1 1, jC h1 2, jC h1 3⟩
set_option maxHeartbeats 1600000 in
theorem leafRight_any {w : World} {n : Nd} (h : n.Ok w) :
  Calls Tryz.prog 189 #[n.cell] w (TellsB n.s.LeafRight w) := by
 obtain ⟨W, hW, hbw, hws, hc⟩ := nd_box w n
 have HC := Hq hc
 have HBW := Hq hbw
 have HV := Hq (containsV_any (w := W) (q := n.vq) (n := n.vs.length) (c := n.vc) (l := n.vs) rfl h.v1 h.v2 (h.vl.below hbw) (fun a ha => (h.vo a ha).below hbw))
 have HR : Hid (n.s.LeafRight ↔ n.vs.length = n.ks.length ∧ n.is.length = 0 ∧ n.vs.any wrongV = false) := Hq (by
  rw [any_wrong]
  unfold NdS.LeafRight Nd.s
  dsimp only
  rw [List.length_map, List.length_map, List.length_eq_zero_iff])
 generalize n.s.LeafRight = P at *
 generalize n.vs.any wrongV = x at *
 have k1 := h.k1
 have k2 := h.k2
 have v1 := h.v1
 have v2 := h.v2
 have i1 := h.i1
 have i2 := h.i2
 unfold Nd.cell
 generalize n.ks.length = km at *
 generalize n.vs.length = vm at *
 generalize n.is.length = im at *
 clear h hbw hc
 obtain ⟨_, c0, c1, c2, c3⟩ := HC.out W (Below.refl _ _)
 by_cases hm : vm = km
 ·
  subst hm
  by_cases hi : im = 0
  ·
   subst hi
   go_enter Tryz.func189, Tryz.ntmps189
   go_wp2_with fail
   rw [← hW]
   replace hW := Hq hW
   go_wp2_with fail
   refine HV.out.mono ?_
   rintro e w1 ⟨rfl, hb⟩
   have HB := Hq (HC.out _ hb).1
   go_wp2
   go_ret
   refine ⟨_, rfl, ?_, HB.out⟩
   rw [HR.out]
   simp
  ·
   have hib : ((im : Int) == 0) = false := by simpa using hi
   have HI := Hq hi
   clear hi
   go_enter Tryz.func189, Tryz.ntmps189
   go_wp2_with fail
   rw [← hW]
   replace hW := Hq hW
   go_wp2
   go_ret
   refine ⟨_, rfl, ?_, HBW.out⟩
   rw [HR.out]
   have := HI.out
   simp [this]
 ·
  have hib : ((vm : Int) == (km : Int)) = false := by rw [beq_eq_false_iff_ne]; omega
  have hib2 : (vm == km) = false := by simpa using hm
  have HI := Hq hm
  clear hm
  go_enter Tryz.func189, Tryz.ntmps189
  go_wp2_with fail
  rw [← hW]
  replace hW := Hq hW
  go_wp2
  go_ret
  refine ⟨_, rfl, ?_, HBW.out⟩
  rw [HR.out]
  have := HI.out
  simp [this]
set_option maxHeartbeats 1600000 in
theorem branchRight_any {w : World} {n : Nd} (h : n.Ok w) (hk : n.ks.length ≤ 100000) :
  Calls Tryz.prog 190 #[n.cell] w (TellsB n.s.BranchRight w) := by
 obtain ⟨W, hW, hbw, hws, hc⟩ := nd_box w n
 have HC := Hq hc
 have HBW := Hq hbw
 have HV := Hq (containsI_any (w := W) (q := n.iq) (n := n.is.length) (c := n.ic) (l := n.is) rfl h.i1 h.i2 (h.il.below hbw))
 have HR : Hid (n.s.BranchRight ↔ n.is.length = n.ks.length + 1 ∧ n.vs.length = 0 ∧ n.is.any noPage = false) := Hq (by
  rw [any_page]
  unfold NdS.BranchRight Nd.s
  dsimp only
  rw [List.length_map, List.map_eq_nil_iff, List.length_eq_zero_iff])
 generalize n.s.BranchRight = P at *
 generalize n.is.any noPage = x at *
 have k1 := h.k1
 have k2 := h.k2
 have v1 := h.v1
 have v2 := h.v2
 have i1 := h.i1
 have i2 := h.i2
 unfold Nd.cell
 generalize n.ks.length = km at *
 generalize n.vs.length = vm at *
 generalize n.is.length = im at *
 clear h hbw hc
 obtain ⟨_, c0, c1, c2, c3⟩ := HC.out W (Below.refl _ _)
 by_cases hm : im = km + 1
 ·
  subst hm
  by_cases hi : vm = 0
  ·
   subst hi
   go_enter Tryz.func190, Tryz.ntmps190
   go_wp2_with fail
   rw [← hW]
   replace hW := Hq hW
   go_wp2_with fail
   refine HV.out.mono ?_
   rintro e w1 ⟨rfl, hb⟩
   have HB := Hq (HC.out _ hb).1
   go_wp2
   go_ret
   refine ⟨_, rfl, ?_, HB.out⟩
   rw [HR.out]
   simp
  ·
   have hib : ((vm : Int) == 0) = false := by simpa using hi
   have HI := Hq hi
   clear hi
   go_enter Tryz.func190, Tryz.ntmps190
   go_wp2_with fail
   rw [← hW]
   replace hW := Hq hW
   go_wp2
   go_ret
   refine ⟨_, rfl, ?_, HBW.out⟩
   rw [HR.out]
   have := HI.out
   simp [this]
 ·
  have hib : ((im : Int) == (km : Int) + 1) = false := by rw [beq_eq_false_iff_ne]; omega
  have hib2 : (im == km + 1) = false := by simpa using hm
  have HI := Hq hm
  clear hm
  go_enter Tryz.func190, Tryz.ntmps190
  go_wp2_with fail
  rw [← hW]
  replace hW := Hq hW
  go_wp2
  go_ret
  refine ⟨_, rfl, ?_, HBW.out⟩
  rw [HR.out]
  have := HI.out
  simp [this]
set_option maxHeartbeats 1600000 in
theorem rise_any {w : World} {n : Nd} (h : n.Ok w) (hk : n.ks.length ≤ 100000) :
  Calls Tryz.prog 188 #[.slice n.kq n.ks.length n.kc] w (TellsB (Rise n.s.ks) w) := by
 have hk1 := h.k1
 have hk2 := h.k2
 have HL := Hq h.kl
 have HOK := Hq h.ko
 obtain ⟨ks, hks⟩ : ∃ ks, ks = n.ks := ⟨_, rfl⟩
 rw [Nd.s_ks, ← hks]
 rw [← hks] at hk hk1 HL HOK
 obtain ⟨m, hm⟩ : ∃ m, m = ks.length := ⟨_, rfl⟩
 have HM := Hq hm
 rw [← hm] at hk hk1 ⊢
 generalize n.kq = q at *
 generalize n.kc = c at *
 clear h hks hm
 go_enter Tryz.func188, Tryz.ntmps188
 go_wp2
 go_loopw [7] (fun i wr => ∃ j : Nat, i = .int .i64 (j : Int) ∧ j ≤ m ∧ wr = w ∧ (∀ i k, i < j → (ks.map Kb.l)[i]? = some k → k.length ≤ 72 ∧ ∀ k', 0 < i → (ks.map Kb.l)[i - 1]? = some k' → Lib.compareBytes k' k < 0)) (fun i _ => m - (intOf i).toNat)
 case atStart => exact ⟨0, rfl, by omega, rfl, fun i k hi => absurd hi (by omega)⟩
 case round =>
  obtain ⟨j, rfl, hj, hw, hall⟩ := hrel
  subst hw
  have HA := Hq hall
  clear hall
  by_cases hlt : j < m
  ·
   obtain ⟨x, hx⟩ : ∃ x, ks[j]? = some x := ⟨_, List.getElem?_eq_getElem (by have := HM.out; omega)⟩
   have hm2 := List.mem_of_getElem? hx
   obtain ⟨b, o, rfl, hblt, hkc⟩ := HL.out.at hx
   have hx0 := HOK.out x hm2
   have hx1 := hx0.h1
   have hx2 := hx0.h2
   have HX := Hq hx
   have HKX := Hq hx0
   obtain ⟨xl, hxl⟩ : ∃ y, y = x.l.length := ⟨_, rfl⟩
   have HXL := Hq hxl
   rw [← hxl] at hkc hx1
   clear hx hm2 hx0 hxl
   by_cases h72 : 72 < xl
   ·
    go_wp2
    go_ret
    refine ⟨false, rfl, ?_, Below.refl _ _⟩
    refine ⟨fun h => (by cases h), fun hr => ?_⟩
    have := (hr j x.l (by rw [List.getElem?_map, HX.out]; rfl)).1
    have := HXL.out
    omega
   ·
    rcases Nat.eq_zero_or_pos j with hj0 | hj0
    ·
     subst hj0
     rw [show ((0 : Nat) : Int) = 0 from rfl]
     rw [Nat.add_zero] at hkc
     go_wp2
     go_roundw
     case rel =>
      refine ⟨1, by go_num, by omega, trivial, fun i k hi hk => ?_⟩
      obtain rfl : i = 0 := by omega
      rw [List.getElem?_map, HX.out] at hk
      cases hk
      exact ⟨by have := HXL.out; omega, fun _ h0 => absurd h0 (by omega)⟩
     case measure => simp [intOf]; omega
    ·
     obtain ⟨i, hi⟩ : ∃ i, i + 1 = j := ⟨j - 1, by omega⟩
     obtain ⟨y, hy⟩ : ∃ y, ks[i]? = some y := ⟨_, List.getElem?_eq_getElem (by have := HM.out; omega)⟩
     obtain ⟨b', o', hbe, hblt', hkc'⟩ := HL.out.at hy
     cases hbe
     have hy0 := HOK.out y (List.mem_of_getElem? hy)
     have HCM := Hq (bytesCompare_any (w := wr) hy0.bs HKX.out.bs y.l.length y.c xl x.c rfl HXL.out hy0.z HKX.out.z)
     have HY := Hq hy
     have hcast : (j : Int) - 1 = (i : Int) := by omega
     have hil : (i : Int) < m := by omega
     have hil2 : i < m := by omega
     have HI := Hq hi
     have hy1 := hy0.h1
     have hy2 := hy0.h2
     clear hy hy0 hi
     go_wp2_with fail
     refine HCM.out.mono ?_
     rintro e w1 ⟨rfl, rfl⟩
     obtain ⟨cb, hcb⟩ : ∃ z, z = Lib.compareBytes y.l x.l := ⟨_, rfl⟩
     rw [← hcb]
     have HCB := Hq hcb
     clear hcb HCM
     by_cases hcs : 0 ≤ cb
     ·
      go_wp2
      go_ret
      refine ⟨false, rfl, ?_, Below.refl _ _⟩
      refine ⟨fun h => (by cases h), fun hr => ?_⟩
      have h1 := (hr j x.l (by rw [List.getElem?_map, HX.out]; rfl)).2 y.l hj0 (by rw [List.getElem?_map, show j - 1 = i by have := HI.out; omega, HY.out]; rfl)
      have := HCB.out
      omega
     ·
      go_wp2
      go_roundw
      case rel =>
       refine ⟨j + 1, by go_num, by omega, trivial, fun i' k hi' hk => ?_⟩
       rcases Nat.lt_or_ge i' j with h | h
       ·
        exact HA.out i' k h hk
       ·
        obtain rfl : i' = j := by omega
        rw [List.getElem?_map, HX.out] at hk
        cases hk
        refine ⟨by have := HXL.out; omega, fun k' _ hk' => ?_⟩
        rw [List.getElem?_map, show i' - 1 = i by have := HI.out; omega, HY.out] at hk'
        cases hk'
        have := HCB.out
        omega
      case measure => simp [intOf]; omega
  ·
   go_wp2
   go_ret
   refine ⟨true, rfl, ⟨fun _ i k hk => HA.out i k ?_ hk, fun _ => rfl⟩, Below.refl _ _⟩
   have := (List.getElem?_eq_some_iff.1 hk).1
   rw [List.length_map] at this
   have := HM.out
   omega
set_option maxHeartbeats 1600000 in
theorem ndRight_any {w : World} {n : Nd} (h : n.Ok w) (hc : n.s.count ≤ 100000) :
  Calls Tryz.prog 168 #[n.cell] w (TellsB n.s.Right w) := by
 obtain ⟨f1, _⟩ := Nd.few hc
 obtain ⟨W, hW, hbw, hws, hcc⟩ := nd_box w n
 have HC := Hq hcc
 have HBW := Hq hbw
 have HBS : Hid (∀ w', Below W.heap.size W w' → Below w.heap.size w w') := Hq fun w' hb => (hcc w' hb).1
 have HRI := Hq (rise_any (h.below hbw) f1)
 have HLR := Hq (fun w' hb => leafRight_any (w := w') ((h.below hbw).below hb))
 have HBR := Hq (fun w' hb => branchRight_any (w := w') ((h.below hbw).below hb) f1)
 have HSZ := Hq (fun w' hb => size_any (w := w') ((h.below hbw).below hb) hc)
 have hsz2 : n.s.size ≤ 600003 := Nat.le_trans n.s.size_le (by omega)
 have HP : Hid (n.s.Right ↔ n.ks.length ≤ 250 ∧ Rise n.s.ks ∧ (n.leaf = true → n.s.LeafRight) ∧ (n.leaf = false → n.s.BranchRight) ∧ n.s.size ≤ 493) := Hq
  ⟨fun r => ⟨by have := r.many; rwa [Nd.s_ks, List.length_map] at this, r.rise, r.leaf, r.branch, r.size⟩, fun ⟨r1, r2, r3, r4, r5⟩ => ⟨by rwa [Nd.s_ks, List.length_map], r2, r3, r4, r5⟩⟩
 have k1 := h.k1
 have k2 := h.k2
 unfold Nd.cell at HLR HBR HSZ ⊢
 generalize n.s.Right = P at *
 generalize Rise n.s.ks = PR at *
 generalize n.s.LeafRight = PL at *
 generalize n.s.BranchRight = PB at *
 generalize n.s.size = sz at *
 generalize n.ks.length = km at *
 generalize n.leaf = lf at *
 clear h hbw hcc hc
 obtain ⟨_, c0, c1, c2, c3⟩ := HC.out W (Below.refl _ _)
 by_cases hm : 250 < km
 ·
  have HI := Hq hm
  go_enter Tryz.func168, Tryz.ntmps168
  go_wp2_with fail
  rw [← hW]
  replace hW := Hq hW
  go_wp2
  go_ret
  refine ⟨_, rfl, ?_, HBW.out⟩
  refine ⟨fun h => (by cases h), fun h => ?_⟩
  have := (HP.out.1 h).1
  have := HI.out
  omega
 ·
  have HI := Hq hm
  go_enter Tryz.func168, Tryz.ntmps168
  go_wp2_with fail
  rw [← hW]
  replace hW := Hq hW
  go_wp2_with fail
  refine HRI.out.mono ?_
  rintro e w1 ⟨b1, rfl, hb1, hb⟩
  clear c0 c1 c2 c3
  obtain ⟨_, c0, c1, c2, c3⟩ := HC.out _ hb
  have HB := Hq hb
  have HB1 := Hq hb1
  clear hb hb1
  cases b1
  ·
   go_wp2
   go_ret
   refine ⟨_, rfl, ?_, HBS.out _ HB.out⟩
   refine ⟨fun h => (by cases h), fun h => ?_⟩
   have := HB1.out.2 (HP.out.1 h).2.1
   cases this
  ·
   cases lf
   ·
    go_wp2_with fail
    with_reducible refine (HBR.out _ HB.out).mono ?_
    rintro e w2 ⟨b2, rfl, hb2, hb⟩
    clear c0 c1 c2 c3
    have HBB := Hq (HB.out.trans (hb.mono HB.out.size))
    obtain ⟨_, c0, c1, c2, c3⟩ := HC.out _ HBB.out
    have HB2 := Hq hb2
    clear hb hb2
    cases b2
    ·
     go_wp2
     go_ret
     refine ⟨_, rfl, ?_, HBS.out _ HBB.out⟩
     refine ⟨fun h => (by cases h), fun h => ?_⟩
     have := HB2.out.2 ((HP.out.1 h).2.2.2.1 (by trivial))
     cases this
    ·
     go_wp2_with fail
     with_reducible refine (HSZ.out _ HBB.out).mono ?_
     rintro e w3 ⟨rfl, hb⟩
     have HBC := Hq (HBB.out.trans (hb.mono HBB.out.size))
     clear hb c0 c1 c2 c3
     go_wp2
     go_ret
     refine ⟨_, rfl, ?_, HBS.out _ HBC.out⟩
     rw [HP.out]
     have h1 := HB1.out.1 (by trivial)
     have h2 := HB2.out.1 (by trivial)
     have h3 := HI.out
     simp only [decide_eq_true_eq]
     exact ⟨fun h => ⟨by omega, h1, fun h => (by cases h), fun _ => h2, by omega⟩, fun h => (by have := h.2.2.2.2; omega)⟩
   ·
    go_wp2_with fail
    with_reducible refine (HLR.out _ HB.out).mono ?_
    rintro e w2 ⟨b2, rfl, hb2, hb⟩
    clear c0 c1 c2 c3
    have HBB := Hq (HB.out.trans (hb.mono HB.out.size))
    obtain ⟨_, c0, c1, c2, c3⟩ := HC.out _ HBB.out
    have HB2 := Hq hb2
    clear hb hb2
    cases b2
    ·
     go_wp2
     go_ret
     refine ⟨_, rfl, ?_, HBS.out _ HBB.out⟩
     refine ⟨fun h => (by cases h), fun h => ?_⟩
     have := HB2.out.2 ((HP.out.1 h).2.2.1 (by trivial))
     cases this
    ·
     go_wp2_with fail
     with_reducible refine (HSZ.out _ HBB.out).mono ?_
     rintro e w3 ⟨rfl, hb⟩
     have HBC := Hq (HBB.out.trans (hb.mono HBB.out.size))
     clear hb c0 c1 c2 c3
     go_wp2
     go_ret
     refine ⟨_, rfl, ?_, HBS.out _ HBC.out⟩
     rw [HP.out]
     have h1 := HB1.out.1 (by trivial)
     have h2 := HB2.out.1 (by trivial)
     have h3 := HI.out
     simp only [decide_eq_true_eq]
     exact ⟨fun h => ⟨by omega, h1, fun _ => h2, fun h => (by cases h), by omega⟩, fun h => (by have := h.2.2.2.2; omega)⟩
end Go.Proofs.YtbbgdbnjmonbgaaGreatDoor

set_option linter.unusedVariables false
set_option linter.unusedSimpArgs false
set_option maxRecDepth 100000
namespace Go.Proofs.YtbbgdbnjmonbgaaGreatDoor
open Go.RowKit
structure Pc where
 no : Int
 deep : Int
 s : Sp
def Pc.v (p : Pc) : Value := .agg #[.int .i64 p.no, .int .i64 p.deep, .slice p.s.f.q p.s.f.l.length p.s.f.c, .slice p.s.t.q p.s.t.l.length p.s.t.c, .bool p.s.e]
def Pc.cells (p : Pc) : Array Value := #[.int .i64 p.no, .int .i64 p.deep, .slice p.s.f.q p.s.f.l.length p.s.f.c, .slice p.s.t.q p.s.t.l.length p.s.t.c, .bool p.s.e]
structure PBox (w : World) (b : Nat) (p : Pc) : Prop where
 c0 : w.cell? ⟨b, 0, none⟩ = some (.int .i64 p.no)
 c1 : w.cell? ⟨b, 1, none⟩ = some (.int .i64 p.deep)
 c2 : w.cell? ⟨b, 2, none⟩ = some (.slice p.s.f.q p.s.f.l.length p.s.f.c)
 c3 : w.cell? ⟨b, 3, none⟩ = some (.slice p.s.t.q p.s.t.l.length p.s.t.c)
 c4 : w.cell? ⟨b, 4, none⟩ = some (.bool p.s.e)
theorem PBox.of {w : World} {b : Nat} {p : Pc} {t : TypeId} {f : Nat × Nat} (h : w.heap[b]? = some (.cells p.cells t f)) : PBox w b p :=
 ⟨(jC h 0).trans rfl, (jC h 1).trans rfl, (jC h 2).trans rfl, (jC h 3).trans rfl, (jC h 4).trans rfl⟩
theorem PBox.low {w w' : World} {b B : Nat} {p : Pc} (h : PBox w b p) (hb : Below B w w') (hB : b < B) : PBox w' b p := by
 obtain ⟨c0, c1, c2, c3, c4⟩ := h
 exact ⟨by rw [hb.cell hB]; exact c0, by rw [hb.cell hB]; exact c1, by rw [hb.cell hB]; exact c2, by rw [hb.cell hB]; exact c3, by rw [hb.cell hB]; exact c4⟩
theorem NBox.of {w : World} {b : Nat} {n : Nd} {t : TypeId} {f : Nat × Nat} (h : w.heap[b]? = some (.cells n.cells t f)) : NBox w b n :=
 ⟨(jC h 0).trans rfl, (jC h 1).trans rfl, (jC h 2).trans rfl, (jC h 3).trans rfl⟩
def takesS (s : SpS) (n : NdS) : Bool := if n.ks.length = 0 then !n.leaf || !s.all else s.has (n.ks.headD []) && s.has (n.ks.getLastD [])
set_option maxHeartbeats 3200000 in
theorem takes_any {w : World} {p : Pc} (hp : p.s.Ok w) {n : Nd} (hn : n.Ok w) (hl : n.ks.length ≤ 1000000) :
  Calls Tryz.prog 122 #[p.v, n.cell] w fun e w' => e = .returned (.bool (takesS p.s.s n.s)) ∧ Below w.heap.size w w' := by
 obtain ⟨W, hW⟩ : ∃ W, W = (w.alloc (.cells p.cells 129)).alloc (.cells n.cells 106) := ⟨_, rfl⟩
 have e1 : (w.alloc (.cells p.cells 129)).heap.size = w.heap.size + 1 := by simp
 have hbw : Below w.heap.size w W := by rw [hW]; exact sbox2 _ _ _
 have hp0 : W.heap[w.heap.size]? = some (.cells p.cells 129 (0, 0)) := by
  rw [hW, Below.heap_alloc _ _ _ (by omega)]
  exact heap_alloc_new w _
 have hn0 : W.heap[w.heap.size + 1]? = some (.cells n.cells 106 (0, 0)) := by
  have := heap_alloc_new (w.alloc (.cells p.cells 129)) (.cells n.cells 106)
  rw [e1] at this
  rw [hW]
  exact this
 have hws : W.heap.size = w.heap.size + 2 := by rw [hW]; simp
 have HP : Hid (∀ w', Below W.heap.size W w' → PBox w' w.heap.size p) := Hq fun w' hb => (PBox.of hp0).low hb (by omega)
 have HN : Hid (∀ w', Below W.heap.size W w' → NBox w' (w.heap.size + 1) n) := Hq fun w' hb => (NBox.of hn0).low hb (by omega)
 have HBW := Hq hbw
 have HBX : Hid (∀ w', Below W.heap.size W w' → Below w.heap.size w w') := Hq fun w' hb => hbw.trans (hb.mono hbw.size)
 have HSP := Hq (hp.below hbw)
 have HND := Hq (hn.below hbw)
 have k1 := hn.k1
 have k2 := hn.k2
 unfold Pc.v Nd.cell
 unfold Pc.cells Nd.cells at hW
 by_cases h0 : n.ks.length = 0
 ·
  have HR : Hid (takesS p.s.s n.s = (!n.leaf || !p.s.s.all)) := Hq (by unfold takesS; rw [if_pos (by show (n.ks.map Kb.l).length = 0; rw [List.length_map]; exact h0)]; rfl)
  have HA := Hq (spAll (w := W) (s := p.s))
  unfold Sp.v at HA
  generalize takesS p.s.s n.s = R at *
  generalize p.s.s.all = A at *
  obtain ⟨y0, y1, y2, y3, y4⟩ := PBox.of hp0
  obtain ⟨x0, x1, x2, x3⟩ := NBox.of hn0
  have HZ := Hq h0
  generalize n.ks.length = kn at *
  subst h0
  generalize n.vs.length = vn at *
  generalize n.is.length = inn at *
  generalize p.s.f.l.length = fn at *
  generalize p.s.t.l.length = tn at *
  cases hl2 : n.leaf
  ·
   rw [hl2] at HR x0 hW
   clear hp hn hl hp0 hn0
   go_enter Tryz.func122, Tryz.ntmps122
   go_wp2
   rw [← hW]
   go_ret
   exact ⟨by rw [HR.out]; rfl, HBW.out⟩
  ·
   rw [hl2] at HR x0 hW
   clear hp hn hl hp0 hn0
   go_enter Tryz.func122, Tryz.ntmps122
   go_wp2_with fail
   rw [← hW]
   clear hW
   refine HA.out.mono ?_; rintro e w1 ⟨rfl, hb1⟩
   have HB1 := Hq (HBX.out _ hb1)
   clear hb1
   go_wp2
   go_ret
   exact ⟨by rw [HR.out]; cases A <;> rfl, HB1.out⟩
 ·
  obtain ⟨k0, hk0⟩ : ∃ k, n.ks[0]? = some k := ⟨_, List.getElem?_eq_getElem (by omega)⟩
  obtain ⟨kl, hkl⟩ : ∃ k, n.ks[n.ks.length - 1]? = some k := ⟨_, List.getElem?_eq_getElem (by omega)⟩
  have HR : Hid (takesS p.s.s n.s = (p.s.s.has k0.l && p.s.s.has kl.l)) := Hq (by
   unfold takesS
   have e1 : n.s.ks = n.ks.map Kb.l := rfl
   rw [if_neg (by rw [e1, List.length_map]; exact h0), e1]
   have e2 : (n.ks.map Kb.l).headD [] = k0.l := by rw [List.headD_eq_head?_getD, List.head?_eq_getElem?, List.getElem?_map, hk0]; rfl
   have e3 : (n.ks.map Kb.l).getLastD [] = kl.l := by rw [List.getLastD_eq_getLast?, List.getLast?_eq_getElem?, List.length_map, List.getElem?_map, hkl]; rfl
   rw [e2, e3])
  obtain ⟨b, o, hq, hbl, hc0⟩ := hn.kl.at hk0
  obtain ⟨b', o', hq', _, hcl⟩ := hn.kl.at hkl
  rw [hq] at hq'
  cases hq'
  have HO0 := Hq (hn.ko k0 (List.mem_of_getElem? hk0))
  have HOL := Hq (hn.ko kl (List.mem_of_getElem? hkl))
  have HH0 := Hq fun w' (hb : Below W.heap.size W w') => spHas (HSP.out.below hb) ((HO0.out.below HBW.out).below hb)
  have HDR : Hid (Below W.heap.size W W.drew) := Hq (Below.refl _ _).drew
  have HHL := Hq fun w' (hb : Below W.heap.size W w') => spHas (HSP.out.below hb) ((HOL.out.below HBW.out).below hb)
  unfold Sp.v at HH0 HHL
  have HKC : Hid (∀ w', Below W.heap.size W w' → w'.cell? ⟨b, o, none⟩ = some (.slice k0.q k0.l.length k0.c) ∧ w'.cell? ⟨b, o + (n.ks.length - 1), none⟩ = some (.slice kl.q kl.l.length kl.c)) := Hq fun w' hb => by
   have hbb := HBX.out _ hb
   exact ⟨by rw [hbb.cell (p := ⟨b, o, none⟩) hbl]; exact hc0, by rw [hbb.cell (p := ⟨b, o + (n.ks.length - 1), none⟩) hbl]; exact hcl⟩
  generalize takesS p.s.s n.s = R at *
  generalize p.s.s.has k0.l = A0 at *
  generalize p.s.s.has kl.l = AL at *
  generalize k0.l.length = z0 at *
  generalize kl.l.length = zl at *
  obtain ⟨m, hm⟩ : ∃ m, n.ks.length = m + 1 := ⟨n.ks.length - 1, by omega⟩
  rw [hm] at HKC hW h0 k1 hl ⊢
  simp only [Nat.add_sub_cancel] at HKC
  have hN : ∀ w', NBox w' (w.heap.size + 1) n → w'.cell? ⟨w.heap.size + 1, 1, none⟩ = some (.slice (some ⟨b, o, none⟩) (m + 1) n.kc) := fun w' h => by rw [← hq, ← hm]; exact h.c1
  have HN1 := Hq fun w' hb => hN w' (HN.out w' hb)
  clear hN
  rw [hq] at hW ⊢
  generalize n.kc = kc at *
  generalize n.vs.length = vn at *
  generalize n.is.length = inn at *
  have HFT : Hid (∀ w', Below W.heap.size W w' → w'.cell? ⟨w.heap.size, 2, none⟩ = some (.slice p.s.f.q p.s.f.l.length p.s.f.c) ∧ w'.cell? ⟨w.heap.size, 3, none⟩ = some (.slice p.s.t.q p.s.t.l.length p.s.t.c) ∧ w'.cell? ⟨w.heap.size, 4, none⟩ = some (.bool p.s.e)) := Hq fun w' hb => ⟨(HP.out w' hb).c2, (HP.out w' hb).c3, (HP.out w' hb).c4⟩
  generalize p.s.f.l.length = fn at *
  generalize p.s.t.l.length = tn at *
  have b1 : ((m : Int) + 1 == 0) = false := by rw [beq_eq_false_iff_ne]; omega
  have b2 : (0 : Int) < (m : Int) + 1 := by omega
  have b3 : IntKind.i64.wrap ((m : Int) + 1 - 1) = (m : Int) := by rw [IntKind.wrap_i64]; omega
  have b3' : IntKind.i64.wrap (m : Int) = (m : Int) := by rw [IntKind.wrap_i64]; omega
  have b4 : (m : Int) < (m : Int) + 1 := by omega
  have b5 : (0 : Int) ≤ (m : Int) := by omega
  have HCC : Hid (∀ w', Below W.heap.size W w' → w'.cell? ⟨w.heap.size, 2, none⟩ = some (.slice p.s.f.q fn p.s.f.c) ∧ w'.cell? ⟨w.heap.size, 3, none⟩ = some (.slice p.s.t.q tn p.s.t.c) ∧ w'.cell? ⟨w.heap.size, 4, none⟩ = some (.bool p.s.e) ∧ w'.cell? ⟨w.heap.size + 1, 1, none⟩ = some (.slice (some ⟨b, o, none⟩) (m + 1) kc) ∧ w'.cell? ⟨b, o, none⟩ = some (.slice k0.q z0 k0.c) ∧ w'.cell? ⟨b, o + m, none⟩ = some (.slice kl.q zl kl.c)) := Hq fun w' hb => ⟨(HFT.out w' hb).1, (HFT.out w' hb).2.1, (HFT.out w' hb).2.2, HN1.out w' hb, HKC.out w' hb⟩
  clear HFT HKC HN1 HP HN hp hn hl hp0 hn0 hc0 hcl hk0 hkl hm hq h0 hbl
  cases A0
  ·
   go_enter Tryz.func122, Tryz.ntmps122
   go_wp2_with fail
   rw [← hW]
   clear hW
   refine wp_region_held_drew (S := fun w' => w'.cell? ⟨w.heap.size, 2, none⟩ = some (.slice p.s.f.q fn p.s.f.c) ∧ w'.cell? ⟨w.heap.size, 3, none⟩ = some (.slice p.s.t.q tn p.s.t.c) ∧ w'.cell? ⟨w.heap.size, 4, none⟩ = some (.bool p.s.e) ∧ w'.cell? ⟨w.heap.size + 1, 1, none⟩ = some (.slice (some ⟨b, o, none⟩) (m + 1) kc) ∧ w'.cell? ⟨b, o, none⟩ = some (.slice k0.q z0 k0.c) ∧ w'.cell? ⟨b, o + m, none⟩ = some (.slice kl.q zl kl.c)) (by kernel_rfl) (HCC.out _ HDR.out) (fun hHeld => ?_)
   refine wpAnyH_take (i := 0) (v := ?_) rfl (by kernel_rfl) (by kernel_rfl) (by kernel_rfl) (fun _ _ _ h => h) (Or.inl ⟨by rfl, ?_⟩) (by assumption) ?_
   rotate_left
   ·
    intro w hSw; (try dsimp only at hSw); go_simp; try with_reducible rfl
   simp only [Act.put, List.getElem_toArray, List.getElem_cons_zero, List.setIfInBounds_toArray, List.set_cons_zero, List.set_cons_succ]
   refine wpAnyH_take (i := 1) (v := ?_) rfl (by kernel_rfl) (by kernel_rfl) (by kernel_rfl) (fun _ _ _ h => h) (Or.inl ⟨by rfl, ?_⟩) (by assumption) ?_
   rotate_left
   ·
    intro w hSw; (try dsimp only at hSw); go_simp; try with_reducible rfl
   simp only [Act.put, zA, zB, zC, zD, zE, zF]
   refine wpAnyH_take (i := 2) (v := ?_) rfl (by kernel_rfl) (by kernel_rfl) (by kernel_rfl) (fun _ _ _ h => h) (Or.inl ⟨by rfl, ?_⟩) (by assumption) ?_
   rotate_left
   ·
    intro w hSw; (try dsimp only at hSw); go_simp; try with_reducible rfl
   simp only [Act.put, zA, zB, zC, zD, zE, zF]
   refine wpAnyH_take (i := 3) (v := ?_) rfl (by kernel_rfl) (by kernel_rfl) (by kernel_rfl) (fun _ _ _ h => h) (Or.inl ⟨by rfl, ?_⟩) (by assumption) ?_
   rotate_left
   ·
    intro w hSw; (try dsimp only at hSw); go_simp; try with_reducible rfl
   simp only [Act.put, zA, zB, zC, zD, zE, zF]
   refine wpAnyH_take (i := 4) (v := ?_) rfl (by kernel_rfl) (by kernel_rfl) (by kernel_rfl) (fun _ _ _ h => h) (Or.inl ⟨by rfl, ?_⟩) (by assumption) ?_
   rotate_left
   ·
    intro w hSw; (try dsimp only at hSw); go_simp; try with_reducible rfl
   simp only [Act.put, zA, zB, zC, zD, zE, zF]
   refine wpAnyH_take (i := 5) (v := ?_) rfl (by kernel_rfl) (by kernel_rfl) (by kernel_rfl) (fun _ _ _ h => h) (Or.inl ⟨by rfl, ?_⟩) (by assumption) ?_
   rotate_left
   ·
    intro w hSw; (try dsimp only at hSw); go_simp; try with_reducible rfl
   simp only [Act.put, zA, zB, zC, zD, zE, zF]
   refine wpAnyH_ready (rs := [6]) (by kernel_rfl) (by simp) ?_
   refine AllReadyH.cons rfl (fun K hK => ?_) AllReadyH.nil
   go_simp
   (with_reducible refine (HH0.out _ HDR.out).mono ?_); rintro e w1 ⟨rfl, hb1⟩
   have HB1 := Hq (HDR.out.trans (hb1.mono HDR.out.size))
   clear hb1
   dsimp only
   refine hK.out _ _ (HCC.out _ HB1.out) (fun hHeld => ?_)
   clear hK K
   try simp only [Act.put, zA, zB, zC, zD, zE, zF]
   refine wpAnyH_take (i := 7) (v := ?_) rfl (by kernel_rfl) (by kernel_rfl) (by kernel_rfl) (fun _ _ _ h => h) (Or.inl ⟨by rfl, ?_⟩) (by assumption) ?_
   rotate_left
   ·
    intro w hSw; (try dsimp only at hSw); go_simp; try with_reducible rfl
   simp only [Act.put, zA, zB, zC, zD, zE, zF]
   refine wpAnyH_take (i := 8) (v := undef) rfl (by kernel_rfl) (by kernel_rfl) (by kernel_rfl) (fun _ _ _ h => h) (Or.inr ⟨by rfl, rfl⟩) (by assumption) ?_
   simp only [Act.put, zA, zB, zC, zD, zE, zF]
   refine wpAnyH_take (i := 9) (v := undef) rfl (by kernel_rfl) (by kernel_rfl) (by kernel_rfl) (fun _ _ _ h => h) (Or.inr ⟨by rfl, rfl⟩) (by assumption) ?_
   simp only [Act.put, zA, zB, zC, zD, zE, zF]
   refine wpAnyH_take (i := 10) (v := undef) rfl (by kernel_rfl) (by kernel_rfl) (by kernel_rfl) (fun _ _ _ h => h) (Or.inr ⟨by rfl, rfl⟩) (by assumption) ?_
   simp only [Act.put, zA, zB, zC, zD, zE, zF]
   refine wpAnyH_take (i := 11) (v := undef) rfl (by kernel_rfl) (by kernel_rfl) (by kernel_rfl) (fun _ _ _ h => h) (Or.inr ⟨by rfl, rfl⟩) (by assumption) ?_
   simp only [Act.put, zA, zB, zC, zD, zE, zF]
   refine wpAnyH_take (i := 12) (v := undef) rfl (by kernel_rfl) (by kernel_rfl) (by kernel_rfl) (fun _ _ _ h => h) (Or.inr ⟨by rfl, rfl⟩) (by assumption) ?_
   simp only [Act.put, zA, zB, zC, zD, zE, zF]
   refine wpAnyH_take (i := 13) (v := undef) rfl (by kernel_rfl) (by kernel_rfl) (by kernel_rfl) (fun _ _ _ h => h) (Or.inr ⟨by rfl, rfl⟩) (by assumption) ?_
   simp only [Act.put, zA, zB, zC, zD, zE, zF]
   refine wpAnyH_take (i := 14) (v := undef) rfl (by kernel_rfl) (by kernel_rfl) (by kernel_rfl) (fun _ _ _ h => h) (Or.inr ⟨by rfl, rfl⟩) (by assumption) ?_
   simp only [Act.put, zA, zB, zC, zD, zE, zF]
   refine wpAnyH_take (i := 15) (v := undef) rfl (by kernel_rfl) (by kernel_rfl) (by kernel_rfl) (fun _ _ _ h => h) (Or.inr ⟨by rfl, rfl⟩) (by assumption) ?_
   simp only [Act.put, zA, zB, zC, zD, zE, zF]
   refine wpAnyH_take (i := 16) (v := undef) rfl (by kernel_rfl) (by kernel_rfl) (by kernel_rfl) (fun _ _ _ h => h) (Or.inr ⟨by rfl, rfl⟩) (by assumption) ?_
   simp only [Act.put, zA, zB, zC, zD, zE, zF]
   refine wpAnyH_take (i := 17) (v := undef) rfl (by kernel_rfl) (by kernel_rfl) (by kernel_rfl) (fun _ _ _ h => h) (Or.inr ⟨by rfl, rfl⟩) (by assumption) ?_
   simp only [Act.put, zA, zB, zC, zD, zE, zF]
   refine wpAnyH_take (i := 18) (v := undef) rfl (by kernel_rfl) (by kernel_rfl) (by kernel_rfl) (fun _ _ _ h => h) (Or.inr ⟨by rfl, rfl⟩) (by assumption) ?_
   simp only [Act.put, zA, zB, zC, zD, zE, zF]
   refine wpAnyH_take (i := 19) (v := ?_) rfl (by kernel_rfl) (by kernel_rfl) (by kernel_rfl) (fun _ _ _ h => h) (Or.inl ⟨by rfl, ?_⟩) (by assumption) ?_
   rotate_left
   ·
    intro w hSw; (try dsimp only at hSw); go_simp; try with_reducible rfl
   simp only [Act.put, zA, zB, zC, zD, zE, zF]
   refine wpAnyH_take (i := 20) (v := ?_) rfl (by kernel_rfl) (by kernel_rfl) (by kernel_rfl) (fun _ _ _ h => h) (Or.inl ⟨by rfl, ?_⟩) (by assumption) ?_
   rotate_left
   ·
    intro w hSw; (try dsimp only at hSw); go_simp; try with_reducible rfl
   simp only [Act.put, zA, zB, zC, zD, zE, zF]
   refine wpAnyH_done (by kernel_rfl) ?_ _
   go_wp2
   go_ret
   exact ⟨by rw [HR.out]; rfl, HBX.out _ HB1.out⟩
  ·
   go_enter Tryz.func122, Tryz.ntmps122
   go_wp2_with fail
   rw [← hW]
   clear hW
   go_region_held3 (fun w' => w'.cell? ⟨w.heap.size, 2, none⟩ = some (.slice p.s.f.q fn p.s.f.c) ∧ w'.cell? ⟨w.heap.size, 3, none⟩ = some (.slice p.s.t.q tn p.s.t.c) ∧ w'.cell? ⟨w.heap.size, 4, none⟩ = some (.bool p.s.e) ∧ w'.cell? ⟨w.heap.size + 1, 1, none⟩ = some (.slice (some ⟨b, o, none⟩) (m + 1) kc) ∧ w'.cell? ⟨b, o, none⟩ = some (.slice k0.q z0 k0.c) ∧ w'.cell? ⟨b, o + m, none⟩ = some (.slice kl.q zl kl.c))
    (first | exact HCC.out _ (Below.refl _ _) | exact HCC.out _ HB1.out | exact HCC.out _ HB2.out | exact HCC.out _ HDR.out)
    (first
     | (go_at_call 149; (with_reducible refine (HHL.out _ HB1.out).mono ?_); rintro e w2 ⟨rfl, hb2⟩; have HB2 := Hq (HB1.out.trans (hb2.mono HB1.out.size)); clear hb2)
     | (go_at_call 149; (with_reducible refine (HH0.out _ HDR.out).mono ?_); rintro e w1 ⟨rfl, hb1⟩; have HB1 := Hq (HDR.out.trans (hb1.mono HDR.out.size)); clear hb1)
     | fail)
   all_goals
    go_wp2
    go_ret
    exact ⟨by rw [HR.out]; rfl, HBX.out _ HB2.out⟩
end Go.Proofs.YtbbgdbnjmonbgaaGreatDoor

set_option linter.unusedVariables false
set_option linter.unusedSimpArgs false
set_option maxRecDepth 100000
namespace Go.Proofs.YtbbgdbnjmonbgaaGreatDoor
open Go.RowKit
theorem set3 {w : World} {R : Nat} {x y z a b c : Value} {t : TypeId} (h : w.heap[R]? = some (.cells #[x, y, z] t (0, 0))) :
  (((w.setCell ⟨R, 0, none⟩ a).setCell ⟨R, 1, none⟩ b).setCell ⟨R, 2, none⟩ c).heap[R]? = some (.cells #[a, b, c] t (0, 0)) := by
 simp [World.setCell, Array.getElem?_modify, h]
theorem below3 {B R : Nat} {w0 w : World} (h : Below B w0 w) (hR : B ≤ R) (a b c : Value) : Below B w0 (((w.setCell ⟨R, 0, none⟩ a).setCell ⟨R, 1, none⟩ b).setCell ⟨R, 2, none⟩ c) :=
 ((h.setCell (p := ⟨R, 0, none⟩) hR a).setCell (p := ⟨R, 1, none⟩) hR b).setCell (p := ⟨R, 2, none⟩) hR c
theorem gb_on {w w1 w2 : World} {g : Nat} (h : w.grownBy w1 (some g)) (hb : Below w.heap.size w1 w2) : w.grownBy w2 (some g) :=
 ⟨hb.os.trans h.os, hb.tape.trans h.tape, hb.output.trans h.output, Nat.le_trans h.size hb.size, fun k hk hne => (hb.block k hk).trans (h.block k hk hne)⟩
def VBox0 (w : World) (R : Nat) : Prop := w.heap[R]? = some (.cells #[.slice none 0 0, .int .i64 0, .int .i64 0] 108 (0, 0))
theorem VBox0.kept {w w' : World} {R g : Nat} (h : VBox0 w R) (hg : w.grownBy w' (some g)) (hne : R ≠ g) : VBox0 w' R :=
 (hg.block R (aL h) (fun e => hne (Option.some.inj e))).trans h
theorem VBox0.cells {w : World} {R : Nat} (h : VBox0 w R) : (w.cell? ⟨R, 0, none⟩ = some (.slice none 0 0) ∧ w.frozen? ⟨R, 0, none⟩ = false) ∧ (w.cell? ⟨R, 1, none⟩ = some (.int .i64 0) ∧ w.frozen? ⟨R, 1, none⟩ = false) ∧ (w.cell? ⟨R, 2, none⟩ = some (.int .i64 0) ∧ w.frozen? ⟨R, 2, none⟩ = false) :=
 ⟨⟨jC h 0, jU h 0⟩, ⟨jC h 1, jU h 1⟩, ⟨jC h 2, jU h 2⟩⟩
set_option maxHeartbeats 1600000 in
theorem rval_any {w : World} {g : Nat} {l : List UInt8} (h : Rs w g l) (hl : l.length ≤ 100000) :
  Calls Tryz.prog 187 #[.pointer (some ⟨g, 0, none⟩)] w (ValPost w g (valR l).1 (valR l).2) := by
 have hlt := h.lt
 obtain ⟨W, hW⟩ : ∃ W, W = w.alloc (.cells #[.slice none 0 0, .int .i64 0, .int .i64 0] 108) := ⟨_, rfl⟩
 have HB0 : Hid (VBox0 W w.heap.size) := Hq (by rw [hW]; exact heap_alloc_new w _)
 have HBW : Hid (Below w.heap.size w W) := Hq (by rw [hW]; exact (Below.refl _ _).alloc (Nat.le_refl _) _)
 have HG0 : Hid (w.grownBy W (some g)) := Hq (gb_below HBW.out)
 have HNE : Hid (w.heap.size ≠ g) := Hq (by omega)
 have HR0 := Hq (h.below HBW.out)
 have HN := Hq (number_any HR0.out hl 1 (by omega))
 have h255 := leN_one l
 unfold valR
 have hd : (l.drop 1).length ≤ 100000 := by rw [List.length_drop]; omega
 generalize leN (l.take 1) = k at *
 generalize l.drop 1 = d at *
 have HSZ : Hid (∀ {w'}, w.grownBy w' (some g) → w.heap.size ≤ w'.heap.size) := Hq fun h => h.size
 clear h hl
 by_cases hk : k = 255
 ·
  subst hk
  rw [if_pos rfl]
  dsimp only
  have hd2 : (d.drop 2).length ≤ 100000 := by rw [List.length_drop]; omega
  have h1 := leN_two d
  have h2 := leN_two (d.drop 2)
  have HN1 := Hq (fun (w : World) (h : Rs w g d) => number_any h hd 2 (by omega))
  have HN2 := Hq (fun (w : World) (h : Rs w g (d.drop 2)) => number_any h hd2 2 (by omega))
  generalize d.drop 2 = d2 at *
  generalize d2.drop 2 = d4 at *
  generalize leN (d.take 2) = n1 at *
  generalize leN (d2.take 2) = n2 at *
  clear hd hd2
  go_enter Tryz.func187, Tryz.ntmps187
  go_wp2_with fail
  rw [← hW]
  replace hW := Hq hW
  refine HN.out.mono ?_
  rintro e w1 ⟨rfl, hr, hg⟩
  have HB1 := Hq (HB0.out.kept hg HNE.out)
  have HG1 := Hq (gb_trans HG0.out hg)
  have HR1 := Hq hr
  clear hr hg HN
  go_wp2_with fail
  refine (HN1.out _ HR1.out).mono ?_
  rintro e w2 ⟨rfl, hr, hg⟩
  have HB2 := Hq (HB1.out.kept hg HNE.out)
  have HG2 := Hq (gb_trans HG1.out hg)
  have HR2 := Hq hr
  clear hr hg HN1
  go_wp2_with fail
  refine (HN2.out _ HR2.out).mono ?_
  rintro e w3 ⟨rfl, hr, hg⟩
  have HB3 := Hq (HB2.out.kept hg HNE.out)
  have HG3 := Hq (gb_trans HG2.out hg)
  have HR3 := Hq hr
  clear hr hg HN2
  obtain ⟨⟨a0, u0⟩, ⟨a1, u1⟩, a2, u2⟩ := HB3.out.cells
  have hlt3 : w.heap.size < w3.heap.size := (aL HB3.out)
  go_wp2
  refine bodyPost_ret (results_cell_row rfl _ _ w.heap.size 108 _ (0, 0) _ (by kernel_rfl) (set3 HB3.out) Tryz.underlying108 rfl (by kernel_rfl)) rfl ?_
  have hb3 := below3 (Below.refl w.heap.size w3) (Nat.le_refl _) (.slice none 0 0) (.int .i64 (n1 : Int)) (.int .i64 (n2 : Int))
  exact ⟨⟨none, 0, [], n1, n2⟩, rfl, rfl, ⟨Bs.nil _ _, rfl, fun _ => rfl, fun a h => (by cases h), Nat.zero_le _, ⟨by show (0 : Int) ≤ (n1 : Int); omega, by show (n1 : Int) ≤ _; omega⟩, ⟨by show (0 : Int) ≤ (n2 : Int); omega, by show (n2 : Int) ≤ _; omega⟩⟩, HR3.out.low (hb3.mono (by omega)), gb_on HG3.out hb3⟩
 ·
  rw [if_neg hk]
  dsimp only
  have HP := Hq (fun (w : World) (h : Rs w g d) => part_any h hd k (by omega))
  have HTL : Hid ((d.take k).length ≤ 100000) := Hq (by rw [List.length_take]; omega)
  generalize d.take k = T at *
  generalize d.drop k = D at *
  have hkb : ((k : Int) != 255) = true := by rw [bne_iff_ne]; omega
  clear hk hd
  go_enter Tryz.func187, Tryz.ntmps187
  go_wp2_with fail
  rw [← hW]
  replace hW := Hq hW
  refine HN.out.mono ?_
  rintro e w1 ⟨rfl, hr, hg⟩
  have HB1 := Hq (HB0.out.kept hg HNE.out)
  have HG1 := Hq (gb_trans HG0.out hg)
  have HR1 := Hq hr
  clear hr hg HN
  go_wp2_with fail
  refine (HP.out _ HR1.out).mono ?_
  rintro e w2 ⟨p, m, rfl, hm, hbs, hz, hlo, hr, hg⟩
  have HB2 := Hq (HB1.out.kept hg HNE.out)
  have HG2 := Hq (gb_trans HG1.out hg)
  have HR2 := Hq hr
  have HX : Hid (VIn w2 g ⟨p, m, T, 0, 0⟩ ∧ m = T.length) := Hq ⟨⟨hbs, hm, hz, hlo, HTL.out, ⟨by show (0 : Int) ≤ 0; omega, by show (0 : Int) ≤ _; omega⟩, ⟨by show (0 : Int) ≤ 0; omega, by show (0 : Int) ≤ _; omega⟩⟩, hm⟩
  clear hr hg HP hm hbs hz hlo
  obtain ⟨⟨a0, u0⟩, ⟨a1, u1⟩, a2, u2⟩ := HB2.out.cells
  have hlt3 : w.heap.size < w2.heap.size := (aL HB2.out)
  go_wp2
  refine bodyPost_ret (results_cell_row rfl _ _ w.heap.size 108 _ (0, 0) _ (by kernel_rfl) (set3 HB2.out) Tryz.underlying108 rfl (by kernel_rfl)) rfl ?_
  have hb3 := below3 (Below.refl w.heap.size w2) (Nat.le_refl _) (.slice p m m) (.int .i64 0) (.int .i64 0)
  exact ⟨⟨p, m, T, 0, 0⟩, by unfold Vl.cell; dsimp only; rw [← HX.out.2], rfl, HX.out.1.low (hb3.mono (by omega)), HR2.out.low (hb3.mono (by omega)), gb_on HG2.out hb3⟩
end Go.Proofs.YtbbgdbnjmonbgaaGreatDoor

