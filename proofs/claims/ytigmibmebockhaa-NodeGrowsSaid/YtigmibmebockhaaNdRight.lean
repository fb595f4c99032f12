/-
  node.leafRight, branchRight, rise, Right: contracts.
-/
import Derived.Test.YtigmibmebockhaaNdPred
import Derived.Test.YtigmibmebockhaaCmpB
set_option linter.unusedVariables false
set_option maxRecDepth 100000
namespace Go.Proofs.Ytigmibmebockhaa
open Go.RowKit

theorem any_wrong {l : List Vl} : l.any wrongV = false ↔ ∀ v ∈ l.map Vl.s, v.Right := by
  rw [List.any_eq_false]
  constructor
  · intro h v hv
    obtain ⟨x, hx, rfl⟩ := List.mem_map.1 hv
    exact (wrongV_iff x).1 (by simpa using h x hx)
  · intro h x hx
    have := (wrongV_iff x).2 (h _ (List.mem_map_of_mem hx))
    simp [this]
theorem any_page {l : List Int} : l.any noPage = false ↔ ∀ i ∈ l, PageOk i := by
  rw [List.any_eq_false]
  constructor
  · intro h v hv
    exact (noPage_iff v).1 (by simpa using h v hv)
  · intro h x hx
    have := (noPage_iff x).2 (h _ hx)
    simp [this]

/-- It tells whether P. -/
def TellsB (P : Prop) (w : World) (e : Ending) (w' : World) : Prop := ∃ b : Bool, e = .returned (.bool b) ∧ (b = true ↔ P) ∧ Below w.heap.size w w'

/-- The box of a node behind go_enter, and what is told of it in later worlds. -/
theorem nd_box (w : World) (n : Nd) : ∃ W, W = w.alloc (.cells #[.bool n.leaf, .slice n.kq n.ks.length n.kc, .slice n.vq n.vs.length n.vc, .slice n.iq n.is.length n.ic] 27) ∧ Below w.heap.size w W ∧ W.heap.size = w.heap.size + 1 ∧
    (∀ w', Below W.heap.size W w' → Below w.heap.size w w' ∧ w'.cell? ⟨w.heap.size, 0, none⟩ = some (.bool n.leaf) ∧ w'.cell? ⟨w.heap.size, 1, none⟩ = some (.slice n.kq n.ks.length n.kc) ∧ w'.cell? ⟨w.heap.size, 2, none⟩ = some (.slice n.vq n.vs.length n.vc) ∧ w'.cell? ⟨w.heap.size, 3, none⟩ = some (.slice n.iq n.is.length n.ic)) := by
  refine ⟨_, rfl, (Below.refl _ _).alloc (Nat.le_refl _) _, by simp, fun w' hb => ?_⟩
  have h1 := (hb.block w.heap.size (by simp)).trans (heap_alloc_new w _)
  exact ⟨((Below.refl _ _).alloc (Nat.le_refl _) _).trans (hb.mono (by simp)), Joins.cell_of_block h1 0, Joins.cell_of_block h1 1, Joins.cell_of_block h1 2, Joins.cell_of_block h1 3⟩

set_option maxHeartbeats 1600000 in
theorem leafRight_any {w : World} {n : Nd} (h : n.Ok w) :
    Calls Try.prog 52 #[n.cell] w (TellsB n.s.LeafRight w) := by
  obtain ⟨W, hW, hbw, hws, hc⟩ := nd_box w n
  have HC := Lib.hid hc
  have HBW := Lib.hid hbw
  have HV := Lib.hid (containsV_any (w := W) (q := n.vq) (n := n.vs.length) (c := n.vc) (l := n.vs) rfl h.v1 h.v2 (h.vl.below hbw) (fun a ha => (h.vo a ha).below hbw))
  have HR : Hid (n.s.LeafRight ↔ n.vs.length = n.ks.length ∧ n.is.length = 0 ∧ n.vs.any wrongV = false) := Lib.hid (by
    rw [any_wrong]
    unfold NdS.LeafRight Nd.s
    dsimp only
    rw [List.length_map, List.length_map, List.length_eq_zero_iff])
  generalize n.s.LeafRight = P at *
  generalize n.vs.any wrongV = x at *
  have k1 := h.k1
  have k2 := h.k2
  have v1 := h.v1
  have v2 := h.v2
  have i1 := h.i1
  have i2 := h.i2
  unfold Nd.cell
  generalize n.ks.length = km at *
  generalize n.vs.length = vm at *
  generalize n.is.length = im at *
  clear h hbw hc
  obtain ⟨_, c0, c1, c2, c3⟩ := HC.out W (Below.refl _ _)
  by_cases hm : vm = km
  · subst hm
    by_cases hi : im = 0
    · subst hi
      go_enter Try.func52, Try.ntmps52
      go_wp2_with fail
      rw [← hW]
      replace hW := Lib.hid hW
      go_wp2_with fail
      refine HV.out.mono ?_
      rintro e w1 ⟨rfl, hb⟩
      have HB := Lib.hid (HC.out _ hb).1
      go_wp2
      go_ret
      refine ⟨_, rfl, ?_, HB.out⟩
      rw [HR.out]
      simp
    · have hib : ((im : Int) == 0) = false := by simpa using hi
      have HI := Lib.hid hi
      clear hi
      go_enter Try.func52, Try.ntmps52
      go_wp2_with fail
      rw [← hW]
      replace hW := Lib.hid hW
      go_wp2
      go_ret
      refine ⟨_, rfl, ?_, HBW.out⟩
      rw [HR.out]
      have := HI.out
      simp [this]
  · have hib : ((vm : Int) == (km : Int)) = false := by rw [beq_eq_false_iff_ne]; omega
    have hib2 : (vm == km) = false := by simpa using hm
    have HI := Lib.hid hm
    clear hm
    go_enter Try.func52, Try.ntmps52
    go_wp2_with fail
    rw [← hW]
    replace hW := Lib.hid hW
    go_wp2
    go_ret
    refine ⟨_, rfl, ?_, HBW.out⟩
    rw [HR.out]
    have := HI.out
    simp [this]

set_option maxHeartbeats 1600000 in
theorem branchRight_any {w : World} {n : Nd} (h : n.Ok w) (hk : n.ks.length ≤ 100000) :
    Calls Try.prog 53 #[n.cell] w (TellsB n.s.BranchRight w) := by
  obtain ⟨W, hW, hbw, hws, hc⟩ := nd_box w n
  have HC := Lib.hid hc
  have HBW := Lib.hid hbw
  have HV := Lib.hid (containsI_any (w := W) (q := n.iq) (n := n.is.length) (c := n.ic) (l := n.is) rfl h.i1 h.i2 (h.il.below hbw))
  have HR : Hid (n.s.BranchRight ↔ n.is.length = n.ks.length + 1 ∧ n.vs.length = 0 ∧ n.is.any noPage = false) := Lib.hid (by
    rw [any_page]
    unfold NdS.BranchRight Nd.s
    dsimp only
    rw [List.length_map, List.map_eq_nil_iff, List.length_eq_zero_iff])
  generalize n.s.BranchRight = P at *
  generalize n.is.any noPage = x at *
  have k1 := h.k1
  have k2 := h.k2
  have v1 := h.v1
  have v2 := h.v2
  have i1 := h.i1
  have i2 := h.i2
  unfold Nd.cell
  generalize n.ks.length = km at *
  generalize n.vs.length = vm at *
  generalize n.is.length = im at *
  clear h hbw hc
  obtain ⟨_, c0, c1, c2, c3⟩ := HC.out W (Below.refl _ _)
  by_cases hm : im = km + 1
  · subst hm
    by_cases hi : vm = 0
    · subst hi
      go_enter Try.func53, Try.ntmps53
      go_wp2_with fail
      rw [← hW]
      replace hW := Lib.hid hW
      go_wp2_with fail
      refine HV.out.mono ?_
      rintro e w1 ⟨rfl, hb⟩
      have HB := Lib.hid (HC.out _ hb).1
      go_wp2
      go_ret
      refine ⟨_, rfl, ?_, HB.out⟩
      rw [HR.out]
      simp
    · have hib : ((vm : Int) == 0) = false := by simpa using hi
      have HI := Lib.hid hi
      clear hi
      go_enter Try.func53, Try.ntmps53
      go_wp2_with fail
      rw [← hW]
      replace hW := Lib.hid hW
      go_wp2
      go_ret
      refine ⟨_, rfl, ?_, HBW.out⟩
      rw [HR.out]
      have := HI.out
      simp [this]
  · have hib : ((im : Int) == (km : Int) + 1) = false := by rw [beq_eq_false_iff_ne]; omega
    have hib2 : (im == km + 1) = false := by simpa using hm
    have HI := Lib.hid hm
    clear hm
    go_enter Try.func53, Try.ntmps53
    go_wp2_with fail
    rw [← hW]
    replace hW := Lib.hid hW
    go_wp2
    go_ret
    refine ⟨_, rfl, ?_, HBW.out⟩
    rw [HR.out]
    have := HI.out
    simp [this]

set_option maxHeartbeats 1600000 in
theorem rise_any {w : World} {n : Nd} (h : n.Ok w) (hk : n.ks.length ≤ 100000) :
    Calls Try.prog 51 #[.slice n.kq n.ks.length n.kc] w (TellsB (Rise n.s.ks) w) := by
  have hk1 := h.k1
  have hk2 := h.k2
  have HL := Lib.hid h.kl
  have HOK := Lib.hid h.ko
  obtain ⟨ks, hks⟩ : ∃ ks, ks = n.ks := ⟨_, rfl⟩
  rw [Nd.s_ks, ← hks]
  rw [← hks] at hk hk1 HL HOK
  obtain ⟨m, hm⟩ : ∃ m, m = ks.length := ⟨_, rfl⟩
  have HM := Lib.hid hm
  rw [← hm] at hk hk1 ⊢
  generalize n.kq = q at *
  generalize n.kc = c at *
  clear h hks hm
  go_enter Try.func51, Try.ntmps51
  go_wp2
  go_loopw [7] (fun i wr => ∃ j : Nat, i = .int .i64 (j : Int) ∧ j ≤ m ∧ wr = w ∧ (∀ i k, i < j → (ks.map Kb.l)[i]? = some k → k.length ≤ 72 ∧ ∀ k', 0 < i → (ks.map Kb.l)[i - 1]? = some k' → Lib.compareBytes k' k < 0)) (fun i _ => m - (intOf i).toNat)
  case atStart => exact ⟨0, rfl, by omega, rfl, fun i k hi => absurd hi (by omega)⟩
  case round =>
    obtain ⟨j, rfl, hj, hw, hall⟩ := hrel
    subst hw
    have HA := Lib.hid hall
    clear hall
    by_cases hlt : j < m
    · obtain ⟨x, hx⟩ : ∃ x, ks[j]? = some x := ⟨_, List.getElem?_eq_getElem (by have := HM.out; omega)⟩
      have hm2 := List.mem_of_getElem? hx
      obtain ⟨b, o, rfl, hblt, hkc⟩ := HL.out.at hx
      have hx0 := HOK.out x hm2
      have hx1 := hx0.h1
      have hx2 := hx0.h2
      have HX := Lib.hid hx
      have HKX := Lib.hid hx0
      obtain ⟨xl, hxl⟩ : ∃ y, y = x.l.length := ⟨_, rfl⟩
      have HXL := Lib.hid hxl
      rw [← hxl] at hkc hx1
      clear hx hm2 hx0 hxl
      by_cases h72 : 72 < xl
      · go_wp2
        go_ret
        refine ⟨false, rfl, ?_, Below.refl _ _⟩
        refine ⟨fun h => (by cases h), fun hr => ?_⟩
        have := (hr j x.l (by rw [List.getElem?_map, HX.out]; rfl)).1
        have := HXL.out
        omega
      · rcases Nat.eq_zero_or_pos j with hj0 | hj0
        · subst hj0
          rw [show ((0 : Nat) : Int) = 0 from rfl]
          rw [Nat.add_zero] at hkc
          go_wp2
          go_roundw
          case rel =>
            refine ⟨1, by go_num, by omega, trivial, fun i k hi hk => ?_⟩
            obtain rfl : i = 0 := by omega
            rw [List.getElem?_map, HX.out] at hk
            cases hk
            exact ⟨by have := HXL.out; omega, fun _ h0 => absurd h0 (by omega)⟩
          case measure => simp [intOf]; omega
        · obtain ⟨i, hi⟩ : ∃ i, i + 1 = j := ⟨j - 1, by omega⟩
          obtain ⟨y, hy⟩ : ∃ y, ks[i]? = some y := ⟨_, List.getElem?_eq_getElem (by have := HM.out; omega)⟩
          obtain ⟨b', o', hbe, hblt', hkc'⟩ := HL.out.at hy
          cases hbe
          have hy0 := HOK.out y (List.mem_of_getElem? hy)
          have HCM := Lib.hid (bytesCompare_any (w := wr) hy0.bs HKX.out.bs y.l.length y.c xl x.c rfl HXL.out hy0.z HKX.out.z)
          have HY := Lib.hid hy
          have hcast : (j : Int) - 1 = (i : Int) := by omega
          have hil : (i : Int) < m := by omega
          have hil2 : i < m := by omega
          have HI := Lib.hid hi
          have hy1 := hy0.h1
          have hy2 := hy0.h2
          clear hy hy0 hi
          go_wp2_with fail
          refine HCM.out.mono ?_
          rintro e w1 ⟨rfl, rfl⟩
          obtain ⟨cb, hcb⟩ : ∃ z, z = Lib.compareBytes y.l x.l := ⟨_, rfl⟩
          rw [← hcb]
          have HCB := Lib.hid hcb
          clear hcb HCM
          by_cases hcs : 0 ≤ cb
          · go_wp2
            go_ret
            refine ⟨false, rfl, ?_, Below.refl _ _⟩
            refine ⟨fun h => (by cases h), fun hr => ?_⟩
            have h1 := (hr j x.l (by rw [List.getElem?_map, HX.out]; rfl)).2 y.l hj0 (by rw [List.getElem?_map, show j - 1 = i by have := HI.out; omega, HY.out]; rfl)
            have := HCB.out
            omega
          · go_wp2
            go_roundw
            case rel =>
              refine ⟨j + 1, by go_num, by omega, trivial, fun i' k hi' hk => ?_⟩
              rcases Nat.lt_or_ge i' j with h | h
              · exact HA.out i' k h hk
              · obtain rfl : i' = j := by omega
                rw [List.getElem?_map, HX.out] at hk
                cases hk
                refine ⟨by have := HXL.out; omega, fun k' _ hk' => ?_⟩
                rw [List.getElem?_map, show i' - 1 = i by have := HI.out; omega, HY.out] at hk'
                cases hk'
                have := HCB.out
                omega
            case measure => simp [intOf]; omega
    · go_wp2
      go_ret
      refine ⟨true, rfl, ⟨fun _ i k hk => HA.out i k ?_ hk, fun _ => rfl⟩, Below.refl _ _⟩
      have := (List.getElem?_eq_some_iff.1 hk).1
      rw [List.length_map] at this
      have := HM.out
      omega

set_option maxHeartbeats 1600000 in
theorem right_any {w : World} {n : Nd} (h : n.Ok w) (hc : n.s.count ≤ 100000) :
    Calls Try.prog 40 #[n.cell] w (TellsB n.s.Right w) := by
  obtain ⟨f1, _⟩ := Nd.few hc
  obtain ⟨W, hW, hbw, hws, hcc⟩ := nd_box w n
  have HC := Lib.hid hcc
  have HBW := Lib.hid hbw
  have HBS : Hid (∀ w', Below W.heap.size W w' → Below w.heap.size w w') := Lib.hid fun w' hb => (hcc w' hb).1
  have HRI := Lib.hid (rise_any (h.below hbw) f1)
  have HLR := Lib.hid (fun w' hb => leafRight_any (w := w') ((h.below hbw).below hb))
  have HBR := Lib.hid (fun w' hb => branchRight_any (w := w') ((h.below hbw).below hb) f1)
  have HSZ := Lib.hid (fun w' hb => size_any (w := w') ((h.below hbw).below hb) hc)
  have hsz2 : n.s.size ≤ 600003 := Nat.le_trans n.s.size_le (by omega)
  have HP : Hid (n.s.Right ↔ n.ks.length ≤ 250 ∧ Rise n.s.ks ∧ (n.leaf = true → n.s.LeafRight) ∧ (n.leaf = false → n.s.BranchRight) ∧ n.s.size ≤ 493) := Lib.hid
    ⟨fun r => ⟨by have := r.many; rwa [Nd.s_ks, List.length_map] at this, r.rise, r.leaf, r.branch, r.size⟩, fun ⟨r1, r2, r3, r4, r5⟩ => ⟨by rwa [Nd.s_ks, List.length_map], r2, r3, r4, r5⟩⟩
  have k1 := h.k1
  have k2 := h.k2
  unfold Nd.cell at HLR HBR HSZ ⊢
  generalize n.s.Right = P at *
  generalize Rise n.s.ks = PR at *
  generalize n.s.LeafRight = PL at *
  generalize n.s.BranchRight = PB at *
  generalize n.s.size = sz at *
  generalize n.ks.length = km at *
  generalize n.leaf = lf at *
  clear h hbw hcc hc
  obtain ⟨_, c0, c1, c2, c3⟩ := HC.out W (Below.refl _ _)
  by_cases hm : 250 < km
  · have HI := Lib.hid hm
    go_enter Try.func40, Try.ntmps40
    go_wp2_with fail
    rw [← hW]
    replace hW := Lib.hid hW
    go_wp2
    go_ret
    refine ⟨_, rfl, ?_, HBW.out⟩
    refine ⟨fun h => (by cases h), fun h => ?_⟩
    have := (HP.out.1 h).1
    have := HI.out
    omega
  · have HI := Lib.hid hm
    go_enter Try.func40, Try.ntmps40
    go_wp2_with fail
    rw [← hW]
    replace hW := Lib.hid hW
    go_wp2_with fail
    refine HRI.out.mono ?_
    rintro e w1 ⟨b1, rfl, hb1, hb⟩
    clear c0 c1 c2 c3
    obtain ⟨_, c0, c1, c2, c3⟩ := HC.out _ hb
    have HB := Lib.hid hb
    have HB1 := Lib.hid hb1
    clear hb hb1
    cases b1
    · go_wp2
      go_ret
      refine ⟨_, rfl, ?_, HBS.out _ HB.out⟩
      refine ⟨fun h => (by cases h), fun h => ?_⟩
      have := HB1.out.2 (HP.out.1 h).2.1
      cases this
    · cases lf
      · go_wp2_with fail
        with_reducible refine (HBR.out _ HB.out).mono ?_
        rintro e w2 ⟨b2, rfl, hb2, hb⟩
        clear c0 c1 c2 c3
        have HBB := Lib.hid (HB.out.trans (hb.mono HB.out.size))
        obtain ⟨_, c0, c1, c2, c3⟩ := HC.out _ HBB.out
        have HB2 := Lib.hid hb2
        clear hb hb2
        cases b2
        · go_wp2
          go_ret
          refine ⟨_, rfl, ?_, HBS.out _ HBB.out⟩
          refine ⟨fun h => (by cases h), fun h => ?_⟩
          have := HB2.out.2 ((HP.out.1 h).2.2.2.1 (by trivial))
          cases this
        · go_wp2_with fail
          with_reducible refine (HSZ.out _ HBB.out).mono ?_
          rintro e w3 ⟨rfl, hb⟩
          have HBC := Lib.hid (HBB.out.trans (hb.mono HBB.out.size))
          clear hb c0 c1 c2 c3
          go_wp2
          go_ret
          refine ⟨_, rfl, ?_, HBS.out _ HBC.out⟩
          rw [HP.out]
          have h1 := HB1.out.1 (by trivial)
          have h2 := HB2.out.1 (by trivial)
          have h3 := HI.out
          simp only [decide_eq_true_eq]
          exact ⟨fun h => ⟨by omega, h1, fun h => (by cases h), fun _ => h2, by omega⟩, fun h => (by have := h.2.2.2.2; omega)⟩
      · go_wp2_with fail
        with_reducible refine (HLR.out _ HB.out).mono ?_
        rintro e w2 ⟨b2, rfl, hb2, hb⟩
        clear c0 c1 c2 c3
        have HBB := Lib.hid (HB.out.trans (hb.mono HB.out.size))
        obtain ⟨_, c0, c1, c2, c3⟩ := HC.out _ HBB.out
        have HB2 := Lib.hid hb2
        clear hb hb2
        cases b2
        · go_wp2
          go_ret
          refine ⟨_, rfl, ?_, HBS.out _ HBB.out⟩
          refine ⟨fun h => (by cases h), fun h => ?_⟩
          have := HB2.out.2 ((HP.out.1 h).2.2.1 (by trivial))
          cases this
        · go_wp2_with fail
          with_reducible refine (HSZ.out _ HBB.out).mono ?_
          rintro e w3 ⟨rfl, hb⟩
          have HBC := Lib.hid (HBB.out.trans (hb.mono HBB.out.size))
          clear hb c0 c1 c2 c3
          go_wp2
          go_ret
          refine ⟨_, rfl, ?_, HBS.out _ HBC.out⟩
          rw [HP.out]
          have h1 := HB1.out.1 (by trivial)
          have h2 := HB2.out.1 (by trivial)
          have h3 := HI.out
          simp only [decide_eq_true_eq]
          exact ⟨fun h => ⟨by omega, h1, fun _ => h2, fun h => (by cases h), by omega⟩, fun h => (by have := h.2.2.2.2; omega)⟩

end Go.Proofs.Ytigmibmebockhaa
