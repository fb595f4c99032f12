/-
  The reference's Same at two nodes that are the same: its contract.
-/
import Derived.Test.YtigmibmebockhaaNdRight
set_option linter.unusedVariables false
set_option linter.unusedSimpArgs false
set_option maxRecDepth 100000
namespace Go.Proofs.Ytigmibmebockhaa
open Go.RowKit

/-- Two boxes of nodes behind go_enter. -/
theorem nd_boxes (w : World) (n m : Nd) (t : TypeId) : ∃ W, W = (w.alloc (.cells #[.bool n.leaf, .slice n.kq n.ks.length n.kc, .slice n.vq n.vs.length n.vc, .slice n.iq n.is.length n.ic] t)).alloc (.cells #[.bool m.leaf, .slice m.kq m.ks.length m.kc, .slice m.vq m.vs.length m.vc, .slice m.iq m.is.length m.ic] t) ∧ Below w.heap.size w W ∧ W.heap.size = w.heap.size + 2 ∧
    (W.cell? ⟨w.heap.size, 0, none⟩ = some (.bool n.leaf) ∧ W.cell? ⟨w.heap.size, 1, none⟩ = some (.slice n.kq n.ks.length n.kc) ∧ W.cell? ⟨w.heap.size, 2, none⟩ = some (.slice n.vq n.vs.length n.vc) ∧ W.cell? ⟨w.heap.size, 3, none⟩ = some (.slice n.iq n.is.length n.ic)) ∧
    (W.cell? ⟨w.heap.size + 1, 0, none⟩ = some (.bool m.leaf) ∧ W.cell? ⟨w.heap.size + 1, 1, none⟩ = some (.slice m.kq m.ks.length m.kc) ∧ W.cell? ⟨w.heap.size + 1, 2, none⟩ = some (.slice m.vq m.vs.length m.vc) ∧ W.cell? ⟨w.heap.size + 1, 3, none⟩ = some (.slice m.iq m.is.length m.ic)) := by
  obtain ⟨h1, h2, h3, h4⟩ := boxes w #[.bool n.leaf, .slice n.kq n.ks.length n.kc, .slice n.vq n.vs.length n.vc, .slice n.iq n.is.length n.ic] #[.bool m.leaf, .slice m.kq m.ks.length m.kc, .slice m.vq m.vs.length m.vc, .slice m.iq m.is.length m.ic] t t
  exact ⟨_, rfl, h3, h4, ⟨Joins.cell_of_block h1 0, Joins.cell_of_block h1 1, Joins.cell_of_block h1 2, Joins.cell_of_block h1 3⟩, Joins.cell_of_block h2 0, Joins.cell_of_block h2 1, Joins.cell_of_block h2 2, Joins.cell_of_block h2 3⟩

set_option maxHeartbeats 3200000 in
theorem same_any {w : World} {n m : Nd} (h : n.Ok w) (h' : m.Ok w) (hs : n.s = m.s) (hc : n.s.count ≤ 100000) :
    Calls Try.prog 11 #[n.cell, m.cell] w fun e w' => e = .returned (.bool true) ∧ Below w.heap.size w w' := by
  obtain ⟨f1, f2, f3, _⟩ := Nd.few hc
  obtain ⟨W, hW, hbw, hws, ha, hb⟩ := nd_boxes w n m 33
  have HBW := Lib.hid hbw
  have HWS := Lib.hid hws
  have HN := Lib.hid (h.below hbw)
  have HM := Lib.hid (h'.below hbw)
  have el : n.leaf = m.leaf := congrArg NdS.leaf hs
  have ek : n.ks.map Kb.l = m.ks.map Kb.l := congrArg NdS.ks hs
  have ev : n.vs.map Vl.s = m.vs.map Vl.s := congrArg NdS.vs hs
  have ei : n.is = m.is := congrArg NdS.is hs
  have lk : n.ks.length = m.ks.length := by have := congrArg List.length ek; simpa using this
  have lv : n.vs.length = m.vs.length := by have := congrArg List.length ev; simpa using this
  have li : n.is.length = m.is.length := by rw [ei]
  have HEK := Lib.hid ek
  have HEV := Lib.hid ev
  have HEI := Lib.hid ei
  have k1 := h.k1
  have k2 := h.k2
  have v1 := h.v1
  have v2 := h.v2
  have i1 := h.i1
  have i2 := h.i2
  have k1' := h'.k1
  have k2' := h'.k2
  have v1' := h'.v1
  have v2' := h'.v2
  have i1' := h'.i1
  have i2' := h'.i2
  unfold Nd.cell
  rw [← el, ← lk, ← lv, ← li] at hb hW
  rw [← el, ← lk, ← lv, ← li]
  rw [← lk] at k1'
  rw [← lv] at v1'
  rw [← li] at i1'
  have HLK := Lib.hid lk
  have HLV := Lib.hid lv
  have HLI := Lib.hid li
  obtain ⟨km, hkm⟩ : ∃ x, x = n.ks.length := ⟨_, rfl⟩
  have HKM := Lib.hid hkm
  obtain ⟨vm, hvm⟩ : ∃ x, x = n.vs.length := ⟨_, rfl⟩
  have HVM := Lib.hid hvm
  obtain ⟨im, him⟩ : ∃ x, x = n.is.length := ⟨_, rfl⟩
  have HIM := Lib.hid him
  rw [← hkm, ← hvm, ← him] at ha hb hW
  rw [← hkm, ← hvm, ← him]
  rw [← hkm] at k1 k1' f1
  rw [← hvm] at v1 v1' f2
  rw [← him] at i1 i1' f3
  clear h h' hs hc el ek ev ei lk lv li hkm hvm him hbw
  have HC : Hid (∀ w', Below W.heap.size W w' → (w'.cell? ⟨w.heap.size, 0, none⟩ = some (.bool n.leaf) ∧ w'.cell? ⟨w.heap.size, 1, none⟩ = some (.slice n.kq km n.kc) ∧ w'.cell? ⟨w.heap.size, 2, none⟩ = some (.slice n.vq vm n.vc) ∧ w'.cell? ⟨w.heap.size, 3, none⟩ = some (.slice n.iq im n.ic)) ∧
      (w'.cell? ⟨w.heap.size + 1, 0, none⟩ = some (.bool n.leaf) ∧ w'.cell? ⟨w.heap.size + 1, 1, none⟩ = some (.slice m.kq km m.kc) ∧ w'.cell? ⟨w.heap.size + 1, 2, none⟩ = some (.slice m.vq vm m.vc) ∧ w'.cell? ⟨w.heap.size + 1, 3, none⟩ = some (.slice m.iq im m.ic))) := Lib.hid fun w' hb' => by
    have e0 : ∀ i, w'.cell? ⟨w.heap.size, i, none⟩ = W.cell? ⟨w.heap.size, i, none⟩ := fun i => hb'.cell (p := ⟨w.heap.size, i, none⟩) (show w.heap.size < W.heap.size by omega)
    have e1 : ∀ i, w'.cell? ⟨w.heap.size + 1, i, none⟩ = W.cell? ⟨w.heap.size + 1, i, none⟩ := fun i => hb'.cell (p := ⟨w.heap.size + 1, i, none⟩) (show w.heap.size + 1 < W.heap.size by omega)
    rw [e0, e0, e0, e0, e1, e1, e1, e1]
    exact ⟨ha, hb⟩
  obtain ⟨a0, a1, a2, a3⟩ := ha
  obtain ⟨b0, b1, b2, b3⟩ := hb
  have HBS : Hid (∀ w', Below W.heap.size W w' → Below w.heap.size w w') := Lib.hid fun w' h => HBW.out.trans (h.mono (by omega))
  clear hws
  go_enter Try.func11, Try.ntmps11
  go_wp2_with fail
  rw [← hW]
  replace hW := Lib.hid hW
  go_wp2
  go_loopw [5] (fun i wr => ∃ j : Nat, i = .int .i64 (j : Int) ∧ j ≤ km ∧ Below W.heap.size W wr) (fun i _ => km - (intOf i).toNat)
  case atStart => exact ⟨0, rfl, by omega, Below.refl _ _⟩
  case round =>
    clear a0 a1 a2 a3 b0 b1 b2 b3
    obtain ⟨j, rfl, hj, hb⟩ := hrel
    have HB := Lib.hid hb
    obtain ⟨⟨a0, a1, a2, a3⟩, b0, b1, b2, b3⟩ := HC.out _ hb
    clear hb
    by_cases hlt : j < km
    · obtain ⟨x, hx⟩ : ∃ x, n.ks[j]? = some x := ⟨_, List.getElem?_eq_getElem (by have := HKM.out; omega)⟩
      obtain ⟨y, hy⟩ : ∃ x, m.ks[j]? = some x := ⟨_, List.getElem?_eq_getElem (by have := HKM.out; have := HLK.out; omega)⟩
      have hxy : x.l = y.l := by
        have h1 := congrArg (fun l => l[j]?) HEK.out
        simp only [List.getElem?_map, hx, hy, Option.map_some, Option.some.injEq] at h1
        exact h1
      have HNr := Lib.hid (HN.out.below HB.out)
      have HMr := Lib.hid (HM.out.below HB.out)
      obtain ⟨bx, ox, hqx, hbx, hcx⟩ := HNr.out.kl.at hx
      obtain ⟨by', oy, hqy, hby, hcy⟩ := HMr.out.kl.at hy
      have hxo := HNr.out.ko x (List.mem_of_getElem? hx)
      have hyo := HMr.out.ko y (List.mem_of_getElem? hy)
      obtain ⟨xl, hxl⟩ : ∃ z, z = x.l.length := ⟨_, rfl⟩
      have h1 : ∀ k, (convert 22 9 (.slice x.q xl x.c)).run Try.prog (wr.drewN k) = .ok (.string ⟨x.l.toArray⟩) (wr.drewN k) := fun k => str_of (hxo.bs.drewN k) hxl
      have h2 : ∀ k, (convert 22 9 (.slice y.q xl y.c)).run Try.prog (wr.drewN k) = .ok (.string ⟨x.l.toArray⟩) (wr.drewN k) := fun k => by rw [hxy]; exact str_of (hyo.bs.drewN k) (by rw [hxl, hxy])
      rw [← hxl] at hcx
      rw [show y.l.length = xl by rw [hxl, hxy]] at hcy
      rw [hqx] at a1
      rw [hqy] at b1
      have hji : (j : Int) < km := by omega
      have hj0 : (0 : Int) ≤ j := by omega
      clear hx hy hxo hyo hxl hxy hqx hqy
      go_wp2_with fail
      go_quiet (fail)
      go_wp2
      go_roundw
      case rel => exact ⟨j + 1, by go_num, by omega, belowN HB.out _⟩
      case measure => simp [intOf]; omega
    · go_wp2
      go_loopw [6] (fun i wr => ∃ j : Nat, i = .int .i64 (j : Int) ∧ j ≤ vm ∧ Below W.heap.size W wr) (fun i _ => vm - (intOf i).toNat)
      case atStart => exact ⟨0, rfl, by omega, HB.out⟩
      case round =>
        clear a0 a1 a2 a3 b0 b1 b2 b3
        obtain ⟨j, rfl, hj, hb⟩ := hrel
        replace HB := Lib.hid hb
        obtain ⟨⟨a0, a1, a2, a3⟩, b0, b1, b2, b3⟩ := HC.out _ hb
        clear hb
        by_cases hlt : j < vm
        · obtain ⟨x, hx⟩ : ∃ x, n.vs[j]? = some x := ⟨_, List.getElem?_eq_getElem (by have := HVM.out; omega)⟩
          obtain ⟨y, hy⟩ : ∃ x, m.vs[j]? = some x := ⟨_, List.getElem?_eq_getElem (by have := HVM.out; have := HLV.out; omega)⟩
          have hxy : x.s = y.s := by
            have h1 := congrArg (fun l => l[j]?) HEV.out
            simp only [List.getElem?_map, hx, hy, Option.map_some, Option.some.injEq] at h1
            exact h1
          have hxl' : x.l = y.l := congrArg VlS.l hxy
          have hxg : x.g = y.g := congrArg VlS.g hxy
          have hxp : x.p = y.p := congrArg VlS.p hxy
          have HNr := Lib.hid (HN.out.below HB.out)
          have HMr := Lib.hid (HM.out.below HB.out)
          obtain ⟨bx, ox, hqx, hbx, hcx0, hcx1, hcx2⟩ := HNr.out.vl.at hx
          obtain ⟨by', oy, hqy, hby, hcy0, hcy1, hcy2⟩ := HMr.out.vl.at hy
          have hxo := HNr.out.vo x (List.mem_of_getElem? hx)
          have hyo := HMr.out.vo y (List.mem_of_getElem? hy)
          obtain ⟨xl, hxl⟩ : ∃ z, z = x.l.length := ⟨_, rfl⟩
          have h1 : ∀ k, (convert 22 9 (.slice x.q xl x.c)).run Try.prog (wr.drewN k) = .ok (.string ⟨x.l.toArray⟩) (wr.drewN k) := fun k => str_of (hxo.bs.drewN k) hxl
          have h2 : ∀ k, (convert 22 9 (.slice y.q xl y.c)).run Try.prog (wr.drewN k) = .ok (.string ⟨x.l.toArray⟩) (wr.drewN k) := fun k => by rw [hxl']; exact str_of (hyo.bs.drewN k) (by rw [hxl, hxl'])
          rw [← hxl] at hcx0
          rw [show y.l.length = xl by rw [hxl, hxl']] at hcy0
          rw [← hxg] at hcy1
          rw [← hxp] at hcy2
          rw [hqx] at a2
          rw [hqy] at b2
          have hji : (j : Int) < vm := by omega
          have hj0 : (0 : Int) ≤ j := by omega
          clear hx hy hxo hyo hxl hxy hxl' hxg hxp hqx hqy
          go_wp2_with fail
          go_quiet (fail)
          go_wp2
          go_roundw
          case rel => exact ⟨j + 1, by go_num, by omega, belowN HB.out _⟩
          case measure => simp [intOf]; omega
        · go_wp2
          go_loopw [7] (fun i wr => ∃ j : Nat, i = .int .i64 (j : Int) ∧ j ≤ im ∧ Below W.heap.size W wr) (fun i _ => im - (intOf i).toNat)
          case atStart => exact ⟨0, rfl, by omega, HB.out⟩
          case round =>
            clear a0 a1 a2 a3 b0 b1 b2 b3
            obtain ⟨j, rfl, hj, hb⟩ := hrel
            replace HB := Lib.hid hb
            obtain ⟨⟨a0, a1, a2, a3⟩, b0, b1, b2, b3⟩ := HC.out _ hb
            clear hb
            by_cases hlt : j < im
            · obtain ⟨x, hx⟩ : ∃ x, n.is[j]? = some x := ⟨_, List.getElem?_eq_getElem (by have := HIM.out; omega)⟩
              have hy : m.is[j]? = some x := by rw [← HEI.out]; exact hx
              have HNr := Lib.hid (HN.out.below HB.out)
              have HMr := Lib.hid (HM.out.below HB.out)
              obtain ⟨bx, ox, hqx, hcx⟩ := HNr.out.il.at hx
              obtain ⟨by', oy, hqy, hcy⟩ := HMr.out.il.at hy
              have hbx := World.block_lt_of_cell? _ _ hcx
              have hby := World.block_lt_of_cell? _ _ hcy
              rw [hqx] at a3
              rw [hqy] at b3
              have hji : (j : Int) < im := by omega
              have hj0 : (0 : Int) ≤ j := by omega
              clear hx hy hqx hqy
              go_wp2_with fail
              go_quiet (fail)
              go_wp2
              go_roundw
              case rel => exact ⟨j + 1, by go_num, by omega, belowN HB.out _⟩
              case measure => simp [intOf]; omega
            · go_wp2
              go_ret
              exact ⟨rfl, HBS.out _ HB.out⟩

end Go.Proofs.Ytigmibmebockhaa
