/-
  The reference's two: its contract.
-/
import Derived.Test.YtigmibmebockhaaNdRefR
import Derived.Test.YtigmibmebockhaaNdPut
import Derived.Deep.CutBlock
import Derived.Deep.CutRange
set_option linter.unusedVariables false
set_option maxRecDepth 100000
namespace Go.Proofs.Ytigmibmebockhaa
open Go.RowKit

set_option maxHeartbeats 800000 in
theorem rtwo_any {w : World} {B g m c : Nat} {l : List UInt8} (hown : Own w B (.slice (some ⟨g, 0, none⟩) m c) l) (hm : m = l.length) (hl : m ≤ 1000000) (hB : B ≤ w.heap.size) (n : Nat) (hn : n < 65536) :
    Calls Try.prog 47 #[.slice (some ⟨g, 0, none⟩) m c, .int .i64 (n : Int)] w (AppAt w B g (l ++ two n)) := by
  have HO := Lib.hid hown
  have HM := Lib.hid hm
  have HT := Lib.hid (two_cells hn)
  have w1 : IntKind.u8.wrap ((n : Int) % 256) = (n : Int) % 256 := by rw [IntKind.wrap_u8]; omega
  have w2 : IntKind.u8.wrap ((n : Int) / 256) = (n : Int) / 256 := by rw [IntKind.wrap_u8]; omega
  have w3 : Int.tmod (n : Int) 256 = (n : Int) % 256 := Int.tmod_eq_emod_of_nonneg (by omega)
  have w4 : Int.tdiv (n : Int) 256 = (n : Int) / 256 := Int.tdiv_eq_ediv_of_nonneg (by omega)
  obtain ⟨_, _, hv, h1, h2, _, _⟩ := hown.form hm
  cases hv
  clear hown hm
  go_enter Try.func47, Try.ntmps47
  go_wp2_with (at_builtin; refine app_at rfl (.tmp 5) (.tmp 12) rfl rfl (HO.out.alloc _) HM.out (m := two n) rfl rfl (Bs.new _ _ _ _ rfl HT.out) (fun h => by cases h) (by simp [two]) (by rw [← HM.out]; simp [two]; omega) (by simp; omega) ?_; intro g2 n2 c2 w2 ha; have HA := Lib.hid (AppTo.pre ((Below.refl w.heap.size w).alloc (Nat.le_refl _) _) ha); clear ha)
  go_ret
  exact ⟨_, _, _, rfl, HA.out⟩


theorem Own.lit {w : World} {B : Nat} (hB : B ≤ w.heap.size) (u : UInt8) {x : Int} (hx : x = (u.toNat : Int)) : Own (w.alloc (.cells #[.int .u8 x] 5)) B (.slice (Option.some ⟨w.heap.size, 0, none⟩) 1 1) [u] := by
  subst hx
  exact ⟨rfl, .inr ⟨w.heap.size, 1, #[.int .u8 (u.toNat : Int)], rfl, hB, heap_alloc_new w _, Nat.le_refl _, by decide, rfl, rfl⟩⟩

set_option maxHeartbeats 6400000 in
theorem rput_any {w : World} {n : Nd} (h : n.Ok w) (hc : n.s.count ≤ 100000) :
    Calls Try.prog 30 #[n.cell] w (PutN w n.s) := by
  obtain ⟨f1, _⟩ := Nd.few hc
  obtain ⟨W, hW, hbw, hws, hcc⟩ := nd_boxR w n
  have HOK := Lib.hid h
  have HC := Lib.hid hcc
  have HBW := Lib.hid hbw
  have HWS := Lib.hid hws
  have HBS : Hid (∀ w', Below W.heap.size W w' → Below w.heap.size w w') := Lib.hid fun w' hb => (hcc w' hb).1
  have HR := Lib.hid (rright_any (h.below hbw) hc)
  have hcell : n.cell = .agg #[.bool n.leaf, .slice n.kq n.ks.length n.kc, .slice n.vq n.vs.length n.vc, .slice n.iq n.is.length n.ic] := rfl
  rw [hcell] at HR ⊢
  have k1 := h.k1
  have k2 := h.k2
  obtain ⟨km, hkm⟩ : ∃ m, m = n.ks.length := ⟨_, rfl⟩
  have HKM := Lib.hid hkm
  obtain ⟨vm, hvm⟩ : ∃ m, m = n.vs.length := ⟨_, rfl⟩
  have HVM := Lib.hid hvm
  obtain ⟨im, him⟩ : ∃ m, m = n.is.length := ⟨_, rfl⟩
  have HIM := Lib.hid him
  rw [← hkm, ← hvm, ← him] at HR HC hW ⊢
  obtain ⟨_, c0, c1, c2, c3⟩ := HC.out W (Below.refl _ _)
  rw [← hkm] at f1 k1
  clear hcell h hbw hcc hws hkm hvm him hc
  go_enter Try.func30, Try.ntmps30
  go_wp2_with fail
  rw [← hW]
  replace hW := Lib.hid hW
  go_wp2_with fail
  refine HR.out.mono ?_
  rintro e w1 ⟨b1, rfl, hb1, hb⟩
  have HB := Lib.hid hb
  have HB1 := Lib.hid hb1
  clear c0 c1 c2 c3
  obtain ⟨_, c0, c1, c2, c3⟩ := HC.out _ hb
  clear hb hb1
  cases b1
  · go_wp2
    go_ret2
    exact .inl ⟨fun hr => (by have := HB1.out.2 hr; cases this), rfl, HBS.out _ HB.out⟩
  · have HRI := Lib.hid (HB1.out.1 rfl)
    have hm250 : km ≤ 250 := by have := HRI.out.many; rw [Nd.s_ks, List.length_map] at this; have := HKM.out; omega
    clear HR HB1
    have HBB : Hid (w.heap.size ≤ W.heap.size) := Lib.hid (by have := HWS.out; omega)
    have hwr : IntKind.u8.wrap (km : Int) = (km : Int) := by rw [IntKind.wrap_u8]; omega
    have HPL : Hid (n.s.put.length ≤ 493) := Lib.hid (by rw [HRI.out.length]; exact HRI.out.size)
    obtain ⟨wc, hwc⟩ : ∃ wc, wc = w1.alloc (.cells #[.int .u8 (km : Int)] 5) := ⟨_, rfl⟩
    have HO : Hid (Own wc W.heap.size (.slice (some ⟨w1.heap.size, 0, none⟩) 1 1) [UInt8.ofNat km]) := Lib.hid (by rw [hwc]; exact Own.lit HB.out.size _ (by rw [UInt8.toNat_ofNat']; omega))
    have HBC : Hid (Below W.heap.size W wc) := Lib.hid (by rw [hwc]; exact HB.out.alloc HB.out.size _)
    clear c0 c1 c2 c3
    cases hl : n.leaf
    · have HL := Lib.hid hl
      rw [hl] at HC
      obtain ⟨_, c0, c1, c2, c3⟩ := HC.out _ HB.out
      have HBR := Lib.hid (HRI.out.branch hl)
      have hwl : w.heap.size < w1.heap.size := by have := HB.out.size; have := HWS.out; omega
      clear hl
      have him : im = km + 1 := by have := HBR.out.1; have h2 := HIM.out; have h3 := HKM.out; rw [Nd.s_ks, List.length_map] at this; rw [h2, h3]; exact this
      have hi1 := HOK.out.i1
      have hi2 := HOK.out.i2
      obtain ⟨i0, ti, hti⟩ : ∃ i0 ti, n.is = i0 :: ti := by
        cases h : n.is with
        | nil => have := HIM.out; rw [h] at this; simp at this; omega
        | cons a l => exact ⟨a, l, rfl⟩
      have hi0 : n.is[0]? = some i0 := by rw [hti]; rfl
      obtain ⟨bi, oi, hiq, hci⟩ := ((HOK.out.below HBW.out).below HB.out).il.at hi0
      have hp0 : PageOk i0 := HBR.out.2.2 i0 (by show i0 ∈ n.is; rw [hti]; exact List.mem_cons_self)
      obtain ⟨i0n, rfl⟩ := Int.eq_ofNat_of_zero_le (show 0 ≤ i0 by have := hp0.1; omega)
      have HPUT : Hid (n.s.put = [UInt8.ofNat km] ++ two i0n ++ entsB n.s.ks ti) := Lib.hid (by
        unfold NdS.put
        rw [show n.s.leaf = n.leaf from rfl, HL.out, if_neg (by simp), show n.s.is = n.is from rfl, hti, Nd.s_ks, List.length_map, ← HKM.out]
        simp [two])
      have HTI := Lib.hid hti
      rw [Nat.add_zero] at hci
      rw [← HIM.out] at hi1
      rw [hiq] at c3
      have hblti := World.block_lt_of_cell? _ _ hci
      have him0 : 0 < im := by omega
      have HIMK := Lib.hid him
      have HPN := Lib.hid (rtwo_any HO.out rfl (by omega) HBC.out.size i0n (by have := hp0.2; omega))
      have HBN : Hid (∀ {k g' n' c'} {w' : World}, AppTo wc W.heap.size w1.heap.size k g' n' c' w' → Below W.heap.size wc w') := Lib.hid fun h => h.below HO.out HBC.out.size
      clear hti hi0 hp0 him
      go_wp2_with fail
      rw [← hwc]
      refine HPN.out.mono ?_
      rintro e w4 ⟨g4, n4, d4, rfl, ha⟩
      have HA4 := Lib.hid ha
      have HB4 := Lib.hid (HBC.out.trans (HBN.out ha))
      clear ha c0 c1 c2 c3 hci hblti HPN HBN
      go_wp2
      go_loopw [4, 5] (fun s i wr => ∃ (j g m c : Nat) (l : List UInt8), i = .int .i64 (j : Int) ∧ s = .slice (some ⟨g, 0, none⟩) m c ∧ j ≤ km ∧ m = l.length ∧ Own wr W.heap.size (.slice (some ⟨g, 0, none⟩) m c) l ∧ Below W.heap.size W wr ∧ l ++ entsB (n.s.ks.drop j) (ti.drop j) = n.s.put) (fun _ i _ => km - (intOf i).toNat)
      case atStart => exact ⟨0, g4, n4, d4, _, rfl, rfl, by omega, HA4.out.len, HA4.out.own, HB4.out, by rw [HPUT.out]; rfl⟩
      case round =>
        obtain ⟨j, g5, m5, d5, l5, rfl, rfl, hj, hm5, ho5, hb5, hput⟩ := hrel
        have HM5 := Lib.hid hm5
        have HO5 := Lib.hid ho5
        have HB5 := Lib.hid hb5
        have HPU := Lib.hid hput
        obtain ⟨_, c0, c1, c2, c3⟩ := HC.out _ hb5
        have hm493 : m5 ≤ 493 := by
          have h1 := HPL.out
          rw [← hput, List.length_append] at h1
          omega
        have hwr5 : w.heap.size < wr.heap.size := by have := hb5.size; have := HWS.out; omega
        clear hm5 ho5 hb5 hput hwc
        by_cases hlt : j < km
        · obtain ⟨x, hx⟩ : ∃ x, n.ks[j]? = some x := ⟨_, List.getElem?_eq_getElem (by have := HKM.out; omega)⟩
          obtain ⟨y, hy⟩ : ∃ y, n.is[j + 1]? = some y := ⟨_, List.getElem?_eq_getElem (by have := HIM.out; have := HIMK.out; omega)⟩
          have hxm := List.mem_of_getElem? hx
          have hym : PageOk y := HBR.out.2.2 y (List.mem_of_getElem? hy)
          obtain ⟨yn, rfl⟩ := Int.eq_ofNat_of_zero_le (show 0 ≤ y by have := hym.1; omega)
          obtain ⟨b, o, hq, hblt0, hkc0⟩ := (HOK.out.below HBW.out).kl.at hx
          obtain ⟨bi, oi, hiq, hic0⟩ := (HOK.out.below HBW.out).il.at hy
          have hsx : n.s.ks[j]? = some x.l := by rw [Nd.s_ks, List.getElem?_map, hx]; rfl
          have hx72 := (HRI.out.rise j x.l hsx).1
          have HXO := Lib.hid ((HOK.out.below HBW.out).ko x hxm)
          have HXB : Hid (∀ w', Below W.heap.size W w' → Bs w' x.q x.l) := Lib.hid fun w' hb => ((HOK.out.below HBW.out).ko x hxm).bs.below hb
          have HE : Hid (entsB (n.s.ks.drop j) (ti.drop j) = txtB x.l ++ two yn ++ entsB (n.s.ks.drop (j + 1)) (ti.drop (j + 1))) := Lib.hid (by
            have h2 : ti[j]? = some (yn : Int) := by rw [HTI.out] at hy; simpa using hy
            exact entsB_drop hsx h2)
          obtain ⟨xl, hxl⟩ : ∃ z, z = x.l.length := ⟨_, rfl⟩
          have HXL := Lib.hid hxl
          rw [← hxl] at hkc0 hx72
          have HCC : Hid (∀ w', Below W.heap.size W w' → b < w'.heap.size ∧ bi < w'.heap.size ∧ w'.cell? ⟨b, o + j, none⟩ = some (.slice x.q xl x.c) ∧ w'.cell? ⟨bi, oi + (j + 1), none⟩ = some (.int .i64 (yn : Int)) ∧ w.heap.size < w'.heap.size) := Lib.hid fun w' hb => by
            have h1 := World.block_lt_of_cell? _ _ hic0
            exact ⟨Nat.lt_of_lt_of_le hblt0 hb.size, Nat.lt_of_lt_of_le h1 hb.size, (hb.cell hblt0).trans hkc0, (hb.cell h1).trans hic0, by have := hb.size; have := HWS.out; omega⟩
          have hx1 := HXO.out.h1
          have hx2 := HXO.out.h2
          rw [← hxl] at hx1
          have hj1 : j + 1 < im := by have := HIMK.out; omega
          have hj2 : (j : Int) + 1 < im := by omega
          have hj3 : (0 : Int) ≤ (j : Int) + 1 := by omega
          have hj4 : ((j : Int) + 1).toNat = j + 1 := by omega
          have hji : (j : Int) < km := by omega
          have hj0 : (0 : Int) ≤ j := by omega
          have hwx : IntKind.u8.wrap (xl : Int) = (xl : Int) := by rw [IntKind.wrap_u8]; omega
          have HYN : Hid (yn < 65536) := Lib.hid (by have := hym.2; omega)
          have HONE := Lib.hid (one_cell (n := xl) (by omega))
          have HS : Hid (W.heap.size ≤ wr.heap.size) := Lib.hid HB5.out.size
          have HX1 : Hid (∀ k : List UInt8, k ++ [UInt8.ofNat xl] ++ x.l = k ++ txtB x.l) := Lib.hid fun k => by rw [HXL.out]; simp [txtB]
          have HQ := Lib.hid hq
          have HIQ := Lib.hid hiq
          rw [hq] at c1
          rw [hiq] at c3
          clear hq hiq
          obtain ⟨hbl, hbil, hkc, hic, _⟩ := HCC.out _ HB5.out
          clear hx hy hxm hym hsx hxl hic0 hkc0 hblt0
          go_wp2_with (first
            | (at_builtin; refine app_at rfl (.tmp 40) (.tmp 45) rfl rfl HA6.out.own HA6.out.len (m := x.l) HXL.out rfl (HXB.out _ HB6.out) HXO.out.z (by simp; try omega) (by rw [← HXL.out, List.length_append, ← HM5.out]; simp; omega) HB6.out.size ?_; intro g7 n7 d7 w7 ha; have HA7 := Lib.hid (HA6.out.trans ha); have HB7 := Lib.hid (HB6.out.trans (ha.below HA6.out.own HB6.out.size)); clear ha c0 c1 c2 c3 hkc hic hbl hbil hwr5; obtain ⟨_, c0, c1, c2, c3⟩ := HC.out _ HB7.out; rw [HQ.out] at c1; rw [HIQ.out] at c3; obtain ⟨hbl, hbil, hkc, hic, hwr5⟩ := HCC.out _ HB7.out)
            | (at_builtin; refine app_at rfl (.tmp 30) (.tmp 38) rfl rfl (HO5.out.alloc _) HM5.out (m := [UInt8.ofNat xl]) rfl rfl (Bs.new _ _ _ _ rfl HONE.out) (fun h => by cases h) (by simp) (by rw [← HM5.out]; simp; omega) (by have := HS.out; simp; omega) ?_; intro g6 n6 d6 w6 ha; have HA6 := Lib.hid (AppTo.pre ((Below.refl wr.heap.size wr).alloc (Nat.le_refl _) _) ha); have HB6 := Lib.hid (HB5.out.trans (HA6.out.below HO5.out HS.out)); clear ha c0 c1 c2 c3 hkc hic hbl hbil hwr5; obtain ⟨_, c0, c1, c2, c3⟩ := HC.out _ HB6.out; rw [HQ.out] at c1; rw [HIQ.out] at c3; obtain ⟨hbl, hbil, hkc, hic, hwr5⟩ := HCC.out _ HB6.out)
            | fail)
          have HPN := Lib.hid (rtwo_any HA7.out.own HA7.out.len (by rw [HA7.out.len]; simp only [List.length_append, List.length_cons, List.length_nil, ← HXL.out, ← HM5.out]; omega) HB7.out.size yn HYN.out)
          with_reducible refine HPN.out.mono ?_
          rintro e w8 ⟨g8, n8, d8, rfl, ha⟩
          have HA8 := Lib.hid ha
          have HB8 := Lib.hid (HB7.out.trans (ha.below HA7.out.own HB7.out.size))
          clear ha c0 c1 c2 c3 hic hkc hbl hbil HPN
          go_wp2
          go_roundw
          case rel => exact ⟨j + 1, g8, n8, d8, _, by go_num, rfl, by omega, HA8.out.len, HA8.out.own, HB8.out, by rw [← HPU.out, HE.out]; simp [HXL.out, txtB]⟩
          case measure => simp [intOf]; omega
        · go_wp2
          go_ret2
          right
          have h1 := HPU.out
          rw [(List.drop_eq_nil_of_le (by rw [Nd.s_ks, List.length_map]; have := HKM.out; omega) : n.s.ks.drop j = [])] at h1
          have h2 : l5 = n.s.put := by rw [← h1]; simp [entsB]
          refine ⟨HRI.out, g5, m5, d5, rfl, ?_, ?_, HBS.out _ HB5.out⟩
          · rw [← h2]; exact HM5.out
          · rw [← h2]; exact HO5.out.le HBB.out
    · have HL := Lib.hid hl
      rw [hl] at HC
      obtain ⟨_, c0, c1, c2, c3⟩ := HC.out _ HB.out
      have HBR := Lib.hid (HRI.out.leaf hl)
      have hwl : w.heap.size < w1.heap.size := by have := HB.out.size; have := HWS.out; omega
      clear hl
      have hvm : vm = km := by have := HBR.out.1; have h2 := HVM.out; have h3 := HKM.out; rw [Nd.s_ks, List.length_map] at this; rw [h2, h3]; exact (by simpa [Nd.s] using this)
      have HVK := Lib.hid hvm
      have hv1 := HOK.out.v1
      have hv2 := HOK.out.v2
      rw [← HVM.out] at hv1
      have HPUT : Hid (n.s.put = [UInt8.ofNat km] ++ entsL n.s.ks n.s.vs) := Lib.hid (by
        unfold NdS.put
        rw [show n.s.leaf = n.leaf from rfl, HL.out, if_pos rfl, Nd.s_ks, List.length_map, ← HKM.out]
        simp)
      clear hvm
      go_wp2_with fail
      rw [← hwc]
      go_loopw [4, 5] (fun s i wr => ∃ (j g m c : Nat) (l : List UInt8), i = .int .i64 (j : Int) ∧ s = .slice (some ⟨g, 0, none⟩) m c ∧ j ≤ km ∧ m = l.length ∧ Own wr W.heap.size (.slice (some ⟨g, 0, none⟩) m c) l ∧ Below W.heap.size W wr ∧ l ++ entsL (n.s.ks.drop j) (n.s.vs.drop j) = n.s.put) (fun _ i _ => km - (intOf i).toNat)
      case atStart => exact ⟨0, w1.heap.size, 1, 1, [UInt8.ofNat km], rfl, rfl, by omega, rfl, HO.out, HBC.out, by rw [HPUT.out]; rfl⟩
      case round =>
        clear c0 c1 c2 c3
        obtain ⟨j, g5, m5, d5, l5, rfl, rfl, hj, hm5, ho5, hb5, hput⟩ := hrel
        have HM5 := Lib.hid hm5
        have HO5 := Lib.hid ho5
        have HB5 := Lib.hid hb5
        have HPU := Lib.hid hput
        obtain ⟨_, c0, c1, c2, c3⟩ := HC.out _ hb5
        have hm493 : m5 ≤ 493 := by
          have h1 := HPL.out
          rw [← hput, List.length_append] at h1
          omega
        have hwr5 : w.heap.size < wr.heap.size := by have := hb5.size; have := HWS.out; omega
        clear hm5 ho5 hb5 hput hwc
        by_cases hlt : j < km
        · obtain ⟨x, hx⟩ : ∃ x, n.ks[j]? = some x := ⟨_, List.getElem?_eq_getElem (by have := HKM.out; omega)⟩
          obtain ⟨y, hy⟩ : ∃ y, n.vs[j]? = some y := ⟨_, List.getElem?_eq_getElem (by have := HVM.out; have := HVK.out; omega)⟩
          have hxm := List.mem_of_getElem? hx
          have hym := List.mem_of_getElem? hy
          have hyr : (y.p = 0 ∧ y.g = 0 ∧ y.l.length ≤ 64) ∨ (PageOk y.p ∧ 65 ≤ y.g ∧ y.g ≤ 4096 ∧ y.l = []) := HBR.out.2.2 y.s (List.mem_map_of_mem hym)
          obtain ⟨b, o, hq, hblt0, hkc0⟩ := (HOK.out.below HBW.out).kl.at hx
          obtain ⟨bi, oi, hiq, _, hic0⟩ := (HOK.out.below HBW.out).vl.at hy
          have hsx : n.s.ks[j]? = some x.l := by rw [Nd.s_ks, List.getElem?_map, hx]; rfl
          have hsy : n.s.vs[j]? = some y.s := by rw [show n.s.vs = n.vs.map Vl.s from rfl, List.getElem?_map, hy]; rfl
          have hx72 := (HRI.out.rise j x.l hsx).1
          have HXO := Lib.hid ((HOK.out.below HBW.out).ko x hxm)
          have HXB : Hid (∀ w', Below W.heap.size W w' → Bs w' x.q x.l) := Lib.hid fun w' hb => ((HOK.out.below HBW.out).ko x hxm).bs.below hb
          have HYB : Hid (∀ w', Below W.heap.size W w' → y.Ok w') := Lib.hid fun w' hb => ((HOK.out.below HBW.out).vo y hym).below hb
          have HE : Hid (entsL (n.s.ks.drop j) (n.s.vs.drop j) = txtB x.l ++ valB y.s ++ entsL (n.s.ks.drop (j + 1)) (n.s.vs.drop (j + 1))) := Lib.hid (entsL_drop hsx hsy)
          obtain ⟨xl, hxl⟩ : ∃ z, z = x.l.length := ⟨_, rfl⟩
          have HXL := Lib.hid hxl
          obtain ⟨yn, hyn⟩ : ∃ z, z = y.l.length := ⟨_, rfl⟩
          have HYN := Lib.hid hyn
          have hyo := HYB.out W (Below.refl _ _)
          have hy1 := hyo.h1
          have hy2 := hyo.h2
          rw [← hyn] at hy1 hic0
          rw [← hxl] at hkc0 hx72
          have hx1 := HXO.out.h1
          have hx2 := HXO.out.h2
          rw [← hxl] at hx1
          have hj1 : j < vm := by have := HVK.out; omega
          have hj1i : (j : Int) < vm := by omega
          have hji : (j : Int) < km := by omega
          have hj0 : (0 : Int) ≤ j := by omega
          have hwx : IntKind.u8.wrap (xl : Int) = (xl : Int) := by rw [IntKind.wrap_u8]; omega
          have HONE := Lib.hid (one_cell (n := xl) (by omega))
          have HS : Hid (W.heap.size ≤ wr.heap.size) := Lib.hid HB5.out.size
          have HQ := Lib.hid hq
          have HIQ := Lib.hid hiq
          rw [hq] at c1
          rw [hiq] at c2
          rcases hyr with ⟨hp0, hg0, hl64⟩ | ⟨⟨hp1, hp2⟩, hg1, hg2, hl0⟩
          · have HV : Hid (valB y.s = txtB y.l) := Lib.hid (if_pos hp0)
            rw [← hyn] at hl64
            rw [hp0, hg0] at hic0
            have HCC : Hid (∀ w', Below W.heap.size W w' → b < w'.heap.size ∧ bi < w'.heap.size ∧ w'.cell? ⟨b, o + j, none⟩ = some (.slice x.q xl x.c) ∧ w'.cell? ⟨bi, oi + j * 3, none⟩ = some (.slice y.q yn y.c) ∧ w'.cell? ⟨bi, oi + j * 3 + 1, none⟩ = some (.int .i64 0) ∧ w'.cell? ⟨bi, oi + j * 3 + 2, none⟩ = some (.int .i64 0) ∧ w.heap.size < w'.heap.size) := Lib.hid fun w' hb => by
              obtain ⟨h1, h2, h3⟩ := hic0
              have hl : bi < W.heap.size := World.block_lt_of_cell? _ _ h1
              exact ⟨Nat.lt_of_lt_of_le hblt0 hb.size, Nat.lt_of_lt_of_le hl hb.size, (hb.cell hblt0).trans hkc0, by rw [hb.cell hl]; exact h1, by rw [hb.cell hl]; exact h2, by rw [hb.cell hl]; exact h3, by have := hb.size; have := HWS.out; omega⟩
            have HONY := Lib.hid (one_cell (n := yn) (by omega))
            have hwy : IntKind.u8.wrap (yn : Int) = (yn : Int) := by rw [IntKind.wrap_u8]; omega
            obtain ⟨hbl, hbil, hkc, e0, e1, e2, _⟩ := HCC.out _ HB5.out
            clear hx hy hxm hym hsx hsy hxl hyn hic0 hkc0 hblt0 hq hiq hp0 hg0 hyo
            go_wp2_with (first
              | (at_builtin; refine app_at rfl (.tmp 93) (.tmp 99) rfl rfl HA8.out.own HA8.out.len (m := y.l) HYN.out rfl (HYB.out _ HB8.out).bs (HYB.out _ HB8.out).z (by simp; try omega) (by simp only [List.length_append, List.length_cons, List.length_nil, ← HXL.out, ← HM5.out, ← HYN.out]; omega) HB8.out.size ?_; intro g9 n9 d9 w9 ha; have HA9 := Lib.hid (HA8.out.trans ha); have HB9 := Lib.hid (HB5.out.trans (HA9.out.below HO5.out HS.out)); clear ha c0 c1 c2 c3 hkc e0 e1 e2 hbl hbil hwr5; obtain ⟨_, c0, c1, c2, c3⟩ := HC.out _ HB9.out; rw [HQ.out] at c1; rw [HIQ.out] at c2; obtain ⟨hbl, hbil, hkc, e0, e1, e2, hwr5⟩ := HCC.out _ HB9.out)
              | (at_builtin; refine app_at rfl (.tmp 82) (.tmp 91) rfl rfl (HA7.out.own.alloc _) HA7.out.len (m := [UInt8.ofNat yn]) rfl rfl (Bs.new _ _ _ _ rfl HONY.out) (fun h => by cases h) (by simp; try omega) (by simp only [List.length_append, List.length_cons, List.length_nil, ← HXL.out, ← HM5.out]; omega) (by have := HB7.out.size; simp; omega) ?_; intro g8 n8 d8 w8 ha; have HA8 := Lib.hid (HA7.out.trans (AppTo.pre ((Below.refl w7.heap.size w7).alloc (Nat.le_refl _) _) ha)); have HB8 := Lib.hid (HB5.out.trans (HA8.out.below HO5.out HS.out)); clear ha c0 c1 c2 c3 hkc e0 e1 e2 hbl hbil hwr5; obtain ⟨_, c0, c1, c2, c3⟩ := HC.out _ HB8.out; rw [HQ.out] at c1; rw [HIQ.out] at c2; obtain ⟨hbl, hbil, hkc, e0, e1, e2, hwr5⟩ := HCC.out _ HB8.out)
              | (at_builtin; refine app_at rfl (.tmp 40) (.tmp 45) rfl rfl HA6.out.own HA6.out.len (m := x.l) HXL.out rfl (HXB.out _ HB6.out) HXO.out.z (by simp; try omega) (by rw [← HXL.out, List.length_append, ← HM5.out]; simp; omega) HB6.out.size ?_; intro g7 n7 d7 w7 ha; have HA7 := Lib.hid (HA6.out.trans ha); have HB7 := Lib.hid (HB6.out.trans (ha.below HA6.out.own HB6.out.size)); clear ha c0 c1 c2 c3 hkc e0 e1 e2 hbl hbil hwr5; obtain ⟨_, c0, c1, c2, c3⟩ := HC.out _ HB7.out; rw [HQ.out] at c1; rw [HIQ.out] at c2; obtain ⟨hbl, hbil, hkc, e0, e1, e2, hwr5⟩ := HCC.out _ HB7.out)
              | (at_builtin; refine app_at rfl (.tmp 30) (.tmp 38) rfl rfl (HO5.out.alloc _) HM5.out (m := [UInt8.ofNat xl]) rfl rfl (Bs.new _ _ _ _ rfl HONE.out) (fun h => by cases h) (by simp) (by rw [← HM5.out]; simp; omega) (by have := HS.out; simp; omega) ?_; intro g6 n6 d6 w6 ha; have HA6 := Lib.hid (AppTo.pre ((Below.refl wr.heap.size wr).alloc (Nat.le_refl _) _) ha); have HB6 := Lib.hid (HB5.out.trans (HA6.out.below HO5.out HS.out)); clear ha c0 c1 c2 c3 hkc e0 e1 e2 hbl hbil hwr5; obtain ⟨_, c0, c1, c2, c3⟩ := HC.out _ HB6.out; rw [HQ.out] at c1; rw [HIQ.out] at c2; obtain ⟨hbl, hbil, hkc, e0, e1, e2, hwr5⟩ := HCC.out _ HB6.out)
              | fail)
            go_roundw
            case rel => exact ⟨j + 1, g9, n9, d9, _, by go_num, rfl, by omega, HA9.out.len, HA9.out.own, HB9.out, by rw [← HPU.out, HE.out, HV.out]; simp [HXL.out, HYN.out, txtB]⟩
            case measure => simp [intOf]; omega
          · obtain ⟨gn, hgn⟩ := Int.eq_ofNat_of_zero_le (show 0 ≤ y.g by omega)
            obtain ⟨pn, hpn⟩ := Int.eq_ofNat_of_zero_le (show 0 ≤ y.p by omega)
            have HV : Hid (valB y.s = 255 :: (two gn ++ two pn)) := Lib.hid (by
              unfold valB
              rw [if_neg (show y.s.p ≠ 0 from fun h => by have : y.p = 0 := h; omega), show y.s.g = y.g from rfl, show y.s.p = y.p from rfl, hgn, hpn]
              rfl)
            rw [hpn, hgn] at hic0
            have HCC : Hid (∀ w', Below W.heap.size W w' → b < w'.heap.size ∧ bi < w'.heap.size ∧ w'.cell? ⟨b, o + j, none⟩ = some (.slice x.q xl x.c) ∧ w'.cell? ⟨bi, oi + j * 3, none⟩ = some (.slice y.q yn y.c) ∧ w'.cell? ⟨bi, oi + j * 3 + 1, none⟩ = some (.int .i64 (gn : Int)) ∧ w'.cell? ⟨bi, oi + j * 3 + 2, none⟩ = some (.int .i64 (pn : Int)) ∧ w.heap.size < w'.heap.size) := Lib.hid fun w' hb => by
              obtain ⟨h1, h2, h3⟩ := hic0
              have hl : bi < W.heap.size := World.block_lt_of_cell? _ _ h1
              exact ⟨Nat.lt_of_lt_of_le hblt0 hb.size, Nat.lt_of_lt_of_le hl hb.size, (hb.cell hblt0).trans hkc0, by rw [hb.cell hl]; exact h1, by rw [hb.cell hl]; exact h2, by rw [hb.cell hl]; exact h3, by have := hb.size; have := HWS.out; omega⟩
            have HH : Hid (∀ w', Below W.heap.size W w' → w'.cell? ⟨w.heap.size, 2, none⟩ = some (.slice (some ⟨bi, oi, none⟩) vm n.vc) ∧ w'.cell? ⟨bi, oi + j * 3 + 1, none⟩ = some (.int .i64 (gn : Int)) ∧ w'.cell? ⟨bi, oi + j * 3 + 2, none⟩ = some (.int .i64 (pn : Int))) := Lib.hid fun w' hb => by
              obtain ⟨_, _, _, h2, _⟩ := HC.out w' hb
              obtain ⟨_, _, _, _, h3, h4, _⟩ := HCC.out w' hb
              rw [HIQ.out] at h2
              exact ⟨h2, h3, h4⟩
            have HGN : Hid (gn < 65536) := Lib.hid (by omega)
            have HPN : Hid (pn < 65536) := Lib.hid (by omega)
            have hpb : ((pn : Int) != 0) = true := by rw [bne_iff_ne]; omega
            have hpb2 : (pn != 0) = true := by rw [bne_iff_ne]; omega
            obtain ⟨hbl, hbil, hkc, e0, e1, e2, _⟩ := HCC.out _ HB5.out
            clear hx hy hxm hym hsx hsy hxl hyn hic0 hkc0 hblt0 hq hiq hp1 hp2 hg1 hg2 hl0 hyo hgn hpn
            go_wp2_with (first
              | (at_builtin; refine app_at rfl (.tmp 40) (.tmp 45) rfl rfl HA6.out.own HA6.out.len (m := x.l) HXL.out rfl (HXB.out _ HB6.out) HXO.out.z (by simp; try omega) (by rw [← HXL.out, List.length_append, ← HM5.out]; simp; omega) HB6.out.size ?_; intro g7 n7 d7 w7 ha; have HA7 := Lib.hid (HA6.out.trans ha); have HB7 := Lib.hid (HB6.out.trans (ha.below HA6.out.own HB6.out.size)); clear ha c0 c1 c2 c3 hkc e0 e1 e2 hbl hbil hwr5; obtain ⟨_, c0, c1, c2, c3⟩ := HC.out _ HB7.out; rw [HQ.out] at c1; rw [HIQ.out] at c2; obtain ⟨hbl, hbil, hkc, e0, e1, e2, hwr5⟩ := HCC.out _ HB7.out)
              | (at_builtin; refine app_at rfl (.tmp 30) (.tmp 38) rfl rfl (HO5.out.alloc _) HM5.out (m := [UInt8.ofNat xl]) rfl rfl (Bs.new _ _ _ _ rfl HONE.out) (fun h => by cases h) (by simp) (by rw [← HM5.out]; simp; omega) (by have := HS.out; simp; omega) ?_; intro g6 n6 d6 w6 ha; have HA6 := Lib.hid (AppTo.pre ((Below.refl wr.heap.size wr).alloc (Nat.le_refl _) _) ha); have HB6 := Lib.hid (HB5.out.trans (HA6.out.below HO5.out HS.out)); clear ha c0 c1 c2 c3 hkc e0 e1 e2 hbl hbil hwr5; obtain ⟨_, c0, c1, c2, c3⟩ := HC.out _ HB6.out; rw [HQ.out] at c1; rw [HIQ.out] at c2; obtain ⟨hbl, hbil, hkc, e0, e1, e2, hwr5⟩ := HCC.out _ HB6.out)
              | fail)
            have HAL : Hid (∀ o : Obj, Below w7.heap.size w7 (w7.drew.alloc o)) := Lib.hid fun o => (Below.refl _ _).drew.alloc (Nat.le_refl _) _
            have HBA : Hid (∀ o : Obj, Below W.heap.size W (w7.drew.alloc o)) := Lib.hid fun o => HB7.out.drew.alloc HB7.out.size _
            have HBD : Hid (Below W.heap.size W w7.drew) := Lib.hid HB7.out.drew
            go_region_held3 (fun w' => w'.cell? ⟨w.heap.size, 2, none⟩ = some (.slice (some ⟨bi, oi, none⟩) vm n.vc) ∧ w'.cell? ⟨bi, oi + j * 3 + 1, none⟩ = some (.int .i64 (gn : Int)) ∧ w'.cell? ⟨bi, oi + j * 3 + 2, none⟩ = some (.int .i64 (pn : Int)))
              (first | exact HH.out _ HBD.out | exact HH.out _ (HBA.out _) | exact HH.out _ HB10.out | exact HH.out _ HB9.out | exact HH.out _ HB8.out)
              (first
                | (go_at_call 47; (with_reducible refine (rtwo_any HA9.out.own HA9.out.len (by rw [HA9.out.len]; simp only [List.length_append, List.length_cons, List.length_nil, ← HXL.out, ← HM5.out, two]; omega) HB9.out.size pn HPN.out).mono ?_); rintro e w10 ⟨g10, n10, d10, rfl, ha⟩; have HA10 := Lib.hid (HA9.out.trans ha); have HB10 := Lib.hid (HB5.out.trans (HA10.out.below HO5.out HS.out)); clear ha)
                | (go_at_call 47; (with_reducible refine (rtwo_any HA8.out.own HA8.out.len (by rw [HA8.out.len]; simp only [List.length_append, List.length_cons, List.length_nil, ← HXL.out, ← HM5.out]; omega) HB8.out.size gn HGN.out).mono ?_); rintro e w9 ⟨g9, n9, d9, rfl, ha⟩; have HA9 := Lib.hid (HA8.out.trans ha); have HB9 := Lib.hid (HB5.out.trans (HA9.out.below HO5.out HS.out)); clear ha)
                | (refine step_appAt rfl (.tmp 65) (.tmp 66) rfl rfl (HA7.out.own.drew.alloc _) HA7.out.len (m := [255]) rfl rfl (Bs.new _ _ _ _ rfl rfl) (fun h => by cases h) (by simp; try omega) (by simp only [List.length_append, List.length_cons, List.length_nil, ← HXL.out, ← HM5.out]; omega) (by have := HB7.out.size; simp; omega) ?_; intro g8 n8 d8 w8 ha; have HA8 := Lib.hid (HA7.out.trans (AppTo.pre (HAL.out _) ha)); have HB8 := Lib.hid (HB5.out.trans (HA8.out.below HO5.out HS.out)); clear ha)
                | fail)
            all_goals
              clear c0 c1 c2 c3 hkc e0 e1 e2 hbl hbil
              go_wp2
              go_roundw
              case rel => exact ⟨j + 1, g10, n10, d10, _, by go_num, rfl, by omega, HA10.out.len, HA10.out.own, HB10.out, by rw [← HPU.out, HE.out, HV.out]; simp [HXL.out, txtB]⟩
              case measure => simp [intOf]; omega
        · go_wp2
          go_ret2
          right
          have h1 := HPU.out
          rw [(List.drop_eq_nil_of_le (by rw [Nd.s_ks, List.length_map]; have := HKM.out; omega) : n.s.ks.drop j = [])] at h1
          have h2 : l5 = n.s.put := by rw [← h1]; simp [entsL]
          refine ⟨HRI.out, g5, m5, d5, rfl, ?_, ?_, HBS.out _ HB5.out⟩
          · rw [← h2]; exact HM5.out
          · rw [← h2]; exact HO5.out.le HBB.out
end Go.Proofs.Ytigmibmebockhaa
