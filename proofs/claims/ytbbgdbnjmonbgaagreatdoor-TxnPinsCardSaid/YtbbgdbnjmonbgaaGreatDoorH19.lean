/-
  node.Put.
  bytes.Equal.
-/
import Derived.Test.YtbbgdbnjmonbgaaGreatDoorH00
import Derived.Test.YtbbgdbnjmonbgaaGreatDoorH18
import Derived.Deep.CutBlock
import Derived.Deep.CutRange
import Derived.Laws.MakeOwn
set_option linter.unusedVariables false
set_option maxRecDepth 100000
namespace Go.Proofs.YtbbgdbnjmonbgaaGreatDoor
open Go.RowKit
theorem make_fact (sz : Nat) (hsz : sz ≤ 493) : ∃ Z : Array Value, (∀ w : World, (Instr.makeSlice 33 (.int .i64 0) (.int .i64 (sz : Int))).run Tryz.prog w = .ok (.slice (some ⟨w.heap.size, 0, none⟩) 0 sz) (w.alloc (.cells Z 5))) ∧
  ∀ (w : World) (B : Nat), B ≤ w.heap.size → Own (w.alloc (.cells Z 5)) B (.slice (some ⟨w.heap.size, 0, none⟩) 0 sz) [] := by
 obtain ⟨i, hi, hz0, hz1, hz2⟩ := info_parts info_u8
 refine ⟨_, fun w => (run_makeSlice (P := Tryz.prog) (w := w) 33 5 i (.int .u8 0) Tryz.underlying33 hi hz0 .i64 .i64 0 (sz : Int) (by omega) (by omega) (by rw [hz1]; omega) (by rw [hz2]; omega) (by omega)).trans rfl, fun w B hB => ?_⟩
 refine ⟨rfl, .inr ⟨w.heap.size, sz, _, rfl, hB, heap_alloc_new w _, Nat.zero_le _, by unfold maxLen; omega, ?_, rfl⟩⟩
 rw [hz1]
 simp [madeCells, Value.cells]
def PutN (w : World) (n : NdS) (e : Ending) (w' : World) : Prop :=
 (¬ n.Right ∧ e = .returned (.tuple #[.slice none 0 0, .int .i64 2]) ∧ Below w.heap.size w w') ∨
 (n.Right ∧ ∃ g k c, e = .returned (.tuple #[.slice (some ⟨g, 0, none⟩) k c, .int .i64 0]) ∧ k = n.put.length ∧ Own w' w.heap.size (.slice (some ⟨g, 0, none⟩) k c) n.put ∧ Below w.heap.size w w')
set_option maxHeartbeats 3200000 in
theorem ndPut_any {w : World} {n : Nd} (h : n.Ok w) (hc : n.s.count ≤ 100000) :
  Calls Tryz.prog 147 #[n.cell] w (PutN w n.s) := by
 obtain ⟨f1, _⟩ := Nd.few hc
 obtain ⟨W, hW, hbw, hws, hcc⟩ := nd_box w n
 have HOK := Hq h
 have HC := Hq hcc
 have HBW := Hq hbw
 have HWS := Hq hws
 have HBS : Hid (∀ w', Below W.heap.size W w' → Below w.heap.size w w') := Hq fun w' hb => (hcc w' hb).1
 have HR := Hq (ndRight_any (h.below hbw) hc)
 have HSZ := Hq (fun w' hb => size_any (w := w') ((h.below hbw).below hb) hc)
 have hcell : n.cell = .agg #[.bool n.leaf, .slice n.kq n.ks.length n.kc, .slice n.vq n.vs.length n.vc, .slice n.iq n.is.length n.ic] := rfl
 rw [hcell] at HR HSZ ⊢
 have k1 := h.k1
 have k2 := h.k2
 obtain ⟨km, hkm⟩ : ∃ m, m = n.ks.length := ⟨_, rfl⟩
 have HKM := Hq hkm
 obtain ⟨vm, hvm⟩ : ∃ m, m = n.vs.length := ⟨_, rfl⟩
 have HVM := Hq hvm
 obtain ⟨im, him⟩ : ∃ m, m = n.is.length := ⟨_, rfl⟩
 have HIM := Hq him
 rw [← hkm, ← hvm, ← him] at HR HSZ HC hW ⊢
 obtain ⟨_, c0, c1, c2, c3⟩ := HC.out W (Below.refl _ _)
 rw [← hkm] at f1 k1
 clear hcell h hbw hcc hws hkm hvm him hc
 go_enter Tryz.func147, Tryz.ntmps147
 go_wp2_with fail
 rw [← hW]
 replace hW := Hq hW
 go_wp2_with fail
 refine HR.out.mono ?_
 rintro e w1 ⟨b1, rfl, hb1, hb⟩
 have HB := Hq hb
 have HB1 := Hq hb1
 clear c0 c1 c2 c3
 obtain ⟨_, c0, c1, c2, c3⟩ := HC.out _ hb
 clear hb hb1
 cases b1
 ·
  go_wp2
  go_ret2
  exact .inl ⟨fun hr => (by have := HB1.out.2 hr; cases this), rfl, HBS.out _ HB.out⟩
 ·
  have HRI := Hq (HB1.out.1 rfl)
  have hm250 : km ≤ 250 := by have := HRI.out.many; rw [Nd.s_ks, List.length_map] at this; have := HKM.out; omega
  obtain ⟨sz, hsz⟩ : ∃ y, y = n.s.size := ⟨_, rfl⟩
  have HSN := Hq hsz
  have hsz4 : sz ≤ 493 := by rw [hsz]; exact HRI.out.size
  rw [← hsz] at HSZ
  clear hsz HR HB1
  go_wp2_with fail
  obtain ⟨Z, hmk, hoz⟩ := make_fact sz hsz4
  have HOZ := Hq hoz
  have HOZ1 : Hid (∀ (w : World) (o : Obj) (B : Nat), B ≤ w.heap.size → Own ((w.alloc o).alloc (.cells Z 5)) B (.slice (some ⟨w.heap.size + 1, 0, none⟩) 0 sz) []) := Hq fun w o B hB => by
   have h1 := hoz (w.alloc o) B (by simp; omega)
   rwa [show (w.alloc o).heap.size = w.heap.size + 1 by simp] at h1
  clear hoz
  have HONE := Hq (one_cell (n := km) (by omega))
  have HBB : Hid (w.heap.size ≤ W.heap.size) := Hq (by have := HWS.out; omega)
  go_cut [4] from 10 to 18 (fun x4 wx => ∃ g k c, x4 = .slice (some ⟨g, 0, none⟩) k c ∧ k = 1 ∧ Own wx W.heap.size (.slice (some ⟨g, 0, none⟩) k c) [UInt8.ofNat km] ∧ Below W.heap.size W wx)
  case first =>
   have hwr : IntKind.u8.wrap (km : Int) = (km : Int) := by rw [IntKind.wrap_u8]; omega
   have HBD : Hid (Below W.heap.size W w1.drew) := Hq HB.out.drew
   have HBD2 : Hid (∀ o : Obj, Below W.heap.size W (w1.alloc o).drew) := Hq fun o => (HB.out.alloc HB.out.size _).drew
   have HBD5 : Hid (∀ o : Obj, Below W.heap.size W (w1.alloc o)) := Hq fun o => (HB.out.alloc HB.out.size _)
   have HBD3 : Hid (∀ (w' : World) (o : Obj), Below W.heap.size W w' → Below W.heap.size W (w'.alloc o)) := Hq fun w' o h => h.alloc h.size _
   go_region_held3 (fun w' => w'.cell? ⟨w.heap.size, 0, none⟩ = some (.bool n.leaf) ∧ w'.cell? ⟨w.heap.size, 1, none⟩ = some (.slice n.kq km n.kc) ∧ w'.cell? ⟨w.heap.size, 2, none⟩ = some (.slice n.vq vm n.vc) ∧ w'.cell? ⟨w.heap.size, 3, none⟩ = some (.slice n.iq im n.ic))
    (first | exact (HC.out _ HBD.out).2 | exact (HC.out _ (HBD2.out _)).2 | exact (HC.out _ (HBD5.out _)).2 | exact (HC.out _ HB3.out).2 | exact (HC.out _ (HBD3.out _ _ (HBD3.out _ _ HB2.out))).2 | exact (HC.out _ (HBD3.out _ _ HB2.out)).2 | exact (HC.out _ HB2.out).2)
    (first
     | (go_at_call 169; (with_reducible refine (HSZ.out _ HBD.out).mono ?_); rintro e w2 ⟨rfl, hb2⟩; have HB2 := Hq (HBD.out.trans (hb2.mono HBD.out.size)); clear hb2)
     | (go_at_call 169; (with_reducible refine (HSZ.out _ (HBD2.out _)).mono ?_); rintro e w2 ⟨rfl, hb2⟩; have HB2 := Hq ((HBD2.out _).trans (hb2.mono (HBD2.out _).size)); have HS2 : Hid (Bs w2 (some ⟨w1.heap.size, 0, none⟩) [UInt8.ofNat km]) := Hq ((Bs.new w1 5 (0, 0) _ rfl HONE.out).drew.below hb2); clear hb2)
     | (refine step_appAt rfl (.tmp 12) (.tmp 17) rfl rfl (HOZ.out w2 W.heap.size HB2.out.size) rfl (m := [UInt8.ofNat km]) rfl rfl (HS2.out.alloc (.cells Z 5)) (fun h => by cases h) (by simp) (by simp) (by have := HB2.out.size; simp; omega) ?_; intro g3 n3 d3 w3 ha; have HN3 : Hid (n3 = 1) := Hq ha.len; have HO3 := Hq ha.own; have HB3 := Hq ((HBD3.out _ _ HB2.out).trans (ha.below (HOZ.out w2 W.heap.size HB2.out.size) (HBD3.out _ _ HB2.out).size)); clear ha)
     | (refine step_appAt rfl (.tmp 12) (.tmp 17) rfl rfl (HOZ1.out w2 (.cells #[.int .u8 (km : Int)] 5) W.heap.size HB2.out.size) rfl (m := [UInt8.ofNat km]) rfl rfl ((Bs.new w2 5 (0, 0) #[.int .u8 (km : Int)] rfl HONE.out).alloc (.cells Z 5)) (fun h => by cases h) (by simp) (by simp) (by have := HB2.out.size; simp; omega) ?_; intro g3 n3 d3 w3 ha; have HN3 : Hid (n3 = 1) := Hq ha.len; have HO3 := Hq ha.own; have HB3 := Hq ((HBD3.out _ _ (HBD3.out _ _ HB2.out)).trans (ha.below (HOZ1.out w2 (.cells #[.int .u8 (km : Int)] 5) W.heap.size HB2.out.size) (HBD3.out _ _ (HBD3.out _ _ HB2.out)).size)); clear ha)
     | (refine step_appAt rfl (.tmp 12) (.tmp 17) rfl rfl ((HOZ.out w2 W.heap.size HB2.out.size).alloc (.cells #[.int .u8 (km : Int)] 5)) rfl (m := [UInt8.ofNat km]) rfl rfl (Bs.new (w2.alloc (.cells Z 5)) 5 (0, 0) #[.int .u8 (km : Int)] (by simp) HONE.out) (fun h => by cases h) (by simp) (by simp) (by have := HB2.out.size; simp; omega) ?_; intro g3 n3 d3 w3 ha; have HN3 : Hid (n3 = 1) := Hq ha.len; have HO3 := Hq ha.own; have HB3 := Hq ((HBD3.out _ _ (HBD3.out _ _ HB2.out)).trans (ha.below ((HOZ.out w2 W.heap.size HB2.out.size).alloc (.cells #[.int .u8 (km : Int)] 5)) (HBD3.out _ _ (HBD3.out _ _ HB2.out)).size)); clear ha)
     | fail)
   all_goals
    go_wp2_with fail
    go_meet
    exact ⟨_, _, _, rfl, HN3.out, HO3.out, HB3.out⟩
  case rest =>
   obtain ⟨g, k0, c, rfl, hk0, ho, hb⟩ := hcut
   have HO := Hq ho
   have HK0 := Hq hk0
   have HBC := Hq hb
   clear ho hb c0 c1 c2 c3 hmk HOZ HOZ1 HSZ hk0
   have HPL : Hid (n.s.put.length ≤ 493) := Hq (by rw [HRI.out.length]; exact HRI.out.size)
   obtain ⟨_, c0, c1, c2, c3⟩ := HC.out _ HBC.out
   cases hl : n.leaf
   ·
    have HL := Hq hl
    rw [hl] at HC c0
    have HBR := Hq (HRI.out.branch hl)
    clear hl
    have him : im = km + 1 := by have := HBR.out.1; have h2 := HIM.out; have h3 := HKM.out; rw [Nd.s_ks, List.length_map] at this; rw [h2, h3]; exact this
    have hi1 := HOK.out.i1
    have hi2 := HOK.out.i2
    obtain ⟨i0, ti, hti⟩ : ∃ i0 ti, n.is = i0 :: ti := by
     cases h : n.is with
     | nil => have := HIM.out; rw [h] at this; simp at this; omega
     | cons a l => exact ⟨a, l, rfl⟩
    have hi0 : n.is[0]? = some i0 := by rw [hti]; rfl
    obtain ⟨bi, oi, hiq, hci⟩ := ((HOK.out.below HBW.out).below HBC.out).il.at hi0
    have hp0 : PageOk i0 := HBR.out.2.2 i0 (by show i0 ∈ n.is; rw [hti]; exact List.mem_cons_self)
    obtain ⟨i0n, rfl⟩ := Int.eq_ofNat_of_zero_le (show 0 ≤ i0 by have := hp0.1; omega)
    have HPUT : Hid (n.s.put = [UInt8.ofNat km] ++ two i0n ++ entsB n.s.ks ti) := Hq (by
     unfold NdS.put
     rw [show n.s.leaf = n.leaf from rfl, HL.out, if_neg (by simp), show n.s.is = n.is from rfl, hti, Nd.s_ks, List.length_map, ← HKM.out]
     simp [two])
    have HTI := Hq hti
    rw [Nat.add_zero] at hci
    rw [← HIM.out] at hi1
    rw [hiq] at c3
    have hblti := World.block_lt_of_cell? _ _ hci
    have him0 : 0 < im := by omega
    have HIMK := Hq him
    have HPN := Hq (putNum_any HO.out HK0.out (by have := HK0.out; omega) HBC.out.size i0n (by have := hp0.2; omega))
    have HBN : Hid (∀ {k g' n' c'} {w' : World}, AppTo wc W.heap.size g k g' n' c' w' → Below W.heap.size wc w') := Hq fun h => h.below HO.out HBC.out.size
    clear hti hi0 hp0 him
    go_wp2_with fail
    refine HPN.out.mono ?_
    rintro e w4 ⟨g4, n4, d4, rfl, ha⟩
    have HA4 := Hq ha
    have HB4 := Hq (HBC.out.trans (HBN.out ha))
    clear ha c0 c1 c2 c3 hci hblti HPN HBN
    obtain ⟨_, c0, c1, c2, c3⟩ := HC.out _ HB4.out
    go_wp2
    go_loopw [4, 31] (fun s i wr => ∃ (j g m c : Nat) (l : List UInt8), i = .int .i64 (j : Int) ∧ s = .slice (some ⟨g, 0, none⟩) m c ∧ j ≤ km ∧ m = l.length ∧ Own wr W.heap.size (.slice (some ⟨g, 0, none⟩) m c) l ∧ Below W.heap.size W wr ∧ l ++ entsB (n.s.ks.drop j) (ti.drop j) = n.s.put) (fun _ i _ => km - (intOf i).toNat)
    case atStart => exact ⟨0, g4, n4, d4, _, rfl, rfl, by omega, HA4.out.len, HA4.out.own, HB4.out, by rw [HPUT.out]; rfl⟩
    case round =>
     clear c0 c1 c2 c3
     obtain ⟨j, g5, m5, d5, l5, rfl, rfl, hj, hm5, ho5, hb5, hput⟩ := hrel
     have HM5 := Hq hm5
     have HO5 := Hq ho5
     have HB5 := Hq hb5
     have HPU := Hq hput
     obtain ⟨_, c0, c1, c2, c3⟩ := HC.out _ hb5
     have hm493 : m5 ≤ 493 := by
      have h1 := HPL.out
      rw [← hput, List.length_append] at h1
      omega
     clear hm5 ho5 hb5 hput
     by_cases hlt : j < km
     ·
      obtain ⟨x, hx⟩ : ∃ x, n.ks[j]? = some x := ⟨_, List.getElem?_eq_getElem (by have := HKM.out; omega)⟩
      obtain ⟨y, hy⟩ : ∃ y, n.is[j + 1]? = some y := ⟨_, List.getElem?_eq_getElem (by have := HIM.out; have := HIMK.out; omega)⟩
      have hxm := List.mem_of_getElem? hx
      have hym : PageOk y := HBR.out.2.2 y (List.mem_of_getElem? hy)
      obtain ⟨yn, rfl⟩ := Int.eq_ofNat_of_zero_le (show 0 ≤ y by have := hym.1; omega)
      have HOW := Hq ((HOK.out.below HBW.out).below HB5.out)
      obtain ⟨b, o, hq, hblt, hkc⟩ := HOW.out.kl.at hx
      obtain ⟨bi, oi, hiq, hic⟩ := (HOK.out.below HBW.out).il.at hy
      have HIC : Hid (∀ w', Below W.heap.size W w' → w'.cell? ⟨bi, oi + (j + 1), none⟩ = some (.int .i64 (yn : Int))) := Hq fun w' hb => by
       rw [hb.cell (World.block_lt_of_cell? _ _ hic)]
       exact hic
      have hsx : n.s.ks[j]? = some x.l := by rw [Nd.s_ks, List.getElem?_map, hx]; rfl
      have hx72 := (HRI.out.rise j x.l hsx).1
      have HXO := Hq (HOW.out.ko x hxm)
      have HXB : Hid (∀ w', Below W.heap.size W w' → Bs w' x.q x.l) := Hq fun w' hb => ((HOK.out.below HBW.out).ko x hxm).bs.below hb
      have HE : Hid (entsB (n.s.ks.drop j) (ti.drop j) = txtB x.l ++ two yn ++ entsB (n.s.ks.drop (j + 1)) (ti.drop (j + 1))) := Hq (by
       have h2 : ti[j]? = some (yn : Int) := by rw [HTI.out] at hy; simpa using hy
       exact entsB_drop hsx h2)
      obtain ⟨xl, hxl⟩ : ∃ z, z = x.l.length := ⟨_, rfl⟩
      have HXL := Hq hxl
      rw [← hxl] at hkc hx72
      rw [hq] at c1
      rw [hiq] at c3
      have HPT := Hq (putText_any (k := x.c) (t := x.l) HO5.out HM5.out (by omega) HB5.out.size (fun w' hb => HXB.out w' (HB5.out.trans hb)) HXL.out (by omega) HXO.out.z (by rw [HXL.out]; exact HXO.out.h1) HXO.out.h2)
      have HBN : Hid (∀ {k g' n' c'} {w' : World}, AppTo wr W.heap.size g5 k g' n' c' w' → Below W.heap.size wr w') := Hq fun h => h.below HO5.out HB5.out.size
      have hx1 := HXO.out.h1
      have hx2 := HXO.out.h2
      rw [← hxl] at hx1
      have hj1 : j + 1 < im := by have := HIMK.out; omega
      have HYN : Hid (yn < 65536) := Hq (by have := hym.2; omega)
      rw [hq]
      clear hx hy hxm hym hsx hxl hic
      go_wp2_with fail
      refine HPT.out.mono ?_
      rintro e w5 ⟨g6, n6, d6, rfl, ha⟩
      have HA6 := Hq ha
      have HB6 := Hq (HB5.out.trans (HBN.out ha))
      clear ha c0 c1 c2 c3 hkc hblt HPT HBN
      obtain ⟨_, c0, c1, c2, c3⟩ := HC.out _ HB6.out
      have hic := HIC.out _ HB6.out
      rw [hiq] at c3
      have hbi := World.block_lt_of_cell? _ _ hic
      have HPN := Hq (putNum_any HA6.out.own HA6.out.len (by rw [HA6.out.len, List.length_append, ← HM5.out]; simp only [txtB, List.length_cons, ← HXL.out]; omega) HB6.out.size yn HYN.out)
      have HBN : Hid (∀ {k g' n' c'} {w' : World}, AppTo w5 W.heap.size g6 k g' n' c' w' → Below W.heap.size w5 w') := Hq fun h => h.below HA6.out.own HB6.out.size
      have hj2 : (j : Int) + 1 < im := by omega
      have hj3 : (0 : Int) ≤ (j : Int) + 1 := by omega
      have hj4 : ((j : Int) + 1).toNat = j + 1 := by omega
      go_wp2_with fail
      refine HPN.out.mono ?_
      rintro e w6 ⟨g7, n7, d7, rfl, ha⟩
      have HA7 := Hq ha
      have HB7 := Hq (HB6.out.trans (HBN.out ha))
      clear ha c0 c1 c2 c3 hic hbi HPN HBN
      go_wp2
      go_roundw
      case rel => exact ⟨j + 1, g7, n7, d7, _, by go_num, rfl, by omega, HA7.out.len, HA7.out.own, HB7.out, by rw [← HPU.out, HE.out]; simp⟩
      case measure => simp [intOf]; omega
     ·
      go_wp2
      go_ret2
      right
      have h1 := HPU.out
      rw [(List.drop_eq_nil_of_le (by rw [Nd.s_ks, List.length_map]; have := HKM.out; omega) : n.s.ks.drop j = [])] at h1
      have h2 : l5 = n.s.put := by rw [← h1]; simp [entsB]
      refine ⟨HRI.out, g5, m5, d5, rfl, ?_, ?_, HBS.out _ HB5.out⟩
      ·
       rw [← h2]; exact HM5.out
      ·
       rw [← h2]; exact HO5.out.le HBB.out
   ·
    have HL := Hq hl
    rw [hl] at HC c0
    have HBR := Hq (HRI.out.leaf hl)
    clear hl
    have hvm : vm = km := by have := HBR.out.1; have h2 := HVM.out; have h3 := HKM.out; rw [Nd.s_ks, List.length_map] at this; rw [h2, h3]; exact (by simpa [Nd.s] using this)
    have HVK := Hq hvm
    have hv1 := HOK.out.v1
    have hv2 := HOK.out.v2
    rw [← HVM.out] at hv1
    have HPUT : Hid (n.s.put = [UInt8.ofNat km] ++ entsL n.s.ks n.s.vs) := Hq (by
     unfold NdS.put
     rw [show n.s.leaf = n.leaf from rfl, HL.out, if_pos rfl, Nd.s_ks, List.length_map, ← HKM.out]
     simp)
    clear hvm
    go_wp2
    go_loopw [4, 31] (fun s i wr => ∃ (j g m c : Nat) (l : List UInt8), i = .int .i64 (j : Int) ∧ s = .slice (some ⟨g, 0, none⟩) m c ∧ j ≤ km ∧ m = l.length ∧ Own wr W.heap.size (.slice (some ⟨g, 0, none⟩) m c) l ∧ Below W.heap.size W wr ∧ l ++ entsL (n.s.ks.drop j) (n.s.vs.drop j) = n.s.put) (fun _ i _ => km - (intOf i).toNat)
    case atStart => exact ⟨0, g, k0, c, [UInt8.ofNat km], rfl, rfl, by omega, HK0.out, HO.out, HBC.out, by rw [HPUT.out]; rfl⟩
    case round =>
     clear c0 c1 c2 c3
     obtain ⟨j, g5, m5, d5, l5, rfl, rfl, hj, hm5, ho5, hb5, hput⟩ := hrel
     have HM5 := Hq hm5
     have HO5 := Hq ho5
     have HB5 := Hq hb5
     have HPU := Hq hput
     obtain ⟨_, c0, c1, c2, c3⟩ := HC.out _ hb5
     have hm493 : m5 ≤ 493 := by
      have h1 := HPL.out
      rw [← hput, List.length_append] at h1
      omega
     clear hm5 ho5 hb5 hput
     by_cases hlt : j < km
     ·
      obtain ⟨x, hx⟩ : ∃ x, n.ks[j]? = some x := ⟨_, List.getElem?_eq_getElem (by have := HKM.out; omega)⟩
      obtain ⟨y, hy⟩ : ∃ y, n.vs[j]? = some y := ⟨_, List.getElem?_eq_getElem (by have := HVM.out; have := HVK.out; omega)⟩
      have hxm := List.mem_of_getElem? hx
      have hym := List.mem_of_getElem? hy
      have HYR : Hid y.s.Right := Hq (HBR.out.2.2 y.s (List.mem_map_of_mem hym))
      have HOW := Hq ((HOK.out.below HBW.out).below HB5.out)
      obtain ⟨b, o, hq, hblt, hkc⟩ := HOW.out.kl.at hx
      obtain ⟨bi, oi, hiq, _, hic⟩ := (HOK.out.below HBW.out).vl.at hy
      have HIC : Hid (∀ w', Below W.heap.size W w' → bi < w'.heap.size ∧ w'.cell? ⟨bi, oi + j * 3, none⟩ = some (.slice y.q y.l.length y.c) ∧ w'.cell? ⟨bi, oi + j * 3 + 1, none⟩ = some (.int .i64 y.g) ∧ w'.cell? ⟨bi, oi + j * 3 + 2, none⟩ = some (.int .i64 y.p)) := Hq fun w' hb => by
       obtain ⟨h1, h2, h3⟩ := hic
       have hbl : bi < W.heap.size := World.block_lt_of_cell? _ _ h1
       exact ⟨Nat.lt_of_lt_of_le hbl hb.size, by rw [hb.cell hbl]; exact h1, by rw [hb.cell hbl]; exact h2, by rw [hb.cell hbl]; exact h3⟩
      have hsx : n.s.ks[j]? = some x.l := by rw [Nd.s_ks, List.getElem?_map, hx]; rfl
      have hsy : n.s.vs[j]? = some y.s := by rw [show n.s.vs = n.vs.map Vl.s from rfl, List.getElem?_map, hy]; rfl
      have hx72 := (HRI.out.rise j x.l hsx).1
      have HXO := Hq (HOW.out.ko x hxm)
      have HXB : Hid (∀ w', Below W.heap.size W w' → Bs w' x.q x.l) := Hq fun w' hb => ((HOK.out.below HBW.out).ko x hxm).bs.below hb
      have HYB : Hid (∀ w', Below W.heap.size W w' → y.Ok w') := Hq fun w' hb => ((HOK.out.below HBW.out).vo y hym).below hb
      have HE : Hid (entsL (n.s.ks.drop j) (n.s.vs.drop j) = txtB x.l ++ valB y.s ++ entsL (n.s.ks.drop (j + 1)) (n.s.vs.drop (j + 1))) := Hq (entsL_drop hsx hsy)
      obtain ⟨xl, hxl⟩ : ∃ z, z = x.l.length := ⟨_, rfl⟩
      have HXL := Hq hxl
      rw [← hxl] at hkc hx72
      rw [hq] at c1
      rw [hiq] at c2
      have HPT := Hq (putText_any (k := x.c) (t := x.l) HO5.out HM5.out (by omega) HB5.out.size (fun w' hb => HXB.out w' (HB5.out.trans hb)) HXL.out (by omega) HXO.out.z (by rw [HXL.out]; exact HXO.out.h1) HXO.out.h2)
      have HBN : Hid (∀ {k g' n' c'} {w' : World}, AppTo wr W.heap.size g5 k g' n' c' w' → Below W.heap.size wr w') := Hq fun h => h.below HO5.out HB5.out.size
      have hx1 := HXO.out.h1
      have hx2 := HXO.out.h2
      rw [← hxl] at hx1
      have hj1 : j < vm := by have := HVK.out; omega
      have hj1i : (j : Int) < vm := by omega
      have hyo := HYB.out W (Below.refl _ _)
      have hy1 := hyo.h1
      have hy2 := hyo.h2
      rw [hq]
      clear hx hy hxm hym hsx hsy hxl hic hyo
      go_wp2_with fail
      refine HPT.out.mono ?_
      rintro e w5 ⟨g6, n6, d6, rfl, ha⟩
      have HA6 := Hq ha
      have HB6 := Hq (HB5.out.trans (HBN.out ha))
      clear ha c0 c1 c2 c3 hkc hblt HPT HBN
      obtain ⟨_, c0, c1, c2, c3⟩ := HC.out _ HB6.out
      obtain ⟨hbi, e0, e1, e2⟩ := HIC.out _ HB6.out
      rw [hiq] at c2
      have HPN := Hq (putVal_any (x := y) HA6.out.own HA6.out.len (by rw [HA6.out.len, List.length_append, ← HM5.out]; simp only [txtB, List.length_cons, ← HXL.out]; omega) HB6.out.size (fun w' hb => (HYB.out w' (HB6.out.trans hb)).bs) (HYB.out _ HB6.out) HYR.out)
      unfold Vl.cell at HPN
      have HBN : Hid (∀ {k g' n' c'} {w' : World}, AppTo w5 W.heap.size g6 k g' n' c' w' → Below W.heap.size w5 w') := Hq fun h => h.below HA6.out.own HB6.out.size
      go_wp2_with fail
      with_reducible refine HPN.out.mono ?_
      rintro e w6 ⟨g7, n7, d7, rfl, ha⟩
      have HA7 := Hq ha
      have HB7 := Hq (HB6.out.trans (HBN.out ha))
      clear ha c0 c1 c2 c3 e0 e1 e2 hbi HPN HBN
      go_wp2
      rw [← hiq, ← hq]
      go_roundw
      case rel => exact ⟨j + 1, g7, n7, d7, _, by go_num, rfl, by omega, HA7.out.len, HA7.out.own, HB7.out, by rw [← HPU.out, HE.out]; simp⟩
      case measure => simp [intOf]; omega
     ·
      go_wp2
      go_ret2
      right
      have h1 := HPU.out
      rw [(List.drop_eq_nil_of_le (by rw [Nd.s_ks, List.length_map]; have := HKM.out; omega) : n.s.ks.drop j = [])] at h1
      have h2 : l5 = n.s.put := by rw [← h1]; simp [entsL]
      refine ⟨HRI.out, g5, m5, d5, rfl, ?_, ?_, HBS.out _ HB5.out⟩
      ·
       rw [← h2]; exact HM5.out
      ·
       rw [← h2]; exact HO5.out.le HBB.out
end Go.Proofs.YtbbgdbnjmonbgaaGreatDoor

set_option linter.unusedVariables false
set_option maxRecDepth 100000
namespace Go.Proofs.YtbbgdbnjmonbgaaGreatDoor
open Go.RowKit
set_option maxHeartbeats 400000 in
theorem bEqual_any {w : World} {p q : Option Addr} {l m : List UInt8} (hl : Bs w p l) (hm : Bs w q m) {n k c d : Nat} (hn : n = l.length) (hk : k = m.length) :
  Calls Tryz.prog 112 #[.slice p n c, .slice q k d] w fun e w' => e = .returned (.bool (decide (l = m))) ∧ w' = w := by
 have h1 := str_of hl (c := c) hn
 have h2 := str_of hm (c := d) hk
 clear hl hm hn hk
 go_enter Tryz.func112, Tryz.ntmps112
 go_wp2
 go_ret
 refine ⟨ret_bool ?_, rfl⟩
 by_cases h : l = m <;> simp [h]
def BClonePost (w : World) (l : List UInt8) (e : Ending) (w' : World) : Prop := ∃ p c, e = .returned (.slice p l.length c) ∧ Bs w' p l ∧ l.length ≤ c ∧ c ≤ 9223372036854775807 ∧ (p = none → c = 0) ∧ (∀ a, p = some a → a.block < w'.heap.size ∧ ∃ cs f, w'.heap[a.block]? = some (.cells cs 5 f)) ∧ Below w.heap.size w w'
set_option maxHeartbeats 400000 in
theorem bClone_any {w : World} {p : Option Addr} {l : List UInt8} (hl : Bs w p l) {n c : Nat} (hn : n = l.length) (hb : n ≤ 1000000) (hz : p = none → c = 0) (hnc : n ≤ c) :
  Calls Tryz.prog 130 #[.slice p n c] w (BClonePost w l) := by
 cases p with
 | none =>
  obtain rfl := hz rfl
  obtain rfl : n = 0 := by omega
  obtain rfl := List.eq_nil_of_length_eq_zero hn.symm
  have hnil : ∀ w : World, (binOp .eql 33 (.slice none 0 0) (.slice none 0 0)).run Tryz.prog w = .ok (.bool true) w := fun w => by kernel_rfl
  clear hz hl hn
  go_enter Tryz.func130, Tryz.ntmps130
  go_wp2
  go_ret
  exact ⟨none, 0, rfl, Bs.nil _ _, Nat.le_refl _, by omega, fun _ => rfl, fun a h => (by cases h), Below.refl _ _⟩
 | some a =>
  have HL := Hq hl
  have HN := Hq hn
  have HO : Hid (Own (w.alloc (.cells #[] 5)) w.heap.size (.slice (.some ⟨w.heap.size, 0, none⟩) 0 0) []) := Hq (Own.empty w _ (Nat.le_refl _))
  clear hl hn hz
  have hnil : ∀ w : World, (binOp .eql 33 (.slice (some a) n c) (.slice none 0 0)).run Tryz.prog w = .ok (.bool false) w := fun w => by kernel_rfl
  go_enter Tryz.func130, Tryz.ntmps130
  go_wp2_with (at_builtin; refine app_own rfl (.tmp 5) (.tmp 6) rfl rfl HO.out HN.out rfl (HL.out.alloc _) (fun h => by cases h) (by have := HN.out; simp; omega) (by simp) ?_; intro v2 w2 ho2 hb2; have HO2 := Hq ho2; have HB2 := Hq (((Below.refl w.heap.size w).alloc (Nat.le_refl _) _).trans hb2); clear ho2 hb2)
  go_ret
  obtain ⟨q, d, rfl, h1, h2, h3, h4⟩ := HO2.out.form rfl
  refine ⟨q, d, rfl, h3, h1, h2, h4, fun b hb => ?_, HB2.out⟩
  rcases HO2.out.2 with ⟨e, _⟩ | ⟨g, cap, cur, e, _, hg, _⟩
  ·
   injection e with e1 e2 e3
   rw [e1] at hb
   cases hb
  ·
   injection e with e1 e2 e3
   rw [e1] at hb
   cases hb
   exact ⟨(aL hg), _, _, hg⟩
theorem results_cell_tmp {fn : Func} {p t : Tmp} {ty : TypeId} (h : fn.results = #[.cell p ty, .tmp t]) (tmps : Array Value) (w : World) (g : Nat) (tt : TypeId) (cs : Array Value) (fr : Nat × Nat) {fs : Array Field}
  (hp : tmps.getD p undef = .pointer (some ⟨g, 0, none⟩)) (hg : w.heap[g]? = some (.cells cs tt fr))
  (hu : Tryz.prog.underlying ty = some (.struct fs)) (hi : (Tryz.prog.info? ty).map (·.size) = some cs.size) :
  (results fn tmps).run Tryz.prog w = .ok (.tuple #[.agg cs, tmps.getD t undef]) w := by
 have hp' : tmps[p]?.getD undef = .pointer (some ⟨g, 0, none⟩) := by simpa using hp
 simp [results, h, hp', asAddr, run_loadVar_row w g tt ty cs fr _ hg hu rfl hi, Result.andThen]
end Go.Proofs.YtbbgdbnjmonbgaaGreatDoor

