/-
  tree.
  tree.Put of the empty tree.
  tree.Put of the empty tree.
-/
import Derived.Test.YtbbgdbnjmonbgaaGreatDoorH00
import Derived.Test.YtbbgdbnjmonbgaaGreatDoorH24
import Derived.Test.YtbbgdbnjmonbgaaGreatDoorH26
import Derived.Test.YtbbgdbnjmonbgaaGreatDoorTrTurn
import Derived.LoopTactic
set_option linter.unusedVariables false
set_option linter.unusedSimpArgs false
set_option maxRecDepth 100000
namespace Go.Proofs.YtbbgdbnjmonbgaaGreatDoor
open Go.RowKit
def lenV : Value → Nat | .slice _ n _ => n | _ => 0
section
variable {w : World} {B P pd sm : Nat} {X : PG} {seen : Int → Bool}
set_option maxHeartbeats 6400000 in
theorem way_any (h : LookAt w B P pd sm X seen) (hBw : B ≤ w.heap.size) (root : Int) {k : Kb} (hk : k.Ok w) :
  Calls Tryz.prog 64 #[.agg #[.pointer (some ⟨P, 0, none⟩), .map (some sm)], .int .i64 root, .slice k.q k.l.length k.c] w (WayPost w B P pd sm X seen root k.l) := by
 obtain ⟨W, hW⟩ : ∃ W, W = w.alloc (.cells #[.pointer (some ⟨P, 0, none⟩), .map (some sm)] 95) := ⟨_, rfl⟩
 have hbw : Below w.heap.size w W := by rw [hW]; exact sbox1 _ _
 have hb0 : W.heap[w.heap.size]? = some (.cells #[.pointer (some ⟨P, 0, none⟩), .map (some sm)] 95 (0, 0)) := by rw [hW]; exact heap_alloc_new w _
 have hlt := h.lt
 have HW := Hq (h.below hbw)
 have HSW : Hid (LStep sm w W) := Hq (h.step hbw)
 have HLT := Hq hlt
 have HBB := Hq hBw
 have HKO : Hid (∀ w', LStep sm w w' → k.Ok w') := Hq fun w' hs => ⟨hs.keeps.bs hk.bs (fun _ _ _ _ _ _ _ => rfl), hk.h1, hk.h2, hk.z⟩
 have HB0 := Hq hb0
 have HWS := Hq hbw.size
 by_cases hr0 : root = 0
 ·
  subst hr0
  clear h hk hbw hb0 hlt hBw
  go_enter Tryz.func64, Tryz.ntmps64
  go_wp2
  rw [← hW]
  go_ret2
  exact .inl ⟨none, 0, 0, [], rfl, rfl, World.ownsRow_nil _ _ _ _, (fun x hx => by cases hx), by decide, (by unfold WayR; rw [if_pos rfl]; rfl), HW.out, HSW.out⟩
 have hrb : (root == 0) = false := by rw [beq_eq_false_iff_ne]; exact hr0
 have HTOP := Hq (top_any (w := W) root)
 have HRI : Hid (∀ m, WayR X k.l seen root m ↔ WayS X k.l seen root 1 SpS.zero m) := Hq fun m => by unfold WayR; rw [if_neg hr0]
 clear h hk hb0 hlt hBw
 go_enter Tryz.func64, Tryz.ntmps64
 go_wp2_with fail
 rw [← hW]
 replace hW := Hq hW
 refine HTOP.out.mono ?_
 clear HTOP
 rintro e w1 ⟨rfl, hb1⟩
 have HR0 : Hid (WR w (w1.alloc (.cells #[.int .i64 root, .int .i64 1, .slice none 0 0, .slice none 0 0, .bool false] 129)) B P pd sm X k.l seen root (.slice none 0 0) w1.heap.size [] ⟨root, 1, Sp.zero⟩ seen) := Hq (by
  have hb2 : Below W.heap.size W (w1.alloc (.cells #[.int .i64 root, .int .i64 1, .slice none 0 0, .slice none 0 0, .bool false] 129)) := hb1.trans ((sbox1 _ _).mono hb1.size)
  exact ⟨⟨HW.out.below hb2, HSW.out.trans (HW.out.step hb2), (hb2.block _ (aL HB0.out)).trans HB0.out, heap_alloc_new _ _, Nat.le_trans HWS.out hb1.size, World.ownsRow_nil _ _ _ _, (fun x hx => by cases hx), Sp.zero_t _⟩, rfl, by decide, rfl, fun m => ⟨fun hm => ⟨m, rfl, hm⟩, fun ⟨m', e, hm⟩ => by rw [e]; exact hm⟩⟩)
 clear hb1
 go_wp2
 obtain ⟨w2, hw2⟩ : ∃ x, x = w1.alloc (.cells #[.int .i64 root, .int .i64 1, .slice none 0 0, .slice none 0 0, .bool false] 129) := ⟨_, rfl⟩
 obtain ⟨bp0, hbp0⟩ : ∃ x, x = w1.heap.size := ⟨_, rfl⟩
 rw [← hw2, ← hbp0] at HR0
 rw [← hw2, ← hbp0]
 clear hw2 hbp0
 go_loopw [8, 9] (fun v p wr => ∃ (bp : Nat) (l : List St) (pc : Pc) (seen' : Int → Bool), p = .pointer (some ⟨bp, 0, none⟩) ∧ WR w wr B P pd sm X k.l seen root v bp l pc seen') (fun v _ _ => 17 - lenV v)
 case atStart => exact ⟨_, _, _, _, rfl, HR0.out⟩
 case round =>
  obtain ⟨bp, l, pc, seen', rfl, hR⟩ := hrel
  clear HR0
  obtain ⟨vq, vn, vc, rfl, hvn, hvc⟩ : ∃ q n c, u8 = .slice q n c ∧ n = l.length ∧ n ≤ c := by
   obtain ⟨q, c, e, h1, _⟩ := row_form hR.m.so
   exact ⟨q, _, c, e, rfl, h1⟩
  have HR := Hq hR
  have HVN := Hq hvn
  have hvn16 : vn ≤ 16 := by rw [hvn]; exact hR.l16
  have HND := Hq (lookNode_any hR.m.la (Nat.le_trans HBB.out hR.m.st.size) hR.m.ps.ok)
  unfold Pc.v at HND
  obtain ⟨p0, p1, p2, p3, p4⟩ := PBox.of hR.m.pb
  have x0 := (jC hR.m.bx 0).trans rfl
  have x1 := (jC hR.m.bx 1).trans rfl
  clear hR hvn
  go_wp2_with fail
  refine HND.out.mono ?_
  clear HND p0 p1 p2 p3 p4 x0 x1
  rintro e w3 (⟨n, rfl, hna, hnr, hno, hla, hst⟩ | ⟨rfl, hna, ⟨seen2, hla⟩, hst⟩)
  ·
   have HM3 := Hq (HR.out.m.look hst hla)
   have HNA := Hq hna
   have HNR := Hq hnr
   have hksl : n.s.ks.length = n.ks.length := by show (n.ks.map Kb.l).length = _; rw [List.length_map]
   have h250 : n.ks.length ≤ 250 := by have := hnr.many; omega
   obtain ⟨W4, hW4⟩ : ∃ W4, W4 = w3.alloc (.cells #[.bool n.leaf, .slice n.kq n.ks.length n.kc, .slice n.vq n.vs.length n.vc, .slice n.iq n.is.length n.ic] 106) := ⟨_, rfl⟩
   have hb4 : Below w3.heap.size w3 W4 := by rw [hW4]; exact sbox1 _ _
   have HM4 := Hq (HM3.out.below hb4)
   have HN4 := Hq (hno.below hb4)
   have hbx : W4.heap[w3.heap.size]? = some (.cells n.cells 106 (0, 0)) := by rw [hW4]; exact heap_alloc_new _ _
   have HBK := Hq hbx
   have HBX : Hid (∀ w', Below W4.heap.size W4 w' → NBox w' w3.heap.size n) := Hq fun w' hb => (NBox.of hbx).low hb (aL hbx)
   have HBS := Hq (bsKeys_any HN4.out.ok.kl HN4.out.ok.ko rfl HN4.out.ok.k1 (by omega) (show Up (n.ks.map Kb.l) from hnr.rise.up) (HKO.out _ HM4.out.st))
   have HVI : Hid (n.leaf = false → n.is.length = n.ks.length + 1) := Hq fun h0 => by
    have := (hnr.branch h0).1
    rw [hksl] at this
    exact this
   clear hna hnr hno hla hst hb4 hbx
   dsimp only [Nd.cell]
   go_wp2_with fail
   rw [← hW4]
   replace hW4 := Hq hW4
   refine HBS.out.mono ?_
   clear HBS
   rintro e w5 ⟨i, b, rfl, hat, hb5⟩
   have HAT := Hq hat
   have HM5 := Hq (HM4.out.below hb5)
   have HN5 := Hq (HN4.out.below hb5)
   obtain ⟨n0, n1, n2, n3⟩ := HBX.out w5 hb5
   have HB5 := Hq ((hb5.block _ (aL HBK.out)).trans HBK.out)
   obtain ⟨p0, p1, p2, p3, p4⟩ := PBox.of HM5.out.pb
   clear hb5 hat
   obtain ⟨lf, kq, kc, ks, vq, vc, vs, iq, ic, is⟩ := n
   dsimp only [Nd.s] at n0 n1 n2 n3 hksl h250 HAT HNA HNR HVI
   cases lf
   ·
    cases b
    ·
     have hjk : i ≤ ks.length := by
      have h1 := HAT.out.le
      rw [List.length_map] at h1
      exact h1
     have HJE : Hid (i = if false = true then i + 1 else i) := Hq (by rw [if_neg (by decide)])
     obtain ⟨kid, hkid⟩ : ∃ kid, is[i]? = some kid := ⟨_, List.getElem?_eq_getElem (by have := HVI.out rfl; omega)⟩
     have HKID := Hq hkid
     have hjl : i < is.length := (List.getElem?_eq_some_iff.1 hkid).1
     have HU : Hid (St.Ok w5 ⟨pc, ⟨false, kq, kc, ks, vq, vc, vs, iq, ic, is⟩, i, false⟩) := Hq ⟨HM5.out.ps, HN5.out⟩
     have HSZ := Hq HM5.out.st.size
     have hd16 : pc.deep ≤ 16 := HNA.out.2.1
     have hd0 : 0 ≤ pc.deep := by have := HR.out.dp; omega
     clear hkid
     try dsimp only
     go_wp2_with (at_builtin; refine app_st rfl (.tmp 47) (.tmp 52) rfl ⟨pc, ⟨false, kq, kc, ks, vq, vc, vs, iq, ic, is⟩, i, false⟩ rfl (row_below HM5.out.so (sbox1 _ _)) rfl (heap_alloc_new _ _) (by have := HVN.out; omega) (by have := HSZ.out; simp; omega) ?_; intro q6 n6 c6 w6 hn6 hs6 hg6; have HX6 := Hq ((HM5.out.below (sbox1 _ _)).append HLT.out HBB.out hg6 (HU.out.keeps (.maps (bs := []) (Keeps.below (sbox1 _ _)))) hs6); have HN6 := Hq hn6; have HNB := Hq (SOwn.off (row_below HM5.out.so (sbox1 _ _)) hg6 (((sbox1 _ _).block _ (aL HB5.out)).trans HB5.out) (by decide)); have HNO6 := Hq ((HN5.out.below (sbox1 _ _)).keeps HX6.out.2); obtain ⟨n0, n1, n2, n3⟩ := NBox.of (n := ⟨false, kq, kc, ks, vq, vc, vs, iq, ic, is⟩) HNB.out; obtain ⟨p0, p1, p2, p3, p4⟩ := PBox.of HX6.out.1.pb; clear hn6 hs6 hg6)
     have HKD := Hq (kid_any (p := pc) HX6.out.1.ps.ok (n := ⟨false, kq, kc, ks, vq, vc, vs, iq, ic, is⟩) HNO6.out.ok (i := i) hjk hjl (by show ks.length ≤ _; omega) (by omega) (by omega))
     unfold Pc.v Nd.cell at HKD
     try dsimp only
     refine HKD.out.mono ?_
     clear HKD
     rintro e w7 ⟨rfl, hb7⟩
     obtain ⟨pc', hpc'⟩ : ∃ x, x = kidP pc ⟨false, kq, kc, ks, vq, vc, vs, iq, ic, is⟩ i := ⟨_, rfl⟩
     have HE1 : Hid (pc'.no = kid) := Hq (by rw [hpc']; show is[i]?.getD 0 = _; rw [HKID.out]; rfl)
     have HE2 : Hid (pc'.deep = pc.deep + 1) := Hq (by rw [hpc']; rfl)
     have HE3 : Hid (pc'.s.s = kidS pc.s.s (ks.map Kb.l) i) := Hq (by rw [hpc']; exact kidP_s pc ⟨false, kq, kc, ks, vq, vc, vs, iq, ic, is⟩ hjk)
     have HM7 := Hq (HX6.out.1.below hb7)
     have HPT : Hid (pc'.s.T w7) := Hq (by rw [hpc']; exact kidP_t HM7.out.ps (HNO6.out.below hb7) _)
     have q0 := jU HM7.out.pb
     obtain ⟨p0, p1, p2, p3, p4⟩ := PBox.of HM7.out.pb
     rw [← hpc']
     clear hb7 hpc' n0 n1 n2 n3
     try dsimp only
     go_wp2
     go_roundw
     case rel =>
      refine ⟨_, l ++ [⟨pc, ⟨false, kq, kc, ks, vq, vc, vs, iq, ic, is⟩, i, false⟩], pc', add seen' pc.no, rfl, ?_, ?_, ?_, ?_, ?_⟩
      ·
       have h1 := (HM7.out.place HLT.out HBB.out HPT.out rfl).fresh rfl
       rw [show (((((w7.setCell ⟨bp, 0, none⟩ (.int .i64 pc'.no)).setCell ⟨bp, 1, none⟩ (.int .i64 pc'.deep)).setCell ⟨bp, 2, none⟩ (.slice pc'.s.f.q pc'.s.f.l.length pc'.s.f.c)).setCell ⟨bp, 3, none⟩ (.slice pc'.s.t.q pc'.s.t.l.length pc'.s.t.c)).setCell ⟨bp, 4, none⟩ (.bool pc'.s.e)).heap.size = w7.heap.size by simp] at h1
       exact h1
      ·
       rw [HE2.out, HR.out.dp, List.length_append]
       show _ = ((_ + 1 : Nat) : Int) + 1
       omega
      ·
       rw [List.length_append]
       show _ + 1 ≤ 16
       have := HR.out.dp
       omega
      ·
       rw [HR.out.sn, List.map_append, show (List.map (fun x : St => x.pc.no) [⟨pc, ⟨false, kq, kc, ks, vq, vc, vs, iq, ic, is⟩, i, false⟩]) = [pc.no] from rfl, addL_snoc]
      ·
       intro m
       rw [HR.out.iff m]
       constructor
       ·
        rintro ⟨m', e, hm'⟩
        obtain ⟨m2, e2, h2⟩ := (WayS.branchIff HNA.out rfl HAT.out HJE.out HKID.out m').1 hm'
        refine ⟨m2, by rw [e, e2, List.map_append, List.append_assoc]; rfl, ?_⟩
        rw [HE1.out, HE2.out, HE3.out]
        exact h2
       ·
        rintro ⟨m2, e, h2⟩
        rw [HE1.out, HE2.out, HE3.out] at h2
        refine ⟨_, ?_, (WayS.branchIff HNA.out rfl HAT.out HJE.out HKID.out _).2 ⟨m2, rfl, h2⟩⟩
        rw [e, List.map_append, List.append_assoc]
        rfl
     case measure =>
      have h1 := HN6.out
      have h2 := HVN.out
      rw [List.length_append] at h1
      show 17 - n6 < 17 - vn
      have h3 : n6 = l.length + 1 := h1
      omega
    ·
     obtain ⟨j, hij⟩ : ∃ j : Nat, (i : Int) + 1 = (j : Int) := ⟨i + 1, by omega⟩
     have hjk : j ≤ ks.length := by
      have h1 := (HAT.out.eq.1 rfl)
      obtain ⟨h2, _⟩ := List.getElem?_eq_some_iff.1 h1
      rw [List.length_map] at h2
      omega
     have HJE : Hid (j = if true = true then i + 1 else i) := Hq (by rw [if_pos rfl]; omega)
     obtain ⟨kid, hkid⟩ : ∃ kid, is[j]? = some kid := ⟨_, List.getElem?_eq_getElem (by have := HVI.out rfl; omega)⟩
     have HKID := Hq hkid
     have hjl : j < is.length := (List.getElem?_eq_some_iff.1 hkid).1
     have HU : Hid (St.Ok w5 ⟨pc, ⟨false, kq, kc, ks, vq, vc, vs, iq, ic, is⟩, j, false⟩) := Hq ⟨HM5.out.ps, HN5.out⟩
     have HSZ := Hq HM5.out.st.size
     have hd16 : pc.deep ≤ 16 := HNA.out.2.1
     have hd0 : 0 ≤ pc.deep := by have := HR.out.dp; omega
     clear hkid
     try dsimp only
     go_wp2_with (at_builtin; refine app_st rfl (.tmp 47) (.tmp 52) rfl ⟨pc, ⟨false, kq, kc, ks, vq, vc, vs, iq, ic, is⟩, j, false⟩ rfl (row_below HM5.out.so (sbox1 _ _)) rfl (heap_alloc_new _ _) (by have := HVN.out; omega) (by have := HSZ.out; simp; omega) ?_; intro q6 n6 c6 w6 hn6 hs6 hg6; have HX6 := Hq ((HM5.out.below (sbox1 _ _)).append HLT.out HBB.out hg6 (HU.out.keeps (.maps (bs := []) (Keeps.below (sbox1 _ _)))) hs6); have HN6 := Hq hn6; have HNB := Hq (SOwn.off (row_below HM5.out.so (sbox1 _ _)) hg6 (((sbox1 _ _).block _ (aL HB5.out)).trans HB5.out) (by decide)); have HNO6 := Hq ((HN5.out.below (sbox1 _ _)).keeps HX6.out.2); obtain ⟨n0, n1, n2, n3⟩ := NBox.of (n := ⟨false, kq, kc, ks, vq, vc, vs, iq, ic, is⟩) HNB.out; obtain ⟨p0, p1, p2, p3, p4⟩ := PBox.of HX6.out.1.pb; clear hn6 hs6 hg6)
     have HKD := Hq (kid_any (p := pc) HX6.out.1.ps.ok (n := ⟨false, kq, kc, ks, vq, vc, vs, iq, ic, is⟩) HNO6.out.ok (i := j) hjk hjl (by show ks.length ≤ _; omega) (by omega) (by omega))
     unfold Pc.v Nd.cell at HKD
     try dsimp only
     refine HKD.out.mono ?_
     clear HKD
     rintro e w7 ⟨rfl, hb7⟩
     obtain ⟨pc', hpc'⟩ : ∃ x, x = kidP pc ⟨false, kq, kc, ks, vq, vc, vs, iq, ic, is⟩ j := ⟨_, rfl⟩
     have HE1 : Hid (pc'.no = kid) := Hq (by rw [hpc']; show is[j]?.getD 0 = _; rw [HKID.out]; rfl)
     have HE2 : Hid (pc'.deep = pc.deep + 1) := Hq (by rw [hpc']; rfl)
     have HE3 : Hid (pc'.s.s = kidS pc.s.s (ks.map Kb.l) j) := Hq (by rw [hpc']; exact kidP_s pc ⟨false, kq, kc, ks, vq, vc, vs, iq, ic, is⟩ hjk)
     have HM7 := Hq (HX6.out.1.below hb7)
     have HPT : Hid (pc'.s.T w7) := Hq (by rw [hpc']; exact kidP_t HM7.out.ps (HNO6.out.below hb7) _)
     have q0 := jU HM7.out.pb
     obtain ⟨p0, p1, p2, p3, p4⟩ := PBox.of HM7.out.pb
     rw [← hpc']
     clear hb7 hpc' n0 n1 n2 n3
     try dsimp only
     go_wp2
     go_roundw
     case rel =>
      refine ⟨_, l ++ [⟨pc, ⟨false, kq, kc, ks, vq, vc, vs, iq, ic, is⟩, j, false⟩], pc', add seen' pc.no, rfl, ?_, ?_, ?_, ?_, ?_⟩
      ·
       have h1 := (HM7.out.place HLT.out HBB.out HPT.out rfl).fresh rfl
       rw [show (((((w7.setCell ⟨bp, 0, none⟩ (.int .i64 pc'.no)).setCell ⟨bp, 1, none⟩ (.int .i64 pc'.deep)).setCell ⟨bp, 2, none⟩ (.slice pc'.s.f.q pc'.s.f.l.length pc'.s.f.c)).setCell ⟨bp, 3, none⟩ (.slice pc'.s.t.q pc'.s.t.l.length pc'.s.t.c)).setCell ⟨bp, 4, none⟩ (.bool pc'.s.e)).heap.size = w7.heap.size by simp] at h1
       exact h1
      ·
       rw [HE2.out, HR.out.dp, List.length_append]
       show _ = ((_ + 1 : Nat) : Int) + 1
       omega
      ·
       rw [List.length_append]
       show _ + 1 ≤ 16
       have := HR.out.dp
       omega
      ·
       rw [HR.out.sn, List.map_append, show (List.map (fun x : St => x.pc.no) [⟨pc, ⟨false, kq, kc, ks, vq, vc, vs, iq, ic, is⟩, j, false⟩]) = [pc.no] from rfl, addL_snoc]
      ·
       intro m
       rw [HR.out.iff m]
       constructor
       ·
        rintro ⟨m', e, hm'⟩
        obtain ⟨m2, e2, h2⟩ := (WayS.branchIff HNA.out rfl HAT.out HJE.out HKID.out m').1 hm'
        refine ⟨m2, by rw [e, e2, List.map_append, List.append_assoc]; rfl, ?_⟩
        rw [HE1.out, HE2.out, HE3.out]
        exact h2
       ·
        rintro ⟨m2, e, h2⟩
        rw [HE1.out, HE2.out, HE3.out] at h2
        refine ⟨_, ?_, (WayS.branchIff HNA.out rfl HAT.out HJE.out HKID.out _).2 ⟨m2, rfl, h2⟩⟩
        rw [e, List.map_append, List.append_assoc]
        rfl
     case measure =>
      have h1 := HN6.out
      have h2 := HVN.out
      rw [List.length_append] at h1
      show 17 - n6 < 17 - vn
      have h3 : n6 = l.length + 1 := h1
      omega
   ·
    have HU : Hid (St.Ok w5 ⟨pc, ⟨true, kq, kc, ks, vq, vc, vs, iq, ic, is⟩, i, b⟩) := Hq ⟨HM5.out.ps, HN5.out⟩
    have HSZ := Hq HM5.out.st.size
    try dsimp only
    go_wp2_with (at_builtin; refine app_st rfl (.tmp 36) (.tmp 42) rfl ⟨pc, ⟨true, kq, kc, ks, vq, vc, vs, iq, ic, is⟩, i, b⟩ rfl (row_below HM5.out.so (sbox1 _ _)) rfl (heap_alloc_new _ _) (by have := HVN.out; omega) (by have := HSZ.out; simp; omega) ?_; intro q6 n6 c6 w6 hn6 hs6 hg6; have HX6 := Hq ((HM5.out.below (sbox1 _ _)).append HLT.out HBB.out hg6 (HU.out.keeps (.maps (bs := []) (Keeps.below (sbox1 _ _)))) hs6); have HN6 := Hq hn6; clear hn6 hs6 hg6)
    go_ret2
    refine .inl ⟨q6, n6, c6, _, rfl, HN6.out, HX6.out.1.so, HX6.out.1.ok, ?_, ?_, ?_, HX6.out.1.st⟩
    ·
     rw [List.length_append]
     have := HVN.out
     show _ + 1 ≤ _
     omega
    ·
     refine (HRI.out _).2 ((HR.out.iff _).2 ⟨_, List.map_append, ?_⟩)
     exact WayS.leaf HNA.out rfl HAT.out
    ·
     have h1 := HX6.out.1.la
     rw [HR.out.sn] at h1
     rw [List.map_append, show (List.map (fun x : St => x.pc.no) [⟨pc, ⟨true, kq, kc, ks, vq, vc, vs, iq, ic, is⟩, i, b⟩]) = [pc.no] from rfl, addL_snoc]
     exact h1
  ·
   have HF : Hid (∀ m, ¬ WayR X k.l seen root m) := Hq fun m hm => by
    obtain ⟨m', _, hm'⟩ := (HR.out.iff m).1 ((HRI.out m).1 hm)
    obtain ⟨s, hs⟩ := hm'.node
    exact hna s hs
   have HLA := Hq hla
   have HST := Hq hst
   clear hna hla hst
   rw [ndZero]
   try dsimp only
   go_wp2
   go_ret2
   exact .inr ⟨rfl, HF.out, ⟨_, HLA.out.below (sbox1 _ _)⟩, (HR.out.m.st.trans HST.out).trans (HLA.out.step (sbox1 _ _))⟩
end
end Go.Proofs.YtbbgdbnjmonbgaaGreatDoor

set_option linter.unusedVariables false
set_option linter.unusedSimpArgs false
set_option maxRecDepth 100000
namespace Go.Proofs.YtbbgdbnjmonbgaaGreatDoor
open Go.RowKit
section
variable {w w' : World} {B P pd : Nat} {X : PG}
end
end Go.Proofs.YtbbgdbnjmonbgaaGreatDoor

set_option linter.unusedVariables false
set_option linter.unusedSimpArgs false
set_option maxRecDepth 100000
namespace Go.Proofs.YtbbgdbnjmonbgaaGreatDoor
open Go.RowKit
def putL (s : NdS) (i : Nat) (b : Bool) (k : Key) (v : VlS) : NdS := ⟨true, s.ks.take i ++ (k :: s.ks.drop (if b = true then i + 1 else i)), s.vs.take i ++ (v :: s.vs.drop (if b = true then i + 1 else i)), []⟩
def OneLeaf (X : PG) (root : Int) (s : NdS) (key : Key) (i : Nat) (b : Bool) : Prop :=
 (root = 0 ∧ s = ⟨true, [], [], []⟩ ∧ i = 0 ∧ b = false) ∨ (root ≠ 0 ∧ 0 ≤ root ∧ root < 4096 ∧ NodeIs X root s ∧ takesS SpS.zero s = true ∧ s.leaf = true ∧ s.Right ∧ At1 s.ks key i b ∧ (b = true → ∃ v, s.vs[i]? = some v ∧ v.p = 0 ∧ 0 ≤ v.g ∧ v.g ≤ 4096))
section
variable {w w' : World} {B P pd : Nat} {X : PG}
theorem OneLeaf.way {root : Int} {s : NdS} {key : Key} {i : Nat} {b : Bool} (h : OneLeaf X root s key i b) {l : List St} (hw : WayR X key (fun _ => false) root (l.map St.s)) :
  l.length ≤ 1 ∧ (endM l).n.s = s ∧ (endM l).i = i ∧ (endM l).th = b ∧ ∀ y, addL (fun _ => false) (l.map fun x => x.pc.no) y = true ↔ (root ≠ 0 ∧ y = root) := by
 unfold WayR at hw
 rcases h with ⟨h0, rfl, rfl, rfl⟩ | ⟨h0, h1, h2, h3, h4, h5, h6, h7, h8⟩
 ·
  rw [if_pos h0] at hw
  obtain rfl := List.map_eq_nil_iff.1 hw
  exact ⟨by simp, rfl, rfl, rfl, fun y => ⟨(by intro h; cases h), (by intro h; exact absurd h0 h.1)⟩⟩
 ·
  rw [if_neg h0] at hw
  have hm := (WayS.leafIff (X := X) (key := key) (seen := fun _ => false) (no := root) (deep := 1) (sp := SpS.zero) ⟨rfl, by decide, h3, h4⟩ h5 h7 _).1 hw
  match l, hm with
  | [st], hm =>
   simp only [List.map_cons, List.map_nil, List.cons.injEq, and_true] at hm
   have e1 : st.pc.no = root := congrArg StS.no hm
   refine ⟨by simp, congrArg StS.n hm, congrArg StS.i hm, congrArg StS.th hm, fun y => ?_⟩
   show add (fun _ => false) st.pc.no y = true ↔ _
   rw [e1]
   simp [add, h0]
  | [], hm => cases hm
  | _ :: _ :: _, hm => simp at hm
theorem leafT_putL {x : St} {s : NdS} {i : Nat} {b : Bool} (hs : x.n.s = s) (hi : x.i = i) {ka : SlK} {va : SlV} {key : Kb} {v : Vl} (hk : ka.l = [key]) (hv : va.l = [v]) : leafT x ka va (if b = true then i + 1 else i) = putL s i b key.l v.s := by
 subst hs
 subst hi
 unfold leafT turnK turnV putL
 rw [hk, hv]
 simp only [List.map_append, List.map_cons, List.map_take, List.map_drop, List.cons_append, List.nil_append]
 rfl
def Put1Post (w : World) (B P pd : Nat) (Y : PG) (root k : Int) (e : Ending) (w' : World) : Prop :=
 ∃ l, l.Nodup ∧ (∀ y, y ∈ l ↔ (root ≠ 0 ∧ y = root)) ∧ e = .returned (.tuple #[.int .i64 k, .int .i64 0]) ∧ GrStep w w' B P pd (Y.drops l)
set_option maxHeartbeats 6400000 in
theorem put1_ok (hT : Tab w) (h : GrAt w B P pd X) (hz : X.F.hi = X.S.size) (ht : 1 < B) {k : Nat} (hX : Lays X k) {key : Kb} (hkey : key.Ok w) (hk72 : key.l.length ≤ 72) {val : Kb} (hval : val.Ok w) (hv64 : val.l.length ≤ 64)
  {root : Int} {s : NdS} {i : Nat} {b : Bool} (hs : OneLeaf X root s key.l i b) (hr : (putL s i b key.l ⟨val.l, 0, 0⟩).Right) (hsz : (putL s i b key.l ⟨val.l, 0, 0⟩).size ≤ 493) (hcnt : (putL s i b key.l ⟨val.l, 0, 0⟩).count ≤ 100000)
  (hd : ∀ l, l.Nodup → (∀ y, y ∈ l ↔ (root ≠ 0 ∧ y = root)) → DropsOk (X.lay k (pageB 2 k (X.g + 1) (putL s i b key.l ⟨val.l, 0, 0⟩).put)) l) :
  Calls Tryz.prog 94 #[.pointer (some ⟨P, 0, none⟩), .int .i64 root, .slice key.q key.l.length key.c, .slice val.q val.l.length val.c] w (Put1Post w B P pd (X.lay k (pageB 2 k (X.g + 1) (putL s i b key.l ⟨val.l, 0, 0⟩).put)) root (k : Int)) := by
 have hB := h.base
 have HMD : Hid (Calls Tryz.prog 43 #[.pointer (some ⟨P, 0, none⟩)] w fun e w' => e = .returned (.bool true) ∧ Below w.heap.size w w') := Hq (by
  obtain ⟨lm, fm, pl, um, wm, la, v, hg⟩ := h
  exact trMade_yes hT hg hz)
 have HLA : Hid (∀ w', Below w.heap.size w w' → Calls Tryz.prog 44 #[.pointer (some ⟨P, 0, none⟩)] w' (LookPost w' B P pd X)) := Hq fun w' hb => lookAt_any (hT.below hT.lt hb) (h.below hb) hz ht
 have HPW : Hid (P < w.heap.size) := Hq (by
  obtain ⟨lm, fm, pl, um, wm, la, v, hg⟩ := h
  exact (aL hg.blk))
 have HK := Hq fun w' (hb : Below w.heap.size w w') => hkey.below hb
 have HV := Hq fun w' (hb : Below w.heap.size w w') => hval.below hb
 have HB := Hq hB
 have HX := Hq hX
 have HS := Hq hs
 have HR := Hq hr
 have HSZ := Hq hsz
 have HCT := Hq hcnt
 have HDD := Hq hd
 have HV64 := Hq hv64
 have hkc := hkey.h1
 have hkm := hkey.h2
 have hvc := hval.h1
 have hvm := hval.h2
 have d72 : decide ((72 : Int) < (key.l.length : Int)) = false := decide_eq_false (by omega)
 have d96 : decide ((4096 : Int) < (val.l.length : Int)) = false := decide_eq_false (by omega)
 clear h hT hz hkey hval hB hX hs hr hsz hcnt hd
 go_enter Tryz.func94, Tryz.ntmps94
 go_wp2_with fail
 refine HMD.out.mono ?_; rintro e w1 ⟨rfl, hb1⟩
 have HB1 := Hq hb1
 clear hb1 HMD
 go_wp2_with fail
 refine (HLA.out _ HB1.out).mono ?_
 clear HLA
 rintro e w2 ⟨sm, rfl, hsm, hla, hb2⟩
 have HB2 := Hq (HB1.out.trans (hb2.mono HB1.out.size))
 obtain ⟨W, hW⟩ : ∃ W, W = w2.alloc (.cells #[.pointer (some ⟨P, 0, none⟩), .map (some sm), .slice val.q val.l.length val.c, .slice none 0 0, .slice none 0 0] 186) := ⟨_, rfl⟩
 have hbW : Below w2.heap.size w2 W := by rw [hW]; exact sbox1 _ _
 have hcb : CBx W w2.heap.size P sm val (.slice none 0 0) (.slice none 0 0) := by rw [hW]; exact heap_alloc_new _ _
 have HSM : Hid (w.heap.size ≤ sm) := Hq (Nat.le_trans HB1.out.size hsm)
 have HBW := Hq (HB2.out.trans (hbW.mono HB2.out.size))
 have HWAY := Hq (way_any (hla.below hbW) (Nat.le_trans HB.out HBW.out.size) root (HK.out _ HBW.out))
 have HCB := Hq hcb
 obtain ⟨cb, hcbe⟩ : ∃ cb, cb = w2.heap.size := ⟨_, rfl⟩
 have HBC : Hid (w.heap.size ≤ cb) := Hq (by rw [hcbe]; exact HB2.out.size)
 rw [← hcbe] at HCB
 clear hb2 hla hsm hbW hcb
 go_wp2_with fail
 rw [← hW, ← hcbe]
 clear hcbe
 replace hW := Hq hW
 refine HWAY.out.mono ?_
 clear HWAY
 rintro e w3 (⟨q, n, c, l, rfl, hn, hso, hok, _, hwr, hla, hst⟩ | ⟨rfl, hno, ⟨seen2, hla⟩, hst⟩)
 rotate_left
 ·
  exfalso
  rcases HS.out with ⟨h0, _⟩ | ⟨h0, h1, h2, h3, h4, h5, h6, h7, h8⟩
  ·
   exact hno [] (by unfold WayR; rw [if_pos h0])
  ·
   refine hno [⟨root, 1, SpS.zero, s, i, b⟩] ?_
   unfold WayR
   rw [if_neg h0]
   exact (WayS.leafIff (X := X) (key := key.l) (seen := fun _ => false) (no := root) (deep := 1) (sp := SpS.zero) ⟨rfl, by decide, h3, h4⟩ h5 h7 _).2 rfl
 obtain ⟨wl, wn, wi, wt, wsn⟩ := HS.out.way hwr
 have hc3 : CBx w3 cb P sm val (.slice none 0 0) (.slice none 0 0) := hst.keeps.stay HCB.out rfl
 have HB3 := Hq (HBW.out.trans (hst.below.mono HSM.out))
 have HC3 := Hq hc3
 have HL3 := Hq hla
 have HSO := Hq hso
 have HNN := Hq hn
 have HWL := Hq wl
 have HWN := Hq wn
 have HWI := Hq wi
 have HWT := Hq wt
 have HWS := Hq wsn
 have HOE := Hq (endM_ok hok)
 obtain ⟨w4, hw4⟩ : ∃ w4, w4 = w3.alloc (.cells #[.slice key.q key.l.length key.c] 33) := ⟨_, rfl⟩
 have hb4 : Below w3.heap.size w3 w4 := by rw [hw4]; exact sbox1 _ _
 have hn4 : w4.heap[w3.heap.size]? = some (.cells #[.slice key.q key.l.length key.c] 33 (0, 0)) := by rw [hw4]; exact heap_alloc_new _ _
 have HEN := Hq (entry_ok (hc3.low hb4) (HV.out _ (HB3.out.trans (hb4.mono HB3.out.size))))
 have hev : (entV val).cell = .agg #[.slice val.q val.l.length val.c, .int .i64 0, .int .i64 0] := by unfold entV; rw [if_neg (by omega)]; rfl
 rw [hev] at HEN
 have HB34 := Hq hb4
 have HN4 := Hq hn4
 clear hok hwr hla hst hso hn hc3 hb4 hn4 hev wl wn wi wt wsn
 go_wp2_with fail
 rw [← hw4]
 replace hw4 := Hq hw4
 refine HEN.out.mono ?_
 rintro e w5 ⟨rfl, hb5⟩
 obtain ⟨w6, hw6⟩ : ∃ w6, w6 = w5.alloc (.cells #[.slice val.q val.l.length val.c, .int .i64 0, .int .i64 0] 108) := ⟨_, rfl⟩
 have hb6 : Below w5.heap.size w5 w6 := by rw [hw6]; exact sbox1 _ _
 have hn6 : w6.heap[w5.heap.size]? = some (.cells #[.slice val.q val.l.length val.c, .int .i64 0, .int .i64 0] 108 (0, 0)) := by rw [hw6]; exact heap_alloc_new _ _
 have h46 : Below w4.heap.size w4 w6 := hb5.trans (hb6.mono hb5.size)
 have h36 : Below w3.heap.size w3 w6 := HB34.out.trans (h46.mono HB34.out.size)
 have h06 : Below w.heap.size w w6 := HB3.out.trans (h36.mono HB3.out.size)
 have hk6 : w6.heap[w3.heap.size]? = some (.cells #[.slice key.q key.l.length key.c] 33 (0, 0)) := box_carry HN4.out h46
 have hkb : Kbs w6 (some ⟨w3.heap.size, 0, none⟩) [key] := fun _ => ⟨_, _, rfl, fun i y hi => by
  match i, hi with
  | 0, hi => cases hi; exact (jC hk6 0).trans rfl
  | i + 1, hi => cases hi⟩
 have hvb : Vls w6 (some ⟨w5.heap.size, 0, none⟩) [⟨val.q, val.c, val.l, 0, 0⟩] := fun _ => ⟨_, _, rfl, fun i y hi => by
  match i, hi with
  | 0, hi => cases hi; exact ⟨(jC hn6 0).trans rfl, (jC hn6 1).trans rfl, (jC hn6 2).trans rfl⟩
  | i + 1, hi => cases hi⟩
 have hv6 := HV.out _ h06
 have hxo : (⟨val.q, val.c, val.l, 0, 0⟩ : Vl).Ok w6 := ⟨hv6.bs, hv6.h1, hv6.h2, hv6.z, (by show (-9223372036854775808 : Int) ≤ 0; decide), (by show (0 : Int) ≤ 9223372036854775807; decide), (by show (-9223372036854775808 : Int) ≤ 0; decide), (by show (0 : Int) ≤ 9223372036854775807; decide)⟩
 have HTN : Hid (Calls Tryz.prog 118 #[.pointer (some ⟨cb, 0, none⟩), .slice q n c, .slice (some ⟨w3.heap.size, 0, none⟩) 1 1, .slice (some ⟨w5.heap.size, 0, none⟩) 1 1] w6 (WritePost w6 B P pd w.heap.size (X.lay k (pageB 2 k (X.g + 1) (putL s i b key.l ⟨val.l, 0, 0⟩).put)) (addL (fun _ => false) (l.map fun x => x.pc.no)) k)) := Hq (by
  have el := leafT_putL (b := b) HWN.out HWI.out (ka := ⟨some ⟨w3.heap.size, 0, none⟩, 1, [key]⟩) (va := ⟨some ⟨w5.heap.size, 0, none⟩, 1, [⟨val.q, val.c, val.l, 0, 0⟩]⟩) rfl rfl
  have ev : (⟨val.q, val.c, val.l, 0, 0⟩ : Vl).s = ⟨val.l, 0, 0⟩ := rfl
  rw [ev] at el
  have hit : i ≤ s.ks.length ∧ (b = true → i < s.ks.length) ∧ s.ks.length ≤ 250 ∧ s.vs.length = s.ks.length ∧ s.leaf = true := by
   rcases HS.out with ⟨h0, rfl, rfl, rfl⟩ | ⟨h0, h1, h2, h3, h4, h5, h6, h7, h8⟩
   ·
    exact ⟨Nat.le_refl _, (fun h => by cases h), Nat.zero_le _, rfl, rfl⟩
   ·
    exact ⟨h7.le, (fun hb => (List.getElem?_eq_some_iff.1 (h7.eq.1 hb)).1), h6.many, (h6.leaf h5).1, h5⟩
  have hks : (endM l).n.ks.length = s.ks.length := by rw [← HWN.out]; show _ = ((endM l).n.ks.map Kb.l).length; rw [List.length_map]
  have hvs : (endM l).n.vs.length = s.vs.length := by rw [← HWN.out]; show _ = ((endM l).n.vs.map Vl.s).length; rw [List.length_map]
  have hlf : (endM l).n.leaf = true := by rw [show (endM l).n.leaf = (endM l).n.s.leaf from rfl, HWN.out]; exact hit.2.2.2.2
  have hto : (if b = true then i + 1 else i) ≤ s.ks.length := by
   split
   ·
    rename_i hb; exact hit.2.1 hb
   ·
    exact hit.1
  have hlen : (turnV (endM l) ⟨some ⟨w5.heap.size, 0, none⟩, 1, [⟨val.q, val.c, val.l, 0, 0⟩]⟩ (if b = true then i + 1 else i)).length = (turnK (endM l) ⟨some ⟨w3.heap.size, 0, none⟩, 1, [key]⟩ (if b = true then i + 1 else i)).length := by
   have hq := (HR.out.leaf rfl).1
   rw [← el] at hq
   simpa [leafT] using hq
  have hon : TurnOn w6 (endM l) ⟨some ⟨w3.heap.size, 0, none⟩, 1, [key]⟩ ⟨some ⟨w5.heap.size, 0, none⟩, 1, [⟨val.q, val.c, val.l, 0, 0⟩]⟩ (if b = true then i + 1 else i) :=
   ⟨HOE.out.n.keeps (KeepsN.maps (bs := []) (Keeps.below h36)), hlf, by rw [hvs, hks]; exact hit.2.2.2.1, by rw [hks]; have := hit.2.2.1; omega, by rw [HWI.out]; split <;> omega, by rw [hks]; exact hto, ⟨hkb, Nat.le_refl _, by show (1 : Nat) ≤ _; omega, fun h => by cases h⟩, ⟨hvb, Nat.le_refl _, by show (1 : Nat) ≤ _; omega, fun h => by cases h⟩, by show (1 : Nat) ≤ 10; omega, by show (1 : Nat) ≤ 10; omega, (fun y hy => by obtain rfl := List.mem_singleton.1 hy; exact HK.out _ h06), (fun y hy => by obtain rfl := List.mem_singleton.1 hy; exact hxo)⟩
  have hft : Fits1 (endM l) ⟨some ⟨w3.heap.size, 0, none⟩, 1, [key]⟩ ⟨some ⟨w5.heap.size, 0, none⟩, 1, [⟨val.q, val.c, val.l, 0, 0⟩]⟩ (if b = true then i + 1 else i) := by
   refine ⟨hlen, by rw [el]; exact HCT.out, by rw [el]; exact HSZ.out, by rw [el]; exact HR.out, by rw [el, HR.out.length]; exact HSZ.out, fun v hv => ?_, ?_⟩
   ·
    have hvr : (v.s).Right := by
     have h1 := (HR.out.leaf rfl).2.2
     rw [← el] at h1
     exact h1 v.s (List.mem_map_of_mem hv)
    rcases hvr with ⟨h1, _⟩ | ⟨h1, _⟩
    ·
     show v.p ≠ -1
     have : v.p = 0 := h1
     omega
    ·
     have h2 := h1.1
     intro e
     have : v.s.p = -1 := e
     omega
   ·
    show 0 < (_ ++ (_ :: _)).length
    simp only [List.length_append, List.length_cons]
    omega
  have htu := turn1_ok (HL3.out.below h36) (Nat.lt_of_lt_of_le HPW.out HSM.out) (n0 := w.heap.size) HB.out h06.size (HC3.out.low h36) (OwnI.nil w6 _) (by simp) HBC.out HSM.out HX.out (row_below HSO.out h36) HNN.out HWL.out rfl (by rw [HWT.out, HWI.out]) hon hft (by
   intro hth
   rw [HWT.out] at hth
   rcases HS.out with ⟨h0, rfl, rfl, rfl⟩ | ⟨h0, h1, h2, h3, h4, h5, h6, h7, h8⟩
   ·
    cases hth
   ·
    obtain ⟨v, hv, p1, p2, p3⟩ := h8 hth
    rw [← HWN.out] at hv
    have hv' : ((endM l).n.vs.map Vl.s)[i]? = some v := hv
    rw [List.getElem?_map] at hv'
    cases hx : (endM l).n.vs[i]? with
    | none => rw [hx] at hv'; cases hv'
    | some u =>
     rw [hx] at hv'
     cases hv'
     exact ⟨u, by rw [HWI.out]; exact hx, p1, p2, p3⟩) (by
   intro y hy
   obtain ⟨h0, rfl⟩ := (HWS.out y).1 hy
   rcases HS.out with ⟨h1, _⟩ | ⟨_, h1, h2, _⟩
   ·
    exact absurd h1 h0
   ·
    exact ⟨h1, h2⟩) (by
   intro l2 hnd hmm
   rw [el]
   exact HDD.out l2 hnd fun y => (hmm y).trans (HWS.out y))
  rw [el] at htu
  exact htu)
 have HB6 := Hq (h06.mono HB.out)
 have HK6 : Hid (Keeps (ofTr w.heap.size P) w w6) := Hq (Keeps.below h06)
 clear hb5 hb6 hn6 h46 h36 h06 hk6 hkb hvb hxo hv6 HEN
 go_wp2_with fail
 rw [← hw6]
 replace hw6 := Hq hw6
 refine HTN.out.mono ?_
 rintro e w7 ⟨l2, h1, h2, rfl, h3, h4, h5⟩
 have HL2 := Hq h1
 have HL2m := Hq h2
 have HG7 := Hq h3
 have HB7 := Hq (HB6.out.trans h4)
 have HK7 := Hq (HK6.out.trans h5)
 clear h1 h2 h3 h4 h5
 go_wp2
 go_ret2
 refine ⟨l2, HL2.out, fun y => (HL2m.out y).trans (HWS.out y), rfl, HG7.out, HB7.out, HK7.out.size, fun {i o} h1 h2 => HK7.out.stay h1 ?_⟩
 have hi := (aL h1)
 unfold ofTr
 rw [h2, Bool.or_false, decide_eq_false_iff_not]
 omega
end
end Go.Proofs.YtbbgdbnjmonbgaaGreatDoor

