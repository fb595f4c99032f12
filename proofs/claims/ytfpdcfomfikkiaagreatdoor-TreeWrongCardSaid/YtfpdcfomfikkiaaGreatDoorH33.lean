/-
  tree: look.way.
  tree.Put of the empty tree, and of a root that is no node.
  The laws' start: a new pager on a new disk; one page laid in it; which pages it has.
-/
import Derived.Test.YtfpdcfomfikkiaaGreatDoorH31
import Derived.Test.YtfpdcfomfikkiaaGreatDoorH32
import Derived.Test.YtfpdcfomfikkiaaGreatDoorH14
import Derived.LoopTactic
set_option linter.unusedVariables false
set_option linter.unusedSimpArgs false
set_option maxRecDepth 100000
namespace Go.Proofs.YtfpdcfomfikkiaaGreatDoor
open Go.RowKit

def lenV : Value → Nat | .slice _ n _ => n | _ => 0
section
variable {w : World} {B P pd sm : Nat} {X : PG} {seen : Int → Bool}

set_option maxHeartbeats 6400000 in
theorem way_any (h : LookAt w B P pd sm X seen) (hBw : B ≤ w.heap.size) (root : Int) {k : Kb} (hk : k.Ok w) :
    Calls Tryz.prog 24 #[.agg #[.pointer (some ⟨P, 0, none⟩), .map (some sm)], .int .i64 root, .slice k.q k.l.length k.c] w (WayPost w B P pd sm X seen root k.l) := by
  obtain ⟨W, hW⟩ : ∃ W, W = w.alloc (.cells #[.pointer (some ⟨P, 0, none⟩), .map (some sm)] 70) := ⟨_, rfl⟩
  have hbw : Below w.heap.size w W := by rw [hW]; exact sbox1 _ _
  have hb0 : W.heap[w.heap.size]? = some (.cells #[.pointer (some ⟨P, 0, none⟩), .map (some sm)] 70 (0, 0)) := by rw [hW]; exact heap_alloc_new w _
  have hlt := h.lt
  have HW := Lib.hid (h.below hbw)
  have HSW : Hid (LStep sm w W) := Lib.hid (h.step hbw)
  have HLT := Lib.hid hlt
  have HBB := Lib.hid hBw
  have HKO : Hid (∀ w', LStep sm w w' → k.Ok w') := Lib.hid fun w' hs => ⟨hs.keeps.bs hk.bs (fun _ _ _ _ _ _ _ => rfl), hk.h1, hk.h2, hk.z⟩
  have HB0 := Lib.hid hb0
  have HWS := Lib.hid hbw.size
  by_cases hr0 : root = 0
  · subst hr0
    clear h hk hbw hb0 hlt hBw
    go_enter Tryz.func24, Tryz.ntmps24
    go_wp2
    rw [← hW]
    go_ret2
    exact .inl ⟨none, 0, 0, [], rfl, rfl, World.ownsRow_nil _ _ _ _, (fun x hx => by cases hx), by decide, (by unfold WayR; rw [if_pos rfl]; rfl), HW.out, HSW.out⟩
  have hrb : (root == 0) = false := by rw [beq_eq_false_iff_ne]; exact hr0
  have HTOP := Lib.hid (top_any (w := W) root)
  have HRI : Hid (∀ m, WayR X k.l seen root m ↔ WayS X k.l seen root 1 SpS.zero m) := Lib.hid fun m => by unfold WayR; rw [if_neg hr0]
  clear h hk hb0 hlt hBw
  go_enter Tryz.func24, Tryz.ntmps24
  go_wp2_with fail
  rw [← hW]
  replace hW := Lib.hid hW
  refine HTOP.out.mono ?_
  clear HTOP
  rintro e w1 ⟨rfl, hb1⟩
  have HR0 : Hid (WR w (w1.alloc (.cells #[.int .i64 root, .int .i64 1, .slice none 0 0, .slice none 0 0, .bool false] 79)) B P pd sm X k.l seen root (.slice none 0 0) w1.heap.size [] ⟨root, 1, Sp.zero⟩ seen) := Lib.hid (by
    have hb2 : Below W.heap.size W (w1.alloc (.cells #[.int .i64 root, .int .i64 1, .slice none 0 0, .slice none 0 0, .bool false] 79)) := hb1.trans ((sbox1 _ _).mono hb1.size)
    exact ⟨⟨HW.out.below hb2, HSW.out.trans (HW.out.step hb2), (hb2.block _ (Array.getElem?_eq_some_iff.1 HB0.out).1).trans HB0.out, heap_alloc_new _ _, Nat.le_trans HWS.out hb1.size, World.ownsRow_nil _ _ _ _, (fun x hx => by cases hx), Sp.zero_t _⟩, rfl, by decide, rfl, fun m => ⟨fun hm => ⟨m, rfl, hm⟩, fun ⟨m', e, hm⟩ => by rw [e]; exact hm⟩⟩)
  clear hb1
  go_wp2
  obtain ⟨w2, hw2⟩ : ∃ x, x = w1.alloc (.cells #[.int .i64 root, .int .i64 1, .slice none 0 0, .slice none 0 0, .bool false] 79) := ⟨_, rfl⟩
  obtain ⟨bp0, hbp0⟩ : ∃ x, x = w1.heap.size := ⟨_, rfl⟩
  rw [← hw2, ← hbp0] at HR0
  rw [← hw2, ← hbp0]
  clear hw2 hbp0
  go_loopw [8, 9] (fun v p wr => ∃ (bp : Nat) (l : List St) (pc : Pc) (seen' : Int → Bool), p = .pointer (some ⟨bp, 0, none⟩) ∧ WR w wr B P pd sm X k.l seen root v bp l pc seen') (fun v _ _ => 17 - lenV v)
  case atStart => exact ⟨_, _, _, _, rfl, HR0.out⟩
  case round =>
    obtain ⟨bp, l, pc, seen', rfl, hR⟩ := hrel
    clear HR0
    obtain ⟨vq, vn, vc, rfl, hvn, hvc⟩ : ∃ q n c, u8 = .slice q n c ∧ n = l.length ∧ n ≤ c := by
      obtain ⟨q, c, e, h1, _⟩ := row_form hR.m.so
      exact ⟨q, _, c, e, rfl, h1⟩
    have HR := Lib.hid hR
    have HVN := Lib.hid hvn
    have hvn16 : vn ≤ 16 := by rw [hvn]; exact hR.l16
    have HND := Lib.hid (lookNode_any hR.m.la (Nat.le_trans HBB.out hR.m.st.size) hR.m.ps.ok)
    unfold Pc.v at HND
    obtain ⟨p0, p1, p2, p3, p4⟩ := PBox.of hR.m.pb
    have x0 := (Joins.cell_of_block hR.m.bx 0).trans rfl
    have x1 := (Joins.cell_of_block hR.m.bx 1).trans rfl
    clear hR hvn
    go_wp2_with fail
    refine HND.out.mono ?_
    clear HND p0 p1 p2 p3 p4 x0 x1
    rintro e w3 (⟨n, rfl, hna, hnr, hno, hla, hst⟩ | ⟨rfl, hna, ⟨seen2, hla⟩, hst⟩)
    · have HM3 := Lib.hid (HR.out.m.look hst hla)
      have HNA := Lib.hid hna
      have HNR := Lib.hid hnr
      have hksl : n.s.ks.length = n.ks.length := by show (n.ks.map Kb.l).length = _; rw [List.length_map]
      have h250 : n.ks.length ≤ 250 := by have := hnr.many; omega
      obtain ⟨W4, hW4⟩ : ∃ W4, W4 = w3.alloc (.cells #[.bool n.leaf, .slice n.kq n.ks.length n.kc, .slice n.vq n.vs.length n.vc, .slice n.iq n.is.length n.ic] 82) := ⟨_, rfl⟩
      have hb4 : Below w3.heap.size w3 W4 := by rw [hW4]; exact sbox1 _ _
      have HM4 := Lib.hid (HM3.out.below hb4)
      have HN4 := Lib.hid (hno.below hb4)
      have hbx : W4.heap[w3.heap.size]? = some (.cells n.cells 82 (0, 0)) := by rw [hW4]; exact heap_alloc_new _ _
      have HBK := Lib.hid hbx
      have HBX : Hid (∀ w', Below W4.heap.size W4 w' → NBox w' w3.heap.size n) := Lib.hid fun w' hb => (NBox.of hbx).low hb (Array.getElem?_eq_some_iff.1 hbx).1
      have HBS := Lib.hid (bsKeys_any HN4.out.ok.kl HN4.out.ok.ko rfl HN4.out.ok.k1 (by omega) (show Up (n.ks.map Kb.l) from hnr.rise.up) (HKO.out _ HM4.out.st))
      have HVI : Hid (n.leaf = false → n.is.length = n.ks.length + 1) := Lib.hid fun h0 => by
        have := (hnr.branch h0).1
        rw [hksl] at this
        exact this
      clear hna hnr hno hla hst hb4 hbx
      dsimp only [Nd.cell]
      go_wp2_with fail
      rw [← hW4]
      replace hW4 := Lib.hid hW4
      refine HBS.out.mono ?_
      clear HBS
      rintro e w5 ⟨i, b, rfl, hat, hb5⟩
      have HAT := Lib.hid hat
      have HM5 := Lib.hid (HM4.out.below hb5)
      have HN5 := Lib.hid (HN4.out.below hb5)
      obtain ⟨n0, n1, n2, n3⟩ := HBX.out w5 hb5
      have HB5 := Lib.hid ((hb5.block _ (Array.getElem?_eq_some_iff.1 HBK.out).1).trans HBK.out)
      obtain ⟨p0, p1, p2, p3, p4⟩ := PBox.of HM5.out.pb
      clear hb5 hat
      obtain ⟨lf, kq, kc, ks, vq, vc, vs, iq, ic, is⟩ := n
      dsimp only [Nd.s] at n0 n1 n2 n3 hksl h250 HAT HNA HNR HVI
      cases lf
      · cases b
        · have hjk : i ≤ ks.length := by
            have h1 := HAT.out.le
            rw [List.length_map] at h1
            exact h1
          have HJE : Hid (i = if false = true then i + 1 else i) := Lib.hid (by rw [if_neg (by decide)])
          obtain ⟨kid, hkid⟩ : ∃ kid, is[i]? = some kid := ⟨_, List.getElem?_eq_getElem (by have := HVI.out rfl; omega)⟩
          have HKID := Lib.hid hkid
          have hjl : i < is.length := (List.getElem?_eq_some_iff.1 hkid).1
          have HU : Hid (St.Ok w5 ⟨pc, ⟨false, kq, kc, ks, vq, vc, vs, iq, ic, is⟩, i, false⟩) := Lib.hid ⟨HM5.out.ps, HN5.out⟩
          have HSZ := Lib.hid HM5.out.st.size
          have hd16 : pc.deep ≤ 16 := HNA.out.2.1
          have hd0 : 0 ≤ pc.deep := by have := HR.out.dp; omega
          clear hkid
          try dsimp only
          go_wp2_with (at_builtin; refine app_st rfl (.tmp 47) (.tmp 52) rfl ⟨pc, ⟨false, kq, kc, ks, vq, vc, vs, iq, ic, is⟩, i, false⟩ rfl (row_below HM5.out.so (sbox1 _ _)) rfl (heap_alloc_new _ _) (by have := HVN.out; omega) (by have := HSZ.out; simp; omega) ?_; intro q6 n6 c6 w6 hn6 hs6 hg6; have HX6 := Lib.hid ((HM5.out.below (sbox1 _ _)).append HLT.out HBB.out hg6 (HU.out.keeps (.maps (bs := []) (Keeps.below (sbox1 _ _)))) hs6); have HN6 := Lib.hid hn6; have HNB := Lib.hid (SOwn.off (row_below HM5.out.so (sbox1 _ _)) hg6 (((sbox1 _ _).block _ (Array.getElem?_eq_some_iff.1 HB5.out).1).trans HB5.out) (by decide)); have HNO6 := Lib.hid ((HN5.out.below (sbox1 _ _)).keeps HX6.out.2); obtain ⟨n0, n1, n2, n3⟩ := NBox.of (n := ⟨false, kq, kc, ks, vq, vc, vs, iq, ic, is⟩) HNB.out; obtain ⟨p0, p1, p2, p3, p4⟩ := PBox.of HX6.out.1.pb; clear hn6 hs6 hg6)
          have HKD := Lib.hid (kid_any (p := pc) HX6.out.1.ps.ok (n := ⟨false, kq, kc, ks, vq, vc, vs, iq, ic, is⟩) HNO6.out.ok (i := i) hjk hjl (by show ks.length ≤ _; omega) (by omega) (by omega))
          unfold Pc.v Nd.cell at HKD
          try dsimp only
          refine HKD.out.mono ?_
          clear HKD
          rintro e w7 ⟨rfl, hb7⟩
          obtain ⟨pc', hpc'⟩ : ∃ x, x = kidP pc ⟨false, kq, kc, ks, vq, vc, vs, iq, ic, is⟩ i := ⟨_, rfl⟩
          have HE1 : Hid (pc'.no = kid) := Lib.hid (by rw [hpc']; show is[i]?.getD 0 = _; rw [HKID.out]; rfl)
          have HE2 : Hid (pc'.deep = pc.deep + 1) := Lib.hid (by rw [hpc']; rfl)
          have HE3 : Hid (pc'.s.s = kidS pc.s.s (ks.map Kb.l) i) := Lib.hid (by rw [hpc']; exact kidP_s pc ⟨false, kq, kc, ks, vq, vc, vs, iq, ic, is⟩ hjk)
          have HM7 := Lib.hid (HX6.out.1.below hb7)
          have HPT : Hid (pc'.s.T w7) := Lib.hid (by rw [hpc']; exact kidP_t HM7.out.ps (HNO6.out.below hb7) _)
          have q0 := Joins.unfrozen_of_block HM7.out.pb
          obtain ⟨p0, p1, p2, p3, p4⟩ := PBox.of HM7.out.pb
          rw [← hpc']
          clear hb7 hpc' n0 n1 n2 n3
          try dsimp only
          go_wp2
          go_roundw
          case rel =>
            refine ⟨_, l ++ [⟨pc, ⟨false, kq, kc, ks, vq, vc, vs, iq, ic, is⟩, i, false⟩], pc', add seen' pc.no, rfl, ?_, ?_, ?_, ?_, ?_⟩
            · have h1 := (HM7.out.place HLT.out HBB.out HPT.out rfl).fresh rfl
              rw [show (((((w7.setCell ⟨bp, 0, none⟩ (.int .i64 pc'.no)).setCell ⟨bp, 1, none⟩ (.int .i64 pc'.deep)).setCell ⟨bp, 2, none⟩ (.slice pc'.s.f.q pc'.s.f.l.length pc'.s.f.c)).setCell ⟨bp, 3, none⟩ (.slice pc'.s.t.q pc'.s.t.l.length pc'.s.t.c)).setCell ⟨bp, 4, none⟩ (.bool pc'.s.e)).heap.size = w7.heap.size by simp] at h1
              exact h1
            · rw [HE2.out, HR.out.dp, List.length_append]
              show _ = ((_ + 1 : Nat) : Int) + 1
              omega
            · rw [List.length_append]
              show _ + 1 ≤ 16
              have := HR.out.dp
              omega
            · rw [HR.out.sn, List.map_append, show (List.map (fun x : St => x.pc.no) [⟨pc, ⟨false, kq, kc, ks, vq, vc, vs, iq, ic, is⟩, i, false⟩]) = [pc.no] from rfl, addL_snoc]
            · intro m
              rw [HR.out.iff m]
              constructor
              · rintro ⟨m', e, hm'⟩
                obtain ⟨m2, e2, h2⟩ := (WayS.branchIff HNA.out rfl HAT.out HJE.out HKID.out m').1 hm'
                refine ⟨m2, by rw [e, e2, List.map_append, List.append_assoc]; rfl, ?_⟩
                rw [HE1.out, HE2.out, HE3.out]
                exact h2
              · rintro ⟨m2, e, h2⟩
                rw [HE1.out, HE2.out, HE3.out] at h2
                refine ⟨_, ?_, (WayS.branchIff HNA.out rfl HAT.out HJE.out HKID.out _).2 ⟨m2, rfl, h2⟩⟩
                rw [e, List.map_append, List.append_assoc]
                rfl
          case measure =>
            have h1 := HN6.out
            have h2 := HVN.out
            rw [List.length_append] at h1
            show 17 - n6 < 17 - vn
            have h3 : n6 = l.length + 1 := h1
            omega
        · obtain ⟨j, hij⟩ : ∃ j : Nat, (i : Int) + 1 = (j : Int) := ⟨i + 1, by omega⟩
          have hjk : j ≤ ks.length := by
            have h1 := (HAT.out.eq.1 rfl)
            obtain ⟨h2, _⟩ := List.getElem?_eq_some_iff.1 h1
            rw [List.length_map] at h2
            omega
          have HJE : Hid (j = if true = true then i + 1 else i) := Lib.hid (by rw [if_pos rfl]; omega)
          obtain ⟨kid, hkid⟩ : ∃ kid, is[j]? = some kid := ⟨_, List.getElem?_eq_getElem (by have := HVI.out rfl; omega)⟩
          have HKID := Lib.hid hkid
          have hjl : j < is.length := (List.getElem?_eq_some_iff.1 hkid).1
          have HU : Hid (St.Ok w5 ⟨pc, ⟨false, kq, kc, ks, vq, vc, vs, iq, ic, is⟩, j, false⟩) := Lib.hid ⟨HM5.out.ps, HN5.out⟩
          have HSZ := Lib.hid HM5.out.st.size
          have hd16 : pc.deep ≤ 16 := HNA.out.2.1
          have hd0 : 0 ≤ pc.deep := by have := HR.out.dp; omega
          clear hkid
          try dsimp only
          go_wp2_with (at_builtin; refine app_st rfl (.tmp 47) (.tmp 52) rfl ⟨pc, ⟨false, kq, kc, ks, vq, vc, vs, iq, ic, is⟩, j, false⟩ rfl (row_below HM5.out.so (sbox1 _ _)) rfl (heap_alloc_new _ _) (by have := HVN.out; omega) (by have := HSZ.out; simp; omega) ?_; intro q6 n6 c6 w6 hn6 hs6 hg6; have HX6 := Lib.hid ((HM5.out.below (sbox1 _ _)).append HLT.out HBB.out hg6 (HU.out.keeps (.maps (bs := []) (Keeps.below (sbox1 _ _)))) hs6); have HN6 := Lib.hid hn6; have HNB := Lib.hid (SOwn.off (row_below HM5.out.so (sbox1 _ _)) hg6 (((sbox1 _ _).block _ (Array.getElem?_eq_some_iff.1 HB5.out).1).trans HB5.out) (by decide)); have HNO6 := Lib.hid ((HN5.out.below (sbox1 _ _)).keeps HX6.out.2); obtain ⟨n0, n1, n2, n3⟩ := NBox.of (n := ⟨false, kq, kc, ks, vq, vc, vs, iq, ic, is⟩) HNB.out; obtain ⟨p0, p1, p2, p3, p4⟩ := PBox.of HX6.out.1.pb; clear hn6 hs6 hg6)
          have HKD := Lib.hid (kid_any (p := pc) HX6.out.1.ps.ok (n := ⟨false, kq, kc, ks, vq, vc, vs, iq, ic, is⟩) HNO6.out.ok (i := j) hjk hjl (by show ks.length ≤ _; omega) (by omega) (by omega))
          unfold Pc.v Nd.cell at HKD
          try dsimp only
          refine HKD.out.mono ?_
          clear HKD
          rintro e w7 ⟨rfl, hb7⟩
          obtain ⟨pc', hpc'⟩ : ∃ x, x = kidP pc ⟨false, kq, kc, ks, vq, vc, vs, iq, ic, is⟩ j := ⟨_, rfl⟩
          have HE1 : Hid (pc'.no = kid) := Lib.hid (by rw [hpc']; show is[j]?.getD 0 = _; rw [HKID.out]; rfl)
          have HE2 : Hid (pc'.deep = pc.deep + 1) := Lib.hid (by rw [hpc']; rfl)
          have HE3 : Hid (pc'.s.s = kidS pc.s.s (ks.map Kb.l) j) := Lib.hid (by rw [hpc']; exact kidP_s pc ⟨false, kq, kc, ks, vq, vc, vs, iq, ic, is⟩ hjk)
          have HM7 := Lib.hid (HX6.out.1.below hb7)
          have HPT : Hid (pc'.s.T w7) := Lib.hid (by rw [hpc']; exact kidP_t HM7.out.ps (HNO6.out.below hb7) _)
          have q0 := Joins.unfrozen_of_block HM7.out.pb
          obtain ⟨p0, p1, p2, p3, p4⟩ := PBox.of HM7.out.pb
          rw [← hpc']
          clear hb7 hpc' n0 n1 n2 n3
          try dsimp only
          go_wp2
          go_roundw
          case rel =>
            refine ⟨_, l ++ [⟨pc, ⟨false, kq, kc, ks, vq, vc, vs, iq, ic, is⟩, j, false⟩], pc', add seen' pc.no, rfl, ?_, ?_, ?_, ?_, ?_⟩
            · have h1 := (HM7.out.place HLT.out HBB.out HPT.out rfl).fresh rfl
              rw [show (((((w7.setCell ⟨bp, 0, none⟩ (.int .i64 pc'.no)).setCell ⟨bp, 1, none⟩ (.int .i64 pc'.deep)).setCell ⟨bp, 2, none⟩ (.slice pc'.s.f.q pc'.s.f.l.length pc'.s.f.c)).setCell ⟨bp, 3, none⟩ (.slice pc'.s.t.q pc'.s.t.l.length pc'.s.t.c)).setCell ⟨bp, 4, none⟩ (.bool pc'.s.e)).heap.size = w7.heap.size by simp] at h1
              exact h1
            · rw [HE2.out, HR.out.dp, List.length_append]
              show _ = ((_ + 1 : Nat) : Int) + 1
              omega
            · rw [List.length_append]
              show _ + 1 ≤ 16
              have := HR.out.dp
              omega
            · rw [HR.out.sn, List.map_append, show (List.map (fun x : St => x.pc.no) [⟨pc, ⟨false, kq, kc, ks, vq, vc, vs, iq, ic, is⟩, j, false⟩]) = [pc.no] from rfl, addL_snoc]
            · intro m
              rw [HR.out.iff m]
              constructor
              · rintro ⟨m', e, hm'⟩
                obtain ⟨m2, e2, h2⟩ := (WayS.branchIff HNA.out rfl HAT.out HJE.out HKID.out m').1 hm'
                refine ⟨m2, by rw [e, e2, List.map_append, List.append_assoc]; rfl, ?_⟩
                rw [HE1.out, HE2.out, HE3.out]
                exact h2
              · rintro ⟨m2, e, h2⟩
                rw [HE1.out, HE2.out, HE3.out] at h2
                refine ⟨_, ?_, (WayS.branchIff HNA.out rfl HAT.out HJE.out HKID.out _).2 ⟨m2, rfl, h2⟩⟩
                rw [e, List.map_append, List.append_assoc]
                rfl
          case measure =>
            have h1 := HN6.out
            have h2 := HVN.out
            rw [List.length_append] at h1
            show 17 - n6 < 17 - vn
            have h3 : n6 = l.length + 1 := h1
            omega
      · have HU : Hid (St.Ok w5 ⟨pc, ⟨true, kq, kc, ks, vq, vc, vs, iq, ic, is⟩, i, b⟩) := Lib.hid ⟨HM5.out.ps, HN5.out⟩
        have HSZ := Lib.hid HM5.out.st.size
        try dsimp only
        go_wp2_with (at_builtin; refine app_st rfl (.tmp 36) (.tmp 42) rfl ⟨pc, ⟨true, kq, kc, ks, vq, vc, vs, iq, ic, is⟩, i, b⟩ rfl (row_below HM5.out.so (sbox1 _ _)) rfl (heap_alloc_new _ _) (by have := HVN.out; omega) (by have := HSZ.out; simp; omega) ?_; intro q6 n6 c6 w6 hn6 hs6 hg6; have HX6 := Lib.hid ((HM5.out.below (sbox1 _ _)).append HLT.out HBB.out hg6 (HU.out.keeps (.maps (bs := []) (Keeps.below (sbox1 _ _)))) hs6); have HN6 := Lib.hid hn6; clear hn6 hs6 hg6)
        go_ret2
        refine .inl ⟨q6, n6, c6, _, rfl, HN6.out, HX6.out.1.so, HX6.out.1.ok, ?_, ?_, ?_, HX6.out.1.st⟩
        · rw [List.length_append]
          have := HVN.out
          show _ + 1 ≤ _
          omega
        · refine (HRI.out _).2 ((HR.out.iff _).2 ⟨_, List.map_append, ?_⟩)
          exact WayS.leaf HNA.out rfl HAT.out
        · have h1 := HX6.out.1.la
          rw [HR.out.sn] at h1
          rw [List.map_append, show (List.map (fun x : St => x.pc.no) [⟨pc, ⟨true, kq, kc, ks, vq, vc, vs, iq, ic, is⟩, i, b⟩]) = [pc.no] from rfl, addL_snoc]
          exact h1
    · have HF : Hid (∀ m, ¬ WayR X k.l seen root m) := Lib.hid fun m hm => by
        obtain ⟨m', _, hm'⟩ := (HR.out.iff m).1 ((HRI.out m).1 hm)
        obtain ⟨s, hs⟩ := hm'.node
        exact hna s hs
      have HLA := Lib.hid hla
      have HST := Lib.hid hst
      clear hna hla hst
      rw [ndZero]
      try dsimp only
      go_wp2
      go_ret2
      exact .inr ⟨rfl, HF.out, ⟨_, HLA.out.below (sbox1 _ _)⟩, (HR.out.m.st.trans HST.out).trans (HLA.out.step (sbox1 _ _))⟩
end

end Go.Proofs.YtfpdcfomfikkiaaGreatDoor

set_option linter.unusedVariables false
set_option linter.unusedSimpArgs false
set_option maxRecDepth 100000
namespace Go.Proofs.YtfpdcfomfikkiaaGreatDoor
open Go.RowKit

theorem way_none {X : PG} {key : Key} {seen : Int → Bool} {root : Int} {m : List StS} (h0 : root ≠ 0) (hno : ∀ s, ¬ NodeIs X root s) : ¬ WayR X key seen root m := by
  intro h
  unfold WayR at h
  rw [if_neg h0] at h
  cases h with
  | leaf h _ _ => exact hno _ h.2.2.1
  | branch h _ _ _ _ => exact hno _ h.2.2.1

section
variable {w w' : World} {B P pd : Nat} {X : PG}

set_option maxHeartbeats 6400000 in
theorem putW_any (hT : Tab w) (h : GrAt w B P pd X) (hz : X.F.hi = X.S.size) (ht : 0 < B) {root : Int} (h0 : root ≠ 0) (hno : ∀ s, ¬ NodeIs X root s) {key : Kb} (hkey : key.Ok w) (hk72 : key.l.length ≤ 72) :
    Calls Tryz.prog 11 #[.pointer (some ⟨P, 0, none⟩), .int .i64 root, .slice key.q key.l.length key.c, .slice none 0 0] w fun e w' => e = .returned (.tuple #[.int .i64 0, .int .i64 18]) ∧ Below w.heap.size w w' := by
  have hB := h.base
  have HMD : Hid (Calls Tryz.prog 22 #[.pointer (some ⟨P, 0, none⟩)] w fun e w' => e = .returned (.bool true) ∧ Below w.heap.size w w') := Lib.hid (by
    obtain ⟨lm, fm, pl, um, wm, la, v, hg⟩ := h
    exact trMade_yes hT hg hz)
  have HLA : Hid (∀ w', Below w.heap.size w w' → Calls Tryz.prog 23 #[.pointer (some ⟨P, 0, none⟩)] w' (LookPost w' B P pd X)) := Lib.hid fun w' hb => lookAt_any (hT.below hT.lt hb) (h.below hb) hz ht
  have HK := Lib.hid fun w' (hb : Below w.heap.size w w') => hkey.below hb
  have HB := Lib.hid hB
  have HNW : Hid (∀ m, ¬ WayR X key.l (fun _ => false) root m) := Lib.hid fun m => way_none h0 hno
  have d72 : decide ((72 : Int) < (key.l.length : Int)) = false := decide_eq_false (by omega)
  clear h hT hz hkey hB hno h0
  go_enter Tryz.func11, Tryz.ntmps11
  go_wp2_with fail
  refine HMD.out.mono ?_; rintro e w1 ⟨rfl, hb1⟩
  have HB1 := Lib.hid hb1
  clear hb1 HMD
  go_wp2_with fail
  refine (HLA.out _ HB1.out).mono ?_
  clear HLA
  rintro e w2 ⟨sm, rfl, hsm, hla, hb2⟩
  have HB2 := Lib.hid (HB1.out.trans (hb2.mono HB1.out.size))
  obtain ⟨W, hW⟩ : ∃ W, W = w2.alloc (.cells #[.pointer (some ⟨P, 0, none⟩), .map (some sm), .slice none 0 0, .slice none 0 0, .slice none 0 0] 102) := ⟨_, rfl⟩
  have hbW : Below w2.heap.size w2 W := by rw [hW]; exact sbox1 _ _
  have HSM : Hid (w.heap.size ≤ sm) := Lib.hid (Nat.le_trans HB1.out.size hsm)
  have HBW := Lib.hid (HB2.out.trans (hbW.mono HB2.out.size))
  have HWAY := Lib.hid (way_any (hla.below hbW) (Nat.le_trans HB.out HBW.out.size) root (HK.out _ HBW.out))
  clear hb2 hla hsm hbW
  go_wp2_with fail
  rw [← hW]
  replace hW := Lib.hid hW
  refine HWAY.out.mono ?_
  clear HWAY
  rintro e w3 (⟨q, n, c, l, rfl, hn, hso, hok, _, hwr, hla, hst⟩ | ⟨rfl, hno, ⟨seen2, hla⟩, hst⟩)
  · exact absurd hwr (HNW.out _)
  have HB3 := Lib.hid (HBW.out.trans (hst.below.mono HSM.out))
  clear hno hla hst
  go_wp2
  go_ret2
  exact ⟨rfl, HB3.out⟩

set_option maxHeartbeats 6400000 in
theorem putZ_ok (hT : Tab w) (h : GrAt w B P pd X) (hz : X.F.hi = X.S.size) (ht : 0 < B) {k : Nat} (hX : Lays X k) {key : Kb} (hkey : key.Ok w) (hk72 : key.l.length ≤ 72) :
    Calls Tryz.prog 11 #[.pointer (some ⟨P, 0, none⟩), .int .i64 0, .slice key.q key.l.length key.c, .slice none 0 0] w fun e w' => e = .returned (.tuple #[.int .i64 (k : Int), .int .i64 0]) ∧ Below B w w' := by
  have hB := h.base
  have HMD : Hid (Calls Tryz.prog 22 #[.pointer (some ⟨P, 0, none⟩)] w fun e w' => e = .returned (.bool true) ∧ Below w.heap.size w w') := Lib.hid (by
    obtain ⟨lm, fm, pl, um, wm, la, v, hg⟩ := h
    exact trMade_yes hT hg hz)
  have HLA : Hid (∀ w', Below w.heap.size w w' → Calls Tryz.prog 23 #[.pointer (some ⟨P, 0, none⟩)] w' (LookPost w' B P pd X)) := Lib.hid fun w' hb => lookAt_any (hT.below hT.lt hb) (h.below hb) hz ht
  have HK := Lib.hid fun w' (hb : Below w.heap.size w w') => hkey.below hb
  have HB := Lib.hid hB
  have HX := Lib.hid hX
  have HK72 := Lib.hid hk72
  have hkc := hkey.h1
  have hkm := hkey.h2
  have d72 : decide ((72 : Int) < (key.l.length : Int)) = false := decide_eq_false (by omega)
  clear h hT hz hkey hB hX
  go_enter Tryz.func11, Tryz.ntmps11
  go_wp2_with fail
  refine HMD.out.mono ?_; rintro e w1 ⟨rfl, hb1⟩
  have HB1 := Lib.hid hb1
  clear hb1 HMD
  go_wp2_with fail
  refine (HLA.out _ HB1.out).mono ?_
  clear HLA
  rintro e w2 ⟨sm, rfl, hsm, hla, hb2⟩
  have HB2 := Lib.hid (HB1.out.trans (hb2.mono HB1.out.size))
  obtain ⟨W, hW⟩ : ∃ W, W = w2.alloc (.cells #[.pointer (some ⟨P, 0, none⟩), .map (some sm), .slice none 0 0, .slice none 0 0, .slice none 0 0] 102) := ⟨_, rfl⟩
  have hbW : Below w2.heap.size w2 W := by rw [hW]; exact sbox1 _ _
  have hcb : CBx W w2.heap.size P sm Kb.zero (.slice none 0 0) (.slice none 0 0) := by rw [hW]; exact heap_alloc_new _ _
  have HSM : Hid (w.heap.size ≤ sm) := Lib.hid (Nat.le_trans HB1.out.size hsm)
  have HBW := Lib.hid (HB2.out.trans (hbW.mono HB2.out.size))
  have HWAY := Lib.hid (way_any (hla.below hbW) (Nat.le_trans HB.out HBW.out.size) 0 (HK.out _ HBW.out))
  have HCB := Lib.hid hcb
  obtain ⟨cb, hcbe⟩ : ∃ cb, cb = w2.heap.size := ⟨_, rfl⟩
  have HBC : Hid (B ≤ cb) := Lib.hid (by rw [hcbe]; exact Nat.le_trans HB.out HB2.out.size)
  rw [← hcbe] at HCB
  clear hb2 hla hsm hbW hcb
  go_wp2_with fail
  rw [← hW, ← hcbe]
  clear hcbe
  replace hW := Lib.hid hW
  refine HWAY.out.mono ?_
  clear HWAY
  rintro e w3 (⟨q, n, c, l, rfl, hn, hso, hok, _, hwr, hla, hst⟩ | ⟨rfl, hno, ⟨seen2, hla⟩, hst⟩)
  rotate_left
  · exact absurd rfl (hno [])
  have hl0 : l = [] := by
    unfold WayR at hwr
    rw [if_pos rfl] at hwr
    exact List.map_eq_nil_iff.1 hwr
  subst hl0
  obtain rfl : n = 0 := hn
  have hc3 : CBx w3 cb P sm Kb.zero (.slice none 0 0) (.slice none 0 0) := hst.keeps.stay HCB.out rfl
  have HB3 := Lib.hid (HBW.out.trans (hst.below.mono HSM.out))
  have HC3 := Lib.hid hc3
  have hla' : LookAt w3 B P pd sm X (fun _ => false) := hla
  have HL3 := Lib.hid hla'
  have HS3 : Hid (SOwn w3 B (.slice q 0 c) []) := Lib.hid (ownsRow_le hso (Nat.le_trans HB.out HBW.out.size))
  obtain ⟨w4, hw4⟩ : ∃ w4, w4 = w3.alloc (.cells #[.slice key.q key.l.length key.c] 22) := ⟨_, rfl⟩
  have hb4 : Below w3.heap.size w3 w4 := by rw [hw4]; exact sbox1 _ _
  have hn4 : w4.heap[w3.heap.size]? = some (.cells #[.slice key.q key.l.length key.c] 22 (0, 0)) := by rw [hw4]; exact heap_alloc_new _ _
  have HEN := Lib.hid (entry_ok (hc3.low hb4) (Kb.zero_ok w4))
  have hev : (entV Kb.zero).cell = .agg #[.slice none 0 0, .int .i64 0, .int .i64 0] := rfl
  rw [hev] at HEN
  have HB34 := Lib.hid hb4
  have HN4 := Lib.hid hn4
  clear hok hwr hla hla' hst hso hc3 hb4 hn4 hev
  go_wp2_with fail
  rw [← hw4]
  replace hw4 := Lib.hid hw4
  refine HEN.out.mono ?_
  rintro e w5 ⟨rfl, hb5⟩
  obtain ⟨w6, hw6⟩ : ∃ w6, w6 = w5.alloc (.cells #[.slice none 0 0, .int .i64 0, .int .i64 0] 89) := ⟨_, rfl⟩
  have hb6 : Below w5.heap.size w5 w6 := by rw [hw6]; exact sbox1 _ _
  have hn6 : w6.heap[w5.heap.size]? = some (.cells #[.slice none 0 0, .int .i64 0, .int .i64 0] 89 (0, 0)) := by rw [hw6]; exact heap_alloc_new _ _
  have h46 : Below w4.heap.size w4 w6 := hb5.trans (hb6.mono hb5.size)
  have h36 : Below w3.heap.size w3 w6 := HB34.out.trans (h46.mono HB34.out.size)
  have h06 : Below w.heap.size w w6 := HB3.out.trans (h36.mono HB3.out.size)
  have hk6 : w6.heap[w3.heap.size]? = some (.cells #[.slice key.q key.l.length key.c] 22 (0, 0)) := box_carry HN4.out h46
  have hkb : Kbs w6 (some ⟨w3.heap.size, 0, none⟩) [key] := fun _ => ⟨_, _, rfl, fun i y hi => by
    match i, hi with
    | 0, hi => cases hi; exact (Joins.cell_of_block hk6 0).trans rfl
    | i + 1, hi => cases hi⟩
  have hvb : Vls w6 (some ⟨w5.heap.size, 0, none⟩) [⟨none, 0, [], 0, 0⟩] := fun _ => ⟨_, _, rfl, fun i y hi => by
    match i, hi with
    | 0, hi => cases hi; exact ⟨(Joins.cell_of_block hn6 0).trans rfl, (Joins.cell_of_block hn6 1).trans rfl, (Joins.cell_of_block hn6 2).trans rfl⟩
    | i + 1, hi => cases hi⟩
  have hxo : (⟨none, 0, [], 0, 0⟩ : Vl).Ok w6 := ⟨Bs.nil _ _, Nat.le_refl _, by show (0 : Nat) ≤ _; omega, fun _ => rfl, by decide, by decide, by decide, by decide⟩
  have HTN := Lib.hid (turnZ_ok (HL3.out.below h36) (Nat.le_trans HB.out h06.size) (HC3.out.low h36) (OwnI.nil w6 B) (by simp) HBC.out HX.out (HK.out _ h06) HK72.out hxo rfl rfl (by simp) hkb hvb (kc := 1) (vc := 1) ⟨Nat.le_refl _, by omega⟩ ⟨Nat.le_refl _, by omega⟩ (row_below HS3.out h36))
  have HB6 := Lib.hid (h06.mono HB.out)
  clear hb5 hb6 hn6 h46 h36 h06 hk6 hkb hvb hxo HEN
  go_wp2_with fail
  rw [← hw6]
  replace hw6 := Lib.hid hw6
  refine HTN.out.mono ?_
  rintro e w7 ⟨rfl, hb7⟩
  have HB7 := Lib.hid (HB6.out.trans hb7)
  clear hb7
  go_wp2
  go_ret2
  exact ⟨rfl, HB7.out⟩
end

end Go.Proofs.YtfpdcfomfikkiaaGreatDoor

set_option linter.unusedVariables false
set_option linter.unusedSimpArgs false
set_option maxRecDepth 100000
namespace Go.Proofs.YtfpdcfomfikkiaaGreatDoor
open Go.RowKit

theorem GBytes.blockT {w : World} {B g : Nat} {cs : Array Value} {fr : Nat × Nat} {l : List UInt8} (h : w.heap[g]? = some (.cells cs 5 fr)) (hc : cs = (u8s l).toArray) : GBytes w B (some ⟨g, 0, none⟩) l := fun w' _ h2 => Bs.of_block (h2.stay h rfl) hc

section
variable {w w' : World} {B P pd lm fm pl um wm la : Nat} {v : Value} {X : PG}

set_option maxHeartbeats 3200000 in
theorem grKeepNil (h : GrIs w B P pd lm fm pl um wm la v X) (hk : X.kept = false) (hl : X.laid = false) :
    Calls Tryz.prog 17 #[.pointer (some ⟨P, 0, none⟩), .slice none 0 0] w fun e w' => e = .returned (.int .i64 0) ∧ GrStep w w' B P pd { X with kept := true } := by
  have HM := Lib.hid h.made
  have c8 := h.c8
  have c9 := h.c9
  rw [hk] at c8
  rw [hl] at c9
  have uf := h.soft
  have H0 : Hid (∀ w0, w0 = w.setCell ⟨P, 8, none⟩ (.bool true) → GrStep w w0 B P pd { X with kept := true }) := Lib.hid (by
    rintro w0 rfl
    obtain ⟨b1, g1⟩ := cell_set (i := 8) (v := .bool true) h.blk
    obtain ⟨q1, q2, q3⟩ := h.onOwn (Y := { X with kept := true }) (v' := v) (by simpa [grCells] using b1) g1 h.pins rfl rfl rfl h.g0
    exact ⟨⟨_, _, _, _, _, _, _, q1⟩, q2, q3.mono isPager_ofGr⟩)
  clear h
  go_enter Tryz.func17, Tryz.ntmps17
  go_wp2_with fail
  refine HM.out.mono ?_; rintro e w1 ⟨rfl, rfl⟩
  have HG0 := Lib.hid (H0.out _ rfl)
  go_wp2
  obtain ⟨W0, hW0⟩ : ∃ W0, W0 = w.setCell ⟨P, 8, none⟩ (.bool true) := ⟨_, rfl⟩
  rw [← hW0] at HG0 ⊢
  clear hW0
  go_loopw [23] (fun i wr => i = .int .i64 0 ∧ GrStep w wr B P pd { X with kept := true }) (fun i _ => 0)
  case atStart => exact ⟨rfl, HG0.out⟩
  case round =>
    obtain ⟨rfl, hI⟩ := hrel
    have HI := Lib.hid hI
    clear hI
    go_wp2
    go_ret
    exact ⟨rfl, HI.out⟩
end

/-- The pager that a start makes. -/
def startX (n : Int) : PG := { PG.new (fmtS (SD.new n) 2).flush 2 0 1 1 with kept := true }

set_option maxHeartbeats 3200000 in
theorem start_ok {w : World} (hT : Tab w) {n : Int} (h4 : 4 ≤ n) (hn : n ≤ 4096) :
    Calls Tryz.prog 6 #[.int .i64 n] w fun e w' => ∃ P pd, e = .returned (.pointer (some ⟨P, 0, none⟩)) ∧ GrAt w' w.heap.size P pd (startX n) ∧ Below w.heap.size w w' := by
  have HT := Lib.hid hT
  have HNEW := Lib.hid (new_yes (w := w) (n := n) (by omega) (by omega))
  clear hT
  go_enter Tryz.func6, Tryz.ntmps6
  go_wp2_with fail
  refine HNEW.out.mono ?_; rintro e w1 ⟨p, lm, fm, rfl, hd, hb, hp⟩
  have HB1 := Lib.hid hb
  have HF := Lib.hid (grFormat_ok (HT.out.below HT.out.lt hb) HT.out.lt hd rfl (by show (0 : Int) ≤ _; decide) (by show (4 : Int) ≤ n; omega))
  clear hd hb hp
  go_wp2_with fail
  refine HF.out.mono ?_; rintro e w2 ⟨rfl, hs⟩
  have HB2 := Lib.hid (HB1.out.trans hs.below)
  have HO := Lib.hid (grOpen_fmt (HT.out.below HT.out.lt HB2.out) hs.disk HB2.out.size rfl (by show (0 : Int) ≤ _; decide) (by show (4 : Int) ≤ n; omega))
  clear hs
  go_wp2_with fail
  refine HO.out.mono ?_; rintro e w3 ⟨P, rfl, hs⟩
  have HB3 := Lib.hid (HB2.out.trans hs.below)
  obtain ⟨lm3, fm3, pl, um, wm, la, v, hg⟩ := hs.at_
  have HKP := Lib.hid (grKeepNil hg rfl rfl)
  clear hs hg
  go_wp2_with fail
  refine HKP.out.mono ?_; rintro e w4 ⟨rfl, hs⟩
  have HB4 := Lib.hid (HB3.out.trans hs.below)
  have HG := Lib.hid hs.at_
  clear hs HNEW HF HO HKP HB1 HB2 HB3
  go_wp2
  go_ret
  exact ⟨P, p, rfl, HG.out, HB4.out⟩

theorem startX_read {n : Int} {k : Int} (hk : 2 ≤ k) : (startX n).S.read k = zeros 512 := by
  show ((fmtS (SD.new n) 2).flush).read k = _
  rw [SD.flush_read]
  show (((SD.new n).write 1 (mPage 1 0 1 1)).write 0 (mPage 2 0 1 1)).read k = _
  rw [SD.write_read, SD.write_read, if_neg (by omega), if_neg (by omega)]
  rfl
theorem startX_size {n : Int} : (startX n).S.size = n := by
  show (fmtS (SD.new n) 2).flush.size = n
  exact fmtS_size (S := SD.new n) 2
theorem startX_F {n : Int} : (startX n).F = FL.new 2 n := by
  show FL.new 2 (fmtS (SD.new n) 2).flush.size = _
  rw [show (fmtS (SD.new n) 2).flush.size = n from fmtS_size (S := SD.new n) 2]
theorem startX_lays : Lays (startX 50) 2 := by
  refine ⟨rfl, ?_, ?_, ?_, ?_, ?_, ?_⟩
  · rw [startX_F]; rfl
  · show (fmtS (SD.new 50) 2).flush.left ≠ 0; rw [fmt_flush_left rfl]; decide
  · show -1 ≤ (fmtS (SD.new 50) 2).flush.left; rw [fmt_flush_left rfl]; decide
  · show (fmtS (SD.new 50) 2).flush.left ≤ _; rw [fmt_flush_left rfl]; decide
  · show (fmtS (SD.new 50) 2).ops + 1 ≤ _
    have := (fmtS_ops (S := SD.new 50) 2).1
    have h0 : (SD.new 50).ops = 0 := rfl
    omega
  · show 2 + 1 ≤ _; omega

theorem zeros_noPage {k : Int} (hk : 2 ≤ k) : openE (zeros 512) k ≠ 0 := by
  intro h
  have h1 := (openE_zero.1 h).2.2.2.2.1
  have h2 : fNo (zeros 512) = 0 := by rfl
  omega

/-- Behind a page of another kind. -/
def oneX (l : List UInt8) : PG := (startX 50).lay 2 (pageB 9 2 3 l)
theorem oneX_lays (l : List UInt8) : Lays (oneX l) 3 := by
  obtain ⟨h1, h2, h3, h4, h5, h6, h7⟩ := startX_lays
  have e : (oneX l).S.left = -1 := by
    have e0 : (startX 50).S.left = -1 := fmt_flush_left rfl
    exact SD.tick_left e0
  refine ⟨rfl, ?_, ?_, ?_, ?_, ?_, h7⟩
  · show ((startX 50).F.take 2).least = _
    rw [startX_F]; rfl
  · rw [e]; decide
  · rw [e]; decide
  · rw [e]; decide
  · show (fmtS (SD.new 50) 2).ops + 1 + 1 ≤ _
    have := (fmtS_ops (S := SD.new 50) 2).1
    have h0 : (SD.new 50).ops = 0 := rfl
    omega
theorem oneX_hi (l : List UInt8) : (oneX l).F.hi = (oneX l).S.size := by
  show (startX 50).F.hi = (startX 50).S.size
  rw [startX_F, startX_size]; rfl
theorem oneX_no {l : List UInt8} (hl : l.length ≤ 493) (root : Int) (s : NdS) : ¬ NodeIs (oneX l) root s := by
  rintro ⟨kind, m, h1, h2, h3⟩
  have h5 : ∀ m k, k = (9 : UInt8).toNat → preS k m ≠ some s := by
    intro m k hk
    subst hk
    unfold preS
    split
    · exact fun h => by cases h
    · rw [if_neg (by decide), if_neg (by decide)]
      exact fun h => by cases h
  have hr : ∀ k, (oneX l).S.read k = if k = 2 then pageB 9 2 3 l else (startX 50).S.read k := by
    intro k
    show ((startX 50).S.write 2 (pageB 9 2 3 l)).read k = _
    rw [SD.write_read]
    split
    · exact pad_same (pageB_length hl)
    · rfl
  by_cases hk : root = 2
  · subst hk
    have hp := PG.page_is (X := oneX l) (k := 2) (kind := 9) (gen := 3) (l := l) (by
      show ((startX 50).F.take 2).st 2 ≠ 0
      rw [startX_F]
      decide) (by decide) (by rw [hr]; rfl) hl (by decide)
    rw [show ((2 : Nat) : Int) = 2 from rfl, h1] at hp
    cases hp
    exact h5 _ _ rfl h2
  · unfold PG.page at h1
    split at h1
    · cases h1
    · rename_i hs
      rw [hr, if_neg hk] at h1
      have h2k : 2 ≤ root := by
        have : (oneX l).F = (FL.new 2 50).take 2 := by show ((startX 50).F.take 2) = _; rw [startX_F]
        rw [this] at hs
        unfold FL.st at hs
        split at hs
        · rename_i hh
          exact (FL.has_iff.1 hh).1
        · exact absurd rfl hs
      rw [startX_read h2k, if_neg (zeros_noPage h2k)] at h1
      cases h1

end Go.Proofs.YtfpdcfomfikkiaaGreatDoor

