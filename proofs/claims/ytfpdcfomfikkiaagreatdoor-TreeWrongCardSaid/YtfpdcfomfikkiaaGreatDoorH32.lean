/-
  tree.Put of the empty tree: write, root, up.
  tree.Put of the empty tree: turn.
-/
import Derived.Test.YtfpdcfomfikkiaaGreatDoorH30
import Derived.Test.YtfpdcfomfikkiaaGreatDoorH29
import Derived.Test.YtfpdcfomfikkiaaGreatDoorH31
import Derived.Test.YtfpdcfomfikkiaaGreatDoorH26
import Derived.Deep.RegionHeld3
set_option linter.unusedVariables false
set_option linter.unusedSimpArgs false
set_option maxRecDepth 100000
namespace Go.Proofs.YtfpdcfomfikkiaaGreatDoor
open Go.RowKit

section
variable {w w' : World} {B P pd sm cb : Nat} {X : PG} {val : Kb} {fv lv : Value}

set_option maxHeartbeats 3200000 in
theorem writeZ_ok (h : LookAt w B P pd sm X fun _ => false) (hBw : B ≤ w.heap.size) {lq : Option Addr} {ln lc : Nat} {ls : List Int} (hcb : CBx w cb P sm val fv (.slice lq ln lc)) (hlo : OwnI w B (.slice lq ln lc) ls) (hll : ls.length ≤ 1000000) (hB : B ≤ cb) {k : Nat} (hX : Lays X k) {n : Nd} (ho : n.Ok w) (hlf : n.leaf = true) (hik : n.is = []) (hp : ∀ v ∈ n.vs, v.p ≠ -1) (hr : n.s.Right) (hc : n.s.count ≤ 100000) (hpl : n.s.put.length ≤ 493) (hk0 : 0 < n.ks.length) :
    Calls Tryz.prog 73 #[.pointer (some ⟨cb, 0, none⟩), n.cell] w fun e w' => e = .returned (.tuple #[.int .i64 (k : Int), .int .i64 0]) ∧ Below B w w' := by
  obtain ⟨W, hW, hbw, hws, hcc⟩ := nd_box w n
  have HC := Lib.hid hcc
  have HLN := Lib.hid (layLeaf_ok (h.below hbw) (Nat.le_trans hBw hbw.size) (hcb.low hbw) (hlo.below hbw) hll hB hX (ho.below hbw) hlf hik hp hr hc hpl)
  have HBW := Lib.hid (hbw.mono hBw)
  have HBB := Lib.hid hBw
  have hcell : n.cell = .agg #[.bool n.leaf, .slice n.kq n.ks.length n.kc, .slice n.vq n.vs.length n.vc, .slice n.iq n.is.length n.ic] := rfl
  obtain ⟨_, c0, c1, c2, c3⟩ := HC.out W (Below.refl _ _)
  have hk1 : (0 : Int) < (n.ks.length : Int) := by omega
  rw [hcell] at HLN ⊢
  generalize n.ks.length = km at *
  generalize n.vs.length = vm at *
  generalize n.is.length = im at *
  clear h hBw hcb hlo hll hX ho hlf hik hp hr hc hpl hbw hws hcc hcell hk0 hB
  go_enter Tryz.func73, Tryz.ntmps73
  go_wp2_with fail
  rw [← hW]
  replace hW := Lib.hid hW
  refine HLN.out.mono ?_
  rintro e w1 ⟨rfl, ⟨⟨q', n', c', hcb1, hlo1⟩, hla1, hb1⟩⟩
  have y1 : w1.cell? ⟨cb, 1, none⟩ = some (.map (some sm)) := (Joins.cell_of_block hcb1 1).trans rfl
  have HLA := Lib.hid hla1
  have HB1 := Lib.hid (HBW.out.trans hb1)
  have HB1W := Lib.hid (Nat.le_trans HBB.out (HBW.out.trans hb1).size)
  clear hcb1 hlo1 hla1 hb1 HLN c0 c1 c2 c3
  go_wp2_with fail
  refine (keys_any _).mono ?_
  rintro e w10 ⟨rfl, hw10⟩
  have hb10 : Below w1.heap.size w1 w10 := by rw [hw10]; exact sbox1 _ _
  have HSO := Lib.hid (sortedZ_any (w := w10) (bm := w1.heap.size) (sm := sm) (by rw [hw10]; exact heap_alloc_new _ _) (HLA.out.m.block (hb10.block _ HLA.out.lt)))
  have HB10 := Lib.hid (HB1.out.trans (hb10.mono HB1W.out))
  have HB10W := Lib.hid (Nat.le_trans HB1W.out hb10.size)
  clear hw10 hb10 y1
  go_wp2_with fail
  refine HSO.out.mono ?_
  rintro e w11 ⟨rfl, hb11⟩
  have HB11 := Lib.hid (HB10.out.trans (hb11.mono HB10W.out))
  clear hb11 HSO
  go_wp2_with fail
  refine dropZ.mono ?_
  rintro e w12 ⟨rfl, rfl⟩
  go_wp2
  go_ret2
  exact ⟨rfl, HB11.out⟩

set_option maxHeartbeats 1600000 in
/-- A row of one leaf: its node, whatever the depth. -/
theorem rootZ_ok {n : Nd} {g : Nat} (hn : Nds w (some ⟨g, 0, none⟩) [n]) (hlf : n.leaf = true) (deep : Int) (hlt : n.ks.length ≤ 100000) :
    Calls Tryz.prog 98 #[.pointer (some ⟨cb, 0, none⟩), (rw1 n g).cell, .int .i64 deep] w fun e w' => e = .returned (.tuple #[n.cell, .int .i64 0]) ∧ Below w.heap.size w w' := by
  obtain ⟨W, hW⟩ : ∃ W, W = (w.alloc (.cells #[.slice (some ⟨g, 0, none⟩) 1 1, .slice none 0 0] 168)).alloc (.cells #[.bool false, .slice none 0 0, .slice none 0 0, .slice none 0 0] 82) := ⟨_, rfl⟩
  have hbw : Below w.heap.size w W := by rw [hW]; exact sbox2 _ _ _
  obtain ⟨b0, b1, _, hws⟩ := boxes w #[.slice (some ⟨g, 0, none⟩) 1 1, .slice none 0 0] #[.bool false, .slice none 0 0, .slice none 0 0, .slice none 0 0] 168 82
  rw [← hW] at b0 b1 hws
  have hd := hn.below hbw
  obtain ⟨b, o, hq, hc⟩ := hd (by simp)
  simp only [Option.some.injEq, Addr.mk.injEq, and_true] at hq
  obtain ⟨rfl, rfl⟩ := hq
  obtain ⟨k0, k1, k2, k3⟩ := hc 0 n rfl
  simp only [Nat.zero_mul, Nat.add_zero, Nat.zero_add] at k0 k1 k2 k3
  rw [hlf] at k0
  have x0 : W.cell? ⟨w.heap.size, 0, none⟩ = some (.slice (some ⟨g, 0, none⟩) 1 1) := (Joins.cell_of_block b0 0).trans rfl
  have x1 : W.cell? ⟨w.heap.size, 1, none⟩ = some (.slice none 0 0) := (Joins.cell_of_block b0 1).trans rfl
  have hcl : (rw1 n g).cell = .agg #[.slice (some ⟨g, 0, none⟩) 1 1, .slice none 0 0] := rfl
  have HBX := Lib.hid b1
  have HBW := Lib.hid hbw
  have HWS := Lib.hid hws
  rw [hcl]
  clear hn hd hc b0 b1 hbw hws hcl
  go_enter Tryz.func98, Tryz.ntmps98
  rw [hW] at x0 x1 k0 k1 k2 k3
  go_wp2_with fail
  rw [← hW]
  replace hW := Lib.hid hW
  obtain ⟨W2, hW2⟩ : ∃ W2, W2 = W.alloc (.cells #[.bool true, .slice n.kq n.ks.length n.kc, .slice n.vq n.vs.length n.vc, .slice n.iq n.is.length n.ic] 82) := ⟨_, rfl⟩
  rw [← hW2]
  have hb2 : Below W.heap.size W W2 := by rw [hW2]; exact sbox1 _ _
  have hn2 : W2.heap[W.heap.size]? = some (.cells #[.bool true, .slice n.kq n.ks.length n.kc, .slice n.vq n.vs.length n.vc, .slice n.iq n.is.length n.ic] 82 (0, 0)) := by rw [hW2]; exact heap_alloc_new _ _
  have hr2 : RBox W2 (w.heap.size + 1) := by
    unfold RBox
    rw [hb2.block _ (by have := HWS.out; omega)]
    exact HBX.out
  have HNW := Lib.hid (show w.heap.size + 1 + 1 = W.heap.size from by have := HWS.out; omega)
  have n0 : W2.cell? ⟨w.heap.size + 1 + 1, 0, none⟩ = some (.bool true) := by rw [HNW.out]; exact (Joins.cell_of_block hn2 0).trans rfl
  have n1 : W2.cell? ⟨w.heap.size + 1 + 1, 1, none⟩ = some (.slice n.kq n.ks.length n.kc) := by rw [HNW.out]; exact (Joins.cell_of_block hn2 1).trans rfl
  have n2 : W2.cell? ⟨w.heap.size + 1 + 1, 2, none⟩ = some (.slice n.vq n.vs.length n.vc) := by rw [HNW.out]; exact (Joins.cell_of_block hn2 2).trans rfl
  have n3 : W2.cell? ⟨w.heap.size + 1 + 1, 3, none⟩ = some (.slice n.iq n.is.length n.ic) := by rw [HNW.out]; exact (Joins.cell_of_block hn2 3).trans rfl
  obtain ⟨⟨r0, r1, r2, r3⟩, ⟨v0, v1, v2, v3⟩, hrl⟩ := hr2.cells
  have HR2 := Lib.hid hr2
  have HB2 := Lib.hid (HBW.out.trans (hb2.mono HBW.out.size))
  clear hW2 hb2 hn2 hr2 k0 k1 k2 k3 x0 x1
  go_loopw [25] (fun _ wr => W2 = wr) (fun _ _ => 0)
  case atStart => rfl
  case round =>
    subst hrel
    go_wp2
    refine bodyPost_ret (results_cell_tmp rfl _ _ (w.heap.size + 1) 82 _ (0, 0) (by kernel_rfl) (ndSet4 HR2.out) Tryz.underlying82 (by kernel_rfl)) rfl ?_
    exact ⟨by unfold Nd.cell; rw [hlf]; rfl, below4 HB2.out (by omega) _ _ _ _⟩

set_option maxHeartbeats 1600000 in
/-- The root's node where the way is empty. -/
theorem upZ_ok {n : Nd} (ho : n.Ok w) (hlf : n.leaf = true) (hv : n.vs.length = n.ks.length) (hc : n.s.count ≤ 100000) (hs : n.s.size ≤ 493) {q : Option Addr} {c : Nat} :
    Calls Tryz.prog 70 #[.pointer (some ⟨cb, 0, none⟩), .slice q 0 c, n.cell] w fun e w' => e = .returned (.tuple #[n.cell, .int .i64 0]) ∧ Below w.heap.size w w' := by
  obtain ⟨W, hW⟩ : ∃ W, W = (w.alloc (.cells #[.bool n.leaf, .slice n.kq n.ks.length n.kc, .slice n.vq n.vs.length n.vc, .slice n.iq n.is.length n.ic] 82)).alloc (.cells #[.bool false, .slice none 0 0, .slice none 0 0, .slice none 0 0] 82) := ⟨_, rfl⟩
  have hbw : Below w.heap.size w W := by rw [hW]; exact sbox2 _ _ _
  obtain ⟨b0, b1, _, hws⟩ := boxes w #[.bool n.leaf, .slice n.kq n.ks.length n.kc, .slice n.vq n.vs.length n.vc, .slice n.iq n.is.length n.ic] #[.bool false, .slice none 0 0, .slice none 0 0, .slice none 0 0] 82 82
  rw [← hW] at b0 b1 hws
  have HCUT := Lib.hid (cut1_any (ho.below hbw) hc hs)
  have x0 : W.cell? ⟨w.heap.size, 0, none⟩ = some (.bool n.leaf) := (Joins.cell_of_block b0 0).trans rfl
  have x1 : W.cell? ⟨w.heap.size, 1, none⟩ = some (.slice n.kq n.ks.length n.kc) := (Joins.cell_of_block b0 1).trans rfl
  have x2 : W.cell? ⟨w.heap.size, 2, none⟩ = some (.slice n.vq n.vs.length n.vc) := (Joins.cell_of_block b0 2).trans rfl
  have x3 : W.cell? ⟨w.heap.size, 3, none⟩ = some (.slice n.iq n.is.length n.ic) := (Joins.cell_of_block b0 3).trans rfl
  have HBX := Lib.hid b1
  have HBW := Lib.hid hbw
  have HWS := Lib.hid hws
  have HLF := Lib.hid hlf
  have HKS : Hid (n.ks.length ≤ 100000) := Lib.hid (by
    have : n.s.ks.length ≤ n.s.count := by unfold NdS.count; omega
    have e : n.s.ks.length = n.ks.length := by show (n.ks.map Kb.l).length = _; rw [List.length_map]
    omega)
  have HSZ : Hid (∀ g r, CutIs n g r → r = rw1 n g) := Lib.hid fun g r h => by
    rcases h with ⟨_, h⟩ | ⟨h, _⟩
    · exact h
    · omega
  unfold Nd.cell at HCUT ⊢
  clear ho hv hc hs hbw b0 b1 hws hlf
  go_enter Tryz.func70, Tryz.ntmps70
  rw [hW] at x0 x1 x2 x3
  go_wp2_with fail
  rw [← hW]
  replace hW := Lib.hid hW
  refine HCUT.out.mono ?_
  rintro e w1 ⟨g, r, rfl, hcut, hg, hnds, hb1⟩
  obtain rfl := HSZ.out g r hcut
  clear HCUT hcut x0 x1 x2 x3
  obtain ⟨W2, hW2⟩ : ∃ W2, W2 = w1.alloc (.cells #[.slice (some ⟨g, 0, none⟩) 1 1, .slice none 0 0] 168) := ⟨_, rfl⟩
  have hb2 : Below w1.heap.size w1 W2 := by rw [hW2]; exact sbox1 _ _
  have hn2 : W2.heap[w1.heap.size]? = some (.cells #[.slice (some ⟨g, 0, none⟩) 1 1, .slice none 0 0] 168 (0, 0)) := by rw [hW2]; exact heap_alloc_new _ _
  have y0 : W2.cell? ⟨w1.heap.size, 0, none⟩ = some (.slice (some ⟨g, 0, none⟩) 1 1) := (Joins.cell_of_block hn2 0).trans rfl
  have y1 : W2.cell? ⟨w1.heap.size, 1, none⟩ = some (.slice none 0 0) := (Joins.cell_of_block hn2 1).trans rfl
  have HRT := Lib.hid (rootZ_ok (w := W2) (cb := cb) (n := n) (g := g) (hnds.below hb2) HLF.out 0 HKS.out)
  have HB2 : Hid (Below W.heap.size W W2) := Lib.hid (hb1.trans (hb2.mono hb1.size))
  have hcl : (rw1 n g).cell = .agg #[.slice (some ⟨g, 0, none⟩) 1 1, .slice none 0 0] := rfl
  rw [hcl] at HRT ⊢
  clear hb1 hb2 hn2 hnds hcl
  go_wp2_with fail
  rw [← hW2]
  clear hW2
  go_loopw [9] (fun i wr => i = .int .i64 (-2) ∧ W2 = wr) (fun _ _ => 0)
  case atStart => exact ⟨rfl, rfl⟩
  case round =>
    obtain ⟨rfl, rfl⟩ := hrel
    go_wp2_with fail
    refine HRT.out.mono ?_
    rintro e w3 ⟨rfl, hb3⟩
    have hbx : RBox w3 (w.heap.size + 1) := by
      unfold RBox
      rw [hb3.block _ (by have := HB2.out.size; have := HWS.out; omega), HB2.out.block _ (by have := HWS.out; omega)]
      exact HBX.out
    obtain ⟨⟨r0, r1, r2, r3⟩, ⟨v0, v1, v2, v3⟩, hrl⟩ := hbx.cells
    have HR3 := Lib.hid hbx
    have HB3 := Lib.hid (HBW.out.trans ((HB2.out.trans (hb3.mono HB2.out.size)).mono HBW.out.size))
    clear hbx hb3 y0 y1 HRT
    unfold Nd.cell
    go_wp2
    refine bodyPost_ret (results_cell_tmp rfl _ _ (w.heap.size + 1) 82 _ (0, 0) (by kernel_rfl) (ndSet4 HR3.out) Tryz.underlying82 (by kernel_rfl)) rfl ?_
    exact ⟨rfl, below4 HB3.out (by omega) _ _ _ _⟩
end

end Go.Proofs.YtfpdcfomfikkiaaGreatDoor

set_option linter.unusedVariables false
set_option linter.unusedSimpArgs false
set_option maxRecDepth 100000
namespace Go.Proofs.YtfpdcfomfikkiaaGreatDoor
open Go.RowKit

section
variable {w w' : World} {B P pd sm cb : Nat} {X : PG} {val : Kb} {fv lv : Value}

/-- A leaf of one key. -/
def leaf1 (qk : Option Addr) (dk : Nat) (k : Kb) (qv : Option Addr) (dv : Nat) (x : Vl) : Nd := ⟨true, qk, dk, [k], qv, dv, [x], none, 0, []⟩
theorem leaf1_right {qk qv : Option Addr} {dk dv : Nat} {k : Kb} {x : Vl} (hk : k.l.length ≤ 72) (hp : x.p = 0) (hg : x.g = 0) (hx : x.l.length ≤ 64) : (leaf1 qk dk k qv dv x).s.Right ∧ (leaf1 qk dk k qv dv x).s.count ≤ 100000 ∧ (leaf1 qk dk k qv dv x).s.size ≤ 493 := by
  have hsz : (leaf1 qk dk k qv dv x).s.size = 1 + (k.l.length + x.l.length + 2) := by
    show 1 + (entS k.l x.s + sizeL [] []) = _
    have e : entS k.l x.s = k.l.length + x.l.length + 2 := by unfold entS; rw [if_pos (show x.s.p = 0 from hp)]; rfl
    have e2 : sizeL [] [] = 0 := rfl
    rw [e, e2]
  refine ⟨⟨by show 1 ≤ 250; omega, ?_, fun _ => ⟨rfl, rfl, ?_⟩, (fun h => by cases h), by omega⟩, ?_, by omega⟩
  · intro i u hu
    match i, hu with
    | 0, hu =>
      cases hu
      exact ⟨hk, fun k' h => absurd h (by omega)⟩
    | i + 1, hu => cases hu
  · intro v hv
    obtain rfl : v = x.s := by simpa [leaf1, Nd.s] using hv
    exact .inl ⟨hp, hg, hx⟩
  · show 1 + 1 + 0 + lens id [k.l] + lens VlS.l [x.s] ≤ 100000
    have e1 : lens id [k.l] = k.l.length := by simp [lens]
    have e2 : lens VlS.l [x.s] = x.l.length := by simp [lens, Vl.s]
    rw [e1, e2]
    omega
theorem leaf1_ok {B' B2 : Nat} {qk qv : Option Addr} {dk dv : Nat} {k : Kb} {x : Vl} (hK : KOwn w B' (.slice qk 1 dk) [k]) (hV : VOwn w B2 (.slice qv 1 dv) [x]) (hk : k.Ok w) (hx : x.Ok w) : (leaf1 qk dk k qv dv x).Ok w := by
  obtain ⟨q1, c1, e1, h1, h2, h3, _⟩ := row_form hK
  obtain ⟨q2, c2, e2, h4, h5, h6, _⟩ := row_form hV
  cases e1
  cases e2
  exact ⟨h1, h2, h3, kown_lie hK, (fun y hy => by obtain rfl := List.mem_singleton.1 hy; exact hk), h4, h5, h6, vown_lie hV, (fun y hy => by obtain rfl := List.mem_singleton.1 hy; exact hx), Nat.zero_le _, by show (0 : Nat) ≤ _; omega, fun _ => rfl, Ks.nil _ _, (fun y hy => by cases hy)⟩

theorem box_carry {o : Obj} {R : Nat} (h : w.heap[R]? = some o) (hb : Below w.heap.size w w') : w'.heap[R]? = some o := by rw [hb.block R (Array.getElem?_eq_some_iff.1 h).1]; exact h
theorem box_new {o : Obj} (hb : Below (w.alloc o).heap.size (w.alloc o) w') : w'.heap[w.heap.size]? = some o := box_carry (heap_alloc_new w o) hb
theorem box_newd {o : Obj} (hb : Below (w.alloc o).drew.heap.size (w.alloc o).drew w') : w'.heap[w.heap.size]? = some o := box_carry (w := (w.alloc o).drew) (heap_alloc_new w o) hb
theorem box_new2 {W : World} {o : Obj} (h : Below W.heap.size W w) (hb : Below (w.alloc o).heap.size (w.alloc o) w') : w'.heap[w.heap.size]? = some o ∧ W.heap.size ≤ w.heap.size := ⟨box_new hb, h.size⟩
theorem box_newd2 {o : Obj} (hb : Below (w.alloc o).drew.heap.size (w.alloc o).drew w') : w'.heap[w.heap.size]? = some o ∧ w.heap.size ≤ w.heap.size := ⟨box_newd hb, Nat.le_refl _⟩
theorem box_carry2 {o : Obj} {R m : Nat} (h : w.heap[R]? = some o ∧ m ≤ R) (hb : Below w.heap.size w w') : w'.heap[R]? = some o ∧ m ≤ R := ⟨box_carry h.1 hb, h.2⟩
theorem k_carry {B : Nat} {v : Value} {l : List Kb} (h : KOwn w B v l) (hb : Below w.heap.size w w') : KOwn w' B v l := row_below h hb
theorem k_carrya {B : Nat} {v : Value} {l : List Kb} {o : Obj} (h : KOwn w B v l) (hb : Below (w.alloc o).heap.size (w.alloc o) w') : KOwn w' B v l := row_below (World.ownsRow.alloc h _) hb
theorem v_carry {B : Nat} {v : Value} {l : List Vl} (h : VOwn w B v l) (hb : Below w.heap.size w w') : VOwn w' B v l := row_below h hb
theorem v_carrya {B : Nat} {v : Value} {l : List Vl} {o : Obj} (h : VOwn w B v l) (hb : Below (w.alloc o).heap.size (w.alloc o) w') : VOwn w' B v l := row_below (World.ownsRow.alloc h _) hb
theorem low_alloc {W : World} (h : Below W.heap.size W w) (o : Obj) : Below W.heap.size W (w.alloc o) := h.alloc h.size _
theorem low_first (W : World) (o : Obj) : Below W.heap.size W (W.alloc o).drew := ((Below.refl _ _).alloc (Nat.le_refl _) _).drew
theorem k_alloc {B : Nat} {v : Value} {l : List Kb} (h : KOwn w B v l) (o : Obj) : KOwn (w.alloc o) B v l := World.ownsRow.alloc h _
theorem v_alloc {B : Nat} {v : Value} {l : List Vl} (h : VOwn w B v l) (o : Obj) : VOwn (w.alloc o) B v l := World.ownsRow.alloc h _

theorem turn_end {w0 w3 : World} {R B1 B2 : Nat} {x y z u vk vv : Value} {lk : List Kb} {lw : List Vl} (hR : w3.heap[R]? = some (.cells #[x, y, z, u] 82 (0, 0))) (hb : Below w0.heap.size w0 w3) (hle : w0.heap.size ≤ R) (hK : KOwn w3 B1 vk lk) (hV : VOwn w3 B2 vv lw) (a b c d : Value) :
    (((((w3.setCell ⟨R, 0, none⟩ a).setCell ⟨R, 1, none⟩ b).setCell ⟨R, 2, none⟩ c).setCell ⟨R, 3, none⟩ d).cell? ⟨R, 0, none⟩ = some a ∧ ((((w3.setCell ⟨R, 0, none⟩ a).setCell ⟨R, 1, none⟩ b).setCell ⟨R, 2, none⟩ c).setCell ⟨R, 3, none⟩ d).cell? ⟨R, 1, none⟩ = some b ∧ ((((w3.setCell ⟨R, 0, none⟩ a).setCell ⟨R, 1, none⟩ b).setCell ⟨R, 2, none⟩ c).setCell ⟨R, 3, none⟩ d).cell? ⟨R, 2, none⟩ = some c ∧ ((((w3.setCell ⟨R, 0, none⟩ a).setCell ⟨R, 1, none⟩ b).setCell ⟨R, 2, none⟩ c).setCell ⟨R, 3, none⟩ d).cell? ⟨R, 3, none⟩ = some d) ∧
    KOwn ((((w3.setCell ⟨R, 0, none⟩ a).setCell ⟨R, 1, none⟩ b).setCell ⟨R, 2, none⟩ c).setCell ⟨R, 3, none⟩ d) B1 vk lk ∧ VOwn ((((w3.setCell ⟨R, 0, none⟩ a).setCell ⟨R, 1, none⟩ b).setCell ⟨R, 2, none⟩ c).setCell ⟨R, 3, none⟩ d) B2 vv lw ∧ Below w0.heap.size w0 ((((w3.setCell ⟨R, 0, none⟩ a).setCell ⟨R, 1, none⟩ b).setCell ⟨R, 2, none⟩ c).setCell ⟨R, 3, none⟩ d) := by
  have hg := gb4 w3 R a b c d
  have h4 := ndSet4 (a := a) (b := b) (c := c) (d := d) hR
  exact ⟨⟨Joins.cell_of_block h4 0, Joins.cell_of_block h4 1, Joins.cell_of_block h4 2, Joins.cell_of_block h4 3⟩, World.ownsRow.kept hK hg (.inr (row_other hK hR (by decide))), World.ownsRow.kept hV hg (.inr (row_other hV hR (by decide))), hb.grown hg hb.size (fun k hk => by cases hk; exact hle)⟩

set_option maxHeartbeats 6400000 in
theorem turnZ_ok (h : LookAt w B P pd sm X fun _ => false) (hBw : B ≤ w.heap.size) {lq : Option Addr} {ln lc : Nat} {ls : List Int} (hcb : CBx w cb P sm val fv (.slice lq ln lc)) (hlo : OwnI w B (.slice lq ln lc) ls) (hll : ls.length ≤ 1000000) (hB : B ≤ cb) {k : Nat} (hX : Lays X k)
    {key : Kb} {x : Vl} (hkey : key.Ok w) (hk72 : key.l.length ≤ 72) (hx : x.Ok w) (hp : x.p = 0) (hg : x.g = 0) (hx64 : x.l.length ≤ 64) {kb vb kc vc : Nat} (hkb : Kbs w (some ⟨kb, 0, none⟩) [key]) (hvb : Vls w (some ⟨vb, 0, none⟩) [x]) (hkc : 1 ≤ kc ∧ kc ≤ 9223372036854775807) (hvc : 1 ≤ vc ∧ vc ≤ 9223372036854775807) {q : Option Addr} {c : Nat} (hw : SOwn w B (.slice q 0 c) []) :
    Calls Tryz.prog 36 #[.pointer (some ⟨cb, 0, none⟩), .slice q 0 c, .slice (some ⟨kb, 0, none⟩) 1 kc, .slice (some ⟨vb, 0, none⟩) 1 vc] w fun e w' => e = .returned (.tuple #[.int .i64 (k : Int), .int .i64 0]) ∧ Below B w w' := by
  have HEND := Lib.hid (end_any hw rfl)
  have hev : (endM []).v = .agg #[.int .i64 0, .int .i64 0, .slice none 0 0, .slice none 0 0, .bool false, .bool true, .slice none 0 0, .slice none 0 0, .slice none 0 0, .int .i64 0, .bool false] := rfl
  rw [hev] at HEND
  have HSK : Hid (∀ w', Below w.heap.size w w' → Calls Tryz.prog 71 #[.slice none 0 0, .int .i64 0, .int .i64 0, .slice (some ⟨kb, 0, none⟩) 1 kc] w' fun e w'' => ∃ q c, e = .returned (.slice q 1 c) ∧ KOwn w'' w.heap.size (.slice q 1 c) [key] ∧ Below w'.heap.size w' w'' ∧ Below w.heap.size w w'') := Lib.hid fun w' hb => by
    have hs := spliceK (w := w') (x := ⟨none, 0, []⟩) (y := ⟨some ⟨kb, 0, none⟩, kc, [key]⟩) ⟨fun h => absurd rfl h, Nat.le_refl _, by show (0 : Nat) ≤ _; omega, fun _ => rfl⟩ ⟨hkb.below hb, hkc.1, hkc.2, fun h => by cases h⟩ (i := 0) (j := 0) (Nat.le_refl _) (Nat.le_refl _) (by show 0 + 1 ≤ 50000; omega)
    refine hs.mono ?_
    rintro e w'' ⟨v, rfl, ho, hb2⟩
    obtain ⟨q, c, rfl, _⟩ := row_form ho
    exact ⟨q, c, rfl, ownsRow_le ho hb.size, hb2, hb.trans (hb2.mono hb.size)⟩
  have HSV : Hid (∀ w', Below w.heap.size w w' → Calls Tryz.prog 72 #[.slice none 0 0, .int .i64 0, .int .i64 0, .slice (some ⟨vb, 0, none⟩) 1 vc] w' fun e w'' => ∃ q c, e = .returned (.slice q 1 c) ∧ VOwn w'' w.heap.size (.slice q 1 c) [x] ∧ Below w'.heap.size w' w'' ∧ Below w.heap.size w w'') := Lib.hid fun w' hb => by
    have hs := spliceV (w := w') (x := ⟨none, 0, []⟩) (y := ⟨some ⟨vb, 0, none⟩, vc, [x]⟩) ⟨fun h => absurd rfl h, Nat.le_refl _, by show (0 : Nat) ≤ _; omega, fun _ => rfl⟩ ⟨hvb.below hb, hvc.1, hvc.2, fun h => by cases h⟩ (i := 0) (j := 0) (Nat.le_refl _) (Nat.le_refl _) (by show 0 + 1 ≤ 50000; omega)
    refine hs.mono ?_
    rintro e w'' ⟨v, rfl, ho, hb2⟩
    obtain ⟨q, c, rfl, _⟩ := row_form ho
    exact ⟨q, c, rfl, ownsRow_le ho hb.size, hb2, hb.trans (hb2.mono hb.size)⟩
  have HUP : Hid (∀ w' qk dk qv dv, Below w.heap.size w w' → KOwn w' w.heap.size (.slice qk 1 dk) [key] → VOwn w' w.heap.size (.slice qv 1 dv) [x] → Calls Tryz.prog 70 #[.pointer (some ⟨cb, 0, none⟩), .slice q 0 c, .agg #[.bool true, .slice qk 1 dk, .slice qv 1 dv, .slice none 0 0]] w' fun e w'' => e = .returned (.tuple #[.agg #[.bool true, .slice qk 1 dk, .slice qv 1 dv, .slice none 0 0], .int .i64 0]) ∧ Below w'.heap.size w' w'' ∧ Below w.heap.size w w'') := Lib.hid fun w' qk dk qv dv hb hK hV => by
    obtain ⟨r1, r2, r3⟩ := leaf1_right (qk := qk) (dk := dk) (qv := qv) (dv := dv) hk72 hp hg hx64
    exact (upZ_ok (cb := cb) (q := q) (c := c) (leaf1_ok hK hV (hkey.below hb) (hx.below hb)) rfl rfl r2 r3).mono fun e w'' ⟨he, hb2⟩ => ⟨he, hb2, hb.trans (hb2.mono hb.size)⟩
  have HWR : Hid (∀ w' qk dk qv dv, Below w.heap.size w w' → KOwn w' w.heap.size (.slice qk 1 dk) [key] → VOwn w' w.heap.size (.slice qv 1 dv) [x] → Calls Tryz.prog 73 #[.pointer (some ⟨cb, 0, none⟩), .agg #[.bool true, .slice qk 1 dk, .slice qv 1 dv, .slice none 0 0]] w' fun e w'' => e = .returned (.tuple #[.int .i64 (k : Int), .int .i64 0]) ∧ Below B w w'') := Lib.hid fun w' qk dk qv dv hb hK hV => by
    obtain ⟨r1, r2, r3⟩ := leaf1_right (qk := qk) (dk := dk) (qv := qv) (dv := dv) hk72 hp hg hx64
    exact (writeZ_ok (n := leaf1 qk dk key qv dv x) (h.below hb) (Nat.le_trans hBw hb.size) (hcb.low hb) (hlo.below hb) hll hB hX (leaf1_ok hK hV (hkey.below hb) (hx.below hb)) rfl rfl (fun v hv => by obtain rfl := List.mem_singleton.1 hv; rw [hp]; decide) r1 r2 (by rw [r1.length]; exact r3) (by show 0 < 1; omega)).mono fun e w'' ⟨he, hb2⟩ => ⟨he, (hb.mono hBw).trans hb2⟩
  have HBW := Lib.hid hBw
  clear h hBw hcb hlo hll hB hX hkey hk72 hx hp hg hx64 hkb hvb hkc hvc hw hev
  go_enter Tryz.func36, Tryz.ntmps36
  go_wp2_with fail
  refine HEND.out.mono ?_
  rintro e w1 ⟨rfl, hb1⟩
  have hb2 : Below w1.heap.size w1 (w1.alloc (.cells #[.int .i64 0, .int .i64 0, .slice none 0 0, .slice none 0 0, .bool false, .bool true, .slice none 0 0, .slice none 0 0, .slice none 0 0, .int .i64 0, .bool false] 84)) := sbox1 _ _
  have hn2 := heap_alloc_new w1 (.cells #[.int .i64 0, .int .i64 0, .slice none 0 0, .slice none 0 0, .bool false, .bool true, .slice none 0 0, .slice none 0 0, .slice none 0 0, .int .i64 0, .bool false] 84)
  clear HEND
  go_wp2_with fail
  generalize w1.alloc (.cells #[.int .i64 0, .int .i64 0, .slice none 0 0, .slice none 0 0, .bool false, .bool true, .slice none 0 0, .slice none 0 0, .slice none 0 0, .int .i64 0, .bool false] 84) = W at hb2 hn2 ⊢
  obtain ⟨E, hE⟩ : ∃ E, E = w1.heap.size := ⟨_, rfl⟩
  rw [← hE] at hn2 ⊢
  have HB2 : Hid (Below w.heap.size w W) := Lib.hid (hb1.trans (hb2.mono hb1.size))
  have HX : Hid (∀ w', Below W.heap.size W w' → w'.cell? ⟨E, 6, none⟩ = some (.slice none 0 0) ∧ w'.cell? ⟨E, 7, none⟩ = some (.slice none 0 0) ∧ w'.cell? ⟨E, 9, none⟩ = some (.int .i64 0)) := Lib.hid fun w' hb => by
    have e1 := (hb.block E (Array.getElem?_eq_some_iff.1 hn2).1).trans hn2
    exact ⟨Joins.cell_of_block e1 6, Joins.cell_of_block e1 7, Joins.cell_of_block e1 9⟩
  have HXR : Hid (∀ w' R p q r t, Below W.heap.size W w' → w'.heap[R]? = some (.cells #[.bool false, .slice none 0 0, .slice none 0 0, .slice none 0 0] 82 (0, 0)) → ((((w'.setCell ⟨R, 0, none⟩ p).setCell ⟨R, 1, none⟩ q).setCell ⟨R, 2, none⟩ r).setCell ⟨R, 3, none⟩ t).cell? ⟨E, 6, none⟩ = some (.slice none 0 0) ∧ ((((w'.setCell ⟨R, 0, none⟩ p).setCell ⟨R, 1, none⟩ q).setCell ⟨R, 2, none⟩ r).setCell ⟨R, 3, none⟩ t).cell? ⟨E, 7, none⟩ = some (.slice none 0 0) ∧ ((((w'.setCell ⟨R, 0, none⟩ p).setCell ⟨R, 1, none⟩ q).setCell ⟨R, 2, none⟩ r).setCell ⟨R, 3, none⟩ t).cell? ⟨E, 9, none⟩ = some (.int .i64 0)) := Lib.hid fun w' R p q r t hb hR => by
    have e1 := (hb.block E (Array.getElem?_eq_some_iff.1 hn2).1).trans hn2
    have hne : E ≠ R := fun e => by
      rw [e, hR] at e1
      simp only [Option.some.injEq, Obj.cells.injEq] at e1
      exact absurd e1.2.1 (by decide)
    have e2 := ((gb4 w' R p q r t).block E (Array.getElem?_eq_some_iff.1 e1).1 (fun e => hne (Option.some.inj e))).trans e1
    exact ⟨Joins.cell_of_block e2 6, Joins.cell_of_block e2 7, Joins.cell_of_block e2 9⟩
  clear hb1 hb2 hn2 hE
  have HSK2 : Hid (∀ w', Below W.heap.size W w' → Calls Tryz.prog 71 #[.slice none 0 0, .int .i64 0, .int .i64 0, .slice (some ⟨kb, 0, none⟩) 1 kc] w' fun e w'' => ∃ q c, e = .returned (.slice q 1 c) ∧ KOwn w'' w.heap.size (.slice q 1 c) [key] ∧ Below w'.heap.size w' w'' ∧ Below W.heap.size W w'') := Lib.hid fun w' hb => (HSK.out w' (HB2.out.trans (hb.mono HB2.out.size))).mono fun e w'' ⟨q, c, h1, h2, h3, _⟩ => ⟨q, c, h1, h2, h3, hb.trans (h3.mono hb.size)⟩
  have HSV2 : Hid (∀ w', Below W.heap.size W w' → Calls Tryz.prog 72 #[.slice none 0 0, .int .i64 0, .int .i64 0, .slice (some ⟨vb, 0, none⟩) 1 vc] w' fun e w'' => ∃ q c, e = .returned (.slice q 1 c) ∧ VOwn w'' w.heap.size (.slice q 1 c) [x] ∧ Below w'.heap.size w' w'' ∧ Below W.heap.size W w'') := Lib.hid fun w' hb => (HSV.out w' (HB2.out.trans (hb.mono HB2.out.size))).mono fun e w'' ⟨q, c, h1, h2, h3, _⟩ => ⟨q, c, h1, h2, h3, hb.trans (h3.mono hb.size)⟩
  have HUP2 : Hid (∀ w' qk dk qv dv, Below W.heap.size W w' → KOwn w' w.heap.size (.slice qk 1 dk) [key] → VOwn w' w.heap.size (.slice qv 1 dv) [x] → Calls Tryz.prog 70 #[.pointer (some ⟨cb, 0, none⟩), .slice q 0 c, .agg #[.bool true, .slice qk 1 dk, .slice qv 1 dv, .slice none 0 0]] w' fun e w'' => e = .returned (.tuple #[.agg #[.bool true, .slice qk 1 dk, .slice qv 1 dv, .slice none 0 0], .int .i64 0]) ∧ Below w'.heap.size w' w'' ∧ Below W.heap.size W w'') := Lib.hid fun w' qk dk qv dv hb hK hV => (HUP.out w' qk dk qv dv (HB2.out.trans (hb.mono HB2.out.size)) hK hV).mono fun e w'' ⟨h1, h3, _⟩ => ⟨h1, h3, hb.trans (h3.mono hb.size)⟩
  clear HSK HSV HUP
  go_region_held3 (fun w' => w'.cell? ⟨E, 6, none⟩ = some (.slice none 0 0) ∧ w'.cell? ⟨E, 7, none⟩ = some (.slice none 0 0) ∧ w'.cell? ⟨E, 9, none⟩ = some (.int .i64 0))
    (with_reducible first | exact HXR.out _ _ _ _ _ _ HBU.out HRB.out | exact HX.out _ HBU.out | exact HX.out _ (low_alloc HBU.out _) | exact HX.out _ HBF.out | exact HX.out _ (low_alloc HBF.out _) | exact HX.out _ HBK.out | exact HX.out _ (low_alloc HBK.out _) | exact HX.out _ HBV.out | exact HX.out _ (low_alloc HBV.out _) | exact HX.out _ (Below.refl _ _).drew | exact HX.out _ (low_first _ _))
    (first
      | (go_at_call 71; (with_reducible first | refine (HSK2.out _ HBV.out).mono ?_ | refine (HSK2.out _ (low_alloc HBV.out _)).mono ?_); rintro e w2 ⟨qk, dk, rfl, hv2, hb2, hbf⟩; have HFK := Lib.hid hv2; (first | have HFV := Lib.hid (v_carry HVV.out hb2) | have HFV := Lib.hid (v_carrya HVV.out hb2)); have HBF := Lib.hid hbf; (first | have HBOX := Lib.hid (box_carry2 HBOX.out hb2) | have HBOX := Lib.hid (box_new2 HBV.out hb2) | skip); clear hv2 hb2 hbf)
      | (go_at_call 72; (with_reducible first | refine (HSV2.out _ HBK.out).mono ?_ | refine (HSV2.out _ (low_alloc HBK.out _)).mono ?_); rintro e w2 ⟨qv, dv, rfl, hv2, hb2, hbf⟩; have HFV := Lib.hid hv2; (first | have HFK := Lib.hid (k_carry HVK.out hb2) | have HFK := Lib.hid (k_carrya HVK.out hb2)); have HBF := Lib.hid hbf; (first | have HBOX := Lib.hid (box_carry2 HBOX.out hb2) | have HBOX := Lib.hid (box_new2 HBK.out hb2) | skip); clear hv2 hb2 hbf)
      | (go_at_call 71; (with_reducible first | refine (HSK2.out _ (Below.refl _ _).drew).mono ?_ | refine (HSK2.out _ (low_first _ _)).mono ?_); rintro e w2 ⟨qk, dk, rfl, hv2, hb2, hbf⟩; have HVK := Lib.hid hv2; have HBK := Lib.hid hbf; (first | have HBOX := Lib.hid (box_newd2 hb2) | skip); clear hv2 hb2 hbf)
      | (go_at_call 72; (with_reducible first | refine (HSV2.out _ (Below.refl _ _).drew).mono ?_ | refine (HSV2.out _ (low_first _ _)).mono ?_); rintro e w2 ⟨qv, dv, rfl, hv2, hb2, hbf⟩; have HVV := Lib.hid hv2; have HBV := Lib.hid hbf; (first | have HBOX := Lib.hid (box_newd2 hb2) | skip); clear hv2 hb2 hbf)
      | (go_at_call 70; (with_reducible first | refine (HUP2.out _ _ _ _ _ HBF.out HFK.out HFV.out).mono ?_ | refine (HUP2.out _ _ _ _ _ (low_alloc HBF.out _) (k_alloc HFK.out _) (v_alloc HFV.out _)).mono ?_); rintro e w3 ⟨rfl, hb3, hbf⟩; (first | have HUK := Lib.hid (k_carry HFK.out hb3) | have HUK := Lib.hid (k_carrya HFK.out hb3)); (first | have HUV := Lib.hid (v_carry HFV.out hb3) | have HUV := Lib.hid (v_carrya HFV.out hb3)); have HBU := Lib.hid hbf; (first | have hrc := box_carry2 HBOX.out hb3 | have hrc := box_new2 HBF.out hb3 | skip); (first | (obtain ⟨hrb, hrl⟩ := hrc; have HRB := Lib.hid hrb; have HRL := Lib.hid hrl; have r0 := (Joins.cell_of_block hrb 0).trans rfl; have r1 := (Joins.cell_of_block hrb 1).trans rfl; have r2 := (Joins.cell_of_block hrb 2).trans rfl; have r3 := (Joins.cell_of_block hrb 3).trans rfl; have u0 := Joins.unfrozen_of_block hrb 0; have u1 := Joins.unfrozen_of_block hrb 1; have u2 := Joins.unfrozen_of_block hrb 2; have u3 := Joins.unfrozen_of_block hrb 3; clear hrb hrl) | skip); clear hb3 hbf)
      | fail)
  all_goals
    have hlow : Below w.heap.size w w3 := HB2.out.trans (HBU.out.mono HB2.out.size)
    have HLW := Lib.hid hlow
  all_goals
    first
      | (obtain ⟨⟨x0, x1, x2, x3⟩, hk4, hv4, hb4⟩ := turn_end HRB.out HLW.out (Nat.le_trans HB2.out.size HRL.out) HUK.out HUV.out (.bool true) (.slice qk 1 dk) (.slice qv 1 dv) (.slice none 0 0)
         have HW4 := Lib.hid (HWR.out _ _ _ _ _ hb4 hk4 hv4)
         clear hk4 hv4 hb4 hlow)
      | (have hnw := heap_alloc_new w3 (.cells #[.bool true, .slice qk 1 dk, .slice qv 1 dv, .slice none 0 0] 82)
         have x0 := (Joins.cell_of_block hnw 0).trans rfl
         have x1 := (Joins.cell_of_block hnw 1).trans rfl
         have x2 := (Joins.cell_of_block hnw 2).trans rfl
         have x3 := (Joins.cell_of_block hnw 3).trans rfl
         have HW4 := Lib.hid (HWR.out _ _ _ _ _ (HLW.out.alloc HLW.out.size (.cells #[.bool true, .slice qk 1 dk, .slice qv 1 dv, .slice none 0 0] 82)) (k_alloc HUK.out _) (v_alloc HUV.out _))
         clear hnw hlow)
  all_goals
    go_wp2_with fail
    refine HW4.out.mono ?_
    rintro e w5 ⟨rfl, hb5⟩
    go_wp2
    go_ret2
    exact ⟨rfl, hb5⟩
end

end Go.Proofs.YtfpdcfomfikkiaaGreatDoor

