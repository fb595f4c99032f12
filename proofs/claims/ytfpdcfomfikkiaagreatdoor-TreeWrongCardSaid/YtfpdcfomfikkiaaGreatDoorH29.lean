/-
  Package share: Fits, Poor: contracts.
  tree: cut, poor.
  tree: a change in memory; entry.
  tree: what is called for each node, where the first one is none.
  slices.BinarySearchFunc over keys; place.kid, top, way.end, step.val.
  tree: the nodes of a tree whose first node is none; of the empty tree.
-/
import Derived.Test.YtfpdcfomfikkiaaGreatDoorH27
import Derived.Test.YtfpdcfomfikkiaaGreatDoorH28
import Derived.Test.YtfpdcfomfikkiaaGreatDoorH24
import Derived.Test.YtfpdcfomfikkiaaGreatDoorH15
import Derived.Test.YtfpdcfomfikkiaaGreatDoorH02
import Derived.RangeFuncNested
import Derived.RangeFuncBound
import Derived.RangeFuncCalls
import Derived.RangeFuncLeaves
import Derived.Shelf.Abstract
import Derived.WalkKit
import Derived.OwnWalkIn
import Derived.TacticsInMore
import Derived.LoopNIn
import Derived.LoopIn
import Derived.LoopTactic
import Derived.Deep.RegionHeld3
set_option linter.unusedVariables false
set_option maxRecDepth 100000
namespace Go.Proofs.YtfpdcfomfikkiaaGreatDoor
open Go.RowKit

/-- A Bool that is told. -/
def YesPost (w : World) (b : Bool) (e : Ending) (w' : World) : Prop := e = .returned (.bool b) ∧ Below w.heap.size w w'
def I64 (x : Int) : Prop := -9223372036854775808 ≤ x ∧ x ≤ 9223372036854775807

theorem ks_three {w : World} (x y z : Int) : KsOk (w.alloc (.cells #[.int .i64 x, .int .i64 y, .int .i64 z] 3)) (some ⟨w.heap.size, 0, none⟩) 3 3 [x, y, z] := by
  refine ⟨rfl, Nat.le_refl _, by omega, fun _ => ⟨w.heap.size, 0, rfl, fun i v hz => ?_⟩⟩
  match i, hz with
  | 0, hz => cases hz; exact Joins.cell_of_block (heap_alloc_new w _) 0
  | 1, hz => cases hz; exact Joins.cell_of_block (heap_alloc_new w _) 1
  | 2, hz => cases hz; exact Joins.cell_of_block (heap_alloc_new w _) 2

def poorS (a most : Int) : Bool := decide (0 ≤ a ∧ 0 < most ∧ 4 * a < most)
set_option maxHeartbeats 800000 in
theorem poor_any {w : World} (a most : Int) (hm : I64 most) : Calls Tryz.prog 125 #[.int .i64 a, .int .i64 most] w (YesPost w (poorS a most)) := by
  obtain ⟨m1, m2⟩ := hm
  have HE : Hid (∀ b : Bool, b = poorS a most → YesPost w b (.returned (.bool b)) w) := Lib.hid fun b _ => ⟨rfl, Below.refl _ _⟩
  have HP : Hid (poorS a most = decide (0 ≤ a ∧ 0 < most ∧ 4 * a < most)) := Lib.hid rfl
  generalize poorS a most = B at *
  by_cases h0 : 0 ≤ a
  · by_cases h1 : 0 < most
    · have e0 : decide (0 ≤ a) = true := decide_eq_true h0
      have e1 : decide (0 < most) = true := decide_eq_true h1
      have hq : (most - 1).tdiv 4 = (most - 1) / 4 := Int.tdiv_eq_ediv_of_nonneg (by omega)
      have e2 : Hid (decide (a ≤ (most - 1) / 4) = B) := Lib.hid (by rw [HP.out]; exact decide_eq_decide.2 (by omega))
      go_enter Tryz.func125, Tryz.ntmps125
      go_wp2
      go_ret
      exact ⟨by rw [← e2.out]; rfl, Below.refl _ _⟩
    · have e0 : decide (0 ≤ a) = true := decide_eq_true h0
      have e1 : decide (0 < most) = false := decide_eq_false h1
      have e2 : false = B := by rw [HP.out]; exact (decide_eq_false (by omega)).symm
      subst e2
      go_enter Tryz.func125, Tryz.ntmps125
      go_wp2
      go_ret
      exact ⟨rfl, Below.refl _ _⟩
  · have e0 : decide (0 ≤ a) = false := decide_eq_false h0
    have e2 : false = B := by rw [HP.out]; exact (decide_eq_false (by omega)).symm
    subst e2
    go_enter Tryz.func125, Tryz.ntmps125
    go_wp2
    go_ret
    exact ⟨rfl, Below.refl _ _⟩

end Go.Proofs.YtfpdcfomfikkiaaGreatDoor

set_option linter.unusedVariables false
set_option linter.unusedSimpArgs false
set_option maxRecDepth 100000
namespace Go.Proofs.YtfpdcfomfikkiaaGreatDoor
open Go.RowKit

set_option maxHeartbeats 1600000 in
theorem rpoor_one {w : World} {r : Rw} {n : Nd} (hr : r.ns = [n]) (hn : Nds w r.nq r.ns) (h1 : 1 ≤ r.nc) (h2 : r.nc ≤ 9223372036854775807) (ho : n.Ok w) (hc : n.s.count ≤ 100000) :
    Calls Tryz.prog 94 #[r.cell] w (YesPost w (poorS n.s.size 493)) := by
  obtain ⟨b, o, hq, hcs⟩ := hn (by rw [hr]; simp)
  obtain ⟨c0, c1, c2, c3⟩ := hcs 0 n (by rw [hr]; rfl)
  have hlt : b < w.heap.size := World.block_lt_of_cell? _ _ c0
  have hcell : r.cell = .agg #[.slice (some ⟨b, o, none⟩) 1 r.nc, .slice r.bq r.bs.length r.bc] := by unfold Rw.cell; rw [hq, hr]; rfl
  rw [hcell]
  obtain ⟨W, hW⟩ : ∃ W, W = w.alloc (.cells #[.slice (some ⟨b, o, none⟩) 1 r.nc, .slice r.bq r.bs.length r.bc] 168) := ⟨_, rfl⟩
  have hb : Below w.heap.size w W := by rw [hW]; exact (Below.refl _ _).alloc (Nat.le_refl _) _
  have HB := Lib.hid hb
  have HS := Lib.hid (size_any (ho.below hb) hc)
  obtain ⟨_, _, _, _, _⟩ := Nd.few hc
  have hbk : W.heap[w.heap.size]? = some (.cells #[.slice (some ⟨b, o, none⟩) 1 r.nc, .slice r.bq r.bs.length r.bc] 168 (0, 0)) := by rw [hW]; exact heap_alloc_new w _
  have z0 := (Joins.cell_of_block hbk 0).trans rfl
  have z1 := (Joins.cell_of_block hbk 1).trans rfl
  simp only [Nat.zero_mul, Nat.add_zero] at c0 c1 c2 c3
  have HP := Lib.hid (fun w => poor_any (w := w) (n.s.size : Nat) 493 ⟨by omega, by omega⟩)
  generalize n.s.size = sz at *
  unfold Nd.cell at HS
  clear hb hbk hcell hq hcs hn hr ho hc
  go_enter Tryz.func94, Tryz.ntmps94
  go_wp2_with fail
  rw [← hW]
  replace hW := Lib.hid hW
  refine HS.out.mono ?_
  rintro e w1 ⟨rfl, hb1⟩
  have HB1 := Lib.hid hb1
  clear hb1
  go_wp2_with fail
  refine (HP.out _).mono ?_
  rintro e w2 ⟨rfl, hb2⟩
  have HB2 := Lib.hid hb2
  clear hb2
  go_wp2
  go_ret
  exact ⟨rfl, HB.out.trans ((HB1.out.mono HB.out.size).trans (HB2.out.mono (Nat.le_trans HB.out.size HB1.out.size)))⟩

set_option maxHeartbeats 1600000 in
theorem rpoor_two {w : World} {r : Rw} (hr : r.ns.length ≠ 1) (h1 : r.ns.length ≤ r.nc) (h2 : r.nc ≤ 9223372036854775807) :
    Calls Tryz.prog 94 #[r.cell] w (YesPost w false) := by
  unfold Rw.cell
  obtain ⟨m, hm⟩ : ∃ m, m = r.ns.length := ⟨_, rfl⟩
  rw [← hm] at hr h1 ⊢
  clear hm
  have hd : ((m : Int) == 1) = false := by simp; omega
  go_enter Tryz.func94, Tryz.ntmps94
  go_wp2
  go_ret
  exact ⟨rfl, (Below.refl _ _).alloc (Nat.le_refl _) _⟩

end Go.Proofs.YtfpdcfomfikkiaaGreatDoor

set_option linter.unusedVariables false
set_option linter.unusedSimpArgs false
set_option maxRecDepth 100000
namespace Go.Proofs.YtfpdcfomfikkiaaGreatDoor
open Go.RowKit

/-- The box of a change. -/
def CBx (w : World) (cb P sm : Nat) (val : Kb) (fv lv : Value) : Prop := w.heap[cb]? = some (.cells #[.pointer (some ⟨P, 0, none⟩), .map (some sm), .slice val.q val.l.length val.c, fv, lv] 102 (0, 0))
/-- What entry answers. -/
def entV (x : Kb) : Vl := if 64 < x.l.length then ⟨none, 0, [], x.l.length, -1⟩ else ⟨x.q, x.c, x.l, 0, 0⟩

set_option maxHeartbeats 800000 in
theorem entry_ok {w : World} {cb P sm : Nat} {val : Kb} {fv lv : Value} (h : CBx w cb P sm val fv lv) (hv : val.Ok w) :
    Calls Tryz.prog 37 #[.pointer (some ⟨cb, 0, none⟩)] w fun e w' => e = .returned (entV val).cell ∧ Below w.heap.size w w' := by
  have hlt := (Array.getElem?_eq_some_iff.1 h).1
  obtain ⟨q, c, l⟩ := val
  have h1 := hv.h1
  have h2 := hv.h2
  have z2 : w.cell? ⟨cb, 2, none⟩ = some (.slice q l.length c) := (Joins.cell_of_block h 2).trans rfl
  have HE : Hid (entV ⟨q, c, l⟩ = if 64 < l.length then ⟨none, 0, [], l.length, -1⟩ else ⟨q, c, l, 0, 0⟩) := Lib.hid rfl
  dsimp only at h1 h2
  obtain ⟨n, hn⟩ : ∃ n, n = l.length := ⟨_, rfl⟩
  rw [← hn] at h1 z2 HE
  have HN := Lib.hid hn
  clear h hv hn
  by_cases hd : 64 < n
  · have d1 : decide ((64 : Int) < (n : Int)) = true := decide_eq_true (by omega)
    have HE2 : Hid (entV ⟨q, c, l⟩ = ⟨none, 0, [], n, -1⟩) := Lib.hid (by rw [HE.out, if_pos hd])
    generalize entV ⟨q, c, l⟩ = x at *
    go_enter Tryz.func37, Tryz.ntmps37
    go_wp2
    refine bodyPost_ret (results_cell_row rfl _ _ w.heap.size 89 _ (0, 0) _ (by kernel_rfl) (heap_alloc_new w _) Tryz.underlying89 rfl (by kernel_rfl)) rfl ?_
    refine ⟨?_, sbox1 _ _⟩
    rw [HE2.out]
    rfl
  · have d1 : decide ((64 : Int) < (n : Int)) = false := decide_eq_false (by omega)
    have HE2 : Hid (entV ⟨q, c, l⟩ = ⟨q, c, l, 0, 0⟩) := Lib.hid (by rw [HE.out, if_neg hd])
    generalize entV ⟨q, c, l⟩ = x at *
    go_enter Tryz.func37, Tryz.ntmps37
    go_wp2
    refine bodyPost_ret (results_cell_row rfl _ _ w.heap.size 89 _ (0, 0) _ (by kernel_rfl) (heap_alloc_new w _) Tryz.underlying89 rfl (by kernel_rfl)) rfl ?_
    refine ⟨?_, sbox1 _ _⟩
    rw [HE2.out, HN.out]
    rfl

end Go.Proofs.YtfpdcfomfikkiaaGreatDoor

set_option linter.unusedVariables false
set_option linter.unusedSimpArgs false
set_option maxRecDepth 100000
namespace Go.Proofs.YtfpdcfomfikkiaaGreatDoor
open Go.RowKit Go.Shelf

attribute [local go_sem] Oper.semAt_some

set_option maxHeartbeats 1600000 in
theorem eachW_any {w : World} {l by_ bd : Nat} {pc : Pc} {K : World → Prop} (hy : w.cell? ⟨by_, 0, none⟩ = some (.func (.yield l) #[] #[]))
    (hR : ∀ W, Below w.heap.size w W → YieldAt Fence.wide 2 Tryz.prog l #[Nd.zero.cell, .int .i64 18] W fun e W' => e = .returned (.bool false) ∧ K W') :
    Calls Tryz.prog 65 #[pc.v, Nd.zero.cell, .int .i64 18, .pointer (some ⟨bd, 0, none⟩), .pointer (some ⟨by_, 0, none⟩)] w fun e w' => e = .returned (.bool false) ∧ K w' := by
  have hbw : Below w.heap.size w ((w.alloc (.cells pc.cells 79)).alloc (.cells #[.bool false, .slice none 0 0, .slice none 0 0, .slice none 0 0] 82)) := sbox2 _ _ _
  obtain ⟨fn, tmps, assign, body, hyl, hRR⟩ := hR _ hbw
  have hyW : ((w.alloc (.cells pc.cells 79)).alloc (.cells #[.bool false, .slice none 0 0, .slice none 0 0, .slice none 0 0] 82)).cell? ⟨by_, 0, none⟩ = some (.func (.yield l) #[] #[]) := by rw [hbw.cell (World.block_lt_of_cell? _ _ hy)]; exact hy
  unfold Nd.cell Nd.zero at hyl
  unfold Pc.v Pc.cells at *
  unfold Nd.cell Nd.zero
  dsimp only [List.length_nil] at *
  clear hR hy hbw
  refine (callsIn_wide (n := 3)).1 (callsIn_of_wp Tryz.func65 rfl trivial ?_)
  simp only [Tryz.ntmps65, List.size_toArray, List.length_cons, List.length_nil, Nat.reduceAdd, Nat.reduceSub, Array.replicate_succ, Array.replicate_zero, List.push_toArray, List.append_toArray, List.nil_append, List.cons_append]
  gi_wp2
  refine hRR.mono ?_
  rintro e W' ⟨rfl, hK⟩
  gi_wp2
  go_ret
  exact ⟨rfl, hK⟩

section
variable {w : World} {B P pd sm : Nat} {X : PG} {seen : Int → Bool}

set_option maxHeartbeats 1600000 in
theorem belowW_any (h : LookAt w B P pd sm X seen) (hBw : B ≤ w.heap.size) {pc : Pc} (hp : pc.s.Ok w) (hno : ∀ s, ¬ NodeAt X seen pc.no pc.deep pc.s.s s) {l by_ bd : Nat} {ty : TypeId} {K : World → Prop} (nv : Value)
    (hy : w.heap[by_]? = some (.cells #[.func (.yield l) #[] #[]] ty (0, 0)))
    (hR : ∀ W seen', LookAt W B P pd sm X seen' → LStep sm w W → YieldAt Fence.wide 2 Tryz.prog l #[Nd.zero.cell, .int .i64 18] W fun e W' => e = .returned (.bool false) ∧ K W') :
    Calls Tryz.prog 66 #[.agg #[.pointer (some ⟨P, 0, none⟩), .map (some sm)], pc.v, nv, .func (.func 65) #[] #[.pointer (some ⟨bd, 0, none⟩), .pointer (some ⟨by_, 0, none⟩)]] w fun e w' => e = .returned (.bool false) ∧ K w' := by
  obtain ⟨W, hW⟩ : ∃ W, W = (w.alloc (.cells #[.pointer (some ⟨P, 0, none⟩), .map (some sm)] 70)).alloc (.cells pc.cells 79) := ⟨_, rfl⟩
  have hbw : Below w.heap.size w W := by rw [hW]; exact sbox2 _ _ _
  obtain ⟨b0, b1, _, hws⟩ := boxes w #[.pointer (some ⟨P, 0, none⟩), .map (some sm)] pc.cells 70 79
  rw [← hW] at b0 b1 hws
  have HLN := Lib.hid (lookNode_any (h.below hbw) (by omega) (hp.below hbw))
  have HNO := Lib.hid hno
  have HLS : Hid (LStep sm w W) := Lib.hid (h.step hbw)
  have HX : Hid (∀ w', Keeps (isMaps [sm]) W w' → PBox w' (w.heap.size + 1) pc) := Lib.hid fun w' hk => PBox.of (hk.stay b1 rfl)
  have HB0 : Hid (∀ w', Keeps (isMaps [sm]) W w' → w'.cell? ⟨w.heap.size, 0, none⟩ = some (.pointer (some ⟨P, 0, none⟩)) ∧ w'.cell? ⟨w.heap.size, 1, none⟩ = some (.map (some sm))) := Lib.hid fun w' hk => ⟨(Joins.cell_of_block (hk.stay b0 rfl) 0).trans rfl, (Joins.cell_of_block (hk.stay b0 rfl) 1).trans rfl⟩
  have HY := Lib.hid hy
  have HR := Lib.hid hR
  obtain ⟨p0, p1, p2, p3, p4⟩ := HX.out W (Keeps.refl _ _)
  obtain ⟨x0, x1⟩ := HB0.out W (Keeps.refl _ _)
  unfold Pc.v at *
  unfold Pc.cells at hW
  clear h hBw hp hno hbw b0 b1 hws hy hR
  go_enter Tryz.func66, Tryz.ntmps66
  go_wp2_with fail
  rw [← hW]
  replace hW := Lib.hid hW
  refine HLN.out.mono ?_
  rintro e w1 (⟨n, rfl, hna, _⟩ | ⟨rfl, _, ⟨seen', hla⟩, hst⟩)
  · exact absurd hna (HNO.out _)
  clear HLN p0 p1 p2 p3 p4 x0 x1
  obtain ⟨W2, hW2⟩ : ∃ W2, W2 = w1.alloc (.cells #[.bool false, .slice none 0 0, .slice none 0 0, .slice none 0 0] 82) := ⟨_, rfl⟩
  have hb2 : Below w1.heap.size w1 W2 := by rw [hW2]; exact sbox1 _ _
  have hs2 : LStep sm w W2 := (HLS.out.trans hst).trans (hla.step hb2)
  obtain ⟨p0, p1, p2, p3, p4⟩ := HX.out W2 (hst.keeps.trans (Keeps.below hb2))
  have hbx : W2.heap[w1.heap.size]? = some (.cells #[.bool false, .slice none 0 0, .slice none 0 0, .slice none 0 0] 82 (0, 0)) := by rw [hW2]; exact heap_alloc_new _ _
  have n0 : W2.cell? ⟨w1.heap.size, 0, none⟩ = some (.bool false) := (Joins.cell_of_block hbx 0).trans rfl
  have n1 : W2.cell? ⟨w1.heap.size, 1, none⟩ = some (.slice none 0 0) := (Joins.cell_of_block hbx 1).trans rfl
  have n2 : W2.cell? ⟨w1.heap.size, 2, none⟩ = some (.slice none 0 0) := (Joins.cell_of_block hbx 2).trans rfl
  have n3 : W2.cell? ⟨w1.heap.size, 3, none⟩ = some (.slice none 0 0) := (Joins.cell_of_block hbx 3).trans rfl
  have HE := Lib.hid (eachW_any (w := W2) (l := l) (by_ := by_) (bd := bd) (pc := pc) (K := K) ((Joins.cell_of_block (hs2.keeps.stay HY.out rfl) 0).trans rfl) (fun W3 hb3 => HR.out W3 seen' ((hla.below hb2).below hb3) (hs2.trans ((hla.below hb2).step hb3))))
  unfold Pc.v Nd.cell Nd.zero at HE
  clear hla hst hb2 hs2 hbx
  subst hW2
  dsimp only [Nd.cell, Nd.zero, List.length_nil]
  go_wp2_with fail
  refine HE.out.mono ?_
  rintro e w3 ⟨rfl, hK⟩
  clear p0 p1 p2 p3 p4 n0 n1 n2 n3
  go_wp2
  go_ret
  exact ⟨rfl, hK⟩
end

end Go.Proofs.YtfpdcfomfikkiaaGreatDoor

set_option linter.unusedVariables false
set_option linter.unusedSimpArgs false
set_option maxRecDepth 100000
namespace Go.Proofs.YtfpdcfomfikkiaaGreatDoor
open Go.RowKit

def BsPost (w : World) (l : List Key) (n : Key) (e : Ending) (w' : World) : Prop := ∃ (k : Nat) (b : Bool), e = .returned (.tuple #[.int .i64 (k : Int), .bool b]) ∧ At1 l n k b ∧ Below w.heap.size w w'

set_option maxHeartbeats 3200000 in
theorem bsKeys_any {w : World} {q : Option Addr} {m c : Nat} {l : List Kb} (hl : Kbs w q l) (ho : ∀ x ∈ l, x.Ok w) (hn : m = l.length) (hmc : m ≤ c) (h16 : m ≤ 1000000) (hup : Up (l.map Kb.l)) {n : Kb} (hk : n.Ok w) :
    Calls Tryz.prog 59 #[.slice q m c, .slice n.q n.l.length n.c, .func (.func 60) #[] #[]] w (BsPost w (l.map Kb.l) n.l) := by
  have eg : ∀ args (w : World), (callFunc 60 args).run Tryz.prog w = .ok (.enter 60 args) w := fun _ _ => rfl
  have HN := Lib.hid hn
  have HL := Lib.hid hl
  have HO := Lib.hid ho
  have HI := Lib.hid hup
  have HCM : Hid (∀ (x : Kb), x ∈ l → ∀ w1, Below w.heap.size w w1 → Calls Tryz.prog 60 #[.slice x.q x.l.length x.c, .slice n.q n.l.length n.c] w1 fun e w' => e = .returned (.int .i64 (Lib.compareBytes x.l n.l)) ∧ w1 = w') := Lib.hid fun x hx w1 hb => bytesCompare_any ((ho x hx).bs.below hb) (hk.bs.below hb) _ _ _ _ rfl rfl (ho x hx).z hk.z
  clear hn hl hup ho hk
  generalize n.l.length = nl at *
  go_enter Tryz.func59, Tryz.ntmps59
  go_wp2
  go_loopw [9, 10] (fun x y wr => ∃ a b : Nat, x = .int .i64 a ∧ y = .int .i64 b ∧ a ≤ b ∧ b ≤ m ∧ (∀ p ∈ (l.map Kb.l).take a, KLt p n.l) ∧ (∀ p ∈ (l.map Kb.l).drop b, KLe n.l p) ∧ Below w.heap.size w wr) (fun x y _ => (intOf y).toNat - (intOf x).toNat)
  case atStart => exact ⟨0, m, rfl, rfl, by omega, by omega, by simp, by rw [List.drop_eq_nil_of_le (by rw [List.length_map, HN.out]; omega)]; simp, Below.refl _ _⟩
  case round =>
    obtain ⟨a, b, rfl, rfl, hab, hbm, hlo, hhi, hb⟩ := hrel
    have HLO := Lib.hid hlo
    have HHI := Lib.hid hhi
    have HB := Lib.hid hb
    clear hlo hhi hb
    by_cases hlt : a < b
    · obtain ⟨h, hh⟩ : ∃ h : Nat, ((a : Int) + (b : Int)) / 2 = (h : Int) := ⟨(a + b) / 2, by omega⟩
      have hah : a ≤ h ∧ h < b := by omega
      obtain ⟨hah, hhb⟩ := hah
      obtain ⟨x, hx⟩ : ∃ x, l[h]? = some x := ⟨_, List.getElem?_eq_getElem (by have := HN.out; omega)⟩
      have hxm : (l.map Kb.l)[h]? = some x.l := by rw [List.getElem?_map, hx]; rfl
      obtain ⟨b0, o0, rfl, hblt, hc⟩ := HL.out.at hx
      have c0 : wr.cell? ⟨b0, o0 + h, none⟩ = some (.slice x.q x.l.length x.c) := by rw [HB.out.cell (p := ⟨b0, o0 + h, none⟩) hblt]; exact hc
      have HC := Lib.hid (HCM.out x (List.mem_of_getElem? hx) _ HB.out)
      have HLO2 : Hid (Lib.compareBytes x.l n.l < 0 → ∀ p ∈ (l.map Kb.l).take (h + 1), KLt p n.l) := Lib.hid (up_lo HI.out hxm)
      have HHI2 : Hid (0 ≤ Lib.compareBytes x.l n.l → ∀ p ∈ (l.map Kb.l).drop h, KLe n.l p) := Lib.hid fun h0 => up_hi HI.out hxm (KLe.not_lt.2 (by show ¬ _ < _; omega))
      have hhm : h < m := by omega
      have hhmi : (h : Int) < (m : Int) := by omega
      clear hx hxm hc hblt
      generalize Lib.compareBytes x.l n.l = r at *
      generalize x.l.length = xl at *
      by_cases hr : r < 0
      · go_wp2_with fail
        refine HC.out.mono ?_
        rintro e w1 ⟨rfl, rfl⟩
        have HL2 := Lib.hid (HLO2.out hr)
        go_wp2
        go_roundw
        case rel => exact ⟨h + 1, b, by go_num, rfl, by omega, hbm, HL2.out, HHI.out, HB.out⟩
        case measure => simp [intOf]; omega
      · go_wp2_with fail
        refine HC.out.mono ?_
        rintro e w1 ⟨rfl, rfl⟩
        have HH2 := Lib.hid (HHI2.out (by omega))
        go_wp2
        go_roundw
        case rel => exact ⟨a, h, rfl, rfl, hah, by omega, HLO.out, HH2.out, HB.out⟩
        case measure => simp [intOf]; omega
    · have hab' : a = b := by omega
      subst hab'
      by_cases ham : a < m
      · obtain ⟨x, hx⟩ : ∃ x, l[a]? = some x := ⟨_, List.getElem?_eq_getElem (by have := HN.out; omega)⟩
        have hxm : (l.map Kb.l)[a]? = some x.l := by rw [List.getElem?_map, hx]; rfl
        obtain ⟨b0, o0, rfl, hblt, hc⟩ := HL.out.at hx
        have c0 : wr.cell? ⟨b0, o0 + a, none⟩ = some (.slice x.q x.l.length x.c) := by rw [HB.out.cell (p := ⟨b0, o0 + a, none⟩) hblt]; exact hc
        have HC := Lib.hid (HCM.out x (List.mem_of_getElem? hx) _ HB.out)
        have HEQ : Hid ((Lib.compareBytes x.l n.l == 0) = true ↔ (l.map Kb.l)[a]? = some n.l) := Lib.hid (by
          rw [beq_iff_eq, hxm]
          exact ⟨fun h => by rw [kc_zero h], fun h => by rw [Option.some.inj h]; exact kc_self _⟩)
        clear hx hxm hc hblt
        generalize Lib.compareBytes x.l n.l = r at *
        generalize x.l.length = xl at *
        obtain ⟨z, hz⟩ : ∃ z, (r == 0) = z := ⟨_, rfl⟩
        rw [hz] at HEQ
        have ham1 : decide ((a : Int) < (m : Int)) = true := decide_eq_true (by omega)
        have hami : (a : Int) < (m : Int) := by omega
        go_wp2_with fail
        refine HC.out.mono ?_
        rintro e w1 ⟨rfl, rfl⟩
        go_wp2
        go_ret2
        exact ⟨a, z, rfl, ⟨by rw [List.length_map, ← HN.out]; omega, HLO.out, HHI.out, HEQ.out⟩, HB.out⟩
      · have ham0 : a = m := by omega
        have ham1 : decide ((a : Int) < (m : Int)) = false := decide_eq_false (by omega)
        go_wp2
        go_ret2
        refine ⟨a, false, rfl, ⟨by rw [List.length_map, ← HN.out]; omega, HLO.out, HHI.out, ?_⟩, HB.out⟩
        constructor
        · intro h; cases h
        · intro hp
          rw [List.getElem?_eq_none (by rw [List.length_map, ← HN.out]; omega)] at hp
          cases hp

set_option maxHeartbeats 400000 in
theorem top_any {w : World} (k : Int) : Calls Tryz.prog 57 #[.int .i64 k] w fun e w' => e = .returned (.agg #[.int .i64 k, .int .i64 1, .slice none 0 0, .slice none 0 0, .bool false]) ∧ Below w.heap.size w w' := by
  go_enter Tryz.func57, Tryz.ntmps57
  go_wp2
  have hb := heap_alloc_new w (.cells #[.int .i64 k, .int .i64 1, .slice none 0 0, .slice none 0 0, .bool false] 79)
  obtain ⟨W, hW⟩ : ∃ W, W = w.alloc (.cells #[.int .i64 k, .int .i64 1, .slice none 0 0, .slice none 0 0, .bool false] 79) := ⟨_, rfl⟩
  rw [← hW] at hb ⊢
  have HB : Below w.heap.size w W := by rw [hW]; exact sbox1 _ _
  have g0 := (Joins.cell_of_block hb 0).trans rfl
  have g1 := (Joins.cell_of_block hb 1).trans rfl
  have g2 := (Joins.cell_of_block hb 2).trans rfl
  have g3 := (Joins.cell_of_block hb 3).trans rfl
  have g4 := (Joins.cell_of_block hb 4).trans rfl
  refine bodyPost_ret (v := .agg #[.int .i64 k, .int .i64 1, .slice none 0 0, .slice none 0 0, .bool false]) (by simp [results, Tryz.results57, go_sem, g0, g1, g2, g3, g4]) rfl ⟨rfl, HB⟩

end Go.Proofs.YtfpdcfomfikkiaaGreatDoor

set_option linter.unusedVariables false
set_option linter.unusedSimpArgs false
set_option maxRecDepth 100000
namespace Go.Proofs.YtfpdcfomfikkiaaGreatDoor
open Go.RowKit Go.Shelf

section
variable {w : World} {B P pd sm : Nat} {X : PG} {seen : Int → Bool}

/-- What nodes has captured. -/
structure NCap (w : World) (P sm br bl bn : Nat) (root : Int) (nv : Value) : Prop where
  r : ∃ t, w.heap[br]? = some (.cells #[.int .i64 root] t (0, 0))
  l : ∃ t, w.heap[bl]? = some (.cells #[.pointer (some ⟨P, 0, none⟩), .map (some sm)] t (0, 0))
  n : ∃ t, w.heap[bn]? = some (.cells #[nv] t (0, 0))
theorem NCap.low {w w' : World} {P sm br bl bn : Nat} {root : Int} {nv : Value} (h : NCap w P sm br bl bn root nv) (hb : Below w.heap.size w w') : NCap w' P sm br bl bn root nv := by
  obtain ⟨⟨t1, h1⟩, ⟨t2, h2⟩, ⟨t3, h3⟩⟩ := h
  exact ⟨⟨t1, by rw [hb.block _ (Array.getElem?_eq_some_iff.1 h1).1]; exact h1⟩, ⟨t2, by rw [hb.block _ (Array.getElem?_eq_some_iff.1 h2).1]; exact h2⟩, ⟨t3, by rw [hb.block _ (Array.getElem?_eq_some_iff.1 h3).1]; exact h3⟩⟩
theorem NCap.cells {w : World} {P sm br bl bn : Nat} {root : Int} {nv : Value} (h : NCap w P sm br bl bn root nv) :
    w.cell? ⟨br, 0, none⟩ = some (.int .i64 root) ∧ w.cell? ⟨bl, 0, none⟩ = some (.pointer (some ⟨P, 0, none⟩)) ∧ w.cell? ⟨bl, 1, none⟩ = some (.map (some sm)) ∧ w.cell? ⟨bn, 0, none⟩ = some nv := by
  obtain ⟨⟨t1, h1⟩, ⟨t2, h2⟩, ⟨t3, h3⟩⟩ := h
  exact ⟨(Joins.cell_of_block h1 0).trans rfl, (Joins.cell_of_block h2 0).trans rfl, (Joins.cell_of_block h2 1).trans rfl, (Joins.cell_of_block h3 0).trans rfl⟩

set_option maxHeartbeats 1600000 in
/-- The empty tree has no nodes. -/
theorem nodes1Z_any {br bl bn : Nat} {nv : Value} (hc : NCap w P sm br bl bn 0 nv) (l : Nat) :
    Calls Tryz.prog 64 #[.func (.yield l) #[] #[], .pointer (some ⟨br, 0, none⟩), .pointer (some ⟨bl, 0, none⟩), .pointer (some ⟨bn, 0, none⟩)] w fun e w' => (∃ v, e = .returned v) ∧ Below w.heap.size w w' := by
  have hb := sbox2 w (.cells #[.func (.yield l) #[] #[]] 133) (.cells #[.int .i64 0] 3)
  obtain ⟨y1, y2, y3, y4⟩ := (hc.low hb).cells
  have HB := Lib.hid hb
  clear hc hb
  go_enter Tryz.func64, Tryz.ntmps64
  go_wp2
  go_end0
  exact ⟨⟨_, rfl⟩, HB.out⟩

set_option maxHeartbeats 3200000 in
theorem nodes1W_any (h : LookAt w B P pd sm X seen) (hBw : B ≤ w.heap.size) {root : Int} (h0 : root ≠ 0) (hno : ∀ s, ¬ NodeAt X seen root 1 Sp.zero.s s) {br bl bn l : Nat} {nv : Value} (hc : NCap w P sm br bl bn root nv) {K : World → Prop} (hKc : ∀ w', K w' → NCap w' P sm br bl bn root nv)
    (hR : ∀ W seen', LookAt W B P pd sm X seen' → LStep sm w W → YieldAt Fence.wide 2 Tryz.prog l #[Nd.zero.cell, .int .i64 18] W fun e W' => e = .returned (.bool false) ∧ K W') :
    Calls Tryz.prog 64 #[.func (.yield l) #[] #[], .pointer (some ⟨br, 0, none⟩), .pointer (some ⟨bl, 0, none⟩), .pointer (some ⟨bn, 0, none⟩)] w fun e w' => (∃ v, e = .returned v) ∧ K w' := by
  obtain ⟨W, hW⟩ : ∃ W, W = (w.alloc (.cells #[.func (.yield l) #[] #[]] 133)).alloc (.cells #[.int .i64 0] 3) := ⟨_, rfl⟩
  have hbw : Below w.heap.size w W := by rw [hW]; exact sbox2 _ _ _
  obtain ⟨b0, b1, _, hws⟩ := boxes w #[.func (.yield l) #[] #[]] #[.int .i64 0] 133 3
  rw [← hW] at b0 b1 hws
  have HKN : Hid (∀ w', Below W.heap.size W w' → w'.cell? ⟨br, 0, none⟩ = some (.int .i64 root) ∧ w'.cell? ⟨bl, 0, none⟩ = some (.pointer (some ⟨P, 0, none⟩)) ∧ w'.cell? ⟨bl, 1, none⟩ = some (.map (some sm)) ∧ w'.cell? ⟨bn, 0, none⟩ = some nv) := Lib.hid fun w' hb => (((hc.low hbw).low hb).cells)
  have HBL : Hid (∀ w', Below W.heap.size W w' → Calls Tryz.prog 66 #[.agg #[.pointer (some ⟨P, 0, none⟩), .map (some sm)], .agg #[.int .i64 root, .int .i64 1, .slice none 0 0, .slice none 0 0, .bool false], nv, .func (.func 65) #[] #[.pointer (some ⟨w.heap.size + 1, 0, none⟩), .pointer (some ⟨w.heap.size, 0, none⟩)]] w' fun e w'' => e = .returned (.bool false) ∧ K w'') := Lib.hid fun w' hb => by
    have hbb : Below w.heap.size w w' := hbw.trans (hb.mono hbw.size)
    exact belowW_any (pc := ⟨root, 1, Sp.zero⟩) (h.below hbb) (Nat.le_trans hBw hbb.size) (Sp.zero_ok w') hno nv ((hb.block _ (by omega)).trans b0) (fun W3 seen' h3 hs3 => hR W3 seen' h3 ((h.step hbb).trans hs3))
  have HKC := Lib.hid hKc
  have HTOP := Lib.hid (fun w => top_any (w := w) root)
  have hrb : (root == 0) = false := by rw [beq_eq_false_iff_ne]; exact h0
  obtain ⟨y1, y2, y3, y4⟩ := HKN.out W (Below.refl _ _)
  clear h hBw h0 hno hc hR hbw b0 b1 hws hKc
  go_enter Tryz.func64, Tryz.ntmps64
  rw [hW] at y1 y2 y3 y4
  go_wp2_with fail
  rw [← hW]
  rw [← hW] at y1 y2 y3 y4
  replace hW := Lib.hid hW
  go_region_held3 (fun w' => w'.cell? ⟨br, 0, none⟩ = some (.int .i64 root) ∧ w'.cell? ⟨bl, 0, none⟩ = some (.pointer (some ⟨P, 0, none⟩)) ∧ w'.cell? ⟨bl, 1, none⟩ = some (.map (some sm)) ∧ w'.cell? ⟨bn, 0, none⟩ = some nv)
    (first | exact HKN.out _ (Below.refl W.heap.size W).drew | exact HKN.out _ HB1.out | exact (HKC.out _ hK).cells)
    (first
      | (go_at_call 57; refine (HTOP.out _).mono ?_; rintro e w1 ⟨rfl, hb⟩; have HB1 : Hid (Below W.heap.size W w1) := Lib.hid ((Below.refl W.heap.size W).drew.trans hb); clear hb)
      | (go_at_call 66; refine (HBL.out _ HB1.out).mono ?_; rintro e w2 ⟨rfl, hK⟩))
  go_wp2
  go_end0
  exact ⟨⟨_, rfl⟩, hK⟩

/-- nodes hands a function over that has captured a root, a look and what is needed. -/
theorem nodes_any (root : Int) (nf : Fn) (ns nr : Array Value) :
    Calls Tryz.prog 29 #[.agg #[.pointer (some ⟨P, 0, none⟩), .map (some sm)],   .int .i64 root, .func nf ns nr] w fun e w' =>
      e = .returned (.func (.func 64) #[] #[.pointer (some ⟨w.heap.size + 1, 0, none⟩), .pointer (some ⟨w.heap.size, 0, none⟩), .pointer (some ⟨w.heap.size + 2, 0, none⟩)]) ∧ NCap w' P sm (w.heap.size + 1) w.heap.size (w.heap.size + 2) root (.func nf ns nr) ∧ Below w.heap.size w w' := by
  obtain ⟨b0, b1, b2, hb, _⟩ := boxes3 w #[.pointer (some ⟨P, 0, none⟩), .map (some sm)] #[.int .i64 root] #[.func nf ns nr] 70 3 94
  have HB := Lib.hid hb
  have HC : Hid (NCap _ P sm (w.heap.size + 1) w.heap.size (w.heap.size + 2) root (.func nf ns nr)) := Lib.hid ⟨⟨_, b1⟩, ⟨_, b0⟩, ⟨_, b2⟩⟩
  clear b0 b1 b2 hb
  go_enter Tryz.func29, Tryz.ntmps29
  go_wp2
  go_ret
  exact ⟨rfl, HC.out, HB.out⟩
end

end Go.Proofs.YtfpdcfomfikkiaaGreatDoor

