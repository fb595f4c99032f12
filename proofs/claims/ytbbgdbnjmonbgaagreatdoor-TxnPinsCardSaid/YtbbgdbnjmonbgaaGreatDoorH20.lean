/-
  node.read.
  tree.
  The order of keys.
-/
import Derived.Test.YtbbgdbnjmonbgaaGreatDoorH00
import Derived.Test.YtbbgdbnjmonbgaaGreatDoorH18
import Derived.Test.YtbbgdbnjmonbgaaGreatDoorH19
import Derived.Test.YtbbgdbnjmonbgaaGreatDoorH16
import Derived.Test.YtbbgdbnjmonbgaaGreatDoorH12
import Derived.Lib.Bytealg
set_option linter.unusedVariables false
set_option linter.unusedSimpArgs false
set_option maxRecDepth 100000
namespace Go.Proofs.YtbbgdbnjmonbgaaGreatDoor
open Go.RowKit
def preS (k : Nat) (b : List UInt8) : Option NdS := if 493 < b.length then none else if k = 2 then some (leafS b) else if k = 3 then some (branchS b) else none
def PrePost (w : World) (o : Option NdS) (e : Ending) (w' : World) : Prop :=
 match o with
 | none => e = .returned (.tuple #[Nd.zero.cell, .bool false]) ∧ Below w.heap.size w w'
 | some s => ∃ n : Nd, e = .returned (.tuple #[n.cell, .bool true]) ∧ n.s = s ∧ NOwn w' n ∧ Below w.heap.size w w'
theorem alloc_blk {w : World} {R : Nat} {o x : Obj} (h : w.heap[R]? = some x) : (w.alloc o).heap[R]? = some x := by
 rw [Below.heap_alloc _ _ _ (aL h)]
 exact h
theorem below4 {B R : Nat} {w0 w : World} (h : Below B w0 w) (hR : B ≤ R) (a b c d : Value) : Below B w0 ((((w.setCell ⟨R, 0, none⟩ a).setCell ⟨R, 1, none⟩ b).setCell ⟨R, 2, none⟩ c).setCell ⟨R, 3, none⟩ d) :=
 (((h.setCell (p := ⟨R, 0, none⟩) hR a).setCell (p := ⟨R, 1, none⟩) hR b).setCell (p := ⟨R, 2, none⟩) hR c).setCell (p := ⟨R, 3, none⟩) hR d
theorem sbox1' (w : World) (o : Obj) : Below w.heap.size w (w.alloc o) := (Below.refl _ _).alloc (Nat.le_refl _) _
set_option maxHeartbeats 3200000 in
theorem pre_any {w : World} (k : Nat) {p : Option Addr} {l : List UInt8} (hl : Bs w p l) {n c : Nat} (hn : n = l.length) (hnc : n ≤ c) (hc : c ≤ 9223372036854775807) (hz : p = none → c = 0) :
  Calls Tryz.prog 146 #[.int .u8 (k : Int), .slice p n c] w (PrePost w (preS k l)) := by
 obtain ⟨W, hW⟩ : ∃ W, W = w.alloc (.cells #[.bool false, .slice none 0 0, .slice none 0 0, .slice none 0 0] 106) := ⟨_, rfl⟩
 have HBW : Hid (Below w.heap.size w W) := Hq (by rw [hW]; exact (Below.refl _ _).alloc (Nat.le_refl _) _)
 have HR : Hid (RBox W w.heap.size) := Hq (by rw [hW]; exact heap_alloc_new w _)
 obtain ⟨⟨r0, r1, r2, r3⟩, ⟨v0, v1, v2, v3⟩, hrl⟩ := HR.out.cells
 have HE0 : Hid (∀ w', Below w.heap.size w w' → RBox w' w.heap.size → Below w.heap.size w ((((w'.setCell ⟨w.heap.size, 0, none⟩ (.bool false)).setCell ⟨w.heap.size, 1, none⟩ (.slice none 0 0)).setCell ⟨w.heap.size, 2, none⟩ (.slice none 0 0)).setCell ⟨w.heap.size, 3, none⟩ (.slice none 0 0))) := Hq fun w' hb _ => below4 hb (Nat.le_refl _) _ _ _ _
 by_cases hlen : 493 < n
 ·
  have HS : Hid (preS k l = none) := Hq (by unfold preS; rw [if_pos (by omega)])
  generalize preS k l = o at *
  clear hl hn
  go_enter Tryz.func146, Tryz.ntmps146
  go_wp2_with fail
  rw [← hW]
  replace hW := Hq hW
  go_wp2
  refine bodyPost_ret (results_cell_tmp rfl _ _ w.heap.size 106 _ (0, 0) (by kernel_rfl) (show W.heap[w.heap.size]? = _ from HR.out) Tryz.underlying106 (by kernel_rfl)) rfl ?_
  rw [HS.out]
  exact ⟨rfl, HBW.out⟩
 ·
  have HLW := Hq (hl.below HBW.out)
  have HCL := Hq (bClone_any (w := W) HLW.out hn (by omega) hz hnc)
  have HL5 : Hid (l.length ≤ 493) := Hq (by omega)
  have HPS : Hid (preS k l = if k = 2 then some (leafS l) else if k = 3 then some (branchS l) else none) := Hq (by unfold preS; rw [if_neg (by omega)])
  generalize preS k l = o at *
  obtain ⟨ln, hln⟩ : ∃ x, x = l.length := ⟨_, rfl⟩
  have HLN := Hq hln
  clear hl hn hln
  go_enter Tryz.func146, Tryz.ntmps146
  go_wp2_with fail
  rw [← hW]
  replace hW := Hq hW
  go_wp2_with fail
  refine HCL.out.mono ?_
  rintro e w1 ⟨q, d, rfl, hq1, hq2, hq3, hq4, hq5, hb1⟩
  obtain ⟨W2, hW2⟩ : ∃ W2, W2 = w1.alloc (.cells #[.slice q l.length d] 235) := ⟨_, rfl⟩
  have HRS : Hid (Rs W2 w1.heap.size l) := Hq (by
   rw [hW2]
   exact ⟨q, l.length, d, heap_alloc_new w1 _, hq1.alloc _, rfl, hq2, hq3, hq4, fun a ha => ⟨(hq5 a ha).1, U8.below (show U8 w1 a.block from (hq5 a ha).2) (sbox1' _ _)⟩⟩)
  have HB2 : Hid (Below W.heap.size W W2) := Hq (by rw [hW2]; exact hb1.alloc hb1.size _)
  have hR2 : RBox W2 w.heap.size := (HB2.out.block _ (aL HR.out)).trans HR.out
  have HR2 := Hq hR2
  have HNE : Hid (w.heap.size < w1.heap.size) := Hq (Nat.lt_of_lt_of_le hrl hb1.size)
  have HBF : Hid (∀ w3, W2.grownBy w3 (some w1.heap.size) → RBox w3 w.heap.size ∧ Below w.heap.size w w3) := Hq fun w3 hg =>
   ⟨(hg.block _ (aL hR2) (fun e => by have := Option.some.inj e; have := HNE.out; omega)).trans hR2, (HBW.out.trans (HB2.out.mono HBW.out.size)).trans ((gb_low hg (Nat.le_trans HB2.out.size (Nat.le_refl _) |> fun h => by have h2 := HRS.out.lt; omega)).mono (by have := HNE.out; omega))⟩
  have HLF := Hq (leaf_any HRS.out (by have := HL5.out; omega))
  have HBR := Hq (branch_any HRS.out (by have := HL5.out; omega))
  have hln2 : l.length = ln := HLN.out.symm
  rw [hln2] at hW2 ⊢
  clear hq1 hq2 hq4 hq5 hb1 hR2 r0 r1 r2 r3 v0 v1 v2 v3 hrl hln2
  obtain ⟨⟨r0, r1, r2, r3⟩, ⟨v0, v1, v2, v3⟩, hrl⟩ := HR2.out.cells
  have HDN : Hid (∀ (w3 : World) (m : Nd) (a b c e : Value), W2.grownBy w3 (some w1.heap.size) → NOwn w3 m → NOwn ((((w3.setCell ⟨w.heap.size, 0, none⟩ a).setCell ⟨w.heap.size, 1, none⟩ b).setCell ⟨w.heap.size, 2, none⟩ c).setCell ⟨w.heap.size, 3, none⟩ e) m ∧ Below w.heap.size w ((((w3.setCell ⟨w.heap.size, 0, none⟩ a).setCell ⟨w.heap.size, 1, none⟩ b).setCell ⟨w.heap.size, 2, none⟩ c).setCell ⟨w.heap.size, 3, none⟩ e)) := Hq fun w3 m a b c e hg hm =>
   ⟨hm.off (HBF.out w3 hg).1 (gb4 w3 w.heap.size a b c e), below4 (HBF.out w3 hg).2 (Nat.le_refl _) a b c e⟩
  by_cases hk2 : k = 2
  ·
   subst hk2
   have HS : Hid (o = some (leafS l)) := Hq (by rw [HPS.out, if_pos rfl])
   rw [show ((2 : Nat) : Int) = 2 from rfl]
   generalize leafS l = S at *
   go_wp2_with fail
   rw [← hW2]
   replace hW2 := Hq hW2
   refine HLF.out.mono ?_
   rintro e w3 ⟨m, rfl, hms, hmo, hg⟩
   have HMS := Hq hms
   have HMO := Hq hmo
   have HG := Hq hg
   have HR3 := Hq (HBF.out w3 hg).1
   clear hms hmo hg r0 r1 r2 r3 v0 v1 v2 v3 hrl HLF HBR
   obtain ⟨⟨r0, r1, r2, r3⟩, ⟨v0, v1, v2, v3⟩, hrl⟩ := HR3.out.cells
   dsimp only [Nd.cell]
   go_wp2
   refine bodyPost_ret (results_cell_tmp rfl _ _ w.heap.size 106 _ (0, 0) (by kernel_rfl) (ndSet4 HR3.out) Tryz.underlying106 (by kernel_rfl)) rfl ?_
   rw [HS.out]
   obtain ⟨h1, h2⟩ := HDN.out w3 m (.bool m.leaf) (.slice m.kq m.ks.length m.kc) (.slice m.vq m.vs.length m.vc) (.slice m.iq m.is.length m.ic) HG.out HMO.out
   exact ⟨m, rfl, HMS.out, h1, h2⟩
  ·
   have hk2b : ((k : Int) == 2) = false := by rw [beq_eq_false_iff_ne]; omega
   by_cases hk3 : k = 3
   ·
    subst hk3
    have HS : Hid (o = some (branchS l)) := Hq (by rw [HPS.out, if_neg hk2, if_pos rfl])
    rw [show ((3 : Nat) : Int) = 3 from rfl]
    generalize branchS l = S at *
    go_wp2_with fail
    rw [← hW2]
    replace hW2 := Hq hW2
    refine HBR.out.mono ?_
    rintro e w3 ⟨m, rfl, hms, hmo, hg⟩
    have HMS := Hq hms
    have HMO := Hq hmo
    have HG := Hq hg
    have HR3 := Hq (HBF.out w3 hg).1
    clear hms hmo hg r0 r1 r2 r3 v0 v1 v2 v3 hrl HLF HBR
    obtain ⟨⟨r0, r1, r2, r3⟩, ⟨v0, v1, v2, v3⟩, hrl⟩ := HR3.out.cells
    dsimp only [Nd.cell]
    go_wp2
    refine bodyPost_ret (results_cell_tmp rfl _ _ w.heap.size 106 _ (0, 0) (by kernel_rfl) (ndSet4 HR3.out) Tryz.underlying106 (by kernel_rfl)) rfl ?_
    rw [HS.out]
    obtain ⟨h1, h2⟩ := HDN.out w3 m (.bool m.leaf) (.slice m.kq m.ks.length m.kc) (.slice m.vq m.vs.length m.vc) (.slice m.iq m.is.length m.ic) HG.out HMO.out
    exact ⟨m, rfl, HMS.out, h1, h2⟩
   ·
    have hk3b : ((k : Int) == 3) = false := by rw [beq_eq_false_iff_ne]; omega
    have HS : Hid (o = none) := Hq (by rw [HPS.out, if_neg hk2, if_neg hk3])
    have HBE := Hq (HBF.out W2 (gb_refl _ _)).2
    clear hk2 hk3 HDN HBF HLF HBR
    subst hW2
    go_wp2
    refine bodyPost_ret (results_cell_tmp rfl _ _ w.heap.size 106 _ (0, 0) (by kernel_rfl) (ndSet4 HR2.out) Tryz.underlying106 (by kernel_rfl)) rfl ?_
    rw [HS.out]
    exact ⟨rfl, below4 HBE.out (Nat.le_refl _) _ _ _ _⟩
def readS (k : Nat) (b : List UInt8) (s : NdS) : Prop := preS k b = some s ∧ s.Right ∧ s.put = b
theorem textR_sum (l : List UInt8) : (textR l).1.length + (textR l).2.length ≤ l.length := by
 unfold textR
 simp only [List.length_take, List.length_drop]
 omega
theorem valR_sum (l : List UInt8) : (valR l).1.l.length + (valR l).2.length ≤ l.length := by
 unfold valR
 split <;> simp only [List.length_take, List.length_drop, List.length_nil] <;> omega
theorem rdL_lens : ∀ (m : Nat) (l : List UInt8), (rdL m l).length ≤ m ∧ lens id ((rdL m l).map Prod.fst) + lens VlS.l ((rdL m l).map Prod.snd) ≤ l.length
 | 0, l => ⟨Nat.le_refl _, Nat.zero_le _⟩
 | m + 1, l => by
  rw [rdL]
  split
  ·
   exact ⟨Nat.zero_le _, Nat.zero_le _⟩
  ·
   obtain ⟨h1, h2⟩ := rdL_lens m (valR (textR l).2).2
   have h3 := textR_sum l
   have h4 := valR_sum (textR l).2
   simp only [List.length_cons, List.map_cons, lens, id]
   constructor <;> omega
theorem rdB_lens : ∀ (m : Nat) (l : List UInt8), (rdB m l).length ≤ m ∧ lens id ((rdB m l).map Prod.fst) ≤ l.length
 | 0, l => ⟨Nat.le_refl _, Nat.zero_le _⟩
 | m + 1, l => by
  rw [rdB]
  split
  ·
   exact ⟨Nat.zero_le _, Nat.zero_le _⟩
  ·
   obtain ⟨h1, h2⟩ := rdB_lens m ((textR l).2.drop 2)
   have h3 := textR_sum l
   rw [List.length_drop] at h2
   simp only [List.length_cons, List.map_cons, lens, id]
   constructor <;> omega
theorem leafS_count (b : List UInt8) (hb : b.length ≤ 493) : (leafS b).count ≤ 100000 := by
 obtain ⟨h1, h2⟩ := rdL_lens (leN (b.take 1)) (b.drop 1)
 have h3 := leN_one b
 rw [List.length_drop] at h2
 unfold NdS.count leafS
 dsimp only
 rw [List.length_map, List.length_map, List.length_nil]
 omega
theorem branchS_count (b : List UInt8) (hb : b.length ≤ 493) : (branchS b).count ≤ 100000 := by
 obtain ⟨h1, h2⟩ := rdB_lens (leN (b.take 1)) ((b.drop 1).drop 2)
 have h3 := leN_one b
 rw [List.length_drop, List.length_drop] at h2
 unfold NdS.count branchS
 dsimp only
 rw [List.length_map, List.length_nil, List.length_cons, List.length_map]
 simp only [lens]
 omega
def NdReadPostO (w : World) (k : Nat) (b : List UInt8) (e : Ending) (w' : World) : Prop :=
 (∃ n : Nd, e = .returned (.tuple #[n.cell, .int .i64 0]) ∧ readS k b n.s ∧ NOwn w' n ∧ Below w.heap.size w w') ∨ (e = .returned (.tuple #[Nd.zero.cell, .int .i64 11]) ∧ (∀ s, ¬ readS k b s) ∧ Below w.heap.size w w')
set_option maxHeartbeats 1600000 in
theorem ndReadO_any {w : World} (k : Nat) {p : Option Addr} {l : List UInt8} (hl : Bs w p l) {n c : Nat} (hn : n = l.length) (hnc : n ≤ c) (hc : c ≤ 9223372036854775807) (hz : p = none → c = 0) :
  Calls Tryz.prog 121 #[.int .u8 (k : Int), .slice p n c] w (NdReadPostO w k l) := by
 obtain ⟨W, hW⟩ : ∃ W, W = w.alloc (.cells #[.bool false, .slice none 0 0, .slice none 0 0, .slice none 0 0] 106) := ⟨_, rfl⟩
 have HBW : Hid (Below w.heap.size w W) := Hq (by rw [hW]; exact (Below.refl _ _).alloc (Nat.le_refl _) _)
 have HR : Hid (RBox W w.heap.size) := Hq (by rw [hW]; exact heap_alloc_new w _)
 have HPR := Hq (pre_any (w := W) k (hl.below HBW.out) hn hnc hc hz)
 have HNO : Hid (∀ s, preS k l = some s → s.count ≤ 100000) := Hq fun s hs => by
  unfold preS at hs
  split at hs
  ·
   cases hs
  ·
   split at hs
   ·
    cases hs
    exact leafS_count l (by omega)
   ·
    split at hs
    ·
     cases hs
     exact branchS_count l (by omega)
    ·
     cases hs
 have HL := Hq hl
 have HLN := Hq hn
 have HPK : Hid (∀ s, readS k l s ↔ preS k l = some s ∧ s.Right ∧ s.put = l) := Hq fun s => Iff.rfl
 generalize preS k l = o at *
 clear hl hn
 obtain ⟨⟨r0, r1, r2, r3⟩, ⟨v0, v1, v2, v3⟩, hrl⟩ := HR.out.cells
 cases o with
 | none =>
  go_enter Tryz.func121, Tryz.ntmps121
  go_wp2_with fail
  rw [← hW]
  replace hW := Hq hW
  refine HPR.out.mono ?_
  rintro e w1 ⟨rfl, hb1⟩
  have HR1 : Hid (RBox w1 w.heap.size) := Hq ((hb1.block _ (aL HR.out)).trans HR.out)
  have HB1 := Hq (HBW.out.trans (hb1.mono HBW.out.size))
  clear hb1 r0 r1 r2 r3 v0 v1 v2 v3 hrl HPR
  obtain ⟨⟨r0, r1, r2, r3⟩, ⟨v0, v1, v2, v3⟩, hrl⟩ := HR1.out.cells
  have HF : Hid (∀ s, ¬ readS k l s) := Hq fun s hs => by have := ((HPK.out s).1 hs).1; cases this
  rw [show Nd.zero.cell = .agg #[.bool false, .slice none 0 0, .slice none 0 0, .slice none 0 0] from rfl]
  have HB2 : Hid (∀ a b c e : Value, ∀ o : Obj, Below w.heap.size w (((((w1.setCell ⟨w.heap.size, 0, none⟩ a).setCell ⟨w.heap.size, 1, none⟩ b).setCell ⟨w.heap.size, 2, none⟩ c).setCell ⟨w.heap.size, 3, none⟩ e).alloc o)) := Hq fun a b c e o => by
   have h := below4 HB1.out (Nat.le_refl _) a b c e
   exact h.alloc h.size _
  go_wp2
  refine bodyPost_ret (results_cell_tmp rfl _ _ w.heap.size 106 _ (0, 0) (by kernel_rfl) (alloc_blk (ndSet4 HR1.out)) Tryz.underlying106 (by kernel_rfl)) rfl ?_
  exact .inr ⟨rfl, HF.out, HB2.out _ _ _ _ _⟩
 | some s =>
  have HNS := Hq (HNO.out s rfl)
  go_enter Tryz.func121, Tryz.ntmps121
  go_wp2_with fail
  rw [← hW]
  replace hW := Hq hW
  refine HPR.out.mono ?_
  rintro e w1 ⟨m, rfl, hms, hmo, hb1⟩
  obtain ⟨W2, hW2⟩ : ∃ W2, W2 = w1.alloc (.cells #[.bool m.leaf, .slice m.kq m.ks.length m.kc, .slice m.vq m.vs.length m.vc, .slice m.iq m.is.length m.ic] 106) := ⟨_, rfl⟩
  have HB2 : Hid (Below W.heap.size W W2) := Hq (by rw [hW2]; exact hb1.alloc hb1.size _)
  have HR2 : Hid (RBox W2 w.heap.size) := Hq ((HB2.out.block _ (aL HR.out)).trans HR.out)
  have HBX : Hid (W2.heap[w1.heap.size]? = some (.cells #[.bool m.leaf, .slice m.kq m.ks.length m.kc, .slice m.vq m.vs.length m.vc, .slice m.iq m.is.length m.ic] 106 (0, 0))) := Hq (by rw [hW2]; exact heap_alloc_new w1 _)
  have HMO : Hid (NOwn W2 m) := Hq (by rw [hW2]; exact hmo.below ((Below.refl _ _).alloc (Nat.le_refl _) _))
  have HMS := Hq hms
  have HPT := Hq (ndPut_any HMO.out.ok (by rw [hms]; exact HNS.out))
  rw [hms] at HPT
  unfold Nd.cell at HPT
  clear hmo hms hb1 r0 r1 r2 r3 v0 v1 v2 v3 hrl HPR
  dsimp only [Nd.cell]
  go_wp2_with fail
  rw [← hW2]
  replace hW2 := Hq hW2
  with_reducible refine HPT.out.mono ?_
  have HBE : Hid (∀ w3, Below W2.heap.size W2 w3 → RBox w3 w.heap.size ∧ Below w.heap.size w w3 ∧ NOwn w3 m ∧ w3.heap[w1.heap.size]? = some (.cells #[.bool m.leaf, .slice m.kq m.ks.length m.kc, .slice m.vq m.vs.length m.vc, .slice m.iq m.is.length m.ic] 106 (0, 0)) ∧ Bs w3 p l) := Hq fun w3 hb =>
   ⟨(hb.block _ (aL HR2.out)).trans HR2.out, (HBW.out.trans (HB2.out.mono HBW.out.size)).trans (hb.mono (Nat.le_trans HBW.out.size HB2.out.size)), HMO.out.below hb, (hb.block _ (aL HBX.out)).trans HBX.out, HL.out.below ((HBW.out.trans (HB2.out.mono HBW.out.size)).trans (hb.mono (Nat.le_trans HBW.out.size HB2.out.size)))⟩
  have HDN : Hid (∀ (w3 : World) (a b c e : Value), Below W2.heap.size W2 w3 → NOwn ((((w3.setCell ⟨w.heap.size, 0, none⟩ a).setCell ⟨w.heap.size, 1, none⟩ b).setCell ⟨w.heap.size, 2, none⟩ c).setCell ⟨w.heap.size, 3, none⟩ e) m ∧ Below w.heap.size w ((((w3.setCell ⟨w.heap.size, 0, none⟩ a).setCell ⟨w.heap.size, 1, none⟩ b).setCell ⟨w.heap.size, 2, none⟩ c).setCell ⟨w.heap.size, 3, none⟩ e)) := Hq fun w3 a b c e hb =>
   ⟨(HBE.out w3 hb).2.2.1.off (HBE.out w3 hb).1 (gb4 w3 w.heap.size a b c e), below4 (HBE.out w3 hb).2.1 (Nat.le_refl _) a b c e⟩
  rintro e w3 (⟨hnr, rfl, hb⟩ | ⟨hri, g, kk, cc, rfl, hkk, ho, hb⟩)
  ·
   have HF : Hid (∀ s, ¬ readS k l s) := Hq fun s' hs => by
    have h1 := (HPK.out s').1 hs
    cases h1.1
    exact hnr h1.2.1
   have HB3 := Hq hb
   have HR3 := Hq (HBE.out w3 hb).1
   clear hnr hb HPT HNO HPK HMS HBX HMO
   obtain ⟨⟨r0, r1, r2, r3⟩, ⟨v0, v1, v2, v3⟩, hrl⟩ := HR3.out.cells
   go_wp2
   refine bodyPost_ret (results_cell_tmp rfl _ _ w.heap.size 106 _ (0, 0) (by kernel_rfl) (ndSet4 HR3.out) Tryz.underlying106 (by kernel_rfl)) rfl ?_
   exact .inr ⟨rfl, HF.out, (HDN.out w3 _ _ _ _ HB3.out).2⟩
  ·
   have HB3 := Hq hb
   obtain ⟨hr3, _, _, hbx3, hbs3⟩ := HBE.out w3 hb
   have HR3 := Hq hr3
   obtain ⟨_, _, hv, _, _, hbp, _⟩ := ho.form hkk
   cases hv
   have HEQ := Hq (bEqual_any (c := cc) (d := c) hbp hbs3 hkk HLN.out)
   have HRI := Hq hri
   have x0 := (jC hbx3 0).trans rfl
   have x1 := (jC hbx3 1).trans rfl
   have x2 := (jC hbx3 2).trans rfl
   have x3 := (jC hbx3 3).trans rfl
   have hxl := (aL hbx3)
   clear hb hri hr3 hbx3 hbs3 hkk ho hbp HPT
   obtain ⟨⟨r0, r1, r2, r3⟩, ⟨v0, v1, v2, v3⟩, hrl⟩ := HR3.out.cells
   by_cases heq : s.put = l
   ·
    have HEE := Hq heq
    rw [decide_eq_true heq] at HEQ
    clear heq
    go_wp2_with fail
    refine HEQ.out.mono ?_
    rintro e w4 ⟨rfl, rfl⟩
    go_wp2
    refine bodyPost_ret (results_cell_tmp rfl _ _ w.heap.size 106 _ (0, 0) (by kernel_rfl) (ndSet4 HR3.out) Tryz.underlying106 (by kernel_rfl)) rfl ?_
    obtain ⟨h1, h2⟩ := HDN.out w4 (.bool m.leaf) (.slice m.kq m.ks.length m.kc) (.slice m.vq m.vs.length m.vc) (.slice m.iq m.is.length m.ic) HB3.out
    exact .inl ⟨m, rfl, (HPK.out m.s).2 ⟨by rw [HMS.out], by rw [HMS.out]; exact HRI.out, by rw [HMS.out]; exact HEE.out⟩, h1, h2⟩
   ·
    have HF : Hid (∀ s, ¬ readS k l s) := Hq fun s' hs => by
     have h1 := (HPK.out s').1 hs
     cases h1.1
     exact heq h1.2.2
    rw [decide_eq_false heq] at HEQ
    clear heq
    go_wp2_with fail
    refine HEQ.out.mono ?_
    rintro e w4 ⟨rfl, rfl⟩
    go_wp2
    refine bodyPost_ret (results_cell_tmp rfl _ _ w.heap.size 106 _ (0, 0) (by kernel_rfl) (ndSet4 HR3.out) Tryz.underlying106 (by kernel_rfl)) rfl ?_
    exact .inr ⟨rfl, HF.out, (HDN.out w4 _ _ _ _ HB3.out).2⟩
end Go.Proofs.YtbbgdbnjmonbgaaGreatDoor

set_option linter.unusedVariables false
set_option linter.unusedSimpArgs false
set_option maxRecDepth 100000
namespace Go.Proofs.YtbbgdbnjmonbgaaGreatDoor
open Go.RowKit
def offTy (t : TypeId) : Bool := t != 78 && t != 140 && t != 5 && t != 92 && t != 123 && t != 149
def isBox (R : Nat) : Nat → Obj → Bool
 | i, .cells _ t _ => i == R && offTy t
 | _, _ => false
theorem isBox_off {R : Nat} {t : TypeId} (h : offTy t = false) (i : Nat) (c : Array Value) (f : Nat × Nat) : isBox R i (.cells c t f) = false := by simp [isBox, h]
section
variable {w w' : World} {B P pd sm : Nat} {X : PG} {seen seen' : Int → Bool}
theorem LookAt.off (h : LookAt w B P pd sm X seen) {R : Nat} {c : Array Value} {t : TypeId} {f : Nat × Nat} (hR : w.heap[R]? = some (.cells c t f)) (hg : w.grownBy w' (some R)) (hB : B ≤ R) (ht : offTy t = true) : LookAt w' B P pd sm X seen := by
 have hk : Keeps (isBox R) w w' := Keeps.grown hg fun b o hb ho => by cases hb; rw [hR] at ho; cases ho; simp [isBox, ht]
 obtain ⟨hT, ⟨lm, fm, pl, um, wm, la, v, hg1, hn⟩, hz, hm0, hb⟩ := h
 refine ⟨?_, ⟨lm, fm, pl, um, wm, la, v, ⟨hk.stay hg1.blk (isBox_off (by decide) _ _ _), hg1.disk.keeps hk (fun _ _ _ => isBox_off (by decide) _ _ _) (fun _ _ _ => isBox_off (by decide) _ _ _) (fun _ _ _ => isBox_off (by decide) _ _ _) (fun _ _ => rfl) (fun _ _ => rfl), hg1.list.keeps hk (fun _ => isBox_off (by decide) _ _ _) (fun _ _ => rfl) (fun _ _ => rfl), hg1.mla.keeps hk (fun _ _ => rfl), pins_keeps hg1.pins hk (fun _ _ _ => isBox_off (by decide) _ _ _), hg1.bP, hg1.bu, hg1.bw, hg1.ba, hg1.nlm, hg1.nfm, hg1.nla, hg1.g0, hg1.mP⟩, hn⟩, hz, ?_, hb⟩
 ·
  obtain ⟨t', fr, hx⟩ := hT
  exact ⟨t', fr, (hg.block _ (aL hx) (fun e => by have := Option.some.inj e; omega)).trans hx⟩
 ·
  obtain ⟨es, cc, hx, _⟩ := hm0.st
  exact hm0.block (hg.block _ hm0.lt (fun e => by have := Option.some.inj e; subst this; rw [hR] at hx; cases hx))
def NodeIs (X : PG) (k : Int) (s : NdS) : Prop := ∃ kind l, X.page k = some (kind, l) ∧ readS kind.toNat l s
def NodeAt (X : PG) (seen : Int → Bool) (no deep : Int) (sp : SpS) (s : NdS) : Prop := seen no = false ∧ deep ≤ 16 ∧ NodeIs X no s ∧ takesS sp s = true
theorem NodeIs.one {X : PG} {k : Int} {s t : NdS} (h : NodeIs X k s) (h' : NodeIs X k t) : s = t := by
 obtain ⟨a, l, h1, h2⟩ := h
 obtain ⟨b, m, h3, h4⟩ := h'
 rw [h1] at h3
 cases h3
 exact Option.some.inj (h2.1.symm.trans h4.1)
def LNodePost (w : World) (B P pd sm : Nat) (X : PG) (seen : Int → Bool) (pc : Pc) (e : Ending) (w' : World) : Prop :=
 (∃ n : Nd, e = .returned (.tuple #[n.cell, .int .i64 0]) ∧ NodeAt X seen pc.no pc.deep pc.s.s n.s ∧ n.s.Right ∧ NOwn w' n ∧ LookAt w' B P pd sm X (add seen pc.no) ∧ LStep sm w w') ∨
 (e = .returned (.tuple #[Nd.zero.cell, .int .i64 18]) ∧ (∀ s, ¬ NodeAt X seen pc.no pc.deep pc.s.s s) ∧ (∃ seen', LookAt w' B P pd sm X seen') ∧ LStep sm w w')
theorem ndZero : Nd.zero.cell = .agg #[.bool false, .slice none 0 0, .slice none 0 0, .slice none 0 0] := rfl
set_option maxHeartbeats 3200000 in
theorem lookNode_any (h : LookAt w B P pd sm X seen) (hBw : B ≤ w.heap.size) {pc : Pc} (hp : pc.s.Ok w) :
  Calls Tryz.prog 102 #[.agg #[.pointer (some ⟨P, 0, none⟩), .map (some sm)], pc.v] w (LNodePost w B P pd sm X seen pc) := by
 obtain ⟨W, hW⟩ : ∃ W, W = ((w.alloc (.cells #[.pointer (some ⟨P, 0, none⟩), .map (some sm)] 95)).alloc (.cells pc.cells 129)).alloc (.cells #[.bool false, .slice none 0 0, .slice none 0 0, .slice none 0 0] 106) := ⟨_, rfl⟩
 have hbw : Below w.heap.size w W := by rw [hW]; exact sbox3 _ _ _ _
 obtain ⟨b0, b1, b2, hws⟩ := sbox3_heap w (.cells #[.pointer (some ⟨P, 0, none⟩), .map (some sm)] 95) (.cells pc.cells 129) (.cells #[.bool false, .slice none 0 0, .slice none 0 0, .slice none 0 0] 106)
 rw [← hW] at b0 b1 b2 hws
 have HW := Hq (h.below hbw)
 have HST : Hid (LStep sm w W) := Hq (h.step hbw)
 have HSZ := Hq hws
 have hlt := h.lt
 have HLT := Hq hlt
 have HBB : Hid (B ≤ w.heap.size) := Hq hBw
 have HX : Hid (∀ w', Keeps (isMaps [sm]) W w' → PBox w' (w.heap.size + 1) pc ∧ RBox w' (w.heap.size + 1 + 1) ∧ w'.cell? ⟨w.heap.size, 0, none⟩ = some (.pointer (some ⟨P, 0, none⟩)) ∧ w'.cell? ⟨w.heap.size, 1, none⟩ = some (.map (some sm))) := Hq fun w' hk =>
  ⟨PBox.of (hk.stay b1 rfl), hk.stay b2 rfl, (jC (hk.stay b0 rfl) 0).trans rfl, (jC (hk.stay b0 rfl) 1).trans rfl⟩
 have HSPO : Hid (∀ w', Keeps (isMaps [sm]) w w' → pc.s.Ok w') := Hq fun w' hk => by
  have hb : ∀ {q : Option Addr} {l : List UInt8}, Bs w q l → Bs w' q l := fun hq => hk.bs hq (fun _ _ _ _ _ _ _ => rfl)
  exact ⟨⟨hb hp.f.bs, hp.f.h1, hp.f.h2, hp.f.z⟩, ⟨hb hp.t.bs, hp.t.h1, hp.t.h2, hp.t.z⟩⟩
 have HRF : Hid (∀ w1 seen', LookAt w1 B P pd sm X seen' → ∀ a b c d, RBox w1 (w.heap.size + 1 + 1) → LookAt ((((w1.setCell ⟨w.heap.size + 1 + 1, 0, none⟩ a).setCell ⟨w.heap.size + 1 + 1, 1, none⟩ b).setCell ⟨w.heap.size + 1 + 1, 2, none⟩ c).setCell ⟨w.heap.size + 1 + 1, 3, none⟩ d) B P pd sm X seen') := Hq fun w1 seen' h1 a b c d hr => h1.off hr (gb4 w1 _ a b c d) (by omega) (by decide)
 have HLS : Hid (∀ w1, LStep sm w w1 → ∀ a b c d, LStep sm w ((((w1.setCell ⟨w.heap.size + 1 + 1, 0, none⟩ a).setCell ⟨w.heap.size + 1 + 1, 1, none⟩ b).setCell ⟨w.heap.size + 1 + 1, 2, none⟩ c).setCell ⟨w.heap.size + 1 + 1, 3, none⟩ d)) := Hq fun w1 h1 a b c d =>
  ⟨below4 h1.below (by have := HLT.out; omega) a b c d, ⟨by have := h1.size; simpa using this, fun {i o} ho hK => by
   have hi := (aL ho)
   have hg := gb4 w1 (w.heap.size + 1 + 1) a b c d
   rw [hg.block i (by have := h1.size; omega) (fun e => by have := Option.some.inj e; omega)]
   exact h1.keeps.stay ho hK⟩⟩
 have HNP : Hid (∀ s, NodeAt X seen pc.no pc.deep pc.s.s s → seen pc.no = false ∧ pc.deep ≤ 16 ∧ NodeIs X pc.no s ∧ takesS pc.s.s s = true) := Hq fun s h => h
 have HNQ : Hid (∀ s, seen pc.no = false → pc.deep ≤ 16 → NodeIs X pc.no s → takesS pc.s.s s = true → NodeAt X seen pc.no pc.deep pc.s.s s) := Hq fun s h1 h2 h3 h4 => ⟨h1, h2, h3, h4⟩
 have HPG := Hq (lookPage_any HW.out pc.no)
 have hms := Keeps.refl (isMaps [sm]) W
 obtain ⟨⟨p0, p1, p2, p3, p4⟩, hr0, x0, x1⟩ := HX.out W hms
 have HR0 := Hq hr0
 have HKW : Hid (Keeps (isMaps [sm]) w W) := Hq (Keeps.below hbw)
 unfold Pc.v
 unfold Pc.cells at hW
 by_cases hd : 16 < pc.deep
 ·
  have d1 : decide (16 < pc.deep) = true := decide_eq_true hd
  have HND : Hid (¬ pc.deep ≤ 16) := Hq (by omega)
  clear h hbw b0 b1 b2 hws hlt hp hBw hms hr0 HPG hd
  go_enter Tryz.func102, Tryz.ntmps102
  go_wp2
  rw [← hW]
  refine bodyPost_ret (results_cell_tmp rfl _ _ (w.heap.size + 1 + 1) 106 _ (0, 0) (by kernel_rfl) HR0.out Tryz.underlying106 (by kernel_rfl)) rfl ?_
  exact .inr ⟨rfl, (fun s hs => by have h1 := HND.out; have h2 := (HNP.out s hs).2.1; omega), ⟨_, HW.out⟩, HST.out⟩
 ·
  have d1 : decide (16 < pc.deep) = false := decide_eq_false hd
  have HND : Hid (pc.deep ≤ 16) := Hq (by omega)
  clear h hbw b0 b1 b2 hws hlt hp hBw hms hr0 hd
  go_enter Tryz.func102, Tryz.ntmps102
  go_wp2_with fail
  rw [← hW]
  replace hW := Hq hW
  refine HPG.out.mono ?_
  clear HPG p0 p1 p2 p3 p4 x0 x1
  rintro e w1 (⟨kind, l, v, hs, hpg, rfl, ho, hl, hst⟩ | ⟨hno, rfl, ⟨seen', hl⟩, hst⟩)
  ·
   have HL1 := Hq hl
   have HS1 := Hq hst
   have HSN := Hq hs
   have HPGE := Hq hpg
   obtain ⟨q, c, rfl, hnc, hc, hbs, hz⟩ := ho.form (n := l.length) rfl
   have HRD := Hq (ndReadO_any kind.toNat hbs rfl hnc hc (by first | exact hz.1 | exact hz))
   have HNI : Hid (∀ s, NodeIs X pc.no s ↔ readS kind.toNat l s) := Hq fun s => ⟨fun ⟨a, m, h1, h2⟩ => by rw [HPGE.out] at h1; cases h1; exact h2, fun h1 => ⟨_, _, HPGE.out, h1⟩⟩
   obtain ⟨⟨p0, p1, p2, p3, p4⟩, hr1, x0, x1⟩ := HX.out w1 (hst.keeps)
   have HR1 := Hq hr1
   obtain ⟨⟨r0, r1, r2, r3⟩, ⟨v0, v1, v2, v3⟩, hrl⟩ := HR1.out.cells
   clear hr1
   clear hs hpg ho hl hst hbs hz r0 r1 r2 r3 v0 v1 v2 v3 hrl
   generalize l.length = ln at *
   try dsimp only
   go_wp2_with fail
   refine HRD.out.mono ?_
   clear HRD p0 p1 p2 p3 p4 x0 x1
   rintro e w2 (⟨n, rfl, hrs, hno, hb2⟩ | ⟨rfl, hrs, hb2⟩)
   ·
    have HRS := Hq hrs
    have HNO := Hq hno
    have HB2 := Hq hb2
    have HK2 : Hid (Keeps (isMaps [sm]) W w2) := Hq (HS1.out.keeps.trans (Keeps.below hb2))
    have HL2 := Hq (HL1.out.below hb2)
    have HS2 : Hid (LStep sm w w2) := Hq ((HST.out.trans HS1.out).trans (HL1.out.step hb2))
    obtain ⟨W3, hW3⟩ : ∃ W3, W3 = w2.alloc (.cells #[.bool n.leaf, .slice n.kq n.ks.length n.kc, .slice n.vq n.vs.length n.vc, .slice n.iq n.is.length n.ic] 106) := ⟨_, rfl⟩
    have hb3 : Below w2.heap.size w2 W3 := by rw [hW3]; exact sbox1 _ _
    have HK3 : Hid (Keeps (isMaps [sm]) W W3) := Hq (HK2.out.trans (Keeps.below hb3))
    have HL3 := Hq (HL2.out.below hb3)
    have HS3 : Hid (LStep sm w W3) := Hq (HS2.out.trans (HL2.out.step hb3))
    have HN3 := Hq (HNO.out.below hb3)
    have hbx : W3.heap[w2.heap.size]? = some (.cells n.cells 106 (0, 0)) := by rw [hW3]; exact heap_alloc_new _ _
    have HBX : Hid (∀ w', Below W3.heap.size W3 w' → NBox w' w2.heap.size n) := Hq fun w' hb => (NBox.of hbx).low hb (aL hbx)
    have HTK := Hq (takes_any (HSPO.out _ (HKW.out.trans HK3.out)) HN3.out.ok (by
     have := hrs.2.1.many
     have e : n.s.ks.length = n.ks.length := by show (n.ks.map Kb.l).length = _; rw [List.length_map]
     omega))
    unfold Pc.v Nd.cell at HTK
    have HNAT : Hid (∀ s, NodeIs X pc.no s → s = n.s) := Hq fun s hs => Option.some.inj (((HNI.out s).1 hs).1.symm.trans HRS.out.1)
    obtain ⟨⟨p0, p1, p2, p3, p4⟩, _, x0, x1⟩ := HX.out w2 HK2.out
    have hl1 : w.heap.size + 1 < w2.heap.size := World.block_lt_of_cell? _ _ p0
    have hl2 : w.heap.size < w2.heap.size := by omega
    clear hrs hno hb2 hb3 hbx
    dsimp only [Nd.cell]
    go_wp2_with fail
    rw [← hW3]
    replace hW3 := Hq hW3
    clear hW
    refine HTK.out.mono ?_
    clear HTK p0 p1 p2 p3 p4 x0 x1 hl1 hl2
    rintro e w4 ⟨rfl, hb4⟩
    have HB4 := Hq hb4
    have HK4 : Hid (Keeps (isMaps [sm]) W w4) := Hq (HK3.out.trans (Keeps.below hb4))
    have HL4 := Hq (HL3.out.below hb4)
    have HS4 : Hid (LStep sm w w4) := Hq (HS3.out.trans (HL3.out.step hb4))
    have HN4 := Hq (HN3.out.below hb4)
    obtain ⟨n0, n1, n2, n3⟩ := HBX.out w4 hb4
    obtain ⟨_, hr4, _, _⟩ := HX.out w4 HK4.out
    have HR4 := Hq hr4
    obtain ⟨⟨r0, r1, r2, r3⟩, ⟨v0, v1, v2, v3⟩, hrl⟩ := HR4.out.cells
    clear hb4 hr4
    cases htk : takesS pc.s.s n.s
    ·
     have HT := Hq htk
     clear htk
     try dsimp only
     go_wp2
     refine bodyPost_ret (results_cell_tmp rfl _ _ (w.heap.size + 1 + 1) 106 _ (0, 0) (by kernel_rfl) (ndSet4 HR4.out) Tryz.underlying106 (by kernel_rfl)) rfl ?_
     exact .inr ⟨rfl, (fun s hs => by
      have h1 := HNP.out s hs
      have h2 := HNAT.out s h1.2.2.1
      rw [h2, HT.out] at h1
      cases h1.2.2.2), ⟨_, HRF.out _ _ HL4.out _ _ _ _ HR4.out⟩, HLS.out _ HS4.out _ _ _ _⟩
    ·
     have HT := Hq htk
     clear htk
     try dsimp only
     go_wp2
     refine bodyPost_ret (results_cell_tmp rfl _ _ (w.heap.size + 1 + 1) 106 _ (0, 0) (by kernel_rfl) (ndSet4 HR4.out) Tryz.underlying106 (by kernel_rfl)) rfl ?_
     exact .inl ⟨n, rfl, HNQ.out _ HSN.out HND.out ((HNI.out _).2 HRS.out) HT.out, HRS.out.2.1, HN4.out.off HR4.out (gb4 w4 _ _ _ _ _), HRF.out _ _ HL4.out _ _ _ _ HR4.out, HLS.out _ HS4.out _ _ _ _⟩
   ·
    have HRS := Hq hrs
    have HK2 : Hid (Keeps (isMaps [sm]) W w2) := Hq (HS1.out.keeps.trans (Keeps.below hb2))
    have HL2 := Hq (HL1.out.below hb2)
    have HS2 : Hid (LStep sm w w2) := Hq ((HST.out.trans HS1.out).trans (HL1.out.step hb2))
    obtain ⟨W3, hW3⟩ : ∃ W3, W3 = w2.alloc (.cells #[.bool false, .slice none 0 0, .slice none 0 0, .slice none 0 0] 106) := ⟨_, rfl⟩
    have hb3 : Below w2.heap.size w2 W3 := by rw [hW3]; exact sbox1 _ _
    have HK3 : Hid (Keeps (isMaps [sm]) W W3) := Hq (HK2.out.trans (Keeps.below hb3))
    have HL3 := Hq (HL2.out.below hb3)
    have HS3 : Hid (LStep sm w W3) := Hq (HS2.out.trans (HL2.out.step hb3))
    obtain ⟨⟨p0, p1, p2, p3, p4⟩, hr3, x0, x1⟩ := HX.out W3 HK3.out
    have HR3 := Hq hr3
    have HR2 := Hq (HX.out w2 HK2.out).2.1
    obtain ⟨⟨r0, r1, r2, r3⟩, ⟨v0, v1, v2, v3⟩, hrl⟩ := HR2.out.cells
    clear hrs hb2 hb3 hr3
    rw [ndZero]
    try dsimp only
    go_wp2
    refine bodyPost_ret (results_cell_tmp rfl _ _ (w.heap.size + 1 + 1) 106 _ (0, 0) (by kernel_rfl) (alloc_blk (ndSet4 HR2.out)) Tryz.underlying106 (by kernel_rfl)) rfl ?_
    have HLA : Hid (Below ((((w2.setCell ⟨w.heap.size + 1 + 1, 0, none⟩ (.bool false)).setCell ⟨w.heap.size + 1 + 1, 1, none⟩ (.slice none 0 0)).setCell ⟨w.heap.size + 1 + 1, 2, none⟩ (.slice none 0 0)).setCell ⟨w.heap.size + 1 + 1, 3, none⟩ (.slice none 0 0)).heap.size _ _) := Hq (sbox1 _ (.cells #[.bool false, .slice none 0 0, .slice none 0 0, .slice none 0 0] 106))
    have HLQ := Hq (HRF.out _ _ HL2.out (.bool false) (.slice none 0 0) (.slice none 0 0) (.slice none 0 0) HR2.out)
    exact .inr ⟨rfl, (fun s hs => HRS.out s ((HNI.out s).1 (HNP.out s hs).2.2.1)), ⟨_, HLQ.out.below HLA.out⟩, (HLS.out _ HS2.out _ _ _ _).trans (HLQ.out.step HLA.out)⟩
  ·
   have HL1 := Hq hl
   have HS1 := Hq hst
   have HNO := Hq hno
   obtain ⟨⟨p0, p1, p2, p3, p4⟩, hr1, x0, x1⟩ := HX.out w1 (hst.keeps)
   have HR1 := Hq hr1
   obtain ⟨⟨r0, r1, r2, r3⟩, ⟨v0, v1, v2, v3⟩, hrl⟩ := HR1.out.cells
   clear hr1
   clear hl hst hno p0 p1 p2 p3 p4 x0 x1
   try dsimp only
   go_wp2
   refine bodyPost_ret (results_cell_tmp rfl _ _ (w.heap.size + 1 + 1) 106 _ (0, 0) (by kernel_rfl) (ndSet4 HR1.out) Tryz.underlying106 (by kernel_rfl)) rfl ?_
   exact .inr ⟨rfl, (fun s hs => by
    have h1 := HNP.out s hs
    obtain ⟨a, m, h2, _⟩ := h1.2.2.1
    exact HNO.out ⟨h1.1, by rw [h2]; exact fun h => (by cases h)⟩), ⟨_, HRF.out _ _ HL1.out _ _ _ _ HR1.out⟩, HLS.out _ (HST.out.trans HS1.out) _ _ _ _⟩
end
end Go.Proofs.YtbbgdbnjmonbgaaGreatDoor

set_option linter.unusedVariables false
set_option maxRecDepth 100000
namespace Go.Proofs.YtbbgdbnjmonbgaaGreatDoor
open Go.RowKit
abbrev Key := List UInt8
theorem kc_cons (a b : UInt8) (l m : Key) : Lib.compareBytes (a :: l) (b :: m) = if a < b then -1 else if b < a then 1 else Lib.compareBytes l m := by rw [Lib.compareBytes]
theorem kc_three : ∀ l m : Key, Lib.compareBytes l m = -1 ∨ Lib.compareBytes l m = 0 ∨ Lib.compareBytes l m = 1
 | [], [] => by right; left; rfl
 | [], _ :: _ => by left; rfl
 | _ :: _, [] => by right; right; rfl
 | a :: l, b :: m => by
  rw [kc_cons]
  split
  ·
   exact .inl rfl
  ·
   split
   ·
    exact .inr (.inr rfl)
   ·
    exact kc_three l m
theorem kc_self : ∀ l : Key, Lib.compareBytes l l = 0
 | [] => rfl
 | a :: l => by rw [kc_cons, if_neg (by simp), if_neg (by simp)]; exact kc_self l
theorem kc_zero : ∀ {l m : Key}, Lib.compareBytes l m = 0 → l = m
 | [], [], _ => rfl
 | [], _ :: _, h => by cases h
 | _ :: _, [], h => by cases h
 | a :: l, b :: m, h => by
  rw [kc_cons] at h
  split at h
  ·
   cases h
  ·
   split at h
   ·
    cases h
   ·
    rename_i h1 h2
    have e : a = b := UInt8.le_antisymm (UInt8.not_lt.1 h2) (UInt8.not_lt.1 h1)
    rw [e, kc_zero h]
theorem kc_neg : ∀ l m : Key, Lib.compareBytes m l = -Lib.compareBytes l m
 | [], [] => rfl
 | [], _ :: _ => rfl
 | _ :: _, [] => rfl
 | a :: l, b :: m => by
  rw [kc_cons, kc_cons]
  by_cases h1 : a < b
  ·
   rw [if_pos h1, if_neg (UInt8.not_lt.2 (UInt8.le_of_lt h1)), if_pos h1]; rfl
  ·
   by_cases h2 : b < a
   ·
    rw [if_pos h2, if_neg h1, if_pos h2]
   ·
    rw [if_neg h1, if_neg h2, if_neg h2, if_neg h1]; exact kc_neg l m
def KLt (a b : Key) : Prop := Lib.compareBytes a b < 0
def KLe (a b : Key) : Prop := Lib.compareBytes a b ≤ 0
instance (a b : Key) : Decidable (KLt a b) := inferInstanceAs (Decidable (_ < _))
instance (a b : Key) : Decidable (KLe a b) := inferInstanceAs (Decidable (_ ≤ _))
theorem KLt.trans : ∀ {a b c : Key}, KLt a b → KLt b c → KLt a c
 | [], _, [], h, h' => by
  unfold KLt at *
  rename_i b
  cases b with
  | nil => exact h
  | cons x l => cases h'
 | [], _, _ :: _, _, _ => by show (-1 : Int) < 0; omega
 | _ :: _, [], _, h, _ => by cases h
 | _ :: _, _ :: _, [], _, h => by cases h
 | a :: l, b :: m, c :: n, h, h' => by
  unfold KLt at *
  rw [kc_cons] at *
  by_cases h1 : a < b
  ·
   by_cases h2 : b < c
   ·
    rw [if_pos (UInt8.lt_trans h1 h2)]; omega
   ·
    rw [if_neg h2] at h'
    by_cases h3 : c < b
    ·
     rw [if_pos h3] at h'; omega
    ·
     have e : b = c := UInt8.le_antisymm (UInt8.not_lt.1 h3) (UInt8.not_lt.1 h2)
     rw [← e, if_pos h1]; omega
  ·
   rw [if_neg h1] at h
   by_cases h3 : b < a
   ·
    rw [if_pos h3] at h; omega
   ·
    rw [if_neg h3] at h
    have e : a = b := UInt8.le_antisymm (UInt8.not_lt.1 h3) (UInt8.not_lt.1 h1)
    rw [e]
    by_cases h2 : b < c
    ·
     rw [if_pos h2]; omega
    ·
     rw [if_neg h2] at h' ⊢
     by_cases h4 : c < b
     ·
      rw [if_pos h4] at h'; omega
     ·
      rw [if_neg h4] at h' ⊢
      exact KLt.trans (show KLt l m from h) (show KLt m n from h')
theorem KLe.iff {a b : Key} : KLe a b ↔ KLt a b ∨ a = b := by
 unfold KLe KLt
 constructor
 ·
  intro h
  rcases kc_three a b with h1 | h1 | h1
  ·
   exact .inl (by omega)
  ·
   exact .inr (kc_zero h1)
  ·
   omega
 ·
  rintro (h | rfl)
  ·
   omega
  ·
   rw [kc_self]; omega
theorem KLt.le {a b : Key} (h : KLt a b) : KLe a b := KLe.iff.2 (.inl h)
theorem KLe.trans {a b c : Key} (h : KLe a b) (h' : KLe b c) : KLe a c := by
 rcases KLe.iff.1 h with h | rfl
 ·
  rcases KLe.iff.1 h' with h' | rfl
  ·
   exact (h.trans h').le
  ·
   exact h.le
 ·
  exact h'
theorem KLt.not_le {a b : Key} : KLt a b ↔ ¬ KLe b a := by
 unfold KLt KLe
 have := kc_neg a b
 omega
theorem KLe.not_lt {a b : Key} : KLe a b ↔ ¬ KLt b a := by
 unfold KLt KLe
 have := kc_neg a b
 omega
def Up (ks : List Key) : Prop := ks.Pairwise KLt
theorem Rise.up {ks : List Key} (h : Rise ks) : Up ks := by
 rw [Up, List.pairwise_iff_getElem]
 intro i j hi hj hij
 induction j with
 | zero => omega
 | succ j ih =>
  have hs : KLt ks[j] ks[j + 1] := by
   have := (h (j + 1) ks[j + 1] (List.getElem?_eq_getElem hj)).2 ks[j] (by omega) (by simp)
   exact this
  rcases Nat.lt_or_ge i j with h1 | h1
  ·
   exact (ih (by omega) h1).trans hs
  ·
   obtain rfl : i = j := by omega
   exact hs
structure At1 (l : List Key) (n : Key) (k : Nat) (b : Bool) : Prop where
 le : k ≤ l.length
 lo : ∀ p ∈ l.take k, KLt p n
 hi : ∀ p ∈ l.drop k, KLe n p
 eq : b = true ↔ l[k]? = some n
theorem up_lo {l : List Key} (h : Up l) {n : Key} {k : Nat} {x : Key} (hx : l[k]? = some x) (hc : KLt x n) : ∀ p ∈ l.take (k + 1), KLt p n := by
 obtain ⟨hk, rfl⟩ := List.getElem?_eq_some_iff.1 hx
 intro p hp
 rw [List.take_succ_eq_append_getElem hk, List.mem_append] at hp
 rcases hp with hp | hp
 ·
  obtain ⟨i, hi, rfl⟩ := List.mem_iff_getElem.1 hp
  rw [List.length_take] at hi
  rw [List.getElem_take]
  exact (List.pairwise_iff_getElem.1 h i k (by omega) hk (by omega)).trans hc
 ·
  obtain rfl := List.mem_singleton.1 hp
  exact hc
theorem up_hi {l : List Key} (h : Up l) {n : Key} {k : Nat} {x : Key} (hx : l[k]? = some x) (hc : KLe n x) : ∀ p ∈ l.drop k, KLe n p := by
 obtain ⟨hk, rfl⟩ := List.getElem?_eq_some_iff.1 hx
 intro p hp
 obtain ⟨i, hi, rfl⟩ := List.mem_iff_getElem.1 hp
 rw [List.getElem_drop]
 rcases Nat.eq_zero_or_pos i with h0 | h0
 ·
  subst h0
  exact hc
 ·
  have hki : k + i < l.length := by rw [List.length_drop] at hi; omega
  exact hc.trans (List.pairwise_iff_getElem.1 h k (k + i) hk hki (by omega)).le
theorem At1.one {l : List Key} {n : Key} {k k' : Nat} {b b' : Bool} (h : At1 l n k b) (h' : At1 l n k' b') : k = k' ∧ b = b' := by
 have aux : ∀ {k k' : Nat} {b b' : Bool}, At1 l n k b → At1 l n k' b' → ¬ k < k' := fun {k k' b b'} h h' hlt => by
  have hk : k < l.length := Nat.lt_of_lt_of_le hlt h'.le
  have h1 : KLt l[k] n := h'.lo _ (List.mem_of_getElem? (i := k) (by rw [List.getElem?_take_of_lt hlt, List.getElem?_eq_getElem hk]))
  have h2 : KLe n l[k] := h.hi _ (List.mem_of_getElem? (i := 0) (by rw [List.getElem?_drop]; simp [hk]))
  exact KLt.not_le.1 h1 h2
 have hk : k = k' := by have := aux h h'; have := aux h' h; omega
 subst hk
 refine ⟨rfl, ?_⟩
 have := h.eq.trans h'.eq.symm
 cases b <;> cases b' <;> simp_all
end Go.Proofs.YtbbgdbnjmonbgaaGreatDoor

