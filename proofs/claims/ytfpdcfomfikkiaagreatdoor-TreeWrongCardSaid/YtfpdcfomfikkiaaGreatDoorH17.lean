/-
  The pager's Lay while a look lies beside it: the look's map stays.
  node.Child, Entry, val, Size: contracts.
  node.isNoPage, isWrong; slices.IndexFunc, ContainsFunc at them: contracts.
-/
import Derived.Test.YtfpdcfomfikkiaaGreatDoorH15
import Derived.Test.YtfpdcfomfikkiaaGreatDoorH16
import Derived.Deep.QuietTactic
import Derived.BigQuiet
set_option linter.unusedVariables false
set_option linter.unusedSimpArgs false
set_option maxRecDepth 100000
namespace Go.Proofs.YtfpdcfomfikkiaaGreatDoor
open Go.RowKit

/-- What a pager's calls may change, but for one map. -/
def ofGrX (sm : Nat) : Nat → Obj → Bool
  | i, .map _ _ => i != sm
  | i, o => ofGr i o
theorem ofGrX_ofGr {sm : Nat} (i : Nat) (o : Obj) (h : ofGrX sm i o = true) : ofGr i o = true := by
  cases o with
  | map es c => rfl
  | cells c t f => exact h
  | _ => cases h
theorem isMaps_ofGrX {sm : Nat} {bs : List Nat} (hb : sm ∉ bs) (i : Nat) (o : Obj) (h : isMaps bs i o = true) : ofGrX sm i o = true := by
  cases o with
  | map es c =>
    simp only [isMaps, List.contains_eq_mem, decide_eq_true_eq] at h
    show (i != sm) = true
    rw [bne_iff_ne]
    intro e
    subst e
    exact hb h
  | _ => cases h
theorem ofDisk_ofGrX {lm fm sm : Nat} (h1 : lm ≠ sm) (h2 : fm ≠ sm) (i : Nat) (o : Obj) (h : ofDisk lm fm i o = true) : ofGrX sm i o = true := by
  cases o with
  | map es c =>
    show (i != sm) = true
    rw [bne_iff_ne]
    intro e
    subst e
    simp only [ofDisk, Bool.or_eq_true, beq_iff_eq] at h
    rcases h with h | h
    · exact h1 h.symm
    · exact h2 h.symm
  | cells c t f =>
    have := ofDisk_ofGr i _ h
    exact this
  | _ => cases h
theorem isPager_ofGrX {sm : Nat} (i : Nat) (o : Obj) (h : isTy 63 i o = true) : ofGrX sm i o = true := by
  cases o with
  | cells c t f => exact isPager_ofGr i _ h
  | _ => cases h

section
variable {w w' : World} {B P pd lm fm pl um wm la : Nat} {v : Value} {X : PG}

/-- Lay, with what it leaves said finely. -/
structure LayStep (w w' : World) (B P pd lm fm pl um wm la sm : Nat) (v : Value) (X : PG) : Prop where
  is : GrIs w' B P pd lm fm pl um wm la v X
  below : Below B w w'
  keeps : Keeps (ofGrX sm) w w'

set_option maxHeartbeats 3200000 in
theorem grLayX_ok (hT : Tab w) (hB : 0 < B) (h : GrIs w B P pd lm fm pl um wm la v X) {sm : Nat} (hsm : lm ≠ sm ∧ fm ≠ sm ∧ um ≠ sm ∧ wm ≠ sm ∧ la ≠ sm) (hf : X.failed = false) {k : Nat} (hF : X.F.least = some (k : Int)) (h0 : X.S.left ≠ 0) (h1 : -1 ≤ X.S.left) (h2 : X.S.left ≤ 9223372036854775807) (ho : X.S.ops ≤ 999999999) (hz : X.F.hi = X.S.size) (hg : X.g + 1 ≤ 1152921504606846976) (kind : UInt8) {q : Option Addr} {n c : Nat} {l : List UInt8} (hl : GBytes w B q l) (hn : n = l.length) (hnc : n ≤ c) (hc : c ≤ 9223372036854775807) (h493 : n ≤ 493) :
    Calls Tryz.prog 7 #[.pointer (some ⟨P, 0, none⟩), .int .u8 (kind.toNat : Int), .slice q n c] w fun e w' => e = .returned (.tuple #[.int .i64 (k : Int), .int .i64 0]) ∧ LayStep w w' B P pd lm fm pl um wm la sm v (X.lay k (pageB kind k (X.g + 1) l)) := by
  have HM := Lib.hid h.made
  have c10 := h.c10
  have c1 := h.c1
  rw [hf] at c10
  obtain ⟨a1, a2⟩ := FL.alloc_some hF
  have hst := (FL.least_some hF).1
  obtain ⟨u1, u2, u3, u4⟩ := FL.free_used hst
  have h96 := h.list.ok.h2
  have hlo := h.list.ok.h0
  have HA := frAlloc_any h.list
  rw [a1, a2] at HA
  replace HA := Lib.hid HA
  have hpl : (pageB kind k (X.g + 1) l).length = 512 := pageB_length (by omega)
  have HP : Hid (∀ w1, GrIs w1 B P pd lm fm pl um wm la v { X with F := X.F.take k } → Below B w w1 → Keeps ofGr w w1 → Calls Tryz.prog 20 #[.pointer (some ⟨P, 0, none⟩), .int .u8 (kind.toNat : Int), .int .i64 (k : Int), .slice q n c] w1 fun e w2 => e = .returned (.int .i64 0) ∧ DiskStep w1 w2 B pd lm fm (X.S.write k (pageB kind k (X.g + 1) l))) := Lib.hid fun w1 hw1 hb hkk =>
    grPut_gen (k := k) (hT.below hB hb) hw1 kind (by omega) hg (hl w1 hb hkk) hn hnc hc h493 fun w2 g hb2 hs =>
      (write_any (k := (k : Int)) (hw1.disk.below hb2) h0 h1 h2 ho (by omega) (by show (k : Int) < X.S.size; omega) 512 (Bytes.sec hs) hpl.symm (Nat.le_of_eq hpl)).mono fun e w3 ⟨he, hs3⟩ => ⟨he, DiskStep.of (hb2.mono hw1.base) (Keeps.below hb2) hs3⟩
  have H := Lib.hid h
  have HSM := Lib.hid hsm
  have d1 : decide ((493 : Int) < (n : Int)) = false := decide_eq_false (by omega)
  clear h a1 a2 hF hT hst u1 u2 u3 u4 h96 hlo hl hn hnc hc hpl h1 h2 hsm
  generalize pageB kind k (X.g + 1) l = pg at *
  generalize (k : Int) = kk at *
  go_enter Tryz.func7, Tryz.ntmps7
  go_wp2_with fail
  refine HM.out.mono ?_; rintro e w1 ⟨rfl, rfl⟩
  go_wp2_with fail
  refine HA.out.mono ?_; rintro e w1 ⟨rfl, hfr, hon⟩
  obtain ⟨g1, g2, g3⟩ := H.out.onList hfr hon
  have G1 := Lib.hid g1
  have G2 := Lib.hid g2
  have G3 : Hid (Keeps (ofGrX sm) _ _) := Lib.hid (g3.mono (isMaps_ofGrX (by have h := HSM.out; simp only [List.mem_cons, List.not_mem_nil, or_false, not_or]; exact ⟨fun e => h.2.2.1 e.symm, fun e => h.2.2.2.1 e.symm⟩)))
  clear hfr hon g1 g2 g3
  go_wp2_with fail
  refine (HP.out _ G1.out G2.out (G3.out.mono ofGrX_ofGr)).mono ?_; rintro e w2 ⟨rfl, hs2⟩
  have G4 := Lib.hid (G1.out.onDisk hs2)
  have G5 := Lib.hid (G2.out.trans hs2.below)
  have G6 := Lib.hid (G3.out.trans (hs2.keeps.mono (ofDisk_ofGrX HSM.out.1 HSM.out.2.1)))
  have c6 := (G1.out.onDisk hs2).c6
  clear hs2
  go_wp2_with (at_mapUpdate; refine st_store rfl _ _ _ _ 3 67 rfl Tryz.underlying58 Tryz.underlying3 rfl G4.out.mla rfl rfl ?_; intro w3 hm hg3; obtain ⟨g7, g8, g9⟩ := G4.out.onLaid (L := fun x => if x = kk then true else X.L x) ((setOf_add X.L kk) ▸ hm) hg3; have G7 := Lib.hid g7; have G8 := Lib.hid (G5.out.trans g8); have G9 := Lib.hid (G6.out.trans (g9.mono (isMaps_ofGrX (by have h := HSM.out; simp only [List.mem_cons, List.not_mem_nil, or_false]; exact fun e => h.2.2.2.2 e.symm)))); have c9 := g7.c9; have u9 := g7.soft 9; clear hm hg3 g7 g8 g9)
  go_ret2
  obtain ⟨b1, b2⟩ := cell_set (i := 9) (v := .bool true) G7.out.blk
  obtain ⟨o1, o2, o3⟩ := G7.out.onOwn (Y := X.lay kk pg) (by simpa [grCells, PG.lay] using b1) b2 G7.out.pins rfl rfl rfl G7.out.g0
  exact ⟨rfl, o1, G8.out.trans o2, G9.out.trans (o3.mono isPager_ofGrX)⟩

/-- .. as the look sees it. -/
theorem lookLay_ok {sm : Nat} {seen : Int → Bool} (h : LookAt w B P pd sm X seen) (hf : X.failed = false) {k : Nat} (hF : X.F.least = some (k : Int)) (h0 : X.S.left ≠ 0) (h1 : -1 ≤ X.S.left) (h2 : X.S.left ≤ 9223372036854775807) (ho : X.S.ops ≤ 999999999) (hg : X.g + 1 ≤ 1152921504606846976) (kind : UInt8) {q : Option Addr} {n c : Nat} {l : List UInt8} (hl : GBytes w B q l) (hn : n = l.length) (hnc : n ≤ c) (hc : c ≤ 9223372036854775807) (h493 : n ≤ 493) :
    Calls Tryz.prog 7 #[.pointer (some ⟨P, 0, none⟩), .int .u8 (kind.toNat : Int), .slice q n c] w fun e w' => e = .returned (.tuple #[.int .i64 (k : Int), .int .i64 0]) ∧ LookAt w' B P pd sm (X.lay k (pageB kind k (X.g + 1) l)) seen ∧ Below B w w' ∧ Keeps (ofGrX sm) w w' := by
  obtain ⟨lm, fm, pl, um, wm, la, v, hg', hne⟩ := h.g
  refine (grLayX_ok h.T h.tb hg' hne hf hF h0 h1 h2 ho h.z hg kind hl hn hnc hc h493).mono ?_
  rintro e w' ⟨he, hs⟩
  obtain ⟨es, cc, hm, _⟩ := h.m.st
  refine ⟨he, ⟨h.T.below h.tb hs.below, ⟨lm, fm, pl, um, wm, la, v, hs.is, hne⟩, ?_, h.m.block ?_, h.tb⟩, hs.below, hs.keeps⟩
  · have hhi : (X.F.take (k : Int)).hi = X.F.hi := rfl
    show (X.F.take (k : Int)).hi = (X.S.write k _).size
    rw [hhi, h.z]
    first | rfl | simp
  · rw [hs.keeps.stay hm (by show (sm != sm) = false; simp), hm]
end

end Go.Proofs.YtfpdcfomfikkiaaGreatDoor

set_option linter.unusedVariables false
set_option maxRecDepth 100000
namespace Go.Proofs.YtfpdcfomfikkiaaGreatDoor
open Go.RowKit

theorem child_any {w : World} {q : Option Addr} {n c : Nat} (hn : n ≤ 1000000) :
    Calls Tryz.prog 149 #[.slice q n c] w fun e w' => e = .returned (.int .i64 ((n + 3 : Nat) : Int)) ∧ w' = w := by
  go_enter Tryz.func149, Tryz.ntmps149
  go_wp2
  go_ret
  exact ⟨ret_int (by omega), rfl⟩

theorem entry_any {w : World} {q : Option Addr} {n c : Nat} (hn : n ≤ 1000000) (q' : Option Addr) (c' : Nat) (l : List UInt8) (g p : Int) (hl : l.length ≤ 1000000) (k : List UInt8) (hk : n = k.length) :
    Calls Tryz.prog 147 #[.slice q n c, .agg #[.slice q' l.length c', .int .i64 g, .int .i64 p]] w fun e w' => e = .returned (.int .i64 (entS k ⟨l, g, p⟩ : Nat)) ∧ Below w.heap.size w w' := by
  obtain ⟨m, hm⟩ : ∃ m, m = l.length := ⟨_, rfl⟩
  have HK := Lib.hid hk
  have HM := Lib.hid hm
  rw [← hm] at hl ⊢
  clear hk hm
  by_cases hp : p = 0
  · subst hp
    go_enter Tryz.func147, Tryz.ntmps147
    go_wp2
    go_ret
    refine ⟨ret_int ?_, ((Below.refl _ _).alloc (Nat.le_refl _) _)⟩
    unfold entS
    rw [if_pos rfl, ← HK.out, ← HM.out]
    omega
  · have hpb : (p != 0) = true := by simpa using hp
    have HP := Lib.hid hp
    clear hp
    go_enter Tryz.func147, Tryz.ntmps147
    go_wp2
    go_ret
    refine ⟨ret_int ?_, ((Below.refl _ _).alloc (Nat.le_refl _) _)⟩
    unfold entS
    rw [if_neg HP.out, ← HK.out]
    omega

/-- The value of an entry, or none. -/
def Nd.val (n : Nd) (i : Nat) : Vl := n.vs[i]?.getD ⟨none, 0, [], 0, 0⟩
theorem Nd.val_s (n : Nd) (i : Nat) : (n.val i).s = ((n.s).vs[i]?).getD .zero := by
  unfold Nd.val Nd.s
  simp only [List.getElem?_map]
  cases n.vs[i]? <;> rfl
theorem Nd.val_len (n : Nd) (i : Nat) : (n.val i).l.length ≤ lens Vl.l n.vs := by
  unfold Nd.val
  cases h : n.vs[i]? with
  | none => exact Nat.zero_le _
  | some v => exact lens_mem (f := Vl.l) (List.mem_of_getElem? h)

set_option maxHeartbeats 1600000 in
theorem val_any {w : World} {n : Nd} (h : n.Ok w) (i : Nat) (hi : i ≤ 1000000) :
    Calls Tryz.prog 148 #[n.cell, .int .i64 (i : Int)] w fun e w' => e = .returned (n.val i).cell ∧ Below w.heap.size w w' := by
  obtain ⟨lf, kq, kc, ks, vq, vc, vs, iq, ic, is⟩ := n
  have h1 := h.v1
  have h2 := h.v2
  have HV := Lib.hid h.vl
  dsimp only at h1 h2
  obtain ⟨m, hm⟩ : ∃ m, m = vs.length := ⟨_, rfl⟩
  have HM := Lib.hid hm
  obtain ⟨mk, hmk⟩ : ∃ m, m = ks.length := ⟨_, rfl⟩
  obtain ⟨mi, hmi⟩ : ∃ m, m = is.length := ⟨_, rfl⟩
  unfold Nd.cell
  dsimp only
  rw [← hm] at h1 ⊢
  rw [← hmk, ← hmi]
  clear h hm hmk hmi
  by_cases hlt : i < m
  · obtain ⟨v, hv⟩ : ∃ v, vs[i]? = some v := ⟨_, List.getElem?_eq_getElem (by have := HM.out; omega)⟩
    obtain ⟨b, o, rfl, hb, c0, c1, c2⟩ := (show Vls w vq vs from HV.out).at hv
    have HE : Hid ((Nd.val ⟨lf, kq, kc, ks, some ⟨b, o, none⟩, vc, vs, iq, ic, is⟩ i) = v) := Lib.hid (by unfold Nd.val; rw [hv]; rfl)
    generalize Nd.val ⟨lf, kq, kc, ks, some ⟨b, o, none⟩, vc, vs, iq, ic, is⟩ i = x at *
    clear hv HV HM
    go_enter Tryz.func148, Tryz.ntmps148
    go_wp2
    refine bodyPost_ret (results_cell_row rfl _ _ (w.heap.size + 1) 89 _ (0, 0) _ (by kernel_rfl) (boxes w _ _ _ _).2.1 Tryz.underlying89 rfl (by kernel_rfl)) rfl ?_
    refine ⟨?_, (boxes w _ _ _ _).2.2.1⟩
    rw [HE.out]
    rfl
  · have HE : Hid ((Nd.val ⟨lf, kq, kc, ks, vq, vc, vs, iq, ic, is⟩ i) = ⟨none, 0, [], 0, 0⟩) := Lib.hid (by unfold Nd.val; rw [List.getElem?_eq_none (show vs.length ≤ i by have := HM.out; omega)]; rfl)
    generalize Nd.val ⟨lf, kq, kc, ks, vq, vc, vs, iq, ic, is⟩ i = x at *
    clear HV HM
    go_enter Tryz.func148, Tryz.ntmps148
    go_wp2
    refine bodyPost_ret (results_cell_row rfl _ _ (w.heap.size + 1) 89 _ (0, 0) _ (by kernel_rfl) (boxes w _ _ _ _).2.1 Tryz.underlying89 rfl (by kernel_rfl)) rfl ?_
    refine ⟨?_, (boxes w _ _ _ _).2.2.1⟩
    rw [HE.out]
    rfl

theorem Nd.s_ks (n : Nd) : (n.s).ks = n.ks.map Kb.l := rfl
theorem Nd.few {n : Nd} (hc : n.s.count ≤ 100000) : n.ks.length ≤ 100000 ∧ n.vs.length ≤ 100000 ∧ n.is.length ≤ 100000 ∧ (∀ x ∈ n.ks, x.l.length ≤ 100000) ∧ lens Vl.l n.vs ≤ 100000 := by
  unfold NdS.count Nd.s at hc
  dsimp only at hc
  rw [List.length_map, List.length_map] at hc
  have e1 : lens VlS.l (n.vs.map Vl.s) = lens Vl.l n.vs := by
    induction n.vs with
    | nil => rfl
    | cons a l ih => simp only [List.map_cons, lens, ih]; rfl
  refine ⟨by omega, by omega, by omega, fun x hx => ?_, by omega⟩
  have := lens_mem (f := id) (l := n.ks.map Kb.l) (List.mem_map_of_mem hx)
  simp only [id] at this
  omega

set_option maxHeartbeats 1600000 in
/-- Size, of any node that is not too great to be counted. -/
theorem size_any {w : World} {n : Nd} (h : n.Ok w) (hc : n.s.count ≤ 100000) :
    Calls Tryz.prog 122 #[n.cell] w fun e w' => e = .returned (.int .i64 (n.s.size : Nat)) ∧ Below w.heap.size w w' := by
  obtain ⟨f1, f2, f3, f4, f5⟩ := Nd.few hc
  have hsz : n.s.size ≤ 600003 := Nat.le_trans n.s.size_le (by omega)
  have hk1 := h.k1
  have hk2 := h.k2
  have HOK := Lib.hid h
  have HF4 := Lib.hid f4
  have HF5 := Lib.hid f5
  obtain ⟨m, hm⟩ : ∃ m, m = n.ks.length := ⟨_, rfl⟩
  have HM := Lib.hid hm
  rw [← hm] at hk1 f1
  have hcell : n.cell = .agg #[.bool n.leaf, .slice n.kq m n.kc, .slice n.vq n.vs.length n.vc, .slice n.iq n.is.length n.ic] := by rw [hm]; rfl
  obtain ⟨W, hW⟩ : ∃ W, W = w.alloc (.cells #[.bool n.leaf, .slice n.kq m n.kc, .slice n.vq n.vs.length n.vc, .slice n.iq n.is.length n.ic] 82) := ⟨_, rfl⟩
  have HBW : Hid (Below w.heap.size w W) := Lib.hid (by rw [hW]; exact (Below.refl _ _).alloc (Nat.le_refl _) _)
  have hblk : W.heap[w.heap.size]? = some (.cells #[.bool n.leaf, .slice n.kq m n.kc, .slice n.vq n.vs.length n.vc, .slice n.iq n.is.length n.ic] 82 (0, 0)) := by rw [hW]; exact heap_alloc_new w _
  have HWS : Hid (W.heap.size = w.heap.size + 1) := Lib.hid (by rw [hW]; simp)
  have HC : Hid (∀ w', Below W.heap.size W w' → w'.cell? ⟨w.heap.size, 0, none⟩ = some (.bool n.leaf) ∧ w'.cell? ⟨w.heap.size, 1, none⟩ = some (.slice n.kq m n.kc) ∧ w'.cell? ⟨w.heap.size, 2, none⟩ = some (.slice n.vq n.vs.length n.vc) ∧ w'.cell? ⟨w.heap.size, 3, none⟩ = some (.slice n.iq n.is.length n.ic)) := Lib.hid fun w' hb => by
    have h1 := (hb.block w.heap.size (by rw [HWS.out]; omega)).trans hblk
    exact ⟨Joins.cell_of_block h1 0, Joins.cell_of_block h1 1, Joins.cell_of_block h1 2, Joins.cell_of_block h1 3⟩
  rw [hcell]
  have HCE := Lib.hid hcell
  clear hblk hm hcell h f4 f5 hc
  cases hl : n.leaf
  · have HL := Lib.hid hl
    rw [hl] at HC hW
    have HS : Hid (n.s.size = 3 + sizeB n.s.ks) := Lib.hid (by unfold NdS.size; rw [show n.s.leaf = n.leaf from rfl, HL.out]; rfl)
    have hs3 : 3 + sizeB n.s.ks ≤ 600003 := by rw [← HS.out]; exact hsz
    clear hl hsz
    obtain ⟨c0, c1, c2, c3⟩ := HC.out W (Below.refl _ _)
    go_enter Tryz.func122, Tryz.ntmps122
    go_wp2_with fail
    rw [← hW]
    replace hW := Lib.hid hW
    go_wp2
    go_loopw [3, 14] (fun x i wr => ∃ (j z : Nat), i = .int .i64 (j : Int) ∧ x = .int .i64 (z : Int) ∧ j ≤ m ∧ Below W.heap.size W wr ∧ z + sizeB (n.s.ks.drop j) = 3 + sizeB n.s.ks) (fun _ i _ => m - (intOf i).toNat)
    case atStart => exact ⟨0, 3, rfl, rfl, by omega, Below.refl _ _, rfl⟩
    case round =>
      clear c0 c1 c2 c3
      obtain ⟨j, z, rfl, rfl, hj, hb, hz⟩ := hrel
      have HB := Lib.hid hb
      have HZ := Lib.hid hz
      have hz2 : z ≤ 600003 := by omega
      obtain ⟨c0, c1, c2, c3⟩ := HC.out _ hb
      clear hb hz
      by_cases hlt : j < m
      · obtain ⟨x, hx⟩ : ∃ x, n.ks[j]? = some x := ⟨_, List.getElem?_eq_getElem (by have := HM.out; omega)⟩
        have hm2 := List.mem_of_getElem? hx
        obtain ⟨b, o, hq, hblt, hkc⟩ := (((HOK.out.below HBW.out).below HB.out).kl).at hx
        have hx2 := (HOK.out.ko x hm2).h2
        have hx3 := HF4.out x hm2
        have hx1 := (HOK.out.ko x hm2).h1
        rw [hq] at c1 ⊢
        obtain ⟨kl, hkl⟩ : ∃ k, k = x.l.length := ⟨_, rfl⟩
        have HKL := Lib.hid hkl
        rw [← hkl] at hkc hx3 hx1
        have HD : Hid (sizeB (n.s.ks.drop j) = kl + 3 + sizeB (n.s.ks.drop (j + 1))) := Lib.hid (by rw [HKL.out]; exact sizeB_drop (by rw [Nd.s_ks, List.getElem?_map, hx]; rfl))
        have HCH := Lib.hid (fun w => child_any (w := w) (q := x.q) (n := kl) (c := x.c) (by omega))
        clear hx hm2 hkl hq
        go_wp2_with fail
        refine (HCH.out _).mono ?_
        rintro e w1 ⟨rfl, rfl⟩
        go_wp2
        go_roundw
        case rel => exact ⟨j + 1, z + (kl + 3), by go_num, by go_num, by omega, HB.out, by have := HD.out; have := HZ.out; omega⟩
        case measure => simp [intOf]; omega
      · go_wp2
        go_ret
        refine ⟨ret_int ?_, HBW.out.trans (HB.out.mono (by rw [HWS.out]; omega))⟩
        have h1 := HZ.out
        rw [List.drop_eq_nil_of_le (by rw [Nd.s_ks, List.length_map]; have := HM.out; omega)] at h1
        rw [HS.out]
        simp only [sizeB] at h1
        omega
  · have HL := Lib.hid hl
    rw [hl] at HC hW
    have HS : Hid (n.s.size = 1 + sizeL n.s.ks n.s.vs) := Lib.hid (by unfold NdS.size; rw [show n.s.leaf = n.leaf from rfl, HL.out]; rfl)
    have hs3 : 1 + sizeL n.s.ks n.s.vs ≤ 600003 := by rw [← HS.out]; exact hsz
    clear hl hsz
    obtain ⟨c0, c1, c2, c3⟩ := HC.out W (Below.refl _ _)
    go_enter Tryz.func122, Tryz.ntmps122
    go_wp2_with fail
    rw [← hW]
    replace hW := Lib.hid hW
    go_wp2
    go_loopw [3, 14] (fun x i wr => ∃ (j z : Nat), i = .int .i64 (j : Int) ∧ x = .int .i64 (z : Int) ∧ j ≤ m ∧ Below W.heap.size W wr ∧ z + sizeL (n.s.ks.drop j) (n.s.vs.drop j) = 1 + sizeL n.s.ks n.s.vs) (fun _ i _ => m - (intOf i).toNat)
    case atStart => exact ⟨0, 1, rfl, rfl, by omega, Below.refl _ _, rfl⟩
    case round =>
      clear c0 c1 c2 c3
      obtain ⟨j, z, rfl, rfl, hj, hb, hz⟩ := hrel
      have HB := Lib.hid hb
      have HZ := Lib.hid hz
      have hz2 : z ≤ 600003 := by omega
      obtain ⟨c0, c1, c2, c3⟩ := HC.out _ hb
      clear hb hz
      by_cases hlt : j < m
      · obtain ⟨x, hx⟩ : ∃ x, n.ks[j]? = some x := ⟨_, List.getElem?_eq_getElem (by have := HM.out; omega)⟩
        have hm2 := List.mem_of_getElem? hx
        obtain ⟨b, o, hq, hblt, hkc⟩ := (((HOK.out.below HBW.out).below HB.out).kl).at hx
        have hx2 := (HOK.out.ko x hm2).h2
        have hx3 := HF4.out x hm2
        have hx1 := (HOK.out.ko x hm2).h1
        rw [hq] at c1 ⊢
        obtain ⟨kl, hkl⟩ : ∃ k, k = x.l.length := ⟨_, rfl⟩
        have HKL := Lib.hid hkl
        rw [← hkl] at hkc hx3 hx1
        have HD : Hid (sizeL (n.s.ks.drop j) (n.s.vs.drop j) = entS x.l (n.val j).s + sizeL (n.s.ks.drop (j + 1)) (n.s.vs.drop (j + 1))) := Lib.hid (by rw [Nd.val_s]; exact sizeL_drop (by rw [Nd.s_ks, List.getElem?_map, hx]; rfl))
        have HVL := Lib.hid (Nat.le_trans (n.val_len j) HF5.out)
        have HCV := Lib.hid (val_any ((HOK.out.below HBW.out).below HB.out) j (by omega))
        rw [HCE.out, hq, HL.out] at HCV
        clear hx hm2 hkl hq
        go_wp2_with fail

        with_reducible refine HCV.out.mono ?_
        rintro e w1 ⟨rfl, hb1⟩
        have HB1 := Lib.hid (HB.out.trans (hb1.mono HB.out.size))
        clear hb1
        generalize n.val j = y at *
        obtain ⟨yq, yc, yl, yg, yp⟩ := y
        have HCH := Lib.hid (fun w => entry_any (w := w) (q := x.q) (n := kl) (c := x.c) (by omega) yq yc yl yg yp (Nat.le_trans HVL.out (by omega)) x.l HKL.out)
        obtain ⟨es, hes⟩ : ∃ s, s = entS x.l ⟨yl, yg, yp⟩ := ⟨_, rfl⟩
        have HES := Lib.hid hes
        have hes2 : es ≤ 200006 := by
          rw [hes]
          have h1 := HVL.out
          have h2 := HKL.out
          unfold entS
          dsimp only at h1 ⊢
          split <;> omega
        rw [← hes] at HCH
        clear hes
        go_wp2_with fail
        refine (HCH.out _).mono ?_
        rintro e w2 ⟨rfl, hb2⟩
        have HB2 := Lib.hid (HB1.out.trans (hb2.mono HB1.out.size))
        clear hb2
        go_wp2
        go_roundw
        case rel => exact ⟨j + 1, z + es, by go_num, by go_num, by omega, HB2.out, by have h1 := HD.out; have := HZ.out; have h3 := HES.out; dsimp only [Vl.s] at h1; rw [← h3] at h1; omega⟩
        case measure => simp [intOf]; omega
      · go_wp2
        go_ret
        refine ⟨ret_int ?_, HBW.out.trans (HB.out.mono (by rw [HWS.out]; omega))⟩
        have h1 := HZ.out
        rw [(List.drop_eq_nil_of_le (by rw [Nd.s_ks, List.length_map]; have := HM.out; omega) : n.s.ks.drop j = [])] at h1
        rw [HS.out]
        simp only [sizeL] at h1
        omega

end Go.Proofs.YtfpdcfomfikkiaaGreatDoor

set_option linter.unusedVariables false
set_option maxRecDepth 100000
namespace Go.Proofs.YtfpdcfomfikkiaaGreatDoor
open Go.RowKit

def noPage (i : Int) : Bool := decide (i < 2) || decide (4096 ≤ i)
def wrongV (v : Vl) : Bool := if v.p = 0 then (v.g != 0 || decide (64 < v.l.length)) else (noPage v.p || decide (v.g ≤ 64) || decide (4096 < v.g) || decide (0 < v.l.length))
theorem noPage_iff (i : Int) : noPage i = false ↔ PageOk i := by
  unfold noPage PageOk
  simp
theorem wrongV_iff (v : Vl) : wrongV v = false ↔ v.s.Right := by
  unfold wrongV VlS.Right Vl.s
  dsimp only
  have hp0 : ¬ PageOk 0 := by unfold PageOk; omega
  split
  · rename_i h
    rw [h]
    simp [hp0]
  · rename_i h
    simp only [Bool.or_eq_false_iff, noPage_iff, decide_eq_false_iff_not, Int.not_le, Int.not_lt, Nat.not_lt, Nat.le_zero_eq, List.length_eq_zero_iff, h, false_and, false_or]
    constructor
    · rintro ⟨⟨⟨h1, h2⟩, h3⟩, h4⟩
      exact ⟨h1, by omega, h3, h4⟩
    · rintro ⟨h1, h2, h3, h4⟩
      exact ⟨⟨⟨h1, by omega⟩, h3⟩, h4⟩

theorem noPage_any (w : World) (i : Int) : Calls Tryz.prog 166 #[.int .i64 i] w fun e w' => e = .returned (.bool (noPage i)) ∧ Below w.heap.size w w' := by
  unfold noPage
  by_cases h : i < 2
  · go_enter Tryz.func166, Tryz.ntmps166
    go_wp2
    go_ret
    exact ⟨ret_bool (by simp [h]), Below.refl _ _⟩
  · go_enter Tryz.func166, Tryz.ntmps166
    go_wp2
    go_ret
    exact ⟨ret_bool (by rw [show decide (i < 2) = false from decide_eq_false (by omega), Bool.false_or]), Below.refl _ _⟩

set_option maxHeartbeats 1600000 in
theorem wrong_any (w : World) (v : Vl) (hok : v.Ok w) : Calls Tryz.prog 164 #[v.cell] w fun e w' => e = .returned (.bool (wrongV v)) ∧ Below w.heap.size w w' := by
  obtain ⟨q, c, l, g, p⟩ := v
  have h1 := hok.h1
  have h2 := hok.h2
  unfold Vl.cell wrongV
  dsimp only at h1 h2 ⊢
  generalize l.length = m at *
  have HN := Lib.hid (fun w => noPage_any w p)
  clear hok
  by_cases hp : p = 0
  · subst hp
    rw [if_pos rfl]
    by_cases hg : g = 0
    · subst hg
      go_enter Tryz.func164, Tryz.ntmps164
      go_wp2
      go_ret
      exact ⟨ret_bool (by simp; try omega), ((Below.refl _ _).alloc (Nat.le_refl _) _)⟩
    · have hgb : (g != 0) = true := by simpa using hg
      clear hg
      go_enter Tryz.func164, Tryz.ntmps164
      go_wp2
      go_ret
      exact ⟨ret_bool (by simp [hgb]), ((Below.refl _ _).alloc (Nat.le_refl _) _)⟩
  · rw [if_neg hp]
    have hpb : (p == 0) = false := by simpa using hp
    clear hp
    generalize noPage p = np at *
    obtain ⟨W, hW⟩ : ∃ W, W = w.alloc (.cells #[.slice q m c, .int .i64 g, .int .i64 p] 89) := ⟨_, rfl⟩
    have HBW : Hid (Below w.heap.size w W) := Lib.hid (by rw [hW]; exact (Below.refl _ _).alloc (Nat.le_refl _) _)
    have hblk : W.heap[w.heap.size]? = some (.cells #[.slice q m c, .int .i64 g, .int .i64 p] 89 (0, 0)) := by rw [hW]; exact heap_alloc_new w _
    have HC : Hid (∀ w', Below W.heap.size W w' → w'.cell? ⟨w.heap.size, 0, none⟩ = some (.slice q m c) ∧ w'.cell? ⟨w.heap.size, 1, none⟩ = some (.int .i64 g) ∧ w'.cell? ⟨w.heap.size, 2, none⟩ = some (.int .i64 p)) := Lib.hid fun w' hb => by
      have h1 := (hb.block w.heap.size (by rw [hW]; simp)).trans hblk
      exact ⟨Joins.cell_of_block h1 0, Joins.cell_of_block h1 1, Joins.cell_of_block h1 2⟩
    have HBE : Hid (∀ w', Below W.heap.size W w' → Below w.heap.size w w') := Lib.hid fun w' hb => HBW.out.trans (hb.mono HBW.out.size)
    clear hblk
    obtain ⟨c0, c1, c2⟩ := HC.out W (Below.refl _ _)
    go_enter Tryz.func164, Tryz.ntmps164
    go_wp2_with fail
    rw [← hW]
    replace hW := Lib.hid hW
    go_wp2_with fail
    refine (HN.out _).mono ?_
    rintro e w1 ⟨rfl, hb⟩
    clear c0 c1 c2
    obtain ⟨c0, c1, c2⟩ := HC.out _ hb
    have HB := Lib.hid (HBE.out _ hb)
    clear hb
    cases np
    · by_cases h64 : g ≤ 64
      · go_wp2
        go_ret
        exact ⟨ret_bool (by simp [h64]), HB.out⟩
      · by_cases h40 : 4096 < g
        · go_wp2
          go_ret
          exact ⟨ret_bool (by simp [h40]), HB.out⟩
        · go_wp2
          go_ret
          exact ⟨ret_bool (by simp; try omega), HB.out⟩
    · go_wp2
      go_ret
      exact ⟨ret_bool (by simp), HB.out⟩

set_option maxHeartbeats 400000 in
theorem indexV_any {w : World} {q : Option Addr} {n c : Nat} {l : List Vl} (hn : n = l.length) (h1 : n ≤ c) (h2 : c ≤ 9223372036854775807) (hl : Vls w q l) (hok : ∀ a ∈ l, a.Ok w) :
    Calls Tryz.prog 167 #[.slice q n c, .func (.func 164) #[] #[]] w fun e w' => ∃ r : Int, e = .returned (.int .i64 r) ∧ decide (0 ≤ r) = l.any wrongV ∧ Below w.heap.size w w' := by
  have eg : ∀ args (w : World), (callFunc 164 args).run Tryz.prog w = .ok (.enter 164 args) w := fun _ _ => rfl
  have HN := Lib.hid hn
  have HL := Lib.hid hl
  have HOK := Lib.hid hok
  clear hn hl hok
  go_enter Tryz.func167, Tryz.ntmps167
  go_wp2
  go_loopw [8] (fun i wr => ∃ j : Nat, i = .int .i64 j ∧ j ≤ n ∧ Below w.heap.size w wr ∧ (l.take j).any wrongV = false) (fun i _ => n - (intOf i).toNat)
  case atStart => exact ⟨0, rfl, by omega, Below.refl _ _, rfl⟩
  case round =>
    obtain ⟨j, rfl, hj, hb, hany⟩ := hrel
    have HB := Lib.hid hb
    have HA := Lib.hid hany
    clear hb hany
    by_cases hlt : j < n
    · have hjl : j < l.length := by have := HN.out; omega
      obtain ⟨a, ha⟩ : ∃ a, l[j]? = some a := ⟨_, List.getElem?_eq_getElem hjl⟩
      obtain ⟨b, o, rfl, hblt, c1, c2, c3⟩ := (HL.out.below HB.out).at ha
      have hk := List.mem_of_getElem? ha
      have HT : Hid ((l.take (j + 1)).any wrongV = ((l.take j).any wrongV || wrongV a)) := Lib.hid (by
        rw [List.take_add_one, ha]
        simp)
      have HS : Hid (wrongV a = true → l.any wrongV = true) := Lib.hid (fun h => List.any_eq_true.2 ⟨a, hk, h⟩)
      have HM := Lib.hid (fun w' hb => wrong_any w' a ((HOK.out a hk).below hb))
      unfold Vl.cell at HM
      have ham := (HOK.out a hk).h1
      have ham2 := (HOK.out a hk).h2
      clear hk ha hjl
      go_wp2_with fail
      with_reducible refine (HM.out _ HB.out).mono ?_; rintro e w1 ⟨rfl, hb1⟩
      have HB1 := Lib.hid (HB.out.trans (hb1.mono HB.out.size))
      clear hb1
      by_cases hpa : wrongV a = true
      · have HPA := Lib.hid hpa
        go_wp2
        go_ret
        refine ⟨_, rfl, ?_, HB1.out⟩
        rw [HS.out HPA.out]
        simp
      · have hpa' : wrongV a = false := by simpa using hpa
        clear hpa
        have HPA := Lib.hid hpa'
        go_wp2
        go_roundw
        case rel => exact ⟨j + 1, by go_num, by omega, HB1.out, by rw [HT.out, HA.out, HPA.out]; rfl⟩
        case measure => simp [intOf]; omega
    · go_wp2
      go_ret
      refine ⟨-1, rfl, ?_, HB.out⟩
      have h3 := HA.out
      rw [List.take_of_length_le (by have := HN.out; omega)] at h3
      rw [h3]
      rfl

theorem containsV_any {w : World} {q : Option Addr} {n c : Nat} {l : List Vl} (hn : n = l.length) (h1 : n ≤ c) (h2 : c ≤ 9223372036854775807) (hl : Vls w q l) (hok : ∀ a ∈ l, a.Ok w) :
    Calls Tryz.prog 163 #[.slice q n c, .func (.func 164) #[] #[]] w fun e w' => e = .returned (.bool (l.any wrongV)) ∧ Below w.heap.size w w' := by
  have HC := Lib.hid (indexV_any (w := w) hn h1 h2 hl hok)
  clear hn hl hok
  generalize l.any wrongV = x at *
  go_enter Tryz.func163, Tryz.ntmps163
  go_wp2_with fail
  refine HC.out.mono ?_; rintro e w1 ⟨r, rfl, hr, hb⟩
  have HR := Lib.hid hr
  clear hr
  go_wp2
  go_ret
  exact ⟨ret_bool HR.out, hb⟩

set_option maxHeartbeats 400000 in
theorem indexI_any {w : World} {q : Option Addr} {n c : Nat} {l : List Int} (hn : n = l.length) (h1 : n ≤ c) (h2 : c ≤ 9223372036854775807) (hl : Ks w q l) :
    Calls Tryz.prog 168 #[.slice q n c, .func (.func 166) #[] #[]] w fun e w' => ∃ r : Int, e = .returned (.int .i64 r) ∧ decide (0 ≤ r) = l.any noPage ∧ Below w.heap.size w w' := by
  have eg : ∀ args (w : World), (callFunc 166 args).run Tryz.prog w = .ok (.enter 166 args) w := fun _ _ => rfl
  have HN := Lib.hid hn
  have HL := Lib.hid hl
  clear hn hl
  go_enter Tryz.func168, Tryz.ntmps168
  go_wp2
  go_loopw [8] (fun i wr => ∃ j : Nat, i = .int .i64 j ∧ j ≤ n ∧ Below w.heap.size w wr ∧ (l.take j).any noPage = false) (fun i _ => n - (intOf i).toNat)
  case atStart => exact ⟨0, rfl, by omega, Below.refl _ _, rfl⟩
  case round =>
    obtain ⟨j, rfl, hj, hb, hany⟩ := hrel
    have HB := Lib.hid hb
    have HA := Lib.hid hany
    clear hb hany
    by_cases hlt : j < n
    · have hjl : j < l.length := by have := HN.out; omega
      obtain ⟨a, ha⟩ : ∃ a, l[j]? = some a := ⟨_, List.getElem?_eq_getElem hjl⟩
      obtain ⟨b, o, rfl, c1⟩ := (HL.out.below HB.out).at ha
      have hblt := World.block_lt_of_cell? _ _ c1
      have hk := List.mem_of_getElem? ha
      have HT : Hid ((l.take (j + 1)).any noPage = ((l.take j).any noPage || noPage a)) := Lib.hid (by
        rw [List.take_add_one, ha]
        simp)
      have HS : Hid (noPage a = true → l.any noPage = true) := Lib.hid (fun h => List.any_eq_true.2 ⟨a, hk, h⟩)
      have HM := Lib.hid (fun w' => noPage_any w' a)
      clear hk ha hjl
      go_wp2_with fail
      with_reducible refine (HM.out _).mono ?_; rintro e w1 ⟨rfl, hb1⟩
      have HB1 := Lib.hid (HB.out.trans (hb1.mono HB.out.size))
      clear hb1
      by_cases hpa : noPage a = true
      · have HPA := Lib.hid hpa
        go_wp2
        go_ret
        refine ⟨_, rfl, ?_, HB1.out⟩
        rw [HS.out HPA.out]
        simp
      · have hpa' : noPage a = false := by simpa using hpa
        clear hpa
        have HPA := Lib.hid hpa'
        go_wp2
        go_roundw
        case rel => exact ⟨j + 1, by go_num, by omega, HB1.out, by rw [HT.out, HA.out, HPA.out]; rfl⟩
        case measure => simp [intOf]; omega
    · go_wp2
      go_ret
      refine ⟨-1, rfl, ?_, HB.out⟩
      have h3 := HA.out
      rw [List.take_of_length_le (by have := HN.out; omega)] at h3
      rw [h3]
      rfl

theorem containsI_any {w : World} {q : Option Addr} {n c : Nat} {l : List Int} (hn : n = l.length) (h1 : n ≤ c) (h2 : c ≤ 9223372036854775807) (hl : Ks w q l) :
    Calls Tryz.prog 165 #[.slice q n c, .func (.func 166) #[] #[]] w fun e w' => e = .returned (.bool (l.any noPage)) ∧ Below w.heap.size w w' := by
  have HC := Lib.hid (indexI_any (w := w) hn h1 h2 hl)
  clear hn hl
  generalize l.any noPage = x at *
  go_enter Tryz.func165, Tryz.ntmps165
  go_wp2_with fail
  refine HC.out.mono ?_; rintro e w1 ⟨r, rfl, hr, hb⟩
  have HR := Lib.hid hr
  clear hr
  go_wp2
  go_ret
  exact ⟨ret_bool HR.out, hb⟩

end Go.Proofs.YtfpdcfomfikkiaaGreatDoor

