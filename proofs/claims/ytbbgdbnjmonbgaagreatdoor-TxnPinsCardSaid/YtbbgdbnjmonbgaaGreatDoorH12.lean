/-
  pager.
  pager.
  pager.
  The parts of a meta; what stay.
  A store in memory (TxBox).
  A tree's node.
-/
import Derived.Test.YtbbgdbnjmonbgaaGreatDoorH00
import Derived.Test.YtbbgdbnjmonbgaaGreatDoorH11
import Derived.Test.YtbbgdbnjmonbgaaGreatDoorH09
import Derived.Deep.RegionWith
import Derived.LoopTactic
import Derived.StillTailTactics
import Derived.Deep.RegionHeld3
set_option linter.unusedVariables false
set_option maxRecDepth 100000
namespace Go.Proofs.YtbbgdbnjmonbgaaGreatDoor
open Go.RowKit
def PG.comS (X : PG) (r n d : Nat) : SD := (X.S.flush.write (((X.g + 1) % 2 : Nat) : Int) (mPage (X.g + 1) r n d)).flush
def PG.com0 (X : PG) (r n d : Nat) : PG := { X with S := X.comS r n d, g := X.g + 1, r := r, n := n, d := d, L := fun _ => false }
def PG.commit (X : PG) (r n d : Nat) : PG := (X.com0 r n d).settle
section
variable {w w' : World} {B P pd lm fm pl um wm la : Nat} {v : Value} {X : PG}
set_option maxHeartbeats 3200000 in
theorem grCommit_gen (hT : Tab w) (hB : 1 < B) (h : GrIs w B P pd lm fm pl um wm la v X) (hfl : X.failed = false) {r n d : Nat} (hfo : Follows X r n d)
  (HFIN : ∀ w1, GrIs w1 B P pd lm fm pl um wm la v X → Tab w1 → Calls Tryz.prog 59 #[.pointer (some ⟨P, 0, none⟩), .agg #[.int .i64 ((X.g : Int) + 1), .int .i64 r, .int .i64 n, .int .i64 d]] w1 fun e w' => e = .returned (.int .i64 0) ∧ DiskStep w1 w' B pd lm fm (X.comS r n d)) :
  Calls Tryz.prog 26 #[.pointer (some ⟨P, 0, none⟩), .int .i64 r, .int .i64 n, .int .i64 d] w fun e w' => e = .returned (.int .i64 0) ∧ GrStep w w' B P pd (X.commit r n d) := by
 have HM := Hq h.made
 have c10 := h.c10
 rw [hfl] at c10
 have HNX := Hq (grNext h)
 obtain ⟨W, hW⟩ : ∃ W, W = w.alloc (.cells #[.int .i64 ((X.g : Int) + 1), .int .i64 r, .int .i64 n, .int .i64 d] 49) := ⟨_, rfl⟩
 have hb : Below w.heap.size w W := by rw [hW]; exact sbox1 w _
 have hx : W.heap[w.heap.size]? = some (.cells #[.int .i64 ((X.g : Int) + 1), .int .i64 r, .int .i64 n, .int .i64 d] 49 (0, 0)) := by rw [hW]; exact heap_alloc_new w _
 have HBW := Hq hb
 have H := Hq (h.below hb)
 have HBB := Hq h.base
 have HTW := Hq (hT.below hT.lt hb)
 have HFO := Hq (grFollows HTW.out H.out hfo)
 have hgm := hfo.right.b
 have HG1 : Hid (X.g + 1 ≤ 1152921504606846976) := Hq (by omega)
 have HX : Hid (∀ w1, Keeps ofGr W w1 → w1.cell? ⟨w.heap.size, 0, none⟩ = some (.int .i64 ((X.g : Int) + 1)) ∧ w1.cell? ⟨w.heap.size, 1, none⟩ = some (.int .i64 r) ∧ w1.cell? ⟨w.heap.size, 2, none⟩ = some (.int .i64 n) ∧ w1.cell? ⟨w.heap.size, 3, none⟩ = some (.int .i64 d)) := Hq fun w1 hk => by
  have hx' := hk.stay hx rfl
  exact ⟨(jC hx' 0).trans rfl, (jC hx' 1).trans rfl, (jC hx' 2).trans rfl, (jC hx' 3).trans rfl⟩
 have HFI := Hq HFIN
 have HGE : Hid (((X.g + 1 : Nat) : Int) = (X.g : Int) + 1) := Hq (by omega)
 clear h hT hfo HFIN hb hx hgm
 go_enter Tryz.func26, Tryz.ntmps26
 go_wp2_with fail
 refine HM.out.mono ?_; rintro e w1 ⟨rfl, rfl⟩
 go_wp2_with fail
 refine HNX.out.mono ?_; rintro e w1 ⟨rfl, rfl⟩
 go_wp2_with fail
 rw [← hW]
 clear hW
 refine HFO.out.mono ?_; rintro e w1 ⟨rfl, hb1⟩
 have H1 := Hq (H.out.below hb1)
 have HT1 := Hq (HTW.out.below HTW.out.lt hb1)
 have HB1 := Hq hb1
 obtain ⟨x0, x1, x2, x3⟩ := HX.out _ (Keeps.below hb1)
 clear hb1
 go_wp2_with fail
 refine (HFI.out _ H1.out HT1.out).mono ?_; rintro e w2 ⟨rfl, hs2⟩
 have H2 := Hq (H1.out.onDisk hs2)
 have HS2 := Hq hs2
 have hk2 : Keeps ofGr W w2 := (Keeps.below HB1.out).trans (hs2.keeps.mono ofDisk_ofGr)
 have HK2 : Hid (Keeps (ofGrP P) W w2) := Hq ((Keeps.below HB1.out).trans (hs2.keeps.mono (ofDisk_ofGrP H.out.mP.1 H.out.mP.2.1)))
 have HBL2 := Hq (((HBW.out.mono HBB.out).trans (HB1.out.mono H.out.base)).trans hs2.below)
 clear x0 x1 x2 x3
 obtain ⟨x0, x1, x2, x3⟩ := HX.out _ hk2
 have c2 := H2.out.c2
 have c3 := H2.out.c3
 have c4 := H2.out.c4
 have c5 := H2.out.c5
 have c6 := H2.out.c6
 have uf := H2.out.soft
 have HOW : Hid (∀ w3, w3 = (((w2.setCell ⟨P, 2, none⟩ (.int .i64 ((X.g : Int) + 1))).setCell ⟨P, 3, none⟩ (.int .i64 r)).setCell ⟨P, 4, none⟩ (.int .i64 n)).setCell ⟨P, 5, none⟩ (.int .i64 d) → GrIs w3 B P pd lm fm pl um wm la v { X with S := X.comS r n d, g := X.g + 1, r := r, n := n, d := d } ∧ Below B w2 w3 ∧ Keeps (ofGrP P) w2 w3) := Hq (by
  rintro w3 rfl
  obtain ⟨b2, g2⟩ := cell_set (i := 2) (v := .int .i64 ((X.g : Int) + 1)) H2.out.blk
  obtain ⟨b3, g3⟩ := cell_set (i := 3) (v := .int .i64 (r : Int)) b2
  obtain ⟨b4, g4⟩ := cell_set (i := 4) (v := .int .i64 (n : Int)) b3
  obtain ⟨b5, g5⟩ := cell_set (i := 5) (v := .int .i64 (d : Int)) b4
  obtain ⟨k1, k2, k3⟩ := H2.out.onOwn (Y := { X with S := X.comS r n d, g := X.g + 1, r := r, n := n, d := d }) (v' := v) (by simpa [grCells, HGE.out] using b5) (((g2.trans g3).trans g4).trans g5) H2.out.pins rfl rfl rfl HG1.out
  exact ⟨k1, k2, k3.mono isPager_ofGrP⟩)
 clear hs2 hk2
 have HOG := Hq (HOW.out _ rfl)
 go_wp2_with (refine st_clear rfl _ _ 3 114 rfl Tryz.underlying87 rfl HOG.out.1.mla ?_; intro w3 hm hg; obtain ⟨g1, g2, g3⟩ := HOG.out.1.onLaid (L := fun _ => false) (by rw [setOf_none]; exact hm) hg; have G1 := Hq g1; have G2 := Hq ((HBL2.out.trans HOG.out.2.1).trans g2); have G3 := Hq (((Keeps.below HBW.out).trans HK2.out).trans (HOG.out.2.2.trans (g3.mono (isMaps_ofGrP H.out.mLa)))); clear hm hg g1 g2 g3)
 have HST := Hq (grSettle G1.out)
 refine HST.out.mono ?_; rintro e w4 ⟨rfl, hs4⟩
 have HS4 := Hq (GrStep.of G2.out G3.out hs4)
 clear hs4
 go_wp2
 go_ret
 exact ⟨rfl, HS4.out⟩
theorem grCommit_ok (hT : Tab w) (hB : 1 < B) (h : GrIs w B P pd lm fm pl um wm la v X) (hfl : X.failed = false) (hF : Fit X.S 999999990) (hz : 2 ≤ X.S.size) (hl : X.S.left = -1) {r n d : Nat} (hfo : Follows X r n d) :
  Calls Tryz.prog 26 #[.pointer (some ⟨P, 0, none⟩), .int .i64 r, .int .i64 n, .int .i64 d] w fun e w' => e = .returned (.int .i64 0) ∧ GrStep w w' B P pd (X.commit r n d) := by
 have t1 : X.S.flush.left = -1 := SD.tick_left hl
 have t2 : (X.S.flush.write (((X.g + 1) % 2 : Nat) : Int) (mPage (X.g + 1) r n d)).left = -1 := SD.tick_left t1
 exact grCommit_gen hT hB h hfl hfo fun w1 h1 hT1 => grFinish_ok hT1 hB h1 hF hz hfo.right (by rw [hl]; decide) (by rw [t1]; decide) (by rw [t2]; decide)
end
end Go.Proofs.YtbbgdbnjmonbgaaGreatDoor

set_option linter.unusedVariables false
set_option maxRecDepth 100000
namespace Go.Proofs.YtbbgdbnjmonbgaaGreatDoor
open Go.RowKit
def PG.drop (X : PG) (k : Int) : PG :=
 if X.L k = true then { X with L := fun x => if x = k then false else X.L x, F := X.F.drop k } else if X.F.st k = 2 then { X with F := X.F.late k ((X.g : Int) + 1) } else X
def PG.dropE (X : PG) (k : Int) : Int := if X.L k = true then 0 else if X.F.st k = 2 then 0 else if X.F.has k = true then 13 else 2
section
variable {w w' : World} {B P pd lm fm pl um wm la : Nat} {v : Value} {X : PG}
set_option maxHeartbeats 1600000 in
theorem grDrop_laid (h : GrIs w B P pd lm fm pl um wm la v X) {k : Int} (hL : X.L k = true) (hs : X.F.st k = 2) :
  Calls Tryz.prog 184 #[.pointer (some ⟨P, 0, none⟩), .int .i64 k] w fun e w' => e = .returned (.int .i64 0) ∧ GrStep w w' B P pd { X with L := fun x => if x = k then false else X.L x, F := X.F.drop k } := by
 have HM := Hq h.made
 have c6 := h.c6
 have HL := Hq hL
 have HGV : Hid (∀ w1 (Y : PG), GrIs w1 B P pd lm fm pl um wm la v Y → Y.F = X.F → Calls Tryz.prog 61 #[.pointer (some ⟨pl, 0, none⟩), .int .i64 k] w1 (FrStep w1 pl um wm (X.F.drop k) (.int .i64 0))) := Hq fun w1 Y h1 hY => by
  have hh := frGive_any h1.list (k := k) (by rw [hY]; exact (FL.st_two.1 hs).1)
  rw [hY, if_pos hs, if_pos hs] at hh
  exact hh
 have H := Hq h
 have c6' := (h.below (sbox1 w (.cells #[] 114))).c6
 have H1 := Hq (h.below (sbox1 w (.cells #[] 114)))
 have HB1 := Hq (sbox1 w (.cells #[] 114))
 clear h hL hs
 go_enter Tryz.func184, Tryz.ntmps184
 go_wp2_with fail
 refine HM.out.mono ?_; rintro e w1 ⟨rfl, rfl⟩
 go_wp2_with (first | (at_lookup; refine fr_look rfl _ _ rfl rfl H.out.mla rfl ?_; rw [HL.out]) | (at_delete; refine st_drop rfl _ _ _ 3 114 3 rfl Tryz.underlying87 Tryz.underlying3 rfl H1.out.mla rfl ?_; intro w2 hm hg; obtain ⟨g1, g2, g3⟩ := H1.out.onLaid (L := fun x => if x = k then false else X.L x) ((setOf_del X.L k) ▸ hm) hg; have G1 := Hq g1; have G2 := Hq ((HB1.out.mono H.out.base).trans g2); have G3 := Hq ((Keeps.below HB1.out).trans (g3.mono (isMaps_ofGrP H.out.mLa))); have c1 := g1.c1; clear hm hg g1 g2 g3))
 refine (HGV.out _ _ G1.out rfl).mono ?_; rintro e w3 ⟨rfl, hfr, hon⟩
 have HG := Hq (GrStep.of G2.out G3.out (GrStep.list G1.out hfr hon))
 clear hfr hon c1
 go_wp2
 go_ret
 exact ⟨rfl, HG.out⟩
set_option maxHeartbeats 1600000 in
theorem grDrop_gen (h : GrIs w B P pd lm fm pl um wm la v X) {k : Int} (hL : X.L k = false) {F : FL} {z : Int}
  (HLT : ∀ w1, GrIs w1 B P pd lm fm pl um wm la v X → Calls Tryz.prog 199 #[.pointer (some ⟨pl, 0, none⟩), .int .i64 k, .int .i64 ((X.g : Int) + 1)] w1 (FrStep w1 pl um wm F (.int .i64 z))) :
  Calls Tryz.prog 184 #[.pointer (some ⟨P, 0, none⟩), .int .i64 k] w fun e w' => e = .returned (.int .i64 z) ∧ GrStep w w' B P pd { X with F := F } := by
 have HM := Hq h.made
 have c6 := h.c6
 have HL := Hq hL
 have HLh := Hq HLT
 have H := Hq h
 have HB1 := Hq (sbox1 w (.cells #[] 114))
 obtain ⟨W, hW⟩ : ∃ W, W = w.alloc (.cells #[] 114) := ⟨_, rfl⟩
 rw [← hW] at HB1
 have HNX : Hid (∀ n, Calls Tryz.prog 57 #[.pointer (some ⟨P, 0, none⟩)] (W.drewN n) fun e w' => e = .returned (.int .i64 ((X.g : Int) + 1)) ∧ W.drewN n = w') := Hq fun n => grNext (h.below (belowN HB1.out n))
 have HNX1 : Hid (Calls Tryz.prog 57 #[.pointer (some ⟨P, 0, none⟩)] W.drew fun e w' => e = .returned (.int .i64 ((X.g : Int) + 1)) ∧ W.drew = w') := Hq (grNext (h.below HB1.out.drew))
 have H1 : Hid (GrIs W.drew B P pd lm fm pl um wm la v X) := Hq (h.below HB1.out.drew)
 have c1' := (h.below HB1.out).c1
 clear h hL HLT
 generalize (X.g : Int) = g at *
 go_enter Tryz.func184, Tryz.ntmps184
 go_wp2_with fail
 refine HM.out.mono ?_; rintro e w1 ⟨rfl, rfl⟩
 go_wp2_with (first | (at_lookup; refine fr_look rfl _ _ rfl rfl H.out.mla rfl ?_; rw [HL.out]))
 rw [← hW]
 clear hW
 go_region_with (first | (go_at_call 57; (with_reducible refine HNX1.out.mono ?_); rintro e w5 ⟨rfl, rfl⟩) | (go_at_call 199; (with_reducible refine (HLh.out _ H1.out).mono ?_); rintro e w3 ⟨rfl, hfr, hon⟩; have HG := Hq (GrStep.of (HB1.out.drew.mono H.out.base) (Keeps.below HB1.out.drew) (GrStep.list H1.out hfr hon)); clear hfr hon))
 all_goals
  go_wp2
  go_ret
  exact ⟨rfl, HG.out⟩
theorem grDrop_any (h : GrIs w B P pd lm fm pl um wm la v X) {k : Int} (hs : X.L k = true → X.F.st k = 2) :
  Calls Tryz.prog 184 #[.pointer (some ⟨P, 0, none⟩), .int .i64 k] w fun e w' => e = .returned (.int .i64 (X.dropE k)) ∧ GrStep w w' B P pd (X.drop k) := by
 unfold PG.drop PG.dropE
 by_cases hL : X.L k = true
 ·
  rw [if_pos hL, if_pos hL]
  exact grDrop_laid h hL (hs hL)
 ·
  rw [if_neg hL, if_neg hL]
  have hL' : X.L k = false := by simpa using hL
  by_cases h2 : X.F.st k = 2
  ·
   rw [if_pos h2, if_pos h2]
   refine grDrop_gen h hL' fun w1 h1 => ?_
   have hh := frLater_any h1.list (k := k) (g := (X.g : Int) + 1) (FL.st_two.1 h2).1 (by omega)
   rw [if_pos h2, if_pos h2] at hh
   exact hh
  ·
   rw [if_neg h2, if_neg h2]
   have e : X = { X with F := X.F } := rfl
   rw [e]
   by_cases hh : X.F.has k = true
   ·
    rw [if_pos hh]
    refine grDrop_gen h hL' fun w1 h1 => ?_
    have hx := frLater_any h1.list (k := k) (g := (X.g : Int) + 1) hh (by omega)
    rw [if_neg h2, if_neg h2] at hx
    exact hx
   ·
    rw [if_neg hh]
    exact grDrop_gen h hL' fun w1 h1 => frLater_arg h1.list (.inl (by simpa using hh))
end
end Go.Proofs.YtbbgdbnjmonbgaaGreatDoor

set_option linter.unusedVariables false
set_option maxRecDepth 100000
namespace Go.Proofs.YtbbgdbnjmonbgaaGreatDoor
open Go.RowKit
section
variable {P : Program} {w w' : World} {ops : Array Oper} {rest : List Oper} {o : Oper} {a : Act} {Q : Exit → Act → World → Prop} {b r : Nat} {f : Int → Option Value} {left : Int → Bool}
end
section
variable {w w' : World} {B P pd lm fm pl um wm la : Nat} {v : Value} {X : PG}
end
end Go.Proofs.YtbbgdbnjmonbgaaGreatDoor

set_option linter.unusedVariables false
set_option maxRecDepth 100000
namespace Go.Proofs.YtbbgdbnjmonbgaaGreatDoor
open Go.RowKit
theorem meta_root (w : World) (g r n d : Int) : (Instr.field 49 (.agg #[.int .i64 g, .int .i64 r, .int .i64 n, .int .i64 d]) 1).run Tryz.prog w = .ok (.int .i64 r) w := by kernel_rfl
end Go.Proofs.YtbbgdbnjmonbgaaGreatDoor

set_option linter.unusedVariables false
set_option linter.unusedSimpArgs false
set_option maxRecDepth 100000
namespace Go.Proofs.YtbbgdbnjmonbgaaGreatDoor
open Go.RowKit
theorem heap_drew (w : World) : w.drew.heap = w.heap := rfl
def TxBox (w : World) (s P : Nat) (nw : Value) (pm : Nat) (fl : Bool) : Prop := w.heap[s]? = some (.cells #[.pointer (some ⟨P, 0, none⟩), nw, .map (some pm), .bool fl] 55 (0, 0))
def WkBox (w : World) (k P : Nat) (r n d : Int) (bk : Value) (br : Bool) : Prop := w.heap[k]? = some (.cells #[.pointer (some ⟨P, 0, none⟩), .int .i64 r, .int .i64 n, .int .i64 d, bk, .bool br] 60 (0, 0))
def wkv (k : Nat) : Value := .pointer (some ⟨k, 0, none⟩)
def ofTx (P : Nat) : Nat → Obj → Bool
 | i, .cells c t f => t == 55 || t == 60 || t == 31 || ofGrP P i (.cells c t f)
 | i, o => ofGrP P i o
theorem ofGrP_ofTx {P : Nat} (i : Nat) (o : Obj) (h : ofGrP P i o = true) : ofTx P i o = true := by
 cases o with
 | cells c t f => simp only [ofTx, h, Bool.or_true]
 | map es c => exact h
 | _ => cases h
theorem isTy_ofTx {P : Nat} {t : TypeId} (ht : (t == 55 || t == 60 || t == 31) = true) (i : Nat) (o : Obj) (h : isTy t i o = true) : ofTx P i o = true := by
 cases o with
 | cells c t' f =>
  simp only [isTy, beq_iff_eq] at h
  subst h
  simp only [ofTx, ht, Bool.true_or]
 | _ => cases h
section
variable {w w' : World} {B P pd s k pm : Nat} {X : PG} {nw bk : Value} {fl br : Bool} {r n d : Int}
theorem TxBox.low (h : TxBox w s P nw pm fl) (hb : Below w.heap.size w w') : TxBox w' s P nw pm fl := by
 have hl := (aL h)
 unfold TxBox
 rw [hb.block _ hl]
 exact h
theorem WkBox.low (h : WkBox w k P r n d bk br) (hb : Below w.heap.size w w') : WkBox w' k P r n d bk br := by
 have hl := (aL h)
 unfold WkBox
 rw [hb.block _ hl]
 exact h
theorem TxBox.gr (h : TxBox w s P nw pm fl) (hk : Keeps ofGr w w') : TxBox w' s P nw pm fl := hk.stay h rfl
theorem WkBox.gr (h : WkBox w k P r n d bk br) (hk : Keeps ofGr w w') : WkBox w' k P r n d bk br := hk.stay h rfl
theorem TxBox.c0 (h : TxBox w s P nw pm fl) : w.cell? ⟨s, 0, none⟩ = some (.pointer (some ⟨P, 0, none⟩)) := (jC h 0).trans rfl
theorem TxBox.c1 (h : TxBox w s P nw pm fl) : w.cell? ⟨s, 1, none⟩ = some nw := (jC h 1).trans rfl
theorem TxBox.c2 (h : TxBox w s P nw pm fl) : w.cell? ⟨s, 2, none⟩ = some (.map (some pm)) := (jC h 2).trans rfl
theorem TxBox.c3 (h : TxBox w s P nw pm fl) : w.cell? ⟨s, 3, none⟩ = some (.bool fl) := (jC h 3).trans rfl
theorem WkBox.c0 (h : WkBox w k P r n d bk br) : w.cell? ⟨k, 0, none⟩ = some (.pointer (some ⟨P, 0, none⟩)) := (jC h 0).trans rfl
theorem WkBox.c1 (h : WkBox w k P r n d bk br) : w.cell? ⟨k, 1, none⟩ = some (.int .i64 r) := (jC h 1).trans rfl
theorem WkBox.c2 (h : WkBox w k P r n d bk br) : w.cell? ⟨k, 2, none⟩ = some (.int .i64 n) := (jC h 2).trans rfl
theorem WkBox.c3 (h : WkBox w k P r n d bk br) : w.cell? ⟨k, 3, none⟩ = some (.int .i64 d) := (jC h 3).trans rfl
theorem WkBox.c4 (h : WkBox w k P r n d bk br) : w.cell? ⟨k, 4, none⟩ = some bk := (jC h 4).trans rfl
theorem WkBox.c5 (h : WkBox w k P r n d bk br) : w.cell? ⟨k, 5, none⟩ = some (.bool br) := (jC h 5).trans rfl
theorem TxBox.set (h : TxBox w s P nw pm fl) (hg : GrAt w B P pd X) (hB : B ≤ s) {nw' : Value} {fl' : Bool} (hb : w'.heap[s]? = some (.cells #[.pointer (some ⟨P, 0, none⟩), nw', .map (some pm), .bool fl'] 55 (0, 0))) (hgr : w.grownBy w' (some s)) :
  TxBox w' s P nw' pm fl' ∧ GrAt w' B P pd X ∧ Below B w w' ∧ Keeps (isTy 55) w w' := by
 have hk : Keeps (isTy 55) w w' := Keeps.of_grown hgr h (by simp [isTy])
 refine ⟨hb, ?_, (Below.refl B w).grown hgr hg.base (fun k hk => by cases hk; exact hB), hk⟩
 obtain ⟨lm, fm, pl, um, wm, la, v, hg⟩ := hg
 exact ⟨lm, fm, pl, um, wm, la, v, ⟨hk.stay hg.blk rfl, hg.disk.keeps hk (fun _ _ _ => rfl) (fun _ _ _ => rfl) (fun _ _ _ => rfl) (fun _ _ => rfl) (fun _ _ => rfl), hg.list.keeps hk (fun _ => rfl) (fun _ _ => rfl) (fun _ _ => rfl), hg.mla.keeps hk (fun _ _ => rfl), pins_keeps hg.pins hk (fun _ _ _ => rfl), hg.bP, hg.bu, hg.bw, hg.ba, hg.nlm, hg.nfm, hg.nla, hg.g0, hg.mP⟩⟩
theorem WkBox.set (h : WkBox w k P r n d bk br) (hg : GrAt w B P pd X) (hB : B ≤ k) {r' n' d' : Int} {bk' : Value} {br' : Bool} (hb : w'.heap[k]? = some (.cells #[.pointer (some ⟨P, 0, none⟩), .int .i64 r', .int .i64 n', .int .i64 d', bk', .bool br'] 60 (0, 0))) (hgr : w.grownBy w' (some k)) :
  WkBox w' k P r' n' d' bk' br' ∧ GrAt w' B P pd X ∧ Below B w w' ∧ Keeps (isTy 60) w w' := by
 have hk : Keeps (isTy 60) w w' := Keeps.of_grown hgr h (by simp [isTy])
 refine ⟨hb, ?_, (Below.refl B w).grown hgr hg.base (fun k hk => by cases hk; exact hB), hk⟩
 obtain ⟨lm, fm, pl, um, wm, la, v, hg⟩ := hg
 exact ⟨lm, fm, pl, um, wm, la, v, ⟨hk.stay hg.blk rfl, hg.disk.keeps hk (fun _ _ _ => rfl) (fun _ _ _ => rfl) (fun _ _ _ => rfl) (fun _ _ => rfl) (fun _ _ => rfl), hg.list.keeps hk (fun _ => rfl) (fun _ _ => rfl) (fun _ _ => rfl), hg.mla.keeps hk (fun _ _ => rfl), pins_keeps hg.pins hk (fun _ _ _ => rfl), hg.bP, hg.bu, hg.bw, hg.ba, hg.nlm, hg.nfm, hg.nla, hg.g0, hg.mP⟩⟩
set_option maxHeartbeats 400000 in
theorem txBelow_yes (h : TxBox w s P nw pm fl) :
  Calls Tryz.prog 32 #[.pointer (some ⟨s, 0, none⟩)] w fun e w' => e = .returned (.pointer (some ⟨P, 0, none⟩)) ∧ w = w' := by
 have c0 := h.c0
 clear h
 go_enter Tryz.func32, Tryz.ntmps32
 go_wp2
 go_ret
 exact ⟨rfl, rfl⟩
set_option maxHeartbeats 400000 in
theorem txMade_yes (h : TxBox w s P nw pm fl) :
  Calls Tryz.prog 22 #[.pointer (some ⟨s, 0, none⟩)] w fun e w' => e = .returned (.bool true) ∧ w = w' := by
 have H := Hq (txBelow_yes h)
 clear h
 go_enter Tryz.func22, Tryz.ntmps22
 go_wp2_with fail
 refine H.out.mono ?_; rintro e w1 ⟨rfl, rfl⟩
 go_wp2
 go_ret
 exact ⟨rfl, rfl⟩
set_option maxHeartbeats 800000 in
theorem txOpenW_yes (h : TxBox w s P (wkv k) pm fl) (hw : WkBox w k P r n d bk false) :
  Calls Tryz.prog 23 #[.pointer (some ⟨s, 0, none⟩)] w fun e w' => e = .returned (.tuple #[.pointer (some ⟨k, 0, none⟩), .int .i64 0]) ∧ w = w' := by
 have H := Hq (txMade_yes h)
 have c1 : w.cell? ⟨s, 1, none⟩ = some (.pointer (some ⟨k, 0, none⟩)) := h.c1
 have c5 : w.cell? ⟨k, 5, none⟩ = some (.bool false) := hw.c5
 clear h hw
 go_enter Tryz.func23, Tryz.ntmps23
 go_wp2_with fail
 refine H.out.mono ?_; rintro e w1 ⟨rfl, rfl⟩
 go_wp2
 go_ret2
 exact ⟨rfl, rfl⟩
theorem txBegin_end {W : World} (h : TxBox W s P (.pointer none) pm false) (hg : GrAt W B P pd X) (hB : B ≤ s) {r n d : Int} {w' : World} (hw : w' = (W.setCell ⟨s, 1, none⟩ (.pointer (some ⟨W.heap.size, 0, none⟩))).alloc (.cells #[.pointer (some ⟨P, 0, none⟩), .int .i64 r, .int .i64 n, .int .i64 d, .slice none 0 0, .bool false] 60)) :
  TxBox w' s P (wkv W.heap.size) pm false ∧ WkBox w' W.heap.size P r n d (.slice none 0 0) false ∧ GrAt w' B P pd X ∧ Below B W w' ∧ Keeps (isTy 55) W w' := by
 subst hw
 obtain ⟨b2, g2⟩ := cell_set (i := 1) (v := wkv W.heap.size) h
 obtain ⟨q1, q2, q3, q4⟩ := h.set (nw' := wkv W.heap.size) (fl' := false) hg hB (by simpa using b2) g2
 have hsz : (W.setCell ⟨s, 1, none⟩ (wkv W.heap.size)).heap.size = W.heap.size := by simp
 have hw0 : wkv W.heap.size = .pointer (some ⟨W.heap.size, 0, none⟩) := rfl
 rw [← hw0]
 generalize W.setCell ⟨s, 1, none⟩ (wkv W.heap.size) = V at *
 have hb := sbox1 V (.cells #[.pointer (some ⟨P, 0, none⟩), .int .i64 r, .int .i64 n, .int .i64 d, .slice none 0 0, .bool false] 60)
 have hn : WkBox (V.alloc (.cells #[.pointer (some ⟨P, 0, none⟩), .int .i64 r, .int .i64 n, .int .i64 d, .slice none 0 0, .bool false] 60)) V.heap.size P r n d (.slice none 0 0) false := heap_alloc_new V _
 rw [hsz] at hn
 exact ⟨q1.low hb, hn, q2.below hb, q3.trans (hb.mono q2.base), q4.trans (Keeps.below hb)⟩
set_option maxHeartbeats 1600000 in
theorem txBegin_yes (h : TxBox w s P (.pointer none) pm false) (hg : GrAt w B P pd X) (hB : B ≤ s) :
  Calls Tryz.prog 7 #[.pointer (some ⟨s, 0, none⟩)] w fun e w' => e = .returned (.int .i64 0) ∧ ∃ k, TxBox w' s P (wkv k) pm false ∧ WkBox w' k P X.r X.n X.d (.slice none 0 0) false ∧ GrAt w' B P pd X ∧ Below B w w' ∧ Keeps (isTy 55) w w' ∧ w.heap.size ≤ k := by
 have H := Hq (txMade_yes h)
 have c0 := h.c0
 have c1 := h.c1
 have c3 := h.c3
 have HM : Hid (Calls Tryz.prog 20 #[.pointer (some ⟨P, 0, none⟩)] w fun e w' => e = .returned (.agg #[.int .i64 X.g, .int .i64 X.r, .int .i64 X.n, .int .i64 X.d]) ∧ Below w.heap.size w w') := Hq (by
  obtain ⟨lm, fm, pl, um, wm, la, v, hg⟩ := hg
  exact grMeta hg)
 have HH := Hq h
 have HG := Hq hg
 have HBs := Hq hB
 clear h hg hB
 go_enter Tryz.func7, Tryz.ntmps7
 go_wp2_with fail
 refine H.out.mono ?_; rintro e w1 ⟨rfl, rfl⟩
 go_wp2_with fail
 refine HM.out.mono ?_; rintro e w1 ⟨rfl, hb1⟩
 obtain ⟨W, hW⟩ : ∃ W, W = w1.alloc (.cells #[.int .i64 X.g, .int .i64 X.r, .int .i64 X.n, .int .i64 X.d] 49) := ⟨_, rfl⟩
 have hbW : Below w.heap.size w W := by rw [hW]; exact hb1.alloc hb1.size _
 have HX : W.heap[w1.heap.size]? = some (.cells #[.int .i64 X.g, .int .i64 X.r, .int .i64 X.n, .int .i64 X.d] 49 (0, 0)) := by rw [hW]; exact heap_alloc_new w1 _
 obtain ⟨mb, hmb⟩ : ∃ mb, mb = w1.heap.size := ⟨_, rfl⟩
 rw [← hmb] at HX
 have x1 : W.cell? ⟨mb, 1, none⟩ = some (.int .i64 X.r) := (jC HX 1).trans rfl
 have x2 : W.cell? ⟨mb, 2, none⟩ = some (.int .i64 X.n) := (jC HX 2).trans rfl
 have x3 : W.cell? ⟨mb, 3, none⟩ = some (.int .i64 X.d) := (jC HX 3).trans rfl
 have HBW := Hq hbW
 have HS := Hq (HH.out.low hbW)
 have HXM := Hq HX
 have HMB : mb < W.heap.size := (aL HX)
 clear hbW HX c0 c1 c3
 go_wp2_with fail
 rw [← hW, ← hmb]
 clear hW hmb hb1
 have c0 := HS.out.c0
 have c1 := HS.out.c1
 have f1 : W.frozen? ⟨s, 1, none⟩ = false := jU HS.out 1
 have hsl : s < W.heap.size := (aL HS.out)
 have HX : Hid (∀ w3, Below W.heap.size W w3 → (w3.cell? ⟨mb, 1, none⟩ = some (.int .i64 X.r) ∧ w3.cell? ⟨mb, 2, none⟩ = some (.int .i64 X.n) ∧ w3.cell? ⟨mb, 3, none⟩ = some (.int .i64 X.d) ∧ w3.cell? ⟨s, 0, none⟩ = some (.pointer (some ⟨P, 0, none⟩)))) := Hq fun w3 hb => ⟨(hb.cell (p := ⟨mb, 1, none⟩) HMB).trans x1, (hb.cell (p := ⟨mb, 2, none⟩) HMB).trans x2, (hb.cell (p := ⟨mb, 3, none⟩) HMB).trans x3, (hb.cell (p := ⟨s, 0, none⟩) hsl).trans c0⟩
 have HX2 : Hid (∀ o, ((W.setCell ⟨s, 1, none⟩ (.pointer (some ⟨W.heap.size, 0, none⟩))).alloc o).cell? ⟨mb, 1, none⟩ = some (.int .i64 X.r) ∧ ((W.setCell ⟨s, 1, none⟩ (.pointer (some ⟨W.heap.size, 0, none⟩))).alloc o).cell? ⟨mb, 2, none⟩ = some (.int .i64 X.n) ∧ ((W.setCell ⟨s, 1, none⟩ (.pointer (some ⟨W.heap.size, 0, none⟩))).alloc o).cell? ⟨mb, 3, none⟩ = some (.int .i64 X.d) ∧ ((W.setCell ⟨s, 1, none⟩ (.pointer (some ⟨W.heap.size, 0, none⟩))).alloc o).cell? ⟨s, 0, none⟩ = some (.pointer (some ⟨P, 0, none⟩))) := Hq fun o => by
  obtain ⟨b2, g2⟩ := cell_set (i := 1) (v := .pointer (some ⟨W.heap.size, 0, none⟩)) HS.out
  have hm := grown_at g2 HXM.out (obj_ne HXM.out HS.out (by intro e; simp only [Obj.cells.injEq] at e; exact absurd e.2.1 (by decide)))
  have hb := sbox1 (W.setCell ⟨s, 1, none⟩ (.pointer (some ⟨W.heap.size, 0, none⟩))) o
  have l1 := (aL hm)
  have l2 := (aL b2)
  exact ⟨(hb.cell (p := ⟨mb, 1, none⟩) l1).trans ((jC hm 1).trans rfl), (hb.cell (p := ⟨mb, 2, none⟩) l1).trans ((jC hm 2).trans rfl), (hb.cell (p := ⟨mb, 3, none⟩) l1).trans ((jC hm 3).trans rfl), (hb.cell (p := ⟨s, 0, none⟩) l2).trans ((jC b2 0).trans rfl)⟩
 have HX3 : Hid (∀ o, ((W.setCell ⟨s, 1, none⟩ (.pointer (some ⟨W.heap.size, 0, none⟩))).alloc o).drew.cell? ⟨mb, 1, none⟩ = some (.int .i64 X.r) ∧ ((W.setCell ⟨s, 1, none⟩ (.pointer (some ⟨W.heap.size, 0, none⟩))).alloc o).drew.cell? ⟨mb, 2, none⟩ = some (.int .i64 X.n) ∧ ((W.setCell ⟨s, 1, none⟩ (.pointer (some ⟨W.heap.size, 0, none⟩))).alloc o).drew.cell? ⟨mb, 3, none⟩ = some (.int .i64 X.d) ∧ ((W.setCell ⟨s, 1, none⟩ (.pointer (some ⟨W.heap.size, 0, none⟩))).alloc o).drew.cell? ⟨s, 0, none⟩ = some (.pointer (some ⟨P, 0, none⟩))) := Hq fun o => HX2.out o
 go_region_held3 (fun w' => w'.cell? ⟨mb, 1, none⟩ = some (.int .i64 X.r) ∧ w'.cell? ⟨mb, 2, none⟩ = some (.int .i64 X.n) ∧ w'.cell? ⟨mb, 3, none⟩ = some (.int .i64 X.d) ∧ w'.cell? ⟨s, 0, none⟩ = some (.pointer (some ⟨P, 0, none⟩)))
  (with_reducible first | exact HX.out _ (Below.refl _ _) | exact HX.out _ (Below.refl _ _).drew | exact HX.out _ (sbox1 _ _) | exact HX.out _ (sbox1 _ _).drew | exact HX2.out _ | exact HX3.out _ | fail)
  (first | fail)
 go_wp2
 go_ret
 obtain ⟨q1, q2, q3, q4, q5⟩ := txBegin_end HS.out (HG.out.below HBW.out) HBs.out (r := X.r) (n := X.n) (d := X.d) rfl
 exact ⟨rfl, W.heap.size, q1.low (Below.refl _ _).drew, q2.low (Below.refl _ _).drew, q3.below (Below.refl _ _).drew, ((HBW.out.mono HG.out.base).trans q4).drew, (Keeps.below HBW.out).trans (q5.trans (Keeps.below (Below.refl _ _).drew)), HBW.out.size⟩
set_option maxHeartbeats 1600000 in
theorem txCommit_yes {Y : PG} (h : TxBox w s P (wkv k) pm fl) {r n d : Nat} (hw : WkBox w k P r n d bk false) (hg : GrAt w B P pd X) (hB : B ≤ s)
  (HC : ∀ w1, Below B w w1 → GrAt w1 B P pd X → Calls Tryz.prog 26 #[.pointer (some ⟨P, 0, none⟩), .int .i64 r, .int .i64 n, .int .i64 d] w1 fun e w' => e = .returned (.int .i64 0) ∧ GrStep w1 w' B P pd Y) :
  Calls Tryz.prog 9 #[.pointer (some ⟨s, 0, none⟩)] w fun e w' => e = .returned (.int .i64 0) ∧ TxBox w' s P (.pointer none) pm fl ∧ GrAt w' B P pd Y ∧ Below B w w' ∧ Keeps (ofTx P) w w' := by
 have H := Hq (txOpenW_yes h hw)
 have f1 : w.frozen? ⟨s, 1, none⟩ = false := jU h 1
 have c1 := h.c1
 obtain ⟨W, hW⟩ : ∃ W, W = w.setCell ⟨s, 1, none⟩ (.pointer none) := ⟨_, rfl⟩
 obtain ⟨q1, q2, q3, q4⟩ : TxBox W s P (.pointer none) pm fl ∧ GrAt W B P pd X ∧ Below B w W ∧ Keeps (isTy 55) w W := by
  obtain ⟨b1, g1⟩ := cell_set (i := 1) (v := .pointer none) h
  subst hW
  exact h.set hg hB (by simpa using b1) g1
 have hwW : WkBox W k P r n d bk false := q4.stay hw rfl
 have x0 := q1.c0
 have x1 := hwW.c1
 have x2 := hwW.c2
 have x3 := hwW.c3
 have HQ := Hq q1
 have HG := Hq q2
 have HBW := Hq q3
 have HKW := Hq q4
 have HCM := Hq (HC _ q3.drew (q2.below (Below.refl _ _).drew))
 have HWK := Hq hwW
 clear h hw hg HC q1 q2 q3 q4 hwW
 go_enter Tryz.func9, Tryz.ntmps9
 go_wp2_with fail
 refine H.out.mono ?_; rintro e w1 ⟨rfl, rfl⟩
 go_wp2_with fail
 rw [← hW]
 clear hW c1 f1
 have HX : Hid (∀ w3, Keeps ofGr W w3 → w3.cell? ⟨s, 0, none⟩ = some (.pointer (some ⟨P, 0, none⟩)) ∧ w3.cell? ⟨k, 1, none⟩ = some (.int .i64 r) ∧ w3.cell? ⟨k, 2, none⟩ = some (.int .i64 n) ∧ w3.cell? ⟨k, 3, none⟩ = some (.int .i64 d)) := Hq fun w3 hk => ⟨(HQ.out.gr hk).c0, (HWK.out.gr hk).c1, (HWK.out.gr hk).c2, (HWK.out.gr hk).c3⟩
 have HXC : Hid (∀ w3, GrStep W.drew w3 B P pd Y → w3.cell? ⟨s, 0, none⟩ = some (.pointer (some ⟨P, 0, none⟩)) ∧ w3.cell? ⟨k, 1, none⟩ = some (.int .i64 r) ∧ w3.cell? ⟨k, 2, none⟩ = some (.int .i64 n) ∧ w3.cell? ⟨k, 3, none⟩ = some (.int .i64 d)) := Hq fun w3 hs => HX.out _ ((Keeps.below (Below.refl _ _).drew).trans hs.keeps)
 go_region_held3 (fun w' => w'.cell? ⟨s, 0, none⟩ = some (.pointer (some ⟨P, 0, none⟩)) ∧ w'.cell? ⟨k, 1, none⟩ = some (.int .i64 r) ∧ w'.cell? ⟨k, 2, none⟩ = some (.int .i64 n) ∧ w'.cell? ⟨k, 3, none⟩ = some (.int .i64 d))
  (with_reducible first | exact HXC.out _ HS.out | exact HX.out _ (Keeps.below (Below.refl _ _)) | exact HX.out _ (Keeps.below (Below.refl _ _).drew) | fail)
  (first | (go_at_call 26; (with_reducible refine HCM.out.mono ?_); rintro e w3 ⟨rfl, hs⟩; have HS := Hq hs; clear hs) | fail)
 go_wp2
 go_ret
 have hbd : Below W.heap.size W W.drew := (Below.refl _ _).drew
 exact ⟨rfl, (HQ.out.low hbd).gr HS.out.keeps, HS.out.at_, (HBW.out.trans ((hbd.mono HG.out.base).trans HS.out.below)), (HKW.out.mono (isTy_ofTx (by decide))).trans ((Keeps.below hbd).trans (HS.out.kp.mono ofGrP_ofTx))⟩
end
end Go.Proofs.YtbbgdbnjmonbgaaGreatDoor

set_option linter.unusedVariables false
set_option maxRecDepth 100000
namespace Go.Proofs.YtbbgdbnjmonbgaaGreatDoor
open Go.RowKit
structure VlS where
 l : List UInt8
 g : Int
 p : Int
structure NdS where
 leaf : Bool
 ks : List (List UInt8)
 vs : List VlS
 is : List Int
def VlS.zero : VlS := ⟨[], 0, 0⟩
def entS (k : List UInt8) (v : VlS) : Nat := if v.p = 0 then k.length + v.l.length + 2 else k.length + 6
def sizeL : List (List UInt8) → List VlS → Nat
 | [], _ => 0
 | k :: ks, [] => entS k .zero + sizeL ks []
 | k :: ks, v :: vs => entS k v + sizeL ks vs
def sizeB : List (List UInt8) → Nat
 | [] => 0
 | k :: ks => k.length + 3 + sizeB ks
def NdS.size (n : NdS) : Nat := if n.leaf then 1 + sizeL n.ks n.vs else 3 + sizeB n.ks
theorem sizeL_drop {ks : List (List UInt8)} {vs : List VlS} {j : Nat} {k : List UInt8} (h : ks[j]? = some k) :
  sizeL (ks.drop j) (vs.drop j) = entS k (vs[j]?.getD .zero) + sizeL (ks.drop (j + 1)) (vs.drop (j + 1)) := by
 rw [drop_get h]
 cases hv : vs[j]? with
 | none =>
  have hl : vs.length ≤ j := List.getElem?_eq_none_iff.1 hv
  rw [List.drop_eq_nil_of_le hl, (List.drop_eq_nil_of_le (Nat.le_succ_of_le hl) : vs.drop (j + 1) = [])]
  rfl
 | some v =>
  rw [drop_get hv]
  rfl
theorem sizeB_drop {ks : List (List UInt8)} {j : Nat} {k : List UInt8} (h : ks[j]? = some k) : sizeB (ks.drop j) = k.length + 3 + sizeB (ks.drop (j + 1)) := by
 rw [drop_get h]
 rfl
def lens {α : Type} (f : α → List UInt8) : List α → Nat
 | [] => 0
 | a :: l => (f a).length + lens f l
theorem lens_mem {α : Type} {f : α → List UInt8} : ∀ {l : List α} {a : α}, a ∈ l → (f a).length ≤ lens f l
 | b :: l, a, h => by
  rcases List.mem_cons.1 h with rfl | h
  ·
   exact Nat.le_add_right _ _
  ·
   exact Nat.le_trans (lens_mem h) (Nat.le_add_left _ _)
def NdS.count (n : NdS) : Nat := n.ks.length + n.vs.length + n.is.length + lens id n.ks + lens VlS.l n.vs
theorem sizeL_le : ∀ (ks : List (List UInt8)) (vs : List VlS), sizeL ks vs ≤ 6 * ks.length + lens id ks + lens VlS.l vs
 | [], vs => by simp [sizeL]
 | k :: ks, [] => by
  have := sizeL_le ks []
  simp only [sizeL, entS, VlS.zero, if_true, List.length_nil, List.length_cons, lens, id] at this ⊢
  omega
 | k :: ks, v :: vs => by
  have := sizeL_le ks vs
  simp only [sizeL, entS, List.length_cons, lens, id]
  split <;> omega
theorem sizeB_le : ∀ (ks : List (List UInt8)), sizeB ks ≤ 3 * ks.length + lens id ks
 | [] => by simp [sizeB]
 | k :: ks => by
  have := sizeB_le ks
  simp only [sizeB, List.length_cons, lens, id]
  omega
theorem NdS.size_le (n : NdS) : n.size ≤ 3 + 6 * n.count := by
 unfold NdS.size NdS.count
 have h1 := sizeL_le n.ks n.vs
 have h2 := sizeB_le n.ks
 split <;> omega
def Rise (ks : List (List UInt8)) : Prop := ∀ i k, ks[i]? = some k → k.length ≤ 72 ∧ ∀ k', 0 < i → ks[i - 1]? = some k' → Lib.compareBytes k' k < 0
def PageOk (i : Int) : Prop := 2 ≤ i ∧ i < 4096
def VlS.Right (v : VlS) : Prop := (v.p = 0 ∧ v.g = 0 ∧ v.l.length ≤ 64) ∨ (PageOk v.p ∧ 65 ≤ v.g ∧ v.g ≤ 4096 ∧ v.l = [])
def NdS.LeafRight (n : NdS) : Prop := n.vs.length = n.ks.length ∧ n.is = [] ∧ ∀ v ∈ n.vs, v.Right
def NdS.BranchRight (n : NdS) : Prop := n.is.length = n.ks.length + 1 ∧ n.vs = [] ∧ ∀ i ∈ n.is, PageOk i
structure NdS.Right (n : NdS) : Prop where
 many : n.ks.length ≤ 250
 rise : Rise n.ks
 leaf : n.leaf = true → n.LeafRight
 branch : n.leaf = false → n.BranchRight
 size : n.size ≤ 493
def two (n : Nat) : List UInt8 := [UInt8.ofNat n, UInt8.ofNat (n / 256)]
def txtB (l : List UInt8) : List UInt8 := UInt8.ofNat l.length :: l
def valB (v : VlS) : List UInt8 := if v.p = 0 then txtB v.l else 255 :: (two v.g.toNat ++ two v.p.toNat)
def entsL : List (List UInt8) → List VlS → List UInt8
 | k :: ks, v :: vs => txtB k ++ valB v ++ entsL ks vs
 | _, _ => []
def entsB : List (List UInt8) → List Int → List UInt8
 | k :: ks, i :: is => txtB k ++ two i.toNat ++ entsB ks is
 | _, _ => []
def NdS.put (n : NdS) : List UInt8 := UInt8.ofNat n.ks.length :: (if n.leaf then entsL n.ks n.vs else two (n.is.headD 0).toNat ++ entsB n.ks n.is.tail)
theorem entsL_drop {ks : List (List UInt8)} {vs : List VlS} {j : Nat} {k : List UInt8} {v : VlS} (h : ks[j]? = some k) (h' : vs[j]? = some v) :
  entsL (ks.drop j) (vs.drop j) = txtB k ++ valB v ++ entsL (ks.drop (j + 1)) (vs.drop (j + 1)) := by
 rw [drop_get h, drop_get h']
 rfl
theorem entsB_drop {ks : List (List UInt8)} {is : List Int} {j : Nat} {k : List UInt8} {i : Int} (h : ks[j]? = some k) (h' : is[j]? = some i) :
  entsB (ks.drop j) (is.drop j) = txtB k ++ two i.toNat ++ entsB (ks.drop (j + 1)) (is.drop (j + 1)) := by
 rw [drop_get h, drop_get h']
 rfl
theorem entsL_length : ∀ {ks : List (List UInt8)} {vs : List VlS}, vs.length = ks.length → (entsL ks vs).length = sizeL ks vs
 | [], [], _ => rfl
 | k :: ks, v :: vs, h => by
  have := entsL_length (ks := ks) (vs := vs) (by simpa using h)
  simp only [entsL, sizeL, List.length_append, this, txtB, valB, entS, List.length_cons]
  split
  all_goals
   simp [two]
   try omega
 | [], _ :: _, h => by simp at h
 | _ :: _, [], h => by simp at h
theorem entsB_length : ∀ {ks : List (List UInt8)} {is : List Int}, is.length = ks.length → (entsB ks is).length = sizeB ks
 | [], [], _ => rfl
 | k :: ks, v :: vs, h => by
  have := entsB_length (ks := ks) (is := vs) (by simpa using h)
  simp [entsB, sizeB, this, txtB, two]
  try omega
 | [], _ :: _, h => by simp at h
 | _ :: _, [], h => by simp at h
theorem NdS.Right.length {n : NdS} (h : n.Right) : n.put.length = n.size := by
 unfold NdS.put NdS.size
 cases hl : n.leaf
 ·
  obtain ⟨h1, _, _⟩ := h.branch hl
  rw [if_neg (by simp), if_neg (by simp), List.length_cons, List.length_append, entsB_length (by rw [List.length_tail]; omega)]
  simp only [two, List.length_cons, List.length_nil]
  omega
 ·
  obtain ⟨h1, _, _⟩ := h.leaf hl
  rw [if_pos rfl, if_pos rfl, List.length_cons, entsL_length h1]
  omega
end Go.Proofs.YtbbgdbnjmonbgaaGreatDoor

