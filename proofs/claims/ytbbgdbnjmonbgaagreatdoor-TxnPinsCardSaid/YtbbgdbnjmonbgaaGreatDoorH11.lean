/-
  pager.
  pager.Open on disks that have.
  pager.
  pager.
  pager.
  pager.
-/
import Derived.Test.YtbbgdbnjmonbgaaGreatDoorH00
import Derived.Test.YtbbgdbnjmonbgaaGreatDoorH10
import Derived.BigQuiet
import Derived.Deep.RegionWith
set_option linter.unusedVariables false
set_option maxRecDepth 100000
namespace Go.Proofs.YtbbgdbnjmonbgaaGreatDoor
open Go.RowKit
section
variable {w w' : World} {B P pd lm fm pl um wm la : Nat} {v : Value} {X : PG}
theorem GrIs.cell (h : GrIs w B P pd lm fm pl um wm la v X) (i : Nat) : w.cell? ⟨P, i, none⟩ = (grCells pd pl la v X)[i]? := jC h.blk i
theorem GrIs.c0 (h : GrIs w B P pd lm fm pl um wm la v X) : w.cell? ⟨P, 0, none⟩ = some (.pointer (some ⟨pd, 0, none⟩)) := h.cell 0
theorem GrIs.c1 (h : GrIs w B P pd lm fm pl um wm la v X) : w.cell? ⟨P, 1, none⟩ = some (.pointer (some ⟨pl, 0, none⟩)) := h.cell 1
theorem GrIs.c2 (h : GrIs w B P pd lm fm pl um wm la v X) : w.cell? ⟨P, 2, none⟩ = some (.int .i64 X.g) := h.cell 2
theorem GrIs.c3 (h : GrIs w B P pd lm fm pl um wm la v X) : w.cell? ⟨P, 3, none⟩ = some (.int .i64 X.r) := h.cell 3
theorem GrIs.c4 (h : GrIs w B P pd lm fm pl um wm la v X) : w.cell? ⟨P, 4, none⟩ = some (.int .i64 X.n) := h.cell 4
theorem GrIs.c5 (h : GrIs w B P pd lm fm pl um wm la v X) : w.cell? ⟨P, 5, none⟩ = some (.int .i64 X.d) := h.cell 5
theorem GrIs.c6 (h : GrIs w B P pd lm fm pl um wm la v X) : w.cell? ⟨P, 6, none⟩ = some (.map (some la)) := h.cell 6
theorem GrIs.c7 (h : GrIs w B P pd lm fm pl um wm la v X) : w.cell? ⟨P, 7, none⟩ = some v := h.cell 7
theorem GrIs.c8 (h : GrIs w B P pd lm fm pl um wm la v X) : w.cell? ⟨P, 8, none⟩ = some (.bool X.kept) := h.cell 8
theorem GrIs.c9 (h : GrIs w B P pd lm fm pl um wm la v X) : w.cell? ⟨P, 9, none⟩ = some (.bool X.laid) := h.cell 9
theorem GrIs.c10 (h : GrIs w B P pd lm fm pl um wm la v X) : w.cell? ⟨P, 10, none⟩ = some (.bool X.failed) := h.cell 10
theorem GrIs.soft (h : GrIs w B P pd lm fm pl um wm la v X) (i : Nat) : w.frozen? ⟨P, i, none⟩ = false := jU h.blk i
theorem GrIs.made (h : GrIs w B P pd lm fm pl um wm la v X) : Calls Tryz.prog 50 #[.pointer (some ⟨P, 0, none⟩)] w fun e w' => e = .returned (.bool true) ∧ w = w' := grMade_yes h.c0
set_option maxHeartbeats 400000 in
theorem grNext (h : GrIs w B P pd lm fm pl um wm la v X) :
  Calls Tryz.prog 57 #[.pointer (some ⟨P, 0, none⟩)] w fun e w' => e = .returned (.int .i64 ((X.g : Int) + 1)) ∧ w = w' := by
 have c2 := h.c2
 have hg := h.g0
 clear h
 generalize X.g = g at *
 go_enter Tryz.func57, Tryz.ntmps57
 go_wp2
 go_ret
 exact ⟨rfl, rfl⟩
set_option maxHeartbeats 800000 in
theorem grMeta (h : GrIs w B P pd lm fm pl um wm la v X) :
  Calls Tryz.prog 20 #[.pointer (some ⟨P, 0, none⟩)] w fun e w' => e = .returned (.agg #[.int .i64 X.g, .int .i64 X.r, .int .i64 X.n, .int .i64 X.d]) ∧ Below w.heap.size w w' := by
 have HM := Hq fun w' hb => (h.below (w' := w') hb).made
 have hb1 := sbox1 w (.cells #[.int .i64 0, .int .i64 0, .int .i64 0, .int .i64 0] 49)
 have h1 := h.below hb1
 obtain ⟨W, hW⟩ : ∃ W, W = w.alloc (.cells #[.int .i64 0, .int .i64 0, .int .i64 0, .int .i64 0] 49) := ⟨_, rfl⟩
 have hbx : W.heap[w.heap.size]? = some (.cells #[.int .i64 0, .int .i64 0, .int .i64 0, .int .i64 0] 49 (0, 0)) := by rw [hW]; exact heap_alloc_new w _
 rw [← hW] at h1 hb1
 have c2 := h1.c2
 have c3 := h1.c3
 have c4 := h1.c4
 have c5 := h1.c5
 have HB := Hq hb1
 have HBX := Hq hbx
 have f0 : ∀ i, W.frozen? ⟨w.heap.size, i, none⟩ = false := fun i => jU hbx i
 have b0 : W.cell? ⟨w.heap.size, 0, none⟩ = some (.int .i64 0) := (jC hbx 0).trans rfl
 have b1 : W.cell? ⟨w.heap.size, 1, none⟩ = some (.int .i64 0) := (jC hbx 1).trans rfl
 have b2 : W.cell? ⟨w.heap.size, 2, none⟩ = some (.int .i64 0) := (jC hbx 2).trans rfl
 have b3 : W.cell? ⟨w.heap.size, 3, none⟩ = some (.int .i64 0) := (jC hbx 3).trans rfl
 clear h h1 hb1 hbx
 generalize X.g = g at *
 generalize X.r = r at *
 generalize X.n = n at *
 generalize X.d = d at *
 go_enter Tryz.func20, Tryz.ntmps20
 go_wp2_with fail
 rw [← hW]
 clear hW
 refine (HM.out _ HB.out).mono ?_; rintro e w1 ⟨rfl, rfl⟩
 go_wp2
 obtain ⟨x0, g0⟩ := cell_set (i := 0) (v := .int .i64 (g : Int)) HBX.out
 obtain ⟨x1, g1⟩ := cell_set (i := 1) (v := .int .i64 (r : Int)) x0
 obtain ⟨x2, g2⟩ := cell_set (i := 2) (v := .int .i64 (n : Int)) x1
 obtain ⟨x3, g3⟩ := cell_set (i := 3) (v := .int .i64 (d : Int)) x2
 have d0 := (jC x3 0)
 have d1 := (jC x3 1)
 have d2 := (jC x3 2)
 have d3 := (jC x3 3)
 simp at d0 d1 d2 d3
 exact bodyPost_ret (v := .agg #[.int .i64 (g : Int), .int .i64 (r : Int), .int .i64 (n : Int), .int .i64 (d : Int)]) (by simp [results, Tryz.results20, go_sem, d0, d1, d2, d3]) rfl ⟨rfl, (((HB.out.setCell (Nat.le_refl _) _).setCell (Nat.le_refl _) _).setCell (Nat.le_refl _) _).setCell (Nat.le_refl _) _⟩
set_option maxHeartbeats 400000 in
theorem grFree (h : GrIs w B P pd lm fm pl um wm la v X) :
  Calls Tryz.prog 35 #[.pointer (some ⟨P, 0, none⟩)] w fun e w' => e = .returned (.int .i64 X.F.nFree) ∧ Below w.heap.size w w' := by
 have HM := Hq h.made
 have c1 := h.c1
 have HC := Hq (frFree_any h.list)
 clear h
 go_enter Tryz.func35, Tryz.ntmps35
 go_wp2_with fail
 refine HM.out.mono ?_; rintro e w1 ⟨rfl, rfl⟩
 go_wp2_with fail
 refine HC.out.mono ?_; rintro e w1 ⟨rfl, hb⟩
 have HB := Hq hb
 clear hb
 go_wp2
 go_ret
 exact ⟨rfl, HB.out⟩
set_option maxHeartbeats 400000 in
theorem grWaiting (h : GrIs w B P pd lm fm pl um wm la v X) :
  Calls Tryz.prog 33 #[.pointer (some ⟨P, 0, none⟩)] w fun e w' => e = .returned (.int .i64 X.F.nWaits) ∧ w = w' := by
 have HM := Hq h.made
 have c1 := h.c1
 have HC := Hq (frWaiting_any h.list)
 clear h
 go_enter Tryz.func33, Tryz.ntmps33
 go_wp2_with fail
 refine HM.out.mono ?_; rintro e w1 ⟨rfl, rfl⟩
 go_wp2_with fail
 refine HC.out.mono ?_; rintro e w1 ⟨rfl, rfl⟩
 go_wp2
 go_ret
 exact ⟨rfl, rfl⟩
set_option maxHeartbeats 400000 in
theorem grUsed (h : GrIs w B P pd lm fm pl um wm la v X) :
  Calls Tryz.prog 34 #[.pointer (some ⟨P, 0, none⟩)] w fun e w' => e = .returned (.int .i64 X.F.nUsed) ∧ w = w' := by
 have HM := Hq h.made
 have c1 := h.c1
 have HC := Hq (frUsed_any h.list)
 clear h
 go_enter Tryz.func34, Tryz.ntmps34
 go_wp2_with fail
 refine HM.out.mono ?_; rintro e w1 ⟨rfl, rfl⟩
 go_wp2_with fail
 refine HC.out.mono ?_; rintro e w1 ⟨rfl, rfl⟩
 go_wp2
 go_ret
 exact ⟨rfl, rfl⟩
end
end Go.Proofs.YtbbgdbnjmonbgaaGreatDoor

set_option linter.unusedVariables false
set_option maxRecDepth 100000
namespace Go.Proofs.YtbbgdbnjmonbgaaGreatDoor
open Go.RowKit
theorem pad_same {l : List UInt8} (h : l.length = 512) : pad l = l := by
 unfold pad zeros
 rw [h]
 simp
theorem SD.flush_read (S : SD) (k : Int) : S.flush.read k = S.read k := read_flush _ _ _
theorem SD.write_read (S : SD) (k : Int) (b : List UInt8) (j : Int) : (S.write k b).read j = if j = k then pad b else S.read j := by
 unfold SD.read SD.write
 rw [found_snoc]
 unfold putAt
 split <;> rfl
theorem mPage_pad (g r n d : Nat) : pad (mPage g r n d) = mPage g r n d := pad_same (mPage_length g r n d)
theorem newest_is {a b : List UInt8} {g r n d : Nat} (h : MRight g r n d) (hz : (g % 2 = 0 ∧ a = mPage g r n d ∧ mG b 1 < g) ∨ (g % 2 = 1 ∧ b = mPage g r n d ∧ mG a 0 < g)) : newG a b = g ∧ newR a b = r ∧ newN a b = n ∧ newD a b = d := by
 unfold newG newR newN newD
 rcases hz with ⟨h0, rfl, hlt⟩ | ⟨h0, rfl, hlt⟩
 ·
  obtain ⟨_, e1, e2, e3, e4⟩ := page_is h (no := 0) (by omega)
  rw [e1, e2, e3, e4]
  have : ¬ g < mG b 1 := by omega
  simp [this]
 ·
  obtain ⟨_, e1, e2, e3, e4⟩ := page_is h (no := 1) (by omega)
  rw [e1, e2, e3, e4]
  simp [hlt]
noncomputable def openS (S : SD) (g : Nat) : SD := open Classical in if mE (S.read (((g + 1) % 2 : Nat) : Int)) (((g + 1) % 2 : Nat) : Int) = 0 then S else (S.write (((g + 1) % 2 : Nat) : Int) []).flush
theorem openS_size (S : SD) (g : Nat) : (openS S g).size = S.size := by
 unfold openS
 split <;> rfl
theorem grOpen_meta {w : World} (hT : Tab w) {B pd lm fm : Nat} {S : SD} (h : DiskAt w B pd lm fm S) (hB : B ≤ w.heap.size) (hl : S.left = -1) (ho : S.ops ≤ 999999990) (h2 : 2 ≤ S.size) {g r n d : Nat} (hm : MRight g r n d) (hr : (r : Int) < S.size)
  (hp : S.read ((g % 2 : Nat) : Int) = mPage g r n d) (hlt : mG (S.read (((g + 1) % 2 : Nat) : Int)) (((g + 1) % 2 : Nat) : Int) < g) :
  Calls Tryz.prog 18 #[.pointer (some ⟨pd, 0, none⟩)] w (OpenedPost w B pd (PG.new (openS S g) g r n d)) := by
 have hb := hm.b
 have hOn := openOn hT h
 obtain ⟨e1, e2, e3, e4⟩ := newest_is (a := S.read 0) (b := read1 S) hm (by
  unfold read1
  rw [if_pos (by omega)]
  rcases Nat.mod_two_eq_zero_or_one g with h0 | h0
  ·
   refine .inl ⟨h0, ?_, ?_⟩
   ·
    rw [← hp, h0]; rfl
   ·
    have : (g + 1) % 2 = 1 := by omega
    rw [this] at hlt
    exact hlt
  ·
   refine .inr ⟨h0, ?_, ?_⟩
   ·
    rw [← hp, h0]; rfl
   ·
    have : (g + 1) % 2 = 0 := by omega
    rw [this] at hlt
    exact hlt)
 rw [e1, e2, e3, e4] at hOn
 refine grOpen_yes (S := S) (S' := openS S g) (lm := lm) (fm := fm) hOn hB (by omega) (by omega) hr (openS_size S g) h2 fun w1 hb1 => ?_
 have h1 := h.below hb1
 have hT1 := hT.below hT.lt hb1
 have hno : (((g + 1) % 2 : Nat) : Int) = 0 ∨ (((g + 1) % 2 : Nat) : Int) = 1 := by omega
 unfold openS
 by_cases hE : mE (S.read (((g + 1) % 2 : Nat) : Int)) (((g + 1) % 2 : Nat) : Int) = 0
 ·
  rw [if_pos hE]
  exact (grMend_there (mendOn hT1 h1 hno h2) hE).mono fun e w' ⟨he, hb'⟩ => ⟨he, h1.below hb', hb'.mono h1.base, Keeps.below hb'⟩
 ·
  rw [if_neg hE]
  exact grMend_mend hT1 h1 hl ho hno h2 hE
theorem fmt_read {S : SD} : (fmtS S 2).flush.read 0 = mPage 2 0 1 1 ∧ (fmtS S 2).flush.read 1 = mPage 1 0 1 1 := by
 rw [SD.flush_read, SD.flush_read]
 show ((S.write 1 (mPage 1 0 1 1)).write 0 (mPage 2 0 1 1)).read 0 = _ ∧ ((S.write 1 (mPage 1 0 1 1)).write 0 (mPage 2 0 1 1)).read 1 = _
 refine ⟨?_, ?_⟩
 ·
  rw [SD.write_read, if_pos rfl]
  exact mPage_pad _ _ _ _
 ·
  rw [SD.write_read, if_neg (by decide), SD.write_read, if_pos rfl]
  exact mPage_pad _ _ _ _
theorem fmt_flush_left {S : SD} (h : S.left = -1) : (fmtS S 2).flush.left = -1 := SD.tick_left (fmtS_left h 2)
theorem grOpen_fmt {w : World} (hT : Tab w) {B pd lm fm : Nat} {S : SD} (h : DiskAt w B pd lm fm (fmtS S 2).flush) (hB : B ≤ w.heap.size) (hl : S.left = -1) (ho : S.ops ≤ 999999980) (h4 : 4 ≤ S.size) :
  Calls Tryz.prog 18 #[.pointer (some ⟨pd, 0, none⟩)] w (OpenedPost w B pd (PG.new (fmtS S 2).flush 2 0 1 1)) := by
 obtain ⟨r0, r1⟩ := fmt_read (S := S)
 have hm1 : MRight (1 : Nat) (0 : Nat) (1 : Nat) (1 : Nat) := fmt_right (by omega) (by omega)
 have hm2 : MRight (2 : Nat) (0 : Nat) (1 : Nat) (1 : Nat) := fmt_right (by omega) (by omega)
 obtain ⟨q1, q2, _⟩ := page_is hm1 (no := 1) rfl
 have hz : (fmtS S 2).flush.size = S.size := fmtS_size (S := S) 2
 have h1 := grOpen_meta hT h hB (fmt_flush_left hl) (by show (fmtS S 2).ops + 1 ≤ _; have := (fmtS_ops (S := S) 2).1; omega) (by omega) hm2 (by rw [hz]; show (0 : Int) < _; omega) r0 (by
  show mG ((fmtS S 2).flush.read 1) 1 < 2
  rw [r1, q2]
  decide)
 have e : openS (fmtS S 2).flush 2 = (fmtS S 2).flush := by
  have hx : mE ((fmtS S 2).flush.read (((2 + 1) % 2 : Nat) : Int)) (((2 + 1) % 2 : Nat) : Int) = 0 := by
   show mE ((fmtS S 2).flush.read 1) 1 = 0
   rw [r1]
   exact q1
  exact if_pos hx
 rwa [e] at h1
end Go.Proofs.YtbbgdbnjmonbgaaGreatDoor

set_option linter.unusedVariables false
set_option maxRecDepth 100000
namespace Go.Proofs.YtbbgdbnjmonbgaaGreatDoor
open Go.RowKit
def GBytes (w : World) (B : Nat) (q : Option Addr) (l : List UInt8) : Prop := ∀ w', Below B w w' → Keeps ofGr w w' → Bs w' q l
theorem ofGr_u8 (i : Nat) (c : Array Value) (f : Nat × Nat) : ofGr i (.cells c 5 f) = false := by
 show ((5 : TypeId) == 78 || (5 : TypeId) == 140 || (5 : TypeId) == 92 || (5 : TypeId) == 123) = false
 decide
theorem setOf_add (L : Int → Bool) (k : Int) : (fun x => if x = k then some (Value.agg #[]) else setOf L x) = setOf (fun x => if x = k then true else L x) := by
 funext x
 simp only [setOf]
 split <;> simp
theorem setOf_del (L : Int → Bool) (k : Int) : (fun x => if x = k then none else setOf L x) = setOf (fun x => if x = k then false else L x) := by
 funext x
 simp only [setOf]
 split <;> simp
section
variable {w w' : World} {B P pd lm fm pl um wm la : Nat} {v : Value} {X : PG}
set_option maxHeartbeats 1600000 in
theorem grPut_gen (hT : Tab w) (h : GrIs w B P pd lm fm pl um wm la v X) (kind : UInt8) {k : Nat} (hk : k < 4096) (hg : X.g + 1 ≤ 1152921504606846976) {q : Option Addr} {n c : Nat} {l : List UInt8} (hl : Bs w q l) (hn : n = l.length) (hnc : n ≤ c) (hc : c ≤ 9223372036854775807) (h493 : n ≤ 493) {z : Int} {R : World → Prop}
  (HW : ∀ w1 g, Below w.heap.size w w1 → Sec w1 g (pageB kind k (X.g + 1) l) → Calls Tryz.prog 73 #[.pointer (some ⟨pd, 0, none⟩), .int .i64 (k : Int), .slice (some ⟨g, 0, none⟩) 512 512] w1 fun e w' => e = .returned (.int .i64 z) ∧ R w') :
  Calls Tryz.prog 206 #[.pointer (some ⟨P, 0, none⟩), .int .u8 (kind.toNat : Int), .int .i64 (k : Int), .slice q n c] w fun e w' => e = .returned (.int .i64 z) ∧ R w' := by
 have HNX := Hq (grNext h)
 have HS := seal_ok hT kind (no := k) (gen := X.g + 1) hk hg hl hn hnc hc h493
 rw [show ((X.g + 1 : Nat) : Int) = (X.g : Int) + 1 by omega] at HS
 replace HS := Hq HS
 have HC0 : Hid (∀ w', Below w.heap.size w w' → w'.cell? ⟨P, 0, none⟩ = some (.pointer (some ⟨pd, 0, none⟩))) := Hq fun w' hb => (h.below hb).c0
 have HWh := Hq HW
 clear h HW hT hl hk hn hnc hc
 generalize pageB kind k (X.g + 1) l = pg at *
 generalize (X.g : Int) = g at *
 generalize (k : Int) = k' at *
 generalize (kind.toNat : Int) = kk at *
 go_enter Tryz.func206, Tryz.ntmps206
 go_wp2_with fail
 refine HNX.out.mono ?_; rintro e w1 ⟨rfl, rfl⟩
 go_wp2_with fail
 refine HS.out.mono ?_; rintro e w1 ⟨rfl, hs, hb⟩
 have HB := Hq hb
 have HSEC := Hq (show Sec w1 _ pg from hs)
 have c0 := HC0.out _ hb
 clear hs hb
 go_wp2_with fail
 refine (HWh.out _ _ HB.out HSEC.out).mono ?_; rintro e w2 ⟨rfl, hr⟩
 have HR := Hq hr
 clear hr
 go_wp2
 go_ret
 exact ⟨rfl, HR.out⟩
def PG.lay (X : PG) (k : Int) (pg : List UInt8) : PG := { X with S := X.S.write k pg, F := X.F.take k, L := fun x => if x = k then true else X.L x, laid := true }
theorem FL.alloc_some {F : FL} {k : Int} (h : F.least = some k) : F.alloc = F.take k ∧ F.allocV = .tuple #[.int .i64 k, .int .i64 0] := by
 unfold FL.alloc FL.allocV
 rw [h]
 exact ⟨rfl, rfl⟩
theorem FL.free_used {F : FL} {k : Int} (h : F.st k = 1) : F.used k = false ∧ F.waits k = none ∧ F.lo ≤ k ∧ k < F.hi := by
 unfold FL.st at h
 cases hh : F.has k <;> cases hu : F.used k <;> cases hw : F.waits k <;> simp [hh, hu, hw] at h ⊢
 exact FL.has_iff.1 hh
set_option maxHeartbeats 3200000 in
theorem grLay_ok (hT : Tab w) (hB : 1 < B) (h : GrIs w B P pd lm fm pl um wm la v X) (hf : X.failed = false) {k : Nat} (hF : X.F.least = some (k : Int)) (h0 : X.S.left ≠ 0) (h1 : -1 ≤ X.S.left) (h2 : X.S.left ≤ 9223372036854775807) (ho : X.S.ops ≤ 999999999) (hz : X.F.hi = X.S.size) (hg : X.g + 1 ≤ 1152921504606846976) (kind : UInt8) {q : Option Addr} {n c : Nat} {l : List UInt8} (hl : GBytes w B q l) (hn : n = l.length) (hnc : n ≤ c) (hc : c ≤ 9223372036854775807) (h493 : n ≤ 493) :
  Calls Tryz.prog 198 #[.pointer (some ⟨P, 0, none⟩), .int .u8 (kind.toNat : Int), .slice q n c] w fun e w' => e = .returned (.tuple #[.int .i64 (k : Int), .int .i64 0]) ∧ GrStep w w' B P pd (X.lay k (pageB kind k (X.g + 1) l)) := by
 have HM := Hq h.made
 have c10 := h.c10
 have c1 := h.c1
 rw [hf] at c10
 obtain ⟨a1, a2⟩ := FL.alloc_some hF
 have hst := (FL.least_some hF).1
 obtain ⟨u1, u2, u3, u4⟩ := FL.free_used hst
 have h96 := h.list.ok.h2
 have hlo := h.list.ok.h0
 have HA := frAlloc_any h.list
 rw [a1, a2] at HA
 replace HA := Hq HA
 have hpl : (pageB kind k (X.g + 1) l).length = 512 := pageB_length (by omega)
 have HP : Hid (∀ w1, GrIs w1 B P pd lm fm pl um wm la v { X with F := X.F.take k } → Below B w w1 → Keeps ofGr w w1 → Calls Tryz.prog 206 #[.pointer (some ⟨P, 0, none⟩), .int .u8 (kind.toNat : Int), .int .i64 (k : Int), .slice q n c] w1 fun e w2 => e = .returned (.int .i64 0) ∧ DiskStep w1 w2 B pd lm fm (X.S.write k (pageB kind k (X.g + 1) l))) := Hq fun w1 hw1 hb hkk =>
  grPut_gen (k := k) (hT.below hB hb) hw1 kind (by omega) hg (hl w1 hb hkk) hn hnc hc h493 fun w2 g hb2 hs =>
   (write_any (k := (k : Int)) (hw1.disk.below hb2) h0 h1 h2 ho (by omega) (by show (k : Int) < X.S.size; omega) 512 (Bytes.sec hs) hpl.symm (Nat.le_of_eq hpl)).mono fun e w3 ⟨he, hs3⟩ => ⟨he, DiskStep.of (hb2.mono hw1.base) (Keeps.below hb2) hs3⟩
 have H := Hq h
 have d1 : decide ((493 : Int) < (n : Int)) = false := decide_eq_false (by omega)
 clear h a1 a2 hF hT hst u1 u2 u3 u4 h96 hlo hl hn hnc hc hpl h1 h2
 generalize pageB kind k (X.g + 1) l = pg at *
 generalize (k : Int) = kk at *
 go_enter Tryz.func198, Tryz.ntmps198
 go_wp2_with fail
 refine HM.out.mono ?_; rintro e w1 ⟨rfl, rfl⟩
 go_wp2_with fail
 refine HA.out.mono ?_; rintro e w1 ⟨rfl, hfr, hon⟩
 obtain ⟨g1, g2, g3⟩ := H.out.onList hfr hon
 have G1 := Hq g1
 have G2 := Hq g2
 have G3 := Hq (g3.mono (isMaps_ofGrP H.out.mUW))
 clear hfr hon g1 g2 g3
 go_wp2_with fail
 refine (HP.out _ G1.out G2.out (G3.out.mono ofGrP_ofGr)).mono ?_; rintro e w2 ⟨rfl, hs2⟩
 have G4 := Hq (G1.out.onDisk hs2)
 have G5 := Hq (G2.out.trans hs2.below)
 have G6 := Hq (G3.out.trans (hs2.keeps.mono (ofDisk_ofGrP H.out.mP.1 H.out.mP.2.1)))
 have c6 := (G1.out.onDisk hs2).c6
 clear hs2
 go_wp2_with (at_mapUpdate; refine st_store rfl _ _ _ _ 3 114 rfl Tryz.underlying87 Tryz.underlying3 rfl G4.out.mla rfl rfl ?_; intro w3 hm hg3; obtain ⟨g7, g8, g9⟩ := G4.out.onLaid (L := fun x => if x = kk then true else X.L x) ((setOf_add X.L kk) ▸ hm) hg3; have G7 := Hq g7; have G8 := Hq (G5.out.trans g8); have G9 := Hq (G6.out.trans (g9.mono (isMaps_ofGrP H.out.mLa))); have c9 := g7.c9; have u9 := g7.soft 9; clear hm hg3 g7 g8 g9)
 go_ret2
 obtain ⟨b1, b2⟩ := cell_set (i := 9) (v := .bool true) G7.out.blk
 exact ⟨rfl, GrStep.of G8.out G9.out (GrStep.own (Y := X.lay kk pg) G7.out (by simpa [grCells, PG.lay] using b1) b2 G7.out.pins rfl rfl rfl G7.out.g0)⟩
end
end Go.Proofs.YtbbgdbnjmonbgaaGreatDoor

set_option linter.unusedVariables false
set_option maxRecDepth 100000
namespace Go.Proofs.YtbbgdbnjmonbgaaGreatDoor
open Go.RowKit Go.MapKept
open Go.ChangeMaps (setBlock heap_setBlock_same heap_setBlock_other)
section
variable {P : Program} {w : World} {ops : Array Oper} {rest : List Oper} {o : Oper} {a : Act} {Q : Exit → Act → World → Prop} {b : Nat} {f : Int → Option Value} {t kt et : TypeId}
theorem MapSt.clear (h : MapSt w b f) (ht : P.underlying t = some (.map kt et)) (ty : TypeId) :
  ∃ w', (Builtin.clear_ #[t] ty #[.map (some b)]).run P w = .ok (.tuple #[]) w' ∧ MapSt w' b (fun _ => none) ∧ w.grownBy w' (some b) := by
 obtain ⟨es, c, hb, _⟩ := h.st
 refine ⟨setBlock w b (.map #[] c), ?_, ⟨⟨#[], c, heap_setBlock_same hb _, by simp, by simp, by simp⟩, #[], c, heap_setBlock_same hb _, by simp, by simp⟩, setBlock_grown hb⟩
 have hg := run_getObj_map w b es c hb (P := P)
 simp [Builtin.clear_, run_underlying ht, hg, run_setObj_map _ hb, Result.andThen, setBlock]
theorem st_clear (hg : o.guard = none) (m : Operand) (t kt et : TypeId) (hop : o.op = Op.call { callee := Callee.builtin Builtin.clear, args := #[m], argTypes := #[t] }) (ht : P.underlying t = some (.map kt et))
  (hm : a.eval m = .map (some b)) (h : MapSt w b f)
  (hK : ∀ w', MapSt w' b (fun _ => none) → w.grownBy w' (some b) → wpList P ops Q rest (a.put o.dst (.tuple #[])) w') : wpList P ops Q (o :: rest) a w := by
 refine wpList_plain hg fun K' hK' => ?_
 obtain ⟨w1, hrun, h1, h2⟩ := h.clear ht o.type
 unfold Oper.wp
 simp [execOp, hop, resolve, invoke, builtin, hm, hrun, Result.andThen]
 exact hK' _ _ (hK _ h1 h2)
end
theorem setOf_none : setOf (fun _ => false) = fun _ => none := by funext k; simp [setOf]
theorem pcells_get {ps : List (Int × Int)} {i : Nat} {x : Int × Int} (h : ps[i]? = some x) : (pcells ps)[i * 2]? = some (.int .i64 x.1) ∧ (pcells ps)[i * 2 + 1]? = some (.int .i64 x.2) := by
 induction ps generalizing i with
 | nil => simp at h
 | cons y ms ih =>
  cases i with
  | zero =>
   simp at h
   subst h
   exact ⟨rfl, rfl⟩
  | succ i =>
   have h' := ih (by simpa using h)
   have e : pcells (y :: ms) = [.int .i64 y.1, .int .i64 y.2] ++ pcells ms := rfl
   rw [e]
   have e1 : (i + 1) * 2 = 2 + i * 2 := by omega
   rw [e1, List.getElem?_append_right (by simp), List.getElem?_append_right (by simp; omega)]
   have e2 : 2 + i * 2 - [Value.int IntKind.i64 y.1, Value.int IntKind.i64 y.2].length = i * 2 := by simp
   have e3 : 2 + i * 2 + 1 - [Value.int IntKind.i64 y.1, Value.int IntKind.i64 y.2].length = i * 2 + 1 := by simp; omega
   rw [e2, e3]
   exact h'
theorem pins_at {w : World} {B : Nat} {v : Value} {ps : List (Int × Int)} (h : w.ownsRow B 123 2 v ps.length (pcells ps)) :
  (v = .slice none 0 0 ∧ ps = []) ∨ ∃ g cap, v = .slice (some ⟨g, 0, none⟩) ps.length cap ∧ B ≤ g ∧ g < w.heap.size ∧ ps.length ≤ cap ∧ cap ≤ 9223372036854775807 ∧
   (∀ i x, ps[i]? = some x → w.cell? ⟨g, i * 2, none⟩ = some (.int .i64 x.1) ∧ w.cell? ⟨g, i * 2 + 1, none⟩ = some (.int .i64 x.2)) ∧ ∀ j, w.frozen? ⟨g, j, none⟩ = false := by
 rcases h.2 with ⟨rfl, h0⟩ | ⟨g, cap, cur, rfl, hb, hg, hnc, hcm, hcs, htake⟩
 ·
  exact .inl ⟨rfl, List.eq_nil_of_length_eq_zero h0⟩
 ·
  refine .inr ⟨g, cap, rfl, hb, (aL hg), hnc, by unfold maxLen at hcm; omega, fun i x hx => ?_, fun j => jU hg j⟩
  obtain ⟨h1, h2⟩ := pcells_get hx
  have a1 := h.cells (g := g) rfl (i * 2) _ h1
  have a2 := h.cells (g := g) rfl (i * 2 + 1) _ h2
  rw [Addr.add_lit, Nat.zero_add] at a1 a2
  exact ⟨a1, a2⟩
def PG.low (X : PG) : Int := match X.pins with | [] => X.g | x :: _ => x.1
def PG.settle (X : PG) : PG := { X with F := X.F.leave fun g => decide (g ≤ X.low) }
section
variable {w w' : World} {B P pd lm fm pl um wm la : Nat} {v : Value} {X : PG}
set_option maxHeartbeats 1600000 in
theorem grSettle (h : GrIs w B P pd lm fm pl um wm la v X) :
  Calls Tryz.prog 60 #[.pointer (some ⟨P, 0, none⟩)] w fun e w' => e = .returned (.tuple #[]) ∧ GrStep w w' B P pd X.settle := by
 have c1 := h.c1
 have c2 := h.c2
 have c7 := h.c7
 have HS := frSettle_any h.list X.low
 have H := Hq h
 rcases pins_at h.pins with ⟨hv, hp⟩ | ⟨g, cap, hv, hgB, hgl, hnc, hcap, hcell, _⟩
 ·
  have e : X.low = X.g := by unfold PG.low; rw [hp]
  have HF : Hid (X.settle = { X with F := X.F.leave fun g => decide (g ≤ (X.g : Int)) }) := Hq (by unfold PG.settle; rw [e])
  rw [e] at HS
  replace HS := Hq HS
  rw [hv] at c7
  clear h hp e hv
  go_enter Tryz.func60, Tryz.ntmps60
  go_wp2_with fail
  refine HS.out.mono ?_; rintro e w1 ⟨rfl, hfr, hon⟩
  have HG := Hq (GrStep.list H.out hfr hon)
  clear hfr hon
  go_wp2
  go_end0
  exact ⟨rfl, by rw [HF.out]; exact HG.out⟩
 ·
  cases hp : X.pins with
  | nil =>
   have e : X.low = X.g := by unfold PG.low; rw [hp]
   have HF : Hid (X.settle = { X with F := X.F.leave fun g => decide (g ≤ (X.g : Int)) }) := Hq (by unfold PG.settle; rw [e])
   rw [e] at HS
   replace HS := Hq HS
   rw [hv, hp] at c7
   simp only [List.length_nil] at c7
   clear h hp e hv hcell hnc
   go_enter Tryz.func60, Tryz.ntmps60
   go_wp2_with fail
   refine HS.out.mono ?_; rintro e w1 ⟨rfl, hfr, hon⟩
   have HG := Hq (GrStep.list H.out hfr hon)
   clear hfr hon
   go_wp2
   go_end0
   exact ⟨rfl, by rw [HF.out]; exact HG.out⟩
  | cons x ps =>
   have e : X.low = x.1 := by unfold PG.low; rw [hp]
   have HF : Hid (X.settle = { X with F := X.F.leave fun g => decide (g ≤ x.1) }) := Hq (by unfold PG.settle; rw [e])
   rw [e] at HS
   replace HS := Hq HS
   obtain ⟨x0, _⟩ := hcell 0 x (by rw [hp]; rfl)
   rw [hv] at c7
   obtain ⟨m, hm⟩ : ∃ m, m = X.pins.length := ⟨_, rfl⟩
   have hm1 : 0 < m := by rw [hm, hp]; simp
   rw [← hm] at c7 hnc
   have hm63 : m ≤ 9223372036854775807 := by omega
   have hd : decide ((0 : Int) < (m : Int)) = true := decide_eq_true (by omega)
   clear h hp e hv hcell hm
   simp only [Nat.zero_mul] at x0
   generalize x.1 = x1 at *
   go_enter Tryz.func60, Tryz.ntmps60
   go_wp2_with fail
   refine HS.out.mono ?_; rintro e w1 ⟨rfl, hfr, hon⟩
   have HG := Hq (GrStep.list H.out hfr hon)
   clear hfr hon
   go_wp2
   go_end0
   exact ⟨rfl, by rw [HF.out]; exact HG.out⟩
end
end Go.Proofs.YtbbgdbnjmonbgaaGreatDoor

set_option linter.unusedVariables false
set_option maxRecDepth 100000
namespace Go.Proofs.YtbbgdbnjmonbgaaGreatDoor
open Go.RowKit
section
variable {w w' : World} {B P pd lm fm pl um wm la : Nat} {v : Value} {X : PG}
structure Follows (X : PG) (r n d : Nat) : Prop where
 root : r = 0 ∨ (r ≠ 0 ∧ X.F.st r = 2)
 right : MRight ((X.g + 1 : Nat) : Int) r n d
 n : X.n ≤ n
 d : X.d ≤ d
set_option maxHeartbeats 3200000 in
theorem grFollows (hT : Tab w) (h : GrIs w B P pd lm fm pl um wm la v X) {r n d : Nat} (hf : Follows X r n d) :
  Calls Tryz.prog 58 #[.pointer (some ⟨P, 0, none⟩), .agg #[.int .i64 ((X.g : Int) + 1), .int .i64 r, .int .i64 n, .int .i64 d]] w fun e w' => e = .returned (.bool true) ∧ Below w.heap.size w w' := by
 obtain ⟨W, hW⟩ : ∃ W, W = w.alloc (.cells #[.int .i64 ((X.g : Int) + 1), .int .i64 r, .int .i64 n, .int .i64 d] 49) := ⟨_, rfl⟩
 have hb : Below w.heap.size w W := by rw [hW]; exact sbox1 w _
 have hx : W.heap[w.heap.size]? = some (.cells #[.int .i64 ((X.g : Int) + 1), .int .i64 r, .int .i64 n, .int .i64 d] 49 (0, 0)) := by rw [hW]; exact heap_alloc_new w _
 have HB := Hq hb
 have h1 := h.below hb
 have c1 := h1.c1
 have HST := Hq fun k => frState_any (h.below (belowN hb k)).list r
 have HX : Hid (∀ w', Below W.heap.size W w' → w'.cell? ⟨w.heap.size, 0, none⟩ = some (.int .i64 ((X.g : Int) + 1)) ∧ w'.cell? ⟨w.heap.size, 1, none⟩ = some (.int .i64 r) ∧ w'.cell? ⟨w.heap.size, 2, none⟩ = some (.int .i64 n) ∧ w'.cell? ⟨w.heap.size, 3, none⟩ = some (.int .i64 d)) := Hq fun w' hb' => by
  have hx' : w'.heap[w.heap.size]? = _ := (hb'.block _ (aL hx)).trans hx
  exact ⟨(jC hx' 0).trans rfl, (jC hx' 1).trans rfl, (jC hx' 2).trans rfl, (jC hx' 3).trans rfl⟩
 have HP4 : Hid (∀ w', Below W.heap.size W w' → w'.cell? ⟨P, 4, none⟩ = some (.int .i64 X.n) ∧ w'.cell? ⟨P, 5, none⟩ = some (.int .i64 X.d)) := Hq fun w' hb' => ⟨(h1.below hb').c4, (h1.below hb').c5⟩
 have HS : Hid (∀ w1, Below W.heap.size W w1 → Calls Tryz.prog 72 #[.agg #[.int .i64 ((X.g : Int) + 1), .int .i64 r, .int .i64 n, .int .i64 d]] w1 (MSealPost w1 (mPage (X.g + 1) r n d) ((X.g + 1) % 2))) := Hq fun w1 hb1 => by
  have hh := mseal_ok (hT.below hT.lt (hb.trans (hb1.mono hb.size))) hf.right
  rw [show ((X.g + 1 : Nat) : Int) = (X.g : Int) + 1 by omega] at hh
  exact hh
 have dn : decide ((X.n : Int) ≤ (n : Int)) = true := decide_eq_true (by have := hf.n; omega)
 have dd : decide ((X.d : Int) ≤ (d : Int)) = true := decide_eq_true (by have := hf.d; omega)
 obtain ⟨x0, x1, x2, x3⟩ := HX.out W (Below.refl _ _)
 rcases hf.root with h0 | ⟨hr0', h2⟩
 ·
  have hr0 : ((r : Int) != 0) = false := by rw [h0]; rfl
  clear h h1 hT hf hb hx HST
  generalize mPage (X.g + 1) r n d = pg at *
  generalize (X.g + 1) % 2 = no at *
  generalize (X.g : Int) = g at *
  generalize (X.n : Int) = xn at *
  generalize (X.d : Int) = xd at *
  generalize (n : Int) = n' at *
  generalize (d : Int) = d' at *
  generalize (r : Int) = r' at *
  go_enter Tryz.func58, Tryz.ntmps58
  go_wp2_with fail
  rw [← hW]
  clear hW
  go_quiet (fail)
  have HBQ : Hid (Below W.heap.size W (W.drewN nq)) := Hq (belowN (Below.refl _ _) nq)
  clear c1 x0 x1 x2 x3
  have c1 := HX.out _ HBQ.out
  obtain ⟨x0, x1, x2, x3⟩ := c1
  go_wp2_with fail
  refine (HS.out _ HBQ.out).mono ?_; rintro e w2 ⟨v2, rfl, _, hb2⟩
  have hbw := HBQ.out.trans (hb2.mono HBQ.out.size)
  have HBW := Hq (HB.out.trans (hbw.mono HB.out.size))
  obtain ⟨y0, y1, y2, y3⟩ := HX.out _ hbw
  obtain ⟨y4, y5⟩ := HP4.out _ hbw
  clear hb2 hbw
  go_wp2_with fail
  go_quiet (fail)
  go_wp2
  go_ret
  exact ⟨rfl, belowN HBW.out _⟩
 ·
  have hr0 : ((r : Int) != 0) = true := by
   rw [bne_iff_ne]
   omega
  have HST1 : Hid (Calls Tryz.prog 91 #[.pointer (some ⟨pl, 0, none⟩), .int .i64 r] W.drew fun e w' => e = .returned (.int .i64 2) ∧ Below W.heap.size W w') := Hq ((frState_any (h.below hb.drew).list r).mono fun e w' ⟨he, hb'⟩ => ⟨by rw [he, h2], (Below.drew (Below.refl W.heap.size W)).trans hb'⟩)
  clear h h1 hT hf hb hx HST h2
  generalize mPage (X.g + 1) r n d = pg at *
  generalize (X.g + 1) % 2 = no at *
  generalize (X.g : Int) = g at *
  generalize (X.n : Int) = xn at *
  generalize (X.d : Int) = xd at *
  generalize (n : Int) = n' at *
  generalize (d : Int) = d' at *
  generalize (r : Int) = r' at *
  go_enter Tryz.func58, Tryz.ntmps58
  go_wp2_with fail
  rw [← hW]
  clear hW
  go_region_with (first | (go_at_call 91; (with_reducible refine HST1.out.mono ?_); rintro e w5 ⟨rfl, hb5⟩; have HBQ := Hq hb5; clear hb5; obtain ⟨z0, z1, z2, z3⟩ := HX.out _ HBQ.out))
  all_goals
   go_wp2_with fail
   refine (HS.out _ HBQ.out).mono ?_; rintro e w2 ⟨v2, rfl, _, hb2⟩
   have hbw := HBQ.out.trans (hb2.mono HBQ.out.size)
   have HBW := Hq (HB.out.trans (hbw.mono HB.out.size))
   obtain ⟨y0, y1, y2, y3⟩ := HX.out _ hbw
   obtain ⟨y4, y5⟩ := HP4.out _ hbw
   clear hb2 hbw
   go_wp2_with fail
   go_quiet (fail)
   go_wp2
   go_ret
   exact ⟨rfl, belowN HBW.out _⟩
end
end Go.Proofs.YtbbgdbnjmonbgaaGreatDoor

set_option linter.unusedVariables false
set_option maxRecDepth 100000
namespace Go.Proofs.YtbbgdbnjmonbgaaGreatDoor
open Go.RowKit
structure Fit (S : SD) (n : Int) : Prop where
 l : -1 ≤ S.left
 u : S.left ≤ 9223372036854775807
 o : S.ops ≤ n
theorem Fit.tick {S : SD} {n : Int} (h : Fit S n) : Fit S.tick (n + 1) := by
 obtain ⟨h1, h2, h3⟩ := h
 refine ⟨?_, ?_, by show S.ops + 1 ≤ _; omega⟩
 ·
  show -1 ≤ (if 0 < S.left then S.left - 1 else S.left)
  split <;> omega
 ·
  show (if 0 < S.left then S.left - 1 else S.left) ≤ _
  split <;> omega
theorem Fit.flush {S : SD} {n : Int} (h : Fit S n) : Fit S.flush (n + 1) := ⟨h.tick.l, h.tick.u, h.tick.o⟩
theorem Fit.write {S : SD} {n : Int} (h : Fit S n) (k : Int) (b : List UInt8) : Fit (S.write k b) (n + 1) := ⟨h.tick.l, h.tick.u, h.tick.o⟩
section
variable {w w' : World} {B P pd lm fm pl um wm la : Nat} {v : Value} {X : PG}
set_option maxHeartbeats 3200000 in
theorem grFinish_ok (hT : Tab w) (hB : 1 < B) (h : GrIs w B P pd lm fm pl um wm la v X) (hF : Fit X.S 999999990) (hz : 2 ≤ X.S.size) {r n d : Nat} (hm : MRight ((X.g + 1 : Nat) : Int) r n d) (l0 : X.S.left ≠ 0) (l1 : X.S.flush.left ≠ 0) (l2 : (X.S.flush.write (((X.g + 1) % 2 : Nat) : Int) (mPage (X.g + 1) r n d)).left ≠ 0) :
  Calls Tryz.prog 59 #[.pointer (some ⟨P, 0, none⟩), .agg #[.int .i64 ((X.g : Int) + 1), .int .i64 r, .int .i64 n, .int .i64 d]] w fun e w' => e = .returned (.int .i64 0) ∧ DiskStep w w' B pd lm fm (X.S.flush.write (((X.g + 1) % 2 : Nat) : Int) (mPage (X.g + 1) r n d)).flush := by
 obtain ⟨W, hW⟩ : ∃ W, W = w.alloc (.cells #[.int .i64 ((X.g : Int) + 1), .int .i64 r, .int .i64 n, .int .i64 d] 49) := ⟨_, rfl⟩
 have hb : Below w.heap.size w W := by rw [hW]; exact sbox1 w _
 have hx : W.heap[w.heap.size]? = some (.cells #[.int .i64 ((X.g : Int) + 1), .int .i64 r, .int .i64 n, .int .i64 d] 49 (0, 0)) := by rw [hW]; exact heap_alloc_new w _
 have HB := Hq hb
 have hBw := h.base
 have h1 := h.below hb
 have c0 := h1.c0
 have c0' : (w.alloc (.cells #[.int .i64 ((X.g : Int) + 1), .int .i64 r, .int .i64 n, .int .i64 d] 49)).cell? ⟨P, 0, none⟩ = some (.pointer (some ⟨pd, 0, none⟩)) := by rw [← hW]; exact c0
 have HF1 := Hq (flush_any h1.disk l0 hF.l hF.u (by have := hF.o; omega))
 have HX : Hid (∀ w1 S1, DiskStep W w1 B pd lm fm S1 → (w1.cell? ⟨w.heap.size, 0, none⟩ = some (.int .i64 ((X.g : Int) + 1)) ∧ w1.cell? ⟨w.heap.size, 1, none⟩ = some (.int .i64 r) ∧ w1.cell? ⟨w.heap.size, 2, none⟩ = some (.int .i64 n) ∧ w1.cell? ⟨w.heap.size, 3, none⟩ = some (.int .i64 d)) ∧ w1.cell? ⟨P, 0, none⟩ = some (.pointer (some ⟨pd, 0, none⟩))) := Hq fun w1 S1 hs => by
  have hx' := hs.keeps.stay hx rfl
  exact ⟨⟨(jC hx' 0).trans rfl, (jC hx' 1).trans rfl, (jC hx' 2).trans rfl, (jC hx' 3).trans rfl⟩, (h1.onDisk hs).c0⟩
 have HW1 : Hid (∀ w1, DiskStep W w1 B pd lm fm X.S.flush → Calls Tryz.prog 37 #[.pointer (some ⟨pd, 0, none⟩), .agg #[.int .i64 ((X.g : Int) + 1), .int .i64 r, .int .i64 n, .int .i64 d]] w1.drew fun e w2 => e = .returned (.int .i64 0) ∧ DiskStep W w2 B pd lm fm (X.S.flush.write (((X.g + 1) % 2 : Nat) : Int) (mPage (X.g + 1) r n d))) := Hq fun w1 hs => by
  have hd : Below w1.heap.size w1 w1.drew := (Below.refl _ _).drew
  have hh := grWrite_ok ((hT.below hT.lt hb).below hB (hs.below.trans (hd.mono hs.disk.base))) (hs.disk.below hd) l1 hF.flush.l hF.flush.u (by have := hF.flush.o; omega) hz hm
  rw [show ((X.g + 1 : Nat) : Int) = (X.g : Int) + 1 by omega] at hh
  exact hh.mono fun e w2 ⟨he, hs2⟩ => ⟨he, DiskStep.of (hs.below.trans (hd.mono hs.disk.base)) (hs.keeps.trans (Keeps.below hd)) hs2⟩
 have HF2 : Hid (∀ w1, DiskStep W w1 B pd lm fm (X.S.flush.write (((X.g + 1) % 2 : Nat) : Int) (mPage (X.g + 1) r n d)) → Calls Tryz.prog 38 #[.pointer (some ⟨pd, 0, none⟩)] w1 fun e w2 => e = .returned (.int .i64 0) ∧ DiskStep W w2 B pd lm fm (X.S.flush.write (((X.g + 1) % 2 : Nat) : Int) (mPage (X.g + 1) r n d)).flush) := Hq fun w1 hs =>
  (flush_any hs.disk l2 (hF.flush.write _ _).l (hF.flush.write _ _).u (by have := (hF.flush.write (((X.g + 1) % 2 : Nat) : Int) (mPage (X.g + 1) r n d)).o; omega)).mono fun e w2 ⟨he, hs2⟩ => ⟨he, DiskStep.of hs.below hs.keeps hs2⟩
 clear h h1 hT hF hm hb hx hz l0 l1 l2
 generalize X.S.flush.write (((X.g + 1) % 2 : Nat) : Int) (mPage (X.g + 1) r n d) = S2 at *
 generalize X.S.flush = S1 at *
 generalize (X.g : Int) = g at *
 generalize (r : Int) = r' at *
 generalize (n : Int) = n' at *
 generalize (d : Int) = d' at *
 go_enter Tryz.func59, Tryz.ntmps59
 go_wp2_with fail
 rw [← hW]
 clear hW c0'
 refine HF1.out.mono ?_; rintro e w1 ⟨rfl, hs1⟩
 have HS1 := Hq hs1
 obtain ⟨⟨x0, x1, x2, x3⟩, y0⟩ := HX.out _ _ hs1
 clear hs1 c0
 go_wp2_with fail
 go_region_with (first | (go_at_call 37; (with_reducible refine (HW1.out _ HS1.out).mono ?_); rintro e w2 ⟨rfl, hs2⟩; have HS2 := Hq hs2; have z0 := (HX.out _ _ hs2).2; clear hs2))
 all_goals
  go_wp2_with fail
  refine (HF2.out _ HS2.out).mono ?_; rintro e w3 ⟨rfl, hs3⟩
  have HS3 := Hq hs3
  clear hs3
  go_wp2
  go_ret
  exact ⟨rfl, DiskStep.of (HB.out.mono hBw) (Keeps.below HB.out) HS3.out⟩
end
end Go.Proofs.YtbbgdbnjmonbgaaGreatDoor

