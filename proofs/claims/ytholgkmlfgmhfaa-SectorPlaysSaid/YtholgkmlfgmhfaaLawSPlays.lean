/-
  SectorPlays: a disk under any calls has the document's sectors, and so has the one that is found behind a crash.
-/
import Derived.Test.YtholgkmlfgmhfaaSPlay
import Derived.LoopTactic
import Derived.Deep.LoopGhost
import Derived.Deep.CutBlock
set_option linter.unusedVariables false
set_option maxRecDepth 100000
namespace Go.Proofs.Ytholgkmlfgmhfaa
open Go.RowKit

/-- Later: the disks, and the act's box. -/
structure PlB (w wr : World) (p p' : Nat) (S : SD) (i bw : Nat) (cs : Array Value) : Prop where
  i : PlI w wr p p' S i
  box : wr.heap[bw]? = some (.cells cs 33 (0, 0))
theorem PlB.on {w wr w' : World} {p p' : Nat} {S : SD} {i bw : Nat} {cs : Array Value} (h : PlB w wr p p' S i bw cs) (hb : Below wr.heap.size wr w') : PlB w w' p p' S i bw cs := ⟨h.i.on hb, by rw [hb.block _ (Array.getElem?_eq_some_iff.1 h.box).1]; exact h.box⟩

set_option maxHeartbeats 800000 in
theorem law_plays_no {w : World} {n : Int} (hn : n < 1 ∨ 4096 < n) (v : Value) :
    Calls Try.prog 3 #[.int .i64 n, v] w fun e w' => e = .returned (.bool true) ∧ Below w.heap.size w w' := by
  have H1 := Lib.hid (new_no (w := w) hn)
  have H2 := Lib.hid fun w => rnew_no (w := w) hn
  clear hn
  go_enter Try.func3, Try.ntmps3
  go_wp2_with fail
  refine H1.out.mono ?_; rintro e w1 ⟨rfl, hb1⟩
  have HB1 := Lib.hid hb1
  clear hb1
  go_wp2_with fail
  refine (H2.out _).mono ?_; rintro e w2 ⟨rfl, hb2⟩
  have HB2 := Lib.hid (HB1.out.trans (hb2.mono HB1.out.size))
  clear hb2
  go_wp2
  go_ret
  exact ⟨rfl, HB2.out⟩

set_option maxHeartbeats 25600000 in
theorem law_plays_yes {w : World} {N : Nat} (n1 : 1 ≤ N) (n2 : N ≤ 4096) {q : Option Addr} {m c : Nat} {l : List Ac} (h : AcsOk w q m c l) :
    Calls Try.prog 3 #[.int .i64 (N : Int), .slice q m c] w fun e w' => e = .returned (.bool true) ∧ Below w.heap.size w w' := by
  have H := Lib.hid h
  have hm63 : m ≤ 9223372036854775807 := Nat.le_trans h.h1 h.h2
  have H1 := Lib.hid (new_yes (w := w) (n := (N : Int)) (by omega) (by omega))
  have H2 := Lib.hid fun w => rnew_yes (w := w) n1 n2
  clear h n1 n2
  go_enter Try.func3, Try.ntmps3
  go_wp2_with fail
  refine H1.out.mono ?_; rintro e w1 ⟨p, rfl, hd1, hb1, _⟩
  have HD1 := Lib.hid hd1
  have HB1 := Lib.hid hb1
  clear hd1 hb1 H1
  go_wp2_with fail
  refine (H2.out _).mono ?_; rintro e w2 ⟨p', rfl, hr2, hb2, _⟩
  have HI : Hid (PlI w w2 p p' (SD.new N) 0) := Lib.hid ⟨HD1.out.below hb2, hr2.le HB1.out.size, HB1.out.trans (hb2.mono HB1.out.size), by show (-1 : Int) ≤ -1; decide, by show (-1 : Int) ≤ 9223372036854775807; decide, by show (0 : Int) ≤ _; omega⟩
  clear hr2 hb2 H2 HD1 HB1
  go_wp2
  go_loopg [5, 7, 9] 100 (fun g x y u wr => ∃ (i : Nat) (p p' : Nat) (S : SD), x = .pointer (some ⟨p, 0, none⟩) ∧ y = .pointer (some ⟨p', 0, none⟩) ∧ u = .int .i64 i ∧ i ≤ m ∧ i ≤ 100 ∧ g = 100 - i ∧ PlI w wr p p' S i)
  case atStart => exact ⟨0, p, p', _, rfl, rfl, rfl, by omega, by omega, rfl, HI.out⟩
  case round =>
    obtain ⟨i, p, p', S, rfl, rfl, rfl, him, hi1, rfl, hI⟩ := hrel
    have HI2 := Lib.hid hI
    clear HI hI
    by_cases hlt : i < m ∧ i < 100
    · obtain ⟨hlt1, hlt2⟩ := hlt
      have HLT : LtN i m := ⟨hlt1⟩
      have HLT2 : LtN i 100 := ⟨hlt2⟩
      obtain ⟨a, ha⟩ : ∃ a, l[i]? = some a := ⟨_, List.getElem?_eq_getElem (by have := H.out.hn; omega)⟩
      obtain ⟨ab, ao, rfl, hac⟩ := H.out.hl (by intro e; rw [e] at ha; simp at ha)
      have hao := H.out.ok a (List.mem_of_getElem? ha)
      obtain ⟨kd, kk, ⟨bq, bc, bl⟩, kq, kc, keep⟩ := a
      obtain ⟨bn, hbn⟩ : ∃ n, n = bl.length := ⟨_, rfl⟩
      obtain ⟨kn, hkn⟩ : ∃ n, n = keep.length := ⟨_, rfl⟩
      have hcc : ∀ j v, ([.int .i64 kd, .int .i64 kk, .slice bq bn bc, .slice kq kn kc] : List Value)[j]? = some v → wr.cell? ⟨ab, ao + i * 4 + j, none⟩ = some v := fun j v hj => by
        have h := hac i _ ha j v (by rw [hbn, hkn] at hj; exact hj)
        rw [HI2.out.below.cell (World.block_lt_of_cell? _ _ h)]
        exact h
      have hc0 : wr.cell? ⟨ab, ao + i * 4, none⟩ = some (.int .i64 kd) := hcc 0 _ rfl
      have hc1 := hcc 1 _ rfl
      have hc2 := hcc 2 _ rfl
      have hc3 := hcc 3 _ rfl
      have HKK : Hid (-9223372036854775808 ≤ kk ∧ kk ≤ 9223372036854775807) := Lib.hid ⟨hao.k1, hao.k2⟩
      have HBB : Hid (Bs w bq bl) := Lib.hid hao.b.bs
      have HBQ : Hid (bq = none → bc = 0) := Lib.hid hao.b0
      have HBC : Hid (bl.length ≤ bc ∧ bc ≤ 9223372036854775807) := Lib.hid ⟨hao.b.h1, hao.b.h2⟩
      have HKP : Hid (Ks w kq keep) := Lib.hid hao.keep.hl
      have HKC : Hid (keep.length ≤ kc ∧ kc ≤ 9223372036854775807) := Lib.hid ⟨hao.keep.h1, hao.keep.h2⟩
      have HBN := Lib.hid hbn
      have HKN := Lib.hid hkn
      have i0 : (0 : Int) ≤ (i : Int) := by omega
      have i1 : (i : Int) < (m : Int) := by omega
      have i2 : (i : Int) < 100 := by omega
      have HB0 : Hid (PlB w (wr.alloc (.cells #[.int .i64 kd, .int .i64 kk, .slice bq bn bc, .slice kq kn kc] 33)) p p' S i wr.heap.size #[.int .i64 kd, .int .i64 kk, .slice bq bn bc, .slice kq kn kc]) := Lib.hid ⟨HI2.out.on (sbox1 _ _), heap_alloc_new wr _⟩
      have HBS : Hid (∀ u, PlB w (wr.alloc (.cells #[.int .i64 kd, .int .i64 kk, u, .slice kq kn kc] 33)) p p' S i wr.heap.size #[.int .i64 kd, .int .i64 kk, u, .slice kq kn kc]) := Lib.hid fun u => ⟨HI2.out.on (sbox1 _ _), heap_alloc_new wr _⟩
      have hBW : Hid (w.heap.size ≤ wr.heap.size) := Lib.hid HI2.out.below.size
      clear ha hac hao hbn hkn hcc HI2
      by_cases h6 : bn ≤ 600
      · skip
        have h6' : decide ((600 : Int) < (bn : Int)) = false := decide_eq_false (by omega)
        have HB6 : Hid (Bs w bq bl) := HBB
        have HN6 : Hid (bn = bl.length) := HBN
        have HQ6 : Hid (bq = none → bc = 0) := HBQ
        have HPB := HB0
        obtain ⟨bw, hbw⟩ : ∃ x, x = wr.heap.size := ⟨_, rfl⟩
        obtain ⟨w3, hw3⟩ : ∃ x, x = (wr.alloc (.cells #[.int .i64 kd, .int .i64 kk, .slice bq bn bc, .slice kq kn kc] 33)) := ⟨_, rfl⟩
        rw [← hw3, ← hbw] at HPB
        clear HBS HB0
        go_upto_block 2 with fail
        rw [← hw3, ← hbw]
        clear hw3 hbw hc0 hc1 hc2 hc3
        go_cut [5, 7, 11, 12] from 43 to 176 (fun x y e bd wx => ∃ (p1 p2 : Nat) (S5 : SD) (r5 : Int), x = .pointer (some ⟨p1, 0, none⟩) ∧ y = .pointer (some ⟨p2, 0, none⟩) ∧ e = .int .i64 r5 ∧ bd = .int .i64 r5 ∧ PlB w wx p1 p2 S5 (i + 1) bw #[.int .i64 kd, .int .i64 kk, .slice bq bn bc, .slice kq kn kc])
        case first =>
          by_cases hkd0 : kd = 0
          · subst hkd0
            have d1 : w3.cell? ⟨bw, 1, none⟩ = some (.int .i64 kk) := (Joins.cell_of_block HPB.out.box 1).trans rfl
            have d2 : w3.cell? ⟨bw, 2, none⟩ = some (.slice bq bn bc) := (Joins.cell_of_block HPB.out.box 2).trans rfl
            have d3 : w3.cell? ⟨bw, 3, none⟩ = some (.slice kq kn kc) := (Joins.cell_of_block HPB.out.box 3).trans rfl
            have d0 : w3.cell? ⟨bw, 0, none⟩ = some (.int .i64 0) := (Joins.cell_of_block HPB.out.box 0).trans rfl
            go_wp2_with fail
            have HO9 : Hid (S.ops ≤ 999999999) := Lib.hid (by have := HPB.out.i.o; have := HLT2.h; omega)
            have HXW : Hid (∀ w', DiskAt w' w.heap.size p S → Below w.heap.size w w' → Calls Try.prog 11 #[.pointer (some ⟨p, 0, none⟩), .int .i64 kk, .slice bq bn bc] w' fun e w2 => e = .returned (.int .i64 (wrS S kk bl).2) ∧ DiskStep w' w2 w.heap.size p (wrS S kk bl).1) := Lib.hid fun w' hd hb => xwrite hd HPB.out.i.l1 HPB.out.i.l2 HO9.out kk bc (Bytes.arg HB6.out hb) HN6.out
            have HYW : Hid (∀ w', RefAt w' w.heap.size p' S → Below w.heap.size w w' → Calls Try.prog 12 #[.pointer (some ⟨p', 0, none⟩), .int .i64 kk, .slice bq bn bc] w' fun e w2 => e = .returned (.int .i64 (wrS S kk bl).2) ∧ RefStep w' w2 w.heap.size p' (wrS S kk bl).1) := Lib.hid fun w' hd hb => ywrite hd HPB.out.i.l1 HPB.out.i.l2 HO9.out kk bc (fun w2 h1 _ => HB6.out.below (hb.trans h1)) HN6.out HQ6.out
            have HBD := Lib.hid (wrS_bounds (k := kk) (b := bl) HPB.out.i.l1 HPB.out.i.l2 HPB.out.i.o)
            have HKB : Hid (∀ w' : World, w'.heap[bw]? = some (.cells #[.int .i64 0, .int .i64 kk, .slice bq bn bc, .slice kq kn kc] 33 (0, 0)) → w'.cell? ⟨bw, 1, none⟩ = some (.int .i64 kk) ∧ w'.cell? ⟨bw, 2, none⟩ = some (.slice bq bn bc)) := Lib.hid fun w' h => ⟨(Joins.cell_of_block h 1).trans rfl, (Joins.cell_of_block h 2).trans rfl⟩
            have HX0 := Lib.hid HPB.out.i.d
            have HY0 := Lib.hid HPB.out.i.r
            have HB0' := Lib.hid HPB.out.i.below
            have HBX0 := Lib.hid HPB.out.box
            clear HPB
            go_region_held3 (fun w' => w'.cell? ⟨bw, 1, none⟩ = some (.int .i64 kk) ∧ w'.cell? ⟨bw, 2, none⟩ = some (.slice bq bn bc))
              (first | exact HKB.out _ HBX0.out | exact HKB.out _ HBXB.out | exact HKB.out _ HBXA.out)
              (first
                | (go_at_call 11; refine (HXW.out _ HXA.out HBA.out).mono ?_; rintro e w5 ⟨rfl, hs⟩; have HPZ : Hid (PlI w w5 p p' (wrS S kk bl).1 (i + 1)) := Lib.hid ⟨hs.disk, HYA.out.x hs, HBA.out.trans hs.below, HBD.out.1, HBD.out.2.1, HBD.out.2.2⟩; have HBXB := Lib.hid (hs.keeps.stay HBXA.out (ofDisk_act _ _)); clear hs)
                | (go_at_call 12; refine (HYW.out _ HYA.out HBA.out).mono ?_; rintro e w5 ⟨rfl, hs⟩; have HPZ : Hid (PlI w w5 p p' (wrS S kk bl).1 (i + 1)) := Lib.hid ⟨HXA.out.y hs, hs.disk, HBA.out.trans hs.below, HBD.out.1, HBD.out.2.1, HBD.out.2.2⟩; have HBXB := Lib.hid (hs.keeps.stay HBXA.out (ofRef_act _ _)); clear hs)
                | (go_at_call 11; refine (HXW.out _ (HX0.out.below (Below.refl _ _).drew) HB0'.out.drew).mono ?_; rintro e w4 ⟨rfl, hs⟩; have HXA := Lib.hid hs.disk; have HYA := Lib.hid ((HY0.out.below (Below.refl _ _).drew).x hs); have HBA := Lib.hid (HB0'.out.drew.trans hs.below); have HBXA := Lib.hid (hs.keeps.stay HBX0.out (ofDisk_act _ _)); clear hs)
                | (go_at_call 12; refine (HYW.out _ (HY0.out.below (Below.refl _ _).drew) HB0'.out.drew).mono ?_; rintro e w4 ⟨rfl, hs⟩; have HYA := Lib.hid hs.disk; have HXA := Lib.hid ((HX0.out.below (Below.refl _ _).drew).y hs); have HBA := Lib.hid (HB0'.out.drew.trans hs.below); have HBXA := Lib.hid (hs.keeps.stay HBX0.out (ofRef_act _ _)); clear hs))
            all_goals
              have HP : Hid (PlB w w5 p p' (wrS S kk bl).1 (i + 1) bw #[.int .i64 0, .int .i64 kk, .slice bq bn bc, .slice kq kn kc]) := Lib.hid ⟨HPZ.out, HBXB.out⟩
              clear HPZ HBXB HXA HYA HBA HBXA HXW HYW HBD HKB HX0 HY0 HB0' HBX0 HO9 d0 d1 d2 d3
              generalize wrS S kk bl = FS at HP ⊢
              obtain ⟨S5, r5⟩ := FS
              dsimp only at HP
              go_wp2_with fail
              go_meet
              exact ⟨p, p', S5, r5, rfl, rfl, rfl, rfl, HP.out⟩
          · skip
            by_cases hkd1 : kd = 1
            · subst hkd1
              have d1 : w3.cell? ⟨bw, 1, none⟩ = some (.int .i64 kk) := (Joins.cell_of_block HPB.out.box 1).trans rfl
              have d2 : w3.cell? ⟨bw, 2, none⟩ = some (.slice bq bn bc) := (Joins.cell_of_block HPB.out.box 2).trans rfl
              have d3 : w3.cell? ⟨bw, 3, none⟩ = some (.slice kq kn kc) := (Joins.cell_of_block HPB.out.box 3).trans rfl
              have d0 : w3.cell? ⟨bw, 0, none⟩ = some (.int .i64 1) := (Joins.cell_of_block HPB.out.box 0).trans rfl
              go_wp2_with fail
              have HF1 := Lib.hid (xflush HPB.out.i.d HPB.out.i.l1 HPB.out.i.l2 (by have := HPB.out.i.o; have := HLT2.h; omega))
              have HF2 : Hid (∀ w', DiskStep w3 w' w.heap.size p (flS S).1 → Calls Try.prog 14 #[.pointer (some ⟨p', 0, none⟩)] w' fun e w2 => e = .returned (.int .i64 (flS S).2) ∧ RefStep w' w2 w.heap.size p' (flS S).1) := Lib.hid fun w' hs => yflush (HPB.out.i.r.x hs) HPB.out.i.l1 HPB.out.i.l2 (by have := HPB.out.i.o; have := HLT2.h; omega)
              have HBD := Lib.hid (flS_bounds HPB.out.i.l1 HPB.out.i.l2 HPB.out.i.o)
              refine HF1.out.mono ?_; rintro e w4 ⟨rfl, hs4⟩
              have HS4 := Lib.hid hs4
              clear hs4
              go_wp2_with fail
              refine (HF2.out _ HS4.out).mono ?_; rintro e w5 ⟨rfl, hs5⟩
              have HP : Hid (PlB w w5 p p' (flS S).1 (i + 1) bw #[.int .i64 1, .int .i64 kk, .slice bq bn bc, .slice kq kn kc]) := Lib.hid ⟨⟨HS4.out.disk.y hs5, hs5.disk, HPB.out.i.below.trans (HS4.out.below.trans hs5.below), HBD.out.1, HBD.out.2.1, HBD.out.2.2⟩, hs5.keeps.stay (HS4.out.keeps.stay HPB.out.box (ofDisk_act _ _)) (ofRef_act _ _)⟩
              clear hs5 HF1 HF2 HS4 HBD HPB d0 d1 d2 d3
              generalize flS S = FS at HP ⊢
              obtain ⟨S5, r5⟩ := FS
              dsimp only at HP
              go_wp2_with fail
              go_meet
              exact ⟨p, p', S5, r5, rfl, rfl, rfl, rfl, HP.out⟩
            · skip
              by_cases hkd2 : kd = 2
              · subst hkd2
                have d1 : w3.cell? ⟨bw, 1, none⟩ = some (.int .i64 kk) := (Joins.cell_of_block HPB.out.box 1).trans rfl
                have d2 : w3.cell? ⟨bw, 2, none⟩ = some (.slice bq bn bc) := (Joins.cell_of_block HPB.out.box 2).trans rfl
                have d3 : w3.cell? ⟨bw, 3, none⟩ = some (.slice kq kn kc) := (Joins.cell_of_block HPB.out.box 3).trans rfl
                have d0 : w3.cell? ⟨bw, 0, none⟩ = some (.int .i64 2) := (Joins.cell_of_block HPB.out.box 0).trans rfl
                go_wp2_with fail
                have HF1 := Lib.hid (cut_any HPB.out.i.d kk)
                refine HF1.out.mono ?_; rintro e w4 ⟨rfl, hs4⟩
                have hr4 := HPB.out.i.r.x hs4
                have hbx4 := hs4.keeps.stay HPB.out.box (ofDisk_act _ _)
                have d1' : w4.cell? ⟨bw, 1, none⟩ = some (.int .i64 kk) := (Joins.cell_of_block hbx4 1).trans rfl
                obtain ⟨_, _, _, _, _, _, _, _, yl, _, yf, _, _⟩ := ref_cells hr4
                have yf2 := yf 2
                have hnb : bw ≠ p' := by
                  obtain ⟨lv, wv, Ls, ms, hR⟩ := hr4
                  exact obj_ne hbx4 hR.blk (by intro e; simp at e)
                have hxd : (w4.setCell ⟨p', 2, none⟩ (.int .i64 kk)).cell? ⟨bw, 1, none⟩ = some (.int .i64 kk) := by rw [World.cell?_of_block (w := w4) (Below.heap_setCell _ _ _ _ hnb)]; exact d1'
                obtain ⟨_, _, _, _, _, _, _, _, yl2, _, yf3, _, _⟩ := ref_cells (ref_left hr4 kk).disk
                have yf4 := yf3 2
                have HPA : Hid (0 ≤ kk → PlB w (w4.setCell ⟨p', 2, none⟩ (.int .i64 kk)) p p' (S.cut kk) (i + 1) bw #[.int .i64 2, .int .i64 kk, .slice bq bn bc, .slice kq kn kc]) := Lib.hid fun h0 => by
                  have h1 := ref_left hr4 kk
                  have e : ({ S with left := kk } : SD) = S.cut kk := by show _ = ({ S with left := max kk (-1) } : SD); rw [show max kk (-1) = kk by omega]
                  rw [e] at h1
                  exact ⟨⟨hs4.disk.y h1, h1.disk, HPB.out.i.below.trans (hs4.below.trans h1.below), by show -1 ≤ max kk (-1); omega, by show max kk (-1) ≤ _; have := HKK.out; omega, by show S.ops ≤ _; have := HPB.out.i.o; omega⟩, h1.keeps.stay hbx4 (ofRef_act _ _)⟩
                have HPN : Hid (kk < 0 → PlB w ((w4.setCell ⟨p', 2, none⟩ (.int .i64 kk)).setCell ⟨p', 2, none⟩ (.int .i64 (-1))) p p' (S.cut kk) (i + 1) bw #[.int .i64 2, .int .i64 kk, .slice bq bn bc, .slice kq kn kc]) := Lib.hid fun h0 => by
                  have h1 := ref_left hr4 kk
                  have h2 := ref_left h1.disk (-1)
                  have e : ({ ({ S with left := kk } : SD) with left := -1 } : SD) = S.cut kk := by show ({ S with left := -1 } : SD) = ({ S with left := max kk (-1) } : SD); rw [show max kk (-1) = -1 by omega]
                  rw [e] at h2
                  exact ⟨⟨(hs4.disk.y h1).y h2, h2.disk, HPB.out.i.below.trans (hs4.below.trans (h1.below.trans h2.below)), by show -1 ≤ max kk (-1); omega, by show max kk (-1) ≤ _; have := HKK.out; omega, by show S.ops ≤ _; have := HPB.out.i.o; omega⟩, h2.keeps.stay (h1.keeps.stay hbx4 (ofRef_act _ _)) (ofRef_act _ _)⟩
                clear hs4 hr4 hbx4 hnb yf yf3 HF1 HPB d0 d1 d2 d3
                by_cases h0 : kk < 0
                · have hd0 : decide (kk < 0) = true := decide_eq_true h0
                  go_wp2_with fail
                  have HP := Lib.hid (HPN.out h0)
                  clear HPA HPN hxd d1' yl yf2 yl2 yf4 h0
                  generalize ((w4.setCell ⟨p', 2, none⟩ (.int .i64 kk)).setCell ⟨p', 2, none⟩ (.int .i64 (-1))) = w5 at HP ⊢
                  generalize S.cut kk = S5 at HP ⊢
                  go_meet
                  exact ⟨p, p', S5, 0, rfl, rfl, rfl, rfl, HP.out⟩
                · have hd0 : decide (kk < 0) = false := decide_eq_false h0
                  go_wp2_with fail
                  have HP := Lib.hid (HPA.out (by omega))
                  clear HPA HPN hxd d1' yl yf2 yl2 yf4 h0
                  generalize (w4.setCell ⟨p', 2, none⟩ (.int .i64 kk)) = w5 at HP ⊢
                  generalize S.cut kk = S5 at HP ⊢
                  go_meet
                  exact ⟨p, p', S5, 0, rfl, rfl, rfl, rfl, HP.out⟩
              · skip
                by_cases hkd3 : kd = 3
                · subst hkd3
                  have d1 : w3.cell? ⟨bw, 1, none⟩ = some (.int .i64 kk) := (Joins.cell_of_block HPB.out.box 1).trans rfl
                  have d2 : w3.cell? ⟨bw, 2, none⟩ = some (.slice bq bn bc) := (Joins.cell_of_block HPB.out.box 2).trans rfl
                  have d3 : w3.cell? ⟨bw, 3, none⟩ = some (.slice kq kn kc) := (Joins.cell_of_block HPB.out.box 3).trans rfl
                  have d0 : w3.cell? ⟨bw, 0, none⟩ = some (.int .i64 3) := (Joins.cell_of_block HPB.out.box 0).trans rfl
                  go_wp2_with fail
                  have HKW := Lib.hid (HKP.out.below HPB.out.i.below)
                  have HF1 : Hid (Calls Try.prog 16 #[.pointer (some ⟨p, 0, none⟩), .slice kq kn kc] w3 (CrashPost w3 (S.crash keep))) := Lib.hid (crash_any HPB.out.i.d HKW.out HKN.out (by have := HKN.out; have := HKC.out; omega))
                  have HF2 : Hid (∀ w', Below w3.heap.size w3 w' → Calls Try.prog 17 #[.pointer (some ⟨p', 0, none⟩), .slice kq kn kc] w' (RCrashPost w' (S.crash keep))) := Lib.hid fun w' hb => rcrash_any (HPB.out.i.r.below hb) (HKW.out.below hb) HKN.out (by have := HKN.out; have := HKC.out; omega)
                  refine HF1.out.mono ?_; rintro e w4 ⟨p2, rfl, hd4, hb4⟩
                  have HD4 := Lib.hid hd4
                  have HB4 := Lib.hid hb4
                  have d3' : w4.cell? ⟨bw, 3, none⟩ = some (.slice kq kn kc) := by rw [hb4.cell (p := ⟨bw, 3, none⟩) (World.block_lt_of_cell? _ _ d3)]; exact d3
                  clear hd4 hb4
                  go_wp2_with fail
                  refine (HF2.out _ HB4.out).mono ?_; rintro e w5 ⟨p3, rfl, hr5, hb5⟩
                  have HP : Hid (PlB w w5 p2 p3 (S.crash keep) (i + 1) bw #[.int .i64 3, .int .i64 kk, .slice bq bn bc, .slice kq kn kc]) := Lib.hid ⟨⟨(HD4.out.le HPB.out.i.below.size).below hb5, hr5.le (Nat.le_trans HPB.out.i.below.size HB4.out.size), (HPB.out.i.on HB4.out).below.trans (hb5.mono (HPB.out.i.on HB4.out).below.size), by show (-1 : Int) ≤ -1; decide, by show (-1 : Int) ≤ 9223372036854775807; decide, by show (0 : Int) ≤ _; omega⟩, ((HPB.out.on HB4.out).on hb5).box⟩
                  clear hr5 hb5 HF1 HF2 HD4 HB4 HKW HPB d0 d1 d2 d3 d3'
                  generalize S.crash keep = S5 at HP ⊢
                  go_wp2_with fail
                  go_meet
                  exact ⟨p2, p3, S5, 0, rfl, rfl, rfl, rfl, HP.out⟩
                · skip
                  have hk0 : decide (kd = 0) = false := decide_eq_false (by omega)
                  have hb0 : (kd == 0) = false := by rw [beq_eq_false_iff_ne]; omega
                  have hk1 : decide (kd = 1) = false := decide_eq_false (by omega)
                  have hb1 : (kd == 1) = false := by rw [beq_eq_false_iff_ne]; omega
                  have hk2 : decide (kd = 2) = false := decide_eq_false (by omega)
                  have hb2 : (kd == 2) = false := by rw [beq_eq_false_iff_ne]; omega
                  have hk3 : decide (kd = 3) = false := decide_eq_false (by omega)
                  have hb3 : (kd == 3) = false := by rw [beq_eq_false_iff_ne]; omega
                  have d1 : w3.cell? ⟨bw, 1, none⟩ = some (.int .i64 kk) := (Joins.cell_of_block HPB.out.box 1).trans rfl
                  have d2 : w3.cell? ⟨bw, 2, none⟩ = some (.slice bq bn bc) := (Joins.cell_of_block HPB.out.box 2).trans rfl
                  have d3 : w3.cell? ⟨bw, 3, none⟩ = some (.slice kq kn kc) := (Joins.cell_of_block HPB.out.box 3).trans rfl
                  have d0 : w3.cell? ⟨bw, 0, none⟩ = some (.int .i64 kd) := (Joins.cell_of_block HPB.out.box 0).trans rfl
                  go_wp2_with fail
                  have HP : Hid (PlB w w3 p p' S (i + 1) bw #[.int .i64 kd, .int .i64 kk, .slice bq bn bc, .slice kq kn kc]) := Lib.hid ⟨HPB.out.i.next, HPB.out.box⟩
                  clear HPB
                  go_meet
                  exact ⟨p, p', S, 0, rfl, rfl, rfl, rfl, HP.out⟩
        case rest =>
          obtain ⟨p1, p2, S5, r5, rfl, rfl, rfl, rfl, hcut⟩ := hcut
          have HP := Lib.hid hcut
          clear hcut HPB HKK HBB HBQ HBC HKP HKC HBN HKN HB6 HN6 HQ6
          obtain ⟨lq, ln, lc, wq, wn, wcp, y0, y1, _, y3, _, hln, hwn⟩ := ref_cells HP.out.i.r
          have HLN := Lib.hid hln
          have HC5 : Hid (∀ n, Calls Try.prog 18 #[.pointer (some ⟨p1, 0, none⟩)] (wc.drewN n) fun e w' => e = .returned (.int .i64 (S5).ops) ∧ w' = wc.drewN n) := Lib.hid fun n => (ops_any (HP.out.i.d.below (belowN (Below.refl _ _) n))).mono fun e w' ⟨he, hw⟩ => ⟨he, hw.symm⟩
          have HC6 : Hid (∀ n, Calls Try.prog 19 #[.pointer (some ⟨p1, 0, none⟩)] (wc.drewN n) fun e w' => e = .returned (.int .i64 (wn : Int)) ∧ w' = wc.drewN n) := Lib.hid fun n => (waiting_any (HP.out.i.d.below (belowN (Below.refl _ _) n))).mono fun e w' ⟨he, hw⟩ => ⟨by rw [hwn]; exact he, hw.symm⟩
          have HC7 : Hid (∀ n, Calls Try.prog 20 #[.pointer (some ⟨p1, 0, none⟩)] (wc.drewN n) fun e w' => e = .returned (.int .i64 (ln : Int)) ∧ w' = wc.drewN n) := Lib.hid fun n => (len_any (HP.out.i.d.below (belowN (Below.refl _ _) n))).mono fun e w' ⟨he, hw⟩ => ⟨by rw [hln]; exact he, hw.symm⟩
          clear hln hwn
          generalize (S5).ops = yo at y3 HC5
          go_wp2_with fail
          go_quiet ((first | (go_at_call 18; with_reducible exact Calls.quiet_of_same (HC5.out _)) | (go_at_call 19; with_reducible exact Calls.quiet_of_same (HC6.out _)) | (go_at_call 20; with_reducible exact Calls.quiet_of_same (HC7.out _))))
          have HP6 : Hid (PlB w (wc.drewN nq) p1 p2 (S5) (i + 1) bw #[.int .i64 kd, .int .i64 kk, .slice bq bn bc, .slice kq kn kc]) := Lib.hid (HP.out.on (belowN (Below.refl _ _) nq))
          generalize wc.drewN nq = w6 at HP6 ⊢
          clear HC5 HC6 HC7 HP y0 y1 y3
          have d1 : w6.cell? ⟨bw, 1, none⟩ = some (.int .i64 kk) := (Joins.cell_of_block HP6.out.box 1).trans rfl
          by_cases hr : 0 ≤ kk ∧ kk < (S5).size
          · obtain ⟨kx, rfl⟩ : ∃ kx : Nat, kk = (kx : Int) := ⟨kk.toNat, by omega⟩
            have HLS := Lib.hid (read_len HP6.out.i.d.ok (kx : Int))
            have HR1 : Hid (Calls Try.prog 21 #[.pointer (some ⟨p1, 0, none⟩), .int .i64 (kx : Int)] w6 (ReadPost w6 ((S5).read kx))) := Lib.hid (read_any HP6.out.i.d hr.1 hr.2)
            have HR2 : Hid (∀ w', Below w6.heap.size w6 w' → Calls Try.prog 22 #[.pointer (some ⟨p2, 0, none⟩), .int .i64 (kx : Int)] w' (RReadPost w' ((S5).read kx))) := Lib.hid fun w' hb => rread_any (HP6.out.i.r.below hb) hr.2
            clear hr
            go_wp2_with fail
            refine HR1.out.mono ?_; rintro e w7 ⟨g1, rfl, _, hs7, hb7⟩
            have HS7 := Lib.hid hs7
            have HB7 := Lib.hid hb7
            have d7 : w7.cell? ⟨bw, 1, none⟩ = some (.int .i64 (kx : Int)) := by rw [hb7.cell (p := ⟨bw, 1, none⟩) (World.block_lt_of_cell? _ _ d1)]; exact d1
            clear hs7 hb7 HR1 d1
            go_wp2_with fail
            refine (HR2.out _ HB7.out).mono ?_; rintro e w8 ⟨q8, c8, rfl, hs8, hb8⟩
            have HP8 := Lib.hid ((HP6.out.i.on HB7.out).on hb8)
            have e1 := str_of (HS7.out.below hb8).bs (n := 512) (c := 512) HLS.out.symm
            have e2 := str_of hs8 (n := 512) (c := c8) HLS.out.symm
            clear hs8 hb8 HR2 HS7 HB7 HLS d7
            generalize (S5).read (kx : Int) = z at e1 e2
            go_wp2
            go_roundg (100 - (i + 1))
            case rel => exact ⟨i + 1, p1, p2, _, rfl, rfl, by go_num, by have := HLT.h; omega, by have := HLT2.h; omega, rfl, HP8.out⟩
            case measure => have := HLT2.h; omega
          · have HR1 : Hid (Calls Try.prog 21 #[.pointer (some ⟨p1, 0, none⟩), .int .i64 kk] w6 fun e w' => e = .returned (.tuple #[.slice none 0 0, .int .i64 2]) ∧ w6 = w') := Lib.hid (read_bad HP6.out.i.d hr)
            have HR2 : Hid (Calls Try.prog 22 #[.pointer (some ⟨p2, 0, none⟩), .int .i64 kk] w6 fun e w' => e = .returned (.tuple #[.slice none 0 0, .int .i64 2]) ∧ w6 = w') := Lib.hid (rread_bad HP6.out.i.r hr)
            have e1 := str_of (Bs.nil w6 none) (n := 0) (c := 0) rfl
            clear hr
            go_wp2_with fail
            refine HR1.out.mono ?_; rintro e w7 ⟨rfl, rfl⟩
            go_wp2_with fail
            refine HR2.out.mono ?_; rintro e w7 ⟨rfl, rfl⟩
            go_wp2
            go_roundg (100 - (i + 1))
            case rel => exact ⟨i + 1, p1, p2, _, rfl, rfl, by go_num, by have := HLT.h; omega, by have := HLT2.h; omega, rfl, HP6.out.i⟩
            case measure => have := HLT2.h; omega
      · skip
        obtain ⟨gb, go, rfl, _, _⟩ := HBB.out.at (by have := HBN.out; omega)
        have h6' : (600 : Int) < (bn : Int) := by omega
        have h6c : 600 ≤ bc := by have := HBC.out; have := HBN.out; omega
        have h6d : (600 : Int) ≤ (bc : Int) := by omega
        have HB6 : Hid (Bs w (some ⟨gb, go, none⟩) (bl.take 600)) := Lib.hid (HBB.out.take 600)
        have HN6 : Hid (600 = (bl.take 600).length) := Lib.hid (by rw [List.length_take]; have := HBN.out; omega)
        have HQ6 : Hid ((some ⟨gb, go, none⟩ : Option Addr) = none → bc = 0) := Lib.hid (fun h => by cases h)
        have HPB := Lib.hid (HBS.out (.slice (some ⟨gb, go, none⟩) 600 bc))
        obtain ⟨bw, hbw⟩ : ∃ x, x = wr.heap.size := ⟨_, rfl⟩
        obtain ⟨w3, hw3⟩ : ∃ x, x = (wr.alloc (.cells #[.int .i64 kd, .int .i64 kk, .slice (some ⟨gb, go, none⟩) 600 bc, .slice kq kn kc] 33)) := ⟨_, rfl⟩
        rw [← hw3, ← hbw] at HPB
        clear HBS HB0
        go_upto_block 2 with fail
        rw [← hw3, ← hbw]
        clear hw3 hbw hc0 hc1 hc2 hc3
        go_cut [5, 7, 11, 12] from 43 to 176 (fun x y e bd wx => ∃ (p1 p2 : Nat) (S5 : SD) (r5 : Int), x = .pointer (some ⟨p1, 0, none⟩) ∧ y = .pointer (some ⟨p2, 0, none⟩) ∧ e = .int .i64 r5 ∧ bd = .int .i64 r5 ∧ PlB w wx p1 p2 S5 (i + 1) bw #[.int .i64 kd, .int .i64 kk, .slice (some ⟨gb, go, none⟩) 600 bc, .slice kq kn kc])
        case first =>
          by_cases hkd0 : kd = 0
          · subst hkd0
            have d1 : w3.cell? ⟨bw, 1, none⟩ = some (.int .i64 kk) := (Joins.cell_of_block HPB.out.box 1).trans rfl
            have d2 : w3.cell? ⟨bw, 2, none⟩ = some (.slice (some ⟨gb, go, none⟩) 600 bc) := (Joins.cell_of_block HPB.out.box 2).trans rfl
            have d3 : w3.cell? ⟨bw, 3, none⟩ = some (.slice kq kn kc) := (Joins.cell_of_block HPB.out.box 3).trans rfl
            have d0 : w3.cell? ⟨bw, 0, none⟩ = some (.int .i64 0) := (Joins.cell_of_block HPB.out.box 0).trans rfl
            go_wp2_with fail
            have HO9 : Hid (S.ops ≤ 999999999) := Lib.hid (by have := HPB.out.i.o; have := HLT2.h; omega)
            have HXW : Hid (∀ w', DiskAt w' w.heap.size p S → Below w.heap.size w w' → Calls Try.prog 11 #[.pointer (some ⟨p, 0, none⟩), .int .i64 kk, .slice (some ⟨gb, go, none⟩) 600 bc] w' fun e w2 => e = .returned (.int .i64 (wrS S kk (bl.take 600)).2) ∧ DiskStep w' w2 w.heap.size p (wrS S kk (bl.take 600)).1) := Lib.hid fun w' hd hb => xwrite hd HPB.out.i.l1 HPB.out.i.l2 HO9.out kk bc (Bytes.arg HB6.out hb) HN6.out
            have HYW : Hid (∀ w', RefAt w' w.heap.size p' S → Below w.heap.size w w' → Calls Try.prog 12 #[.pointer (some ⟨p', 0, none⟩), .int .i64 kk, .slice (some ⟨gb, go, none⟩) 600 bc] w' fun e w2 => e = .returned (.int .i64 (wrS S kk (bl.take 600)).2) ∧ RefStep w' w2 w.heap.size p' (wrS S kk (bl.take 600)).1) := Lib.hid fun w' hd hb => ywrite hd HPB.out.i.l1 HPB.out.i.l2 HO9.out kk bc (fun w2 h1 _ => HB6.out.below (hb.trans h1)) HN6.out HQ6.out
            have HBD := Lib.hid (wrS_bounds (k := kk) (b := (bl.take 600)) HPB.out.i.l1 HPB.out.i.l2 HPB.out.i.o)
            have HKB : Hid (∀ w' : World, w'.heap[bw]? = some (.cells #[.int .i64 0, .int .i64 kk, .slice (some ⟨gb, go, none⟩) 600 bc, .slice kq kn kc] 33 (0, 0)) → w'.cell? ⟨bw, 1, none⟩ = some (.int .i64 kk) ∧ w'.cell? ⟨bw, 2, none⟩ = some (.slice (some ⟨gb, go, none⟩) 600 bc)) := Lib.hid fun w' h => ⟨(Joins.cell_of_block h 1).trans rfl, (Joins.cell_of_block h 2).trans rfl⟩
            have HX0 := Lib.hid HPB.out.i.d
            have HY0 := Lib.hid HPB.out.i.r
            have HB0' := Lib.hid HPB.out.i.below
            have HBX0 := Lib.hid HPB.out.box
            clear HPB
            go_region_held3 (fun w' => w'.cell? ⟨bw, 1, none⟩ = some (.int .i64 kk) ∧ w'.cell? ⟨bw, 2, none⟩ = some (.slice (some ⟨gb, go, none⟩) 600 bc))
              (first | exact HKB.out _ HBX0.out | exact HKB.out _ HBXB.out | exact HKB.out _ HBXA.out)
              (first
                | (go_at_call 11; refine (HXW.out _ HXA.out HBA.out).mono ?_; rintro e w5 ⟨rfl, hs⟩; have HPZ : Hid (PlI w w5 p p' (wrS S kk (bl.take 600)).1 (i + 1)) := Lib.hid ⟨hs.disk, HYA.out.x hs, HBA.out.trans hs.below, HBD.out.1, HBD.out.2.1, HBD.out.2.2⟩; have HBXB := Lib.hid (hs.keeps.stay HBXA.out (ofDisk_act _ _)); clear hs)
                | (go_at_call 12; refine (HYW.out _ HYA.out HBA.out).mono ?_; rintro e w5 ⟨rfl, hs⟩; have HPZ : Hid (PlI w w5 p p' (wrS S kk (bl.take 600)).1 (i + 1)) := Lib.hid ⟨HXA.out.y hs, hs.disk, HBA.out.trans hs.below, HBD.out.1, HBD.out.2.1, HBD.out.2.2⟩; have HBXB := Lib.hid (hs.keeps.stay HBXA.out (ofRef_act _ _)); clear hs)
                | (go_at_call 11; refine (HXW.out _ (HX0.out.below (Below.refl _ _).drew) HB0'.out.drew).mono ?_; rintro e w4 ⟨rfl, hs⟩; have HXA := Lib.hid hs.disk; have HYA := Lib.hid ((HY0.out.below (Below.refl _ _).drew).x hs); have HBA := Lib.hid (HB0'.out.drew.trans hs.below); have HBXA := Lib.hid (hs.keeps.stay HBX0.out (ofDisk_act _ _)); clear hs)
                | (go_at_call 12; refine (HYW.out _ (HY0.out.below (Below.refl _ _).drew) HB0'.out.drew).mono ?_; rintro e w4 ⟨rfl, hs⟩; have HYA := Lib.hid hs.disk; have HXA := Lib.hid ((HX0.out.below (Below.refl _ _).drew).y hs); have HBA := Lib.hid (HB0'.out.drew.trans hs.below); have HBXA := Lib.hid (hs.keeps.stay HBX0.out (ofRef_act _ _)); clear hs))
            all_goals
              have HP : Hid (PlB w w5 p p' (wrS S kk (bl.take 600)).1 (i + 1) bw #[.int .i64 0, .int .i64 kk, .slice (some ⟨gb, go, none⟩) 600 bc, .slice kq kn kc]) := Lib.hid ⟨HPZ.out, HBXB.out⟩
              clear HPZ HBXB HXA HYA HBA HBXA HXW HYW HBD HKB HX0 HY0 HB0' HBX0 HO9 d0 d1 d2 d3
              generalize wrS S kk (bl.take 600) = FS at HP ⊢
              obtain ⟨S5, r5⟩ := FS
              dsimp only at HP
              go_wp2_with fail
              go_meet
              exact ⟨p, p', S5, r5, rfl, rfl, rfl, rfl, HP.out⟩
          · skip
            by_cases hkd1 : kd = 1
            · subst hkd1
              have d1 : w3.cell? ⟨bw, 1, none⟩ = some (.int .i64 kk) := (Joins.cell_of_block HPB.out.box 1).trans rfl
              have d2 : w3.cell? ⟨bw, 2, none⟩ = some (.slice (some ⟨gb, go, none⟩) 600 bc) := (Joins.cell_of_block HPB.out.box 2).trans rfl
              have d3 : w3.cell? ⟨bw, 3, none⟩ = some (.slice kq kn kc) := (Joins.cell_of_block HPB.out.box 3).trans rfl
              have d0 : w3.cell? ⟨bw, 0, none⟩ = some (.int .i64 1) := (Joins.cell_of_block HPB.out.box 0).trans rfl
              go_wp2_with fail
              have HF1 := Lib.hid (xflush HPB.out.i.d HPB.out.i.l1 HPB.out.i.l2 (by have := HPB.out.i.o; have := HLT2.h; omega))
              have HF2 : Hid (∀ w', DiskStep w3 w' w.heap.size p (flS S).1 → Calls Try.prog 14 #[.pointer (some ⟨p', 0, none⟩)] w' fun e w2 => e = .returned (.int .i64 (flS S).2) ∧ RefStep w' w2 w.heap.size p' (flS S).1) := Lib.hid fun w' hs => yflush (HPB.out.i.r.x hs) HPB.out.i.l1 HPB.out.i.l2 (by have := HPB.out.i.o; have := HLT2.h; omega)
              have HBD := Lib.hid (flS_bounds HPB.out.i.l1 HPB.out.i.l2 HPB.out.i.o)
              refine HF1.out.mono ?_; rintro e w4 ⟨rfl, hs4⟩
              have HS4 := Lib.hid hs4
              clear hs4
              go_wp2_with fail
              refine (HF2.out _ HS4.out).mono ?_; rintro e w5 ⟨rfl, hs5⟩
              have HP : Hid (PlB w w5 p p' (flS S).1 (i + 1) bw #[.int .i64 1, .int .i64 kk, .slice (some ⟨gb, go, none⟩) 600 bc, .slice kq kn kc]) := Lib.hid ⟨⟨HS4.out.disk.y hs5, hs5.disk, HPB.out.i.below.trans (HS4.out.below.trans hs5.below), HBD.out.1, HBD.out.2.1, HBD.out.2.2⟩, hs5.keeps.stay (HS4.out.keeps.stay HPB.out.box (ofDisk_act _ _)) (ofRef_act _ _)⟩
              clear hs5 HF1 HF2 HS4 HBD HPB d0 d1 d2 d3
              generalize flS S = FS at HP ⊢
              obtain ⟨S5, r5⟩ := FS
              dsimp only at HP
              go_wp2_with fail
              go_meet
              exact ⟨p, p', S5, r5, rfl, rfl, rfl, rfl, HP.out⟩
            · skip
              by_cases hkd2 : kd = 2
              · subst hkd2
                have d1 : w3.cell? ⟨bw, 1, none⟩ = some (.int .i64 kk) := (Joins.cell_of_block HPB.out.box 1).trans rfl
                have d2 : w3.cell? ⟨bw, 2, none⟩ = some (.slice (some ⟨gb, go, none⟩) 600 bc) := (Joins.cell_of_block HPB.out.box 2).trans rfl
                have d3 : w3.cell? ⟨bw, 3, none⟩ = some (.slice kq kn kc) := (Joins.cell_of_block HPB.out.box 3).trans rfl
                have d0 : w3.cell? ⟨bw, 0, none⟩ = some (.int .i64 2) := (Joins.cell_of_block HPB.out.box 0).trans rfl
                go_wp2_with fail
                have HF1 := Lib.hid (cut_any HPB.out.i.d kk)
                refine HF1.out.mono ?_; rintro e w4 ⟨rfl, hs4⟩
                have hr4 := HPB.out.i.r.x hs4
                have hbx4 := hs4.keeps.stay HPB.out.box (ofDisk_act _ _)
                have d1' : w4.cell? ⟨bw, 1, none⟩ = some (.int .i64 kk) := (Joins.cell_of_block hbx4 1).trans rfl
                obtain ⟨_, _, _, _, _, _, _, _, yl, _, yf, _, _⟩ := ref_cells hr4
                have yf2 := yf 2
                have hnb : bw ≠ p' := by
                  obtain ⟨lv, wv, Ls, ms, hR⟩ := hr4
                  exact obj_ne hbx4 hR.blk (by intro e; simp at e)
                have hxd : (w4.setCell ⟨p', 2, none⟩ (.int .i64 kk)).cell? ⟨bw, 1, none⟩ = some (.int .i64 kk) := by rw [World.cell?_of_block (w := w4) (Below.heap_setCell _ _ _ _ hnb)]; exact d1'
                obtain ⟨_, _, _, _, _, _, _, _, yl2, _, yf3, _, _⟩ := ref_cells (ref_left hr4 kk).disk
                have yf4 := yf3 2
                have HPA : Hid (0 ≤ kk → PlB w (w4.setCell ⟨p', 2, none⟩ (.int .i64 kk)) p p' (S.cut kk) (i + 1) bw #[.int .i64 2, .int .i64 kk, .slice (some ⟨gb, go, none⟩) 600 bc, .slice kq kn kc]) := Lib.hid fun h0 => by
                  have h1 := ref_left hr4 kk
                  have e : ({ S with left := kk } : SD) = S.cut kk := by show _ = ({ S with left := max kk (-1) } : SD); rw [show max kk (-1) = kk by omega]
                  rw [e] at h1
                  exact ⟨⟨hs4.disk.y h1, h1.disk, HPB.out.i.below.trans (hs4.below.trans h1.below), by show -1 ≤ max kk (-1); omega, by show max kk (-1) ≤ _; have := HKK.out; omega, by show S.ops ≤ _; have := HPB.out.i.o; omega⟩, h1.keeps.stay hbx4 (ofRef_act _ _)⟩
                have HPN : Hid (kk < 0 → PlB w ((w4.setCell ⟨p', 2, none⟩ (.int .i64 kk)).setCell ⟨p', 2, none⟩ (.int .i64 (-1))) p p' (S.cut kk) (i + 1) bw #[.int .i64 2, .int .i64 kk, .slice (some ⟨gb, go, none⟩) 600 bc, .slice kq kn kc]) := Lib.hid fun h0 => by
                  have h1 := ref_left hr4 kk
                  have h2 := ref_left h1.disk (-1)
                  have e : ({ ({ S with left := kk } : SD) with left := -1 } : SD) = S.cut kk := by show ({ S with left := -1 } : SD) = ({ S with left := max kk (-1) } : SD); rw [show max kk (-1) = -1 by omega]
                  rw [e] at h2
                  exact ⟨⟨(hs4.disk.y h1).y h2, h2.disk, HPB.out.i.below.trans (hs4.below.trans (h1.below.trans h2.below)), by show -1 ≤ max kk (-1); omega, by show max kk (-1) ≤ _; have := HKK.out; omega, by show S.ops ≤ _; have := HPB.out.i.o; omega⟩, h2.keeps.stay (h1.keeps.stay hbx4 (ofRef_act _ _)) (ofRef_act _ _)⟩
                clear hs4 hr4 hbx4 hnb yf yf3 HF1 HPB d0 d1 d2 d3
                by_cases h0 : kk < 0
                · have hd0 : decide (kk < 0) = true := decide_eq_true h0
                  go_wp2_with fail
                  have HP := Lib.hid (HPN.out h0)
                  clear HPA HPN hxd d1' yl yf2 yl2 yf4 h0
                  generalize ((w4.setCell ⟨p', 2, none⟩ (.int .i64 kk)).setCell ⟨p', 2, none⟩ (.int .i64 (-1))) = w5 at HP ⊢
                  generalize S.cut kk = S5 at HP ⊢
                  go_meet
                  exact ⟨p, p', S5, 0, rfl, rfl, rfl, rfl, HP.out⟩
                · have hd0 : decide (kk < 0) = false := decide_eq_false h0
                  go_wp2_with fail
                  have HP := Lib.hid (HPA.out (by omega))
                  clear HPA HPN hxd d1' yl yf2 yl2 yf4 h0
                  generalize (w4.setCell ⟨p', 2, none⟩ (.int .i64 kk)) = w5 at HP ⊢
                  generalize S.cut kk = S5 at HP ⊢
                  go_meet
                  exact ⟨p, p', S5, 0, rfl, rfl, rfl, rfl, HP.out⟩
              · skip
                by_cases hkd3 : kd = 3
                · subst hkd3
                  have d1 : w3.cell? ⟨bw, 1, none⟩ = some (.int .i64 kk) := (Joins.cell_of_block HPB.out.box 1).trans rfl
                  have d2 : w3.cell? ⟨bw, 2, none⟩ = some (.slice (some ⟨gb, go, none⟩) 600 bc) := (Joins.cell_of_block HPB.out.box 2).trans rfl
                  have d3 : w3.cell? ⟨bw, 3, none⟩ = some (.slice kq kn kc) := (Joins.cell_of_block HPB.out.box 3).trans rfl
                  have d0 : w3.cell? ⟨bw, 0, none⟩ = some (.int .i64 3) := (Joins.cell_of_block HPB.out.box 0).trans rfl
                  go_wp2_with fail
                  have HKW := Lib.hid (HKP.out.below HPB.out.i.below)
                  have HF1 : Hid (Calls Try.prog 16 #[.pointer (some ⟨p, 0, none⟩), .slice kq kn kc] w3 (CrashPost w3 (S.crash keep))) := Lib.hid (crash_any HPB.out.i.d HKW.out HKN.out (by have := HKN.out; have := HKC.out; omega))
                  have HF2 : Hid (∀ w', Below w3.heap.size w3 w' → Calls Try.prog 17 #[.pointer (some ⟨p', 0, none⟩), .slice kq kn kc] w' (RCrashPost w' (S.crash keep))) := Lib.hid fun w' hb => rcrash_any (HPB.out.i.r.below hb) (HKW.out.below hb) HKN.out (by have := HKN.out; have := HKC.out; omega)
                  refine HF1.out.mono ?_; rintro e w4 ⟨p2, rfl, hd4, hb4⟩
                  have HD4 := Lib.hid hd4
                  have HB4 := Lib.hid hb4
                  have d3' : w4.cell? ⟨bw, 3, none⟩ = some (.slice kq kn kc) := by rw [hb4.cell (p := ⟨bw, 3, none⟩) (World.block_lt_of_cell? _ _ d3)]; exact d3
                  clear hd4 hb4
                  go_wp2_with fail
                  refine (HF2.out _ HB4.out).mono ?_; rintro e w5 ⟨p3, rfl, hr5, hb5⟩
                  have HP : Hid (PlB w w5 p2 p3 (S.crash keep) (i + 1) bw #[.int .i64 3, .int .i64 kk, .slice (some ⟨gb, go, none⟩) 600 bc, .slice kq kn kc]) := Lib.hid ⟨⟨(HD4.out.le HPB.out.i.below.size).below hb5, hr5.le (Nat.le_trans HPB.out.i.below.size HB4.out.size), (HPB.out.i.on HB4.out).below.trans (hb5.mono (HPB.out.i.on HB4.out).below.size), by show (-1 : Int) ≤ -1; decide, by show (-1 : Int) ≤ 9223372036854775807; decide, by show (0 : Int) ≤ _; omega⟩, ((HPB.out.on HB4.out).on hb5).box⟩
                  clear hr5 hb5 HF1 HF2 HD4 HB4 HKW HPB d0 d1 d2 d3 d3'
                  generalize S.crash keep = S5 at HP ⊢
                  go_wp2_with fail
                  go_meet
                  exact ⟨p2, p3, S5, 0, rfl, rfl, rfl, rfl, HP.out⟩
                · skip
                  have hk0 : decide (kd = 0) = false := decide_eq_false (by omega)
                  have hb0 : (kd == 0) = false := by rw [beq_eq_false_iff_ne]; omega
                  have hk1 : decide (kd = 1) = false := decide_eq_false (by omega)
                  have hb1 : (kd == 1) = false := by rw [beq_eq_false_iff_ne]; omega
                  have hk2 : decide (kd = 2) = false := decide_eq_false (by omega)
                  have hb2 : (kd == 2) = false := by rw [beq_eq_false_iff_ne]; omega
                  have hk3 : decide (kd = 3) = false := decide_eq_false (by omega)
                  have hb3 : (kd == 3) = false := by rw [beq_eq_false_iff_ne]; omega
                  have d1 : w3.cell? ⟨bw, 1, none⟩ = some (.int .i64 kk) := (Joins.cell_of_block HPB.out.box 1).trans rfl
                  have d2 : w3.cell? ⟨bw, 2, none⟩ = some (.slice (some ⟨gb, go, none⟩) 600 bc) := (Joins.cell_of_block HPB.out.box 2).trans rfl
                  have d3 : w3.cell? ⟨bw, 3, none⟩ = some (.slice kq kn kc) := (Joins.cell_of_block HPB.out.box 3).trans rfl
                  have d0 : w3.cell? ⟨bw, 0, none⟩ = some (.int .i64 kd) := (Joins.cell_of_block HPB.out.box 0).trans rfl
                  go_wp2_with fail
                  have HP : Hid (PlB w w3 p p' S (i + 1) bw #[.int .i64 kd, .int .i64 kk, .slice (some ⟨gb, go, none⟩) 600 bc, .slice kq kn kc]) := Lib.hid ⟨HPB.out.i.next, HPB.out.box⟩
                  clear HPB
                  go_meet
                  exact ⟨p, p', S, 0, rfl, rfl, rfl, rfl, HP.out⟩
        case rest =>
          obtain ⟨p1, p2, S5, r5, rfl, rfl, rfl, rfl, hcut⟩ := hcut
          have HP := Lib.hid hcut
          clear hcut HPB HKK HBB HBQ HBC HKP HKC HBN HKN HB6 HN6 HQ6
          obtain ⟨lq, ln, lc, wq, wn, wcp, y0, y1, _, y3, _, hln, hwn⟩ := ref_cells HP.out.i.r
          have HLN := Lib.hid hln
          have HC5 : Hid (∀ n, Calls Try.prog 18 #[.pointer (some ⟨p1, 0, none⟩)] (wc.drewN n) fun e w' => e = .returned (.int .i64 (S5).ops) ∧ w' = wc.drewN n) := Lib.hid fun n => (ops_any (HP.out.i.d.below (belowN (Below.refl _ _) n))).mono fun e w' ⟨he, hw⟩ => ⟨he, hw.symm⟩
          have HC6 : Hid (∀ n, Calls Try.prog 19 #[.pointer (some ⟨p1, 0, none⟩)] (wc.drewN n) fun e w' => e = .returned (.int .i64 (wn : Int)) ∧ w' = wc.drewN n) := Lib.hid fun n => (waiting_any (HP.out.i.d.below (belowN (Below.refl _ _) n))).mono fun e w' ⟨he, hw⟩ => ⟨by rw [hwn]; exact he, hw.symm⟩
          have HC7 : Hid (∀ n, Calls Try.prog 20 #[.pointer (some ⟨p1, 0, none⟩)] (wc.drewN n) fun e w' => e = .returned (.int .i64 (ln : Int)) ∧ w' = wc.drewN n) := Lib.hid fun n => (len_any (HP.out.i.d.below (belowN (Below.refl _ _) n))).mono fun e w' ⟨he, hw⟩ => ⟨by rw [hln]; exact he, hw.symm⟩
          clear hln hwn
          generalize (S5).ops = yo at y3 HC5
          go_wp2_with fail
          go_quiet ((first | (go_at_call 18; with_reducible exact Calls.quiet_of_same (HC5.out _)) | (go_at_call 19; with_reducible exact Calls.quiet_of_same (HC6.out _)) | (go_at_call 20; with_reducible exact Calls.quiet_of_same (HC7.out _))))
          have HP6 : Hid (PlB w (wc.drewN nq) p1 p2 (S5) (i + 1) bw #[.int .i64 kd, .int .i64 kk, .slice (some ⟨gb, go, none⟩) 600 bc, .slice kq kn kc]) := Lib.hid (HP.out.on (belowN (Below.refl _ _) nq))
          generalize wc.drewN nq = w6 at HP6 ⊢
          clear HC5 HC6 HC7 HP y0 y1 y3
          have d1 : w6.cell? ⟨bw, 1, none⟩ = some (.int .i64 kk) := (Joins.cell_of_block HP6.out.box 1).trans rfl
          by_cases hr : 0 ≤ kk ∧ kk < (S5).size
          · obtain ⟨kx, rfl⟩ : ∃ kx : Nat, kk = (kx : Int) := ⟨kk.toNat, by omega⟩
            have HLS := Lib.hid (read_len HP6.out.i.d.ok (kx : Int))
            have HR1 : Hid (Calls Try.prog 21 #[.pointer (some ⟨p1, 0, none⟩), .int .i64 (kx : Int)] w6 (ReadPost w6 ((S5).read kx))) := Lib.hid (read_any HP6.out.i.d hr.1 hr.2)
            have HR2 : Hid (∀ w', Below w6.heap.size w6 w' → Calls Try.prog 22 #[.pointer (some ⟨p2, 0, none⟩), .int .i64 (kx : Int)] w' (RReadPost w' ((S5).read kx))) := Lib.hid fun w' hb => rread_any (HP6.out.i.r.below hb) hr.2
            clear hr
            go_wp2_with fail
            refine HR1.out.mono ?_; rintro e w7 ⟨g1, rfl, _, hs7, hb7⟩
            have HS7 := Lib.hid hs7
            have HB7 := Lib.hid hb7
            have d7 : w7.cell? ⟨bw, 1, none⟩ = some (.int .i64 (kx : Int)) := by rw [hb7.cell (p := ⟨bw, 1, none⟩) (World.block_lt_of_cell? _ _ d1)]; exact d1
            clear hs7 hb7 HR1 d1
            go_wp2_with fail
            refine (HR2.out _ HB7.out).mono ?_; rintro e w8 ⟨q8, c8, rfl, hs8, hb8⟩
            have HP8 := Lib.hid ((HP6.out.i.on HB7.out).on hb8)
            have e1 := str_of (HS7.out.below hb8).bs (n := 512) (c := 512) HLS.out.symm
            have e2 := str_of hs8 (n := 512) (c := c8) HLS.out.symm
            clear hs8 hb8 HR2 HS7 HB7 HLS d7
            generalize (S5).read (kx : Int) = z at e1 e2
            go_wp2
            go_roundg (100 - (i + 1))
            case rel => exact ⟨i + 1, p1, p2, _, rfl, rfl, by go_num, by have := HLT.h; omega, by have := HLT2.h; omega, rfl, HP8.out⟩
            case measure => have := HLT2.h; omega
          · have HR1 : Hid (Calls Try.prog 21 #[.pointer (some ⟨p1, 0, none⟩), .int .i64 kk] w6 fun e w' => e = .returned (.tuple #[.slice none 0 0, .int .i64 2]) ∧ w6 = w') := Lib.hid (read_bad HP6.out.i.d hr)
            have HR2 : Hid (Calls Try.prog 22 #[.pointer (some ⟨p2, 0, none⟩), .int .i64 kk] w6 fun e w' => e = .returned (.tuple #[.slice none 0 0, .int .i64 2]) ∧ w6 = w') := Lib.hid (rread_bad HP6.out.i.r hr)
            have e1 := str_of (Bs.nil w6 none) (n := 0) (c := 0) rfl
            clear hr
            go_wp2_with fail
            refine HR1.out.mono ?_; rintro e w7 ⟨rfl, rfl⟩
            go_wp2_with fail
            refine HR2.out.mono ?_; rintro e w7 ⟨rfl, rfl⟩
            go_wp2
            go_roundg (100 - (i + 1))
            case rel => exact ⟨i + 1, p1, p2, _, rfl, rfl, by go_num, by have := HLT.h; omega, by have := HLT2.h; omega, rfl, HP6.out.i⟩
            case measure => have := HLT2.h; omega
    · have hge : (decide ((i : Int) < (m : Int)) = false ∧ decide (i < m) = false) ∨ (decide ((i : Int) < (m : Int)) = true ∧ decide (i < m) = true ∧ decide ((i : Int) < 100) = false) := by
        by_cases h' : i < m
        · exact .inr ⟨decide_eq_true (by omega), decide_eq_true h', decide_eq_false (by omega)⟩
        · exact .inl ⟨decide_eq_false (by omega), decide_eq_false h'⟩
      have HSZ := Lib.hid HI2.out.d.ok.s1
      have HLS := Lib.hid (read_len HI2.out.d.ok 0)
      have HR1 : Hid (Calls Try.prog 21 #[.pointer (some ⟨p, 0, none⟩), .int .i64 0] wr (ReadPost wr (S.read 0))) := Lib.hid (read_any HI2.out.d (by decide) (by have := HSZ.out; omega))
      have HR2 : Hid (∀ w', Below wr.heap.size wr w' → Calls Try.prog 22 #[.pointer (some ⟨p', 0, none⟩), .int .i64 0] w' (RReadPost w' (S.read 0))) := Lib.hid fun w' hb => rread_any (k := 0) (HI2.out.r.below hb) (by have := HSZ.out; show (0 : Int) < _; omega)
      clear hlt
      rcases hge with ⟨hge, hgeN⟩ | ⟨hge, hgeN, hge2⟩
      · go_wp2_with fail
        refine HR1.out.mono ?_; rintro e w7 ⟨g1, rfl, _, hs7, hb7⟩
        have HS7 := Lib.hid hs7
        have HB7 := Lib.hid hb7
        clear hs7 hb7 HR1
        go_wp2_with fail
        refine (HR2.out _ HB7.out).mono ?_; rintro e w8 ⟨q8, c8, rfl, hs8, hb8⟩
        have HP8 := Lib.hid ((HI2.out.on HB7.out).on hb8)
        have e1 := str_of (HS7.out.below hb8).bs (n := 512) (c := 512) HLS.out.symm
        have e2 := str_of hs8 (n := 512) (c := c8) HLS.out.symm
        clear hs8 hb8 HR2 HS7 HB7 HLS
        generalize S.read 0 = z at e1 e2
        go_wp2
        go_ret
        exact ⟨rfl, HP8.out.below⟩
      · go_wp2_with fail
        refine HR1.out.mono ?_; rintro e w7 ⟨g1, rfl, _, hs7, hb7⟩
        have HS7 := Lib.hid hs7
        have HB7 := Lib.hid hb7
        clear hs7 hb7 HR1
        go_wp2_with fail
        refine (HR2.out _ HB7.out).mono ?_; rintro e w8 ⟨q8, c8, rfl, hs8, hb8⟩
        have HP8 := Lib.hid ((HI2.out.on HB7.out).on hb8)
        have e1 := str_of (HS7.out.below hb8).bs (n := 512) (c := 512) HLS.out.symm
        have e2 := str_of hs8 (n := 512) (c := c8) HLS.out.symm
        clear hs8 hb8 HR2 HS7 HB7 HLS
        generalize S.read 0 = z at e1 e2
        go_wp2
        go_ret
        exact ⟨rfl, HP8.out.below⟩

theorem law_plays {w : World} (n : Int) {q : Option Addr} {m c : Nat} {l : List Ac} (h : AcsOk w q m c l) :
    Calls Try.prog 3 #[.int .i64 n, .slice q m c] w fun e w' => e = .returned (.bool true) ∧ Below w.heap.size w w' := by
  by_cases hn : n < 1 ∨ 4096 < n
  · exact law_plays_no hn _
  · obtain ⟨N, rfl⟩ : ∃ N : Nat, n = (N : Int) := ⟨n.toNat, by omega⟩
    exact law_plays_yes (by omega) (by omega) h

end Go.Proofs.Ytholgkmlfgmhfaa
