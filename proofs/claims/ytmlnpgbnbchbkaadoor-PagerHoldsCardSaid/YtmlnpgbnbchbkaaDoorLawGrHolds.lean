/-
  PagerHolds: whatever is done, the pages of the committed state and of pinned ones are as they were; and behind a crash a state is found.
-/
import Derived.Test.YtmlnpgbnbchbkaaDoorGrHMid
import Derived.LoopTactic
import Derived.Deep.LoopGhost
import Derived.Deep.CutBlock
import Derived.Deep.CutRange
import Derived.Deep.RegionHeld3
import Derived.Deep.RegionLaw
set_option linter.unusedVariables false
set_option maxRecDepth 100000
namespace Go.Proofs.YtmlnpgbnbchbkaaDoor
open Go.RowKit

set_option maxHeartbeats 25600000 in
theorem law_grholds {w : World} (hT : Tab w) {q : Option Addr} {m c : Nat} {l : List GA} (h : GAsOk w q m c l) {kq : Option Addr} {kn kc : Nat} {keep : List Int} (hk : Ks w kq keep) (hkn : kn = keep.length) (hkm : kn ≤ 9223372036854775807) (n : Int) :
    Calls Tryd.prog 3 #[.int .i64 n, .slice q m c, .slice kq kn kc] w fun e w' => e = .returned (.bool true) ∧ Below w.heap.size w w' := by
  obtain ⟨N, hN, hn⟩ : ∃ N : Nat, N ≤ 31 ∧ bits BinOp.and IntKind.i64 n 31 = (N : Int) := ⟨(n % 32).toNat, by omega, by rw [and31]; omega⟩
  have HT := Lib.hid hT
  have H := Lib.hid h
  have hm63 : m ≤ 9223372036854775807 := Nat.le_trans h.h1 h.h2
  have HK := Lib.hid hk
  have HKN := Lib.hid hkn
  have HNEW := Lib.hid (new_yes (w := w) (n := 4 + (N : Int)) (by omega) (by omega))
  clear hT h hk hkn
  go_enter Tryd.func3, Tryd.ntmps3
  go_wp2_with fail
  refine HNEW.out.mono ?_; rintro e w1 ⟨p, lm, fm, rfl, hd, hb, hp⟩
  have HB1 := Lib.hid hb
  have HF := Lib.hid (grFormat_ok (HT.out.below HT.out.lt hb) HT.out.lt hd rfl (by show (0 : Int) ≤ _; decide) (by show (4 : Int) ≤ 4 + (N : Int); omega))
  clear hd hb hp
  go_wp2_with fail
  refine HF.out.mono ?_; rintro e w2 ⟨rfl, hs⟩
  have HB2 := Lib.hid (HB1.out.trans hs.below)
  have HOK := Lib.hid hs.disk.ok
  have HO := Lib.hid (grOpen_fmt (HT.out.below HT.out.lt HB2.out) hs.disk HB2.out.size rfl (by show (0 : Int) ≤ _; decide) (by show (4 : Int) ≤ 4 + (N : Int); omega))
  clear hs
  go_wp2_with fail
  refine HO.out.mono ?_; rintro e w3 ⟨P, rfl, hs⟩
  have HB3 := Lib.hid (HB2.out.trans hs.below)
  obtain ⟨lm3, fm3, pl, um, wm, la, v, hg⟩ := hs.at_
  have HFK := Lib.hid hg.list.ok
  have HKP := Lib.hid (grKeep hg rfl rfl (q := none) (n := 0) (c := 0) (l := []) (by intro w' _ _ h; exact absurd rfl h) rfl (by omega) List.nodup_nil (fun k hk => by cases hk))
  clear hs hg
  go_wp2_with fail
  refine HKP.out.mono ?_; rintro e w4 ⟨rfl, hs⟩
  have HB4 := Lib.hid (HB3.out.trans hs.below)
  have HPH : Hid (PHE w ((w4.alloc (.cells #[.slice none 0 0, .slice none 0 0, .int .i64 0] 35)).alloc (.cells #[.slice none 0 0, .slice none 0 0, .int .i64 0] 35)) (4 + (N : Int)) P p (w4.heap.size + 2) w4.heap.size (w4.heap.size + 1) 0 (.slice none 0 0) (.slice none 0 0)) := Lib.hid (by
    have hz : (fmtS (SD.new (4 + (N : Int))) 2).flush.size = 4 + (N : Int) := fmtS_size (S := SD.new (4 + (N : Int))) 2
    refine ⟨_, ⟨.slice none 0 0, .slice none 0 0, 0, []⟩, ⟨.slice none 0 0, .slice none 0 0, 0, []⟩, [], [], ⟨⟨(AbM.on ⟨hs.at_, HB4.out⟩ (sbox2 _ _ _)), PInv.start (by show (4 : Int) ≤ 4 + (N : Int); omega) HOK.out HFK.out, ⟨?_, ?_, by show (2 : Nat) ≤ 2 + 0; omega, by show (1 : Nat) ≤ 0 + 1; omega, by show (1 : Nat) ≤ 1; omega⟩, rfl, hz⟩, ⟨⟨by omega, by omega, by omega, by simp⟩, heap_alloc2_old _ _ _, heap_alloc2_new w4 _ _, ⟨OwnI.nil _ _, OwnS.nil _ _⟩, ⟨OwnI.nil _ _, OwnS.nil _ _⟩, (fun q hq => by cases hq), World.ownsRow_nil _ _ _ _, OwnI.nil _ _, ⟨.inl rfl, .inl rfl, .inl rfl⟩, (fun q hq => by cases hq), .inl rfl, .inl rfl⟩, ⟨by have := HB4.out.size; omega, by have := HB4.out.size; omega, by have := HB4.out.size; omega⟩, ⟨Nat.le_refl _, Nat.le_refl _, Nat.le_refl _⟩⟩⟩
    · show -1 ≤ (fmtS (SD.new (4 + (N : Int))) 2).flush.left ∧ (fmtS (SD.new (4 + (N : Int))) 2).flush.left ≤ 31
      rw [fmt_flush_left rfl]
      decide
    · show (fmtS (SD.new (4 + (N : Int))) 2).ops + 1 ≤ _
      have := (fmtS_ops (S := SD.new (4 + (N : Int))) 2).1
      have h0 : (SD.new (4 + (N : Int))).ops = 0 := rfl
      omega)
  clear hs HNEW HF HO HKP HOK HFK HB1 HB2 HB3
  have HPHE : Hid (∃ wr, PHE w wr (4 + (N : Int)) P p (w4.heap.size + 2) w4.heap.size (w4.heap.size + 1) 0 (.slice none 0 0) (.slice none 0 0)) := Lib.hid ⟨_, HPH.out⟩
  go_wp2
  clear HPHE
  obtain ⟨bd, hbd⟩ : ∃ x, x = w4.heap.size := ⟨_, rfl⟩
  obtain ⟨w5, hw5⟩ : ∃ x, x = ((w4.alloc (.cells #[.slice none 0 0, .slice none 0 0, .int .i64 0] 35)).alloc (.cells #[.slice none 0 0, .slice none 0 0, .int .i64 0] 35)) := ⟨_, rfl⟩
  rw [← hw5, ← hbd] at HPH ⊢
  clear hw5 hbd HB4
  go_loopg [12, 13, 14] 80 (fun g x y u wr => ∃ i : Nat, u = .int .i64 i ∧ i ≤ m ∧ i ≤ 80 ∧ g = 80 - i ∧ PHE w wr (4 + (N : Int)) P p (bd + 2) bd (bd + 1) i x y)
  case atStart => exact ⟨0, rfl, by omega, by omega, rfl, HPH.out⟩
  case round =>
    obtain ⟨i, rfl, him, hi1, rfl, hI⟩ := hrel
    clear HPH
    by_cases hlt : i < m ∧ i < 80
    · obtain ⟨hlt1, hlt2⟩ := hlt
      have HLT : LtN i m := ⟨hlt1⟩
      have HLT2 : LtN i 80 := ⟨hlt2⟩
      obtain ⟨a, ha⟩ : ∃ a, l[i]? = some a := ⟨_, List.getElem?_eq_getElem (by have := H.out.hn; omega)⟩
      obtain ⟨ab, ao, rfl, hac⟩ := H.out.hl (by intro e; rw [e] at ha; simp at ha)
      have hao := H.out.ok a (List.mem_of_getElem? ha)
      obtain ⟨kd, kk, ⟨bq, bc, bl⟩⟩ := a
      have hcc : ∀ j v, ([.int .i64 kd, .int .i64 kk, .slice bq bl.length bc] : List Value)[j]? = some v → wr.cell? ⟨ab, ao + i * 3 + j, none⟩ = some v := fun j v hj => by
        have h := hac i _ ha j v hj
        obtain ⟨X, done, now, qs, gens, hP⟩ := hI
        rw [hP.c.m.below.cell (World.block_lt_of_cell? _ _ h)]
        exact h
      have hc0 : wr.cell? ⟨ab, ao + i * 3, none⟩ = some (.int .i64 kd) := hcc 0 _ rfl
      have hc1 := hcc 1 _ rfl
      have hc2 := hcc 2 _ rfl
      have i0 : (0 : Int) ≤ (i : Int) := by omega
      have i1 : (i : Int) < (m : Int) := by omega
      have i2 : (i : Int) < 80 := by omega
      have HOA := Lib.hid hao
      obtain ⟨bn, hbn⟩ : ∃ n, n = bl.length := ⟨_, rfl⟩
      rw [← hbn] at hc2
      have HBN := Lib.hid hbn
      have HI := Lib.hid hI
      clear ha hac hao hbn hcc hI
      by_cases h6 : bn ≤ 493
      · have h6' : decide ((493 : Int) < (bn : Int)) = false := decide_eq_false (by omega)
        obtain ⟨bw, hbw⟩ : ∃ x, x = wr.heap.size := ⟨_, rfl⟩
        obtain ⟨w3, hw3⟩ : ∃ x, x = (wr.alloc (.cells #[.int .i64 kd, .int .i64 kk, .slice bq bn bc] 39)) := ⟨_, rfl⟩
        go_upto_block 2 with fail
        rw [← hw3, ← hbw]
        have HI3 : Hid (PHE w w3 (4 + (N : Int)) P p (bd + 2) bd (bd + 1) i u12 u13) := Lib.hid (by
          obtain ⟨X, done, now, qs, gens, hP⟩ := HI.out
          exact ⟨X, done, now, qs, gens, hP.later (w' := w3) (by rw [hw3]; exact (Below.refl _ _).alloc (Nat.le_refl _) _)⟩)
        have HW3 : Hid (Below w.heap.size w w3) := Lib.hid (by
          obtain ⟨X, done, now, qs, gens, hP⟩ := HI3.out
          exact hP.c.m.below)
        have HPB : Hid (w3.heap[bw]? = some (.cells #[.int .i64 kd, .int .i64 kk, .slice bq bn bc] 39 (0, 0))) := Lib.hid (by rw [hw3, hbw]; exact heap_alloc_new wr _)
        clear hw3 hbw hc0 hc1 hc2 HI
        have HOB := HOA.out.b
        have HBS : Hid (Bs w bq bl) := Lib.hid HOB.bs
        have HBC : Hid ((bn : Nat) ≤ bc ∧ bc ≤ 9223372036854775807) := Lib.hid ⟨by have q1 := HOB.h1; have q2 := HBN.out; (try dsimp only at q1 q2); omega, HOB.h2⟩
        have HBM : Hid ((bn : Nat) = (bl).length) := HBN
        clear HOB
        refine mid_any (kd := kd) (kk := kk) HT HK HKN hkm hN HLT HLT2 i0 i2 HI3 HW3 HPB HBS HBM (by omega) HBC (by assumption) ?_ rfl
        intros
        rename_i hph
        try (conv => zeta)
        try dsimp only
        go_wp2
        go_roundg (80 - (i + 1))
        case rel => exact ⟨i + 1, by go_num, by have := HLT.h; omega, by have := HLT2.h; omega, rfl, hph⟩
        case measure => have := HLT2.h; omega
      · have h6' : decide ((493 : Int) < (bn : Int)) = true := decide_eq_true (by omega)
        have b1 : (493 : Int) ≤ (bn : Int) := by omega
        have b2 : (493 : Int) ≤ (bc : Int) := by have q1 := HOA.out.b.h1; have q2 := HBN.out; (try dsimp only at q1 q2); omega
        have b3 : 493 ≤ bn := by omega
        have b4 : 493 ≤ bc := by omega
        obtain ⟨bw, hbw⟩ : ∃ x, x = wr.heap.size := ⟨_, rfl⟩
        obtain ⟨w3, hw3⟩ : ∃ x, x = (wr.alloc (.cells #[.int .i64 kd, .int .i64 kk, .slice bq 493 bc] 39)) := ⟨_, rfl⟩
        go_upto_block 2 with fail
        rw [← hw3, ← hbw]
        have HI3 : Hid (PHE w w3 (4 + (N : Int)) P p (bd + 2) bd (bd + 1) i u12 u13) := Lib.hid (by
          obtain ⟨X, done, now, qs, gens, hP⟩ := HI.out
          exact ⟨X, done, now, qs, gens, hP.later (w' := w3) (by rw [hw3]; exact (Below.refl _ _).alloc (Nat.le_refl _) _)⟩)
        have HW3 : Hid (Below w.heap.size w w3) := Lib.hid (by
          obtain ⟨X, done, now, qs, gens, hP⟩ := HI3.out
          exact hP.c.m.below)
        have HPB : Hid (w3.heap[bw]? = some (.cells #[.int .i64 kd, .int .i64 kk, .slice bq 493 bc] 39 (0, 0))) := Lib.hid (by rw [hw3, hbw]; exact heap_alloc_new wr _)
        clear hw3 hbw hc0 hc1 hc2 HI
        have HOB := HOA.out.b
        have HBS : Hid (Bs w bq (bl.take 493)) := Lib.hid (HOB.bs.take 493)
        have HBC : Hid ((493 : Nat) ≤ bc ∧ bc ≤ 9223372036854775807) := Lib.hid ⟨by have q1 := HOB.h1; have q2 := HBN.out; (try dsimp only at q1 q2); omega, HOB.h2⟩
        have HBM : Hid ((493 : Nat) = ((bl.take 493)).length) := Lib.hid (by have := HBN.out; rw [List.length_take]; omega)
        clear HOB
        refine mid_any (kd := kd) (kk := kk) HT HK HKN hkm hN HLT HLT2 i0 i2 HI3 HW3 HPB HBS HBM (by omega) HBC (by assumption) ?_ rfl
        intros
        rename_i hph
        try (conv => zeta)
        try dsimp only
        go_wp2
        go_roundg (80 - (i + 1))
        case rel => exact ⟨i + 1, by go_num, by have := HLT.h; omega, by have := HLT2.h; omega, rfl, hph⟩
        case measure => have := HLT2.h; omega
    · obtain ⟨X, done, now, qs, gens, hP⟩ := hI
      obtain ⟨s1, s2, rd, dps⟩ := done
      have hbx : wr.heap[bd]? = some (.cells #[s1, s2, .int .i64 rd] 35 (0, 0)) := hP.h.hd
      have x0 : wr.cell? ⟨bd, 0, none⟩ = some s1 := (Joins.cell_of_block hbx 0).trans rfl
      have x1 : wr.cell? ⟨bd, 1, none⟩ = some s2 := (Joins.cell_of_block hbx 1).trans rfl
      have x2 : wr.cell? ⟨bd, 2, none⟩ = some (.int .i64 rd) := (Joins.cell_of_block hbx 2).trans rfl
      have HBW : Hid (Below w.heap.size w wr) := Lib.hid hP.c.m.below
      have HFD := Lib.hid (hc_found (kc := kc) HT.out hP.c (HK.out.below HBW.out) HKN.out hkm hP.h.ad.1 hP.h.ad.2)
      clear hP hbx
      by_cases hlt1 : i < m
      · have e1 : decide ((i : Int) < (m : Int)) = true := decide_eq_true (by omega)
        have e2 : decide ((i : Int) < 80) = false := decide_eq_false (by omega)
        go_wp2_with fail
        refine (HFD.out).mono ?_; rintro e w6 ⟨rfl, hb6⟩
        have HB6 := Lib.hid hb6
        clear hb6
        go_wp2
        go_ret
        exact ⟨rfl, HBW.out.trans (HB6.out.mono HBW.out.size)⟩
      · have e1 : decide ((i : Int) < (m : Int)) = false := decide_eq_false (by omega)
        go_wp2_with fail
        refine (HFD.out).mono ?_; rintro e w6 ⟨rfl, hb6⟩
        have HB6 := Lib.hid hb6
        clear hb6
        go_wp2
        go_ret
        exact ⟨rfl, HBW.out.trans (HB6.out.mono HBW.out.size)⟩

end Go.Proofs.YtmlnpgbnbchbkaaDoor
