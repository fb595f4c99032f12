/-
  TxnNumbers: numbers rise by one each; what was taken and committed is not told again, what was aborted is.
-/
import Derived.Test.YtngnmakeaniapaaGreatDoorH35
import Derived.LoopTactic
set_option linter.unusedVariables false
set_option linter.unusedSimpArgs false
set_option maxRecDepth 100000
namespace Go.Proofs.YtngnmakeaniapaaGreatDoor
open Go.RowKit

def NumH (w wr : World) (pd b8 b9 s j : Nat) : Prop :=
  ∃ P k pm X n0 n1, NumM w wr pd b8 b9 s P k pm X n0 n1 n0 n1 X.n X.d ∧ NX X j ∧ (1 ≤ X.n ∧ X.n ≤ n0 ∧ n0 ≤ 1 + j) ∧ (1 ≤ X.d ∧ X.d ≤ n1 ∧ n1 ≤ 1 + j)

theorem cast1 (n : Nat) : ((n + 1 : Nat) : Int) = (n : Int) + 1 := by omega

theorem txOpen_again {w : World} (hT : Tab w) {B P pd : Nat} {Y : PG} (hB : B ≤ w.heap.size) (ht : 1 < B) (hg : GrAt w B P pd Y) {i : Nat} (hX : NX Y i) (hi : i ≤ 1000) :
    Calls Tryz.prog 12 #[.pointer (some ⟨pd, 0, none⟩)] w (TxOpened w B pd (PG.new Y.S Y.g 0 Y.n Y.d)) := by
  obtain ⟨f1, f2, f3, f4⟩ := hX.found
  obtain ⟨lm, fm, pl, um, wm, la, v, hg⟩ := hg
  have hz := hX.z
  have ho := hX.o
  have h := grOpen_meta hT hg.disk hB hX.lf (by omega) (by omega) f1 (by omega) f2 f3
  rw [f4] at h
  exact txOpen0_ok hT hB ht h rfl rfl rfl rfl

/-- Two pairs are made. -/
theorem pairs_made (w : World) (a b c d : Value) (t : TypeId) : ((w.alloc (.cells #[a, b] t)).alloc (.cells #[c, d] t)).heap[w.heap.size]? = some (.cells #[a, b] t (0, 0)) ∧ ((w.alloc (.cells #[a, b] t)).alloc (.cells #[c, d] t)).heap[w.heap.size + 1]? = some (.cells #[c, d] t (0, 0)) ∧ Below w.heap.size w ((w.alloc (.cells #[a, b] t)).alloc (.cells #[c, d] t)) := by
  have e1 : (w.alloc (.cells #[a, b] t)).heap.size = w.heap.size + 1 := by simp
  refine ⟨?_, ?_, sbox2 _ _ _⟩
  · rw [Below.heap_alloc _ _ _ (by omega)]
    exact heap_alloc_new w _
  · have := heap_alloc_new (w.alloc (.cells #[a, b] t)) (.cells #[c, d] t)
    rw [e1] at this
    exact this

set_option maxHeartbeats 25600000 in
theorem law_txnumbers {w : World} (hT : Tab w) {q0 : Option Addr} {m0 c0 : Nat} {l0 : List Bool} (h0 : BlsOk w q0 m0 c0 l0) {q1 : Option Addr} {m1 c1 : Nat} {l1 : List Bool} (h1 : BlsOk w q1 m1 c1 l1) :
    Calls Tryz.prog 6 #[.slice q0 m0 c0, .slice q1 m1 c1] w fun e w' => e = .returned (.bool true) ∧ Below w.heap.size w w' := by
  have HT := Lib.hid hT
  have HL0 := Lib.hid h0
  have HL1 := Lib.hid h1
  have HNEW := Lib.hid (new_yes (w := w) (n := 50) (by omega) (by omega))
  have hm63 : m0 ≤ 9223372036854775807 := Nat.le_trans h0.h1 h0.h2
  have hm64 : m1 ≤ 9223372036854775807 := Nat.le_trans h1.h1 h1.h2
  clear hT h0 h1
  go_enter Tryz.func6, Tryz.ntmps6
  go_wp2_with fail
  refine HNEW.out.mono ?_; rintro e w1 ⟨p, lm, fm, rfl, hd, hb, hp⟩
  have HB1 := Lib.hid hb
  have HF := Lib.hid (txCreate_any (grFormat_ok (HT.out.below HT.out.lt hb) HT.out.lt hd rfl (by show (0 : Int) ≤ _; decide) (by show (4 : Int) ≤ 50; omega)))
  clear hd hb hp
  go_wp2_with fail
  refine HF.out.mono ?_; rintro e w2 ⟨rfl, hs⟩
  have HB2 := Lib.hid (HB1.out.trans hs.below)
  have HOK := Lib.hid hs.disk.ok
  have HO := Lib.hid (txOpen0_ok (HT.out.below HT.out.lt HB2.out) HB2.out.size HT.out.lt (grOpen_fmt (HT.out.below HT.out.lt HB2.out) hs.disk HB2.out.size rfl (by show (0 : Int) ≤ _; decide) (by show (4 : Int) ≤ 50; omega)) rfl rfl rfl rfl)
  clear hs
  go_wp2_with fail
  refine HO.out.mono ?_; rintro e w3 ⟨s, P, pm, rfl, hts, hgs, hb3, hk3, hs3⟩
  have HB3 := Lib.hid (HB2.out.trans hb3)
  have HTS := Lib.hid hts
  have HGS := Lib.hid hgs
  have HSS := Lib.hid (Nat.le_trans HB2.out.size hs3)
  obtain ⟨W, hW⟩ : ∃ W, W = ((w3.alloc (.cells #[.int .i64 1, .int .i64 1] 78)).alloc (.cells #[.int .i64 1, .int .i64 1] 78)) := ⟨_, rfl⟩
  obtain ⟨k8, k9, kb⟩ := pairs_made w3 (.int .i64 1) (.int .i64 1) (.int .i64 1) (.int .i64 1) 78
  rw [← hW] at k8 k9 kb
  have HNN : Hid (NumN w W p w3.heap.size (w3.heap.size + 1) s P pm { PG.new (fmtS (SD.new 50) 2).flush 2 0 1 1 with kept := true } 1 1 1 1) := Lib.hid ⟨hgs.below kb, hts.low kb, k8, k9, HB3.out.trans (kb.mono HB3.out.size), HSS.out, HB3.out.size, (by have := HB3.out.size; omega), by omega⟩
  have HBG := Lib.hid (txBegin_yes HNN.out.t HNN.out.g HNN.out.hs)
  clear k8 k9 kb hts hgs hb3 hk3 hs3
  go_wp2_with fail
  rw [← hW]
  clear hW
  refine HBG.out.mono ?_; rintro e w4 ⟨rfl, hX⟩
  have HH : Hid (NumH w w4 p w3.heap.size (w3.heap.size + 1) s 0) := Lib.hid (by
    obtain ⟨k, hM⟩ := HNN.out.begin rfl hX
    exact ⟨P, k, pm, _, 1, 1, hM, NX.start rfl rfl rfl HOK.out, ⟨Nat.le_refl _, Nat.le_refl _, Nat.le_refl _⟩, Nat.le_refl _, Nat.le_refl _, Nat.le_refl _⟩)
  clear hX HBG HNN HTS HGS HSS HO HF HNEW HOK HB1 HB2 HB3
  obtain ⟨b8, hb8⟩ : ∃ x, x = w3.heap.size := ⟨_, rfl⟩
  rw [← hb8] at HH ⊢
  clear hb8
  go_wp2
  go_loopw [7, 10] (fun sv i wr => ∃ (j s : Nat), sv = .pointer (some ⟨s, 0, none⟩) ∧ i = .int .i64 j ∧ j ≤ m0 ∧ j ≤ m1 ∧ j ≤ 60 ∧ NumH w wr p b8 (b8 + 1) s j) (fun _ i _ => 60 - (intOf i).toNat)
  case atStart => exact ⟨0, s, rfl, rfl, by omega, by omega, by omega, HH.out⟩
  case round =>
    obtain ⟨j, s, rfl, rfl, hj0, hj1, hj2, hH⟩ := hrel
    clear HH
    by_cases hlt : j < m0 ∧ j < m1 ∧ j < 60
    · obtain ⟨hlt0, hlt1, hlt2⟩ := hlt
      have HLT : LtN j m0 := ⟨hlt0⟩
      obtain ⟨x, hx⟩ : ∃ x, l0[j]? = some x := ⟨_, List.getElem?_eq_getElem (by have := HL0.out.hn; omega)⟩
      obtain ⟨y, hy⟩ : ∃ y, l1[j]? = some y := ⟨_, List.getElem?_eq_getElem (by have := HL1.out.hn; omega)⟩
      obtain ⟨P, k, pm, X, n0, n1, hM, hX, hn, hd⟩ := hH
      have HX := Lib.hid hX
      have HN := Lib.hid hn
      have HD := Lib.hid hd
      have HM := Lib.hid hM
      obtain ⟨a0, o0, rfl, hc0⟩ := HL0.out.hl (by intro e; rw [e] at hx; simp at hx)
      obtain ⟨a1, o1, rfl, hc1⟩ := HL1.out.hl (by intro e; rw [e] at hy; simp at hy)
      have HXC : Hid (∀ u, Below w.heap.size w u → u.cell? ⟨a0, o0 + j, none⟩ = some (.bool x)) := Lib.hid fun u hb => (hb.cell (World.block_lt_of_cell? _ _ (hc0 j x hx))).trans (hc0 j x hx)
      have HYC : Hid (∀ u, Below w.heap.size w u → u.cell? ⟨a1, o1 + j, none⟩ = some (.bool y)) := Lib.hid fun u hb => (hb.cell (World.block_lt_of_cell? _ _ (hc1 j y hy))).trans (hc1 j y hy)
      have i0 : (0 : Int) ≤ (j : Int) := by omega
      have i1 : (j : Int) < (m0 : Int) := by omega
      have i2 : (j : Int) < (m1 : Int) := by omega
      have i3 : (j : Int) < 60 := by omega
      have e0 : wrap64 ((n0 : Int) + 1) = (n0 : Int) + 1 := IntWalk.wrap64_in _ (by omega)
      have e1 : wrap64 ((n1 : Int) + 1) = (n1 : Int) + 1 := IntWalk.wrap64_in _ (by omega)
      have e2 : wrap64 ((j : Int) + 1) = (j : Int) + 1 := IntWalk.wrap64_in _ (by omega)
      have x0 := HXC.out _ hM.bl
      clear hc0 hc1 hx hy hM hX hn hd
      cases x with
      | false =>
        · have HPK := Lib.hid (txPeek_yes HM.out.t HM.out.wk (j := 0) (by omega))
          have HNX := Lib.hid (txNext_yes HM.out.t HM.out.wk (j := 0) (by omega) (by have := HN.out; omega) (by have := HD.out; omega))
          rw [if_pos rfl] at HPK HNX
          go_wp2_with fail
          refine HPK.out.mono ?_; rintro e w5 ⟨rfl, rfl⟩
          go_wp2_with fail
          refine HNX.out.mono ?_; rintro e w6 ⟨rfl, hwk, hgr⟩
          have HM6 : Hid (NumM w w6 p b8 (b8 + 1) s P k pm X (n0 + 1) n1 n0 n1 X.n X.d) := Lib.hid (HM.out.next (by exact hwk) hgr)
          clear hwk hgr x0 HPK HNX
          have z0 : w6.cell? ⟨b8, 0, none⟩ = some (.int .i64 n0) := (Joins.cell_of_block HM6.out.x8 0).trans rfl
          have z1 : w6.cell? ⟨b8, 1, none⟩ = some (.int .i64 n1) := (Joins.cell_of_block HM6.out.x8 1).trans rfl
          have zf : w6.frozen? ⟨b8, 0, none⟩ = false := Joins.unfrozen_of_block HM6.out.x8 0
          obtain ⟨W7, hW7⟩ : ∃ u, u = w6.setCell ⟨b8, 0, none⟩ (.int .i64 ((n0 : Int) + 1)) := ⟨_, rfl⟩
          have HM7 : Hid (NumM w W7 p b8 (b8 + 1) s P k pm X (n0 + 1) n1 (n0 + 1) n1 X.n X.d) := Lib.hid (by
            obtain ⟨q8, g8⟩ := cell_set (i := 0) (v := .int .i64 ((n0 : Int) + 1)) HM6.out.x8
            rw [← hW7] at q8 g8
            exact HM6.out.own (.inl rfl) g8 (by first | (rw [cast1 n0]; simpa using q8) | (rw [cast1 n1]; simpa using q8)) (grown_at g8 HM6.out.x9 HM6.out.ne.symm))
          have y0 := HYC.out _ HM7.out.bl
          have y6 := HYC.out _ HM6.out.bl
          cases y with
          | false =>
            rw [hW7] at y0
            go_wp2
            go_roundw
            case rel => exact ⟨j + 1, s, rfl, by go_num, by omega, by omega, by omega, P, k, pm, X, n0 + 1, n1, hW7 ▸ HM7.out, HX.out.up (by omega), by have := HN.out; omega, by have := HD.out; omega⟩
            case measure => simp [intOf]; omega
          | true =>
            have q0 : W7.cell? ⟨b8 + 1, 0, none⟩ = some (.int .i64 X.n) := (Joins.cell_of_block HM7.out.x9 0).trans rfl
            have q1 : W7.cell? ⟨b8 + 1, 1, none⟩ = some (.int .i64 X.d) := (Joins.cell_of_block HM7.out.x9 1).trans rfl
            have f0 : W7.frozen? ⟨b8, 0, none⟩ = false := Joins.unfrozen_of_block HM7.out.x8 0
            have f1 : W7.frozen? ⟨b8, 1, none⟩ = false := Joins.unfrozen_of_block HM7.out.x8 1
            rw [hW7] at y0 q0 q1 f0 f1
            by_cases h3 : j % 3 = 1
            · have d3 : ((j : Int).tmod 3 == 1) = true := by rw [beq_iff_eq, Int.tmod_eq_emod_of_nonneg (by omega)]; omega
              obtain ⟨W8, hW8⟩ : ∃ u, u = (W7.setCell ⟨b8, 0, none⟩ (.int .i64 (X.n : Int))).setCell ⟨b8, 1, none⟩ (.int .i64 (X.d : Int)) := ⟨_, rfl⟩
              have HM8 : Hid (NumM w W8 p b8 (b8 + 1) s P k pm X (n0 + 1) n1 X.n X.d X.n X.d) := Lib.hid (by
                obtain ⟨q8, g8⟩ := cell_set (i := 0) (v := .int .i64 (X.n : Int)) HM7.out.x8
                obtain ⟨q8, g9⟩ := cell_set (i := 1) (v := .int .i64 (X.d : Int)) q8
                have g8 := g8.trans g9
                rw [← hW8] at q8 g8
                exact HM7.out.own (.inl rfl) g8 (by simpa using q8) (grown_at g8 HM7.out.x9 HM7.out.ne.symm))
              have hab := HX.out.abort
              have HAB := Lib.hid (txAbort_yes HM8.out.t HM8.out.g HM8.out.hs fun w1 _ g1 => (by
                obtain ⟨lm, fm, pl, um, wm, la, v, hg⟩ := g1
                exact grAbort hg hab.1 hab.2.1))
              have HXA := Lib.hid hab.2.2
              clear hab
              go_wp2_with fail
              rw [← hW7, ← hW8]
              replace hW7 := Lib.hid hW7
              replace hW8 := Lib.hid hW8
              clear y0 q0 q1 f0 f1 z0 z1 zf y6
              refine HAB.out.mono ?_; rintro e w9 ⟨rfl, ht9, hg9, hb9, hk9⟩
              have HN9 := Lib.hid (HM8.out.end_ ht9 hg9 hb9 hk9)
              clear ht9 hg9 hb9 hk9
              have HBG := Lib.hid (txBegin_yes HN9.out.t HN9.out.g HN9.out.hs)
              go_wp2_with fail
              refine HBG.out.mono ?_; rintro e w10 ⟨rfl, hXX⟩
              have HH : Hid (NumH w w10 p b8 (b8 + 1) s (j + 1)) := Lib.hid (by
                obtain ⟨kn, hM⟩ := HN9.out.begin HXA.out.1.r hXX
                have hnn := HN.out
                have hdd := HD.out
                rw [HXA.out.2.1, HXA.out.2.2] at hM
                refine ⟨P, kn, pm, X.abort, X.n, X.d, ?_, HXA.out.1.up (by omega), by rw [HXA.out.2.1]; omega, by rw [HXA.out.2.2]; omega⟩
                rw [HXA.out.2.1, HXA.out.2.2]
                exact hM)
              clear hXX HBG HN9 HAB
              go_wp2
              go_roundw
              case rel => exact ⟨j + 1, s, rfl, by go_num, by omega, by omega, by omega, HH.out⟩
              case measure => simp [intOf]; omega
            · have d3 : ((j : Int).tmod 3 == 1) = false := by rw [beq_eq_false_iff_ne, Int.tmod_eq_emod_of_nonneg (by omega)]; omega
              have r0 : W7.cell? ⟨b8, 0, none⟩ = some (.int .i64 ((n0 : Int) + 1)) := (Joins.cell_of_block HM7.out.x8 0).trans rfl
              have r1 : W7.cell? ⟨b8, 1, none⟩ = some (.int .i64 (n1 : Int)) := (Joins.cell_of_block HM7.out.x8 1).trans rfl
              have rf0 : W7.frozen? ⟨b8 + 1, 0, none⟩ = false := Joins.unfrozen_of_block HM7.out.x9 0
              have rf1 : W7.frozen? ⟨b8 + 1, 1, none⟩ = false := Joins.unfrozen_of_block HM7.out.x9 1
              rw [hW7] at r0 r1 rf0 rf1
              obtain ⟨W8, hW8⟩ : ∃ u, u = (W7.setCell ⟨b8 + 1, 0, none⟩ (.int .i64 ((n0 : Int) + 1))).setCell ⟨b8 + 1, 1, none⟩ (.int .i64 (n1 : Int)) := ⟨_, rfl⟩
              have HM8 : Hid (NumM w W8 p b8 (b8 + 1) s P k pm X (n0 + 1) n1 (n0 + 1) n1 (n0 + 1) n1) := Lib.hid (by
                obtain ⟨q8, g8⟩ := cell_set (i := 0) (v := .int .i64 ((n0 : Int) + 1)) HM7.out.x9
                obtain ⟨q8, g9⟩ := cell_set (i := 1) (v := .int .i64 (n1 : Int)) q8
                have g8 := g8.trans g9
                rw [← hW8] at q8 g8
                exact HM7.out.own (.inr rfl) g8 (grown_at g8 HM7.out.x8 HM7.out.ne) (by first | (rw [cast1 n0]; simpa using q8) | (rw [cast1 n1]; simpa using q8)))
              have hcm := HX.out.commit (n := (n0 + 1)) (d := n1) (by have := HN.out; omega) (by have := HD.out; omega) (by omega) (by have := HN.out; omega) (by have := HD.out; omega)
              have HCM := Lib.hid (txCommit_yes HM8.out.t HM8.out.wk HM8.out.g HM8.out.hs (n := (n0 + 1)) (d := n1) (r := 0) fun w1 hb1 g1 => (by
                obtain ⟨lm, fm, pl, um, wm, la, v, hg⟩ := g1
                exact grCommit_ok (HT.out.below HT.out.lt (HM8.out.bl.trans hb1)) HT.out.lt hg HX.out.v.failed hcm.2.1 (by have := HX.out.z; omega) HX.out.lf hcm.1))
              have HXC2 := Lib.hid hcm.2.2
              clear hcm
              go_wp2_with fail
              rw [← hW7, ← hW8]
              replace hW7 := Lib.hid hW7
              replace hW8 := Lib.hid hW8
              clear y0 q0 q1 f0 f1 r0 r1 rf0 rf1 z0 z1 zf y6
              refine HCM.out.mono ?_; rintro e w9 ⟨rfl, ht9, hg9, hb9, hk9⟩
              have HN9 := Lib.hid (HM8.out.end_ ht9 hg9 hb9 hk9)
              clear ht9 hg9 hb9 hk9 HCM
              obtain ⟨Y, hY⟩ : ∃ Y, Y = X.commit 0 (n0 + 1) n1 := ⟨_, rfl⟩
              rw [← hY] at HN9 HXC2
              clear hY
              have HOP := Lib.hid (txOpen_again (HT.out.below HT.out.lt HN9.out.bl) HN9.out.bl.size HT.out.lt HN9.out.g HXC2.out.1 (by omega))
              go_wp2_with fail
              refine HOP.out.mono ?_; rintro e w10 ⟨s2, P2, pm2, rfl, hts, hgs, hb3, hk3, hs3⟩
              have HN10 := Lib.hid (HN9.out.open_ hts hgs hb3 hk3 hs3)
              clear hts hgs hb3 hk3 hs3 HOP
              have HBG := Lib.hid (txBegin_yes HN10.out.t HN10.out.g HN10.out.hs)
              go_wp2_with fail
              refine HBG.out.mono ?_; rintro e w11 ⟨rfl, hXX⟩
              have HH : Hid (NumH w w11 p b8 (b8 + 1) s2 (j + 1)) := Lib.hid (by
                obtain ⟨kn, hM⟩ := HN10.out.begin rfl hXX
                have hnn := HN.out
                have hdd := HD.out
                have ex := HXC2.out.2.1
                have ey := HXC2.out.2.2
                refine ⟨P2, kn, pm2, _, Y.n, Y.d, ?_, HXC2.out.1.opened, (by show 1 ≤ Y.n ∧ Y.n ≤ Y.n ∧ _; omega), (by show 1 ≤ Y.d ∧ Y.d ≤ Y.d ∧ _; omega)⟩
                show NumM w w11 p b8 (b8 + 1) s2 P2 kn pm2 _ Y.n Y.d Y.n Y.d Y.n Y.d
                have hM2 : NumM w w11 p b8 (b8 + 1) s2 P2 kn pm2 _ Y.n Y.d (n0 + 1) n1 (n0 + 1) n1 := hM
                rw [← ex, ← ey] at hM2
                exact hM2)
              clear hXX HBG HN9 HN10
              go_wp2
              go_roundw
              case rel => exact ⟨j + 1, s2, rfl, by go_num, by omega, by omega, by omega, HH.out⟩
              case measure => simp [intOf]; omega
      | true =>
        · have HPK := Lib.hid (txPeek_yes HM.out.t HM.out.wk (j := 1) (by omega))
          have HNX := Lib.hid (txNext_yes HM.out.t HM.out.wk (j := 1) (by omega) (by have := HN.out; omega) (by have := HD.out; omega))
          rw [if_neg (by decide)] at HPK HNX
          go_wp2_with fail
          refine HPK.out.mono ?_; rintro e w5 ⟨rfl, rfl⟩
          go_wp2_with fail
          refine HNX.out.mono ?_; rintro e w6 ⟨rfl, hwk, hgr⟩
          have HM6 : Hid (NumM w w6 p b8 (b8 + 1) s P k pm X n0 (n1 + 1) n0 n1 X.n X.d) := Lib.hid (HM.out.next (by exact hwk) hgr)
          clear hwk hgr x0 HPK HNX
          have z0 : w6.cell? ⟨b8, 0, none⟩ = some (.int .i64 n0) := (Joins.cell_of_block HM6.out.x8 0).trans rfl
          have z1 : w6.cell? ⟨b8, 1, none⟩ = some (.int .i64 n1) := (Joins.cell_of_block HM6.out.x8 1).trans rfl
          have zf : w6.frozen? ⟨b8, 1, none⟩ = false := Joins.unfrozen_of_block HM6.out.x8 1
          obtain ⟨W7, hW7⟩ : ∃ u, u = w6.setCell ⟨b8, 1, none⟩ (.int .i64 ((n1 : Int) + 1)) := ⟨_, rfl⟩
          have HM7 : Hid (NumM w W7 p b8 (b8 + 1) s P k pm X n0 (n1 + 1) n0 (n1 + 1) X.n X.d) := Lib.hid (by
            obtain ⟨q8, g8⟩ := cell_set (i := 1) (v := .int .i64 ((n1 : Int) + 1)) HM6.out.x8
            rw [← hW7] at q8 g8
            exact HM6.out.own (.inl rfl) g8 (by first | (rw [cast1 n0]; simpa using q8) | (rw [cast1 n1]; simpa using q8)) (grown_at g8 HM6.out.x9 HM6.out.ne.symm))
          have y0 := HYC.out _ HM7.out.bl
          have y6 := HYC.out _ HM6.out.bl
          cases y with
          | false =>
            rw [hW7] at y0
            go_wp2
            go_roundw
            case rel => exact ⟨j + 1, s, rfl, by go_num, by omega, by omega, by omega, P, k, pm, X, n0, n1 + 1, hW7 ▸ HM7.out, HX.out.up (by omega), by have := HN.out; omega, by have := HD.out; omega⟩
            case measure => simp [intOf]; omega
          | true =>
            have q0 : W7.cell? ⟨b8 + 1, 0, none⟩ = some (.int .i64 X.n) := (Joins.cell_of_block HM7.out.x9 0).trans rfl
            have q1 : W7.cell? ⟨b8 + 1, 1, none⟩ = some (.int .i64 X.d) := (Joins.cell_of_block HM7.out.x9 1).trans rfl
            have f0 : W7.frozen? ⟨b8, 0, none⟩ = false := Joins.unfrozen_of_block HM7.out.x8 0
            have f1 : W7.frozen? ⟨b8, 1, none⟩ = false := Joins.unfrozen_of_block HM7.out.x8 1
            rw [hW7] at y0 q0 q1 f0 f1
            by_cases h3 : j % 3 = 1
            · have d3 : ((j : Int).tmod 3 == 1) = true := by rw [beq_iff_eq, Int.tmod_eq_emod_of_nonneg (by omega)]; omega
              obtain ⟨W8, hW8⟩ : ∃ u, u = (W7.setCell ⟨b8, 0, none⟩ (.int .i64 (X.n : Int))).setCell ⟨b8, 1, none⟩ (.int .i64 (X.d : Int)) := ⟨_, rfl⟩
              have HM8 : Hid (NumM w W8 p b8 (b8 + 1) s P k pm X n0 (n1 + 1) X.n X.d X.n X.d) := Lib.hid (by
                obtain ⟨q8, g8⟩ := cell_set (i := 0) (v := .int .i64 (X.n : Int)) HM7.out.x8
                obtain ⟨q8, g9⟩ := cell_set (i := 1) (v := .int .i64 (X.d : Int)) q8
                have g8 := g8.trans g9
                rw [← hW8] at q8 g8
                exact HM7.out.own (.inl rfl) g8 (by simpa using q8) (grown_at g8 HM7.out.x9 HM7.out.ne.symm))
              have hab := HX.out.abort
              have HAB := Lib.hid (txAbort_yes HM8.out.t HM8.out.g HM8.out.hs fun w1 _ g1 => (by
                obtain ⟨lm, fm, pl, um, wm, la, v, hg⟩ := g1
                exact grAbort hg hab.1 hab.2.1))
              have HXA := Lib.hid hab.2.2
              clear hab
              go_wp2_with fail
              rw [← hW7, ← hW8]
              replace hW7 := Lib.hid hW7
              replace hW8 := Lib.hid hW8
              clear y0 q0 q1 f0 f1 z0 z1 zf y6
              refine HAB.out.mono ?_; rintro e w9 ⟨rfl, ht9, hg9, hb9, hk9⟩
              have HN9 := Lib.hid (HM8.out.end_ ht9 hg9 hb9 hk9)
              clear ht9 hg9 hb9 hk9
              have HBG := Lib.hid (txBegin_yes HN9.out.t HN9.out.g HN9.out.hs)
              go_wp2_with fail
              refine HBG.out.mono ?_; rintro e w10 ⟨rfl, hXX⟩
              have HH : Hid (NumH w w10 p b8 (b8 + 1) s (j + 1)) := Lib.hid (by
                obtain ⟨kn, hM⟩ := HN9.out.begin HXA.out.1.r hXX
                have hnn := HN.out
                have hdd := HD.out
                rw [HXA.out.2.1, HXA.out.2.2] at hM
                refine ⟨P, kn, pm, X.abort, X.n, X.d, ?_, HXA.out.1.up (by omega), by rw [HXA.out.2.1]; omega, by rw [HXA.out.2.2]; omega⟩
                rw [HXA.out.2.1, HXA.out.2.2]
                exact hM)
              clear hXX HBG HN9 HAB
              go_wp2
              go_roundw
              case rel => exact ⟨j + 1, s, rfl, by go_num, by omega, by omega, by omega, HH.out⟩
              case measure => simp [intOf]; omega
            · have d3 : ((j : Int).tmod 3 == 1) = false := by rw [beq_eq_false_iff_ne, Int.tmod_eq_emod_of_nonneg (by omega)]; omega
              have r0 : W7.cell? ⟨b8, 0, none⟩ = some (.int .i64 (n0 : Int)) := (Joins.cell_of_block HM7.out.x8 0).trans rfl
              have r1 : W7.cell? ⟨b8, 1, none⟩ = some (.int .i64 ((n1 : Int) + 1)) := (Joins.cell_of_block HM7.out.x8 1).trans rfl
              have rf0 : W7.frozen? ⟨b8 + 1, 0, none⟩ = false := Joins.unfrozen_of_block HM7.out.x9 0
              have rf1 : W7.frozen? ⟨b8 + 1, 1, none⟩ = false := Joins.unfrozen_of_block HM7.out.x9 1
              rw [hW7] at r0 r1 rf0 rf1
              obtain ⟨W8, hW8⟩ : ∃ u, u = (W7.setCell ⟨b8 + 1, 0, none⟩ (.int .i64 (n0 : Int))).setCell ⟨b8 + 1, 1, none⟩ (.int .i64 ((n1 : Int) + 1)) := ⟨_, rfl⟩
              have HM8 : Hid (NumM w W8 p b8 (b8 + 1) s P k pm X n0 (n1 + 1) n0 (n1 + 1) n0 (n1 + 1)) := Lib.hid (by
                obtain ⟨q8, g8⟩ := cell_set (i := 0) (v := .int .i64 (n0 : Int)) HM7.out.x9
                obtain ⟨q8, g9⟩ := cell_set (i := 1) (v := .int .i64 ((n1 : Int) + 1)) q8
                have g8 := g8.trans g9
                rw [← hW8] at q8 g8
                exact HM7.out.own (.inr rfl) g8 (grown_at g8 HM7.out.x8 HM7.out.ne) (by first | (rw [cast1 n0]; simpa using q8) | (rw [cast1 n1]; simpa using q8)))
              have hcm := HX.out.commit (n := n0) (d := (n1 + 1)) (by have := HN.out; omega) (by have := HD.out; omega) (by omega) (by have := HN.out; omega) (by have := HD.out; omega)
              have HCM := Lib.hid (txCommit_yes HM8.out.t HM8.out.wk HM8.out.g HM8.out.hs (n := n0) (d := (n1 + 1)) (r := 0) fun w1 hb1 g1 => (by
                obtain ⟨lm, fm, pl, um, wm, la, v, hg⟩ := g1
                exact grCommit_ok (HT.out.below HT.out.lt (HM8.out.bl.trans hb1)) HT.out.lt hg HX.out.v.failed hcm.2.1 (by have := HX.out.z; omega) HX.out.lf hcm.1))
              have HXC2 := Lib.hid hcm.2.2
              clear hcm
              go_wp2_with fail
              rw [← hW7, ← hW8]
              replace hW7 := Lib.hid hW7
              replace hW8 := Lib.hid hW8
              clear y0 q0 q1 f0 f1 r0 r1 rf0 rf1 z0 z1 zf y6
              refine HCM.out.mono ?_; rintro e w9 ⟨rfl, ht9, hg9, hb9, hk9⟩
              have HN9 := Lib.hid (HM8.out.end_ ht9 hg9 hb9 hk9)
              clear ht9 hg9 hb9 hk9 HCM
              obtain ⟨Y, hY⟩ : ∃ Y, Y = X.commit 0 n0 (n1 + 1) := ⟨_, rfl⟩
              rw [← hY] at HN9 HXC2
              clear hY
              have HOP := Lib.hid (txOpen_again (HT.out.below HT.out.lt HN9.out.bl) HN9.out.bl.size HT.out.lt HN9.out.g HXC2.out.1 (by omega))
              go_wp2_with fail
              refine HOP.out.mono ?_; rintro e w10 ⟨s2, P2, pm2, rfl, hts, hgs, hb3, hk3, hs3⟩
              have HN10 := Lib.hid (HN9.out.open_ hts hgs hb3 hk3 hs3)
              clear hts hgs hb3 hk3 hs3 HOP
              have HBG := Lib.hid (txBegin_yes HN10.out.t HN10.out.g HN10.out.hs)
              go_wp2_with fail
              refine HBG.out.mono ?_; rintro e w11 ⟨rfl, hXX⟩
              have HH : Hid (NumH w w11 p b8 (b8 + 1) s2 (j + 1)) := Lib.hid (by
                obtain ⟨kn, hM⟩ := HN10.out.begin rfl hXX
                have hnn := HN.out
                have hdd := HD.out
                have ex := HXC2.out.2.1
                have ey := HXC2.out.2.2
                refine ⟨P2, kn, pm2, _, Y.n, Y.d, ?_, HXC2.out.1.opened, (by show 1 ≤ Y.n ∧ Y.n ≤ Y.n ∧ _; omega), (by show 1 ≤ Y.d ∧ Y.d ≤ Y.d ∧ _; omega)⟩
                show NumM w w11 p b8 (b8 + 1) s2 P2 kn pm2 _ Y.n Y.d Y.n Y.d Y.n Y.d
                have hM2 : NumM w w11 p b8 (b8 + 1) s2 P2 kn pm2 _ Y.n Y.d n0 (n1 + 1) n0 (n1 + 1) := hM
                rw [← ex, ← ey] at hM2
                exact hM2)
              clear hXX HBG HN9 HN10
              go_wp2
              go_roundw
              case rel => exact ⟨j + 1, s2, rfl, by go_num, by omega, by omega, by omega, HH.out⟩
              case measure => simp [intOf]; omega
    · obtain ⟨P, k, pm, X, n0, n1, hM, hX, hn, hd⟩ := hH
      have HNX := Lib.hid (txNext_bad hM.t hM.wk)
      have HBB := Lib.hid hM.bl
      clear hM hX hn hd
      rcases Nat.lt_or_ge j m0 with hl0 | hl0
      · rcases Nat.lt_or_ge j m1 with hl1 | hl1
        · have hl2 : ¬ (j : Int) < 60 := by omega
          have HLT : LtN j m0 := ⟨hl0⟩
          have i1 : (j : Int) < (m0 : Int) := by omega
          have i2 : (j : Int) < (m1 : Int) := by omega
          go_wp2_with fail
          refine HNX.out.mono ?_; rintro e w5 ⟨rfl, rfl⟩
          go_wp2
          go_ret
          exact ⟨rfl, HBB.out⟩
        · have i1 : (j : Int) < (m0 : Int) := by omega
          have i2 : ¬ (j : Int) < (m1 : Int) := by omega
          go_wp2_with fail
          refine HNX.out.mono ?_; rintro e w5 ⟨rfl, rfl⟩
          go_wp2
          go_ret
          exact ⟨rfl, HBB.out⟩
      · have i1 : ¬ (j : Int) < (m0 : Int) := by omega
        go_wp2_with fail
        refine HNX.out.mono ?_; rintro e w5 ⟨rfl, rfl⟩
        go_wp2
        go_ret
        exact ⟨rfl, HBB.out⟩

end Go.Proofs.YtngnmakeaniapaaGreatDoor
