/-
  PagerNobody: pagers that no call made, and of no disk, have no pages.
-/
import Derived.Test.YtpmiakcngjihnaaDoorGrNo
import Derived.LoopTactic
set_option linter.unusedVariables false
set_option maxRecDepth 100000
namespace Go.Proofs.YtpmiakcngjihnaaDoor
open Go.RowKit

/-- A Meta's Gen, Root. -/
theorem meta_gen (w : World) (g r n d : Int) : (Instr.field 49 (.agg #[.int .i64 g, .int .i64 r, .int .i64 n, .int .i64 d]) 0).run Tryd.prog w = .ok (.int .i64 g) w := by kernel_rfl
theorem meta_root (w : World) (g r n d : Int) : (Instr.field 49 (.agg #[.int .i64 g, .int .i64 r, .int .i64 n, .int .i64 d]) 1).run Tryd.prog w = .ok (.int .i64 r) w := by kernel_rfl

/-- The law's own memory: what no call made, and the two that are asked; A is the world ahead. -/
structure GrMem (A wr : World) (z : Value) : Prop where
  z : wr.cell? ⟨A.heap.size, 0, none⟩ = some z
  a : wr.cell? ⟨A.heap.size + 1, 0, none⟩ = some (.pointer none)
  b : wr.cell? ⟨A.heap.size + 1, 1, none⟩ = some (.pointer (some ⟨A.heap.size, 0, none⟩))
  below : Below A.heap.size A wr

theorem GrMem.on {w wr w' : World} {z : Value} (h : GrMem w wr z) (hb : Below wr.heap.size wr w') : GrMem w w' z := by
  obtain ⟨h1, h2, h3, h4⟩ := h
  have q1 := World.block_lt_of_cell? _ _ h1
  have q2 := World.block_lt_of_cell? _ _ h2
  exact ⟨by rw [hb.cell (p := ⟨w.heap.size, 0, none⟩) q1]; exact h1, by rw [hb.cell (p := ⟨w.heap.size + 1, 0, none⟩) q2]; exact h2, by rw [hb.cell (p := ⟨w.heap.size + 1, 1, none⟩) q2]; exact h3, h4.trans (hb.mono h4.size)⟩

theorem GrMem.start (w : World) (cs : Array Value) (t t' : TypeId) {z : Value} (h : cs[0]? = some z) : GrMem w ((w.alloc (.cells cs t)).alloc (.cells #[.pointer none, .pointer (some ⟨w.heap.size, 0, none⟩)] t')) z := by
  have e1 : (w.alloc (.cells cs t)).heap.size = w.heap.size + 1 := by simp
  have b0 : ((w.alloc (.cells cs t)).alloc (.cells #[.pointer none, .pointer (some ⟨w.heap.size, 0, none⟩)] t')).heap[w.heap.size]? = some (.cells cs t (0, 0)) := by
    rw [Below.heap_alloc _ _ _ (by omega)]
    exact heap_alloc_new w _
  have b1 : ((w.alloc (.cells cs t)).alloc (.cells #[.pointer none, .pointer (some ⟨w.heap.size, 0, none⟩)] t')).heap[w.heap.size + 1]? = some (.cells #[.pointer none, .pointer (some ⟨w.heap.size, 0, none⟩)] t' (0, 0)) := by
    have := heap_alloc_new (w.alloc (.cells cs t)) (.cells #[.pointer none, .pointer (some ⟨w.heap.size, 0, none⟩)] t')
    rw [e1] at this
    exact this
  exact ⟨by rw [Joins.cell_of_block b0]; exact h, by rw [Joins.cell_of_block b1]; rfl, by rw [Joins.cell_of_block b1]; rfl, sbox2 _ _ _⟩

set_option maxHeartbeats 6400000 in
theorem law_grnobody {w : World} {q : Option Addr} {n c : Nat} :
    Calls Tryd.prog 4 #[.slice q n c] w fun e w' => e = .returned (.bool true) ∧ Below w.heap.size w w' := by
  go_enter Tryd.func4, Tryd.ntmps4
  go_wp2
  go_loopw [20] (fun i wr => ∃ j : Nat, i = .int .i64 j ∧ j ≤ 2 ∧ GrMem w wr (.int .i64 0)) (fun i _ => 2 - (intOf i).toNat)
  case atStart => exact ⟨0, rfl, by omega, GrMem.start w _ _ _ rfl⟩
  case round =>
    obtain ⟨j, rfl, hj, hm⟩ := hrel
    have HM := Lib.hid hm
    by_cases h2 : j = 2
    · subst h2
      clear hm
      obtain ⟨wa, rfl⟩ : ∃ x, x = wr := ⟨_, rfl⟩
      rw [show ((2 : Nat) : Int) = 2 from rfl]
      go_wp2
      go_loopw [45] (fun i wx => ∃ j : Nat, i = .int .i64 j ∧ j ≤ 2 ∧ GrMem wa wx (.pointer none)) (fun i _ => 2 - (intOf i).toNat)
      case atStart => exact ⟨0, rfl, by omega, GrMem.start wa _ _ _ rfl⟩
      case round =>
        obtain ⟨j, rfl, hj, hm⟩ := hrel
        have HX := Lib.hid hm
        by_cases h2 : j = 2
        · subst h2
          clear hm
          go_wp2
          go_ret
          exact ⟨rfl, HM.out.below.trans (HX.out.below.mono HM.out.below.size)⟩
        · obtain ⟨d, hd, hn⟩ : ∃ d, wr.cell? ⟨wa.heap.size + 1, j, none⟩ = some (.pointer d) ∧ GrNone wr d := by
            rcases (by omega : j = 0 ∨ j = 1) with rfl | rfl
            · exact ⟨_, hm.a, .inl rfl⟩
            · exact ⟨_, hm.b, .inr ⟨_, rfl, hm.z⟩⟩
          have HN := Lib.hid fun w' hb => hn.below (w' := w') hb
          have hlt : (j : Int) < 2 := by omega
          have hlt2 : j < 2 := by omega
          have hfg := meta_gen
          clear hm hn
          go_wp2_with fail
          refine (grLay_no (HN.out _ (Below.refl _ _)) 1 _).mono ?_; rintro e w1 ⟨rfl, hb1⟩
          have HB1 := Lib.hid (hb1)
          clear hb1
          go_wp2_with fail
          refine (grRead_no (HN.out _ HB1.out) 2).mono ?_; rintro e w2 ⟨rfl, hb2⟩
          have HB2 := Lib.hid (HB1.out.trans (hb2.mono HB1.out.size))
          clear hb2
          go_wp2_with fail
          refine (grPin_no (HN.out _ HB2.out)).mono ?_; rintro e w3 ⟨rfl, hb3⟩
          have HB3 := Lib.hid (HB2.out.trans (hb3.mono HB2.out.size))
          clear hb3
          go_wp2_with fail
          refine (grDrop_no (HN.out _ HB3.out) 2).mono ?_; rintro e w4 ⟨rfl, hb4⟩
          have HB4 := Lib.hid (HB3.out.trans (hb4.mono HB3.out.size))
          clear hb4
          go_wp2_with fail
          refine (grCommit_no (HN.out _ HB4.out) 0 1 1).mono ?_; rintro e w5 ⟨rfl, hb5⟩
          have HB5 := Lib.hid (HB4.out.trans (hb5.mono HB4.out.size))
          clear hb5
          go_wp2_with fail
          refine (grAbort_no (HN.out _ HB5.out)).mono ?_; rintro e w6 ⟨rfl, hb6⟩
          have HB6 := Lib.hid (HB5.out.trans (hb6.mono HB5.out.size))
          clear hb6
          go_wp2_with fail
          refine (grUnpin_no (HN.out _ HB6.out) 1).mono ?_; rintro e w7 ⟨rfl, hb7⟩
          have HB7 := Lib.hid (HB6.out.trans (hb7.mono HB6.out.size))
          clear hb7
          go_wp2_with fail
          refine (grKeep_no (HN.out _ HB7.out) _).mono ?_; rintro e w8 ⟨rfl, hb8⟩
          have HB8 := Lib.hid (HB7.out.trans (hb8.mono HB7.out.size))
          clear hb8
          go_wp2_with fail
          refine (grMeta_no (HN.out _ HB8.out)).mono ?_; rintro e w9 ⟨rfl, hb9⟩
          have HB9 := Lib.hid (HB8.out.trans (hb9.mono HB8.out.size))
          clear hb9
          go_wp2_with fail
          refine (grFree_no (HN.out _ HB9.out)).mono ?_; rintro e w10 ⟨rfl, hb10⟩
          have HB10 := Lib.hid (HB9.out.trans (hb10.mono HB9.out.size))
          clear hb10
          go_wp2_with fail
          refine (grWaiting_no (HN.out _ HB10.out)).mono ?_; rintro e w11 ⟨rfl, hb11⟩
          have HB11 := Lib.hid (HB10.out.trans (hb11.mono HB10.out.size))
          clear hb11
          go_wp2_with fail
          refine (grUsed_no (HN.out _ HB11.out)).mono ?_; rintro e w12 ⟨rfl, hb12⟩
          have HB12 := Lib.hid (HB11.out.trans (hb12.mono HB11.out.size))
          clear hb12
          go_wp2
          go_roundw
          case rel => exact ⟨j + 1, by go_num, by omega, HX.out.on HB12.out⟩
          case measure => simp [intOf]; omega
    · obtain ⟨d, hd, hn⟩ : ∃ d, wr.cell? ⟨w.heap.size + 1, j, none⟩ = some (.pointer d) ∧ Nobody wr d := by
        rcases (by omega : j = 0 ∨ j = 1) with rfl | rfl
        · exact ⟨_, hm.a, .inl rfl⟩
        · exact ⟨_, hm.b, .inr ⟨_, rfl, hm.z⟩⟩
      have HN := Lib.hid fun w' hb => hn.below (w' := w') hb
      have hlt : (j : Int) < 2 := by omega
      have hlt2 : j < 2 := by omega
      clear hm hn
      go_wp2_with fail
      refine (grOpen_no (HN.out _ (Below.refl _ _))).mono ?_; rintro e w1 ⟨rfl, hb1⟩
      have HB1 := Lib.hid hb1
      clear hb1
      go_wp2_with fail
      refine (grFormat_no (HN.out _ HB1.out)).mono ?_; rintro e w2 ⟨rfl, hb2⟩
      have HB2 := Lib.hid (HB1.out.trans (hb2.mono HB1.out.size))
      clear hb2
      go_wp2
      go_roundw
      case rel => exact ⟨j + 1, by go_num, by omega, HM.out.on HB2.out⟩
      case measure => simp [intOf]; omega

end Go.Proofs.YtpmiakcngjihnaaDoor
