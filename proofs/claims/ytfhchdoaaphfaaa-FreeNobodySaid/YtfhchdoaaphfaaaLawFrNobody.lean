/-
  FreeNobody: lists that no call made have no pages.
-/
import Derived.Test.YtfhchdoaaphfaaaFrNo
import Derived.LoopTactic
set_option linter.unusedVariables false
set_option maxRecDepth 100000
namespace Go.Proofs.Ytfhchdoaaphfaaa
open Go.RowKit

/-- The law's own memory: the list that no call made, and the two that are asked. -/
structure FrMem (w wr : World) : Prop where
  z : wr.cell? ⟨w.heap.size, 2, none⟩ = some (.map none)
  a : wr.cell? ⟨w.heap.size + 1, 0, none⟩ = some (.pointer none)
  b : wr.cell? ⟨w.heap.size + 1, 1, none⟩ = some (.pointer (some ⟨w.heap.size, 0, none⟩))
  below : Below w.heap.size w wr

theorem FrMem.on {w wr w' : World} (h : FrMem w wr) (hb : Below wr.heap.size wr w') : FrMem w w' := by
  obtain ⟨h1, h2, h3, h4⟩ := h
  have q1 := World.block_lt_of_cell? _ _ h1
  have q2 := World.block_lt_of_cell? _ _ h2
  exact ⟨by rw [hb.cell (p := ⟨w.heap.size, 2, none⟩) q1]; exact h1, by rw [hb.cell (p := ⟨w.heap.size + 1, 0, none⟩) q2]; exact h2, by rw [hb.cell (p := ⟨w.heap.size + 1, 1, none⟩) q2]; exact h3, h4.trans (hb.mono h4.size)⟩

theorem FrMem.start (w : World) (cs : Array Value) (t t' : TypeId) (h : cs[2]? = some (.map none)) : FrMem w ((w.alloc (.cells cs t)).alloc (.cells #[.pointer none, .pointer (some ⟨w.heap.size, 0, none⟩)] t')) := by
  have e1 : (w.alloc (.cells cs t)).heap.size = w.heap.size + 1 := by simp
  have b0 : ((w.alloc (.cells cs t)).alloc (.cells #[.pointer none, .pointer (some ⟨w.heap.size, 0, none⟩)] t')).heap[w.heap.size]? = some (.cells cs t (0, 0)) := by
    rw [Below.heap_alloc _ _ _ (by omega)]
    exact heap_alloc_new w _
  have b1 : ((w.alloc (.cells cs t)).alloc (.cells #[.pointer none, .pointer (some ⟨w.heap.size, 0, none⟩)] t')).heap[w.heap.size + 1]? = some (.cells #[.pointer none, .pointer (some ⟨w.heap.size, 0, none⟩)] t' (0, 0)) := by
    have := heap_alloc_new (w.alloc (.cells cs t)) (.cells #[.pointer none, .pointer (some ⟨w.heap.size, 0, none⟩)] t')
    rw [e1] at this
    exact this
  exact ⟨by rw [Joins.cell_of_block b0]; exact h, by rw [Joins.cell_of_block b1]; rfl, by rw [Joins.cell_of_block b1]; rfl, sbox2 _ _ _⟩

set_option maxHeartbeats 6400000 in
theorem law_frnobody {w : World} (k : Int) :
    Calls Try.prog 3 #[.int .i64 k] w fun e w' => e = .returned (.bool true) ∧ Below w.heap.size w w' := by
  go_enter Try.func3, Try.ntmps3
  go_wp2
  go_loopw [11] (fun i wr => ∃ j : Nat, i = .int .i64 j ∧ j ≤ 2 ∧ FrMem w wr) (fun i _ => 2 - (intOf i).toNat)
  case atStart => exact ⟨0, rfl, by omega, FrMem.start w _ _ _ rfl⟩
  case round =>
    obtain ⟨j, rfl, hj, hm⟩ := hrel
    have HM := Lib.hid hm
    by_cases h2 : j = 2
    · subst h2
      clear hm
      go_wp2
      go_ret
      exact ⟨rfl, HM.out.below⟩
    · obtain ⟨d, hd, hn⟩ : ∃ d, wr.cell? ⟨w.heap.size + 1, j, none⟩ = some (.pointer d) ∧ FrNone wr d := by
        rcases (by omega : j = 0 ∨ j = 1) with rfl | rfl
        · exact ⟨_, hm.a, .inl rfl⟩
        · exact ⟨_, hm.b, .inr ⟨_, rfl, hm.z⟩⟩
      have HN := Lib.hid fun w' hb => hn.below (w' := w') hb
      have hlt : (j : Int) < 2 := by omega
      have hlt2 : j < 2 := by omega
      clear hm hn
      go_wp2_with fail
      refine (frAlloc_no (HN.out _ (Below.refl _ _))).mono ?_; rintro e w1 ⟨rfl, hb1⟩
      have HB1 := Lib.hid hb1
      clear hb1
      go_wp2_with fail
      refine (frUse_no (HN.out _ HB1.out) k).mono ?_; rintro e w2 ⟨rfl, rfl⟩
      go_wp2_with fail
      refine (frGive_no (HN.out _ HB1.out) k).mono ?_; rintro e w2 ⟨rfl, rfl⟩
      go_wp2_with fail
      refine (frLater_no (HN.out _ HB1.out) k k).mono ?_; rintro e w2 ⟨rfl, rfl⟩
      go_wp2_with fail
      refine (frSettle_no (HN.out _ HB1.out) k).mono ?_; rintro e w2 ⟨rfl, hb2⟩
      have HB2 := Lib.hid (HB1.out.trans (hb2.mono HB1.out.size))
      clear hb2
      go_wp2_with fail
      refine (frForget_no (HN.out _ HB2.out) k).mono ?_; rintro e w3 ⟨rfl, hb3⟩
      have HB3 := Lib.hid (HB2.out.trans (hb3.mono HB2.out.size))
      clear hb3
      go_wp2_with fail
      refine (frFree_no (HN.out _ HB3.out)).mono ?_; rintro e w4 ⟨rfl, rfl⟩
      go_wp2_with fail
      refine (frWaiting_no (HN.out _ HB3.out)).mono ?_; rintro e w4 ⟨rfl, rfl⟩
      go_wp2_with fail
      refine (frUsed_no (HN.out _ HB3.out)).mono ?_; rintro e w4 ⟨rfl, rfl⟩
      go_wp2_with fail
      refine (frState_no (HN.out _ HB3.out) k).mono ?_; rintro e w4 ⟨rfl, rfl⟩
      go_wp2
      go_roundw
      case rel => exact ⟨j + 1, by go_num, by omega, HM.out.on HB3.out⟩
      case measure => simp [intOf]; omega

end Go.Proofs.Ytfhchdoaaphfaaa
