/-
  SectorNobody: disks that no call made have no sectors.
-/
import Derived.Test.YtholgkmlfgmhfaaSNo
import Derived.LoopTactic
set_option linter.unusedVariables false
set_option maxRecDepth 100000
namespace Go.Proofs.Ytholgkmlfgmhfaa
open Go.RowKit

/-- The law's own memory: the disk that no call made, and the two that are asked. -/
structure NoMem (w wr : World) : Prop where
  z : wr.cell? ⟨w.heap.size, 0, none⟩ = some (.int .i64 0)
  a : wr.cell? ⟨w.heap.size + 1, 0, none⟩ = some (.pointer none)
  b : wr.cell? ⟨w.heap.size + 1, 1, none⟩ = some (.pointer (some ⟨w.heap.size, 0, none⟩))
  below : Below w.heap.size w wr

theorem NoMem.on {w wr w' : World} (h : NoMem w wr) (hb : Below wr.heap.size wr w') : NoMem w w' := by
  obtain ⟨h1, h2, h3, h4⟩ := h
  have q1 := World.block_lt_of_cell? _ _ h1
  have q2 := World.block_lt_of_cell? _ _ h2
  exact ⟨by rw [hb.cell (p := ⟨w.heap.size, 0, none⟩) q1]; exact h1, by rw [hb.cell (p := ⟨w.heap.size + 1, 0, none⟩) q2]; exact h2, by rw [hb.cell (p := ⟨w.heap.size + 1, 1, none⟩) q2]; exact h3, h4.trans (hb.mono h4.size)⟩

theorem NoMem.start (w : World) (cs : Array Value) (t t' : TypeId) (h : cs[0]? = some (.int .i64 0)) : NoMem w ((w.alloc (.cells cs t)).alloc (.cells #[.pointer none, .pointer (some ⟨w.heap.size, 0, none⟩)] t')) := by
  have e1 : (w.alloc (.cells cs t)).heap.size = w.heap.size + 1 := by simp
  have b0 : ((w.alloc (.cells cs t)).alloc (.cells #[.pointer none, .pointer (some ⟨w.heap.size, 0, none⟩)] t')).heap[w.heap.size]? = some (.cells cs t (0, 0)) := by
    rw [Below.heap_alloc _ _ _ (by omega)]
    exact heap_alloc_new w _
  have b1 : ((w.alloc (.cells cs t)).alloc (.cells #[.pointer none, .pointer (some ⟨w.heap.size, 0, none⟩)] t')).heap[w.heap.size + 1]? = some (.cells #[.pointer none, .pointer (some ⟨w.heap.size, 0, none⟩)] t' (0, 0)) := by
    have := heap_alloc_new (w.alloc (.cells cs t)) (.cells #[.pointer none, .pointer (some ⟨w.heap.size, 0, none⟩)] t')
    rw [e1] at this
    exact this
  exact ⟨by rw [Joins.cell_of_block b0]; exact h, by rw [Joins.cell_of_block b1]; rfl, by rw [Joins.cell_of_block b1]; rfl, sbox2 _ _ _⟩

set_option maxHeartbeats 6400000 in
theorem law_nobody {w : World} (k : Int) :
    Calls Try.prog 4 #[.int .i64 k] w fun e w' => e = .returned (.bool true) ∧ Below w.heap.size w w' := by
  go_enter Try.func4, Try.ntmps4
  go_wp2
  go_loopw [13] (fun i wr => ∃ j : Nat, i = .int .i64 j ∧ j ≤ 2 ∧ NoMem w wr) (fun i _ => 2 - (intOf i).toNat)
  case atStart => exact ⟨0, rfl, by omega, NoMem.start w _ _ _ rfl⟩
  case round =>
    obtain ⟨j, rfl, hj, hm⟩ := hrel
    have HM := Lib.hid hm
    by_cases h2 : j = 2
    · subst h2
      clear hm
      go_wp2
      go_ret
      exact ⟨rfl, HM.out.below⟩
    · obtain ⟨d, hd, hn⟩ : ∃ d, wr.cell? ⟨w.heap.size + 1, j, none⟩ = some (.pointer d) ∧ Nobody wr d := by
        rcases (by omega : j = 0 ∨ j = 1) with rfl | rfl
        · exact ⟨_, hm.a, .inl rfl⟩
        · exact ⟨_, hm.b, .inr ⟨_, rfl, hm.z⟩⟩
      have HN := Lib.hid fun w' hb => hn.below (w' := w') hb
      have hlt : (j : Int) < 2 := by omega
      have hlt2 : j < 2 := by omega
      clear hm hn
      go_wp2_with fail
      refine (cut_no (HN.out _ (Below.refl _ _)) k).mono ?_; rintro e w1 ⟨rfl, rfl⟩
      go_wp2_with fail
      refine (read_no (HN.out _ (Below.refl _ _)) k).mono ?_; rintro e w1 ⟨rfl, rfl⟩
      go_wp2_with fail
      refine (crash_no (HN.out _ (Below.refl _ _)) _).mono ?_; rintro e w1 ⟨rfl, rfl⟩
      go_wp2_with fail
      refine (write_no (HN.out _ (Below.refl _ _)) k).mono ?_; rintro e w1 ⟨rfl, hb1⟩
      have HB1 := Lib.hid hb1
      clear hb1
      go_wp2_with fail
      refine (flush_no (HN.out _ HB1.out)).mono ?_; rintro e w2 ⟨rfl, hb2⟩
      have HB2 := Lib.hid (HB1.out.trans (hb2.mono HB1.out.size))
      clear hb2
      go_wp2_with fail
      refine (ops_no (HN.out _ HB2.out)).mono ?_; rintro e w3 ⟨rfl, rfl⟩
      go_wp2_with fail
      refine (waiting_no (HN.out _ HB2.out)).mono ?_; rintro e w3 ⟨rfl, rfl⟩
      go_wp2_with fail
      refine (len_no (HN.out _ HB2.out)).mono ?_; rintro e w3 ⟨rfl, rfl⟩
      go_wp2
      go_roundw
      case rel => exact ⟨j + 1, by go_num, by omega, HM.out.on HB2.out⟩
      case measure => simp [intOf]; omega

end Go.Proofs.Ytholgkmlfgmhfaa
