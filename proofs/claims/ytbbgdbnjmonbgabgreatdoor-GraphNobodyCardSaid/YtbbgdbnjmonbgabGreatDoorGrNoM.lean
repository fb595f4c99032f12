/-
  The parts of a meta; what stays of a pager that no call made.
-/
import Derived.Test.YtbbgdbnjmonbgabGreatDoorGrNo
import Derived.LoopTactic
set_option linter.unusedVariables false
set_option maxRecDepth 100000
namespace Go.Proofs.YtbbgdbnjmonbgabGreatDoor
open Go.RowKit

/-- A Meta's Gen, Root. -/
theorem meta_gen (w : World) (g r n d : Int) : (Instr.field 293 (.agg #[.int .i64 g, .int .i64 r, .int .i64 n, .int .i64 d]) 0).run Tryz.prog w = .ok (.int .i64 g) w := by kernel_rfl
theorem meta_root (w : World) (g r n d : Int) : (Instr.field 293 (.agg #[.int .i64 g, .int .i64 r, .int .i64 n, .int .i64 d]) 1).run Tryz.prog w = .ok (.int .i64 r) w := by kernel_rfl

/-- The law's own memory: what no call made, and the two that are asked; A is the world ahead. -/
structure GrMem (A wr : World) (z : Value) : Prop where
  z : wr.cell? ⟨A.heap.size, 0, none⟩ = some z
  a : wr.cell? ⟨A.heap.size + 1, 0, none⟩ = some (.pointer none)
  b : wr.cell? ⟨A.heap.size + 1, 1, none⟩ = some (.pointer (some ⟨A.heap.size, 0, none⟩))
  below : Below A.heap.size A wr

theorem GrMem.on {w wr w' : World} {z : Value} (h : GrMem w wr z) (hb : Below wr.heap.size wr w') : GrMem w w' z := by
  obtain ⟨h1, h2, h3, h4⟩ := h
  have q1 := World.block_lt_of_cell? _ _ h1
  have q2 := World.block_lt_of_cell? _ _ h2
  exact ⟨by rw [hb.cell (p := ⟨w.heap.size, 0, none⟩) q1]; exact h1, by rw [hb.cell (p := ⟨w.heap.size + 1, 0, none⟩) q2]; exact h2, by rw [hb.cell (p := ⟨w.heap.size + 1, 1, none⟩) q2]; exact h3, h4.trans (hb.mono h4.size)⟩

theorem GrMem.start (w : World) (cs : Array Value) (t t' : TypeId) {z : Value} (h : cs[0]? = some z) : GrMem w ((w.alloc (.cells cs t)).alloc (.cells #[.pointer none, .pointer (some ⟨w.heap.size, 0, none⟩)] t')) z := by
  have e1 : (w.alloc (.cells cs t)).heap.size = w.heap.size + 1 := by simp
  have b0 : ((w.alloc (.cells cs t)).alloc (.cells #[.pointer none, .pointer (some ⟨w.heap.size, 0, none⟩)] t')).heap[w.heap.size]? = some (.cells cs t (0, 0)) := by
    rw [Below.heap_alloc _ _ _ (by omega)]
    exact heap_alloc_new w _
  have b1 : ((w.alloc (.cells cs t)).alloc (.cells #[.pointer none, .pointer (some ⟨w.heap.size, 0, none⟩)] t')).heap[w.heap.size + 1]? = some (.cells #[.pointer none, .pointer (some ⟨w.heap.size, 0, none⟩)] t' (0, 0)) := by
    have := heap_alloc_new (w.alloc (.cells cs t)) (.cells #[.pointer none, .pointer (some ⟨w.heap.size, 0, none⟩)] t')
    rw [e1] at this
    exact this
  exact ⟨by rw [Joins.cell_of_block b0]; exact h, by rw [Joins.cell_of_block b1]; rfl, by rw [Joins.cell_of_block b1]; rfl, sbox2 _ _ _⟩

end Go.Proofs.YtbbgdbnjmonbgabGreatDoor
