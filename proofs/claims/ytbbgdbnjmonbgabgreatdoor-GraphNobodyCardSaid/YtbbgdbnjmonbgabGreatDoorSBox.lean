/-
  A function's own boxes in later worlds (as VAt's, for seats without values).
-/
import Derived.Test.YtbbgdbnjmonbgabGreatDoorBase
import Derived.Lib.SmallJoins
set_option linter.unusedVariables false
set_option maxRecDepth 100000
namespace Go.Proofs.YtbbgdbnjmonbgabGreatDoor
open Go.RowKit

theorem sbox1 (w : World) (o : Obj) : Below w.heap.size w (w.alloc o) := (Below.refl _ _).alloc (Nat.le_refl _) _
theorem sbox2 (w : World) (o o' : Obj) : Below w.heap.size w ((w.alloc o).alloc o') := (sbox1 w o).alloc (by simp) _
theorem sbox3 (w : World) (o o' o2 : Obj) : Below w.heap.size w (((w.alloc o).alloc o').alloc o2) := (sbox2 w o o').alloc (by simp; omega) _
theorem sbox3_heap (w : World) (o o' o2 : Obj) : (((w.alloc o).alloc o').alloc o2).heap[w.heap.size]? = some o ∧ (((w.alloc o).alloc o').alloc o2).heap[w.heap.size + 1]? = some o' ∧ (((w.alloc o).alloc o').alloc o2).heap[w.heap.size + 2]? = some o2 ∧ (((w.alloc o).alloc o').alloc o2).heap.size = w.heap.size + 3 := by
  have e1 : (w.alloc o).heap.size = w.heap.size + 1 := by simp
  have e2 : ((w.alloc o).alloc o').heap.size = w.heap.size + 2 := by simp
  refine ⟨?_, ?_, ?_, by simp⟩
  · rw [Below.heap_alloc _ _ _ (by omega), Below.heap_alloc _ _ _ (by omega)]
    exact heap_alloc_new w _
  · rw [Below.heap_alloc _ _ _ (by omega)]
    have := heap_alloc_new (w.alloc o) o'
    rw [e1] at this
    exact this
  · have := heap_alloc_new ((w.alloc o).alloc o') o2
    rw [e2] at this
    exact this

end Go.Proofs.YtbbgdbnjmonbgabGreatDoor
