/-
  A block that is known whole.
-/
import Derived.Test.YtekaedafhiddeaaVOwn
import Derived.Outline
set_option linter.unusedVariables false
set_option maxRecDepth 100000
namespace Go.Proofs.Ytekaedafhiddeaa
open Go.RowKit

/-- A block that is known whole. -/
def Blk (w : World) (B : Nat) (cs : Array Value) : Prop := w.heap[B]? = some (.cells cs 46 (0, 0))
theorem Blk.at {w : World} {B : Nat} {cs : Array Value} (h : Blk w B cs) (i : Nat) : w.cell? ⟨B, i, none⟩ = cs[i]? ∧ w.frozen? ⟨B, i, none⟩ = false :=
  ⟨Joins.cell_of_block h i, Joins.unfrozen_of_block h i⟩
theorem Blk.below {w w' : World} {B C : Nat} {cs : Array Value} (h : Blk w B cs) (hb : Below C w w') (hC : B < C) : Blk w' B cs := by
  unfold Blk
  rw [hb.block B hC]
  exact h
theorem Blk.lt {w : World} {B : Nat} {cs : Array Value} (h : Blk w B cs) : B < w.heap.size := (Array.getElem?_eq_some_iff.1 h).1
theorem Blk.set {w : World} {B : Nat} {cs : Array Value} (h : Blk w B cs) (i : Nat) (u : Value) : Blk (w.setCell ⟨B, i, none⟩ u) B (cs.setIfInBounds i u) := by
  unfold Blk at *
  simp [World.setCell, Array.getElem?_modify, h]
theorem Blk.far {w : World} {B : Nat} {cs : Array Value} (h : Blk w B cs) {p : Addr} (hp : p.block ≠ B) (u : Value) : Blk (w.setCell p u) B cs := by
  unfold Blk at *
  simp [World.setCell, Array.getElem?_modify, h, hp]
theorem Blk.new (w : World) (cs : Array Value) {B : Nat} (hB : B = w.heap.size) : Blk (w.alloc (.cells cs 46)) B cs := by subst hB; exact heap_alloc_new w _

theorem Blk.alloc {w : World} {B : Nat} {cs : Array Value} (h : Blk w B cs) (o : Obj) : Blk (w.alloc o) B cs := h.below ((Below.refl w.heap.size w).alloc (Nat.le_refl _) o) h.lt

end Go.Proofs.Ytekaedafhiddeaa
