/-
  Small facts that the texts share.
  A function's own boxes in later worlds (as VAt's, for seats without values).
  sector: made, has; and all calls of a disk that no call made.
-/
import Derived.Test.YtpmiakcngjihnaaDoorProg
import Derived.WalkKit
import Derived.Laws.AppendOwnNone
import Derived.Deep.Draws
import Derived.Lib.SmallJoins
import Derived.WalkSpells
import Derived.WalkLawsBesides
import Derived.RegionTactic
import Derived.Lib.Hide
set_option linter.unusedVariables false
set_option maxRecDepth 100000
namespace Go.Proofs.YtpmiakcngjihnaaDoor
open Go.RowKit

theorem ret_int {k : IntKind} {a b : Int} (h : a = b) : Ending.returned (.int k a) = .returned (.int k b) := by rw [h]
theorem ret_bool {a b : Bool} (h : a = b) : Ending.returned (.bool a) = .returned (.bool b) := by rw [h]
theorem belowN {B : Nat} {a w : World} (h : Below B a w) (n : Nat) : Below B a (w.drewN n) := h.trans ⟨rfl, rfl, rfl, Nat.le_refl _, fun _ _ => rfl⟩
theorem drop_get {α : Type} {l : List α} {j : Nat} {a : α} (h : l[j]? = some a) : l.drop j = a :: l.drop (j + 1) := by
  obtain ⟨hj, rfl⟩ := List.getElem?_eq_some_iff.1 h
  exact List.drop_eq_getElem_cons hj

end Go.Proofs.YtpmiakcngjihnaaDoor

set_option linter.unusedVariables false
set_option maxRecDepth 100000
namespace Go.Proofs.YtpmiakcngjihnaaDoor
open Go.RowKit

theorem sbox1 (w : World) (o : Obj) : Below w.heap.size w (w.alloc o) := (Below.refl _ _).alloc (Nat.le_refl _) _
theorem sbox2 (w : World) (o o' : Obj) : Below w.heap.size w ((w.alloc o).alloc o') := (sbox1 w o).alloc (by simp) _
theorem sbox3 (w : World) (o o' o2 : Obj) : Below w.heap.size w (((w.alloc o).alloc o').alloc o2) := (sbox2 w o o').alloc (by simp; omega) _
theorem sbox3_heap (w : World) (o o' o2 : Obj) : (((w.alloc o).alloc o').alloc o2).heap[w.heap.size]? = some o ∧ (((w.alloc o).alloc o').alloc o2).heap[w.heap.size + 1]? = some o' ∧ (((w.alloc o).alloc o').alloc o2).heap[w.heap.size + 2]? = some o2 ∧ (((w.alloc o).alloc o').alloc o2).heap.size = w.heap.size + 3 := by
  have e1 : (w.alloc o).heap.size = w.heap.size + 1 := by simp
  have e2 : ((w.alloc o).alloc o').heap.size = w.heap.size + 2 := by simp
  refine ⟨?_, ?_, ?_, by simp⟩
  · rw [Below.heap_alloc _ _ _ (by omega), Below.heap_alloc _ _ _ (by omega)]
    exact heap_alloc_new w _
  · rw [Below.heap_alloc _ _ _ (by omega)]
    have := heap_alloc_new (w.alloc o) o'
    rw [e1] at this
    exact this
  · have := heap_alloc_new ((w.alloc o).alloc o') o2
    rw [e2] at this
    exact this

end Go.Proofs.YtpmiakcngjihnaaDoor

set_option linter.unusedVariables false
set_option maxRecDepth 100000
namespace Go.Proofs.YtpmiakcngjihnaaDoor
open Go.RowKit

/-- A disk that no call made. -/
def Nobody (w : World) (d : Option Addr) : Prop := d = none ∨ ∃ p, d = some ⟨p, 0, none⟩ ∧ w.cell? ⟨p, 0, none⟩ = some (.int .i64 0)

theorem Nobody.below {w w' : World} {d : Option Addr} (h : Nobody w d) (hb : Below w.heap.size w w') : Nobody w' d := by
  rcases h with h | ⟨p, h, hc⟩
  · exact .inl h
  · exact .inr ⟨p, h, by rw [hb.cell (p := ⟨p, 0, none⟩) (World.block_lt_of_cell? _ _ hc)]; exact hc⟩

set_option maxHeartbeats 400000 in
theorem made_yes {w : World} {p : Nat} {n : Int} (h : w.cell? ⟨p, 0, none⟩ = some (.int .i64 n)) (hn : 0 < n) :
    Calls Tryd.prog 50 #[.pointer (some ⟨p, 0, none⟩)] w fun e w' => e = .returned (.bool true) ∧ w = w' := by
  have hd : decide (0 < n) = true := decide_eq_true hn
  go_enter Tryd.func50, Tryd.ntmps50
  go_wp2
  all_goals first
    | (go_ret; exact ⟨rfl, rfl⟩)
    | trace_state

set_option maxHeartbeats 400000 in
theorem made_no {w : World} {d : Option Addr} (h : Nobody w d) :
    Calls Tryd.prog 50 #[.pointer d] w fun e w' => e = .returned (.bool false) ∧ w = w' := by
  rcases h with rfl | ⟨p, rfl, hc⟩
  · go_enter Tryd.func50, Tryd.ntmps50
    go_wp2
    go_ret
    exact ⟨rfl, rfl⟩
  · go_enter Tryd.func50, Tryd.ntmps50
    go_wp2
    go_ret
    exact ⟨rfl, rfl⟩

set_option maxHeartbeats 400000 in
theorem has_any {w : World} {p : Nat} {n k : Int} (h : w.cell? ⟨p, 0, none⟩ = some (.int .i64 n)) :
    Calls Tryd.prog 56 #[.pointer (some ⟨p, 0, none⟩), .int .i64 k] w fun e w' => e = .returned (.bool (decide (0 ≤ k) && decide (k < n))) ∧ w = w' := by
  by_cases h0 : 0 ≤ k
  · have h1 : decide (0 ≤ k) = true := decide_eq_true h0
    go_enter Tryd.func56, Tryd.ntmps56
    go_wp2
    all_goals (go_ret; exact ⟨by simp_all, rfl⟩)
  · have h1 : decide (0 ≤ k) = false := decide_eq_false h0
    go_enter Tryd.func56, Tryd.ntmps56
    go_wp2
    all_goals (go_ret; exact ⟨by simp_all, rfl⟩)

end Go.Proofs.YtpmiakcngjihnaaDoor

