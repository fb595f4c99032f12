/-
  sector: made, has; and all calls of a disk that no call made.
-/
import Derived.Test.YtbbgdbnjmonbgabGreatDoorBase
import Derived.WalkSpells
import Derived.WalkLawsBesides
import Derived.RegionTactic
import Derived.Lib.Hide
set_option linter.unusedVariables false
set_option maxRecDepth 100000
namespace Go.Proofs.YtbbgdbnjmonbgabGreatDoor
open Go.RowKit

/-- A disk that no call made. -/
def Nobody (w : World) (d : Option Addr) : Prop := d = none ∨ ∃ p, d = some ⟨p, 0, none⟩ ∧ w.cell? ⟨p, 0, none⟩ = some (.int .i64 0)

theorem Nobody.below {w w' : World} {d : Option Addr} (h : Nobody w d) (hb : Below w.heap.size w w') : Nobody w' d := by
  rcases h with h | ⟨p, h, hc⟩
  · exact .inl h
  · exact .inr ⟨p, h, by rw [hb.cell (p := ⟨p, 0, none⟩) (World.block_lt_of_cell? _ _ hc)]; exact hc⟩

set_option maxHeartbeats 400000 in
theorem made_yes {w : World} {p : Nat} {n : Int} (h : w.cell? ⟨p, 0, none⟩ = some (.int .i64 n)) (hn : 0 < n) :
    Calls Tryz.prog 272 #[.pointer (some ⟨p, 0, none⟩)] w fun e w' => e = .returned (.bool true) ∧ w = w' := by
  have hd : decide (0 < n) = true := decide_eq_true hn
  go_enter Tryz.func272, Tryz.ntmps272
  go_wp2
  all_goals first
    | (go_ret; exact ⟨rfl, rfl⟩)
    | trace_state

set_option maxHeartbeats 400000 in
theorem made_no {w : World} {d : Option Addr} (h : Nobody w d) :
    Calls Tryz.prog 272 #[.pointer d] w fun e w' => e = .returned (.bool false) ∧ w = w' := by
  rcases h with rfl | ⟨p, rfl, hc⟩
  · go_enter Tryz.func272, Tryz.ntmps272
    go_wp2
    go_ret
    exact ⟨rfl, rfl⟩
  · go_enter Tryz.func272, Tryz.ntmps272
    go_wp2
    go_ret
    exact ⟨rfl, rfl⟩

set_option maxHeartbeats 400000 in
theorem has_any {w : World} {p : Nat} {n k : Int} (h : w.cell? ⟨p, 0, none⟩ = some (.int .i64 n)) :
    Calls Tryz.prog 273 #[.pointer (some ⟨p, 0, none⟩), .int .i64 k] w fun e w' => e = .returned (.bool (decide (0 ≤ k) && decide (k < n))) ∧ w = w' := by
  by_cases h0 : 0 ≤ k
  · have h1 : decide (0 ≤ k) = true := decide_eq_true h0
    go_enter Tryz.func273, Tryz.ntmps273
    go_wp2
    all_goals (go_ret; exact ⟨by simp_all, rfl⟩)
  · have h1 : decide (0 ≤ k) = false := decide_eq_false h0
    go_enter Tryz.func273, Tryz.ntmps273
    go_wp2
    all_goals (go_ret; exact ⟨by simp_all, rfl⟩)

end Go.Proofs.YtbbgdbnjmonbgabGreatDoor
