/-
  The table of digits; floats.digit and floats.Parse: contracts for the walks.
-/
import Derived.Test.YtckmajcophpddaaDoorFCanon
import Derived.Test.YtckmajcophpddaaDoorFHexP
import Derived.Laws.Rows
import Derived.Below
set_option linter.unusedVariables false
set_option maxRecDepth 100000
namespace Go.Proofs.YtckmajcophpddaaDoor
open Go.RowKit

/-- The table's cells. -/
def tabC : Array Value := #[.int .u8 48, .int .u8 49, .int .u8 50, .int .u8 51, .int .u8 52, .int .u8 53, .int .u8 54, .int .u8 55, .int .u8 56, .int .u8 57, .int .u8 97, .int .u8 98, .int .u8 99, .int .u8 100, .int .u8 101, .int .u8 102]
/-- The table lies in its variable. -/
def Tab (w : World) : Prop := ∃ t fr, w.heap[1]? = some (.cells tabC t fr)
theorem Tab.lt {w : World} (h : Tab w) : 1 < w.heap.size := by
  obtain ⟨t, fr, h⟩ := h
  rcases Nat.lt_or_ge 1 w.heap.size with h1 | h1
  · exact h1
  · rw [Array.getElem?_eq_none h1] at h
    cases h
theorem Tab.below {w w' : World} (h : Tab w) (hb : Below w.heap.size w w') : Tab w' := by
  have hl := h.lt
  obtain ⟨t, fr, h⟩ := h
  exact ⟨t, fr, (hb.block 1 hl).trans h⟩
theorem tabc_at {j : Nat} (h : j < 16) : tabC[j]? = some (.int .u8 ((dgt j).toNat : Int)) := by
  have h16 : ∀ j : Fin 16, (match tabC[j.val]? with | some (.int .u8 x) => decide (x = ((dgt j.val).toNat : Int)) | _ => false) = true := by decide +kernel
  have := h16 ⟨j, h⟩
  simp only at this
  split at this
  · rename_i x hx
    rw [hx, of_decide_eq_true this]
  · cases this
theorem Tab.cell {w : World} (h : Tab w) {j : Nat} (hj : j < 16) : w.cell? ⟨1, j, none⟩ = some (.int .u8 ((dgt j).toNat : Int)) := by
  obtain ⟨t, fr, h⟩ := h
  rw [cell_of_row w 1 j tabC t fr h]
  exact tabc_at hj

theorem run_tab0 (w : World) : (Instr.index 82 (.agg tabC) (.int .i64 0)).run Tryd.prog w = .ok (.int .u8 48) w := by kernel_rfl
theorem run_tab1 (w : World) : (Instr.index 82 (.agg tabC) (.int .i64 1)).run Tryd.prog w = .ok (.int .u8 49) w := by kernel_rfl
theorem run_tab2 (w : World) : (Instr.index 82 (.agg tabC) (.int .i64 2)).run Tryd.prog w = .ok (.int .u8 50) w := by kernel_rfl
theorem run_tab3 (w : World) : (Instr.index 82 (.agg tabC) (.int .i64 3)).run Tryd.prog w = .ok (.int .u8 51) w := by kernel_rfl
theorem run_tab4 (w : World) : (Instr.index 82 (.agg tabC) (.int .i64 4)).run Tryd.prog w = .ok (.int .u8 52) w := by kernel_rfl
theorem run_tab5 (w : World) : (Instr.index 82 (.agg tabC) (.int .i64 5)).run Tryd.prog w = .ok (.int .u8 53) w := by kernel_rfl
theorem run_tab6 (w : World) : (Instr.index 82 (.agg tabC) (.int .i64 6)).run Tryd.prog w = .ok (.int .u8 54) w := by kernel_rfl
theorem run_tab7 (w : World) : (Instr.index 82 (.agg tabC) (.int .i64 7)).run Tryd.prog w = .ok (.int .u8 55) w := by kernel_rfl
theorem run_tab8 (w : World) : (Instr.index 82 (.agg tabC) (.int .i64 8)).run Tryd.prog w = .ok (.int .u8 56) w := by kernel_rfl
theorem run_tab9 (w : World) : (Instr.index 82 (.agg tabC) (.int .i64 9)).run Tryd.prog w = .ok (.int .u8 57) w := by kernel_rfl
theorem run_tab10 (w : World) : (Instr.index 82 (.agg tabC) (.int .i64 10)).run Tryd.prog w = .ok (.int .u8 97) w := by kernel_rfl
theorem run_tab11 (w : World) : (Instr.index 82 (.agg tabC) (.int .i64 11)).run Tryd.prog w = .ok (.int .u8 98) w := by kernel_rfl
theorem run_tab12 (w : World) : (Instr.index 82 (.agg tabC) (.int .i64 12)).run Tryd.prog w = .ok (.int .u8 99) w := by kernel_rfl
theorem run_tab13 (w : World) : (Instr.index 82 (.agg tabC) (.int .i64 13)).run Tryd.prog w = .ok (.int .u8 100) w := by kernel_rfl
theorem run_tab14 (w : World) : (Instr.index 82 (.agg tabC) (.int .i64 14)).run Tryd.prog w = .ok (.int .u8 101) w := by kernel_rfl
theorem run_tab15 (w : World) : (Instr.index 82 (.agg tabC) (.int .i64 15)).run Tryd.prog w = .ok (.int .u8 102) w := by kernel_rfl
theorem run_tab {j : Nat} (hj : j < 16) (w : World) : (Instr.index 82 (.agg tabC) (.int .i64 (j : Int))).run Tryd.prog w = .ok (.int .u8 ((dgt j).toNat : Int)) w := by
  have hc : j = 0 ∨ j = 1 ∨ j = 2 ∨ j = 3 ∨ j = 4 ∨ j = 5 ∨ j = 6 ∨ j = 7 ∨ j = 8 ∨ j = 9 ∨ j = 10 ∨ j = 11 ∨ j = 12 ∨ j = 13 ∨ j = 14 ∨ j = 15 := by omega
  rcases hc with rfl | rfl | rfl | rfl | rfl | rfl | rfl | rfl | rfl | rfl | rfl | rfl | rfl | rfl | rfl | rfl
  · exact run_tab0 w
  · exact run_tab1 w
  · exact run_tab2 w
  · exact run_tab3 w
  · exact run_tab4 w
  · exact run_tab5 w
  · exact run_tab6 w
  · exact run_tab7 w
  · exact run_tab8 w
  · exact run_tab9 w
  · exact run_tab10 w
  · exact run_tab11 w
  · exact run_tab12 w
  · exact run_tab13 w
  · exact run_tab14 w
  · exact run_tab15 w

def digPost (c : Nat) (w : World) (e : Ending) (w' : World) : Prop := e = .returned (.tuple #[.int .u64 (if digV c < 16 then (digV c : Int) else 0), .bool (decide (digV c < 16))]) ∧ w = w'
theorem ret2_ib {k : IntKind} {a b : Int} {x y : Bool} (h : a = b) (h2 : x = y) : Ending.returned (.tuple #[.int k a, .bool x]) = .returned (.tuple #[.int k b, .bool y]) := by rw [h, h2]

set_option maxHeartbeats 400000 in
theorem digit_any {w : World} (hT : Tab w) (c : Nat) (hc : c < 256) :
    Calls Tryd.prog 63 #[.int .u8 (c : Int)] w (digPost c w) := by
  obtain ⟨t, fr, hh⟩ := hT
  have HH := Lib.hid hh
  have HC := Lib.hid hc
  clear hh
  go_enter Tryd.func63, Tryd.ntmps63
  go_wp2_with (refine wpList_load_row rfl 82 _ rfl 1 rfl t tabC fr _ HH.out Tryd.underlying82 rfl (by kernel_rfl) ?_)
  clear hc
  go_loop [7] (fun i => ∃ j : Nat, i = .int .i64 j ∧ j ≤ digV c ∧ j ≤ 16) (fun i => 16 - (intOf i).toNat)
  case atStart => exact ⟨0, rfl, by omega, by omega⟩
  case round =>
    obtain ⟨j, rfl, hj, hj16⟩ := hrel
    by_cases hlt : j < 16
    · have hx := run_tab hlt w
      have hl8 := (dgt j).toNat_lt
      by_cases he : digV c = j
      · have h1 : (((dgt j).toNat : Int) == (c : Int)) = true := by
          have := (dgt_iff hlt HC.out).2 he
          rw [beq_iff_eq]
          omega
        have HE := Lib.hid he
        clear he hj
        generalize (dgt j).toNat = d at *
        go_wp2
        go_ret2
        have h2 := HE.out
        refine ⟨ret2_ib ?_ ?_, rfl⟩
        · rw [if_pos (by omega), h2]
        · rw [decide_eq_true (by omega)]
      · have h1 : (((dgt j).toNat : Int) == (c : Int)) = false := by
          rw [beq_eq_false_iff_ne]
          intro h
          exact he ((dgt_iff hlt HC.out).1 (by omega))
        have HJ : Hid (j + 1 ≤ digV c) := Lib.hid (by omega)
        clear he hj
        generalize (dgt j).toNat = d at *
        go_wp2
        go_round
        case rel => exact ⟨j + 1, by go_num, HJ.out, by omega⟩
        case measure => simp [intOf]; omega
    · have HJ : Hid (digV c = 16) := Lib.hid (by have := digV_le c; omega)
      clear hj
      go_wp2
      go_ret2
      have h2 := HJ.out
      refine ⟨ret2_ib ?_ ?_, rfl⟩
      · rw [if_neg (by omega)]
      · rw [decide_eq_false (by omega)]

/-- What Parse tells of a text. -/
def parB (l : List UInt8) : Nat × Int :=
  if l.length = 16 ∧ (∀ x ∈ l, digV x.toNat < 16) ∧ canonB (hexN l) = hexN l then (hexN l, 0) else (0, 11)

end Go.Proofs.YtckmajcophpddaaDoor
