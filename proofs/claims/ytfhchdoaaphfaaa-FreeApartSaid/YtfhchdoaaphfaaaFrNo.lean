/-
  free: all calls of a list that no call made.
-/
import Derived.Test.YtfhchdoaaphfaaaSBox
import Derived.WalkSpells
import Derived.WalkLawsBesides
import Derived.RegionTactic
import Derived.Lib.Hide
set_option linter.unusedVariables false
set_option maxRecDepth 100000
namespace Go.Proofs.Ytfhchdoaaphfaaa
open Go.RowKit

/-- A list that no call made. -/
def FrNone (w : World) (d : Option Addr) : Prop := d = none ∨ ∃ p, d = some ⟨p, 0, none⟩ ∧ w.cell? ⟨p, 2, none⟩ = some (.map none)

theorem FrNone.below {w w' : World} {d : Option Addr} (h : FrNone w d) (hb : Below w.heap.size w w') : FrNone w' d := by
  rcases h with h | ⟨p, h, hc⟩
  · exact .inl h
  · exact .inr ⟨p, h, by rw [hb.cell (p := ⟨p, 2, none⟩) (World.block_lt_of_cell? _ _ hc)]; exact hc⟩

theorem frNeq_no (w : World) : (binOp BinOp.neq 23 (.map none) (.map none)).run Try.prog w = .ok (.bool false) w := by kernel_rfl
theorem frNeq_yes (w : World) (b : Nat) : (binOp BinOp.neq 23 (.map (some b)) (.map none)).run Try.prog w = .ok (.bool true) w := by kernel_rfl

set_option maxHeartbeats 400000 in
theorem frMade_no {w : World} {d : Option Addr} (h : FrNone w d) :
    Calls Try.prog 17 #[.pointer d] w fun e w' => e = .returned (.bool false) ∧ w = w' := by
  rcases h with rfl | ⟨p, rfl, hc⟩
  · go_enter Try.func17, Try.ntmps17
    go_wp2
    go_ret
    exact ⟨rfl, rfl⟩
  · have hne := frNeq_no
    go_enter Try.func17, Try.ntmps17
    go_wp2
    go_ret
    exact ⟨rfl, rfl⟩

set_option maxHeartbeats 400000 in
theorem frMade_yes {w : World} {p b : Nat} (hc : w.cell? ⟨p, 2, none⟩ = some (.map (some b))) :
    Calls Try.prog 17 #[.pointer (some ⟨p, 0, none⟩)] w fun e w' => e = .returned (.bool true) ∧ w = w' := by
  have hne := frNeq_yes
  go_enter Try.func17, Try.ntmps17
  go_wp2
  go_ret
  exact ⟨rfl, rfl⟩

set_option maxHeartbeats 400000 in
theorem frAlloc_no {w : World} {d : Option Addr} (h : FrNone w d) :
    Calls Try.prog 6 #[.pointer d] w fun e w' => e = .returned (.tuple #[.int .i64 0, .int .i64 1]) ∧ Below w.heap.size w w' := by
  have H := Lib.hid fun w' hb => frMade_no (h.below (w' := w') hb)
  clear h
  go_enter Try.func6, Try.ntmps6
  go_wp2_with fail
  refine (H.out _ (sbox1 _ _)).mono ?_; rintro e w1 ⟨rfl, rfl⟩
  go_wp2
  go_ret2
  exact ⟨rfl, sbox1 _ _⟩

set_option maxHeartbeats 400000 in
theorem frUse_no {w : World} {d : Option Addr} (h : FrNone w d) (k : Int) :
    Calls Try.prog 7 #[.pointer d, .int .i64 k] w fun e w' => e = .returned (.int .i64 1) ∧ w = w' := by
  have H := Lib.hid (frMade_no h)
  clear h
  go_enter Try.func7, Try.ntmps7
  go_wp2_with fail
  refine (H.out).mono ?_; rintro e w1 ⟨rfl, rfl⟩
  go_wp2
  go_ret
  exact ⟨rfl, rfl⟩

set_option maxHeartbeats 400000 in
theorem frGive_no {w : World} {d : Option Addr} (h : FrNone w d) (k : Int) :
    Calls Try.prog 8 #[.pointer d, .int .i64 k] w fun e w' => e = .returned (.int .i64 1) ∧ w = w' := by
  have H := Lib.hid (frMade_no h)
  clear h
  go_enter Try.func8, Try.ntmps8
  go_wp2_with fail
  refine (H.out).mono ?_; rintro e w1 ⟨rfl, rfl⟩
  go_wp2
  go_ret
  exact ⟨rfl, rfl⟩

set_option maxHeartbeats 400000 in
theorem frLater_no {w : World} {d : Option Addr} (h : FrNone w d) (k g : Int) :
    Calls Try.prog 9 #[.pointer d, .int .i64 k, .int .i64 g] w fun e w' => e = .returned (.int .i64 1) ∧ w = w' := by
  have H := Lib.hid (frMade_no h)
  clear h
  go_enter Try.func9, Try.ntmps9
  go_wp2_with fail
  refine (H.out).mono ?_; rintro e w1 ⟨rfl, rfl⟩
  go_wp2
  go_ret
  exact ⟨rfl, rfl⟩

set_option maxHeartbeats 400000 in
theorem frFree_no {w : World} {d : Option Addr} (h : FrNone w d) :
    Calls Try.prog 12 #[.pointer d] w fun e w' => e = .returned (.int .i64 0) ∧ w = w' := by
  have H := Lib.hid (frMade_no h)
  clear h
  go_enter Try.func12, Try.ntmps12
  go_wp2_with fail
  refine (H.out).mono ?_; rintro e w1 ⟨rfl, rfl⟩
  go_wp2
  go_ret
  exact ⟨rfl, rfl⟩

set_option maxHeartbeats 400000 in
theorem frWaiting_no {w : World} {d : Option Addr} (h : FrNone w d) :
    Calls Try.prog 13 #[.pointer d] w fun e w' => e = .returned (.int .i64 0) ∧ w = w' := by
  have H := Lib.hid (frMade_no h)
  clear h
  go_enter Try.func13, Try.ntmps13
  go_wp2_with fail
  refine (H.out).mono ?_; rintro e w1 ⟨rfl, rfl⟩
  go_wp2
  go_ret
  exact ⟨rfl, rfl⟩

set_option maxHeartbeats 400000 in
theorem frUsed_no {w : World} {d : Option Addr} (h : FrNone w d) :
    Calls Try.prog 14 #[.pointer d] w fun e w' => e = .returned (.int .i64 0) ∧ w = w' := by
  have H := Lib.hid (frMade_no h)
  clear h
  go_enter Try.func14, Try.ntmps14
  go_wp2_with fail
  refine (H.out).mono ?_; rintro e w1 ⟨rfl, rfl⟩
  go_wp2
  go_ret
  exact ⟨rfl, rfl⟩

set_option maxHeartbeats 400000 in
theorem frState_no {w : World} {d : Option Addr} (h : FrNone w d) (k : Int) :
    Calls Try.prog 15 #[.pointer d, .int .i64 k] w fun e w' => e = .returned (.int .i64 0) ∧ w = w' := by
  have H := Lib.hid (frMade_no h)
  clear h
  go_enter Try.func15, Try.ntmps15
  go_wp2_with fail
  refine (H.out).mono ?_; rintro e w1 ⟨rfl, rfl⟩
  go_wp2
  go_ret
  exact ⟨rfl, rfl⟩

set_option maxHeartbeats 400000 in
theorem frLeave_no {w : World} {d : Option Addr} (h : FrNone w d) (v : Value) :
    Calls Try.prog 22 #[.pointer d, v] w fun e w' => e = .returned (.slice none 0 0) ∧ w = w' := by
  have H := Lib.hid (frMade_no h)
  clear h
  go_enter Try.func22, Try.ntmps22
  go_wp2_with fail
  refine H.out.mono ?_; rintro e w1 ⟨rfl, rfl⟩
  go_wp2
  go_ret
  exact ⟨rfl, rfl⟩

set_option maxHeartbeats 400000 in
theorem frSettle_no {w : World} {d : Option Addr} (h : FrNone w d) (k : Int) :
    Calls Try.prog 10 #[.pointer d, .int .i64 k] w fun e w' => e = .returned (.int .i64 0) ∧ Below w.heap.size w w' := by
  have H := Lib.hid fun w' hb v => frLeave_no (h.below (w' := w') hb) v
  clear h
  have hmf : ∀ (fn : Fn) (first cap : Array Value) (w : World), (Instr.makeFunc fn first cap).run Try.prog w = .ok (.func fn first cap) w := fun _ _ _ _ => rfl
  go_enter Try.func10, Try.ntmps10
  go_wp2_with fail
  refine (H.out _ (sbox1 _ _) _).mono ?_; rintro e w1 ⟨rfl, rfl⟩
  go_wp2
  go_ret
  exact ⟨rfl, sbox1 _ _⟩

set_option maxHeartbeats 400000 in
theorem frForget_no {w : World} {d : Option Addr} (h : FrNone w d) (k : Int) :
    Calls Try.prog 11 #[.pointer d, .int .i64 k] w fun e w' => e = .returned (.int .i64 0) ∧ Below w.heap.size w w' := by
  have H := Lib.hid fun w' hb v => frLeave_no (h.below (w' := w') hb) v
  clear h
  have hmf : ∀ (fn : Fn) (first cap : Array Value) (w : World), (Instr.makeFunc fn first cap).run Try.prog w = .ok (.func fn first cap) w := fun _ _ _ _ => rfl
  go_enter Try.func11, Try.ntmps11
  go_wp2_with fail
  refine (H.out _ (sbox1 _ _) _).mono ?_; rintro e w1 ⟨rfl, rfl⟩
  go_wp2
  refine wp_loop_rounds 1 ?_
  rw [rounds_succ]
  go_wp2
  go_ret
  exact ⟨rfl, sbox1 _ _⟩

end Go.Proofs.Ytfhchdoaaphfaaa
