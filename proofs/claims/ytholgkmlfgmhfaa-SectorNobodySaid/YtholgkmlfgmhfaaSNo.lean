/-
  sector: all calls of a disk that no call made.
-/
import Derived.Test.YtholgkmlfgmhfaaSMade
import Derived.Test.YtholgkmlfgmhfaaSBox
set_option linter.unusedVariables false
set_option maxRecDepth 100000
namespace Go.Proofs.Ytholgkmlfgmhfaa
open Go.RowKit

set_option maxHeartbeats 400000 in
theorem cut_no {w : World} {d : Option Addr} (h : Nobody w d) (k : Int) :
    Calls Try.prog 15 #[.pointer d, .int .i64 k] w fun e w' => e = .returned (.tuple #[]) ∧ w = w' := by
  have H := Lib.hid (made_no h)
  clear h
  go_enter Try.func15, Try.ntmps15
  go_wp2_with fail
  refine H.out.mono ?_; rintro e w1 ⟨rfl, rfl⟩
  go_wp2
  go_end0
  exact ⟨rfl, rfl⟩

set_option maxHeartbeats 400000 in
theorem read_no {w : World} {d : Option Addr} (h : Nobody w d) (k : Int) :
    Calls Try.prog 21 #[.pointer d, .int .i64 k] w fun e w' => e = .returned (.tuple #[.slice none 0 0, .int .i64 1]) ∧ w = w' := by
  have H := Lib.hid (made_no h)
  clear h
  go_enter Try.func21, Try.ntmps21
  go_wp2_with fail
  refine H.out.mono ?_; rintro e w1 ⟨rfl, rfl⟩
  go_wp2
  go_ret2
  exact ⟨rfl, rfl⟩

set_option maxHeartbeats 400000 in
theorem crash_no {w : World} {d : Option Addr} (h : Nobody w d) (v : Value) :
    Calls Try.prog 16 #[.pointer d, v] w fun e w' => e = .returned (.tuple #[.pointer none, .int .i64 1]) ∧ w = w' := by
  have H := Lib.hid (made_no h)
  clear h
  go_enter Try.func16, Try.ntmps16
  go_wp2_with fail
  refine H.out.mono ?_; rintro e w1 ⟨rfl, rfl⟩
  go_wp2
  go_ret2
  exact ⟨rfl, rfl⟩

set_option maxHeartbeats 400000 in
theorem ops_no {w : World} {d : Option Addr} (h : Nobody w d) :
    Calls Try.prog 18 #[.pointer d] w fun e w' => e = .returned (.int .i64 0) ∧ w = w' := by
  have H := Lib.hid (made_no h)
  clear h
  go_enter Try.func18, Try.ntmps18
  go_wp2_with fail
  refine H.out.mono ?_; rintro e w1 ⟨rfl, rfl⟩
  go_wp2
  go_ret
  exact ⟨rfl, rfl⟩

set_option maxHeartbeats 400000 in
theorem waiting_no {w : World} {d : Option Addr} (h : Nobody w d) :
    Calls Try.prog 19 #[.pointer d] w fun e w' => e = .returned (.int .i64 0) ∧ w = w' := by
  have H := Lib.hid (made_no h)
  clear h
  go_enter Try.func19, Try.ntmps19
  go_wp2_with fail
  refine H.out.mono ?_; rintro e w1 ⟨rfl, rfl⟩
  go_wp2
  go_ret
  exact ⟨rfl, rfl⟩

set_option maxHeartbeats 400000 in
theorem len_no {w : World} {d : Option Addr} (h : Nobody w d) :
    Calls Try.prog 20 #[.pointer d] w fun e w' => e = .returned (.int .i64 0) ∧ w = w' := by
  have H := Lib.hid (made_no h)
  clear h
  go_enter Try.func20, Try.ntmps20
  go_wp2_with fail
  refine H.out.mono ?_; rintro e w1 ⟨rfl, rfl⟩
  go_wp2
  go_ret
  exact ⟨rfl, rfl⟩

set_option maxHeartbeats 400000 in
theorem write_no {w : World} {d : Option Addr} (h : Nobody w d) (k : Int) :
    Calls Try.prog 11 #[.pointer d, .int .i64 k, .slice none 0 0] w fun e w' => e = .returned (.int .i64 1) ∧ Below w.heap.size w w' := by
  have H := Lib.hid fun w' hb => made_no (h.below (w' := w') hb)
  clear h
  go_enter Try.func11, Try.ntmps11
  go_wp2_with fail
  refine (H.out _ (sbox3 _ _ _ _)).mono ?_; rintro e w1 ⟨rfl, rfl⟩
  go_wp2
  go_ret
  exact ⟨rfl, sbox3 _ _ _ _⟩

set_option maxHeartbeats 400000 in
theorem flush_no {w : World} {d : Option Addr} (h : Nobody w d) :
    Calls Try.prog 13 #[.pointer d] w fun e w' => e = .returned (.int .i64 1) ∧ Below w.heap.size w w' := by
  have H := Lib.hid fun w' hb => made_no (h.below (w' := w') hb)
  clear h
  go_enter Try.func13, Try.ntmps13
  go_wp2_with fail
  refine (H.out _ (sbox1 _ _)).mono ?_; rintro e w1 ⟨rfl, rfl⟩
  go_wp2
  go_ret
  exact ⟨rfl, sbox1 _ _⟩

end Go.Proofs.Ytholgkmlfgmhfaa
