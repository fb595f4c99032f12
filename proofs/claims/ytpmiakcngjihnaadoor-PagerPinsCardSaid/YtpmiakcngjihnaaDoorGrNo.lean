/-
  pager: all calls of a pager that no call made; Open and Format of a disk that no call made.
-/
import Derived.Test.YtpmiakcngjihnaaDoorGm1
set_option linter.unusedVariables false
set_option maxRecDepth 100000
namespace Go.Proofs.YtpmiakcngjihnaaDoor
open Go.RowKit

/-- A pager that no call made. -/
def GrNone (w : World) (d : Option Addr) : Prop := d = none ∨ ∃ p, d = some ⟨p, 0, none⟩ ∧ w.cell? ⟨p, 0, none⟩ = some (.pointer none)

theorem GrNone.below {w w' : World} {d : Option Addr} (h : GrNone w d) (hb : Below w.heap.size w w') : GrNone w' d := by
  rcases h with h | ⟨p, h, hc⟩
  · exact .inl h
  · exact .inr ⟨p, h, by rw [hb.cell (p := ⟨p, 0, none⟩) (World.block_lt_of_cell? _ _ hc)]; exact hc⟩

set_option maxHeartbeats 400000 in
theorem grMade_no {w : World} {d : Option Addr} (h : GrNone w d) :
    Calls Tryd.prog 36 #[.pointer d] w fun e w' => e = .returned (.bool false) ∧ w = w' := by
  rcases h with rfl | ⟨p, rfl, hc⟩
  · go_enter Tryd.func36, Tryd.ntmps36
    go_wp2
    go_ret
    exact ⟨rfl, rfl⟩
  · go_enter Tryd.func36, Tryd.ntmps36
    go_wp2
    go_ret
    exact ⟨rfl, rfl⟩

set_option maxHeartbeats 400000 in
theorem grMade_yes {w : World} {p : Nat} {a : Addr} (hc : w.cell? ⟨p, 0, none⟩ = some (.pointer (some a))) :
    Calls Tryd.prog 36 #[.pointer (some ⟨p, 0, none⟩)] w fun e w' => e = .returned (.bool true) ∧ w = w' := by
  go_enter Tryd.func36, Tryd.ntmps36
  go_wp2
  go_ret
  exact ⟨rfl, rfl⟩

set_option maxHeartbeats 400000 in
theorem grLen_no {w : World} {d : Option Addr} (h : Nobody w d) :
    Calls Tryd.prog 29 #[.pointer d] w fun e w' => e = .returned (.int .i64 0) ∧ w = w' := by
  have H := Lib.hid (made_no h)
  clear h
  go_enter Tryd.func29, Tryd.ntmps29
  go_wp2_with fail
  refine H.out.mono ?_; rintro e w1 ⟨rfl, rfl⟩
  go_wp2
  go_ret
  exact ⟨rfl, rfl⟩

set_option maxHeartbeats 400000 in
theorem grKeep_no {w : World} {d : Option Addr} (h : GrNone w d) (v : Value) :
    Calls Tryd.prog 11 #[.pointer d, v] w fun e w' => e = .returned (.int .i64 1) ∧ Below w.heap.size w w' := by
  have H := Lib.hid fun w' (hb : Below w.heap.size w w') => grMade_no (h.below hb)
  clear h
  go_enter Tryd.func11, Tryd.ntmps11
  go_wp2_with fail
  refine (H.out _ (by first | exact Below.refl _ _ | exact sbox1 _ _ | exact sbox2 _ _ _)).mono ?_; rintro e w1 ⟨rfl, rfl⟩
  go_wp2
  go_ret
  exact ⟨rfl, by first | exact Below.refl _ _ | exact sbox1 _ _ | exact sbox2 _ _ _⟩

set_option maxHeartbeats 400000 in
theorem grMeta_no {w : World} {d : Option Addr} (h : GrNone w d) :
    Calls Tryd.prog 19 #[.pointer d] w fun e w' => e = .returned (.agg #[.int .i64 0, .int .i64 0, .int .i64 0, .int .i64 0]) ∧ Below w.heap.size w w' := by
  have H := Lib.hid fun w' (hb : Below w.heap.size w w') => grMade_no (h.below hb)
  clear h
  go_enter Tryd.func19, Tryd.ntmps19
  go_wp2_with fail
  refine (H.out _ (by first | exact Below.refl _ _ | exact sbox1 _ _ | exact sbox2 _ _ _)).mono ?_; rintro e w1 ⟨rfl, rfl⟩
  go_wp2
  have b0 := heap_alloc_new w (.cells #[.int .i64 0, .int .i64 0, .int .i64 0, .int .i64 0] 49)
  have c0 := (Joins.cell_of_block b0 0).trans rfl
  have c1 := (Joins.cell_of_block b0 1).trans rfl
  have c2 := (Joins.cell_of_block b0 2).trans rfl
  have c3 := (Joins.cell_of_block b0 3).trans rfl
  exact bodyPost_ret (v := .agg #[.int .i64 0, .int .i64 0, .int .i64 0, .int .i64 0]) (by simp [results, Tryd.results19, go_sem, c0, c1, c2, c3]) rfl ⟨rfl, sbox1 _ _⟩

set_option maxHeartbeats 400000 in
theorem grLay_no {w : World} {d : Option Addr} (h : GrNone w d) (k : Int) (v : Value) :
    Calls Tryd.prog 12 #[.pointer d, .int .u8 k, v] w fun e w' => e = .returned (.tuple #[.int .i64 0, .int .i64 1]) ∧ Below w.heap.size w w' := by
  have H := Lib.hid fun w' (hb : Below w.heap.size w w') => grMade_no (h.below hb)
  clear h
  go_enter Tryd.func12, Tryd.ntmps12
  go_wp2_with fail
  refine (H.out _ (by first | exact Below.refl _ _ | exact sbox1 _ _ | exact sbox2 _ _ _)).mono ?_; rintro e w1 ⟨rfl, rfl⟩
  go_wp2
  go_ret2
  exact ⟨rfl, by first | exact Below.refl _ _ | exact sbox1 _ _ | exact sbox2 _ _ _⟩

set_option maxHeartbeats 400000 in
theorem grRead_no {w : World} {d : Option Addr} (h : GrNone w d) (k : Int) :
    Calls Tryd.prog 26 #[.pointer d, .int .i64 k] w fun e w' => e = .returned (.tuple #[.int .u8 0, .slice none 0 0, .int .i64 1]) ∧ Below w.heap.size w w' := by
  have H := Lib.hid fun w' (hb : Below w.heap.size w w') => grMade_no (h.below hb)
  clear h
  go_enter Tryd.func26, Tryd.ntmps26
  go_wp2_with fail
  refine (H.out _ (by first | exact Below.refl _ _ | exact sbox1 _ _ | exact sbox2 _ _ _)).mono ?_; rintro e w1 ⟨rfl, rfl⟩
  go_wp2
  exact bodyPost_ret (v := .tuple #[.int .u8 0, .slice none 0 0, .int .i64 1]) (by simp [results, Tryd.results26, go_sem]) rfl ⟨rfl, by first | exact Below.refl _ _ | exact sbox1 _ _ | exact sbox2 _ _ _⟩

set_option maxHeartbeats 400000 in
theorem grDrop_no {w : World} {d : Option Addr} (h : GrNone w d) (k : Int) :
    Calls Tryd.prog 13 #[.pointer d, .int .i64 k] w fun e w' => e = .returned (.int .i64 1) ∧ Below w.heap.size w w' := by
  have H := Lib.hid fun w' (hb : Below w.heap.size w w') => grMade_no (h.below hb)
  clear h
  go_enter Tryd.func13, Tryd.ntmps13
  go_wp2_with fail
  refine (H.out _ (by first | exact Below.refl _ _ | exact sbox1 _ _ | exact sbox2 _ _ _)).mono ?_; rintro e w1 ⟨rfl, rfl⟩
  go_wp2
  go_ret
  exact ⟨rfl, by first | exact Below.refl _ _ | exact sbox1 _ _ | exact sbox2 _ _ _⟩

set_option maxHeartbeats 400000 in
theorem grCommit_no {w : World} {d : Option Addr} (h : GrNone w d) (r n d2 : Int) :
    Calls Tryd.prog 14 #[.pointer d, .int .i64 r, .int .i64 n, .int .i64 d2] w fun e w' => e = .returned (.int .i64 1) ∧ Below w.heap.size w w' := by
  have H := Lib.hid fun w' (hb : Below w.heap.size w w') => grMade_no (h.below hb)
  clear h
  go_enter Tryd.func14, Tryd.ntmps14
  go_wp2_with fail
  refine (H.out _ (by first | exact Below.refl _ _ | exact sbox1 _ _ | exact sbox2 _ _ _)).mono ?_; rintro e w1 ⟨rfl, rfl⟩
  go_wp2
  go_ret
  exact ⟨rfl, by first | exact Below.refl _ _ | exact sbox1 _ _ | exact sbox2 _ _ _⟩

set_option maxHeartbeats 400000 in
theorem grAbort_no {w : World} {d : Option Addr} (h : GrNone w d) :
    Calls Tryd.prog 17 #[.pointer d] w fun e w' => e = .returned (.int .i64 1) ∧ Below w.heap.size w w' := by
  have H := Lib.hid fun w' (hb : Below w.heap.size w w') => grMade_no (h.below hb)
  clear h
  go_enter Tryd.func17, Tryd.ntmps17
  go_wp2_with fail
  refine (H.out _ (by first | exact Below.refl _ _ | exact sbox1 _ _ | exact sbox2 _ _ _)).mono ?_; rintro e w1 ⟨rfl, rfl⟩
  go_wp2
  go_ret
  exact ⟨rfl, by first | exact Below.refl _ _ | exact sbox1 _ _ | exact sbox2 _ _ _⟩

set_option maxHeartbeats 400000 in
theorem grPin_no {w : World} {d : Option Addr} (h : GrNone w d) :
    Calls Tryd.prog 18 #[.pointer d] w fun e w' => e = .returned (.tuple #[.int .i64 0, .int .i64 1]) ∧ Below w.heap.size w w' := by
  have H := Lib.hid fun w' (hb : Below w.heap.size w w') => grMade_no (h.below hb)
  clear h
  go_enter Tryd.func18, Tryd.ntmps18
  go_wp2_with fail
  refine (H.out _ (by first | exact Below.refl _ _ | exact sbox1 _ _ | exact sbox2 _ _ _)).mono ?_; rintro e w1 ⟨rfl, rfl⟩
  go_wp2
  go_ret2
  exact ⟨rfl, by first | exact Below.refl _ _ | exact sbox1 _ _ | exact sbox2 _ _ _⟩

set_option maxHeartbeats 400000 in
theorem grUnpin_no {w : World} {d : Option Addr} (h : GrNone w d) (k : Int) :
    Calls Tryd.prog 20 #[.pointer d, .int .i64 k] w fun e w' => e = .returned (.int .i64 1) ∧ Below w.heap.size w w' := by
  have H := Lib.hid fun w' (hb : Below w.heap.size w w') => grMade_no (h.below hb)
  clear h
  go_enter Tryd.func20, Tryd.ntmps20
  go_wp2_with fail
  refine (H.out _ (by first | exact Below.refl _ _ | exact sbox1 _ _ | exact sbox2 _ _ _)).mono ?_; rintro e w1 ⟨rfl, rfl⟩
  go_wp2
  go_ret
  exact ⟨rfl, by first | exact Below.refl _ _ | exact sbox1 _ _ | exact sbox2 _ _ _⟩

set_option maxHeartbeats 400000 in
theorem grFree_no {w : World} {d : Option Addr} (h : GrNone w d) :
    Calls Tryd.prog 23 #[.pointer d] w fun e w' => e = .returned (.int .i64 0) ∧ Below w.heap.size w w' := by
  have H := Lib.hid fun w' (hb : Below w.heap.size w w') => grMade_no (h.below hb)
  clear h
  go_enter Tryd.func23, Tryd.ntmps23
  go_wp2_with fail
  refine (H.out _ (by first | exact Below.refl _ _ | exact sbox1 _ _ | exact sbox2 _ _ _)).mono ?_; rintro e w1 ⟨rfl, rfl⟩
  go_wp2
  go_ret
  exact ⟨rfl, by first | exact Below.refl _ _ | exact sbox1 _ _ | exact sbox2 _ _ _⟩

set_option maxHeartbeats 400000 in
theorem grWaiting_no {w : World} {d : Option Addr} (h : GrNone w d) :
    Calls Tryd.prog 25 #[.pointer d] w fun e w' => e = .returned (.int .i64 0) ∧ Below w.heap.size w w' := by
  have H := Lib.hid fun w' (hb : Below w.heap.size w w') => grMade_no (h.below hb)
  clear h
  go_enter Tryd.func25, Tryd.ntmps25
  go_wp2_with fail
  refine (H.out _ (by first | exact Below.refl _ _ | exact sbox1 _ _ | exact sbox2 _ _ _)).mono ?_; rintro e w1 ⟨rfl, rfl⟩
  go_wp2
  go_ret
  exact ⟨rfl, by first | exact Below.refl _ _ | exact sbox1 _ _ | exact sbox2 _ _ _⟩

set_option maxHeartbeats 400000 in
theorem grUsed_no {w : World} {d : Option Addr} (h : GrNone w d) :
    Calls Tryd.prog 24 #[.pointer d] w fun e w' => e = .returned (.int .i64 0) ∧ Below w.heap.size w w' := by
  have H := Lib.hid fun w' (hb : Below w.heap.size w w') => grMade_no (h.below hb)
  clear h
  go_enter Tryd.func24, Tryd.ntmps24
  go_wp2_with fail
  refine (H.out _ (by first | exact Below.refl _ _ | exact sbox1 _ _ | exact sbox2 _ _ _)).mono ?_; rintro e w1 ⟨rfl, rfl⟩
  go_wp2
  go_ret
  exact ⟨rfl, by first | exact Below.refl _ _ | exact sbox1 _ _ | exact sbox2 _ _ _⟩

set_option maxHeartbeats 400000 in
theorem grFormat_no {w : World} {d : Option Addr} (h : Nobody w d) :
    Calls Tryd.prog 9 #[.pointer d] w fun e w' => e = .returned (.int .i64 1) ∧ Below w.heap.size w w' := by
  have H := Lib.hid fun w' (hb : Below w.heap.size w w') => grLen_no (h.below hb)
  clear h
  go_enter Tryd.func9, Tryd.ntmps9
  go_wp2_with fail
  refine (H.out _ (by first | exact Below.refl _ _ | exact sbox1 _ _ | exact sbox2 _ _ _)).mono ?_; rintro e w1 ⟨rfl, rfl⟩
  go_wp2
  go_ret
  exact ⟨rfl, by first | exact Below.refl _ _ | exact sbox1 _ _ | exact sbox2 _ _ _⟩

set_option maxHeartbeats 400000 in
theorem grOpen_no {w : World} {d : Option Addr} (h : Nobody w d) :
    Calls Tryd.prog 10 #[.pointer d] w fun e w' => e = .returned (.tuple #[.pointer none, .int .i64 1]) ∧ Below w.heap.size w w' := by
  have H := Lib.hid fun w' (hb : Below w.heap.size w w') => grLen_no (h.below hb)
  clear h
  go_enter Tryd.func10, Tryd.ntmps10
  go_wp2_with fail
  refine (H.out _ (by first | exact Below.refl _ _ | exact sbox1 _ _ | exact sbox2 _ _ _)).mono ?_; rintro e w1 ⟨rfl, rfl⟩
  go_wp2
  go_ret2
  exact ⟨rfl, by first | exact Below.refl _ _ | exact sbox1 _ _ | exact sbox2 _ _ _⟩

end Go.Proofs.YtpmiakcngjihnaaDoor
