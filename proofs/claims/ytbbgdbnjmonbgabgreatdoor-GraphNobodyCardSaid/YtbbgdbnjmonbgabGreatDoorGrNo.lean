/-
  pager: all calls of a pager that no call made; Open and Format of a disk that no call made.
-/
import Derived.Test.YtbbgdbnjmonbgabGreatDoorSMade
import Derived.Test.YtbbgdbnjmonbgabGreatDoorSBox
set_option linter.unusedVariables false
set_option maxRecDepth 100000
namespace Go.Proofs.YtbbgdbnjmonbgabGreatDoor
open Go.RowKit

/-- A pager that no call made. -/
def GrNone (w : World) (d : Option Addr) : Prop := d = none ∨ ∃ p, d = some ⟨p, 0, none⟩ ∧ w.cell? ⟨p, 0, none⟩ = some (.pointer none)

theorem GrNone.below {w w' : World} {d : Option Addr} (h : GrNone w d) (hb : Below w.heap.size w w') : GrNone w' d := by
  rcases h with h | ⟨p, h, hc⟩
  · exact .inl h
  · exact .inr ⟨p, h, by rw [hb.cell (p := ⟨p, 0, none⟩) (World.block_lt_of_cell? _ _ hc)]; exact hc⟩

set_option maxHeartbeats 400000 in
theorem grMade_no {w : World} {d : Option Addr} (h : GrNone w d) :
    Calls Tryz.prog 229 #[.pointer d] w fun e w' => e = .returned (.bool false) ∧ w = w' := by
  rcases h with rfl | ⟨p, rfl, hc⟩
  · go_enter Tryz.func229, Tryz.ntmps229
    go_wp2
    go_ret
    exact ⟨rfl, rfl⟩
  · go_enter Tryz.func229, Tryz.ntmps229
    go_wp2
    go_ret
    exact ⟨rfl, rfl⟩

set_option maxHeartbeats 400000 in
theorem grMade_yes {w : World} {p : Nat} {a : Addr} (hc : w.cell? ⟨p, 0, none⟩ = some (.pointer (some a))) :
    Calls Tryz.prog 229 #[.pointer (some ⟨p, 0, none⟩)] w fun e w' => e = .returned (.bool true) ∧ w = w' := by
  go_enter Tryz.func229, Tryz.ntmps229
  go_wp2
  go_ret
  exact ⟨rfl, rfl⟩

set_option maxHeartbeats 400000 in
theorem grMeta_no {w : World} {d : Option Addr} (h : GrNone w d) :
    Calls Tryz.prog 195 #[.pointer d] w fun e w' => e = .returned (.agg #[.int .i64 0, .int .i64 0, .int .i64 0, .int .i64 0]) ∧ Below w.heap.size w w' := by
  have H := Lib.hid fun w' (hb : Below w.heap.size w w') => grMade_no (h.below hb)
  clear h
  go_enter Tryz.func195, Tryz.ntmps195
  go_wp2_with fail
  refine (H.out _ (by first | exact Below.refl _ _ | exact sbox1 _ _ | exact sbox2 _ _ _)).mono ?_; rintro e w1 ⟨rfl, rfl⟩
  go_wp2
  have b0 := heap_alloc_new w (.cells #[.int .i64 0, .int .i64 0, .int .i64 0, .int .i64 0] 293)
  have c0 := (Joins.cell_of_block b0 0).trans rfl
  have c1 := (Joins.cell_of_block b0 1).trans rfl
  have c2 := (Joins.cell_of_block b0 2).trans rfl
  have c3 := (Joins.cell_of_block b0 3).trans rfl
  exact bodyPost_ret (v := .agg #[.int .i64 0, .int .i64 0, .int .i64 0, .int .i64 0]) (by simp [results, Tryz.results195, go_sem, c0, c1, c2, c3]) rfl ⟨rfl, sbox1 _ _⟩

set_option maxHeartbeats 400000 in
theorem grLay_no {w : World} {d : Option Addr} (h : GrNone w d) (k : Int) (v : Value) :
    Calls Tryz.prog 338 #[.pointer d, .int .u8 k, v] w fun e w' => e = .returned (.tuple #[.int .i64 0, .int .i64 1]) ∧ Below w.heap.size w w' := by
  have H := Lib.hid fun w' (hb : Below w.heap.size w w') => grMade_no (h.below hb)
  clear h
  go_enter Tryz.func338, Tryz.ntmps338
  go_wp2_with fail
  refine (H.out _ (by first | exact Below.refl _ _ | exact sbox1 _ _ | exact sbox2 _ _ _)).mono ?_; rintro e w1 ⟨rfl, rfl⟩
  go_wp2
  go_ret2
  exact ⟨rfl, by first | exact Below.refl _ _ | exact sbox1 _ _ | exact sbox2 _ _ _⟩

set_option maxHeartbeats 400000 in
theorem grRead_no {w : World} {d : Option Addr} (h : GrNone w d) (k : Int) :
    Calls Tryz.prog 211 #[.pointer d, .int .i64 k] w fun e w' => e = .returned (.tuple #[.int .u8 0, .slice none 0 0, .int .i64 1]) ∧ Below w.heap.size w w' := by
  have H := Lib.hid fun w' (hb : Below w.heap.size w w') => grMade_no (h.below hb)
  clear h
  go_enter Tryz.func211, Tryz.ntmps211
  go_wp2_with fail
  refine (H.out _ (by first | exact Below.refl _ _ | exact sbox1 _ _ | exact sbox2 _ _ _)).mono ?_; rintro e w1 ⟨rfl, rfl⟩
  go_wp2
  exact bodyPost_ret (v := .tuple #[.int .u8 0, .slice none 0 0, .int .i64 1]) (by simp [results, Tryz.results211, go_sem]) rfl ⟨rfl, by first | exact Below.refl _ _ | exact sbox1 _ _ | exact sbox2 _ _ _⟩

set_option maxHeartbeats 400000 in
theorem grDrop_no {w : World} {d : Option Addr} (h : GrNone w d) (k : Int) :
    Calls Tryz.prog 320 #[.pointer d, .int .i64 k] w fun e w' => e = .returned (.int .i64 1) ∧ Below w.heap.size w w' := by
  have H := Lib.hid fun w' (hb : Below w.heap.size w w') => grMade_no (h.below hb)
  clear h
  go_enter Tryz.func320, Tryz.ntmps320
  go_wp2_with fail
  refine (H.out _ (by first | exact Below.refl _ _ | exact sbox1 _ _ | exact sbox2 _ _ _)).mono ?_; rintro e w1 ⟨rfl, rfl⟩
  go_wp2
  go_ret
  exact ⟨rfl, by first | exact Below.refl _ _ | exact sbox1 _ _ | exact sbox2 _ _ _⟩

end Go.Proofs.YtbbgdbnjmonbgabGreatDoor
