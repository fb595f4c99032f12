/-
  txn: all calls of a store that no call made; Open and Create of a disk that no call made.
-/
import Derived.Test.YtbbgdbnjmonbgabGreatDoorGrNoM
set_option linter.unusedVariables false
set_option maxRecDepth 100000
namespace Go.Proofs.YtbbgdbnjmonbgabGreatDoor
open Go.RowKit

set_option maxHeartbeats 400000 in
theorem txBelow_no {w : World} {d : Option Addr} (h : GrNone w d) :
    Calls Tryz.prog 114 #[.pointer d] w fun e w' => e = .returned (.pointer none) ∧ w = w' := by
  rcases h with rfl | ⟨p, rfl, hc⟩
  · go_enter Tryz.func114, Tryz.ntmps114
    go_wp2
    go_ret
    exact ⟨rfl, rfl⟩
  · go_enter Tryz.func114, Tryz.ntmps114
    go_wp2
    go_ret
    exact ⟨rfl, rfl⟩

set_option maxHeartbeats 400000 in
theorem txMade_no {w : World} {d : Option Addr} (h : GrNone w d) :
    Calls Tryz.prog 69 #[.pointer d] w fun e w' => e = .returned (.bool false) ∧ Below w.heap.size w w' := by
  have H := Lib.hid fun w' (hb : Below w.heap.size w w') => txBelow_no (h.below hb)
  clear h
  go_enter Tryz.func69, Tryz.ntmps69
  go_wp2_with fail
  refine (H.out _ (by first | exact Below.refl _ _ | exact sbox1 _ _ | exact sbox2 _ _ _ | exact sbox3 _ _ _ _)).mono ?_; rintro e w1 ⟨rfl, rfl⟩
  go_wp2
  go_ret
  exact ⟨rfl, by first | exact Below.refl _ _ | exact sbox1 _ _ | exact sbox2 _ _ _ | exact sbox3 _ _ _ _⟩

set_option maxHeartbeats 400000 in
theorem txOpenW_no {w : World} {d : Option Addr} (h : GrNone w d) :
    Calls Tryz.prog 33 #[.pointer d] w fun e w' => e = .returned (.tuple #[.pointer none, .int .i64 1]) ∧ Below w.heap.size w w' := by
  have H := Lib.hid fun w' (hb : Below w.heap.size w w') => txMade_no (h.below hb)
  clear h
  go_enter Tryz.func33, Tryz.ntmps33
  go_wp2_with fail
  refine (H.out _ (by first | exact Below.refl _ _ | exact sbox1 _ _ | exact sbox2 _ _ _ | exact sbox3 _ _ _ _)).mono ?_; rintro e w1 ⟨rfl, hb⟩
  go_wp2
  go_ret2
  exact ⟨rfl, by first | exact hb | exact hb.drew | exact Below.trans (sbox1 _ _) (hb.mono (sbox1 _ _).size) | exact Below.trans (sbox2 _ _ _) (hb.mono (sbox2 _ _ _).size) | exact Below.trans (sbox3 _ _ _ _) (hb.mono (sbox3 _ _ _ _).size)⟩

set_option maxHeartbeats 400000 in
theorem txSave_no {w : World} {d : Option Addr} (h : GrNone w d) :
    Calls Tryz.prog 15 #[.pointer d] w fun e w' => e = .returned (.tuple #[.int .i64 0, .int .i64 1]) ∧ Below w.heap.size w w' := by
  have H := Lib.hid fun w' (hb : Below w.heap.size w w') => txOpenW_no (h.below hb)
  clear h
  go_enter Tryz.func15, Tryz.ntmps15
  go_wp2_with fail
  refine (H.out _ (by first | exact Below.refl _ _ | exact sbox1 _ _ | exact sbox2 _ _ _ | exact sbox3 _ _ _ _)).mono ?_; rintro e w1 ⟨rfl, hb⟩
  go_wp2
  go_ret2
  exact ⟨rfl, by first | exact hb | exact hb.drew | exact Below.trans (sbox1 _ _) (hb.mono (sbox1 _ _).size) | exact Below.trans (sbox2 _ _ _) (hb.mono (sbox2 _ _ _).size) | exact Below.trans (sbox3 _ _ _ _) (hb.mono (sbox3 _ _ _ _).size)⟩

set_option maxHeartbeats 400000 in
theorem txBack_no {w : World} {d : Option Addr} (h : GrNone w d) (k : Int) :
    Calls Tryz.prog 35 #[.pointer d, .int .i64 k] w fun e w' => e = .returned (.int .i64 1) ∧ Below w.heap.size w w' := by
  have H := Lib.hid fun w' (hb : Below w.heap.size w w') => txOpenW_no (h.below hb)
  clear h
  go_enter Tryz.func35, Tryz.ntmps35
  go_wp2_with fail
  refine (H.out _ (by first | exact Below.refl _ _ | exact sbox1 _ _ | exact sbox2 _ _ _ | exact sbox3 _ _ _ _)).mono ?_; rintro e w1 ⟨rfl, hb⟩
  go_wp2
  go_ret
  exact ⟨rfl, by first | exact hb | exact hb.drew | exact Below.trans (sbox1 _ _) (hb.mono (sbox1 _ _).size) | exact Below.trans (sbox2 _ _ _) (hb.mono (sbox2 _ _ _).size) | exact Below.trans (sbox3 _ _ _ _) (hb.mono (sbox3 _ _ _ _).size)⟩

set_option maxHeartbeats 400000 in
theorem txGet_no {w : World} {d : Option Addr} (h : GrNone w d) (k : Int) (v1 v2 : Value) :
    Calls Tryz.prog 98 #[.pointer d, .int .i64 k, v1, v2] w fun e w' => e = .returned (.tuple #[.slice none 0 0, .bool false, .int .i64 1]) ∧ Below w.heap.size w w' := by
  have H := Lib.hid fun w' (hb : Below w.heap.size w w') => txMade_no (h.below hb)
  clear h
  go_enter Tryz.func98, Tryz.ntmps98
  go_wp2_with fail
  refine (H.out _ (by first | exact Below.refl _ _ | exact sbox1 _ _ | exact sbox2 _ _ _ | exact sbox3 _ _ _ _)).mono ?_; rintro e w1 ⟨rfl, hb⟩
  go_wp2
  refine bodyPost_ret (v := .tuple #[.slice none 0 0, .bool false, .int .i64 1]) (by simp [results, Tryz.results98, go_sem]) rfl ?_
  exact ⟨rfl, by first | exact hb | exact hb.drew | exact Below.trans (sbox1 _ _) (hb.mono (sbox1 _ _).size) | exact Below.trans (sbox2 _ _ _) (hb.mono (sbox2 _ _ _).size) | exact Below.trans (sbox3 _ _ _ _) (hb.mono (sbox3 _ _ _ _).size)⟩

set_option maxHeartbeats 400000 in
theorem txScan_no {w : World} {d : Option Addr} (h : GrNone w d) (k : Int) (v1 v2 v3 : Value) (m : Int) :
    Calls Tryz.prog 107 #[.pointer d, .int .i64 k, v1, v2, v3, .int .i64 m] w fun e w' => e = .returned (.tuple #[.slice none 0 0, .int .i64 1]) ∧ Below w.heap.size w w' := by
  have H := Lib.hid fun w' (hb : Below w.heap.size w w') => txMade_no (h.below hb)
  clear h
  go_enter Tryz.func107, Tryz.ntmps107
  go_wp2_with fail
  refine (H.out _ (by first | exact Below.refl _ _ | exact sbox1 _ _ | exact sbox2 _ _ _ | exact sbox3 _ _ _ _)).mono ?_; rintro e w1 ⟨rfl, hb⟩
  go_wp2
  go_ret2
  exact ⟨rfl, by first | exact hb | exact hb.drew | exact Below.trans (sbox1 _ _) (hb.mono (sbox1 _ _).size) | exact Below.trans (sbox2 _ _ _) (hb.mono (sbox2 _ _ _).size) | exact Below.trans (sbox3 _ _ _ _) (hb.mono (sbox3 _ _ _ _).size)⟩

set_option maxHeartbeats 400000 in
theorem txPut_no {w : World} {d : Option Addr} (h : GrNone w d) (v1 v2 v3 : Value) :
    Calls Tryz.prog 131 #[.pointer d, v1, v2, v3] w fun e w' => e = .returned (.int .i64 1) ∧ Below w.heap.size w w' := by
  have H := Lib.hid fun w' (hb : Below w.heap.size w w') => txOpenW_no (h.below hb)
  clear h
  go_enter Tryz.func131, Tryz.ntmps131
  go_wp2_with fail
  refine (H.out _ (by first | exact Below.refl _ _ | exact sbox1 _ _ | exact sbox2 _ _ _ | exact sbox3 _ _ _ _)).mono ?_; rintro e w1 ⟨rfl, hb⟩
  go_wp2
  go_ret
  exact ⟨rfl, by first | exact hb | exact hb.drew | exact Below.trans (sbox1 _ _) (hb.mono (sbox1 _ _).size) | exact Below.trans (sbox2 _ _ _) (hb.mono (sbox2 _ _ _).size) | exact Below.trans (sbox3 _ _ _ _) (hb.mono (sbox3 _ _ _ _).size)⟩

set_option maxHeartbeats 400000 in
theorem txDel_no {w : World} {d : Option Addr} (h : GrNone w d) (v1 v2 : Value) :
    Calls Tryz.prog 34 #[.pointer d, v1, v2] w fun e w' => e = .returned (.tuple #[.bool false, .int .i64 1]) ∧ Below w.heap.size w w' := by
  have H := Lib.hid fun w' (hb : Below w.heap.size w w') => txOpenW_no (h.below hb)
  clear h
  go_enter Tryz.func34, Tryz.ntmps34
  go_wp2_with fail
  refine (H.out _ (by first | exact Below.refl _ _ | exact sbox1 _ _ | exact sbox2 _ _ _ | exact sbox3 _ _ _ _)).mono ?_; rintro e w1 ⟨rfl, hb⟩
  go_wp2
  go_ret2
  exact ⟨rfl, by first | exact hb | exact hb.drew | exact Below.trans (sbox1 _ _) (hb.mono (sbox1 _ _).size) | exact Below.trans (sbox2 _ _ _) (hb.mono (sbox2 _ _ _).size) | exact Below.trans (sbox3 _ _ _ _) (hb.mono (sbox3 _ _ _ _).size)⟩

set_option maxHeartbeats 400000 in
theorem txPeek_no {w : World} {d : Option Addr} (h : GrNone w d) (k : Int) :
    Calls Tryz.prog 129 #[.pointer d, .int .i64 k] w fun e w' => e = .returned (.tuple #[.int .i64 0, .int .i64 1]) ∧ Below w.heap.size w w' := by
  have H := Lib.hid fun w' (hb : Below w.heap.size w w') => txOpenW_no (h.below hb)
  clear h
  go_enter Tryz.func129, Tryz.ntmps129
  go_wp2_with fail
  refine (H.out _ (by first | exact Below.refl _ _ | exact sbox1 _ _ | exact sbox2 _ _ _ | exact sbox3 _ _ _ _)).mono ?_; rintro e w1 ⟨rfl, hb⟩
  go_wp2
  go_ret2
  exact ⟨rfl, by first | exact hb | exact hb.drew | exact Below.trans (sbox1 _ _) (hb.mono (sbox1 _ _).size) | exact Below.trans (sbox2 _ _ _) (hb.mono (sbox2 _ _ _).size) | exact Below.trans (sbox3 _ _ _ _) (hb.mono (sbox3 _ _ _ _).size)⟩

set_option maxHeartbeats 400000 in
theorem txNext_no {w : World} {d : Option Addr} (h : GrNone w d) (k : Int) :
    Calls Tryz.prog 77 #[.pointer d, .int .i64 k] w fun e w' => e = .returned (.tuple #[.int .i64 0, .int .i64 1]) ∧ Below w.heap.size w w' := by
  have H := Lib.hid fun w' (hb : Below w.heap.size w w') => txPeek_no (h.below hb) k
  clear h
  go_enter Tryz.func77, Tryz.ntmps77
  go_wp2_with fail
  refine (H.out _ (by first | exact Below.refl _ _ | exact sbox1 _ _ | exact sbox2 _ _ _ | exact sbox3 _ _ _ _)).mono ?_; rintro e w1 ⟨rfl, hb⟩
  go_wp2
  go_ret2
  exact ⟨rfl, by first | exact hb | exact hb.drew | exact Below.trans (sbox1 _ _) (hb.mono (sbox1 _ _).size) | exact Below.trans (sbox2 _ _ _) (hb.mono (sbox2 _ _ _).size) | exact Below.trans (sbox3 _ _ _ _) (hb.mono (sbox3 _ _ _ _).size)⟩

end Go.Proofs.YtbbgdbnjmonbgabGreatDoor
