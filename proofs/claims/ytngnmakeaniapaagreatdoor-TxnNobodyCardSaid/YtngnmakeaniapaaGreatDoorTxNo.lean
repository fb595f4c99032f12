/-
  txn: all calls of a store that no call made; Open and Create of a disk that no call made.
-/
import Derived.Test.YtngnmakeaniapaaGreatDoorGrNoM
set_option linter.unusedVariables false
set_option maxRecDepth 100000
namespace Go.Proofs.YtngnmakeaniapaaGreatDoor
open Go.RowKit

set_option maxHeartbeats 400000 in
theorem txBelow_no {w : World} {d : Option Addr} (h : GrNone w d) :
    Calls Tryz.prog 49 #[.pointer d] w fun e w' => e = .returned (.pointer none) ∧ w = w' := by
  rcases h with rfl | ⟨p, rfl, hc⟩
  · go_enter Tryz.func49, Tryz.ntmps49
    go_wp2
    go_ret
    exact ⟨rfl, rfl⟩
  · go_enter Tryz.func49, Tryz.ntmps49
    go_wp2
    go_ret
    exact ⟨rfl, rfl⟩

set_option maxHeartbeats 400000 in
theorem txMade_no {w : World} {d : Option Addr} (h : GrNone w d) :
    Calls Tryz.prog 53 #[.pointer d] w fun e w' => e = .returned (.bool false) ∧ Below w.heap.size w w' := by
  have H := Lib.hid fun w' (hb : Below w.heap.size w w') => txBelow_no (h.below hb)
  clear h
  go_enter Tryz.func53, Tryz.ntmps53
  go_wp2_with fail
  refine (H.out _ (by first | exact Below.refl _ _ | exact sbox1 _ _ | exact sbox2 _ _ _ | exact sbox3 _ _ _ _)).mono ?_; rintro e w1 ⟨rfl, rfl⟩
  go_wp2
  go_ret
  exact ⟨rfl, by first | exact Below.refl _ _ | exact sbox1 _ _ | exact sbox2 _ _ _ | exact sbox3 _ _ _ _⟩

set_option maxHeartbeats 400000 in
theorem txOpenW_no {w : World} {d : Option Addr} (h : GrNone w d) :
    Calls Tryz.prog 64 #[.pointer d] w fun e w' => e = .returned (.tuple #[.pointer none, .int .i64 1]) ∧ Below w.heap.size w w' := by
  have H := Lib.hid fun w' (hb : Below w.heap.size w w') => txMade_no (h.below hb)
  clear h
  go_enter Tryz.func64, Tryz.ntmps64
  go_wp2_with fail
  refine (H.out _ (by first | exact Below.refl _ _ | exact sbox1 _ _ | exact sbox2 _ _ _ | exact sbox3 _ _ _ _)).mono ?_; rintro e w1 ⟨rfl, hb⟩
  go_wp2
  go_ret2
  exact ⟨rfl, by first | exact hb | exact hb.drew | exact Below.trans (sbox1 _ _) (hb.mono (sbox1 _ _).size) | exact Below.trans (sbox2 _ _ _) (hb.mono (sbox2 _ _ _).size) | exact Below.trans (sbox3 _ _ _ _) (hb.mono (sbox3 _ _ _ _).size)⟩

set_option maxHeartbeats 400000 in
theorem txBegin_no {w : World} {d : Option Addr} (h : GrNone w d) :
    Calls Tryz.prog 18 #[.pointer d] w fun e w' => e = .returned (.int .i64 1) ∧ Below w.heap.size w w' := by
  have H := Lib.hid fun w' (hb : Below w.heap.size w w') => txMade_no (h.below hb)
  clear h
  go_enter Tryz.func18, Tryz.ntmps18
  go_wp2_with fail
  refine (H.out _ (by first | exact Below.refl _ _ | exact sbox1 _ _ | exact sbox2 _ _ _ | exact sbox3 _ _ _ _)).mono ?_; rintro e w1 ⟨rfl, hb⟩
  go_wp2
  go_ret
  exact ⟨rfl, by first | exact hb | exact hb.drew | exact Below.trans (sbox1 _ _) (hb.mono (sbox1 _ _).size) | exact Below.trans (sbox2 _ _ _) (hb.mono (sbox2 _ _ _).size) | exact Below.trans (sbox3 _ _ _ _) (hb.mono (sbox3 _ _ _ _).size)⟩

set_option maxHeartbeats 400000 in
theorem txAbort_no {w : World} {d : Option Addr} (h : GrNone w d) :
    Calls Tryz.prog 33 #[.pointer d] w fun e w' => e = .returned (.int .i64 1) ∧ Below w.heap.size w w' := by
  have H := Lib.hid fun w' (hb : Below w.heap.size w w') => txMade_no (h.below hb)
  clear h
  go_enter Tryz.func33, Tryz.ntmps33
  go_wp2_with fail
  refine (H.out _ (by first | exact Below.refl _ _ | exact sbox1 _ _ | exact sbox2 _ _ _ | exact sbox3 _ _ _ _)).mono ?_; rintro e w1 ⟨rfl, hb⟩
  go_wp2
  go_ret
  exact ⟨rfl, by first | exact hb | exact hb.drew | exact Below.trans (sbox1 _ _) (hb.mono (sbox1 _ _).size) | exact Below.trans (sbox2 _ _ _) (hb.mono (sbox2 _ _ _).size) | exact Below.trans (sbox3 _ _ _ _) (hb.mono (sbox3 _ _ _ _).size)⟩

set_option maxHeartbeats 400000 in
theorem txCommit_no {w : World} {d : Option Addr} (h : GrNone w d) :
    Calls Tryz.prog 32 #[.pointer d] w fun e w' => e = .returned (.int .i64 1) ∧ Below w.heap.size w w' := by
  have H := Lib.hid fun w' (hb : Below w.heap.size w w') => txOpenW_no (h.below hb)
  clear h
  go_enter Tryz.func32, Tryz.ntmps32
  go_wp2_with fail
  refine (H.out _ (by first | exact Below.refl _ _ | exact sbox1 _ _ | exact sbox2 _ _ _ | exact sbox3 _ _ _ _)).mono ?_; rintro e w1 ⟨rfl, hb⟩
  go_wp2
  go_ret
  exact ⟨rfl, by first | exact hb | exact hb.drew | exact Below.trans (sbox1 _ _) (hb.mono (sbox1 _ _).size) | exact Below.trans (sbox2 _ _ _) (hb.mono (sbox2 _ _ _).size) | exact Below.trans (sbox3 _ _ _ _) (hb.mono (sbox3 _ _ _ _).size)⟩

set_option maxHeartbeats 400000 in
theorem txSave_no {w : World} {d : Option Addr} (h : GrNone w d) :
    Calls Tryz.prog 28 #[.pointer d] w fun e w' => e = .returned (.tuple #[.int .i64 0, .int .i64 1]) ∧ Below w.heap.size w w' := by
  have H := Lib.hid fun w' (hb : Below w.heap.size w w') => txOpenW_no (h.below hb)
  clear h
  go_enter Tryz.func28, Tryz.ntmps28
  go_wp2_with fail
  refine (H.out _ (by first | exact Below.refl _ _ | exact sbox1 _ _ | exact sbox2 _ _ _ | exact sbox3 _ _ _ _)).mono ?_; rintro e w1 ⟨rfl, hb⟩
  go_wp2
  go_ret2
  exact ⟨rfl, by first | exact hb | exact hb.drew | exact Below.trans (sbox1 _ _) (hb.mono (sbox1 _ _).size) | exact Below.trans (sbox2 _ _ _) (hb.mono (sbox2 _ _ _).size) | exact Below.trans (sbox3 _ _ _ _) (hb.mono (sbox3 _ _ _ _).size)⟩

set_option maxHeartbeats 400000 in
theorem txBack_no {w : World} {d : Option Addr} (h : GrNone w d) (k : Int) :
    Calls Tryz.prog 34 #[.pointer d, .int .i64 k] w fun e w' => e = .returned (.int .i64 1) ∧ Below w.heap.size w w' := by
  have H := Lib.hid fun w' (hb : Below w.heap.size w w') => txOpenW_no (h.below hb)
  clear h
  go_enter Tryz.func34, Tryz.ntmps34
  go_wp2_with fail
  refine (H.out _ (by first | exact Below.refl _ _ | exact sbox1 _ _ | exact sbox2 _ _ _ | exact sbox3 _ _ _ _)).mono ?_; rintro e w1 ⟨rfl, hb⟩
  go_wp2
  go_ret
  exact ⟨rfl, by first | exact hb | exact hb.drew | exact Below.trans (sbox1 _ _) (hb.mono (sbox1 _ _).size) | exact Below.trans (sbox2 _ _ _) (hb.mono (sbox2 _ _ _).size) | exact Below.trans (sbox3 _ _ _ _) (hb.mono (sbox3 _ _ _ _).size)⟩

set_option maxHeartbeats 400000 in
theorem txPin_no {w : World} {d : Option Addr} (h : GrNone w d) :
    Calls Tryz.prog 29 #[.pointer d] w fun e w' => e = .returned (.tuple #[.int .i64 0, .int .i64 1]) ∧ Below w.heap.size w w' := by
  have H := Lib.hid fun w' (hb : Below w.heap.size w w') => txMade_no (h.below hb)
  clear h
  go_enter Tryz.func29, Tryz.ntmps29
  go_wp2_with fail
  refine (H.out _ (by first | exact Below.refl _ _ | exact sbox1 _ _ | exact sbox2 _ _ _ | exact sbox3 _ _ _ _)).mono ?_; rintro e w1 ⟨rfl, hb⟩
  go_wp2
  go_ret2
  exact ⟨rfl, by first | exact hb | exact hb.drew | exact Below.trans (sbox1 _ _) (hb.mono (sbox1 _ _).size) | exact Below.trans (sbox2 _ _ _) (hb.mono (sbox2 _ _ _).size) | exact Below.trans (sbox3 _ _ _ _) (hb.mono (sbox3 _ _ _ _).size)⟩

set_option maxHeartbeats 400000 in
theorem txRelease_no {w : World} {d : Option Addr} (h : GrNone w d) (k : Int) :
    Calls Tryz.prog 35 #[.pointer d, .int .i64 k] w fun e w' => e = .returned (.int .i64 1) ∧ Below w.heap.size w w' := by
  have H := Lib.hid fun w' (hb : Below w.heap.size w w') => txMade_no (h.below hb)
  clear h
  go_enter Tryz.func35, Tryz.ntmps35
  go_wp2_with fail
  refine (H.out _ (by first | exact Below.refl _ _ | exact sbox1 _ _ | exact sbox2 _ _ _ | exact sbox3 _ _ _ _)).mono ?_; rintro e w1 ⟨rfl, hb⟩
  go_wp2
  go_ret
  exact ⟨rfl, by first | exact hb | exact hb.drew | exact Below.trans (sbox1 _ _) (hb.mono (sbox1 _ _).size) | exact Below.trans (sbox2 _ _ _) (hb.mono (sbox2 _ _ _).size) | exact Below.trans (sbox3 _ _ _ _) (hb.mono (sbox3 _ _ _ _).size)⟩

set_option maxHeartbeats 400000 in
theorem txGet_no {w : World} {d : Option Addr} (h : GrNone w d) (k : Int) (v1 v2 : Value) :
    Calls Tryz.prog 25 #[.pointer d, .int .i64 k, v1, v2] w fun e w' => e = .returned (.tuple #[.slice none 0 0, .bool false, .int .i64 1]) ∧ Below w.heap.size w w' := by
  have H := Lib.hid fun w' (hb : Below w.heap.size w w') => txMade_no (h.below hb)
  clear h
  go_enter Tryz.func25, Tryz.ntmps25
  go_wp2_with fail
  refine (H.out _ (by first | exact Below.refl _ _ | exact sbox1 _ _ | exact sbox2 _ _ _ | exact sbox3 _ _ _ _)).mono ?_; rintro e w1 ⟨rfl, hb⟩
  go_wp2
  refine bodyPost_ret (v := .tuple #[.slice none 0 0, .bool false, .int .i64 1]) (by simp [results, Tryz.results25, go_sem]) rfl ?_
  exact ⟨rfl, by first | exact hb | exact hb.drew | exact Below.trans (sbox1 _ _) (hb.mono (sbox1 _ _).size) | exact Below.trans (sbox2 _ _ _) (hb.mono (sbox2 _ _ _).size) | exact Below.trans (sbox3 _ _ _ _) (hb.mono (sbox3 _ _ _ _).size)⟩

set_option maxHeartbeats 400000 in
theorem txScan_no {w : World} {d : Option Addr} (h : GrNone w d) (k : Int) (v1 v2 v3 : Value) (m : Int) :
    Calls Tryz.prog 26 #[.pointer d, .int .i64 k, v1, v2, v3, .int .i64 m] w fun e w' => e = .returned (.tuple #[.slice none 0 0, .int .i64 1]) ∧ Below w.heap.size w w' := by
  have H := Lib.hid fun w' (hb : Below w.heap.size w w') => txMade_no (h.below hb)
  clear h
  go_enter Tryz.func26, Tryz.ntmps26
  go_wp2_with fail
  refine (H.out _ (by first | exact Below.refl _ _ | exact sbox1 _ _ | exact sbox2 _ _ _ | exact sbox3 _ _ _ _)).mono ?_; rintro e w1 ⟨rfl, hb⟩
  go_wp2
  go_ret2
  exact ⟨rfl, by first | exact hb | exact hb.drew | exact Below.trans (sbox1 _ _) (hb.mono (sbox1 _ _).size) | exact Below.trans (sbox2 _ _ _) (hb.mono (sbox2 _ _ _).size) | exact Below.trans (sbox3 _ _ _ _) (hb.mono (sbox3 _ _ _ _).size)⟩

set_option maxHeartbeats 400000 in
theorem txPut_no {w : World} {d : Option Addr} (h : GrNone w d) (v1 v2 v3 : Value) :
    Calls Tryz.prog 36 #[.pointer d, v1, v2, v3] w fun e w' => e = .returned (.int .i64 1) ∧ Below w.heap.size w w' := by
  have H := Lib.hid fun w' (hb : Below w.heap.size w w') => txOpenW_no (h.below hb)
  clear h
  go_enter Tryz.func36, Tryz.ntmps36
  go_wp2_with fail
  refine (H.out _ (by first | exact Below.refl _ _ | exact sbox1 _ _ | exact sbox2 _ _ _ | exact sbox3 _ _ _ _)).mono ?_; rintro e w1 ⟨rfl, hb⟩
  go_wp2
  go_ret
  exact ⟨rfl, by first | exact hb | exact hb.drew | exact Below.trans (sbox1 _ _) (hb.mono (sbox1 _ _).size) | exact Below.trans (sbox2 _ _ _) (hb.mono (sbox2 _ _ _).size) | exact Below.trans (sbox3 _ _ _ _) (hb.mono (sbox3 _ _ _ _).size)⟩

set_option maxHeartbeats 400000 in
theorem txDel_no {w : World} {d : Option Addr} (h : GrNone w d) (v1 v2 : Value) :
    Calls Tryz.prog 27 #[.pointer d, v1, v2] w fun e w' => e = .returned (.tuple #[.bool false, .int .i64 1]) ∧ Below w.heap.size w w' := by
  have H := Lib.hid fun w' (hb : Below w.heap.size w w') => txOpenW_no (h.below hb)
  clear h
  go_enter Tryz.func27, Tryz.ntmps27
  go_wp2_with fail
  refine (H.out _ (by first | exact Below.refl _ _ | exact sbox1 _ _ | exact sbox2 _ _ _ | exact sbox3 _ _ _ _)).mono ?_; rintro e w1 ⟨rfl, hb⟩
  go_wp2
  go_ret2
  exact ⟨rfl, by first | exact hb | exact hb.drew | exact Below.trans (sbox1 _ _) (hb.mono (sbox1 _ _).size) | exact Below.trans (sbox2 _ _ _) (hb.mono (sbox2 _ _ _).size) | exact Below.trans (sbox3 _ _ _ _) (hb.mono (sbox3 _ _ _ _).size)⟩

set_option maxHeartbeats 400000 in
theorem txPeek_no {w : World} {d : Option Addr} (h : GrNone w d) (k : Int) :
    Calls Tryz.prog 31 #[.pointer d, .int .i64 k] w fun e w' => e = .returned (.tuple #[.int .i64 0, .int .i64 1]) ∧ Below w.heap.size w w' := by
  have H := Lib.hid fun w' (hb : Below w.heap.size w w') => txOpenW_no (h.below hb)
  clear h
  go_enter Tryz.func31, Tryz.ntmps31
  go_wp2_with fail
  refine (H.out _ (by first | exact Below.refl _ _ | exact sbox1 _ _ | exact sbox2 _ _ _ | exact sbox3 _ _ _ _)).mono ?_; rintro e w1 ⟨rfl, hb⟩
  go_wp2
  go_ret2
  exact ⟨rfl, by first | exact hb | exact hb.drew | exact Below.trans (sbox1 _ _) (hb.mono (sbox1 _ _).size) | exact Below.trans (sbox2 _ _ _) (hb.mono (sbox2 _ _ _).size) | exact Below.trans (sbox3 _ _ _ _) (hb.mono (sbox3 _ _ _ _).size)⟩

set_option maxHeartbeats 400000 in
theorem txNext_no {w : World} {d : Option Addr} (h : GrNone w d) (k : Int) :
    Calls Tryz.prog 30 #[.pointer d, .int .i64 k] w fun e w' => e = .returned (.tuple #[.int .i64 0, .int .i64 1]) ∧ Below w.heap.size w w' := by
  have H := Lib.hid fun w' (hb : Below w.heap.size w w') => txPeek_no (h.below hb) k
  clear h
  go_enter Tryz.func30, Tryz.ntmps30
  go_wp2_with fail
  refine (H.out _ (by first | exact Below.refl _ _ | exact sbox1 _ _ | exact sbox2 _ _ _ | exact sbox3 _ _ _ _)).mono ?_; rintro e w1 ⟨rfl, hb⟩
  go_wp2
  go_ret2
  exact ⟨rfl, by first | exact hb | exact hb.drew | exact Below.trans (sbox1 _ _) (hb.mono (sbox1 _ _).size) | exact Below.trans (sbox2 _ _ _) (hb.mono (sbox2 _ _ _).size) | exact Below.trans (sbox3 _ _ _ _) (hb.mono (sbox3 _ _ _ _).size)⟩

set_option maxHeartbeats 400000 in
theorem txActive_no {w : World} {d : Option Addr} (h : GrNone w d) :
    Calls Tryz.prog 22 #[.pointer d] w fun e w' => e = .returned (.bool false) ∧ Below w.heap.size w w' := by
  have H := Lib.hid fun w' (hb : Below w.heap.size w w') => txMade_no (h.below hb)
  clear h
  go_enter Tryz.func22, Tryz.ntmps22
  go_wp2_with fail
  refine (H.out _ (by first | exact Below.refl _ _ | exact sbox1 _ _ | exact sbox2 _ _ _ | exact sbox3 _ _ _ _)).mono ?_; rintro e w1 ⟨rfl, hb⟩
  go_wp2
  go_ret
  exact ⟨rfl, by first | exact hb | exact hb.drew | exact Below.trans (sbox1 _ _) (hb.mono (sbox1 _ _).size) | exact Below.trans (sbox2 _ _ _) (hb.mono (sbox2 _ _ _).size) | exact Below.trans (sbox3 _ _ _ _) (hb.mono (sbox3 _ _ _ _).size)⟩

set_option maxHeartbeats 400000 in
theorem txUsed_no {w : World} {d : Option Addr} (h : GrNone w d) :
    Calls Tryz.prog 15 #[.pointer d] w fun e w' => e = .returned (.int .i64 0) ∧ Below w.heap.size w w' := by
  have H := Lib.hid (txBelow_no h)
  have HP := Lib.hid (grUsed_no (w := w) (d := none) (.inl rfl))
  clear h
  go_enter Tryz.func15, Tryz.ntmps15
  go_wp2_with fail
  refine H.out.mono ?_; rintro e w1 ⟨rfl, rfl⟩
  go_wp2_with fail
  refine HP.out.mono ?_; rintro e w2 ⟨rfl, hb⟩
  go_wp2
  go_ret
  exact ⟨rfl, hb⟩

set_option maxHeartbeats 400000 in
theorem txWaiting_no {w : World} {d : Option Addr} (h : GrNone w d) :
    Calls Tryz.prog 16 #[.pointer d] w fun e w' => e = .returned (.int .i64 0) ∧ Below w.heap.size w w' := by
  have H := Lib.hid (txBelow_no h)
  have HP := Lib.hid (grWaiting_no (w := w) (d := none) (.inl rfl))
  clear h
  go_enter Tryz.func16, Tryz.ntmps16
  go_wp2_with fail
  refine H.out.mono ?_; rintro e w1 ⟨rfl, rfl⟩
  go_wp2_with fail
  refine HP.out.mono ?_; rintro e w2 ⟨rfl, hb⟩
  go_wp2
  go_ret
  exact ⟨rfl, hb⟩

set_option maxHeartbeats 400000 in
theorem txFree_no {w : World} {d : Option Addr} (h : GrNone w d) :
    Calls Tryz.prog 17 #[.pointer d] w fun e w' => e = .returned (.int .i64 0) ∧ Below w.heap.size w w' := by
  have H := Lib.hid (txBelow_no h)
  have HP := Lib.hid (grFree_no (w := w) (d := none) (.inl rfl))
  clear h
  go_enter Tryz.func17, Tryz.ntmps17
  go_wp2_with fail
  refine H.out.mono ?_; rintro e w1 ⟨rfl, rfl⟩
  go_wp2_with fail
  refine HP.out.mono ?_; rintro e w2 ⟨rfl, hb⟩
  go_wp2
  go_ret
  exact ⟨rfl, hb⟩

set_option maxHeartbeats 400000 in
theorem txGen_no {w : World} {d : Option Addr} (h : GrNone w d) :
    Calls Tryz.prog 37 #[.pointer d] w fun e w' => e = .returned (.int .i64 0) ∧ Below w.heap.size w w' := by
  have H := Lib.hid (txBelow_no h)
  have HP := Lib.hid (grMeta_no (w := w) (d := none) (.inl rfl))
  have hfg := meta_gen
  clear h
  go_enter Tryz.func37, Tryz.ntmps37
  go_wp2_with fail
  refine H.out.mono ?_; rintro e w1 ⟨rfl, rfl⟩
  go_wp2_with fail
  refine HP.out.mono ?_; rintro e w2 ⟨rfl, hb⟩
  go_wp2
  go_ret
  exact ⟨rfl, hb⟩

set_option maxHeartbeats 400000 in
theorem txCreate_no {w : World} {d : Option Addr} (h : Nobody w d) :
    Calls Tryz.prog 11 #[.pointer d] w fun e w' => e = .returned (.int .i64 1) ∧ Below w.heap.size w w' := by
  have H := Lib.hid fun w' (hb : Below w.heap.size w w') => grFormat_no (h.below hb)
  clear h
  go_enter Tryz.func11, Tryz.ntmps11
  go_wp2_with fail
  refine (H.out _ (by first | exact Below.refl _ _ | exact sbox1 _ _ | exact sbox2 _ _ _ | exact sbox3 _ _ _ _)).mono ?_; rintro e w1 ⟨rfl, hb⟩
  go_wp2
  go_ret
  exact ⟨rfl, hb⟩

set_option maxHeartbeats 400000 in
theorem txOpen_no {w : World} {d : Option Addr} (h : Nobody w d) :
    Calls Tryz.prog 12 #[.pointer d] w fun e w' => e = .returned (.tuple #[.pointer none, .int .i64 1]) ∧ Below w.heap.size w w' := by
  have H := Lib.hid fun w' (hb : Below w.heap.size w w') => grOpen_no (h.below hb)
  clear h
  go_enter Tryz.func12, Tryz.ntmps12
  go_wp2_with fail
  refine (H.out _ (by first | exact Below.refl _ _ | exact sbox1 _ _ | exact sbox2 _ _ _ | exact sbox3 _ _ _ _)).mono ?_; rintro e w1 ⟨rfl, hb⟩
  go_wp2
  go_ret2
  exact ⟨rfl, by first | exact hb | exact hb.drew⟩

end Go.Proofs.YtngnmakeaniapaaGreatDoor
