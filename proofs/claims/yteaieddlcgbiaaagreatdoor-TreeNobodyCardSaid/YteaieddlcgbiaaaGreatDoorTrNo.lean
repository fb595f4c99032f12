/-
  tree: all calls of a pager that no call made.
-/
import Derived.Test.YteaieddlcgbiaaaGreatDoorGrNo
set_option linter.unusedVariables false
set_option maxRecDepth 100000
namespace Go.Proofs.YteaieddlcgbiaaaGreatDoor
open Go.RowKit

/-- Two boxes that were made just ahead of a call, behind it. -/
theorem two_boxes {w0 w1 : World} {v v' : Value} {t t' : TypeId} (hb : Below ((w0.alloc (.cells #[v] t)).alloc (.cells #[v'] t')).heap.size ((w0.alloc (.cells #[v] t)).alloc (.cells #[v'] t')) w1) :
    (w1.cell? ⟨w0.heap.size, 0, none⟩ = some v ∧ w1.frozen? ⟨w0.heap.size, 0, none⟩ = false) ∧ (w1.cell? ⟨w0.heap.size + 1, 0, none⟩ = some v' ∧ w1.frozen? ⟨w0.heap.size + 1, 0, none⟩ = false) ∧ Below w0.heap.size w0 w1 := by
  have e1 : (w0.alloc (.cells #[v] t)).heap.size = w0.heap.size + 1 := by simp
  have h1 : w1.heap[w0.heap.size]? = some (.cells #[v] t (0, 0)) := by
    rw [hb.block _ (by simp; omega), Below.heap_alloc _ _ _ (by omega)]
    exact heap_alloc_new w0 _
  have h2 : w1.heap[w0.heap.size + 1]? = some (.cells #[v'] t' (0, 0)) := by
    rw [hb.block _ (by simp)]
    have := heap_alloc_new (w0.alloc (.cells #[v] t)) (.cells #[v'] t')
    rw [e1] at this
    exact this
  exact ⟨⟨(Joins.cell_of_block h1 0).trans rfl, Joins.unfrozen_of_block h1 0⟩, ⟨(Joins.cell_of_block h2 0).trans rfl, Joins.unfrozen_of_block h2 0⟩, (sbox2 w0 _ _).trans (hb.mono (by simp; omega))⟩

set_option maxHeartbeats 400000 in
theorem trMade_no {w : World} {d : Option Addr} (h : GrNone w d) :
    Calls Tryz.prog 16 #[.pointer d] w fun e w' => e = .returned (.bool false) ∧ Below w.heap.size w w' := by
  have H := Lib.hid fun w' (hb : Below w.heap.size w w') => grRead_no (h.below hb) 0
  clear h
  go_enter Tryz.func16, Tryz.ntmps16
  go_wp2_with fail
  refine (H.out _ (by first | exact Below.refl _ _ | exact sbox1 _ _ | exact sbox2 _ _ _)).mono ?_; rintro e w1 ⟨rfl, hb⟩
  go_wp2
  go_ret
  exact ⟨rfl, by first | exact hb | exact hb.drew⟩

set_option maxHeartbeats 400000 in
theorem trGet_no {w : World} {d : Option Addr} (h : GrNone w d) (k : Int) {q : Option Addr} {n c : Nat} :
    Calls Tryz.prog 7 #[.pointer d, .int .i64 k, .slice q n c] w fun e w' => e = .returned (.tuple #[.slice none 0 0, .bool false, .int .i64 1]) ∧ Below w.heap.size w w' := by
  have H := Lib.hid fun w' (hb : Below w.heap.size w w') => trMade_no (h.below hb)
  clear h
  go_enter Tryz.func7, Tryz.ntmps7
  go_wp2_with fail
  refine (H.out _ (by first | exact Below.refl _ _ | exact sbox1 _ _ | exact sbox2 _ _ _ | exact sbox3 _ _ _ _)).mono ?_; rintro e w1 ⟨rfl, hb⟩
  go_wp2
  exact bodyPost_ret (v := .tuple #[.slice none 0 0, .bool false, .int .i64 1]) (by simp [results, Tryz.results7, go_sem]) rfl ⟨rfl, by first | exact hb | exact Below.trans (sbox1 _ _) (hb.mono (sbox1 _ _).size) | exact Below.trans (sbox2 _ _ _) (hb.mono (sbox2 _ _ _).size)⟩

set_option maxHeartbeats 400000 in
theorem trPut_no {w : World} {d : Option Addr} (h : GrNone w d) (k : Int) {q : Option Addr} {n c : Nat} (v : Value) :
    Calls Tryz.prog 8 #[.pointer d, .int .i64 k, .slice q n c, v] w fun e w' => e = .returned (.tuple #[.int .i64 0, .int .i64 1]) ∧ Below w.heap.size w w' := by
  have H := Lib.hid fun w' (hb : Below w.heap.size w w') => trMade_no (h.below hb)
  clear h
  go_enter Tryz.func8, Tryz.ntmps8
  go_wp2_with fail
  refine (H.out _ (by first | exact Below.refl _ _ | exact sbox1 _ _ | exact sbox2 _ _ _ | exact sbox3 _ _ _ _)).mono ?_; rintro e w1 ⟨rfl, hb⟩
  go_wp2
  exact bodyPost_ret (v := .tuple #[.int .i64 0, .int .i64 1]) (by simp [results, Tryz.results8, go_sem]) rfl ⟨rfl, by first | exact hb | exact Below.trans (sbox1 _ _) (hb.mono (sbox1 _ _).size) | exact Below.trans (sbox2 _ _ _) (hb.mono (sbox2 _ _ _).size)⟩

set_option maxHeartbeats 400000 in
theorem trDel_no {w : World} {d : Option Addr} (h : GrNone w d) (k : Int) {q : Option Addr} {n c : Nat} :
    Calls Tryz.prog 9 #[.pointer d, .int .i64 k, .slice q n c] w fun e w' => e = .returned (.tuple #[.int .i64 0, .bool false, .int .i64 1]) ∧ Below w.heap.size w w' := by
  have H := Lib.hid fun w' (hb : Below w.heap.size w w') => trMade_no (h.below hb)
  clear h
  go_enter Tryz.func9, Tryz.ntmps9
  go_wp2_with fail
  refine (H.out _ (by first | exact Below.refl _ _ | exact sbox1 _ _ | exact sbox2 _ _ _ | exact sbox3 _ _ _ _)).mono ?_; rintro e w1 ⟨rfl, hb⟩
  go_wp2
  exact bodyPost_ret (v := .tuple #[.int .i64 0, .bool false, .int .i64 1]) (by simp [results, Tryz.results9, go_sem]) rfl ⟨rfl, by first | exact hb | exact Below.trans (sbox1 _ _) (hb.mono (sbox1 _ _).size) | exact Below.trans (sbox2 _ _ _) (hb.mono (sbox2 _ _ _).size)⟩

set_option maxHeartbeats 400000 in
theorem trScan_no {w : World} {d : Option Addr} (h : GrNone w d) (k : Int) (v1 v2 : Value) (m : Int) :
    Calls Tryz.prog 10 #[.pointer d, .int .i64 k, v1, v2, .int .i64 m] w fun e w' => e = .returned (.tuple #[.slice none 0 0, .int .i64 1]) ∧ Below w.heap.size w w' := by
  have H := Lib.hid fun w' (hb : Below w.heap.size w w') => trMade_no (h.below hb)
  clear h
  go_enter Tryz.func10, Tryz.ntmps10
  go_wp2_with fail
  refine (H.out _ (by first | exact sbox2 _ _ _ | exact sbox3 _ _ _ _)).mono ?_; rintro e w1 ⟨rfl, hb⟩
  obtain ⟨⟨c1, f1⟩, ⟨c2, f2⟩, hb'⟩ := two_boxes hb
  have HB : Hid (Below w.heap.size w w1) := Lib.hid ((sbox1 w _).trans (hb'.mono (by simp)))
  try simp only [World.size_alloc] at c1 f1 c2 f2
  clear hb hb'
  go_wp2
  exact bodyPost_ret (v := .tuple #[.slice none 0 0, .int .i64 1]) (by simp [results, Tryz.results10, go_sem, c1, c2]) rfl ⟨rfl, (HB.out.setCell (by first | (simp; done) | (simp; omega)) _).setCell (by first | (simp; done) | (simp; omega)) _⟩

set_option maxHeartbeats 400000 in
theorem trPages_no {w : World} {d : Option Addr} (h : GrNone w d) (k : Int) :
    Calls Tryz.prog 11 #[.pointer d, .int .i64 k] w fun e w' => e = .returned (.tuple #[.slice none 0 0, .int .i64 1]) ∧ Below w.heap.size w w' := by
  have H := Lib.hid fun w' (hb : Below w.heap.size w w') => trMade_no (h.below hb)
  clear h
  go_enter Tryz.func11, Tryz.ntmps11
  go_wp2_with fail
  refine (H.out _ (by first | exact sbox2 _ _ _ | exact sbox3 _ _ _ _)).mono ?_; rintro e w1 ⟨rfl, hb⟩
  obtain ⟨⟨c1, f1⟩, ⟨c2, f2⟩, hb'⟩ := two_boxes hb
  have HB : Hid (Below w.heap.size w w1) := Lib.hid (hb')
  try simp only [World.size_alloc] at c1 f1 c2 f2
  clear hb hb'
  go_wp2
  exact bodyPost_ret (v := .tuple #[.slice none 0 0, .int .i64 1]) (by simp [results, Tryz.results11, go_sem, c1, c2]) rfl ⟨rfl, (HB.out.setCell (by first | (simp; done) | (simp; omega)) _).setCell (by first | (simp; done) | (simp; omega)) _⟩

set_option maxHeartbeats 400000 in
theorem trDepth_no {w : World} {d : Option Addr} (h : GrNone w d) (k : Int) :
    Calls Tryz.prog 12 #[.pointer d, .int .i64 k] w fun e w' => e = .returned (.tuple #[.int .i64 0, .int .i64 1]) ∧ Below w.heap.size w w' := by
  have H := Lib.hid fun w' (hb : Below w.heap.size w w') => trMade_no (h.below hb)
  clear h
  go_enter Tryz.func12, Tryz.ntmps12
  go_wp2_with fail
  refine (H.out _ (by first | exact Below.refl _ _ | exact sbox1 _ _ | exact sbox2 _ _ _ | exact sbox3 _ _ _ _)).mono ?_; rintro e w1 ⟨rfl, hb⟩
  go_wp2
  exact bodyPost_ret (v := .tuple #[.int .i64 0, .int .i64 1]) (by simp [results, Tryz.results12, go_sem]) rfl ⟨rfl, by first | exact hb | exact Below.trans (sbox1 _ _) (hb.mono (sbox1 _ _).size) | exact Below.trans (sbox2 _ _ _) (hb.mono (sbox2 _ _ _).size)⟩

end Go.Proofs.YteaieddlcgbiaaaGreatDoor
