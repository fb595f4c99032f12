/-
  graph: all calls of a graph that no call made (sides, labels, indexes, all).
-/
import Derived.Test.YtbbgdbnjmonbgabGreatDoorGpNo
set_option linter.unusedVariables false
set_option maxRecDepth 100000
namespace Go.Proofs.YtbbgdbnjmonbgabGreatDoor
open Go.RowKit

set_option maxHeartbeats 400000 in
theorem sgNumbers_no {w : World} {d : Option Addr} (h : GrNone w d) (v : Int) (n rd : Value) {q : Option Addr} {l : List UInt8} (hl : Bs w q l) (m c : Nat) (hm : m = l.length) (hmc : m ≤ c) (hc : c ≤ 9223372036854775807) (hlen : l.length ≤ 100000) :
    Calls Tryz.prog 46 #[.agg #[.pointer d, .int .i64 v, .func (.func 32) #[] #[]], n, .slice q m c, rd] w fun e w' => e = .returned (.tuple #[.slice none 0 0, .int .i64 1]) ∧ Below w.heap.size w w' := by
  have H := Lib.hid fun w' (hb : Below w.heap.size w w') => sgBehind_no (h.below hb) v n (hl.below hb) m c hm hmc hc hlen
  clear h hl hm hmc hc hlen
  go_enter Tryz.func46, Tryz.ntmps46
  go_wp2_with fail
  refine (H.out _ (by first | exact Below.refl _ _ | exact (Below.refl _ _).drew | exact sbox1 _ _ | exact sbox2 _ _ _ | exact sbox3 _ _ _ _)).mono ?_; rintro e w1 ⟨rfl, hb⟩
  go_wp2
  go_ret2
  exact ⟨rfl, (by first | exact hb | exact (hb).drew | exact Below.trans (sbox1 _ _) ((hb).mono (sbox1 _ _).size) | exact Below.trans (sbox2 _ _ _) ((hb).mono (sbox2 _ _ _).size) | exact Below.trans (sbox3 _ _ _ _) ((hb).mono (sbox3 _ _ _ _).size) | exact Below.trans (Below.refl _ _).drew ((hb).mono (Below.refl _ _).drew.size))⟩

set_option maxHeartbeats 1600000 in
theorem sgSide_no {w : World} {d : Option Addr} (h : GrNone w d) (v : Int) (n : Value) (m : Int) (h1 : -9223372036854775808 ≤ m) (h2 : m ≤ 9223372036854775807) :
    Calls Tryz.prog 21 #[.agg #[.pointer d, .int .i64 v, .func (.func 32) #[] #[]], n, .int .i64 m] w fun e w' => e = .returned (.tuple #[.slice none 0 0, .int .i64 1]) ∧ Below w.heap.size w w' := by
  obtain ⟨W, hW⟩ : ∃ W, W = w.alloc (.cells #[.pointer d, .int .i64 v, .func (.func 32) #[] #[]] 73) := ⟨_, rfl⟩
  have hbW : Below w.heap.size w W := by rw [hW]; exact sbox1 _ _
  have q0 := heap_alloc_new w (.cells #[.pointer d, .int .i64 v, .func (.func 32) #[] #[]] 73)
  rw [← hW] at q0
  have HX : Hid (∀ w', Below W.heap.size W w' → w'.cell? ⟨w.heap.size, 0, none⟩ = some (.pointer d) ∧ w'.cell? ⟨w.heap.size, 1, none⟩ = some (.int .i64 v) ∧ w'.cell? ⟨w.heap.size, 2, none⟩ = some (.func (.func 32) #[] #[])) := Lib.hid fun w' hb => by
    have h' := (hb.block w.heap.size (Array.getElem?_eq_some_iff.1 q0).1).trans q0
    exact ⟨(Joins.cell_of_block h' 0).trans rfl, (Joins.cell_of_block h' 1).trans rfl, (Joins.cell_of_block h' 2).trans rfl⟩
  have H := Lib.hid fun w' (hb : Below W.heap.size W w') (rd : Value) {q : Option Addr} {l : List UInt8} (hl : Bs w' q l) (k c : Nat) => sgNumbers_no (h.below (hbW.trans (hb.mono hbW.size))) v n rd hl k c
  have HK := Lib.hid fun w' => numberKey_any (w := w') m h1 h2
  have HBW := Lib.hid hbW
  clear h h1 h2 q0 hbW
  go_enter Tryz.func21, Tryz.ntmps21
  go_wp2_with fail
  rw [← hW]
  clear hW
  go_region_held3 (fun w' => w'.cell? ⟨w.heap.size, 0, none⟩ = some (.pointer d) ∧ w'.cell? ⟨w.heap.size, 1, none⟩ = some (.int .i64 v) ∧ w'.cell? ⟨w.heap.size, 2, none⟩ = some (.func (.func 32) #[] #[]))
    (with_reducible first | exact HX.out _ HB2.out | exact HX.out _ HB1.out | exact HX.out _ (Below.refl _ _).drew | exact HX.out _ (Below.refl _ _))
    (first
      | (go_at_call 47; refine (HK.out _).mono ?_; rintro e w1 ⟨x, rfl, ho, hb⟩; obtain ⟨q, c, rfl, g1, g2, g3, _⟩ := ho.form rfl; have HG := Lib.hid (And.intro g1 (And.intro g2 g3)); have HB1 : Hid (Below W.heap.size W w1) := Lib.hid ((Below.refl W.heap.size W).drew.trans (hb.mono (Below.refl W.heap.size W).drew.size)); clear hb ho g1 g2 g3)
      | (go_at_call 46; refine (H.out _ HB1.out _ HG.out.2.2 _ c rfl HG.out.1 HG.out.2.1 (by rw [be8_length]; omega)).mono ?_; rintro e w2 ⟨rfl, hb⟩; have HB2 : Hid (Below W.heap.size W w2) := Lib.hid (HB1.out.trans (hb.mono HB1.out.size)); clear hb)
      | fail)
  go_wp2
  go_ret2
  exact ⟨rfl, by first | exact HBW.out.trans (HB2.out.mono HBW.out.size) | exact (HBW.out.trans (HB2.out.mono HBW.out.size)).drew⟩

set_option maxHeartbeats 1600000 in
theorem sgLabelled_no {w : World} {d : Option Addr} (h : GrNone w d) (v : Int) (s : ByteArray) (hs : s.size ≤ 10000) :
    Calls Tryz.prog 23 #[.agg #[.pointer d, .int .i64 v, .func (.func 32) #[] #[]], .string s] w fun e w' => e = .returned (.tuple #[.slice none 0 0, .int .i64 1]) ∧ Below w.heap.size w w' := by
  obtain ⟨W, hW⟩ : ∃ W, W = w.alloc (.cells #[.pointer d, .int .i64 v, .func (.func 32) #[] #[]] 73) := ⟨_, rfl⟩
  have hbW : Below w.heap.size w W := by rw [hW]; exact sbox1 _ _
  have q0 := heap_alloc_new w (.cells #[.pointer d, .int .i64 v, .func (.func 32) #[] #[]] 73)
  rw [← hW] at q0
  have HX : Hid (∀ w', Below W.heap.size W w' → w'.cell? ⟨w.heap.size, 0, none⟩ = some (.pointer d) ∧ w'.cell? ⟨w.heap.size, 1, none⟩ = some (.int .i64 v) ∧ w'.cell? ⟨w.heap.size, 2, none⟩ = some (.func (.func 32) #[] #[])) := Lib.hid fun w' hb => by
    have h' := (hb.block w.heap.size (Array.getElem?_eq_some_iff.1 q0).1).trans q0
    exact ⟨(Joins.cell_of_block h' 0).trans rfl, (Joins.cell_of_block h' 1).trans rfl, (Joins.cell_of_block h' 2).trans rfl⟩
  have H := Lib.hid fun w' (hb : Below W.heap.size W w') (n rd : Value) {q : Option Addr} {l : List UInt8} (hl : Bs w' q l) (k c : Nat) => sgNumbers_no (h.below (hbW.trans (hb.mono hbW.size))) v n rd hl k c
  have HK := Lib.hid fun w' => labelKey_any (w := w') s (by omega)
  have HLN : Hid ((txt s.data.toList).length ≤ 100000) := Lib.hid (by have e : s.data.toList.length = s.size := rfl; have e2 := esc_length s.data.toList; rw [txt_length]; omega)
  have HBW := Lib.hid hbW
  clear h hs q0 hbW
  go_enter Tryz.func23, Tryz.ntmps23
  go_wp2_with fail
  rw [← hW]
  clear hW
  go_region_held3 (fun w' => w'.cell? ⟨w.heap.size, 0, none⟩ = some (.pointer d) ∧ w'.cell? ⟨w.heap.size, 1, none⟩ = some (.int .i64 v) ∧ w'.cell? ⟨w.heap.size, 2, none⟩ = some (.func (.func 32) #[] #[]))
    (with_reducible first | exact HX.out _ HB2.out | exact HX.out _ HB1.out | exact HX.out _ (Below.refl _ _).drew | exact HX.out _ (Below.refl _ _))
    (first
      | (go_at_call 51; refine (HK.out _).mono ?_; rintro e w1 ⟨x, rfl, ho, hb⟩; obtain ⟨q, c, rfl, g1, g2, g3, _⟩ := ho.form rfl; have HG := Lib.hid (And.intro g1 (And.intro g2 g3)); have HB1 : Hid (Below W.heap.size W w1) := Lib.hid ((Below.refl W.heap.size W).drew.trans (hb.mono (Below.refl W.heap.size W).drew.size)); clear hb ho g1 g2 g3)
      | (go_at_call 46; refine (H.out _ HB1.out _ _ HG.out.2.2 _ c rfl HG.out.1 HG.out.2.1 HLN.out).mono ?_; rintro e w2 ⟨rfl, hb⟩; have HB2 : Hid (Below W.heap.size W w2) := Lib.hid (HB1.out.trans (hb.mono HB1.out.size)); clear hb)
      | fail)
  go_wp2
  go_ret2
  exact ⟨rfl, by first | exact HBW.out.trans (HB2.out.mono HBW.out.size) | exact (HBW.out.trans (HB2.out.mono HBW.out.size)).drew⟩

set_option maxHeartbeats 400000 in
theorem sgRule_no {w : World} {d : Option Addr} (h : GrNone w d) (v : Int) :
    Calls Tryz.prog 24 #[.agg #[.pointer d, .int .i64 v, .func (.func 32) #[] #[]], .string ⟨#[65]⟩, .string ⟨#[97]⟩] w fun e w' => e = .returned (.tuple #[.bool false, .int .i64 1]) ∧ Below w.heap.size w w' := by
  have H := Lib.hid fun w' (hb : Below w.heap.size w w') (n k : Value) => sgGet_no (h.below hb) v n k
  have HK := Lib.hid fun (w' : World) => ruleKey_Aa (w := w')
  clear h
  go_enter Tryz.func24, Tryz.ntmps24
  go_wp2_with fail
  refine (HK.out _).mono ?_; rintro e w1 ⟨x, rfl, hb⟩
  obtain ⟨c0, c1, c2⟩ := sgB_new _ _ _ _ _ hb
  have HB : Hid (Below w.heap.size w w1) := Lib.hid (by first | exact hb | exact (hb).drew | exact Below.trans (sbox1 _ _) ((hb).mono (sbox1 _ _).size) | exact Below.trans (sbox2 _ _ _) ((hb).mono (sbox2 _ _ _).size) | exact Below.trans (sbox3 _ _ _ _) ((hb).mono (sbox3 _ _ _ _).size) | exact Below.trans (Below.refl _ _).drew ((hb).mono (Below.refl _ _).drew.size))
  clear hb
  go_wp2_with fail
  refine (H.out _ HB.out _ _).mono ?_; rintro e w2 ⟨rfl, hb2⟩
  have HB2 := Lib.hid (HB.out.trans (hb2.mono HB.out.size))
  clear hb2 c0 c1 c2
  go_wp2
  go_ret2
  exact ⟨rfl, HB2.out⟩

set_option maxHeartbeats 400000 in
theorem sgRules_no {w : World} {d : Option Addr} (h : GrNone w d) (v : Int) :
    Calls Tryz.prog 30 #[.agg #[.pointer d, .int .i64 v, .func (.func 32) #[] #[]]] w fun e w' => e = .returned (.tuple #[.slice none 0 0, .int .i64 1]) ∧ Below w.heap.size w w' := by
  have H := Lib.hid fun w' (hb : Below w.heap.size w w') (n : Value) => sgBehind_no (h.below hb) v n (Bs.nil w' none) 0 0 rfl (Nat.le_refl _) (by omega) (by simp)
  clear h
  go_enter Tryz.func30, Tryz.ntmps30
  go_wp2_with fail
  refine (H.out _ (by first | exact Below.refl _ _ | exact (Below.refl _ _).drew | exact sbox1 _ _ | exact sbox2 _ _ _ | exact sbox3 _ _ _ _) _).mono ?_; rintro e w1 ⟨rfl, hb⟩
  go_wp2
  go_ret2
  exact ⟨rfl, (by first | exact hb | exact (hb).drew | exact Below.trans (sbox1 _ _) ((hb).mono (sbox1 _ _).size) | exact Below.trans (sbox2 _ _ _) ((hb).mono (sbox2 _ _ _).size) | exact Below.trans (sbox3 _ _ _ _) ((hb).mono (sbox3 _ _ _ _).size) | exact Below.trans (Below.refl _ _).drew ((hb).mono (Below.refl _ _).drew.size))⟩

set_option maxHeartbeats 400000 in
theorem allNode_no {w : World} {d : Option Addr} (h : GrNone w d) (v : Int) (n rd : Value) :
    Calls Tryz.prog 26 #[.agg #[.pointer d, .int .i64 v, .func (.func 32) #[] #[]], n, rd] w fun e w' => e = .returned (.tuple #[.slice none 0 0, .int .i64 1]) ∧ Below w.heap.size w w' := by
  have H := Lib.hid fun w' (hb : Below w.heap.size w w') => sgBehind_no (h.below hb) v n (Bs.nil w' none) 0 0 rfl (Nat.le_refl _) (by omega) (by simp)
  clear h
  go_enter Tryz.func26, Tryz.ntmps26
  go_wp2_with fail
  refine (H.out _ (by first | exact Below.refl _ _ | exact (Below.refl _ _).drew | exact sbox1 _ _ | exact sbox2 _ _ _ | exact sbox3 _ _ _ _)).mono ?_; rintro e w1 ⟨rfl, hb⟩
  go_wp2
  go_ret2
  exact ⟨rfl, (by first | exact hb | exact (hb).drew | exact Below.trans (sbox1 _ _) ((hb).mono (sbox1 _ _).size) | exact Below.trans (sbox2 _ _ _) ((hb).mono (sbox2 _ _ _).size) | exact Below.trans (sbox3 _ _ _ _) ((hb).mono (sbox3 _ _ _ _).size) | exact Below.trans (Below.refl _ _).drew ((hb).mono (Below.refl _ _).drew.size))⟩

set_option maxHeartbeats 400000 in
theorem allEdge_no {w : World} {d : Option Addr} (h : GrNone w d) (v : Int) (n rd : Value) :
    Calls Tryz.prog 28 #[.agg #[.pointer d, .int .i64 v, .func (.func 32) #[] #[]], n, rd] w fun e w' => e = .returned (.tuple #[.slice none 0 0, .int .i64 1]) ∧ Below w.heap.size w w' := by
  have H := Lib.hid fun w' (hb : Below w.heap.size w w') => sgBehind_no (h.below hb) v n (Bs.nil w' none) 0 0 rfl (Nat.le_refl _) (by omega) (by simp)
  clear h
  go_enter Tryz.func28, Tryz.ntmps28
  go_wp2_with fail
  refine (H.out _ (by first | exact Below.refl _ _ | exact (Below.refl _ _).drew | exact sbox1 _ _ | exact sbox2 _ _ _ | exact sbox3 _ _ _ _)).mono ?_; rintro e w1 ⟨rfl, hb⟩
  go_wp2
  go_ret2
  exact ⟨rfl, (by first | exact hb | exact (hb).drew | exact Below.trans (sbox1 _ _) ((hb).mono (sbox1 _ _).size) | exact Below.trans (sbox2 _ _ _) ((hb).mono (sbox2 _ _ _).size) | exact Below.trans (sbox3 _ _ _ _) ((hb).mono (sbox3 _ _ _ _).size) | exact Below.trans (Below.refl _ _).drew ((hb).mono (Below.refl _ _).drew.size))⟩

end Go.Proofs.YtbbgdbnjmonbgabGreatDoor
