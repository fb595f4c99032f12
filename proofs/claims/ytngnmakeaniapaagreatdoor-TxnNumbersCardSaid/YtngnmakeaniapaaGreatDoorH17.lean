/-
  pager: finish: a commit's three operations, cut anywhere.
  pager: Commit.
  pager: Drop.
-/
import Derived.Test.YtngnmakeaniapaaGreatDoorH16
import Derived.Deep.RegionWith
set_option linter.unusedVariables false
set_option maxRecDepth 100000
namespace Go.Proofs.YtngnmakeaniapaaGreatDoor
open Go.RowKit

/-- A disk whose counters a call may go on with. -/
structure Fit (S : SD) (n : Int) : Prop where
  l : -1 ≤ S.left
  u : S.left ≤ 9223372036854775807
  o : S.ops ≤ n
theorem Fit.tick {S : SD} {n : Int} (h : Fit S n) : Fit S.tick (n + 1) := by
  obtain ⟨h1, h2, h3⟩ := h
  refine ⟨?_, ?_, by show S.ops + 1 ≤ _; omega⟩
  · show -1 ≤ (if 0 < S.left then S.left - 1 else S.left)
    split <;> omega
  · show (if 0 < S.left then S.left - 1 else S.left) ≤ _
    split <;> omega
theorem Fit.flush {S : SD} {n : Int} (h : Fit S n) : Fit S.flush (n + 1) := ⟨h.tick.l, h.tick.u, h.tick.o⟩
theorem Fit.write {S : SD} {n : Int} (h : Fit S n) (k : Int) (b : List UInt8) : Fit (S.write k b) (n + 1) := ⟨h.tick.l, h.tick.u, h.tick.o⟩
theorem Fit.le {S : SD} {n m : Int} (h : Fit S n) (hm : n ≤ m) : Fit S m := ⟨h.l, h.u, by have := h.o; omega⟩

section
variable {w w' : World} {B P pd lm fm pl um wm la : Nat} {v : Value} {X : PG}

set_option maxHeartbeats 3200000 in
theorem grFinish_cut1 (hT : Tab w) (hB : 1 < B) (h : GrIs w B P pd lm fm pl um wm la v X) (hF : Fit X.S 999999990) (hz : 2 ≤ X.S.size) {r n d : Nat} (hm : MRight ((X.g + 1 : Nat) : Int) r n d) (l0 : X.S.left = 0) :
    Calls Tryz.prog 108 #[.pointer (some ⟨P, 0, none⟩), .agg #[.int .i64 ((X.g : Int) + 1), .int .i64 r, .int .i64 n, .int .i64 d]] w fun e w' => e = .returned (.int .i64 17) ∧ Below w.heap.size w w' := by
  obtain ⟨W, hW⟩ : ∃ W, W = w.alloc (.cells #[.int .i64 ((X.g : Int) + 1), .int .i64 r, .int .i64 n, .int .i64 d] 92) := ⟨_, rfl⟩
  have hb : Below w.heap.size w W := by rw [hW]; exact sbox1 w _
  have hx : W.heap[w.heap.size]? = some (.cells #[.int .i64 ((X.g : Int) + 1), .int .i64 r, .int .i64 n, .int .i64 d] 92 (0, 0)) := by rw [hW]; exact heap_alloc_new w _
  have HB := Lib.hid hb
  have hBw := h.base
  have h1 := h.below hb
  have c0 := h1.c0
  have c0' : (w.alloc (.cells #[.int .i64 ((X.g : Int) + 1), .int .i64 r, .int .i64 n, .int .i64 d] 92)).cell? ⟨P, 0, none⟩ = some (.pointer (some ⟨pd, 0, none⟩)) := by rw [← hW]; exact c0
  have HF1 := Lib.hid (flush_cut h1.disk l0)
  clear h h1 hT hF hm hb hx hz l0
  generalize (X.g : Int) = g at *
  generalize (r : Int) = r' at *
  generalize (n : Int) = n' at *
  generalize (d : Int) = d' at *
  go_enter Tryz.func108, Tryz.ntmps108
  go_wp2_with fail
  rw [← hW]
  clear hW c0'
  refine HF1.out.mono ?_; rintro e w1 ⟨rfl, hb1⟩
  have HB1 := Lib.hid (HB.out.trans (hb1.mono HB.out.size))
  clear hb1
  go_wp2
  go_ret
  exact ⟨rfl, HB1.out⟩

set_option maxHeartbeats 3200000 in
theorem grFinish_cut2 (hT : Tab w) (hB : 1 < B) (h : GrIs w B P pd lm fm pl um wm la v X) (hF : Fit X.S 999999990) (hz : 2 ≤ X.S.size) {r n d : Nat} (hm : MRight ((X.g + 1 : Nat) : Int) r n d) (l0 : X.S.left ≠ 0) (l1 : X.S.flush.left = 0) :
    Calls Tryz.prog 108 #[.pointer (some ⟨P, 0, none⟩), .agg #[.int .i64 ((X.g : Int) + 1), .int .i64 r, .int .i64 n, .int .i64 d]] w fun e w' => e = .returned (.int .i64 17) ∧ DiskStep w w' B pd lm fm X.S.flush := by
  obtain ⟨W, hW⟩ : ∃ W, W = w.alloc (.cells #[.int .i64 ((X.g : Int) + 1), .int .i64 r, .int .i64 n, .int .i64 d] 92) := ⟨_, rfl⟩
  have hb : Below w.heap.size w W := by rw [hW]; exact sbox1 w _
  have hx : W.heap[w.heap.size]? = some (.cells #[.int .i64 ((X.g : Int) + 1), .int .i64 r, .int .i64 n, .int .i64 d] 92 (0, 0)) := by rw [hW]; exact heap_alloc_new w _
  have HB := Lib.hid hb
  have hBw := h.base
  have h1 := h.below hb
  have c0 := h1.c0
  have c0' : (w.alloc (.cells #[.int .i64 ((X.g : Int) + 1), .int .i64 r, .int .i64 n, .int .i64 d] 92)).cell? ⟨P, 0, none⟩ = some (.pointer (some ⟨pd, 0, none⟩)) := by rw [← hW]; exact c0
  have HF1 := Lib.hid (flush_any h1.disk l0 hF.l hF.u (by have := hF.o; omega))
  have HX : Hid (∀ w1 S1, DiskStep W w1 B pd lm fm S1 → (w1.cell? ⟨w.heap.size, 0, none⟩ = some (.int .i64 ((X.g : Int) + 1)) ∧ w1.cell? ⟨w.heap.size, 1, none⟩ = some (.int .i64 r) ∧ w1.cell? ⟨w.heap.size, 2, none⟩ = some (.int .i64 n) ∧ w1.cell? ⟨w.heap.size, 3, none⟩ = some (.int .i64 d)) ∧ w1.cell? ⟨P, 0, none⟩ = some (.pointer (some ⟨pd, 0, none⟩))) := Lib.hid fun w1 S1 hs => by
    have hx' := hs.keeps.stay hx rfl
    exact ⟨⟨(Joins.cell_of_block hx' 0).trans rfl, (Joins.cell_of_block hx' 1).trans rfl, (Joins.cell_of_block hx' 2).trans rfl, (Joins.cell_of_block hx' 3).trans rfl⟩, (h1.onDisk hs).c0⟩
  have HW1 : Hid (∀ w1, DiskStep W w1 B pd lm fm X.S.flush → Calls Tryz.prog 73 #[.pointer (some ⟨pd, 0, none⟩), .agg #[.int .i64 ((X.g : Int) + 1), .int .i64 r, .int .i64 n, .int .i64 d]] w1.drew fun e w2 => e = .returned (.int .i64 17) ∧ DiskStep W w2 B pd lm fm X.S.flush) := Lib.hid fun w1 hs => by
    have hd : Below w1.heap.size w1 w1.drew := (Below.refl _ _).drew
    have hh := grWrite_cut ((hT.below hT.lt hb).below hB (hs.below.trans (hd.mono hs.disk.base))) (hs.disk.below hd) l1 hz hm
    rw [show ((X.g + 1 : Nat) : Int) = (X.g : Int) + 1 by omega] at hh
    exact hh.mono fun e w2 ⟨he, hb2⟩ => ⟨he, hs.disk.below (hd.trans hb2), hs.below.trans ((hd.trans hb2).mono hs.disk.base), hs.keeps.trans (Keeps.below (hd.trans hb2))⟩
  clear h h1 hT hF hm hb hx hz l0 l1
  generalize X.S.flush = S1 at *
  generalize (X.g : Int) = g at *
  generalize (r : Int) = r' at *
  generalize (n : Int) = n' at *
  generalize (d : Int) = d' at *
  go_enter Tryz.func108, Tryz.ntmps108
  go_wp2_with fail
  rw [← hW]
  clear hW c0'
  refine HF1.out.mono ?_; rintro e w1 ⟨rfl, hs1⟩
  have HS1 := Lib.hid hs1
  obtain ⟨⟨x0, x1, x2, x3⟩, y0⟩ := HX.out _ _ hs1
  clear hs1 c0
  go_wp2_with fail
  go_region_with (first | (go_at_call 73; (with_reducible refine (HW1.out _ HS1.out).mono ?_); rintro e w2 ⟨rfl, hs2⟩; have HS2 := Lib.hid hs2; clear hs2))
  all_goals
    go_wp2
    go_ret
    exact ⟨rfl, DiskStep.of (HB.out.mono hBw) (Keeps.below HB.out) HS2.out⟩

set_option maxHeartbeats 3200000 in
theorem grFinish_cut3 (hT : Tab w) (hB : 1 < B) (h : GrIs w B P pd lm fm pl um wm la v X) (hF : Fit X.S 999999990) (hz : 2 ≤ X.S.size) {r n d : Nat} (hm : MRight ((X.g + 1 : Nat) : Int) r n d) (l0 : X.S.left ≠ 0) (l1 : X.S.flush.left ≠ 0) (l2 : (X.S.flush.write (((X.g + 1) % 2 : Nat) : Int) (mPage (X.g + 1) r n d)).left = 0) :
    Calls Tryz.prog 108 #[.pointer (some ⟨P, 0, none⟩), .agg #[.int .i64 ((X.g : Int) + 1), .int .i64 r, .int .i64 n, .int .i64 d]] w fun e w' => e = .returned (.int .i64 17) ∧ DiskStep w w' B pd lm fm (X.S.flush.write (((X.g + 1) % 2 : Nat) : Int) (mPage (X.g + 1) r n d)) := by
  obtain ⟨W, hW⟩ : ∃ W, W = w.alloc (.cells #[.int .i64 ((X.g : Int) + 1), .int .i64 r, .int .i64 n, .int .i64 d] 92) := ⟨_, rfl⟩
  have hb : Below w.heap.size w W := by rw [hW]; exact sbox1 w _
  have hx : W.heap[w.heap.size]? = some (.cells #[.int .i64 ((X.g : Int) + 1), .int .i64 r, .int .i64 n, .int .i64 d] 92 (0, 0)) := by rw [hW]; exact heap_alloc_new w _
  have HB := Lib.hid hb
  have hBw := h.base
  have h1 := h.below hb
  have c0 := h1.c0
  have c0' : (w.alloc (.cells #[.int .i64 ((X.g : Int) + 1), .int .i64 r, .int .i64 n, .int .i64 d] 92)).cell? ⟨P, 0, none⟩ = some (.pointer (some ⟨pd, 0, none⟩)) := by rw [← hW]; exact c0
  have HF1 := Lib.hid (flush_any h1.disk l0 hF.l hF.u (by have := hF.o; omega))
  have HX : Hid (∀ w1 S1, DiskStep W w1 B pd lm fm S1 → (w1.cell? ⟨w.heap.size, 0, none⟩ = some (.int .i64 ((X.g : Int) + 1)) ∧ w1.cell? ⟨w.heap.size, 1, none⟩ = some (.int .i64 r) ∧ w1.cell? ⟨w.heap.size, 2, none⟩ = some (.int .i64 n) ∧ w1.cell? ⟨w.heap.size, 3, none⟩ = some (.int .i64 d)) ∧ w1.cell? ⟨P, 0, none⟩ = some (.pointer (some ⟨pd, 0, none⟩))) := Lib.hid fun w1 S1 hs => by
    have hx' := hs.keeps.stay hx rfl
    exact ⟨⟨(Joins.cell_of_block hx' 0).trans rfl, (Joins.cell_of_block hx' 1).trans rfl, (Joins.cell_of_block hx' 2).trans rfl, (Joins.cell_of_block hx' 3).trans rfl⟩, (h1.onDisk hs).c0⟩
  have HW1 : Hid (∀ w1, DiskStep W w1 B pd lm fm X.S.flush → Calls Tryz.prog 73 #[.pointer (some ⟨pd, 0, none⟩), .agg #[.int .i64 ((X.g : Int) + 1), .int .i64 r, .int .i64 n, .int .i64 d]] w1.drew fun e w2 => e = .returned (.int .i64 0) ∧ DiskStep W w2 B pd lm fm (X.S.flush.write (((X.g + 1) % 2 : Nat) : Int) (mPage (X.g + 1) r n d))) := Lib.hid fun w1 hs => by
    have hd : Below w1.heap.size w1 w1.drew := (Below.refl _ _).drew
    have hh := grWrite_ok ((hT.below hT.lt hb).below hB (hs.below.trans (hd.mono hs.disk.base))) (hs.disk.below hd) l1 hF.flush.l hF.flush.u (by have := hF.flush.o; omega) hz hm
    rw [show ((X.g + 1 : Nat) : Int) = (X.g : Int) + 1 by omega] at hh
    exact hh.mono fun e w2 ⟨he, hs2⟩ => ⟨he, DiskStep.of (hs.below.trans (hd.mono hs.disk.base)) (hs.keeps.trans (Keeps.below hd)) hs2⟩
  have HF2 : Hid (∀ w1, DiskStep W w1 B pd lm fm (X.S.flush.write (((X.g + 1) % 2 : Nat) : Int) (mPage (X.g + 1) r n d)) → Calls Tryz.prog 74 #[.pointer (some ⟨pd, 0, none⟩)] w1 fun e w2 => e = .returned (.int .i64 17) ∧ DiskStep W w2 B pd lm fm (X.S.flush.write (((X.g + 1) % 2 : Nat) : Int) (mPage (X.g + 1) r n d))) := Lib.hid fun w1 hs =>
    (flush_cut hs.disk l2).mono fun e w2 ⟨he, hb2⟩ => ⟨he, hs.disk.below hb2, hs.below.trans (hb2.mono hs.disk.base), hs.keeps.trans (Keeps.below hb2)⟩
  clear h h1 hT hF hm hb hx hz l0 l1 l2
  generalize X.S.flush.write (((X.g + 1) % 2 : Nat) : Int) (mPage (X.g + 1) r n d) = S2 at *
  generalize X.S.flush = S1 at *
  generalize (X.g : Int) = g at *
  generalize (r : Int) = r' at *
  generalize (n : Int) = n' at *
  generalize (d : Int) = d' at *
  go_enter Tryz.func108, Tryz.ntmps108
  go_wp2_with fail
  rw [← hW]
  clear hW c0'
  refine HF1.out.mono ?_; rintro e w1 ⟨rfl, hs1⟩
  have HS1 := Lib.hid hs1
  obtain ⟨⟨x0, x1, x2, x3⟩, y0⟩ := HX.out _ _ hs1
  clear hs1 c0
  go_wp2_with fail
  go_region_with (first | (go_at_call 73; (with_reducible refine (HW1.out _ HS1.out).mono ?_); rintro e w2 ⟨rfl, hs2⟩; have HS2 := Lib.hid hs2; have z0 := (HX.out _ _ hs2).2; clear hs2))
  all_goals
    go_wp2_with fail
    refine (HF2.out _ HS2.out).mono ?_; rintro e w3 ⟨rfl, hs3⟩
    have HS3 := Lib.hid hs3
    clear hs3
    go_wp2
    go_ret
    exact ⟨rfl, DiskStep.of (HB.out.mono hBw) (Keeps.below HB.out) HS3.out⟩

set_option maxHeartbeats 3200000 in
theorem grFinish_ok (hT : Tab w) (hB : 1 < B) (h : GrIs w B P pd lm fm pl um wm la v X) (hF : Fit X.S 999999990) (hz : 2 ≤ X.S.size) {r n d : Nat} (hm : MRight ((X.g + 1 : Nat) : Int) r n d) (l0 : X.S.left ≠ 0) (l1 : X.S.flush.left ≠ 0) (l2 : (X.S.flush.write (((X.g + 1) % 2 : Nat) : Int) (mPage (X.g + 1) r n d)).left ≠ 0) :
    Calls Tryz.prog 108 #[.pointer (some ⟨P, 0, none⟩), .agg #[.int .i64 ((X.g : Int) + 1), .int .i64 r, .int .i64 n, .int .i64 d]] w fun e w' => e = .returned (.int .i64 0) ∧ DiskStep w w' B pd lm fm (X.S.flush.write (((X.g + 1) % 2 : Nat) : Int) (mPage (X.g + 1) r n d)).flush := by
  obtain ⟨W, hW⟩ : ∃ W, W = w.alloc (.cells #[.int .i64 ((X.g : Int) + 1), .int .i64 r, .int .i64 n, .int .i64 d] 92) := ⟨_, rfl⟩
  have hb : Below w.heap.size w W := by rw [hW]; exact sbox1 w _
  have hx : W.heap[w.heap.size]? = some (.cells #[.int .i64 ((X.g : Int) + 1), .int .i64 r, .int .i64 n, .int .i64 d] 92 (0, 0)) := by rw [hW]; exact heap_alloc_new w _
  have HB := Lib.hid hb
  have hBw := h.base
  have h1 := h.below hb
  have c0 := h1.c0
  have c0' : (w.alloc (.cells #[.int .i64 ((X.g : Int) + 1), .int .i64 r, .int .i64 n, .int .i64 d] 92)).cell? ⟨P, 0, none⟩ = some (.pointer (some ⟨pd, 0, none⟩)) := by rw [← hW]; exact c0
  have HF1 := Lib.hid (flush_any h1.disk l0 hF.l hF.u (by have := hF.o; omega))
  have HX : Hid (∀ w1 S1, DiskStep W w1 B pd lm fm S1 → (w1.cell? ⟨w.heap.size, 0, none⟩ = some (.int .i64 ((X.g : Int) + 1)) ∧ w1.cell? ⟨w.heap.size, 1, none⟩ = some (.int .i64 r) ∧ w1.cell? ⟨w.heap.size, 2, none⟩ = some (.int .i64 n) ∧ w1.cell? ⟨w.heap.size, 3, none⟩ = some (.int .i64 d)) ∧ w1.cell? ⟨P, 0, none⟩ = some (.pointer (some ⟨pd, 0, none⟩))) := Lib.hid fun w1 S1 hs => by
    have hx' := hs.keeps.stay hx rfl
    exact ⟨⟨(Joins.cell_of_block hx' 0).trans rfl, (Joins.cell_of_block hx' 1).trans rfl, (Joins.cell_of_block hx' 2).trans rfl, (Joins.cell_of_block hx' 3).trans rfl⟩, (h1.onDisk hs).c0⟩
  have HW1 : Hid (∀ w1, DiskStep W w1 B pd lm fm X.S.flush → Calls Tryz.prog 73 #[.pointer (some ⟨pd, 0, none⟩), .agg #[.int .i64 ((X.g : Int) + 1), .int .i64 r, .int .i64 n, .int .i64 d]] w1.drew fun e w2 => e = .returned (.int .i64 0) ∧ DiskStep W w2 B pd lm fm (X.S.flush.write (((X.g + 1) % 2 : Nat) : Int) (mPage (X.g + 1) r n d))) := Lib.hid fun w1 hs => by
    have hd : Below w1.heap.size w1 w1.drew := (Below.refl _ _).drew
    have hh := grWrite_ok ((hT.below hT.lt hb).below hB (hs.below.trans (hd.mono hs.disk.base))) (hs.disk.below hd) l1 hF.flush.l hF.flush.u (by have := hF.flush.o; omega) hz hm
    rw [show ((X.g + 1 : Nat) : Int) = (X.g : Int) + 1 by omega] at hh
    exact hh.mono fun e w2 ⟨he, hs2⟩ => ⟨he, DiskStep.of (hs.below.trans (hd.mono hs.disk.base)) (hs.keeps.trans (Keeps.below hd)) hs2⟩
  have HF2 : Hid (∀ w1, DiskStep W w1 B pd lm fm (X.S.flush.write (((X.g + 1) % 2 : Nat) : Int) (mPage (X.g + 1) r n d)) → Calls Tryz.prog 74 #[.pointer (some ⟨pd, 0, none⟩)] w1 fun e w2 => e = .returned (.int .i64 0) ∧ DiskStep W w2 B pd lm fm (X.S.flush.write (((X.g + 1) % 2 : Nat) : Int) (mPage (X.g + 1) r n d)).flush) := Lib.hid fun w1 hs =>
    (flush_any hs.disk l2 (hF.flush.write _ _).l (hF.flush.write _ _).u (by have := (hF.flush.write (((X.g + 1) % 2 : Nat) : Int) (mPage (X.g + 1) r n d)).o; omega)).mono fun e w2 ⟨he, hs2⟩ => ⟨he, DiskStep.of hs.below hs.keeps hs2⟩
  clear h h1 hT hF hm hb hx hz l0 l1 l2
  generalize X.S.flush.write (((X.g + 1) % 2 : Nat) : Int) (mPage (X.g + 1) r n d) = S2 at *
  generalize X.S.flush = S1 at *
  generalize (X.g : Int) = g at *
  generalize (r : Int) = r' at *
  generalize (n : Int) = n' at *
  generalize (d : Int) = d' at *
  go_enter Tryz.func108, Tryz.ntmps108
  go_wp2_with fail
  rw [← hW]
  clear hW c0'
  refine HF1.out.mono ?_; rintro e w1 ⟨rfl, hs1⟩
  have HS1 := Lib.hid hs1
  obtain ⟨⟨x0, x1, x2, x3⟩, y0⟩ := HX.out _ _ hs1
  clear hs1 c0
  go_wp2_with fail
  go_region_with (first | (go_at_call 73; (with_reducible refine (HW1.out _ HS1.out).mono ?_); rintro e w2 ⟨rfl, hs2⟩; have HS2 := Lib.hid hs2; have z0 := (HX.out _ _ hs2).2; clear hs2))
  all_goals
    go_wp2_with fail
    refine (HF2.out _ HS2.out).mono ?_; rintro e w3 ⟨rfl, hs3⟩
    have HS3 := Lib.hid hs3
    clear hs3
    go_wp2
    go_ret
    exact ⟨rfl, DiskStep.of (HB.out.mono hBw) (Keeps.below HB.out) HS3.out⟩
end

end Go.Proofs.YtngnmakeaniapaaGreatDoor

set_option linter.unusedVariables false
set_option maxRecDepth 100000
namespace Go.Proofs.YtngnmakeaniapaaGreatDoor
open Go.RowKit

/-- The disk behind a commit. -/
def PG.comS (X : PG) (r n d : Nat) : SD := (X.S.flush.write (((X.g + 1) % 2 : Nat) : Int) (mPage (X.g + 1) r n d)).flush
/-- Behind a commit, ahead of settle. -/
def PG.com0 (X : PG) (r n d : Nat) : PG := { X with S := X.comS r n d, g := X.g + 1, r := r, n := n, d := d, L := fun _ => false }
def PG.commit (X : PG) (r n d : Nat) : PG := (X.com0 r n d).settle

section
variable {w w' : World} {B P pd lm fm pl um wm la : Nat} {v : Value} {X : PG}

set_option maxHeartbeats 3200000 in
theorem grCommit_gen (hT : Tab w) (hB : 1 < B) (h : GrIs w B P pd lm fm pl um wm la v X) (hfl : X.failed = false) {r n d : Nat} (hfo : Follows X r n d)
    (HFIN : ∀ w1, GrIs w1 B P pd lm fm pl um wm la v X → Tab w1 → Calls Tryz.prog 108 #[.pointer (some ⟨P, 0, none⟩), .agg #[.int .i64 ((X.g : Int) + 1), .int .i64 r, .int .i64 n, .int .i64 d]] w1 fun e w' => e = .returned (.int .i64 0) ∧ DiskStep w1 w' B pd lm fm (X.comS r n d)) :
    Calls Tryz.prog 67 #[.pointer (some ⟨P, 0, none⟩), .int .i64 r, .int .i64 n, .int .i64 d] w fun e w' => e = .returned (.int .i64 0) ∧ GrStep w w' B P pd (X.commit r n d) := by
  have HM := Lib.hid h.made
  have c10 := h.c10
  rw [hfl] at c10
  have HNX := Lib.hid (grNext h)
  obtain ⟨W, hW⟩ : ∃ W, W = w.alloc (.cells #[.int .i64 ((X.g : Int) + 1), .int .i64 r, .int .i64 n, .int .i64 d] 92) := ⟨_, rfl⟩
  have hb : Below w.heap.size w W := by rw [hW]; exact sbox1 w _
  have hx : W.heap[w.heap.size]? = some (.cells #[.int .i64 ((X.g : Int) + 1), .int .i64 r, .int .i64 n, .int .i64 d] 92 (0, 0)) := by rw [hW]; exact heap_alloc_new w _
  have HBW := Lib.hid hb
  have H := Lib.hid (h.below hb)
  have HBB := Lib.hid h.base
  have HTW := Lib.hid (hT.below hT.lt hb)
  have HFO := Lib.hid (grFollows HTW.out H.out hfo)
  have hgm := hfo.right.b
  have HG1 : Hid (X.g + 1 ≤ 1152921504606846976) := Lib.hid (by omega)
  have HX : Hid (∀ w1, Keeps ofGr W w1 → w1.cell? ⟨w.heap.size, 0, none⟩ = some (.int .i64 ((X.g : Int) + 1)) ∧ w1.cell? ⟨w.heap.size, 1, none⟩ = some (.int .i64 r) ∧ w1.cell? ⟨w.heap.size, 2, none⟩ = some (.int .i64 n) ∧ w1.cell? ⟨w.heap.size, 3, none⟩ = some (.int .i64 d)) := Lib.hid fun w1 hk => by
    have hx' := hk.stay hx rfl
    exact ⟨(Joins.cell_of_block hx' 0).trans rfl, (Joins.cell_of_block hx' 1).trans rfl, (Joins.cell_of_block hx' 2).trans rfl, (Joins.cell_of_block hx' 3).trans rfl⟩
  have HFI := Lib.hid HFIN
  have HGE : Hid (((X.g + 1 : Nat) : Int) = (X.g : Int) + 1) := Lib.hid (by omega)
  clear h hT hfo HFIN hb hx hgm
  go_enter Tryz.func67, Tryz.ntmps67
  go_wp2_with fail
  refine HM.out.mono ?_; rintro e w1 ⟨rfl, rfl⟩
  go_wp2_with fail
  refine HNX.out.mono ?_; rintro e w1 ⟨rfl, rfl⟩
  go_wp2_with fail
  rw [← hW]
  clear hW
  refine HFO.out.mono ?_; rintro e w1 ⟨rfl, hb1⟩
  have H1 := Lib.hid (H.out.below hb1)
  have HT1 := Lib.hid (HTW.out.below HTW.out.lt hb1)
  have HB1 := Lib.hid hb1
  obtain ⟨x0, x1, x2, x3⟩ := HX.out _ (Keeps.below hb1)
  clear hb1
  go_wp2_with fail
  refine (HFI.out _ H1.out HT1.out).mono ?_; rintro e w2 ⟨rfl, hs2⟩
  have H2 := Lib.hid (H1.out.onDisk hs2)
  have HS2 := Lib.hid hs2
  have hk2 : Keeps ofGr W w2 := (Keeps.below HB1.out).trans (hs2.keeps.mono ofDisk_ofGr)
  have HK2 : Hid (Keeps (ofGrP P) W w2) := Lib.hid ((Keeps.below HB1.out).trans (hs2.keeps.mono (ofDisk_ofGrP H.out.mP.1 H.out.mP.2.1)))
  have HBL2 := Lib.hid (((HBW.out.mono HBB.out).trans (HB1.out.mono H.out.base)).trans hs2.below)
  clear x0 x1 x2 x3
  obtain ⟨x0, x1, x2, x3⟩ := HX.out _ hk2
  have c2 := H2.out.c2
  have c3 := H2.out.c3
  have c4 := H2.out.c4
  have c5 := H2.out.c5
  have c6 := H2.out.c6
  have uf := H2.out.soft
  have HOW : Hid (∀ w3, w3 = (((w2.setCell ⟨P, 2, none⟩ (.int .i64 ((X.g : Int) + 1))).setCell ⟨P, 3, none⟩ (.int .i64 r)).setCell ⟨P, 4, none⟩ (.int .i64 n)).setCell ⟨P, 5, none⟩ (.int .i64 d) → GrIs w3 B P pd lm fm pl um wm la v { X with S := X.comS r n d, g := X.g + 1, r := r, n := n, d := d } ∧ Below B w2 w3 ∧ Keeps (ofGrP P) w2 w3) := Lib.hid (by
    rintro w3 rfl
    obtain ⟨b2, g2⟩ := cell_set (i := 2) (v := .int .i64 ((X.g : Int) + 1)) H2.out.blk
    obtain ⟨b3, g3⟩ := cell_set (i := 3) (v := .int .i64 (r : Int)) b2
    obtain ⟨b4, g4⟩ := cell_set (i := 4) (v := .int .i64 (n : Int)) b3
    obtain ⟨b5, g5⟩ := cell_set (i := 5) (v := .int .i64 (d : Int)) b4
    obtain ⟨k1, k2, k3⟩ := H2.out.onOwn (Y := { X with S := X.comS r n d, g := X.g + 1, r := r, n := n, d := d }) (v' := v) (by simpa [grCells, HGE.out] using b5) (((g2.trans g3).trans g4).trans g5) H2.out.pins rfl rfl rfl HG1.out
    exact ⟨k1, k2, k3.mono isPager_ofGrP⟩)
  clear hs2 hk2
  have HOG := Lib.hid (HOW.out _ rfl)
  go_wp2_with (refine st_clear rfl _ _ 3 162 rfl Tryz.underlying135 rfl HOG.out.1.mla ?_; intro w3 hm hg; obtain ⟨g1, g2, g3⟩ := HOG.out.1.onLaid (L := fun _ => false) (by rw [setOf_none]; exact hm) hg; have G1 := Lib.hid g1; have G2 := Lib.hid ((HBL2.out.trans HOG.out.2.1).trans g2); have G3 := Lib.hid (((Keeps.below HBW.out).trans HK2.out).trans (HOG.out.2.2.trans (g3.mono (isMaps_ofGrP H.out.mLa)))); clear hm hg g1 g2 g3)
  have HST := Lib.hid (grSettle G1.out)
  refine HST.out.mono ?_; rintro e w4 ⟨rfl, hs4⟩
  have HS4 := Lib.hid (GrStep.of G2.out G3.out hs4)
  clear hs4
  go_wp2
  go_ret
  exact ⟨rfl, HS4.out⟩

/-- The state of a disk that a commit left when it was cut. -/
def CutS (X : PG) (r n d : Nat) (S : SD) : Prop := S = X.S ∨ S = X.S.flush ∨ S = X.S.flush.write (((X.g + 1) % 2 : Nat) : Int) (mPage (X.g + 1) r n d)
def CutPost (w : World) (B pd : Nat) (X : PG) (r n d : Nat) (w' : World) : Prop := ∃ lm fm S, CutS X r n d S ∧ DiskAt w' B pd lm fm S ∧ Below B w w' ∧ Keeps ofGr w w'

set_option maxHeartbeats 3200000 in
theorem grCommit_cut (hT : Tab w) (hB : 1 < B) (h : GrIs w B P pd lm fm pl um wm la v X) (hfl : X.failed = false) {r n d : Nat} (hfo : Follows X r n d) {S : SD} (hS : CutS X r n d S)
    (HFIN : ∀ w1, GrIs w1 B P pd lm fm pl um wm la v X → Tab w1 → Calls Tryz.prog 108 #[.pointer (some ⟨P, 0, none⟩), .agg #[.int .i64 ((X.g : Int) + 1), .int .i64 r, .int .i64 n, .int .i64 d]] w1 fun e w' => e = .returned (.int .i64 17) ∧ DiskStep w1 w' B pd lm fm S) :
    Calls Tryz.prog 67 #[.pointer (some ⟨P, 0, none⟩), .int .i64 r, .int .i64 n, .int .i64 d] w fun e w' => e = .returned (.int .i64 17) ∧ CutPost w B pd X r n d w' := by
  have HM := Lib.hid h.made
  have c10 := h.c10
  rw [hfl] at c10
  have HNX := Lib.hid (grNext h)
  have HCS := Lib.hid hS
  obtain ⟨W, hW⟩ : ∃ W, W = w.alloc (.cells #[.int .i64 ((X.g : Int) + 1), .int .i64 r, .int .i64 n, .int .i64 d] 92) := ⟨_, rfl⟩
  have hb : Below w.heap.size w W := by rw [hW]; exact sbox1 w _
  have hx : W.heap[w.heap.size]? = some (.cells #[.int .i64 ((X.g : Int) + 1), .int .i64 r, .int .i64 n, .int .i64 d] 92 (0, 0)) := by rw [hW]; exact heap_alloc_new w _
  have HBW := Lib.hid hb
  have H := Lib.hid (h.below hb)
  have HBB := Lib.hid h.base
  have HTW := Lib.hid (hT.below hT.lt hb)
  have HFO := Lib.hid (grFollows HTW.out H.out hfo)
  have HX : Hid (∀ w1, Keeps ofGr W w1 → w1.cell? ⟨w.heap.size, 0, none⟩ = some (.int .i64 ((X.g : Int) + 1)) ∧ w1.cell? ⟨w.heap.size, 1, none⟩ = some (.int .i64 r) ∧ w1.cell? ⟨w.heap.size, 2, none⟩ = some (.int .i64 n) ∧ w1.cell? ⟨w.heap.size, 3, none⟩ = some (.int .i64 d)) := Lib.hid fun w1 hk => by
    have hx' := hk.stay hx rfl
    exact ⟨(Joins.cell_of_block hx' 0).trans rfl, (Joins.cell_of_block hx' 1).trans rfl, (Joins.cell_of_block hx' 2).trans rfl, (Joins.cell_of_block hx' 3).trans rfl⟩
  have HFI := Lib.hid HFIN
  clear h hT hfo HFIN hb hx hS
  go_enter Tryz.func67, Tryz.ntmps67
  go_wp2_with fail
  refine HM.out.mono ?_; rintro e w1 ⟨rfl, rfl⟩
  go_wp2_with fail
  refine HNX.out.mono ?_; rintro e w1 ⟨rfl, rfl⟩
  go_wp2_with fail
  rw [← hW]
  clear hW
  refine HFO.out.mono ?_; rintro e w1 ⟨rfl, hb1⟩
  have H1 := Lib.hid (H.out.below hb1)
  have HT1 := Lib.hid (HTW.out.below HTW.out.lt hb1)
  have HB1 := Lib.hid hb1
  obtain ⟨x0, x1, x2, x3⟩ := HX.out _ (Keeps.below hb1)
  clear hb1
  go_wp2_with fail
  refine (HFI.out _ H1.out HT1.out).mono ?_; rintro e w2 ⟨rfl, hs2⟩
  have H2 := Lib.hid (H1.out.onDisk hs2)
  have hk2 : Keeps ofGr W w2 := (Keeps.below HB1.out).trans (hs2.keeps.mono ofDisk_ofGr)
  have HK2 := Lib.hid ((Keeps.below HBW.out).trans hk2)
  have HBL2 := Lib.hid (((HBW.out.mono HBB.out).trans (HB1.out.mono H.out.base)).trans hs2.below)
  clear x0 x1 x2 x3
  have c10' := H2.out.c10
  have uf := H2.out.soft
  clear hs2 hk2
  go_wp2
  go_ret
  obtain ⟨b2, g2⟩ := cell_set (i := 10) (v := .bool true) H2.out.blk
  obtain ⟨k1, k2, k3⟩ := H2.out.onOwn (Y := { X with S := S, failed := true }) (v' := v) (by simpa [grCells] using b2) g2 H2.out.pins rfl rfl rfl H2.out.g0
  exact ⟨rfl, lm, fm, S, HCS.out, k1.disk, HBL2.out.trans k2, HK2.out.trans (k3.mono isPager_ofGr)⟩

/-- Commit, cut or not. -/
theorem grCommit_any (hT : Tab w) (hB : 1 < B) (h : GrIs w B P pd lm fm pl um wm la v X) (hfl : X.failed = false) (hF : Fit X.S 999999990) (hz : 2 ≤ X.S.size) {r n d : Nat} (hfo : Follows X r n d) :
    Calls Tryz.prog 67 #[.pointer (some ⟨P, 0, none⟩), .int .i64 r, .int .i64 n, .int .i64 d] w fun e w' => (e = .returned (.int .i64 0) ∧ GrStep w w' B P pd (X.commit r n d)) ∨ (e = .returned (.int .i64 17) ∧ CutPost w B pd X r n d w') := by
  have hm := hfo.right
  by_cases l0 : X.S.left = 0
  · refine (grCommit_cut hT hB h hfl hfo (.inl rfl) fun w1 h1 hT1 => (grFinish_cut1 hT1 hB h1 hF hz hm l0).mono fun e w2 ⟨he, hb⟩ => ⟨he, h1.disk.below hb, hb.mono h1.base, Keeps.below hb⟩).mono fun e w' hh => .inr hh
  · by_cases l1 : X.S.flush.left = 0
    · exact (grCommit_cut hT hB h hfl hfo (.inr (.inl rfl)) fun w1 h1 hT1 => grFinish_cut2 hT1 hB h1 hF hz hm l0 l1).mono fun e w' hh => .inr hh
    · by_cases l2 : (X.S.flush.write (((X.g + 1) % 2 : Nat) : Int) (mPage (X.g + 1) r n d)).left = 0
      · exact (grCommit_cut hT hB h hfl hfo (.inr (.inr rfl)) fun w1 h1 hT1 => grFinish_cut3 hT1 hB h1 hF hz hm l0 l1 l2).mono fun e w' hh => .inr hh
      · exact (grCommit_gen hT hB h hfl hfo fun w1 h1 hT1 => grFinish_ok hT1 hB h1 hF hz hm l0 l1 l2).mono fun e w' hh => .inl hh
/-- Commit, where nothing was cut. -/
theorem grCommit_ok (hT : Tab w) (hB : 1 < B) (h : GrIs w B P pd lm fm pl um wm la v X) (hfl : X.failed = false) (hF : Fit X.S 999999990) (hz : 2 ≤ X.S.size) (hl : X.S.left = -1) {r n d : Nat} (hfo : Follows X r n d) :
    Calls Tryz.prog 67 #[.pointer (some ⟨P, 0, none⟩), .int .i64 r, .int .i64 n, .int .i64 d] w fun e w' => e = .returned (.int .i64 0) ∧ GrStep w w' B P pd (X.commit r n d) := by
  have t1 : X.S.flush.left = -1 := SD.tick_left hl
  have t2 : (X.S.flush.write (((X.g + 1) % 2 : Nat) : Int) (mPage (X.g + 1) r n d)).left = -1 := SD.tick_left t1
  exact grCommit_gen hT hB h hfl hfo fun w1 h1 hT1 => grFinish_ok hT1 hB h1 hF hz hfo.right (by rw [hl]; decide) (by rw [t1]; decide) (by rw [t2]; decide)
end

end Go.Proofs.YtngnmakeaniapaaGreatDoor

set_option linter.unusedVariables false
set_option maxRecDepth 100000
namespace Go.Proofs.YtngnmakeaniapaaGreatDoor
open Go.RowKit

/-- Behind a page that was dropped. -/
def PG.drop (X : PG) (k : Int) : PG :=
  if X.L k = true then { X with L := fun x => if x = k then false else X.L x, F := X.F.drop k } else if X.F.st k = 2 then { X with F := X.F.late k ((X.g : Int) + 1) } else X
def PG.dropE (X : PG) (k : Int) : Int := if X.L k = true then 0 else if X.F.st k = 2 then 0 else if X.F.has k = true then 13 else 2

section
variable {w w' : World} {B P pd lm fm pl um wm la : Nat} {v : Value} {X : PG}

set_option maxHeartbeats 1600000 in
theorem grDrop_laid (h : GrIs w B P pd lm fm pl um wm la v X) {k : Int} (hL : X.L k = true) (hs : X.F.st k = 2) :
    Calls Tryz.prog 232 #[.pointer (some ⟨P, 0, none⟩), .int .i64 k] w fun e w' => e = .returned (.int .i64 0) ∧ GrStep w w' B P pd { X with L := fun x => if x = k then false else X.L x, F := X.F.drop k } := by
  have HM := Lib.hid h.made
  have c6 := h.c6
  have HL := Lib.hid hL
  have HGV : Hid (∀ w1 (Y : PG), GrIs w1 B P pd lm fm pl um wm la v Y → Y.F = X.F → Calls Tryz.prog 110 #[.pointer (some ⟨pl, 0, none⟩), .int .i64 k] w1 (FrStep w1 pl um wm (X.F.drop k) (.int .i64 0))) := Lib.hid fun w1 Y h1 hY => by
    have hh := frGive_any h1.list (k := k) (by rw [hY]; exact (FL.st_two.1 hs).1)
    rw [hY, if_pos hs, if_pos hs] at hh
    exact hh
  have H := Lib.hid h
  have c6' := (h.below (sbox1 w (.cells #[] 162))).c6
  have H1 := Lib.hid (h.below (sbox1 w (.cells #[] 162)))
  have HB1 := Lib.hid (sbox1 w (.cells #[] 162))
  clear h hL hs
  go_enter Tryz.func232, Tryz.ntmps232
  go_wp2_with fail
  refine HM.out.mono ?_; rintro e w1 ⟨rfl, rfl⟩
  go_wp2_with (first | (at_lookup; refine fr_look rfl _ _ rfl rfl H.out.mla rfl ?_; rw [HL.out]) | (at_delete; refine st_drop rfl _ _ _ 3 162 3 rfl Tryz.underlying135 Tryz.underlying3 rfl H1.out.mla rfl ?_; intro w2 hm hg; obtain ⟨g1, g2, g3⟩ := H1.out.onLaid (L := fun x => if x = k then false else X.L x) ((setOf_del X.L k) ▸ hm) hg; have G1 := Lib.hid g1; have G2 := Lib.hid ((HB1.out.mono H.out.base).trans g2); have G3 := Lib.hid ((Keeps.below HB1.out).trans (g3.mono (isMaps_ofGrP H.out.mLa))); have c1 := g1.c1; clear hm hg g1 g2 g3))
  refine (HGV.out _ _ G1.out rfl).mono ?_; rintro e w3 ⟨rfl, hfr, hon⟩
  have HG := Lib.hid (GrStep.of G2.out G3.out (GrStep.list G1.out hfr hon))
  clear hfr hon c1
  go_wp2
  go_ret
  exact ⟨rfl, HG.out⟩

set_option maxHeartbeats 1600000 in
theorem grDrop_gen (h : GrIs w B P pd lm fm pl um wm la v X) {k : Int} (hL : X.L k = false) {F : FL} {z : Int}
    (HLT : ∀ w1, GrIs w1 B P pd lm fm pl um wm la v X → Calls Tryz.prog 243 #[.pointer (some ⟨pl, 0, none⟩), .int .i64 k, .int .i64 ((X.g : Int) + 1)] w1 (FrStep w1 pl um wm F (.int .i64 z))) :
    Calls Tryz.prog 232 #[.pointer (some ⟨P, 0, none⟩), .int .i64 k] w fun e w' => e = .returned (.int .i64 z) ∧ GrStep w w' B P pd { X with F := F } := by
  have HM := Lib.hid h.made
  have c6 := h.c6
  have HL := Lib.hid hL
  have HLh := Lib.hid HLT
  have H := Lib.hid h
  have HB1 := Lib.hid (sbox1 w (.cells #[] 162))
  obtain ⟨W, hW⟩ : ∃ W, W = w.alloc (.cells #[] 162) := ⟨_, rfl⟩
  rw [← hW] at HB1
  have HNX : Hid (∀ n, Calls Tryz.prog 106 #[.pointer (some ⟨P, 0, none⟩)] (W.drewN n) fun e w' => e = .returned (.int .i64 ((X.g : Int) + 1)) ∧ W.drewN n = w') := Lib.hid fun n => grNext (h.below (belowN HB1.out n))
  have HNX1 : Hid (Calls Tryz.prog 106 #[.pointer (some ⟨P, 0, none⟩)] W.drew fun e w' => e = .returned (.int .i64 ((X.g : Int) + 1)) ∧ W.drew = w') := Lib.hid (grNext (h.below HB1.out.drew))
  have H1 : Hid (GrIs W.drew B P pd lm fm pl um wm la v X) := Lib.hid (h.below HB1.out.drew)
  have c1' := (h.below HB1.out).c1
  clear h hL HLT
  generalize (X.g : Int) = g at *
  go_enter Tryz.func232, Tryz.ntmps232
  go_wp2_with fail
  refine HM.out.mono ?_; rintro e w1 ⟨rfl, rfl⟩
  go_wp2_with (first | (at_lookup; refine fr_look rfl _ _ rfl rfl H.out.mla rfl ?_; rw [HL.out]))
  rw [← hW]
  clear hW
  go_region_with (first | (go_at_call 106; (with_reducible refine HNX1.out.mono ?_); rintro e w5 ⟨rfl, rfl⟩) | (go_at_call 243; (with_reducible refine (HLh.out _ H1.out).mono ?_); rintro e w3 ⟨rfl, hfr, hon⟩; have HG := Lib.hid (GrStep.of (HB1.out.drew.mono H.out.base) (Keeps.below HB1.out.drew) (GrStep.list H1.out hfr hon)); clear hfr hon))
  all_goals
    go_wp2
    go_ret
    exact ⟨rfl, HG.out⟩

theorem grDrop_any (h : GrIs w B P pd lm fm pl um wm la v X) {k : Int} (hs : X.L k = true → X.F.st k = 2) :
    Calls Tryz.prog 232 #[.pointer (some ⟨P, 0, none⟩), .int .i64 k] w fun e w' => e = .returned (.int .i64 (X.dropE k)) ∧ GrStep w w' B P pd (X.drop k) := by
  unfold PG.drop PG.dropE
  by_cases hL : X.L k = true
  · rw [if_pos hL, if_pos hL]
    exact grDrop_laid h hL (hs hL)
  · rw [if_neg hL, if_neg hL]
    have hL' : X.L k = false := by simpa using hL
    by_cases h2 : X.F.st k = 2
    · rw [if_pos h2, if_pos h2]
      refine grDrop_gen h hL' fun w1 h1 => ?_
      have hh := frLater_any h1.list (k := k) (g := (X.g : Int) + 1) (FL.st_two.1 h2).1 (by omega)
      rw [if_pos h2, if_pos h2] at hh
      exact hh
    · rw [if_neg h2, if_neg h2]
      have e : X = { X with F := X.F } := rfl
      rw [e]
      by_cases hh : X.F.has k = true
      · rw [if_pos hh]
        refine grDrop_gen h hL' fun w1 h1 => ?_
        have hx := frLater_any h1.list (k := k) (g := (X.g : Int) + 1) hh (by omega)
        rw [if_neg h2, if_neg h2] at hx
        exact hx
      · rw [if_neg hh]
        exact grDrop_gen h hL' fun w1 h1 => frLater_arg h1.list (.inl (by simpa using hh))
end

end Go.Proofs.YtngnmakeaniapaaGreatDoor

