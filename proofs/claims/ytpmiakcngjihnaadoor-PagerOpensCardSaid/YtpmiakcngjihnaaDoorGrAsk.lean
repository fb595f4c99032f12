/-
  pager: next, Meta, Free, Waiting, Used, Read.
-/
import Derived.Test.YtpmiakcngjihnaaDoorGm9
set_option linter.unusedVariables false
set_option maxRecDepth 100000
namespace Go.Proofs.YtpmiakcngjihnaaDoor
open Go.RowKit

section
variable {w w' : World} {B P pd lm fm pl um wm la : Nat} {v : Value} {X : PG}

theorem GrIs.cell (h : GrIs w B P pd lm fm pl um wm la v X) (i : Nat) : w.cell? ⟨P, i, none⟩ = (grCells pd pl la v X)[i]? := Joins.cell_of_block h.blk i
theorem GrIs.c0 (h : GrIs w B P pd lm fm pl um wm la v X) : w.cell? ⟨P, 0, none⟩ = some (.pointer (some ⟨pd, 0, none⟩)) := h.cell 0
theorem GrIs.c1 (h : GrIs w B P pd lm fm pl um wm la v X) : w.cell? ⟨P, 1, none⟩ = some (.pointer (some ⟨pl, 0, none⟩)) := h.cell 1
theorem GrIs.c2 (h : GrIs w B P pd lm fm pl um wm la v X) : w.cell? ⟨P, 2, none⟩ = some (.int .i64 X.g) := h.cell 2
theorem GrIs.c3 (h : GrIs w B P pd lm fm pl um wm la v X) : w.cell? ⟨P, 3, none⟩ = some (.int .i64 X.r) := h.cell 3
theorem GrIs.c4 (h : GrIs w B P pd lm fm pl um wm la v X) : w.cell? ⟨P, 4, none⟩ = some (.int .i64 X.n) := h.cell 4
theorem GrIs.c5 (h : GrIs w B P pd lm fm pl um wm la v X) : w.cell? ⟨P, 5, none⟩ = some (.int .i64 X.d) := h.cell 5
theorem GrIs.c6 (h : GrIs w B P pd lm fm pl um wm la v X) : w.cell? ⟨P, 6, none⟩ = some (.map (some la)) := h.cell 6
theorem GrIs.c7 (h : GrIs w B P pd lm fm pl um wm la v X) : w.cell? ⟨P, 7, none⟩ = some v := h.cell 7
theorem GrIs.c8 (h : GrIs w B P pd lm fm pl um wm la v X) : w.cell? ⟨P, 8, none⟩ = some (.bool X.kept) := h.cell 8
theorem GrIs.c9 (h : GrIs w B P pd lm fm pl um wm la v X) : w.cell? ⟨P, 9, none⟩ = some (.bool X.laid) := h.cell 9
theorem GrIs.c10 (h : GrIs w B P pd lm fm pl um wm la v X) : w.cell? ⟨P, 10, none⟩ = some (.bool X.failed) := h.cell 10
theorem GrIs.soft (h : GrIs w B P pd lm fm pl um wm la v X) (i : Nat) : w.frozen? ⟨P, i, none⟩ = false := Joins.unfrozen_of_block h.blk i
theorem GrIs.made (h : GrIs w B P pd lm fm pl um wm la v X) : Calls Tryd.prog 36 #[.pointer (some ⟨P, 0, none⟩)] w fun e w' => e = .returned (.bool true) ∧ w = w' := grMade_yes h.c0

set_option maxHeartbeats 400000 in
theorem grNext (h : GrIs w B P pd lm fm pl um wm la v X) :
    Calls Tryd.prog 42 #[.pointer (some ⟨P, 0, none⟩)] w fun e w' => e = .returned (.int .i64 ((X.g : Int) + 1)) ∧ w = w' := by
  have c2 := h.c2
  have hg := h.g0
  clear h
  generalize X.g = g at *
  go_enter Tryd.func42, Tryd.ntmps42
  go_wp2
  go_ret
  exact ⟨rfl, rfl⟩

set_option maxHeartbeats 800000 in
theorem grMeta (h : GrIs w B P pd lm fm pl um wm la v X) :
    Calls Tryd.prog 19 #[.pointer (some ⟨P, 0, none⟩)] w fun e w' => e = .returned (.agg #[.int .i64 X.g, .int .i64 X.r, .int .i64 X.n, .int .i64 X.d]) ∧ Below w.heap.size w w' := by
  have HM := Lib.hid fun w' hb => (h.below (w' := w') hb).made
  have hb1 := sbox1 w (.cells #[.int .i64 0, .int .i64 0, .int .i64 0, .int .i64 0] 49)
  have h1 := h.below hb1
  obtain ⟨W, hW⟩ : ∃ W, W = w.alloc (.cells #[.int .i64 0, .int .i64 0, .int .i64 0, .int .i64 0] 49) := ⟨_, rfl⟩
  have hbx : W.heap[w.heap.size]? = some (.cells #[.int .i64 0, .int .i64 0, .int .i64 0, .int .i64 0] 49 (0, 0)) := by rw [hW]; exact heap_alloc_new w _
  rw [← hW] at h1 hb1
  have c2 := h1.c2
  have c3 := h1.c3
  have c4 := h1.c4
  have c5 := h1.c5
  have HB := Lib.hid hb1
  have HBX := Lib.hid hbx
  have f0 : ∀ i, W.frozen? ⟨w.heap.size, i, none⟩ = false := fun i => Joins.unfrozen_of_block hbx i
  have b0 : W.cell? ⟨w.heap.size, 0, none⟩ = some (.int .i64 0) := (Joins.cell_of_block hbx 0).trans rfl
  have b1 : W.cell? ⟨w.heap.size, 1, none⟩ = some (.int .i64 0) := (Joins.cell_of_block hbx 1).trans rfl
  have b2 : W.cell? ⟨w.heap.size, 2, none⟩ = some (.int .i64 0) := (Joins.cell_of_block hbx 2).trans rfl
  have b3 : W.cell? ⟨w.heap.size, 3, none⟩ = some (.int .i64 0) := (Joins.cell_of_block hbx 3).trans rfl
  clear h h1 hb1 hbx
  generalize X.g = g at *
  generalize X.r = r at *
  generalize X.n = n at *
  generalize X.d = d at *
  go_enter Tryd.func19, Tryd.ntmps19
  go_wp2_with fail
  rw [← hW]
  clear hW
  refine (HM.out _ HB.out).mono ?_; rintro e w1 ⟨rfl, rfl⟩
  go_wp2
  obtain ⟨x0, g0⟩ := cell_set (i := 0) (v := .int .i64 (g : Int)) HBX.out
  obtain ⟨x1, g1⟩ := cell_set (i := 1) (v := .int .i64 (r : Int)) x0
  obtain ⟨x2, g2⟩ := cell_set (i := 2) (v := .int .i64 (n : Int)) x1
  obtain ⟨x3, g3⟩ := cell_set (i := 3) (v := .int .i64 (d : Int)) x2
  have d0 := (Joins.cell_of_block x3 0)
  have d1 := (Joins.cell_of_block x3 1)
  have d2 := (Joins.cell_of_block x3 2)
  have d3 := (Joins.cell_of_block x3 3)
  simp at d0 d1 d2 d3
  exact bodyPost_ret (v := .agg #[.int .i64 (g : Int), .int .i64 (r : Int), .int .i64 (n : Int), .int .i64 (d : Int)]) (by simp [results, Tryd.results19, go_sem, d0, d1, d2, d3]) rfl ⟨rfl, (((HB.out.setCell (Nat.le_refl _) _).setCell (Nat.le_refl _) _).setCell (Nat.le_refl _) _).setCell (Nat.le_refl _) _⟩

set_option maxHeartbeats 400000 in
theorem grFree (h : GrIs w B P pd lm fm pl um wm la v X) :
    Calls Tryd.prog 23 #[.pointer (some ⟨P, 0, none⟩)] w fun e w' => e = .returned (.int .i64 X.F.nFree) ∧ Below w.heap.size w w' := by
  have HM := Lib.hid h.made
  have c1 := h.c1
  have HC := Lib.hid (frFree_any h.list)
  clear h
  go_enter Tryd.func23, Tryd.ntmps23
  go_wp2_with fail
  refine HM.out.mono ?_; rintro e w1 ⟨rfl, rfl⟩
  go_wp2_with fail
  refine HC.out.mono ?_; rintro e w1 ⟨rfl, hb⟩
  have HB := Lib.hid hb
  clear hb
  go_wp2
  go_ret
  exact ⟨rfl, HB.out⟩
set_option maxHeartbeats 400000 in
theorem grWaiting (h : GrIs w B P pd lm fm pl um wm la v X) :
    Calls Tryd.prog 25 #[.pointer (some ⟨P, 0, none⟩)] w fun e w' => e = .returned (.int .i64 X.F.nWaits) ∧ w = w' := by
  have HM := Lib.hid h.made
  have c1 := h.c1
  have HC := Lib.hid (frWaiting_any h.list)
  clear h
  go_enter Tryd.func25, Tryd.ntmps25
  go_wp2_with fail
  refine HM.out.mono ?_; rintro e w1 ⟨rfl, rfl⟩
  go_wp2_with fail
  refine HC.out.mono ?_; rintro e w1 ⟨rfl, rfl⟩
  go_wp2
  go_ret
  exact ⟨rfl, rfl⟩
set_option maxHeartbeats 400000 in
theorem grUsed (h : GrIs w B P pd lm fm pl um wm la v X) :
    Calls Tryd.prog 24 #[.pointer (some ⟨P, 0, none⟩)] w fun e w' => e = .returned (.int .i64 X.F.nUsed) ∧ w = w' := by
  have HM := Lib.hid h.made
  have c1 := h.c1
  have HC := Lib.hid (frUsed_any h.list)
  clear h
  go_enter Tryd.func24, Tryd.ntmps24
  go_wp2_with fail
  refine HM.out.mono ?_; rintro e w1 ⟨rfl, rfl⟩
  go_wp2_with fail
  refine HC.out.mono ?_; rintro e w1 ⟨rfl, rfl⟩
  go_wp2
  go_ret
  exact ⟨rfl, rfl⟩

def PgReadPost (w : World) (kind : UInt8) (l : List UInt8) (e : Ending) (w' : World) : Prop :=
  ∃ v, e = .returned (.tuple #[.int .u8 (kind.toNat : Int), v, .int .i64 0]) ∧ Own w' w.heap.size v l ∧ Below w.heap.size w w'

set_option maxHeartbeats 800000 in
theorem grRead (hT : Tab w) (h : GrIs w B P pd lm fm pl um wm la v X) {k : Nat} (hs : X.F.st k ≠ 0) (hk : (k : Int) < X.S.size) {kind : UInt8} {gen : Nat} {l : List UInt8} (hp : X.S.read k = pageB kind k gen l) (hl : l.length ≤ 493) (hg : gen ≤ 1152921504606846976) :
    Calls Tryd.prog 26 #[.pointer (some ⟨P, 0, none⟩), .int .i64 (k : Int)] w (PgReadPost w kind l) := by
  have HM := Lib.hid h.made
  have c1 := h.c1
  have HST := Lib.hid (frState_any h.list k)
  have HR := Lib.hid fun w' hb => read_any (h.disk.below (w' := w') hb) (k := k) (by omega) hk
  have h96 := h.disk.ok.s2
  have HPL : Hid (512 = (pageB kind k gen l).length) := Lib.hid (pageB_length hl).symm
  have HO : Hid (∀ w1 g, Below w.heap.size w w1 → Sec w1 g (pageB kind k gen l) → Calls Tryd.prog 55 #[.slice (some ⟨g, 0, none⟩) 512 512, .int .i64 (k : Int)] w1 fun e w2 => ∃ v, e = .returned (.tuple #[.int .u8 (kind.toNat : Int), .int .i64 (gen : Int), v, .int .i64 0]) ∧ Own w2 w1.heap.size v l ∧ Below w1.heap.size w1 w2) := Lib.hid fun w1 g hb hsec => by
    refine (pOpen_any (hT.below hT.lt hb) hsec.bs HPL.out (Nat.le_refl _) (by omega) k).mono ?_
    have hz := page_right (kind := kind) (no := k) (gen := gen) hl (by omega) hg k
    rw [if_pos rfl] at hz
    obtain ⟨f1, f2, f3, f4, f5, _⟩ := page_fields (kind := kind) hl (no := k) (by omega) (gen := gen) (by omega)
    rintro e w2 (⟨h1, _⟩ | ⟨h1, u, v, hu, rfl, ho, hb2⟩)
    · exact absurd hz h1
    · rw [f1] at hu
      cases hu
      rw [f5] at ho
      rw [f3]
      exact ⟨v, rfl, ho, hb2⟩
  have hb0 : (X.F.st k == 0) = false := by rw [beq_eq_false_iff_ne]; exact hs
  have HC0 : Hid (∀ w', Below w.heap.size w w' → w'.cell? ⟨P, 0, none⟩ = some (.pointer (some ⟨pd, 0, none⟩))) := Lib.hid fun w' hb => (h.below hb).c0
  rw [hp] at HR
  clear h hs hk hp hT h96
  generalize pageB kind k gen l = pg at *
  generalize X.F.st k = st at *
  generalize (gen : Int) = gi at *
  generalize (k : Int) = kk at *
  go_enter Tryd.func26, Tryd.ntmps26
  go_wp2_with fail
  refine HM.out.mono ?_; rintro e w1 ⟨rfl, rfl⟩
  go_wp2_with fail
  refine HST.out.mono ?_; rintro e w1 ⟨rfl, hb1⟩
  have HB1 := Lib.hid hb1
  have c0 := HC0.out _ hb1
  clear hb1
  go_wp2_with fail
  refine (HR.out _ HB1.out).mono ?_; rintro e w2 ⟨g, rfl, hg, hsec, hb2⟩
  have HB2 := Lib.hid (HB1.out.trans (hb2.mono HB1.out.size))
  have HS2 := Lib.hid hsec
  clear hb2 hsec hg c0
  go_wp2_with fail
  refine (HO.out _ _ HB2.out HS2.out).mono ?_; rintro e w3 ⟨u, rfl, ho, hb3⟩
  have HB3 := Lib.hid (HB2.out.trans (hb3.mono HB2.out.size))
  have HO3 := Lib.hid (ho.le HB2.out.size)
  clear ho hb3
  go_wp2
  exact bodyPost_ret (v := .tuple #[.int .u8 (kind.toNat : Int), u, .int .i64 0]) (by simp [results, Tryd.results26, go_sem]) rfl ⟨u, rfl, HO3.out, HB3.out⟩
end

end Go.Proofs.YtpmiakcngjihnaaDoor
