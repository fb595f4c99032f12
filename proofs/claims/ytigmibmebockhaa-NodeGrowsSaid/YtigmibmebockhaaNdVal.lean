/-
  node's rest: val: its contract.
-/
import Derived.Test.YtigmibmebockhaaNdOwn
set_option linter.unusedVariables false
set_option linter.unusedSimpArgs false
set_option maxRecDepth 100000
namespace Go.Proofs.Ytigmibmebockhaa
open Go.RowKit

theorem set3 {w : World} {R : Nat} {x y z a b c : Value} {t : TypeId} (h : w.heap[R]? = some (.cells #[x, y, z] t (0, 0))) :
    (((w.setCell ⟨R, 0, none⟩ a).setCell ⟨R, 1, none⟩ b).setCell ⟨R, 2, none⟩ c).heap[R]? = some (.cells #[a, b, c] t (0, 0)) := by
  simp [World.setCell, Array.getElem?_modify, h]
theorem below3 {B R : Nat} {w0 w : World} (h : Below B w0 w) (hR : B ≤ R) (a b c : Value) : Below B w0 (((w.setCell ⟨R, 0, none⟩ a).setCell ⟨R, 1, none⟩ b).setCell ⟨R, 2, none⟩ c) :=
  ((h.setCell (p := ⟨R, 0, none⟩) hR a).setCell (p := ⟨R, 1, none⟩) hR b).setCell (p := ⟨R, 2, none⟩) hR c
theorem gb_on {w w1 w2 : World} {g : Nat} (h : w.grownBy w1 (some g)) (hb : Below w.heap.size w1 w2) : w.grownBy w2 (some g) :=
  ⟨hb.os.trans h.os, hb.tape.trans h.tape, hb.output.trans h.output, Nat.le_trans h.size hb.size, fun k hk hne => (hb.block k hk).trans (h.block k hk hne)⟩

/-- The result's box, new and kept. -/
def VBox0 (w : World) (R : Nat) : Prop := w.heap[R]? = some (.cells #[.slice none 0 0, .int .i64 0, .int .i64 0] 42 (0, 0))
theorem VBox0.kept {w w' : World} {R g : Nat} (h : VBox0 w R) (hg : w.grownBy w' (some g)) (hne : R ≠ g) : VBox0 w' R :=
  (hg.block R (Array.getElem?_eq_some_iff.1 h).1 (fun e => hne (Option.some.inj e))).trans h
theorem VBox0.cells {w : World} {R : Nat} (h : VBox0 w R) : (w.cell? ⟨R, 0, none⟩ = some (.slice none 0 0) ∧ w.frozen? ⟨R, 0, none⟩ = false) ∧ (w.cell? ⟨R, 1, none⟩ = some (.int .i64 0) ∧ w.frozen? ⟨R, 1, none⟩ = false) ∧ (w.cell? ⟨R, 2, none⟩ = some (.int .i64 0) ∧ w.frozen? ⟨R, 2, none⟩ = false) :=
  ⟨⟨Joins.cell_of_block h 0, Joins.unfrozen_of_block h 0⟩, ⟨Joins.cell_of_block h 1, Joins.unfrozen_of_block h 1⟩, ⟨Joins.cell_of_block h 2, Joins.unfrozen_of_block h 2⟩⟩

set_option maxHeartbeats 1600000 in
theorem rval_any {w : World} {g : Nat} {l : List UInt8} (h : Rs w g l) (hl : l.length ≤ 100000) :
    Calls Try.prog 50 #[.pointer (some ⟨g, 0, none⟩)] w (ValPost w g (valR l).1 (valR l).2) := by
  have hlt := h.lt
  obtain ⟨W, hW⟩ : ∃ W, W = w.alloc (.cells #[.slice none 0 0, .int .i64 0, .int .i64 0] 42) := ⟨_, rfl⟩
  have HB0 : Hid (VBox0 W w.heap.size) := Lib.hid (by rw [hW]; exact heap_alloc_new w _)
  have HBW : Hid (Below w.heap.size w W) := Lib.hid (by rw [hW]; exact (Below.refl _ _).alloc (Nat.le_refl _) _)
  have HG0 : Hid (w.grownBy W (some g)) := Lib.hid (gb_below HBW.out)
  have HNE : Hid (w.heap.size ≠ g) := Lib.hid (by omega)
  have HR0 := Lib.hid (h.below HBW.out)
  have HN := Lib.hid (number_any HR0.out hl 1 (by omega))
  have h255 := leN_one l
  unfold valR
  have hd : (l.drop 1).length ≤ 100000 := by rw [List.length_drop]; omega
  generalize leN (l.take 1) = k at *
  generalize l.drop 1 = d at *
  have HSZ : Hid (∀ {w'}, w.grownBy w' (some g) → w.heap.size ≤ w'.heap.size) := Lib.hid fun h => h.size
  clear h hl
  by_cases hk : k = 255
  · subst hk
    rw [if_pos rfl]
    dsimp only
    have hd2 : (d.drop 2).length ≤ 100000 := by rw [List.length_drop]; omega
    have h1 := leN_two d
    have h2 := leN_two (d.drop 2)
    have HN1 := Lib.hid (fun (w : World) (h : Rs w g d) => number_any h hd 2 (by omega))
    have HN2 := Lib.hid (fun (w : World) (h : Rs w g (d.drop 2)) => number_any h hd2 2 (by omega))
    generalize d.drop 2 = d2 at *
    generalize d2.drop 2 = d4 at *
    generalize leN (d.take 2) = n1 at *
    generalize leN (d2.take 2) = n2 at *
    clear hd hd2
    go_enter Try.func50, Try.ntmps50
    go_wp2_with fail
    rw [← hW]
    replace hW := Lib.hid hW
    refine HN.out.mono ?_
    rintro e w1 ⟨rfl, hr, hg⟩
    have HB1 := Lib.hid (HB0.out.kept hg HNE.out)
    have HG1 := Lib.hid (gb_trans HG0.out hg)
    have HR1 := Lib.hid hr
    clear hr hg HN
    go_wp2_with fail
    refine (HN1.out _ HR1.out).mono ?_
    rintro e w2 ⟨rfl, hr, hg⟩
    have HB2 := Lib.hid (HB1.out.kept hg HNE.out)
    have HG2 := Lib.hid (gb_trans HG1.out hg)
    have HR2 := Lib.hid hr
    clear hr hg HN1
    go_wp2_with fail
    refine (HN2.out _ HR2.out).mono ?_
    rintro e w3 ⟨rfl, hr, hg⟩
    have HB3 := Lib.hid (HB2.out.kept hg HNE.out)
    have HG3 := Lib.hid (gb_trans HG2.out hg)
    have HR3 := Lib.hid hr
    clear hr hg HN2
    obtain ⟨⟨a0, u0⟩, ⟨a1, u1⟩, a2, u2⟩ := HB3.out.cells
    have hlt3 : w.heap.size < w3.heap.size := (Array.getElem?_eq_some_iff.1 HB3.out).1
    go_wp2
    refine bodyPost_ret (results_cell_row rfl _ _ w.heap.size 42 _ (0, 0) _ (by kernel_rfl) (set3 HB3.out) Try.underlying42 rfl (by kernel_rfl)) rfl ?_
    have hb3 := below3 (Below.refl w.heap.size w3) (Nat.le_refl _) (.slice none 0 0) (.int .i64 (n1 : Int)) (.int .i64 (n2 : Int))
    exact ⟨⟨none, 0, [], n1, n2⟩, rfl, rfl, ⟨Bs.nil _ _, rfl, fun _ => rfl, fun a h => (by cases h), Nat.zero_le _, ⟨by show (0 : Int) ≤ (n1 : Int); omega, by show (n1 : Int) ≤ _; omega⟩, ⟨by show (0 : Int) ≤ (n2 : Int); omega, by show (n2 : Int) ≤ _; omega⟩⟩, HR3.out.low (hb3.mono (by omega)), gb_on HG3.out hb3⟩
  · rw [if_neg hk]
    dsimp only
    have HP := Lib.hid (fun (w : World) (h : Rs w g d) => part_any h hd k (by omega))
    have HTL : Hid ((d.take k).length ≤ 100000) := Lib.hid (by rw [List.length_take]; omega)
    generalize d.take k = T at *
    generalize d.drop k = D at *
    have hkb : ((k : Int) != 255) = true := by rw [bne_iff_ne]; omega
    clear hk hd
    go_enter Try.func50, Try.ntmps50
    go_wp2_with fail
    rw [← hW]
    replace hW := Lib.hid hW
    refine HN.out.mono ?_
    rintro e w1 ⟨rfl, hr, hg⟩
    have HB1 := Lib.hid (HB0.out.kept hg HNE.out)
    have HG1 := Lib.hid (gb_trans HG0.out hg)
    have HR1 := Lib.hid hr
    clear hr hg HN
    go_wp2_with fail
    refine (HP.out _ HR1.out).mono ?_
    rintro e w2 ⟨p, m, rfl, hm, hbs, hz, hlo, hr, hg⟩
    have HB2 := Lib.hid (HB1.out.kept hg HNE.out)
    have HG2 := Lib.hid (gb_trans HG1.out hg)
    have HR2 := Lib.hid hr
    have HX : Hid (VIn w2 g ⟨p, m, T, 0, 0⟩ ∧ m = T.length) := Lib.hid ⟨⟨hbs, hm, hz, hlo, HTL.out, ⟨by show (0 : Int) ≤ 0; omega, by show (0 : Int) ≤ _; omega⟩, ⟨by show (0 : Int) ≤ 0; omega, by show (0 : Int) ≤ _; omega⟩⟩, hm⟩
    clear hr hg HP hm hbs hz hlo
    obtain ⟨⟨a0, u0⟩, ⟨a1, u1⟩, a2, u2⟩ := HB2.out.cells
    have hlt3 : w.heap.size < w2.heap.size := (Array.getElem?_eq_some_iff.1 HB2.out).1
    go_wp2
    refine bodyPost_ret (results_cell_row rfl _ _ w.heap.size 42 _ (0, 0) _ (by kernel_rfl) (set3 HB2.out) Try.underlying42 rfl (by kernel_rfl)) rfl ?_
    have hb3 := below3 (Below.refl w.heap.size w2) (Nat.le_refl _) (.slice p m m) (.int .i64 0) (.int .i64 0)
    exact ⟨⟨p, m, T, 0, 0⟩, by unfold Vl.cell; dsimp only; rw [← HX.out.2], rfl, HX.out.1.low (hb3.mono (by omega)), HR2.out.low (hb3.mono (by omega)), gb_on HG2.out hb3⟩

end Go.Proofs.Ytigmibmebockhaa
