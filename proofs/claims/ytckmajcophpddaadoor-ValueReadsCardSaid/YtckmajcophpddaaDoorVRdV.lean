/-
  Read's reader: value.
-/
import Derived.Test.YtckmajcophpddaaDoorVRdL
set_option linter.unusedVariables false
set_option linter.unusedSimpArgs false
set_option maxRecDepth 100000
namespace Go.Proofs.YtckmajcophpddaaDoor
open Go.RowKit

/-- The literal of a value that a text begins with: the atom (of a list: its kind alone) and the list. -/
def valueR (l : List UInt8) : Except Int ((At × List At) × List UInt8) :=
  if Lib.hasPrefix l [91] then (listsR (Lib.trimPrefix l [91])).map fun p => ((⟨6, 0, 0, ⟨#[]⟩⟩, p.1), p.2)
  else (atomR l).map fun p => ((p.1, []), p.2)
/-- What value leaves. -/
def VPost (w : World) (b : Nat) (e : Ending) (w' : World) : Except Int ((At × List At) × List UInt8) → Prop
  | .ok ((a, ls), m) => (∃ v, e = .returned (.agg #[.int .i64 a.k, .int .i64 a.n, .float .f64 a.f, .string a.s, v]) ∧ AOwn w' w.heap.size v ls) ∧ Rd w' b m ∧ w.grownBy w' (some b)
  | .error x => e = .panicked [{ v := .iface 28 (.int .i64 x), recovered := false }] ∧ w.grownBy w' (some b)

/-- A new box for a value lies in block A. -/
def VBx (w : World) (A : Nat) : Prop := w.heap[A]? = some (.cells #[.int .i64 0, .int .i64 0, .float .f64 0, .string ⟨#[]⟩, .slice none 0 0] 27 (0, 0))
theorem VBx.kept {w w' : World} {A b : Nat} (h : VBx w A) (hg : w.grownBy w' (some b)) (hne : A ≠ b) : VBx w' A :=
  (hg.block A (Array.getElem?_eq_some_iff.1 h).1 (fun e => hne (Option.some.inj e))).trans h
theorem VBx.cells {w : World} {A : Nat} (h : VBx w A) : (w.cell? ⟨A, 0, none⟩ = some (.int .i64 0) ∧ w.frozen? ⟨A, 0, none⟩ = false) ∧ (w.cell? ⟨A, 1, none⟩ = some (.int .i64 0) ∧ w.frozen? ⟨A, 1, none⟩ = false) ∧ (w.cell? ⟨A, 2, none⟩ = some (.float .f64 0) ∧ w.frozen? ⟨A, 2, none⟩ = false) ∧ (w.cell? ⟨A, 3, none⟩ = some (.string ⟨#[]⟩) ∧ w.frozen? ⟨A, 3, none⟩ = false) ∧ (w.cell? ⟨A, 4, none⟩ = some (.slice none 0 0) ∧ w.frozen? ⟨A, 4, none⟩ = false) :=
  ⟨⟨Joins.cell_of_block h 0, Joins.unfrozen_of_block h 0⟩, ⟨Joins.cell_of_block h 1, Joins.unfrozen_of_block h 1⟩, ⟨Joins.cell_of_block h 2, Joins.unfrozen_of_block h 2⟩, ⟨Joins.cell_of_block h 3, Joins.unfrozen_of_block h 3⟩, ⟨Joins.cell_of_block h 4, Joins.unfrozen_of_block h 4⟩⟩

theorem five_below {w0 w : World} {A B : Nat} (h : Below B w0 w) (hB : B ≤ A) (a b c d e : Value) : Below B w0 (((((w.setCell ⟨A, 0, none⟩ a).setCell ⟨A, 1, none⟩ b).setCell ⟨A, 2, none⟩ c).setCell ⟨A, 3, none⟩ d).setCell ⟨A, 4, none⟩ e) :=
  (four_below h hB a b c d).setCell (p := ⟨A, 4, none⟩) hB _
theorem value_end {w w1 : World} {b : Nat} {m : List UInt8} (hr : Rd w1 b m) (hg : w.grownBy w1 (some b)) (hb : b < w.heap.size) (a c d e f : Value) :
    Rd (((((w1.setCell ⟨w.heap.size, 0, none⟩ a).setCell ⟨w.heap.size, 1, none⟩ c).setCell ⟨w.heap.size, 2, none⟩ d).setCell ⟨w.heap.size, 3, none⟩ e).setCell ⟨w.heap.size, 4, none⟩ f) b m ∧ w.grownBy (((((w1.setCell ⟨w.heap.size, 0, none⟩ a).setCell ⟨w.heap.size, 1, none⟩ c).setCell ⟨w.heap.size, 2, none⟩ d).setCell ⟨w.heap.size, 3, none⟩ e).setCell ⟨w.heap.size, 4, none⟩ f) (some b) := by
  have h := five_below (Below.refl w.heap.size w1) (Nat.le_refl _) a c d e f
  exact ⟨hr.below h hb, grown_below hg h⟩

set_option maxHeartbeats 4000000 in
theorem value_any {w : World} (hW : RW w) {b : Nat} (hb5 : 5 < b) {l : List UInt8} (h : Rd w b l) (hl : l.length ≤ 281474976710656) :
    Calls Tryd.prog 11 #[.pointer (some ⟨b, 0, none⟩)] w fun e w' => VPost w b e w' (valueR l) := by
  have hst := store_flt
  obtain ⟨W, hW0⟩ : ∃ W, W = w.alloc (.cells #[.int .i64 0, .int .i64 0, .float .f64 0, .string ⟨#[]⟩, .slice none 0 0] 27) := ⟨_, rfl⟩
  have HLT := Lib.hid h.lt
  have HBW : Hid (Below w.heap.size w W) := Lib.hid (by rw [hW0]; exact (Below.refl _ _).alloc (Nat.le_refl _) _)
  have HSZ : Hid (W.heap.size = w.heap.size + 1) := Lib.hid (by rw [hW0]; simp)
  have HA0 : Hid (VBx W w.heap.size) := Lib.hid (by rw [hW0]; exact heap_alloc_new w _)
  have HR0 : Hid (Rd W b l) := Lib.hid (h.below HBW.out h.lt)
  have HG0 : Hid (w.grownBy W (some b)) := Lib.hid (grown_of_below HBW.out)
  have HW0 : Hid (RW W) := Lib.hid (hW.below HBW.out)
  have HNE : Hid (w.heap.size ≠ b) := Lib.hid (by have := h.lt; omega)
  have HL := Lib.hid hl
  clear h hl hW
  go_enter Tryd.func11, Tryd.ntmps11
  go_wp2_with fail
  rw [← hW0]
  replace hW0 := Lib.hid hW0
  cases hp : Lib.hasPrefix l [91]
  · have HE : Hid (valueR l = (atomR l).map fun p => ((p.1, []), p.2)) := Lib.hid (by unfold valueR; rw [if_neg (by rw [hp]; decide)])
    refine (take_no HR0.out ⟨#[91]⟩ hp).mono ?_
    rintro e w1 ⟨rfl, hr, hg⟩
    have HG1 := Lib.hid (grown_trans HG0.out hg)
    have HA1 := Lib.hid (HA0.out.kept hg HNE.out)
    have HW1 := Lib.hid (HW0.out.grown hg hb5)
    have HR1 := Lib.hid hr
    have C := Lib.hid (atom_any HW1.out hb5 HR1.out HL.out)
    clear hr hg hp
    rcases ha : atomR l with x | ⟨⟨k0, n0, f0, s0⟩, m⟩
    · rw [ha] at C HE
      clear ha
      go_wp2_with fail
      refine C.out.mono ?_
      rintro e w2 ⟨rfl, hg2⟩
      have HG2 := Lib.hid (grown_trans HG1.out hg2)
      clear hg2
      go_wp2
      refine ⟨rfl, ?_⟩
      rw [HE.out]
      exact ⟨rfl, HG2.out⟩
    · rw [ha] at C HE
      have C2 : Hid (Calls Tryd.prog 22 #[.pointer (some ⟨b, 0, none⟩)] w1 fun e w' => RPost w1 b e w' (.ok (.agg #[.int .i64 k0, .int .i64 n0, .float .f64 f0, .string s0], m))) := C
      clear ha C
      go_wp2_with fail
      refine C2.out.mono ?_
      rintro e w2 ⟨rfl, hr2, hg2⟩
      have HG2 := Lib.hid (grown_trans HG1.out hg2)
      have HR2 := Lib.hid hr2
      obtain ⟨⟨g0, f0'⟩, ⟨g1, f1'⟩, ⟨g2, f2'⟩, ⟨g3, f3'⟩, ⟨g4, f4'⟩⟩ := (HA1.out.kept hg2 HNE.out).cells
      clear hr2 hg2
      go_wp2
      refine bodyPost_ret (v := .agg #[.int .i64 k0, .int .i64 n0, .float .f64 f0, .string s0, .slice none 0 0]) (by simp [results, Tryd.results11, go_sem, g0, g1, g2, g3, g4]) rfl ?_
      rw [HE.out]
      exact ⟨⟨_, rfl, AOwn.nil _ _⟩, value_end HR2.out HG2.out HLT.out _ _ _ _ _⟩
  · have HE : Hid (valueR l = (listsR (Lib.trimPrefix l [91])).map fun p => ((⟨6, 0, 0, ⟨#[]⟩⟩, p.1), p.2)) := Lib.hid (by unfold valueR; rw [if_pos hp])
    obtain ⟨t, ht⟩ : ∃ t, t = Lib.trimPrefix l [91] := ⟨_, rfl⟩
    have HT : Hid (t.length ≤ 281474976710656) := Lib.hid (by rw [ht]; exact Nat.le_trans (Lib.trimPrefix_le _ _) HL.out)
    refine (take_yes HR0.out ⟨#[91]⟩ hp).mono ?_
    rintro e w1 ⟨rfl, hr, hg⟩
    have HG1 := Lib.hid (grown_trans HG0.out hg)
    have HA1 := Lib.hid (HA0.out.kept hg HNE.out)
    have HW1 := Lib.hid (HW0.out.grown hg hb5)
    have HR1 : Hid (Rd w1 b t) := Lib.hid (by rw [ht]; exact hr)
    have HS1 : Hid (w.heap.size < w1.heap.size) := Lib.hid (by have := HSZ.out; have := hg.size; omega)
    have C := Lib.hid (list_any HW1.out hb5 HR1.out HT.out)
    rw [← ht] at HE
    clear hr hg hp ht
    rcases ha : listsR t with x | ⟨ls, m⟩
    · rw [ha] at C HE
      clear ha
      go_wp2_with fail
      refine C.out.mono ?_
      rintro e w2 ⟨rfl, hg2⟩
      have HG2 := Lib.hid (grown_trans HG1.out hg2)
      clear hg2
      go_wp2
      refine ⟨rfl, ?_⟩
      rw [HE.out]
      exact ⟨rfl, HG2.out⟩
    · rw [ha] at C HE
      clear ha
      go_wp2_with fail
      refine C.out.mono ?_
      rintro e w2 ⟨⟨v, rfl, ho⟩, hr2, hg2⟩
      obtain ⟨n, hn⟩ : ∃ n, n = ls.length := ⟨_, rfl⟩
      obtain ⟨p, c, rfl, _, _, _⟩ := ho.form hn
      have HO := Lib.hid ho
      have HG2 := Lib.hid (grown_trans HG1.out hg2)
      have HR2 := Lib.hid hr2
      obtain ⟨⟨g0, f0'⟩, ⟨g1, f1'⟩, ⟨g2, f2'⟩, ⟨g3, f3'⟩, ⟨g4, f4'⟩⟩ := (HA1.out.kept hg2 HNE.out).cells
      clear hr2 hg2 ho hn
      go_wp2
      refine bodyPost_ret (v := .agg #[.int .i64 6, .int .i64 0, .float .f64 0, .string ⟨#[]⟩, .slice p n c]) (by simp [results, Tryd.results11, go_sem, g0, g1, g2, g3, g4]) rfl ?_
      rw [HE.out]
      have h1 := HS1.out
      exact ⟨⟨_, rfl, (((((HO.out.far (p := ⟨w.heap.size, 0, none⟩) h1 _).far (p := ⟨w.heap.size, 1, none⟩) h1 _).far (p := ⟨w.heap.size, 2, none⟩) h1 _).far (p := ⟨w.heap.size, 3, none⟩) h1 _).far (p := ⟨w.heap.size, 4, none⟩) h1 _).le (Nat.le_of_lt h1)⟩, value_end HR2.out HG2.out HLT.out _ _ _ _ _⟩

end Go.Proofs.YtckmajcophpddaaDoor
