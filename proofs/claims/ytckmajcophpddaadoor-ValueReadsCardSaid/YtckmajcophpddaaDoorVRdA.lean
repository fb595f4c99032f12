/-
  Read's reader: atom.
-/
import Derived.Test.YtckmajcophpddaaDoorVRdW
import Derived.Test.YtckmajcophpddaaDoorVRdT
import Derived.Test.YtckmajcophpddaaDoorVAt
set_option linter.unusedVariables false
set_option linter.unusedSimpArgs false
set_option maxRecDepth 100000
namespace Go.Proofs.YtckmajcophpddaaDoor
open Go.RowKit

/-- The literal of an atom that a text begins with. -/
def atomR (l : List UInt8) : Except Int (At × List UInt8) :=
  if Lib.hasPrefix l [110, 117, 108, 108] then .ok (⟨0, 0, 0, ⟨#[]⟩⟩, Lib.trimPrefix l [110, 117, 108, 108]) else
  if Lib.hasPrefix l [102, 97, 108, 115, 101] then .ok (⟨1, 0, 0, ⟨#[]⟩⟩, Lib.trimPrefix l [102, 97, 108, 115, 101]) else
  if Lib.hasPrefix l [116, 114, 117, 101] then .ok (⟨1, 1, 0, ⟨#[]⟩⟩, Lib.trimPrefix l [116, 114, 117, 101]) else
  if Lib.hasPrefix l [48, 102] then (floatR (Lib.trimPrefix l [48, 102])).map fun p => (⟨3, 0, p.1, ⟨#[]⟩⟩, p.2) else
  if Lib.hasPrefix l [34] then (textR 256 [] (Lib.trimPrefix l [34])).map fun p => (⟨4, 0, 0, ⟨p.1.toArray⟩⟩, p.2) else
  if Lib.hasPrefix l [120, 34] then (textR 256 [] (Lib.trimPrefix l [120, 34])).map fun p => (⟨5, 0, 0, ⟨p.1.toArray⟩⟩, p.2) else
  (wholeR l).map fun p => (⟨2, p.1, 0, ⟨#[]⟩⟩, p.2)

/-- A new box for an atom lies in block A. -/
def ABox (w : World) (A : Nat) : Prop := w.heap[A]? = some (.cells #[.int .i64 0, .int .i64 0, .float .f64 0, .string ⟨#[]⟩] 24 (0, 0))
theorem ABox.kept {w w' : World} {A b : Nat} (h : ABox w A) (hg : w.grownBy w' (some b)) (hne : A ≠ b) : ABox w' A :=
  (hg.block A (Array.getElem?_eq_some_iff.1 h).1 (fun e => hne (Option.some.inj e))).trans h
theorem ABox.cells {w : World} {A : Nat} (h : ABox w A) : (w.cell? ⟨A, 0, none⟩ = some (.int .i64 0) ∧ w.frozen? ⟨A, 0, none⟩ = false) ∧ (w.cell? ⟨A, 1, none⟩ = some (.int .i64 0) ∧ w.frozen? ⟨A, 1, none⟩ = false) ∧ (w.cell? ⟨A, 2, none⟩ = some (.float .f64 0) ∧ w.frozen? ⟨A, 2, none⟩ = false) ∧ (w.cell? ⟨A, 3, none⟩ = some (.string ⟨#[]⟩) ∧ w.frozen? ⟨A, 3, none⟩ = false) :=
  ⟨⟨Joins.cell_of_block h 0, Joins.unfrozen_of_block h 0⟩, ⟨Joins.cell_of_block h 1, Joins.unfrozen_of_block h 1⟩, ⟨Joins.cell_of_block h 2, Joins.unfrozen_of_block h 2⟩, ⟨Joins.cell_of_block h 3, Joins.unfrozen_of_block h 3⟩⟩
theorem take_no {w : World} {b : Nat} {l : List UInt8} (h : Rd w b l) (p : ByteArray) (hp : Lib.hasPrefix l p.data.toList = false) :
    Calls Tryd.prog 20 #[.pointer (some ⟨b, 0, none⟩), .string p] w fun e w' => e = .returned (.bool false) ∧ Rd w' b l ∧ w.grownBy w' (some b) := by
  have h1 := take_any h p
  have ht : Lib.trimPrefix l p.data.toList = l := by unfold Lib.trimPrefix; rw [hp]; rfl
  rw [hp, ht] at h1
  exact h1
theorem take_yes {w : World} {b : Nat} {l : List UInt8} (h : Rd w b l) (p : ByteArray) (hp : Lib.hasPrefix l p.data.toList = true) :
    Calls Tryd.prog 20 #[.pointer (some ⟨b, 0, none⟩), .string p] w fun e w' => e = .returned (.bool true) ∧ Rd w' b (Lib.trimPrefix l p.data.toList) ∧ w.grownBy w' (some b) := by
  have h1 := take_any h p
  rw [hp] at h1
  exact h1
theorem four_below {w0 w : World} {A B : Nat} (h : Below B w0 w) (hB : B ≤ A) (a b c d : Value) : Below B w0 ((((w.setCell ⟨A, 0, none⟩ a).setCell ⟨A, 1, none⟩ b).setCell ⟨A, 2, none⟩ c).setCell ⟨A, 3, none⟩ d) :=
  (((h.setCell (p := ⟨A, 0, none⟩) hB _).setCell (p := ⟨A, 1, none⟩) hB _).setCell (p := ⟨A, 2, none⟩) hB _).setCell (p := ⟨A, 3, none⟩) hB _
/-- Behind the stores into the result's box. -/
theorem atom_end {w w1 : World} {b : Nat} {m : List UInt8} (hr : Rd w1 b m) (hg : w.grownBy w1 (some b)) (hb : b < w.heap.size) (a c d e : Value) :
    Rd ((((w1.setCell ⟨w.heap.size, 0, none⟩ a).setCell ⟨w.heap.size, 1, none⟩ c).setCell ⟨w.heap.size, 2, none⟩ d).setCell ⟨w.heap.size, 3, none⟩ e) b m ∧ w.grownBy ((((w1.setCell ⟨w.heap.size, 0, none⟩ a).setCell ⟨w.heap.size, 1, none⟩ c).setCell ⟨w.heap.size, 2, none⟩ d).setCell ⟨w.heap.size, 3, none⟩ e) (some b) := by
  have h := four_below (Below.refl w.heap.size w1) (Nat.le_refl _) a c d e
  exact ⟨hr.below h hb, grown_below hg h⟩

set_option maxHeartbeats 4000000 in
theorem atom_any {w : World} (hW : RW w) {b : Nat} (hb5 : 5 < b) {l : List UInt8} (h : Rd w b l) (hl : l.length ≤ 281474976710656) :
    Calls Tryd.prog 22 #[.pointer (some ⟨b, 0, none⟩)] w fun e w' => RPost w b e w' ((atomR l).map fun p => (p.1.cell, p.2)) := by
  have hst := store_flt
  obtain ⟨W, hW0⟩ : ∃ W, W = w.alloc (.cells #[.int .i64 0, .int .i64 0, .float .f64 0, .string ⟨#[]⟩] 24) := ⟨_, rfl⟩
  have HLT := Lib.hid h.lt
  have HBW : Hid (Below w.heap.size w W) := Lib.hid (by rw [hW0]; exact (Below.refl _ _).alloc (Nat.le_refl _) _)
  have HA0 : Hid (ABox W w.heap.size) := Lib.hid (by rw [hW0]; exact heap_alloc_new w _)
  have HR0 : Hid (Rd W b l) := Lib.hid (h.below HBW.out h.lt)
  have HG0 : Hid (w.grownBy W (some b)) := Lib.hid (grown_of_below HBW.out)
  have HW0 : Hid (RW W) := Lib.hid (hW.below HBW.out)
  have HNE : Hid (w.heap.size ≠ b) := Lib.hid (by have := h.lt; omega)
  have HL := Lib.hid hl
  clear h hl hW
  go_enter Tryd.func22, Tryd.ntmps22
  go_wp2_with fail
  rw [← hW0]
  replace hW0 := Lib.hid hW0
  cases k0 : Lib.hasPrefix l [110, 117, 108, 108]
  · refine (take_no HR0.out ⟨#[110, 117, 108, 108]⟩ k0).mono ?_
    rintro e w1 ⟨rfl, hr, hg⟩
    have HG1 := Lib.hid (grown_trans HG0.out hg)
    have HA1 := Lib.hid (HA0.out.kept hg HNE.out)
    have HW1 := Lib.hid (HW0.out.grown hg hb5)
    have HR1 := Lib.hid hr
    clear hr hg HR0 HA0 HW0 HG0
    go_wp2_with fail
    cases k1 : Lib.hasPrefix l [102, 97, 108, 115, 101]
    · refine (take_no HR1.out ⟨#[102, 97, 108, 115, 101]⟩ k1).mono ?_
      rintro e w2 ⟨rfl, hr, hg⟩
      have HG2 := Lib.hid (grown_trans HG1.out hg)
      have HA2 := Lib.hid (HA1.out.kept hg HNE.out)
      have HW2 := Lib.hid (HW1.out.grown hg hb5)
      have HR2 := Lib.hid hr
      clear hr hg HR1 HA1 HW1 HG1
      go_wp2_with fail
      cases k2 : Lib.hasPrefix l [116, 114, 117, 101]
      · refine (take_no HR2.out ⟨#[116, 114, 117, 101]⟩ k2).mono ?_
        rintro e w3 ⟨rfl, hr, hg⟩
        have HG3 := Lib.hid (grown_trans HG2.out hg)
        have HA3 := Lib.hid (HA2.out.kept hg HNE.out)
        have HW3 := Lib.hid (HW2.out.grown hg hb5)
        have HR3 := Lib.hid hr
        clear hr hg HR2 HA2 HW2 HG2
        go_wp2_with fail
        cases k3 : Lib.hasPrefix l [48, 102]
        · refine (take_no HR3.out ⟨#[48, 102]⟩ k3).mono ?_
          rintro e w4 ⟨rfl, hr, hg⟩
          have HG4 := Lib.hid (grown_trans HG3.out hg)
          have HA4 := Lib.hid (HA3.out.kept hg HNE.out)
          have HW4 := Lib.hid (HW3.out.grown hg hb5)
          have HR4 := Lib.hid hr
          clear hr hg HR3 HA3 HW3 HG3
          go_wp2_with fail
          cases k4 : Lib.hasPrefix l [34]
          · refine (take_no HR4.out ⟨#[34]⟩ k4).mono ?_
            rintro e w5 ⟨rfl, hr, hg⟩
            have HG5 := Lib.hid (grown_trans HG4.out hg)
            have HA5 := Lib.hid (HA4.out.kept hg HNE.out)
            have HW5 := Lib.hid (HW4.out.grown hg hb5)
            have HR5 := Lib.hid hr
            clear hr hg HR4 HA4 HW4 HG4
            go_wp2_with fail
            cases k5 : Lib.hasPrefix l [120, 34]
            · refine (take_no HR5.out ⟨#[120, 34]⟩ k5).mono ?_
              rintro e w6 ⟨rfl, hr, hg⟩
              have HG6 := Lib.hid (grown_trans HG5.out hg)
              have HA6 := Lib.hid (HA5.out.kept hg HNE.out)
              have HW6 := Lib.hid (HW5.out.grown hg hb5)
              have HR6 := Lib.hid hr
              clear hr hg HR5 HA5 HW5 HG5
              have HE : Hid (atomR l = (wholeR l).map fun p => (⟨2, p.1, 0, ⟨#[]⟩⟩, p.2)) := Lib.hid (by unfold atomR; rw [if_neg (by rw [k0]; decide)]; rw [if_neg (by rw [k1]; decide)]; rw [if_neg (by rw [k2]; decide)]; rw [if_neg (by rw [k3]; decide)]; rw [if_neg (by rw [k4]; decide)]; rw [if_neg (by rw [k5]; decide)])
              have C := Lib.hid (whole_any HW6.out hb5 HR6.out HL.out)
              rcases hc : wholeR l with x | ⟨q, m2⟩
              all_goals
                rw [hc] at C HE
                clear hc
                go_wp2_with fail
                refine C.out.mono ?_
              · rintro e w9 ⟨rfl, hg9⟩
                have HG9 := Lib.hid (grown_trans HG6.out hg9)
                clear hg9
                go_wp2
                refine ⟨rfl, ?_⟩
                rw [HE.out]
                exact ⟨rfl, HG9.out⟩
              · rintro e w9 ⟨rfl, hr9, hg9⟩
                have HG9 := Lib.hid (grown_trans HG6.out hg9)
                obtain ⟨⟨g0, f0⟩, ⟨g1, f1⟩, ⟨g2, f2⟩, ⟨g3, f3⟩⟩ := (HA6.out.kept hg9 HNE.out).cells
                have HR9 := Lib.hid hr9
                clear hg9 hr9
                go_wp2
                refine bodyPost_ret (v := At.cell ⟨2, q, 0, ⟨#[]⟩⟩) (by simp [results, Tryd.results22, go_sem, At.cell, g0, g1, g2, g3]) rfl ?_
                rw [HE.out]
                exact ⟨rfl, atom_end HR9.out HG9.out HLT.out _ _ _ _⟩
            · refine (take_yes HR5.out ⟨#[120, 34]⟩ k5).mono ?_
              rintro e w6 ⟨rfl, hr, hg⟩
              have HG6 := Lib.hid (grown_trans HG5.out hg)
              have HA6 := Lib.hid (HA5.out.kept hg HNE.out)
              have HW6 := Lib.hid (HW5.out.grown hg hb5)
              clear HR5 HA5 HW5 HG5
              obtain ⟨m, hm⟩ : ∃ m, m = Lib.trimPrefix l [120, 34] := ⟨_, rfl⟩
              have hml : m.length ≤ 281474976710656 := by rw [hm]; exact Nat.le_trans (Lib.trimPrefix_le _ _) HL.out
              have HR : Hid (Rd w6 b m) := Lib.hid (by rw [hm]; exact hr)
              have HE : Hid (atomR l = (textR 256 [] m).map fun p => (⟨5, 0, 0, ⟨p.1.toArray⟩⟩, p.2)) := Lib.hid (by unfold atomR; rw [if_neg (by rw [k0]; decide)]; rw [if_neg (by rw [k1]; decide)]; rw [if_neg (by rw [k2]; decide)]; rw [if_neg (by rw [k3]; decide)]; rw [if_neg (by rw [k4]; decide)]; rw [if_pos k5, hm])
              have C := Lib.hid (text_any HR.out (by omega))
              rcases hc : textR 256 [] m with x | ⟨q, m2⟩
              all_goals
                rw [hc] at C HE
                clear hm hml hr hg hc
                go_wp2_with fail
                refine C.out.mono ?_
              · rintro e w9 ⟨rfl, hg9⟩
                have HG9 := Lib.hid (grown_trans HG6.out hg9)
                clear hg9
                go_wp2
                refine ⟨rfl, ?_⟩
                rw [HE.out]
                exact ⟨rfl, HG9.out⟩
              · rintro e w9 ⟨rfl, hr9, hg9⟩
                have HG9 := Lib.hid (grown_trans HG6.out hg9)
                obtain ⟨⟨g0, f0⟩, ⟨g1, f1⟩, ⟨g2, f2⟩, ⟨g3, f3⟩⟩ := (HA6.out.kept hg9 HNE.out).cells
                have HR9 := Lib.hid hr9
                clear hg9 hr9
                go_wp2
                refine bodyPost_ret (v := At.cell ⟨5, 0, 0, ⟨q.toArray⟩⟩) (by simp [results, Tryd.results22, go_sem, At.cell, g0, g1, g2, g3]) rfl ?_
                rw [HE.out]
                exact ⟨rfl, atom_end HR9.out HG9.out HLT.out _ _ _ _⟩
          · refine (take_yes HR4.out ⟨#[34]⟩ k4).mono ?_
            rintro e w5 ⟨rfl, hr, hg⟩
            have HG5 := Lib.hid (grown_trans HG4.out hg)
            have HA5 := Lib.hid (HA4.out.kept hg HNE.out)
            have HW5 := Lib.hid (HW4.out.grown hg hb5)
            clear HR4 HA4 HW4 HG4
            obtain ⟨m, hm⟩ : ∃ m, m = Lib.trimPrefix l [34] := ⟨_, rfl⟩
            have hml : m.length ≤ 281474976710656 := by rw [hm]; exact Nat.le_trans (Lib.trimPrefix_le _ _) HL.out
            have HR : Hid (Rd w5 b m) := Lib.hid (by rw [hm]; exact hr)
            have HE : Hid (atomR l = (textR 256 [] m).map fun p => (⟨4, 0, 0, ⟨p.1.toArray⟩⟩, p.2)) := Lib.hid (by unfold atomR; rw [if_neg (by rw [k0]; decide)]; rw [if_neg (by rw [k1]; decide)]; rw [if_neg (by rw [k2]; decide)]; rw [if_neg (by rw [k3]; decide)]; rw [if_pos k4, hm])
            have C := Lib.hid (text_any HR.out (by omega))
            rcases hc : textR 256 [] m with x | ⟨q, m2⟩
            all_goals
              rw [hc] at C HE
              clear hm hml hr hg hc
              go_wp2_with fail
              refine C.out.mono ?_
            · rintro e w9 ⟨rfl, hg9⟩
              have HG9 := Lib.hid (grown_trans HG5.out hg9)
              clear hg9
              go_wp2
              refine ⟨rfl, ?_⟩
              rw [HE.out]
              exact ⟨rfl, HG9.out⟩
            · rintro e w9 ⟨rfl, hr9, hg9⟩
              have HG9 := Lib.hid (grown_trans HG5.out hg9)
              obtain ⟨⟨g0, f0⟩, ⟨g1, f1⟩, ⟨g2, f2⟩, ⟨g3, f3⟩⟩ := (HA5.out.kept hg9 HNE.out).cells
              have HR9 := Lib.hid hr9
              clear hg9 hr9
              go_wp2
              refine bodyPost_ret (v := At.cell ⟨4, 0, 0, ⟨q.toArray⟩⟩) (by simp [results, Tryd.results22, go_sem, At.cell, g0, g1, g2, g3]) rfl ?_
              rw [HE.out]
              exact ⟨rfl, atom_end HR9.out HG9.out HLT.out _ _ _ _⟩
        · refine (take_yes HR3.out ⟨#[48, 102]⟩ k3).mono ?_
          rintro e w4 ⟨rfl, hr, hg⟩
          have HG4 := Lib.hid (grown_trans HG3.out hg)
          have HA4 := Lib.hid (HA3.out.kept hg HNE.out)
          have HW4 := Lib.hid (HW3.out.grown hg hb5)
          clear HR3 HA3 HW3 HG3
          obtain ⟨m, hm⟩ : ∃ m, m = Lib.trimPrefix l [48, 102] := ⟨_, rfl⟩
          have hml : m.length ≤ 281474976710656 := by rw [hm]; exact Nat.le_trans (Lib.trimPrefix_le _ _) HL.out
          have HR : Hid (Rd w4 b m) := Lib.hid (by rw [hm]; exact hr)
          have HE : Hid (atomR l = (floatR m).map fun p => (⟨3, 0, p.1, ⟨#[]⟩⟩, p.2)) := Lib.hid (by unfold atomR; rw [if_neg (by rw [k0]; decide)]; rw [if_neg (by rw [k1]; decide)]; rw [if_neg (by rw [k2]; decide)]; rw [if_pos k3, hm])
          have C := Lib.hid (float_any HW4.out.pw.tab (by omega) HR.out (by omega))
          rcases hc : floatR m with x | ⟨q, m2⟩
          all_goals
            rw [hc] at C HE
            clear hm hml hr hg hc
            go_wp2_with fail
            refine C.out.mono ?_
          · rintro e w9 ⟨rfl, hg9⟩
            have HG9 := Lib.hid (grown_trans HG4.out hg9)
            clear hg9
            go_wp2
            refine ⟨rfl, ?_⟩
            rw [HE.out]
            exact ⟨rfl, HG9.out⟩
          · rintro e w9 ⟨rfl, hr9, hg9⟩
            have HG9 := Lib.hid (grown_trans HG4.out hg9)
            obtain ⟨⟨g0, f0⟩, ⟨g1, f1⟩, ⟨g2, f2⟩, ⟨g3, f3⟩⟩ := (HA4.out.kept hg9 HNE.out).cells
            have HR9 := Lib.hid hr9
            clear hg9 hr9
            go_wp2
            refine bodyPost_ret (v := At.cell ⟨3, 0, q, ⟨#[]⟩⟩) (by simp [results, Tryd.results22, go_sem, At.cell, g0, g1, g2, g3]) rfl ?_
            rw [HE.out]
            exact ⟨rfl, atom_end HR9.out HG9.out HLT.out _ _ _ _⟩
      · refine (take_yes HR2.out ⟨#[116, 114, 117, 101]⟩ k2).mono ?_
        rintro e w3 ⟨rfl, hr, hg⟩
        have HG3 := Lib.hid (grown_trans HG2.out hg)
        have HA3 := Lib.hid (HA2.out.kept hg HNE.out)
        have HW3 := Lib.hid (HW2.out.grown hg hb5)
        clear HR2 HA2 HW2 HG2
        have HE : Hid (atomR l = .ok (⟨1, 1, 0, ⟨#[]⟩⟩, Lib.trimPrefix l [116, 114, 117, 101])) := Lib.hid (by unfold atomR; rw [if_neg (by rw [k0]; decide)]; rw [if_neg (by rw [k1]; decide)]; rw [if_pos k2])
        obtain ⟨m, hm⟩ : ∃ m, m = Lib.trimPrefix l [116, 114, 117, 101] := ⟨_, rfl⟩
        have HR : Hid (Rd w3 b m) := Lib.hid (by rw [hm]; exact hr)
        rw [← hm] at HE
        clear hm hr hg
        obtain ⟨⟨g0, f0⟩, ⟨g1, f1⟩, ⟨g2, f2⟩, ⟨g3, f3⟩⟩ := HA3.out.cells
        go_wp2
        refine bodyPost_ret (v := At.cell ⟨1, 1, 0, ⟨#[]⟩⟩) (by simp [results, Tryd.results22, go_sem, At.cell, g0, g1, g2, g3]) rfl ?_
        rw [HE.out]
        exact ⟨rfl, atom_end HR.out HG3.out HLT.out _ _ _ _⟩
    · refine (take_yes HR1.out ⟨#[102, 97, 108, 115, 101]⟩ k1).mono ?_
      rintro e w2 ⟨rfl, hr, hg⟩
      have HG2 := Lib.hid (grown_trans HG1.out hg)
      have HA2 := Lib.hid (HA1.out.kept hg HNE.out)
      have HW2 := Lib.hid (HW1.out.grown hg hb5)
      clear HR1 HA1 HW1 HG1
      have HE : Hid (atomR l = .ok (⟨1, 0, 0, ⟨#[]⟩⟩, Lib.trimPrefix l [102, 97, 108, 115, 101])) := Lib.hid (by unfold atomR; rw [if_neg (by rw [k0]; decide)]; rw [if_pos k1])
      obtain ⟨m, hm⟩ : ∃ m, m = Lib.trimPrefix l [102, 97, 108, 115, 101] := ⟨_, rfl⟩
      have HR : Hid (Rd w2 b m) := Lib.hid (by rw [hm]; exact hr)
      rw [← hm] at HE
      clear hm hr hg
      obtain ⟨⟨g0, f0⟩, ⟨g1, f1⟩, ⟨g2, f2⟩, ⟨g3, f3⟩⟩ := HA2.out.cells
      go_wp2
      refine bodyPost_ret (v := At.cell ⟨1, 0, 0, ⟨#[]⟩⟩) (by simp [results, Tryd.results22, go_sem, At.cell, g0, g1, g2, g3]) rfl ?_
      rw [HE.out]
      exact ⟨rfl, atom_end HR.out HG2.out HLT.out _ _ _ _⟩
  · refine (take_yes HR0.out ⟨#[110, 117, 108, 108]⟩ k0).mono ?_
    rintro e w1 ⟨rfl, hr, hg⟩
    have HG1 := Lib.hid (grown_trans HG0.out hg)
    have HA1 := Lib.hid (HA0.out.kept hg HNE.out)
    have HW1 := Lib.hid (HW0.out.grown hg hb5)
    clear HR0 HA0 HW0 HG0
    have HE : Hid (atomR l = .ok (⟨0, 0, 0, ⟨#[]⟩⟩, Lib.trimPrefix l [110, 117, 108, 108])) := Lib.hid (by unfold atomR; rw [if_pos k0])
    obtain ⟨m, hm⟩ : ∃ m, m = Lib.trimPrefix l [110, 117, 108, 108] := ⟨_, rfl⟩
    have HR : Hid (Rd w1 b m) := Lib.hid (by rw [hm]; exact hr)
    rw [← hm] at HE
    clear hm hr hg
    obtain ⟨⟨g0, f0⟩, ⟨g1, f1⟩, ⟨g2, f2⟩, ⟨g3, f3⟩⟩ := HA1.out.cells
    go_wp2
    refine bodyPost_ret (v := At.cell ⟨0, 0, 0, ⟨#[]⟩⟩) (by simp [results, Tryd.results22, go_sem, At.cell, g0, g1, g2, g3]) rfl ?_
    rw [HE.out]
    exact ⟨rfl, atom_end HR.out HG1.out HLT.out _ _ _ _⟩

end Go.Proofs.YtckmajcophpddaaDoor
