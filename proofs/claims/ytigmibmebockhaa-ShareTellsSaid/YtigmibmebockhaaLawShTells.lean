/-
  ShareTells: the walk of the law.
-/
import Derived.Test.YtigmibmebockhaaShRef
import Derived.Deep.RegionHeld3
set_option linter.unusedVariables false
set_option linter.unusedSimpArgs false
set_option maxRecDepth 100000
namespace Go.Proofs.Ytigmibmebockhaa
open Go.RowKit

set_option maxHeartbeats 3200000 in
theorem shareTells_law {w : World} {q : Option Addr} {m c : Nat} {l : List Int} (h : KsOk w q m c l) (most : Int) (hm : I64 most) (x y z : Int) (hx : I64 x) (hy : I64 y) :
    Calls Try.prog 5 #[.slice q m c, .int .i64 most, .agg #[.int .i64 x, .int .i64 y, .int .i64 z]] w (YesPost w true) := by
  obtain ⟨W, hW⟩ : ∃ W, W = w.alloc (.cells #[.int .i64 x, .int .i64 y, .int .i64 z] 46) := ⟨_, rfl⟩
  have HBW : Hid (Below w.heap.size w W) := Lib.hid (by rw [hW]; exact (Below.refl _ _).alloc (Nat.le_refl _) _)
  have HC : Hid (∀ w', Below W.heap.size W w' → w'.cell? ⟨w.heap.size, 0, none⟩ = some (.int .i64 x) ∧ w'.cell? ⟨w.heap.size, 1, none⟩ = some (.int .i64 y) ∧ w'.cell? ⟨w.heap.size, 2, none⟩ = some (.int .i64 z)) := Lib.hid fun w' hb => by
    have hbk : W.heap[w.heap.size]? = some (.cells #[.int .i64 x, .int .i64 y, .int .i64 z] 46 (0, 0)) := by rw [hW]; exact heap_alloc_new w _
    have hlt := (Array.getElem?_eq_some_iff.1 hbk).1
    have h2 := (hb.block _ hlt).trans hbk
    exact ⟨Joins.cell_of_block h2 0, Joins.cell_of_block h2 1, Joins.cell_of_block h2 2⟩
  have HF : Hid (∀ w, Calls Try.prog 19 #[.int .i64 x, .int .i64 y, .int .i64 z, .int .i64 most] w (YesPost w (fitsS x y z most))) := Lib.hid fun w => fits_any x y z most hm
  have HFR : Hid (∀ w, Calls Try.prog 20 #[.int .i64 x, .int .i64 y, .int .i64 z, .int .i64 most] w (YesPost w (fitsS x y z most))) := Lib.hid fun w => rfits_any x y z most hx hy hm
  have HP : Hid (∀ w, Calls Try.prog 21 #[.int .i64 x, .int .i64 most] w (YesPost w (poorS x most))) := Lib.hid fun w => poor_any x most hm
  have HPR : Hid (∀ w, Calls Try.prog 22 #[.int .i64 x, .int .i64 most] w (YesPost w (poorS x most))) := Lib.hid fun w => rpoor_any x most hm
  generalize fitsS x y z most = F at *
  generalize poorS x most = R at *
  have HK := Lib.hid (h.below HBW.out)
  have hmc : m ≤ c := h.h1
  clear h hm hx hy
  by_cases h300 : 300 < m
  · have e1 : decide ((300 : Int) < (m : Int)) = true := decide_eq_true (by omega)
    have HKL : Hid (KsOk W q 300 c (l.take 300)) := Lib.hid (HK.out.take (by omega))
    have h3c : 300 ≤ c := by omega
    generalize l.take 300 = l1 at *
    go_enter Try.func5, Try.ntmps5
    go_wp2_with fail
    rw [← hW]
    replace hW := Lib.hid hW
    go_wp2_with fail
    refine (cut_any HKL.out most).mono ?_
    rintro e w1 ⟨b1, f1, rfl, hc1, hb1⟩
    have HB1 := Lib.hid hb1
    have HC1 := Lib.hid hc1
    clear hb1 hc1
    go_wp2_with fail
    refine (rcut_any (HKL.out.below HB1.out) most).mono ?_
    rintro e w2 ⟨b2, f2, rfl, hc2, hb2⟩
    obtain ⟨rfl, rfl⟩ := HC1.out.only hc2
    have HB2 : Hid (Below W.heap.size W w2) := Lib.hid (HB1.out.trans (hb2.mono HB1.out.size))
    clear hb2 hc2 HC1 HB1
    go_wp2_with fail
    refine (cut_any (ks_three 3 3 4) 7).mono ?_
    rintro e w3 ⟨b3, f3, rfl, hc3, hb3⟩
    obtain ⟨rfl, rfl⟩ := hc3.three
    have HB3 : Hid (Below W.heap.size W w3) := Lib.hid ((HB2.out.alloc HB2.out.size _).trans (hb3.mono (HB2.out.alloc HB2.out.size _).size))
    have HCV : Hid (∀ w', Below w3.heap.size w3 w' → w'.cell? ⟨w.heap.size, 0, none⟩ = some (.int .i64 x) ∧ w'.cell? ⟨w.heap.size, 1, none⟩ = some (.int .i64 y) ∧ w'.cell? ⟨w.heap.size, 2, none⟩ = some (.int .i64 z)) := Lib.hid fun w' hb => HC.out _ (HB3.out.trans (hb.mono HB3.out.size))
    have HEND : Hid (∀ w', Below w3.heap.size w3 w' → Below w.heap.size w w') := Lib.hid fun w' hb => HBW.out.trans ((HB3.out.trans (hb.mono HB3.out.size)).mono HBW.out.size)
    have HBD : Hid (Below w3.heap.size w3 w3.drew) := Lib.hid (Below.refl _ _).drew
    clear hb3 hc3 HB2
    rw [show ((2 : Nat) : Int) = 2 from rfl]
    go_wp2_with fail
    go_region_held3 (fun w' => w'.cell? ⟨w.heap.size, 0, none⟩ = some (.int .i64 x) ∧ w'.cell? ⟨w.heap.size, 1, none⟩ = some (.int .i64 y) ∧ w'.cell? ⟨w.heap.size, 2, none⟩ = some (.int .i64 z))
      (first | exact HCV.out _ HB7.out | exact HCV.out _ HB6.out | exact HCV.out _ HB5.out | exact HCV.out _ HB4.out | exact HCV.out _ HBD.out)
      (first
        | (go_at_call 22; (with_reducible refine (HPR.out _).mono ?_); rintro e w7 ⟨rfl, hb⟩; have HB7 := Lib.hid (HB6.out.trans (hb.mono HB6.out.size)); clear hb)
        | (go_at_call 21; (with_reducible refine (HP.out _).mono ?_); rintro e w6 ⟨rfl, hb⟩; have HB6 := Lib.hid (HB5.out.trans (hb.mono HB5.out.size)); clear hb)
        | (go_at_call 20; (with_reducible refine (HFR.out _).mono ?_); rintro e w5 ⟨rfl, hb⟩; have HB5 := Lib.hid (HB4.out.trans (hb.mono HB4.out.size)); clear hb)
        | (go_at_call 19; (with_reducible refine (HF.out _).mono ?_); rintro e w4 ⟨rfl, hb⟩; have HB4 := Lib.hid (HBD.out.trans (hb.mono HBD.out.size)); clear hb)
        | fail)
    all_goals
      go_wp2
      go_ret
      exact ⟨rfl, HEND.out _ HB7.out⟩
  · have e1 : decide ((300 : Int) < (m : Int)) = false := decide_eq_false (by omega)
    have HKL := HK
    go_enter Try.func5, Try.ntmps5
    go_wp2_with fail
    rw [← hW]
    replace hW := Lib.hid hW
    go_wp2_with fail
    refine (cut_any HKL.out most).mono ?_
    rintro e w1 ⟨b1, f1, rfl, hc1, hb1⟩
    have HB1 := Lib.hid hb1
    have HC1 := Lib.hid hc1
    clear hb1 hc1
    go_wp2_with fail
    refine (rcut_any (HKL.out.below HB1.out) most).mono ?_
    rintro e w2 ⟨b2, f2, rfl, hc2, hb2⟩
    obtain ⟨rfl, rfl⟩ := HC1.out.only hc2
    have HB2 : Hid (Below W.heap.size W w2) := Lib.hid (HB1.out.trans (hb2.mono HB1.out.size))
    clear hb2 hc2 HC1 HB1
    go_wp2_with fail
    refine (cut_any (ks_three 3 3 4) 7).mono ?_
    rintro e w3 ⟨b3, f3, rfl, hc3, hb3⟩
    obtain ⟨rfl, rfl⟩ := hc3.three
    have HB3 : Hid (Below W.heap.size W w3) := Lib.hid ((HB2.out.alloc HB2.out.size _).trans (hb3.mono (HB2.out.alloc HB2.out.size _).size))
    have HCV : Hid (∀ w', Below w3.heap.size w3 w' → w'.cell? ⟨w.heap.size, 0, none⟩ = some (.int .i64 x) ∧ w'.cell? ⟨w.heap.size, 1, none⟩ = some (.int .i64 y) ∧ w'.cell? ⟨w.heap.size, 2, none⟩ = some (.int .i64 z)) := Lib.hid fun w' hb => HC.out _ (HB3.out.trans (hb.mono HB3.out.size))
    have HEND : Hid (∀ w', Below w3.heap.size w3 w' → Below w.heap.size w w') := Lib.hid fun w' hb => HBW.out.trans ((HB3.out.trans (hb.mono HB3.out.size)).mono HBW.out.size)
    have HBD : Hid (Below w3.heap.size w3 w3.drew) := Lib.hid (Below.refl _ _).drew
    clear hb3 hc3 HB2
    rw [show ((2 : Nat) : Int) = 2 from rfl]
    go_wp2_with fail
    go_region_held3 (fun w' => w'.cell? ⟨w.heap.size, 0, none⟩ = some (.int .i64 x) ∧ w'.cell? ⟨w.heap.size, 1, none⟩ = some (.int .i64 y) ∧ w'.cell? ⟨w.heap.size, 2, none⟩ = some (.int .i64 z))
      (first | exact HCV.out _ HB7.out | exact HCV.out _ HB6.out | exact HCV.out _ HB5.out | exact HCV.out _ HB4.out | exact HCV.out _ HBD.out)
      (first
        | (go_at_call 22; (with_reducible refine (HPR.out _).mono ?_); rintro e w7 ⟨rfl, hb⟩; have HB7 := Lib.hid (HB6.out.trans (hb.mono HB6.out.size)); clear hb)
        | (go_at_call 21; (with_reducible refine (HP.out _).mono ?_); rintro e w6 ⟨rfl, hb⟩; have HB6 := Lib.hid (HB5.out.trans (hb.mono HB5.out.size)); clear hb)
        | (go_at_call 20; (with_reducible refine (HFR.out _).mono ?_); rintro e w5 ⟨rfl, hb⟩; have HB5 := Lib.hid (HB4.out.trans (hb.mono HB4.out.size)); clear hb)
        | (go_at_call 19; (with_reducible refine (HF.out _).mono ?_); rintro e w4 ⟨rfl, hb⟩; have HB4 := Lib.hid (HBD.out.trans (hb.mono HBD.out.size)); clear hb)
        | fail)
    all_goals
      go_wp2
      go_ret
      exact ⟨rfl, HEND.out _ HB7.out⟩

end Go.Proofs.Ytigmibmebockhaa
