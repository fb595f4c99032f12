/-
  The law PageSeals: the walk.
-/
import Derived.Test.YthkgejkgnkpjdaaDoorPgSealR
import Derived.Lib.SlBytesConst
set_option linter.unusedVariables false
set_option maxRecDepth 100000
namespace Go.Proofs.YthkgejkgnkpjdaaDoor
open Go.RowKit

theorem sum_nine : sumV [49, 50, 51, 52, 53, 54, 55, 56, 57] = 3421780262 := by decide +kernel
def nine : List UInt8 := [49, 50, 51, 52, 53, 54, 55, 56, 57]

/-- The law's last lines ask this. -/
theorem nine_sum {w : World} (hT : Tab w) : Calls Tryd.prog 10 #[.slice (some ⟨w.heap.size, 0, none⟩) 9 9] (w.alloc (.cells #[.int .u8 49, .int .u8 50, .int .u8 51, .int .u8 52, .int .u8 53, .int .u8 54, .int .u8 55, .int .u8 56, .int .u8 57] 5 (9, 10))) fun e w' => e = .returned (.int .u32 3421780262) ∧ (w.alloc (.cells #[.int .u8 49, .int .u8 50, .int .u8 51, .int .u8 52, .int .u8 53, .int .u8 54, .int .u8 55, .int .u8 56, .int .u8 57] 5 (9, 10))) = w' := by
  have h1 := sum_any (hT.below hT.lt ((Below.refl _ _).alloc (Nat.le_refl _) (.cells #[.int .u8 49, .int .u8 50, .int .u8 51, .int .u8 52, .int .u8 53, .int .u8 54, .int .u8 55, .int .u8 56, .int .u8 57] 5 (9, 10)))) (Bs.new w 5 (9, 10) #[.int .u8 49, .int .u8 50, .int .u8 51, .int .u8 52, .int .u8 53, .int .u8 54, .int .u8 55, .int .u8 56, .int .u8 57] rfl (l := nine) rfl) (n := 9) (c := 9) rfl (by omega)
  have h2 : sumV nine = 3421780262 := sum_nine
  rw [h2] at h1
  exact h1

/-- Cells of a box in later worlds. -/
theorem box_cell {w w1 : World} {cs : Array Value} {t : TypeId} (hb : Below (w.alloc (.cells cs t)).heap.size (w.alloc (.cells cs t)) w1) (i : Nat) : w1.cell? ⟨w.heap.size, i, none⟩ = cs[i]? ∧ w1.frozen? ⟨w.heap.size, i, none⟩ = false := by
  have h := hb.block w.heap.size (by simp)
  have h2 := heap_alloc_new w (.cells cs t)
  rw [h2] at h
  exact ⟨Joins.cell_of_block h i, Joins.unfrozen_of_block h i⟩
theorem box_on {w w1 : World} {o : Obj} (hb : Below (w.alloc o).heap.size (w.alloc o) w1) : Below w.heap.size w w1 := (((Below.refl w.heap.size w).alloc (Nat.le_refl _) o)).trans (hb.mono (by simp))

/-- What both sides' Seal tells. -/
def SealsPost (w : World) (m : Nat) (x : List UInt8) (code : Int) (e : Ending) (w' : World) : Prop := ∃ q c, e = .returned (.tuple #[.slice q m c, .int .i64 code]) ∧ Bs w' q x ∧ Below w.heap.size w w'

set_option maxHeartbeats 3200000 in
theorem lawPSeals_core {w : World} (hT : Tab w) (k : Int) (n0 n1 : Int) {p : Option Addr} {l : List UInt8} (hl : Bs w p l) {n n' c : Nat} (hn' : n' = l.length) (hnc : n ≤ c) (hc : c ≤ 9223372036854775807) (hcut : n' = if 600 < n then 600 else n) (m : Nat) (x : List UInt8) (hm : m = x.length) (code : Int)
    (HS : ∀ w', Below w.heap.size w w' → Calls Tryd.prog 8 #[.int .u8 k, .int .i64 n0, .int .i64 n1, .slice p n' c] w' (SealsPost w' m x code))
    (HR : ∀ w', Below w.heap.size w w' → Calls Tryd.prog 9 #[.int .u8 k, .int .i64 n0, .int .i64 n1, .slice p n' c] w' (SealsPost w' m x code)) :
    Calls Tryd.prog 3 #[.int .u8 k, .agg #[.int .i64 n0, .int .i64 n1], .slice p n c] w fun e w' => e = .returned (.bool true) ∧ Below w.heap.size w w' := by
  replace HS := Lib.hid HS
  replace HR := Lib.hid HR
  have HM : Hid (∀ w', Below w.heap.size w w' → Calls Tryd.prog 10 #[.slice p n' c] w' fun e w'' => e = .returned (.int .u32 (sumV l : Nat)) ∧ w' = w'') := Lib.hid fun w' hb => sum_any (hT.below hT.lt hb) (hl.below hb) hn' (by rw [hcut]; split <;> omega)
  have HMR : Hid (∀ w', Below w.heap.size w w' → Calls Tryd.prog 11 #[.slice p n' c] w' fun e w'' => e = .returned (.int .u32 (sumV l : Nat)) ∧ w' = w'') := Lib.hid fun w' hb => sumR_any (hl.below hb) hn' (by rw [hcut]; split <;> omega)
  have HT := Lib.hid hT
  have HL := Lib.hid hm
  clear hT hl hn' hm
  generalize sumV l = s at *
  obtain ⟨W, hW⟩ : ∃ W, W = w.alloc (.cells #[.int .i64 n0, .int .i64 n1] 22) := ⟨_, rfl⟩
  have HW0 : Hid (Below w.heap.size w W) := Lib.hid (by rw [hW]; exact (Below.refl _ _).alloc (Nat.le_refl _) _)
  have HK : Hid (∀ w', Below W.heap.size W w' → w'.cell? ⟨w.heap.size, 0, none⟩ = some (.int .i64 n0) ∧ w'.cell? ⟨w.heap.size, 1, none⟩ = some (.int .i64 n1)) := Lib.hid fun w' hb => by
    subst hW
    exact ⟨(box_cell hb 0).1, (box_cell hb 1).1⟩
  have HBW : Hid (∀ w', Below W.heap.size W w' → Below w.heap.size w w') := Lib.hid fun w' hb => HW0.out.trans (hb.mono HW0.out.size)
  by_cases h : 600 < n
  · obtain rfl : n' = 600 := by rw [hcut, if_pos h]
    clear hcut
    go_enter Tryd.func3, Tryd.ntmps3
    go_wp2_with fail
    rw [← hW]
    clear hW
    with_reducible refine (HS.out W HW0.out).mono ?_
    rintro e w1 ⟨q1, d1, rfl, hb1, hB1⟩
    have HB1 := Lib.hid hB1
    have H1 := Lib.hid hb1
    clear hB1 hb1
    obtain ⟨c0, c1⟩ := HK.out w1 HB1.out
    go_wp2_with fail
    with_reducible refine (HR.out w1 (HBW.out w1 HB1.out)).mono ?_
    rintro e w2 ⟨q2, d2, rfl, hb2, hB2⟩
    have HB2 := Lib.hid (HB1.out.trans (hB2.mono HB1.out.size))
    have h1 := str_of (H1.out.below hB2) (c := d1) HL.out
    have h2 := str_of hb2 (c := d2) HL.out
    clear hB2 hb2 c0 c1 H1
    go_wp2_with fail
    with_reducible refine (HM.out w2 (HBW.out w2 HB2.out)).mono ?_
    rintro e w3 ⟨rfl, rfl⟩
    go_wp2_with fail
    with_reducible refine (HMR.out w2 (HBW.out w2 HB2.out)).mono ?_
    rintro e w3 ⟨rfl, rfl⟩
    have hcv := fun (w : World) => Lib.run_convert_bytes_const (P := Tryd.prog) w 23 5 #[.int .u8 49, .int .u8 50, .int .u8 51, .int .u8 52, .int .u8 53, .int .u8 54, .int .u8 55, .int .u8 56, .int .u8 57] 9 9 Tryd.underlying23 Tryd.underlying5
    have HN := Lib.hid (nine_sum (w := w2) (HT.out.below HT.out.lt (HBW.out w2 HB2.out)))
    go_wp2_with fail
    with_reducible refine HN.out.mono ?_
    rintro e w3 ⟨rfl, rfl⟩
    go_wp2
    go_ret
    exact ⟨rfl, HBW.out _ (HB2.out.alloc HB2.out.size _)⟩
  · obtain rfl : n' = n := by rw [hcut, if_neg h]
    clear hcut
    go_enter Tryd.func3, Tryd.ntmps3
    go_wp2_with fail
    rw [← hW]
    clear hW
    with_reducible refine (HS.out W HW0.out).mono ?_
    rintro e w1 ⟨q1, d1, rfl, hb1, hB1⟩
    have HB1 := Lib.hid hB1
    have H1 := Lib.hid hb1
    clear hB1 hb1
    obtain ⟨c0, c1⟩ := HK.out w1 HB1.out
    go_wp2_with fail
    with_reducible refine (HR.out w1 (HBW.out w1 HB1.out)).mono ?_
    rintro e w2 ⟨q2, d2, rfl, hb2, hB2⟩
    have HB2 := Lib.hid (HB1.out.trans (hB2.mono HB1.out.size))
    have h1 := str_of (H1.out.below hB2) (c := d1) HL.out
    have h2 := str_of hb2 (c := d2) HL.out
    clear hB2 hb2 c0 c1 H1
    go_wp2_with fail
    with_reducible refine (HM.out w2 (HBW.out w2 HB2.out)).mono ?_
    rintro e w3 ⟨rfl, rfl⟩
    go_wp2_with fail
    with_reducible refine (HMR.out w2 (HBW.out w2 HB2.out)).mono ?_
    rintro e w3 ⟨rfl, rfl⟩
    have hcv := fun (w : World) => Lib.run_convert_bytes_const (P := Tryd.prog) w 23 5 #[.int .u8 49, .int .u8 50, .int .u8 51, .int .u8 52, .int .u8 53, .int .u8 54, .int .u8 55, .int .u8 56, .int .u8 57] 9 9 Tryd.underlying23 Tryd.underlying5
    have HN := Lib.hid (nine_sum (w := w2) (HT.out.below HT.out.lt (HBW.out w2 HB2.out)))
    go_wp2_with fail
    with_reducible refine HN.out.mono ?_
    rintro e w3 ⟨rfl, rfl⟩
    go_wp2
    go_ret
    exact ⟨rfl, HBW.out _ (HB2.out.alloc HB2.out.size _)⟩

theorem lawPSeals_any {w : World} (hT : Tab w) (kind : UInt8) (n0 n1 : Int) {p : Option Addr} {l : List UInt8} (hl : Bs w p l) {n c : Nat} (hn : n = l.length) (hnc : n ≤ c) (hc : c ≤ 9223372036854775807) (hp : p = none → c = 0) :
    Calls Tryd.prog 3 #[.int .u8 (kind.toNat : Int), .agg #[.int .i64 n0, .int .i64 n1], .slice p n c] w fun e w' => e = .returned (.bool true) ∧ Below w.heap.size w w' := by
  obtain ⟨m, l', hm, hl', hml⟩ : ∃ (m : Nat) (l' : List UInt8), (m = if 600 < n then 600 else n) ∧ Bs w p l' ∧ m = l'.length := by
    by_cases h : 600 < n
    · exact ⟨600, l.take 600, by rw [if_pos h], hl.take 600, by rw [List.length_take]; omega⟩
    · exact ⟨n, l, by rw [if_neg h], hl, hn⟩
  have hmc : m ≤ c := by rw [hm]; split <;> omega
  obtain ⟨z, hz⟩ : ∃ z, z = sealE n0 n1 m := ⟨_, rfl⟩
  by_cases hz0 : z = 0
  · subst hz0
    have h3 : 0 ≤ n0 ∧ n0 < 4096 ∧ 0 ≤ n1 ∧ n1 ≤ 1152921504606846976 ∧ m ≤ 493 := by
      unfold sealE at hz
      split at hz
      · cases hz
      · split at hz
        · cases hz
        · omega
    obtain ⟨no, rfl⟩ := Int.eq_ofNat_of_zero_le h3.1
    obtain ⟨gen, rfl⟩ := Int.eq_ofNat_of_zero_le h3.2.2.1
    refine lawPSeals_core hT _ _ _ hl' hml hnc hc hm 512 (pageB kind no gen l') (pageB_length (by omega)).symm 0 (fun w' hb => ?_) (fun w' hb => ?_)
    · refine (seal_ok (hT.below hT.lt hb) kind (no := no) (gen := gen) (by omega) (by omega) (hl'.below hb) hml hmc hc (by omega)).mono ?_
      rintro e w1 ⟨rfl, h1, h2⟩
      exact ⟨_, _, rfl, h1.bs, h2⟩
    · refine (sealR_ok kind (no := no) (gen := gen) (by omega) (by omega) (hl'.below hb) hml hmc hc hp (by omega)).mono ?_
      rintro e w1 ⟨v, rfl, h1, h2⟩
      obtain ⟨q, d, rfl, _, _, h3, _⟩ := h1.form (pageB_length (by omega)).symm
      exact ⟨_, _, rfl, h3, h2⟩
  · refine lawPSeals_core hT _ _ _ hl' hml hnc hc hm 0 [] rfl z (fun w' hb => ?_) (fun w' hb => ?_)
    · refine (seal_bad _ hz hz0 (by omega)).mono ?_
      rintro e w1 ⟨rfl, rfl⟩
      exact ⟨_, _, rfl, Bs.nil _ _, Below.refl _ _⟩
    · refine (sealR_bad _ hz hz0 (by omega)).mono ?_
      rintro e w1 ⟨rfl, rfl⟩
      exact ⟨_, _, rfl, Bs.nil _ _, Below.refl _ _⟩

end Go.Proofs.YthkgejkgnkpjdaaDoor
