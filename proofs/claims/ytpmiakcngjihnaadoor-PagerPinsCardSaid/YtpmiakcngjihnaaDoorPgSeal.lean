/-
  page.Seal: contracts for the walks.
-/
import Derived.Test.YtpmiakcngjihnaaDoorPgLay
import Derived.Deep.RegionHeld3
import Derived.Outline
set_option linter.unusedVariables false
set_option maxRecDepth 100000
namespace Go.Proofs.YtpmiakcngjihnaaDoor
open Go.RowKit

theorem layB_take {kind : UInt8} {no gen : Nat} {l : List UInt8} (h : l.length ≤ 493) : (layB kind no gen l).take 508 = headB kind no gen l := by
  rw [layB, List.take_append_of_le_length (by rw [headB_length h]; omega), List.take_of_length_le (by rw [headB_length h]; omega)]
theorem layB_sum {kind : UInt8} {no gen : Nat} {l : List UInt8} (h : l.length ≤ 493) : splL (layB kind no gen l) 508 (leB 4 (sumV (headB kind no gen l))) = pageB kind no gen l := by
  have h1 := splL_zeros (a := headB kind no gen l) (m := leB 4 (sumV (headB kind no gen l))) (k := 4) (r := 0) (headB_length h) (leB_length _ _)
  rw [List.replicate_zero, List.append_nil] at h1
  exact h1

set_option maxHeartbeats 800000 in
theorem seal_bad {w : World} (k : Int) {no gen : Int} {p : Option Addr} {n c : Nat} {z : Nat} (hz : z = sealE no gen n) (hb : z ≠ 0) (hn : n ≤ 9223372036854775807) :
    Calls Tryd.prog 68 #[.int .u8 k, .int .i64 no, .int .i64 gen, .slice p n c] w (BadPost w z) := by
  have HC := Lib.hid (lay_bad (w := w) k (p := p) (c := c) hz hb hn)
  have h3 : z = 2 ∨ z = 3 := by
    unfold sealE at hz
    split at hz
    · exact .inl hz
    · split at hz
      · exact .inr hz
      · exact absurd hz hb
  clear hz hb
  rcases h3 with rfl | rfl
  · go_enter Tryd.func68, Tryd.ntmps68
    go_wp2_with fail
    with_reducible refine HC.out.mono ?_
    rintro e w1 ⟨rfl, rfl⟩
    go_wp2
    exact bodyPost_ret (v := .tuple #[.slice none 0 0, .int .i64 2]) (by simp [results, Tryd.results68, go_sem]) rfl ⟨rfl, rfl⟩
  · go_enter Tryd.func68, Tryd.ntmps68
    go_wp2_with fail
    with_reducible refine HC.out.mono ?_
    rintro e w1 ⟨rfl, rfl⟩
    go_wp2
    exact bodyPost_ret (v := .tuple #[.slice none 0 0, .int .i64 3]) (by simp [results, Tryd.results68, go_sem]) rfl ⟨rfl, rfl⟩

set_option maxHeartbeats 1600000 in
theorem seal_ok {w : World} (hT : Tab w) (kind : UInt8) {no gen : Nat} (hno : no < 4096) (hg : gen ≤ 1152921504606846976) {p : Option Addr} {l : List UInt8} (hl : Bs w p l) {n c : Nat} (hn : n = l.length) (hnc : n ≤ c) (hc : c ≤ 9223372036854775807) (h493 : n ≤ 493) :
    Calls Tryd.prog 68 #[.int .u8 (kind.toNat : Int), .int .i64 (no : Int), .int .i64 (gen : Int), .slice p n c] w (LayPost w (pageB kind no gen l)) := by
  have HC := Lib.hid (lay_ok (w := w) kind hno hg hl (c := c) hn hnc hc h493)
  have hl493 : l.length ≤ 493 := by omega
  have HN := Lib.hid (layB_length (kind := kind) (no := no) (gen := gen) hl493)
  have HK := Lib.hid (layB_take (kind := kind) (no := no) (gen := gen) hl493)
  have HS := Lib.hid (layB_sum (kind := kind) (no := no) (gen := gen) hl493)
  have HX := Lib.hid (sumV_lt (headB kind no gen l))
  have HT := Lib.hid hT
  clear hl hn hnc hc h493 hl493 hno hg hT
  generalize layB kind no gen l = y at *
  generalize pageB kind no gen l = z at *
  generalize headB kind no gen l = x at *
  go_enter Tryd.func68, Tryd.ntmps68
  go_wp2_with fail
  with_reducible refine HC.out.mono ?_
  rintro e w1 ⟨rfl, h1, hb1⟩
  have HB1 := Lib.hid hb1
  have HP : Hid (∀ w', Below w1.heap.size w1 w' → Calls Tryd.prog 77 #[.slice (some ⟨w.heap.size, 0, none⟩) 508 512] w' fun e w'' => e = .returned (.int .u32 (sumV x : Nat)) ∧ w' = w'') := Lib.hid fun w' hb => by
    have h2 := h1.below h1.lt hb
    have h3 := h2.part 0 508
    rw [List.drop_zero, HK.out] at h3
    refine sum_any ((HT.out.below HT.out.lt hb1).below (Nat.lt_of_lt_of_le HT.out.lt hb1.size) hb) h3 (by rw [← HK.out, List.length_take, HN.out]; rfl) (by omega)
  have HQ : Hid (∀ w', Below w1.heap.size w1 w' → Calls Tryd.prog 84 #[.slice (some ⟨w.heap.size, 508, none⟩) 4 4, .int .u64 (IntKind.u64.wrap (sumV x : Nat))] w' fun e w'' => e = .returned (.tuple #[]) ∧ PSec w'' w.heap.size z ∧ Below w.heap.size w' w'') := Lib.hid fun w' hb => by
    have h2 := h1.below h1.lt hb
    have h3 := put_any (n := 4) (c := 4) (o := 508) (B := w.heap.size) h2 (Nat.le_refl _) (by rw [HN.out]; omega) (by omega) (by omega) (by omega) (x := sumV x) (by have := HX.out; omega)
    rw [HS.out] at h3
    rw [IntKind.wrap_u64, Int.emod_eq_of_lt (by omega) (by have := HX.out; omega)]
    exact h3
  have hx32 := HX.out
  clear h1 hb1 HC
  generalize sumV x = sx at *
  go_wp2_with fail
  go_region_held3 (fun _ => True) (exact trivial)
    (first
      | (go_at_call 77; with_reducible refine (HP.out _ (Below.refl _ _).drew).mono ?_; rintro e w2 ⟨rfl, rfl⟩)
      | (go_at_call 84; with_reducible refine (HQ.out _ (Below.refl _ _).drew).mono ?_; rintro e w3 ⟨rfl, h3, hb3⟩; have H3 := Lib.hid h3; have HB3 := Lib.hid hb3; clear h3 hb3))
  go_wp2
  exact bodyPost_ret (v := .tuple #[.slice (some ⟨w.heap.size, 0, none⟩) 512 512, .int .i64 0]) (by simp [results, Tryd.results68, go_sem]) rfl ⟨rfl, H3.out, HB1.out.trans ((Below.refl _ _).drew.trans HB3.out)⟩

end Go.Proofs.YtpmiakcngjihnaaDoor
