/-
  SectorCuts: a cut lets just so many operations be done, and refuses all behind them, without a change.
-/
import Derived.Test.YtholgkmlfgmhfaaSRead
import Derived.LoopTactic
import Derived.Lib.SlBytesConst
set_option linter.unusedVariables false
set_option maxRecDepth 100000
namespace Go.Proofs.Ytholgkmlfgmhfaa
open Go.RowKit

theorem and_low (x : Int) (m : Nat) (hm : m < 4611686018427387904) : ∃ r : Nat, bits .and .i64 x (m : Int) = (r : Int) ∧ r ≤ m := by
  refine ⟨(BitVec.ofInt 64 x &&& BitVec.ofInt 64 (m : Int)).toNat, ?_, ?_⟩
  · have hle : (BitVec.ofInt 64 x &&& BitVec.ofInt 64 (m : Int)).toNat ≤ m := by
      rw [BitVec.toNat_and]
      refine Nat.le_trans Nat.and_le_right ?_
      rw [BitVec.toNat_ofInt]
      omega
    show IntKind.i64.wrap _ = _
    rw [IntKind.wrap_i64]
    show ((((BitVec.ofInt 64 x &&& BitVec.ofInt 64 (m : Int)).toNat : Nat) : Int) + 9223372036854775808) % 18446744073709551616 - 9223372036854775808 = _
    omega
  · rw [BitVec.toNat_and]
    refine Nat.le_trans Nat.and_le_right ?_
    rw [BitVec.toNat_ofInt]
    omega

/-- The disk behind i of the writes. -/
def cutW (n : Nat) : Nat → SD
  | 0 => (SD.new 3).cut n
  | i + 1 => (cutW n i).write 1 [UInt8.ofNat i, 7]

theorem cutW_facts (n : Nat) : ∀ i : Nat, i ≤ n → (cutW n i).left = n - i ∧ (cutW n i).ops = i ∧ (cutW n i).waits.length = i ∧ (cutW n i).size = 3
  | 0, _ => ⟨by show max (n : Int) (-1) = _; omega, rfl, rfl, rfl⟩
  | i + 1, h => by
    obtain ⟨h1, h2, h3, h4⟩ := cutW_facts n i (by omega)
    refine ⟨?_, ?_, ?_, h4⟩
    · show (if 0 < (cutW n i).left then (cutW n i).left - 1 else (cutW n i).left) = _
      rw [h1, if_pos (by omega)]
      omega
    · show (cutW n i).ops + 1 = _
      rw [h2]
      omega
    · show ((cutW n i).waits ++ [_]).length = _
      rw [List.length_append, h3]
      rfl
theorem cutW_read (n i : Nat) : (cutW n (i + 1)).read 1 = pad [UInt8.ofNat i, 7] := by
  show (found ((cutW n i).waits ++ [⟨1, pad [UInt8.ofNat i, 7]⟩]) 1).getD _ = _
  rw [found_snoc]
  unfold putAt
  rw [if_pos rfl]
  rfl

set_option maxHeartbeats 6400000 in
theorem law_cuts {w : World} (x y : Int) :
    Calls Try.prog 6 #[.int .i64 x, .int .i64 y] w fun e w' => e = .returned (.bool true) ∧ Below w.heap.size w w' := by
  obtain ⟨n, hn, hn15⟩ := and_low x 15 (by decide)
  obtain ⟨m, hm, hm7⟩ := and_low y 7 (by decide)
  have hn' : bits .and .i64 x 15 = (n : Int) := hn
  have hm' : bits .and .i64 y 7 = (m : Int) := hm
  clear hn hm
  have HN : Hid (Calls Try.prog 9 #[.int .i64 3] w (NewPost2 w 3)) := Lib.hid (new_yes (by decide) (by decide))
  go_enter Try.func6, Try.ntmps6
  go_wp2_with fail
  refine HN.out.mono ?_; rintro e w1 ⟨p, rfl, hd, hb, hp⟩
  have HB1 := Lib.hid hb
  have HC : Hid (Calls Try.prog 15 #[.pointer (some ⟨p, 0, none⟩), .int .i64 (n : Int)] w1 fun e w' => e = .returned (.tuple #[]) ∧ DiskStep w1 w' w.heap.size p (cutW n 0)) := Lib.hid (cut_any hd n)
  clear hd hb hp HN
  go_wp2_with fail
  refine HC.out.mono ?_; rintro e w2 ⟨rfl, hs⟩
  have HD2 := Lib.hid hs.disk
  have HB2 := Lib.hid (HB1.out.trans hs.below)
  clear hs HC HB1
  go_wp2
  go_loopw [7] (fun u wr => ∃ i : Nat, u = .int .i64 i ∧ i ≤ n ∧ DiskAt wr w.heap.size p (cutW n i) ∧ Below w.heap.size w wr) (fun u _ => n - (intOf u).toNat)
  case atStart => exact ⟨0, rfl, by omega, HD2.out, HB2.out⟩
  case round =>
    obtain ⟨i, rfl, hi, hd, hb⟩ := hrel
    have HD := Lib.hid hd
    have HB := Lib.hid hb
    clear hd hb
    by_cases hlt : i < n
    · have HLT : LtN i n := ⟨hlt⟩
      have hlt' : (i : Int) < (n : Int) := by omega
      have HW : Hid (Calls Try.prog 11 #[.pointer (some ⟨p, 0, none⟩), .int .i64 1, .slice (some ⟨wr.heap.size, 0, none⟩) 2 2] (wr.alloc (.cells #[.int .u8 (i : Int), .int .u8 7] 5)) (fun e w' => e = .returned (.int .i64 0) ∧ DiskStep wr w' w.heap.size p (cutW n (i + 1)))) := Lib.hid (by
        obtain ⟨q1, q2, q3, q4⟩ := cutW_facts n i hi
        have hs : Sec (wr.alloc (.cells #[.int .u8 (i : Int), .int .u8 7] 5)) wr.heap.size [UInt8.ofNat i, 7] := by
          have e : (#[.int .u8 (i : Int), .int .u8 7] : Array Value) = (u8s [UInt8.ofNat i, 7]).toArray := by
            have h4 : (UInt8.ofNat i).toNat = i := by rw [UInt8.toNat_ofNat']; omega
            simp [u8s, h4]
          rw [e]
          exact heap_alloc_new wr _
        exact (write_any (HD.out.below (sbox1 _ _)) (by rw [q1]; omega) (by rw [q1]; omega) (by rw [q1]; omega) (by rw [q2]; omega) (by decide) (by rw [q4]; decide) 2 (Bytes.sec hs) rfl (by simp)).mono fun e w' ⟨he, h⟩ => ⟨he, DiskStep.of ((sbox1 _ _).mono HD.out.base) (Keeps.below (sbox1 _ _)) h⟩)
      go_wp2_with fail
      refine HW.out.mono ?_; rintro e w3 ⟨rfl, hs⟩
      have HD3 := Lib.hid hs.disk
      have HB3 := Lib.hid (HB.out.trans hs.below)
      clear hs HW
      go_wp2
      go_roundw
      case rel => exact ⟨i + 1, by go_num, by have := HLT.h; omega, HD3.out, HB3.out⟩
      case measure => have := HLT.h; simp [intOf]; omega
    · have hin : i = n := by omega
      subst hin
      have hlt' : ¬ ((i : Int) < (i : Int)) := by omega
      have HQ := Lib.hid (cutW_facts i i (Nat.le_refl _))
      revert HD HB
      generalize wr = w3
      intro HB HD
      clear HD2 HB2
      go_wp2
      go_loopw [8] (fun u wr => ∃ j : Nat, u = .int .i64 j ∧ j ≤ m + 1 ∧ DiskAt wr w.heap.size p (cutW i i) ∧ Below w.heap.size w wr) (fun u _ => m + 1 - (intOf u).toNat)
      case atStart => exact ⟨0, rfl, by omega, HD.out, HB.out⟩
      case round =>
        obtain ⟨j, rfl, hj, hd, hb⟩ := hrel
        have HDr := Lib.hid hd
        have HBr := Lib.hid hb
        clear hd hb
        by_cases hjm : j < m + 1
        · have HLT : LtN j (m + 1) := ⟨hjm⟩
          have hlt2 : (j : Int) < 1 + (m : Int) := by omega
          have hcv := fun (w : World) => Lib.run_convert_bytes_const (P := Try.prog) w 30 5 #[.int .u8 120] 1 1 Try.underlying30 Try.underlying5
          have HW : Hid (∀ w', Below wr.heap.size wr w' → ∀ q c, Calls Try.prog 11 #[.pointer (some ⟨p, 0, none⟩), .int .i64 1, .slice q 1 c] w' fun e w2 => e = .returned (.int .i64 17) ∧ Below w'.heap.size w' w2) := Lib.hid fun w' hb q c => write_cut (HDr.out.below hb) (by rw [HQ.out.1]; omega) (by decide) (by rw [HQ.out.2.2.2]; decide) q 1 c (by decide)
          have HF : Hid (∀ w', Below wr.heap.size wr w' → Calls Try.prog 13 #[.pointer (some ⟨p, 0, none⟩)] w' fun e w2 => e = .returned (.int .i64 17) ∧ Below w'.heap.size w' w2) := Lib.hid fun w' hb => flush_cut (HDr.out.below hb) (by rw [HQ.out.1]; omega)
          go_wp2_with fail
          refine (HW.out _ (sbox1 _ _) _ _).mono ?_; rintro e w4 ⟨rfl, hb4⟩
          have HB4 : Hid (Below wr.heap.size wr w4) := Lib.hid ((sbox1 _ _).trans (hb4.mono (sbox1 _ _).size))
          clear hb4
          go_wp2_with fail
          refine (HF.out _ HB4.out).mono ?_; rintro e w5 ⟨rfl, hb5⟩
          have HB5 : Hid (Below wr.heap.size wr w5) := Lib.hid (HB4.out.trans (hb5.mono HB4.out.size))
          clear hb5
          go_wp2
          go_roundw
          case rel => exact ⟨j + 1, by go_num, by have := HLT.h; omega, HDr.out.below HB5.out, HBr.out.trans (HB5.out.mono HBr.out.size)⟩
          case measure => have := HLT.h; simp [intOf]; omega
        · have hjm' : j = m + 1 := by omega
          subst hjm'
          have hlt2 : ¬ (((m + 1 : Nat) : Int) < 1 + (m : Int)) := by omega
          have HR : Hid (Calls Try.prog 21 #[.pointer (some ⟨p, 0, none⟩), .int .i64 1] wr (ReadPost wr ((cutW i i).read 1))) := Lib.hid (read_any HDr.out (by decide) (by rw [HQ.out.2.2.2]; decide))
          go_wp2_with fail
          refine HR.out.mono ?_; rintro e w4 ⟨g, rfl, hg, hs, hb4⟩
          have HD4 := Lib.hid (HDr.out.below hb4)
          have HB4 := Lib.hid (HBr.out.trans (hb4.mono HBr.out.size))
          have HO : Hid (Calls Try.prog 18 #[.pointer (some ⟨p, 0, none⟩)] w4 fun e w' => e = .returned (.int .i64 (i : Int)) ∧ w4 = w') := Lib.hid (by have := ops_any HD4.out; rwa [HQ.out.2.1] at this)
          have HWt : Hid (Calls Try.prog 19 #[.pointer (some ⟨p, 0, none⟩)] w4 fun e w' => e = .returned (.int .i64 (i : Int)) ∧ w4 = w') := Lib.hid (by have := waiting_any HD4.out; rwa [HQ.out.2.2.1] at this)
          have hcell : 0 < i → w4.cell? ⟨g, 0, none⟩ = some (.int .u8 ((i : Int) - 1)) := fun h0 => by
            obtain ⟨k, rfl⟩ : ∃ k, i = k + 1 := ⟨i - 1, by omega⟩
            rw [cutW_read] at hs
            have h4 : (UInt8.ofNat k).toNat = k := by rw [UInt8.toNat_ofNat']; omega
            rw [Joins.cell_of_block hs]
            simp [u8s, pad, h4]
          have HK : Hid (Calls Try.prog 15 #[.pointer (some ⟨p, 0, none⟩), .int .i64 (-3)] w4 fun e w' => e = .returned (.tuple #[]) ∧ DiskStep w4 w' w.heap.size p ((cutW i i).cut (-3))) := Lib.hid (cut_any HD4.out (-3))
          clear hs hg hb4 HR
          by_cases h0 : 0 < i
          · have hc := hcell h0
            have h0' : (0 : Int) < (i : Int) := by omega
            clear hcell
            go_wp2_with fail
            refine HO.out.mono ?_; rintro e w5 ⟨rfl, rfl⟩
            go_wp2_with fail
            refine HWt.out.mono ?_; rintro e w5 ⟨rfl, rfl⟩
            go_wp2_with fail
            refine HK.out.mono ?_; rintro e w5 ⟨rfl, hs5⟩
            have HB5 := Lib.hid (HB4.out.trans hs5.below)
            have HF : Hid (Calls Try.prog 13 #[.pointer (some ⟨p, 0, none⟩)] w5 fun e w' => e = .returned (.int .i64 0) ∧ DiskStep w5 w' w.heap.size p ((cutW i i).cut (-3)).flush) := Lib.hid (flush_any hs5.disk (by show max (-3 : Int) (-1) ≠ 0; decide) (by show -1 ≤ max (-3 : Int) (-1); decide) (by show max (-3 : Int) (-1) ≤ _; decide) (by show (cutW i i).ops ≤ _; rw [HQ.out.2.1]; omega))
            clear hs5
            go_wp2_with fail
            refine HF.out.mono ?_; rintro e w6 ⟨rfl, hs6⟩
            have HB6 := Lib.hid (HB5.out.trans hs6.below)
            have HW6 : Hid (Calls Try.prog 19 #[.pointer (some ⟨p, 0, none⟩)] w6 fun e w' => e = .returned (.int .i64 0) ∧ w6 = w') := Lib.hid (waiting_any hs6.disk)
            have HO6 : Hid (Calls Try.prog 18 #[.pointer (some ⟨p, 0, none⟩)] w6 fun e w' => e = .returned (.int .i64 ((i : Int) + 1)) ∧ w6 = w') := Lib.hid (by have := ops_any hs6.disk; rwa [show ((cutW i i).cut (-3)).flush.ops = (i : Int) + 1 from by show (cutW i i).ops + 1 = _; rw [HQ.out.2.1]] at this)
            clear hs6
            go_wp2_with fail
            refine HW6.out.mono ?_; rintro e w7 ⟨rfl, rfl⟩
            go_wp2_with fail
            refine HO6.out.mono ?_; rintro e w7 ⟨rfl, rfl⟩
            go_wp2
            go_ret
            exact ⟨rfl, HB6.out⟩
          · have hi0 : i = 0 := by omega
            subst hi0
            clear hcell
            go_wp2_with fail
            refine HO.out.mono ?_; rintro e w5 ⟨rfl, rfl⟩
            go_wp2_with fail
            refine HWt.out.mono ?_; rintro e w5 ⟨rfl, rfl⟩
            go_wp2_with fail
            refine HK.out.mono ?_; rintro e w5 ⟨rfl, hs5⟩
            have HB5 := Lib.hid (HB4.out.trans hs5.below)
            have HF : Hid (Calls Try.prog 13 #[.pointer (some ⟨p, 0, none⟩)] w5 fun e w' => e = .returned (.int .i64 0) ∧ DiskStep w5 w' w.heap.size p ((cutW 0 0).cut (-3)).flush) := Lib.hid (flush_any hs5.disk (by show max (-3 : Int) (-1) ≠ 0; decide) (by show -1 ≤ max (-3 : Int) (-1); decide) (by show max (-3 : Int) (-1) ≤ _; decide) (by show (cutW 0 0).ops ≤ _; rw [HQ.out.2.1]; omega))
            clear hs5
            go_wp2_with fail
            refine HF.out.mono ?_; rintro e w6 ⟨rfl, hs6⟩
            have HB6 := Lib.hid (HB5.out.trans hs6.below)
            have HW6 : Hid (Calls Try.prog 19 #[.pointer (some ⟨p, 0, none⟩)] w6 fun e w' => e = .returned (.int .i64 0) ∧ w6 = w') := Lib.hid (waiting_any hs6.disk)
            have HO6 : Hid (Calls Try.prog 18 #[.pointer (some ⟨p, 0, none⟩)] w6 fun e w' => e = .returned (.int .i64 (((0 : Nat) : Int) + 1)) ∧ w6 = w') := Lib.hid (by have := ops_any hs6.disk; rwa [show ((cutW 0 0).cut (-3)).flush.ops = ((0 : Nat) : Int) + 1 from by show (cutW 0 0).ops + 1 = _; rw [HQ.out.2.1]] at this)
            clear hs6
            go_wp2_with fail
            refine HW6.out.mono ?_; rintro e w7 ⟨rfl, rfl⟩
            go_wp2_with fail
            refine HO6.out.mono ?_; rintro e w7 ⟨rfl, rfl⟩
            go_wp2
            go_ret
            exact ⟨rfl, HB6.out⟩

end Go.Proofs.Ytholgkmlfgmhfaa
