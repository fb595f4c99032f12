/-
  PagerAborts: behind an Abort all pages are as at the last Commit, whatever was laid and dropped; and the same pages are laid again.
-/
import Derived.Test.YtpmiakcngjihnaaDoorGrAbX
import Derived.Test.YtpmiakcngjihnaaDoorInts
import Derived.LoopTactic
set_option linter.unusedVariables false
set_option maxRecDepth 100000
namespace Go.Proofs.YtpmiakcngjihnaaDoor
open Go.RowKit

/-- The law's own pager. -/
structure AbM (w wr : World) (P p : Nat) (X : PG) : Prop where
  at_ : GrAt wr w.heap.size P p X
  below : Below w.heap.size w wr

theorem AbM.step {w wr w' : World} {P p : Nat} {X Y : PG} (h : AbM w wr P p X) (hs : GrStep wr w' w.heap.size P p Y) : AbM w w' P p Y := ⟨hs.at_, h.below.trans hs.below⟩
theorem AbM.on {w wr w' : World} {P p : Nat} {X : PG} (h : AbM w wr P p X) (hb : Below wr.heap.size wr w') : AbM w w' P p X := ⟨h.at_.below hb, h.below.trans (hb.mono h.below.size)⟩

theorem ab_lay {w wr : World} (hT : Tab w) {P p : Nat} {X : PG} (h : AbM w wr P p X) {g i : Nat} {fl : Bool} {ops : Int} (ha : AbX X g i fl ops) (ho : ops ≤ 1000) (hg : g ≤ 3) (hi : i < 50) {q : Option Addr} {n c : Nat} {l : List UInt8} (hl : GBytes wr w.heap.size q l) (hn : n = l.length) (hnc : n ≤ c) (hc : c ≤ 9223372036854775807) (h493 : n ≤ 493) :
    Calls Tryd.prog 12 #[.pointer (some ⟨P, 0, none⟩), .int .u8 5, .slice q n c] wr fun e w' => e = .returned (.tuple #[.int .i64 (2 + (i : Int)), .int .i64 0]) ∧ AbM w w' P p (X.lay ((2 + i : Nat) : Int) (pageB 5 (2 + i) (X.g + 1) l)) := by
  obtain ⟨lm, fm, pl, um, wm, la, v, hI⟩ := h.at_
  have hh := grLay_ok (k := 2 + i) (hT.below hT.lt h.below) hT.lt hI ha.c.fl (ha.least hi) (by rw [ha.c.left]; decide) (by rw [ha.c.left]; decide) (by rw [ha.c.left]; decide) (by have := ha.c.ops; omega) (by rw [ha.c.hi, ha.c.size]) (by rw [ha.c.g]; omega) 5 hl hn hnc hc h493
  rw [show ((2 + i : Nat) : Int) = 2 + (i : Int) by omega] at hh ⊢
  exact hh.mono fun e w' ⟨he, hs⟩ => ⟨he, h.step hs⟩

theorem GBytes.block {w : World} {B g : Nat} {cs : Array Value} {fr : Nat × Nat} {l : List UInt8} (h : w.heap[g]? = some (.cells cs 5 fr)) (hc : cs = (u8s l).toArray) : GBytes w B (some ⟨g, 0, none⟩) l := fun w' _ h2 => Bs.of_block (h2.stay h (ofGr_u8 _ _ _)) hc

theorem sec_one (w : World) {j : Nat} (hj : j < 256) : Sec (w.alloc (.cells #[.int .u8 (j : Int)] 5)) w.heap.size [UInt8.ofNat j] := by
  have h := heap_alloc_new w (.cells #[.int .u8 (j : Int)] 5)
  unfold Sec
  have e : (u8s [UInt8.ofNat j]).toArray = #[.int .u8 (j : Int)] := by
    simp [u8s, UInt8.toNat_ofNat', Nat.mod_eq_of_lt hj]
  rw [e]
  exact h

theorem AbX.fit {X : PG} {g i : Nat} {fl : Bool} {ops : Int} (h : AbX X g i fl ops) (ho : ops ≤ 1000) : Fit X.S 999999990 :=
  ⟨by rw [h.c.left]; decide, by rw [h.c.left]; decide, by have := h.c.ops; omega⟩

theorem ab_commit {w wr : World} (hT : Tab w) {P p : Nat} {X : PG} (h : AbM w wr P p X) {i : Nat} {ops : Int} (ha : AbX X 2 i true ops) (ho : ops ≤ 1000) (h1 : 1 ≤ i) (hi : i < 50) :
    Calls Tryd.prog 14 #[.pointer (some ⟨P, 0, none⟩), .int .i64 2, .int .i64 1, .int .i64 1] wr fun e w' => e = .returned (.int .i64 0) ∧ AbM w w' P p (X.commit 2 1 1) := by
  obtain ⟨lm, fm, pl, um, wm, la, v, hI⟩ := h.at_
  exact (grCommit_ok (hT.below hT.lt h.below) hT.lt hI ha.c.fl (ha.fit ho) (by rw [ha.c.size]; decide) ha.c.left (ha.follows h1 hi)).mono fun e w' ⟨he, hs⟩ => ⟨he, h.step hs⟩

theorem ab_drop {w wr : World} {P p : Nat} {X : PG} (h : AbM w wr P p X) (hL : ∀ k, X.L k = true → X.F.st k = 2) (k : Int) :
    Calls Tryd.prog 13 #[.pointer (some ⟨P, 0, none⟩), .int .i64 k] wr fun e w' => e = .returned (.int .i64 (X.dropE k)) ∧ AbM w w' P p (X.drop k) := by
  obtain ⟨lm, fm, pl, um, wm, la, v, hI⟩ := h.at_
  exact (grDrop_any hI (hL k)).mono fun e w' ⟨he, hs⟩ => ⟨he, h.step hs⟩

theorem ab_abort {w wr : World} {P p : Nat} {X : PG} (h : AbM w wr P p X) (hf : X.failed = false) (hL : ∀ k, X.L k = true → X.F.st k = 2) :
    Calls Tryd.prog 17 #[.pointer (some ⟨P, 0, none⟩)] wr fun e w' => e = .returned (.int .i64 0) ∧ AbM w w' P p X.abort := by
  obtain ⟨lm, fm, pl, um, wm, la, v, hI⟩ := h.at_
  exact (grAbort hI hf hL).mono fun e w' ⟨he, hs⟩ => ⟨he, h.step hs⟩

theorem ab_counts {w wr : World} {P p : Nat} {X : PG} (h : AbM w wr P p X) {g i : Nat} {fl : Bool} {ops : Int} (ha : AbX X g i fl ops) :
    (Calls Tryd.prog 24 #[.pointer (some ⟨P, 0, none⟩)] wr fun e w' => e = .returned (.int .i64 i) ∧ wr = w') ∧ (Calls Tryd.prog 25 #[.pointer (some ⟨P, 0, none⟩)] wr fun e w' => e = .returned (.int .i64 0) ∧ wr = w') := by
  obtain ⟨lm, fm, pl, um, wm, la, v, hI⟩ := h.at_
  obtain ⟨h1, h2⟩ := ha.counts hI.list.ok
  have r1 := grUsed hI
  have r2 := grWaiting hI
  rw [h1] at r1
  rw [h2] at r2
  exact ⟨r1, r2⟩

theorem ab_read {w wr : World} (hT : Tab w) {P p : Nat} {X : PG} (h : AbM w wr P p X) {g i m : Nat} {fl : Bool} {ops : Int} (ha : AbX X g i fl ops) {j : Nat} (hj : j < i) (hi : i < 50) :
    Calls Tryd.prog 26 #[.pointer (some ⟨P, 0, none⟩), .int .i64 (2 + (j : Int))] wr (PgReadPost wr 5 [UInt8.ofNat j]) := by
  obtain ⟨lm, fm, pl, um, wm, la, v, hI⟩ := h.at_
  have hh := grRead (k := 2 + j) (kind := 5) (gen := 3) (l := [UInt8.ofNat j]) (hT.below hT.lt h.below) hI (by rw [ha.st hj hi]; decide) (by rw [ha.c.size]; omega) (ha.c.rd j hj) (by simp) (by omega)
  rw [show ((2 + j : Nat) : Int) = 2 + (j : Int) by omega] at hh
  exact hh

set_option maxHeartbeats 12800000 in
theorem law_graborts {w : World} (hT : Tab w) {q : Option Addr} {dn dc : Nat} {ds : List Int} (hk : Ks w q ds) (hdn : dn = ds.length) (hmax : dn ≤ 9223372036854775807) (n : Int) :
    Calls Tryd.prog 7 #[.int .i64 n, .slice q dn dc] w fun e w' => e = .returned (.bool true) ∧ Below w.heap.size w w' := by
  obtain ⟨m, hm, hn⟩ : ∃ m : Nat, m ≤ 15 ∧ bits BinOp.and IntKind.i64 n 15 = (m : Int) := ⟨(n % 16).toNat, by omega, by rw [and15]; omega⟩
  have HT := Lib.hid hT
  have HKS := Lib.hid hk
  have HDN := Lib.hid hdn
  have HNEW := Lib.hid (new_yes (w := w) (n := 60) (by decide) (by decide))
  clear hT hk hdn
  go_enter Tryd.func7, Tryd.ntmps7
  go_wp2_with fail
  refine HNEW.out.mono ?_; rintro e w1 ⟨p, lm, fm, rfl, hd, hb, hp⟩
  have HB1 := Lib.hid hb
  have HF := Lib.hid (grFormat_ok (HT.out.below HT.out.lt hb) HT.out.lt hd rfl (by show (0 : Int) ≤ _; decide) (by show (4 : Int) ≤ 60; decide))
  clear hd hb hp
  go_wp2_with fail
  refine HF.out.mono ?_; rintro e w2 ⟨rfl, hs⟩
  have HB2 := Lib.hid (HB1.out.trans hs.below)
  have HO := Lib.hid (grOpen_fmt (HT.out.below HT.out.lt HB2.out) hs.disk HB2.out.size rfl (by show (0 : Int) ≤ _; decide) (by show (4 : Int) ≤ 60; decide))
  clear hs
  go_wp2_with fail
  refine HO.out.mono ?_; rintro e w3 ⟨P, rfl, hs⟩
  have HM3 : Hid (∃ X, AbM w w3 P p X ∧ AbX X 2 0 true 10) := Lib.hid ⟨_, ⟨hs.at_, HB2.out.trans hs.below⟩, AbX.new (fmtS_size (S := SD.new 60) 2) (fmt_flush_left rfl) (by show (fmtS (SD.new 60) 2).ops + 1 ≤ 10; have := (fmtS_ops (S := SD.new 60) 2).1; have h0 : (SD.new 60).ops = 0 := rfl; omega)⟩
  clear hs
  go_wp2
  go_loopw [8] (fun i wr => ∃ j : Nat, i = .int .i64 j ∧ j ≤ 1 + m ∧ ∃ X, AbM w wr P p X ∧ AbX X 2 j true (10 + j)) (fun i _ => 1 + m - (intOf i).toNat)
  case atStart =>
    obtain ⟨X, h1, h2⟩ := HM3.out
    exact ⟨0, rfl, by omega, X, h1, by simpa using h2⟩
  case round =>
    obtain ⟨j, rfl, hj, X, hMx, hX⟩ := hrel
    have HM := Lib.hid hMx
    have HX := Lib.hid hX
    clear hMx hX
    by_cases hlt : j < 1 + m
    · have d1 : decide ((j : Int) < 1 + (m : Int)) = true := decide_eq_true (by omega)
      go_wp2_with fail
      refine (ab_lay HT.out (HM.out.on (sbox1 _ _)) HX.out (by omega) (by omega) (by omega) (n := 1) (GBytes.sec (sec_one wr (j := j) (by omega))) rfl (by decide) (by decide) (by decide)).mono ?_; rintro e w4 ⟨rfl, hM4⟩
      have HM4 := Lib.hid hM4
      have HX4 := Lib.hid (HX.out.lay (pg := pageB 5 (2 + j) (X.g + 1) [UInt8.ofNat j]) (by rw [HX.out.c.g]; rfl))
      clear hM4
      go_wp2
      go_roundw
      case rel => exact ⟨j + 1, by go_num, by omega, _, HM4.out, by have h := HX4.out; rw [show (10 : Int) + j + 1 = 10 + ((j + 1 : Nat) : Int) by omega] at h; exact h⟩
      case measure => simp [intOf]; omega
    · obtain rfl : j = 1 + m := by omega
      have d1 : decide (((1 + m : Nat) : Int) < 1 + (m : Int)) = false := decide_eq_false (by omega)
      go_wp2_with fail
      refine (ab_commit HT.out HM.out HX.out (by omega) (by omega) (by omega)).mono ?_; rintro e w4 ⟨rfl, hM4⟩
      have HM4 := Lib.hid hM4
      have HX4 := Lib.hid HX.out.commit
      clear hM4
      have hcv := fun (w : World) => Lib.run_convert_bytes_const (P := Tryd.prog) w 37 5 #[.int .u8 120] 1 1 Tryd.underlying37 Tryd.underlying5
      go_wp2_with fail
      refine (ab_lay HT.out (HM4.out.on (sbox1 _ _)) HX4.out (by omega) (by omega) (by omega) (n := 1) (l := [120]) (GBytes.block (heap_alloc_new w4 _) rfl) rfl (by decide) (by decide) (by decide)).mono ?_; rintro e w5 ⟨rfl, hM5⟩
      have HM5 : Hid (∃ X, AbM w w5 P p X ∧ AbD X (1 + m) 100) := Lib.hid ⟨_, hM5, by
        have h := HX4.out.lay2 (pg := pageB 5 (2 + (1 + m)) ((X.commit 2 1 1).g + 1) [120]) (pageB_length (by decide))
        exact ⟨⟨h.c.lo, h.c.hi, h.c.g, h.c.n, h.c.d, h.c.fl, h.c.ps, h.c.left, by have := h.c.ops; omega, h.c.size, h.c.rd⟩, h.L, h.us, h.al, h.ws⟩⟩
      clear hM5 hcv
      go_wp2
      go_loopw [12] (fun i wr => ∃ j : Nat, i = .int .i64 j ∧ j ≤ 20 ∧ j ≤ dn ∧ ∃ X, AbM w wr P p X ∧ AbD X (1 + m) 100) (fun i _ => 20 - (intOf i).toNat)
      case atStart =>
        obtain ⟨X, h1, h2⟩ := HM5.out
        exact ⟨0, rfl, by omega, by omega, X, h1, h2⟩
      case round =>
        obtain ⟨j, rfl, hj, hjd, Y, hMy, hY⟩ := hrel
        have HMY := Lib.hid hMy
        have HY := Lib.hid hY
        clear hMy hY
        by_cases hgo : j < dn ∧ j < 20
        · obtain ⟨g1, g2⟩ := hgo
          have e1 : decide ((j : Int) < (dn : Int)) = true := decide_eq_true (by omega)
          have e2 : decide ((j : Int) < 20) = true := decide_eq_true (by omega)
          obtain ⟨x, hx⟩ : ∃ x, ds[j]? = some x := ⟨_, List.getElem?_eq_getElem (by have := HDN.out; omega)⟩
          obtain ⟨b, o, rfl, hc⟩ := HKS.out.at hx
          have hcr : wr.cell? ⟨b, o + j, none⟩ = some (.int .i64 x) := by rw [HMY.out.below.cell (World.block_lt_of_cell? _ _ hc)]; exact hc
          obtain ⟨m2, hm2, hx2⟩ : ∃ m2 : Nat, m2 ≤ 15 ∧ bits BinOp.and IntKind.i64 x 15 = (m2 : Int) := ⟨(x % 16).toNat, by omega, by rw [and15]; omega⟩
          have hj0 : (0 : Int) ≤ (j : Int) := by omega
          have hj1 : (j : Int) < (dn : Int) := by omega
          clear hx hc
          go_wp2_with fail
          refine (ab_drop HMY.out (HY.out.laid (by omega)) _).mono ?_; rintro e w6 ⟨rfl, hM6⟩
          have HM6 := Lib.hid hM6
          have HY6 := Lib.hid (HY.out.drop (2 + (m2 : Int)))
          clear hM6 hcr hx2 hm2
          go_wp2
          go_roundw
          case rel => exact ⟨j + 1, by go_num, by omega, by omega, _, HM6.out, HY6.out⟩
          case measure => simp [intOf]; omega
        · have HAB := Lib.hid (ab_abort HMY.out HY.out.c.fl (HY.out.laid (by omega)))
          have HZ := Lib.hid HY.out.abort
          by_cases hbj : j < dn
          · have hb3 : ¬ ((j : Int) < 20) := by omega
            have hb4 : decide ((j : Int) < 20) = false := decide_eq_false hb3
            have hb5 : decide ((j : Int) < (dn : Int)) = true := decide_eq_true (by omega)
            go_wp2_with fail
            refine HAB.out.mono ?_; rintro e w6 ⟨rfl, hM6⟩
            have HM6 := Lib.hid hM6
            have HCT := Lib.hid (ab_counts hM6 HZ.out)
            clear hM6
            go_wp2_with fail
            refine HCT.out.1.mono ?_; rintro e w7 ⟨rfl, rfl⟩
            go_wp2_with fail
            refine HCT.out.2.mono ?_; rintro e w7 ⟨rfl, rfl⟩
            go_wp2
            go_loopw [13] (fun i wr => ∃ j : Nat, i = .int .i64 j ∧ j ≤ 1 + m ∧ AbM w wr P p Y.abort) (fun i _ => 1 + m - (intOf i).toNat)
            case atStart => exact ⟨0, rfl, by omega, HM6.out⟩
            case round =>
              obtain ⟨j, rfl, hj, hM7⟩ := hrel
              have HM7 := Lib.hid hM7
              clear hM7
              by_cases hlt : j < 1 + m
              · have d1 : decide ((j : Int) < 1 + (m : Int)) = true := decide_eq_true (by omega)
                go_wp2_with fail
                refine (ab_read (m := 0) HT.out HM7.out HZ.out hlt (by omega)).mono ?_; rintro e w8 ⟨v8, rfl, ho, hb8⟩
                obtain ⟨g, c, rfl, _, _, _, _, hcell, _⟩ := ho.some (n := 1) rfl (by decide)
                have hx := hcell 0 (by simp)
                have hxj : (([UInt8.ofNat j][0]'(by simp)).toNat : Int) = (j : Int) := by simp [UInt8.toNat_ofNat', Nat.mod_eq_of_lt (show j < 256 by omega)]
                rw [hxj] at hx
                have HM8 := Lib.hid (HM7.out.on hb8)
                clear ho hb8 hcell hxj
                go_wp2
                go_roundw
                case rel => exact ⟨j + 1, by go_num, by omega, HM8.out⟩
                case measure => simp [intOf]; omega
              · obtain rfl : j = 1 + m := by omega
                have d1 : decide (((1 + m : Nat) : Int) < 1 + (m : Int)) = false := decide_eq_false (by omega)
                go_wp2_with fail
                refine (ab_lay HT.out HM7.out HZ.out (by omega) (by omega) (by omega) (n := 0) (c := 0) (l := []) (GBytes.nil _ _ _) rfl (by decide) (by decide) (by decide)).mono ?_; rintro e w9 ⟨rfl, hM9⟩
                have HM9 := Lib.hid hM9
                clear hM9
                go_wp2
                go_ret
                exact ⟨rfl, HM9.out.below⟩
          · have hb5 : decide ((j : Int) < (dn : Int)) = false := decide_eq_false (by omega)
            go_wp2_with fail
            refine HAB.out.mono ?_; rintro e w6 ⟨rfl, hM6⟩
            have HM6 := Lib.hid hM6
            have HCT := Lib.hid (ab_counts hM6 HZ.out)
            clear hM6
            go_wp2_with fail
            refine HCT.out.1.mono ?_; rintro e w7 ⟨rfl, rfl⟩
            go_wp2_with fail
            refine HCT.out.2.mono ?_; rintro e w7 ⟨rfl, rfl⟩
            go_wp2
            go_loopw [13] (fun i wr => ∃ j : Nat, i = .int .i64 j ∧ j ≤ 1 + m ∧ AbM w wr P p Y.abort) (fun i _ => 1 + m - (intOf i).toNat)
            case atStart => exact ⟨0, rfl, by omega, HM6.out⟩
            case round =>
              obtain ⟨j, rfl, hj, hM7⟩ := hrel
              have HM7 := Lib.hid hM7
              clear hM7
              by_cases hlt : j < 1 + m
              · have d1 : decide ((j : Int) < 1 + (m : Int)) = true := decide_eq_true (by omega)
                go_wp2_with fail
                refine (ab_read (m := 0) HT.out HM7.out HZ.out hlt (by omega)).mono ?_; rintro e w8 ⟨v8, rfl, ho, hb8⟩
                obtain ⟨g, c, rfl, _, _, _, _, hcell, _⟩ := ho.some (n := 1) rfl (by decide)
                have hx := hcell 0 (by simp)
                have hxj : (([UInt8.ofNat j][0]'(by simp)).toNat : Int) = (j : Int) := by simp [UInt8.toNat_ofNat', Nat.mod_eq_of_lt (show j < 256 by omega)]
                rw [hxj] at hx
                have HM8 := Lib.hid (HM7.out.on hb8)
                clear ho hb8 hcell hxj
                go_wp2
                go_roundw
                case rel => exact ⟨j + 1, by go_num, by omega, HM8.out⟩
                case measure => simp [intOf]; omega
              · obtain rfl : j = 1 + m := by omega
                have d1 : decide (((1 + m : Nat) : Int) < 1 + (m : Int)) = false := decide_eq_false (by omega)
                go_wp2_with fail
                refine (ab_lay HT.out HM7.out HZ.out (by omega) (by omega) (by omega) (n := 0) (c := 0) (l := []) (GBytes.nil _ _ _) rfl (by decide) (by decide) (by decide)).mono ?_; rintro e w9 ⟨rfl, hM9⟩
                have HM9 := Lib.hid hM9
                clear hM9
                go_wp2
                go_ret
                exact ⟨rfl, HM9.out.below⟩

end Go.Proofs.YtpmiakcngjihnaaDoor
