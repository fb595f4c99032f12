/-
  PagerPins: while a state is pinned its pages wait, how often the others are laid anew; behind the last Unpin they are free.
-/
import Derived.Test.YtpmiakcngjihnaaDoorGrMem
import Derived.LoopTactic
set_option linter.unusedVariables false
set_option maxRecDepth 100000
namespace Go.Proofs.YtpmiakcngjihnaaDoor
open Go.RowKit

theorem and3 (x : Int) : ∃ m : Nat, m ≤ 3 ∧ bits BinOp.and IntKind.i64 x 3 = (m : Int) := by
  refine ⟨(x % 4).toNat, by omega, ?_⟩
  have h := andLow (n := x) (M := 3) (b := 2) rfl (by omega)
  have e : (x % 4).toNat = x % 4 := by omega
  rw [e]
  exact h
theorem and15' (x : Int) : ∃ m : Nat, m ≤ 15 ∧ bits BinOp.and IntKind.i64 x 15 = (m : Int) := ⟨(x % 16).toNat, by omega, by rw [and15]; omega⟩

theorem upFrom_snoc (a n : Nat) : upFrom a n ++ [((a + n : Nat) : Int)] = upFrom a (n + 1) := by
  unfold upFrom
  rw [List.range_succ, List.map_append]
  simp
theorem upFrom_get {a : Int} {n i : Nat} (h : i < n) : (upFrom a n)[i]? = some (a + i) := by
  unfold upFrom
  rw [List.getElem?_map, List.getElem?_range h]
  rfl
theorem sec_two (w : World) {B r j : Nat} (hr : r < 256) (hj : j < 256) : GBytes (w.alloc (.cells #[.int .u8 (r : Int), .int .u8 (j : Int)] 5)) B (some ⟨w.heap.size, 0, none⟩) [UInt8.ofNat r, UInt8.ofNat j] := by
  refine GBytes.block (heap_alloc_new w _) ?_
  simp [u8s, UInt8.toNat_ofNat', Nat.mod_eq_of_lt hr, Nat.mod_eq_of_lt hj]

theorem Lie.cell {B : Nat} {w : World} {b o n c : Nat} {l : List Int} (h : Lie B w (.slice (some ⟨b, o, none⟩) n c) l) {i : Nat} {x : Int} (hx : l[i]? = some x) : w.cell? ⟨b, o + i, none⟩ = some (.int .i64 x) := by
  obtain ⟨b', o', hq, hc⟩ := h.at hx
  cases hq
  exact hc

set_option maxHeartbeats 25600000 in
theorem law_grpins {w : World} (hT : Tab w) (n0 r0 : Int) :
    Calls Tryd.prog 6 #[.int .i64 n0, .int .i64 r0] w fun e w' => e = .returned (.bool true) ∧ Below w.heap.size w w' := by
  obtain ⟨m, hm, hn⟩ := and3 n0
  obtain ⟨k, hk, hr⟩ := and15' r0
  have HT := Lib.hid hT
  have HNEW := Lib.hid (new_yes (w := w) (n := 100) (by decide) (by decide))
  clear hT
  go_enter Tryd.func6, Tryd.ntmps6
  go_wp2_with fail
  refine HNEW.out.mono ?_; rintro e w1 ⟨p, lm, fm, rfl, hd, hb, hp⟩
  have HB1 := Lib.hid hb
  have HF := Lib.hid (grFormat_ok (HT.out.below HT.out.lt hb) HT.out.lt hd rfl (by show (0 : Int) ≤ _; decide) (by show (4 : Int) ≤ 100; decide))
  clear hd hb hp
  go_wp2_with fail
  refine HF.out.mono ?_; rintro e w2 ⟨rfl, hs⟩
  have HB2 := Lib.hid (HB1.out.trans hs.below)
  have HO := Lib.hid (grOpen_fmt (HT.out.below HT.out.lt HB2.out) hs.disk HB2.out.size rfl (by show (0 : Int) ≤ _; decide) (by show (4 : Int) ≤ 100; decide))
  clear hs
  go_wp2_with fail
  refine HO.out.mono ?_; rintro e w3 ⟨P, rfl, hs⟩
  have HM3 : Hid (∃ X, AbM w w3 P p X ∧ PnX X 2 0 2 2 2 10 []) := Lib.hid ⟨_, ⟨hs.at_, HB2.out.trans hs.below⟩, PnX.new (fmtS_size (S := SD.new 100) 2) (fmt_flush_left rfl) (by show (fmtS (SD.new 100) 2).ops + 1 ≤ 10; have := (fmtS_ops (S := SD.new 100) 2).1; have h0 : (SD.new 100).ops = 0 := rfl; omega)⟩
  clear hs
  go_wp2
  go_loopw [8, 9] (fun fv i wr => ∃ j : Nat, i = .int .i64 j ∧ j ≤ 1 + m ∧ ∃ X, AbM w wr P p X ∧ PnX X 2 j 2 2 (2 + j) (10 + j) [] ∧ OwnI wr w.heap.size fv (upFrom (2 : Nat) j)) (fun _ i _ => 1 + m - (intOf i).toNat)
  case atStart =>
    obtain ⟨X, h1, h2⟩ := HM3.out
    exact ⟨0, rfl, by omega, X, h1, by simpa using h2, OwnI.nil _ _⟩
  case round =>
    obtain ⟨j, rfl, hj, X, hMx, hX, hOw⟩ := hrel
    have HM := Lib.hid hMx
    have HX := Lib.hid hX
    have HOW := Lib.hid hOw
    clear hMx hX hOw
    by_cases hlt : j < 1 + m
    · have d1 : decide ((j : Int) < 1 + (m : Int)) = true := decide_eq_true (by omega)
      go_wp2_with fail
      refine (pn_lay HT.out (HM.out.on (sbox1 _ _)) HX.out (by omega) (by omega) (n := 1) (GBytes.sec (sec_one wr (j := j) (by omega))) rfl (by decide) (by decide) (by simp)).mono ?_; rintro e w4 ⟨rfl, hM4⟩
      have HM4 := Lib.hid hM4.m
      have HX4 := Lib.hid (HX.out.lay (by omega) (pg := pageB 5 (2 + j) (X.g + 1) [UInt8.ofNat j]) (pageB_length (by simp)) (m' := j + 1) (.inr ⟨rfl, rfl, by rw [HX.out.c.g]; rfl⟩))
      have HOW4 := Lib.hid (((HOW.out.below (sbox1 _ _)).keepsG hM4.k).below (sbox1 w4 (.cells #[.int .i64 ((2 + j : Nat) : Int)] 3)))
      have HM4b := Lib.hid (hM4.m.on (sbox1 w4 (.cells #[.int .i64 ((2 + j : Nat) : Int)] 3)))
      have HLEN : Hid ((upFrom (2 : Nat) j).length ≤ 1000000000) := Lib.hid (by rw [upFrom_length]; omega)
      clear hM4
      obtain ⟨no, hno⟩ : ∃ no : Int, no = ((2 + j : Nat) : Int) := ⟨_, rfl⟩
      rw [← hno] at HOW4 HM4b
      have HNO := Lib.hid hno
      rw [← hno]
      clear hno
      go_wp2_with (at_builtin; refine app_ints rfl (.tmp 65) (.tmp 67) rfl rfl HOW4.out rfl ((Joins.cell_of_block (heap_alloc_new w4 _) 0).trans rfl) HLEN.out HM4b.out.below.size ?_; intro v5 w5 ho5 hg5; have HM5 := Lib.hid (HM4b.out.app HOW4.out (Nat.le_refl _) hg5); have HO5 := Lib.hid ho5; clear ho5 hg5)
      go_roundw
      case rel => exact ⟨j + 1, by go_num, by omega, _, HM5.out, by have h := HX4.out; rw [← HNO.out, show (10 : Int) + j + 1 = 10 + ((j + 1 : Nat) : Int) by omega] at h; exact h, by rw [← upFrom_snoc, ← HNO.out]; exact HO5.out⟩
      case measure => simp [intOf]; omega
    · obtain rfl : j = 1 + m := by omega
      have d1 : decide (((1 + m : Nat) : Int) < 1 + (m : Int)) = false := decide_eq_false (by omega)
      have hL := HOW.out.lie
      obtain ⟨q1, n1, c1, rfl, hn1, hnc1, hc1⟩ := hL.form
      have HL1 := Lib.hid hL
      have HSZ0 := Lib.hid (Nat.le_refl wr.heap.size)
      have HN1 : Hid (n1 = 1 + m) := Lib.hid (by rw [hn1, upFrom_length])
      obtain ⟨bq, oq, rfl, hcq⟩ := hL.at (upFrom_get (a := (2 : Nat)) (n := 1 + m) (i := 0) (by omega))
      have hn1p : 0 < n1 := by have := HN1.out; omega
      have hn1q : (0 : Int) < (n1 : Int) := by omega
      have hcq' : wr.cell? ⟨bq, oq, none⟩ = some (.int .i64 2) := hcq
      clear hL hn1 hnc1 hcq
      go_wp2_with fail
      refine (pn_commit HT.out HM.out HX.out (r := 2) (by omega) (by omega) (by omega) (by omega)).mono ?_; rintro e w4 ⟨rfl, hM4⟩
      have HM4 := Lib.hid hM4.m
      have HL4 := Lib.hid (HL1.out.stay (Stay.keeps hM4.k))
      have HX4 := Lib.hid (HX.out.commit (.inr rfl) 2)
      have HSZ := Lib.hid hM4.k.size
      clear hM4 hcq'
      go_wp2_with fail
      refine (pn_pin HM4.out HX4.out).mono ?_; rintro e w5 ⟨rfl, hM5⟩
      have HSTART : Hid (∃ X a, AbM w w5 P p X ∧ PnX X (3 + 0) (1 + m) a (a + (1 + m)) (a + (1 + m)) (100 + 20 * ((0 : Nat) : Int)) [(3, 1)] ∧ a = 2 + (1 + m) * 0 ∧ a ≤ 2 + 4 * 0 ∧ Lie w5.heap.size w5 (.slice (some ⟨bq, oq, none⟩) n1 c1) (upFrom (a : Nat) (1 + m)) ∧ Lie w5.heap.size w5 (.slice (some ⟨bq, oq, none⟩) n1 c1) (upFrom (2 : Nat) (1 + m))) := Lib.hid (by
        have hX5 := HX4.out.pins (qs := [(3, 1)])
        have hL5 : Lie w5.heap.size w5 (.slice (some ⟨bq, oq, none⟩) n1 c1) (upFrom (2 : Nat) (1 + m)) := (HL4.out.stay (Stay.keeps hM5.k)).mono (by have h1 := hM5.k.size; have h2 := hM5.m.below.size; have h3 := HM4.out.below.size; have := HL4.out; exact Nat.le_trans (HSZ.out) h1)
        refine ⟨_, 2, hM5.m, ?_, by omega, by omega, hL5, hL5⟩
        exact ⟨⟨hX5.c.lo, hX5.c.hi, hX5.c.g, hX5.c.n, hX5.c.d, hX5.c.fl, hX5.c.ps, hX5.c.left, by have := hX5.c.ops; omega, hX5.c.size, hX5.c.rd⟩, hX5.us, hX5.L, hX5.w1, hX5.w2, hX5.al⟩)
      clear hM5
      go_wp2
      go_loopw [13, 14] (fun nv i wr => ∃ r : Nat, i = .int .i64 r ∧ r ≤ k ∧ ∃ X a, AbM w wr P p X ∧ PnX X (3 + r) (1 + m) a (a + (1 + m)) (a + (1 + m)) (100 + 20 * (r : Int)) [(3, 1)] ∧ a = 2 + (1 + m) * r ∧ a ≤ 2 + 4 * r ∧ Lie wr.heap.size wr nv (upFrom (a : Nat) (1 + m)) ∧ Lie wr.heap.size wr (.slice (some ⟨bq, oq, none⟩) n1 c1) (upFrom (2 : Nat) (1 + m))) (fun _ i _ => k - (intOf i).toNat)
      case atStart => exact ⟨0, rfl, by omega, HSTART.out⟩
      case round =>
        obtain ⟨r, rfl, hrk, X2, a, hM6, hX6, ha, hab, hNv, hFv⟩ := hrel
        obtain ⟨wb, rfl⟩ : ∃ x, x = wr := ⟨_, rfl⟩
        have HM6 := Lib.hid hM6
        have HX6 := Lib.hid hX6
        have HA := Lib.hid ha
        have HFV := Lib.hid hFv
        have HNV := Lib.hid hNv
        obtain ⟨q2, n2, c2, rfl, hn2, hnc2, hc2⟩ := hNv.form
        have HN2 : Hid (n2 = 1 + m) := Lib.hid (by rw [hn2, upFrom_length])
        obtain ⟨bn, on, rfl, _⟩ := hNv.at (upFrom_get (a := (a : Nat)) (n := 1 + m) (i := 0) (by omega))
        clear hM6 hX6 ha hFv hNv hn2
        by_cases hgo : r < k
        · have d2 : decide ((r : Int) < (k : Int)) = true := decide_eq_true (by omega)
          go_wp2
          go_loopw [15, 16] (fun nv i wx => ∃ j : Nat, i = .int .i64 j ∧ j ≤ 1 + m ∧ ∃ Y, AbM w wx P p Y ∧ PnX Y (3 + r) (1 + m) (a + j) (a + (1 + m)) (a + (1 + m) + j) (100 + 20 * (r : Int) + j) [(3, 1)] ∧ OwnI wx wb.heap.size nv (upFrom ((a + (1 + m) : Nat) : Int) j) ∧ Stay wb.heap.size wb wx) (fun _ i _ => 1 + m - (intOf i).toNat)
          case atStart => exact ⟨0, rfl, by omega, X2, HM6.out, by simpa using HX6.out, OwnI.nil _ _, Stay.refl _ _⟩
          case round =>
            obtain ⟨j, rfl, hj, Y, hMy, hY, hOy, hSy⟩ := hrel
            have HMY := Lib.hid hMy
            have HY := Lib.hid hY
            have HOY := Lib.hid hOy
            have HSY := Lib.hid hSy
            clear hMy hY hOy hSy
            by_cases hlt2 : j < 1 + m
            · have d3 : decide ((j : Int) < 1 + (m : Int)) = true := decide_eq_true (by omega)
              go_wp2_with fail
              refine (pn_lay HT.out (HMY.out.on (sbox1 _ _)) HY.out (by omega) (by omega) (n := 2) (sec_two wr (r := r) (j := j) (by omega) (by omega)) rfl (by decide) (by decide) (by simp)).mono ?_; rintro e w7 ⟨rfl, hM7⟩
              have HM7 := Lib.hid hM7.m
              have HX7 := Lib.hid (HY.out.lay (by omega) (pg := pageB 5 (a + (1 + m) + j) (Y.g + 1) [UInt8.ofNat r, UInt8.ofNat j]) (pageB_length (by simp)) (m' := 1 + m) (.inl ⟨rfl, by have := HX6.out.al; omega⟩))
              have HOW7 := Lib.hid ((HOY.out.below (sbox1 _ _)).keepsG hM7.k)
              have HST7 : Hid (Stay wb.heap.size wb w7) := Lib.hid ((HSY.out.trans (Stay.below (sbox1 _ _))).trans (Stay.keeps hM7.k))
              clear hM7
              obtain ⟨no, hno⟩ : ∃ no : Int, no = ((a + (1 + m) + j : Nat) : Int) := ⟨_, rfl⟩
              rw [← hno] at HX7 HM7
              have HNO := Lib.hid hno
              rw [← hno]
              clear hno
              obtain ⟨dk, hdk⟩ : ∃ dk : Int, dk = ((a + j : Nat) : Int) := ⟨_, rfl⟩
              have hcell : w7.cell? ⟨bn, on + j, none⟩ = some (.int .i64 dk) := by
                have h := (HNV.out.stay HST7.out).cell (upFrom_get (a := (a : Nat)) (n := 1 + m) (i := j) hlt2)
                rw [h, hdk]
                congr 2
              have hdrop := pn_drop HM7.out HX7.out (by omega) (by omega) (by omega)
              have hXd := (HX7.out.drop (by omega) (by omega) (by omega)).1
              rw [← hdk] at hdrop hXd
              have HDROP := Lib.hid hdrop
              have HX8 := Lib.hid hXd
              have hj0 : (0 : Int) ≤ (j : Int) := by omega
              have hj1 : (j : Int) < (n2 : Int) := by have := HN2.out; omega
              have HDK := Lib.hid hdk
              clear hdrop hXd hdk
              go_wp2_with fail
              refine HDROP.out.mono ?_; rintro e w8 ⟨rfl, hM8⟩
              have HM8 := Lib.hid (hM8.m.on (sbox1 w8 (.cells #[.int .i64 no] 3)))
              have HOW8 := Lib.hid ((HOW7.out.keepsG hM8.k).below (sbox1 w8 (.cells #[.int .i64 no] 3)))
              have HST8 := Lib.hid ((HST7.out.trans (Stay.keeps hM8.k)).trans (Stay.below (sbox1 w8 (.cells #[.int .i64 no] 3))))
              have HLEN : Hid ((upFrom ((a + (1 + m) : Nat) : Int) j).length ≤ 1000000000) := Lib.hid (by rw [upFrom_length]; omega)
              have HBW : Hid (wb.heap.size ≤ (w8.alloc (.cells #[.int .i64 no] 3)).heap.size) := Lib.hid HST8.out.size
              clear hM8 hcell
              go_wp2_with (at_builtin; refine app_ints rfl (.tmp 118) (.tmp 120) rfl rfl HOW8.out rfl ((Joins.cell_of_block (heap_alloc_new w8 _) 0).trans rfl) HLEN.out HBW.out ?_; intro v9 w9 ho9 hg9; have HM9 := Lib.hid (HM8.out.app HOW8.out HM6.out.below.size hg9); have HO9 := Lib.hid ho9; have HST9 := Lib.hid (HST8.out.trans (Stay.grown hg9 fun b hb => (HOW8.out.block hb).1)); clear ho9 hg9)
              go_roundw
              case rel =>
                refine ⟨j + 1, by go_num, by omega, _, HM9.out, ?_, by rw [← upFrom_snoc, ← HNO.out]; exact HO9.out, HST9.out⟩
                have h := HX8.out
                rw [show (100 : Int) + 20 * r + j + 1 = 100 + 20 * r + ((j + 1 : Nat) : Int) by omega] at h
                exact h
              case measure => simp [intOf]; omega
            · obtain rfl : j = 1 + m := by omega
              have d3 : decide (((1 + m : Nat) : Int) < 1 + (m : Int)) = false := decide_eq_false (by omega)
              have hL := HOY.out.lie
              obtain ⟨q3, n3, c3, rfl, hn3, hnc3, hc3⟩ := hL.form
              have HL3 := Lib.hid hL
              obtain ⟨bz, oz, rfl, hcz⟩ := hL.at (upFrom_get (a := ((a + (1 + m) : Nat) : Int)) (n := 1 + m) (i := 0) (by omega))
              have hn3' : n3 = 1 + m := by rw [hn3, upFrom_length]
              have hn3p : 0 < n3 := by omega
              have hn3q : (0 : Int) < (n3 : Int) := by omega
              obtain ⟨rt, hrt⟩ : ∃ rt : Int, rt = ((a + (1 + m) : Nat) : Int) := ⟨_, rfl⟩
              have hcz' : wr.cell? ⟨bz, oz, none⟩ = some (.int .i64 rt) := by rw [hrt]; simpa using hcz
              have hcom := pn_commit HT.out HMY.out HY.out (r := a + (1 + m)) (by omega) (by omega) (by omega) (by omega)
              rw [← hrt] at hcom
              have HCOM := Lib.hid hcom
              have HX7 := Lib.hid (HY.out.commit (.inl rfl) (a + (1 + m)))
              have HN3 := Lib.hid hn3'
              clear hL hn3 hnc3 hcz hcom hrt hn3'
              go_wp2_with fail
              refine HCOM.out.mono ?_; rintro e w7 ⟨rfl, hM7⟩
              have HM7 := Lib.hid hM7.m
              have HNX : Hid (Lie w7.heap.size w7 (.slice (some ⟨bz, oz, none⟩) n3 c3) (upFrom ((a + (1 + m) : Nat) : Int) (1 + m))) := Lib.hid ((HL3.out.stay (Stay.keeps hM7.k)).mono hM7.k.size)
              have HFV7 : Hid (Lie w7.heap.size w7 (.slice (some ⟨bq, oq, none⟩) n1 c1) (upFrom (2 : Nat) (1 + m))) := Lib.hid (((HFV.out.stay HSY.out).stay (Stay.keeps hM7.k)).mono (Nat.le_trans HSY.out.size hM7.k.size))
              clear hM7 hcz'
              go_wp2
              go_loopw [19] (fun i wy => ∃ j : Nat, i = .int .i64 j ∧ j ≤ 1 + m ∧ Below w7.heap.size w7 wy) (fun i _ => 1 + m - (intOf i).toNat)
              case atStart => exact ⟨0, rfl, by omega, Below.refl _ _⟩
              case round =>
                obtain ⟨j, rfl, hj9, hb9⟩ := hrel
                have HB9 := Lib.hid hb9
                clear hb9
                by_cases hlt3 : j < 1 + m
                · have d4 : decide ((j : Int) < 1 + (m : Int)) = true := decide_eq_true (by omega)
                  obtain ⟨fk, hfk⟩ : ∃ fk : Int, fk = ((2 + j : Nat) : Int) := ⟨_, rfl⟩
                  have hcell : wr.cell? ⟨bq, oq + j, none⟩ = some (.int .i64 fk) := by
                    have h := (HFV7.out.stay (Stay.below HB9.out)).cell (upFrom_get (a := (2 : Nat)) (n := 1 + m) (i := j) hlt3)
                    rw [h, hfk]
                    congr 2
                  have hrd := pn_read HT.out (HM7.out.on HB9.out) HX7.out (j := j) (by omega) (by have := HX6.out.al; omega)
                  rw [← hfk] at hrd
                  have HRD := Lib.hid hrd
                  have hj0 : (0 : Int) ≤ (j : Int) := by omega
                  have hj1 : (j : Int) < (n1 : Int) := by have := HN1.out; omega
                  clear hrd hfk
                  go_wp2_with fail
                  refine HRD.out.mono ?_; rintro e w8 ⟨v8, rfl, ho, hb8⟩
                  obtain ⟨g, c, rfl, _, _, _, _, hcell8, _⟩ := ho.some (n := 1) rfl (by decide)
                  have hx := hcell8 0 (by simp)
                  have hxj : (([UInt8.ofNat j][0]'(by simp)).toNat : Int) = (j : Int) := by simp [UInt8.toNat_ofNat', Nat.mod_eq_of_lt (show j < 256 by omega)]
                  rw [hxj] at hx
                  have HB10 := Lib.hid (HB9.out.trans (hb8.mono HB9.out.size))
                  clear ho hb8 hcell8 hxj hcell
                  go_wp2
                  go_roundw
                  case rel => exact ⟨j + 1, by go_num, by omega, HB10.out⟩
                  case measure => simp [intOf]; omega
                · obtain rfl : j = 1 + m := by omega
                  have d4 : decide (((1 + m : Nat) : Int) < 1 + (m : Int)) = false := decide_eq_false (by omega)
                  go_wp2
                  go_roundw
                  case rel =>
                    refine ⟨r + 1, by go_num, by omega, _, a + (1 + m), HM7.out.on HB9.out, ?_, by have h := HA.out; have e : (1 + m) * (r + 1) = (1 + m) * r + (1 + m) := Nat.mul_succ _ _; omega, by omega, (HNX.out.stay (Stay.below HB9.out)).mono HB9.out.size, (HFV7.out.stay (Stay.below HB9.out)).mono HB9.out.size⟩
                    have h := HX7.out
                    exact ⟨⟨h.c.lo, h.c.hi, h.c.g, h.c.n, h.c.d, h.c.fl, h.c.ps, h.c.left, by have := h.c.ops; omega, h.c.size, h.c.rd⟩, h.us, h.L, h.w1, h.w2, h.al⟩
                  case measure => simp [intOf]; omega
        · have hrk2 : r = k := by omega
          have d2 : decide ((r : Int) < (k : Int)) = false := decide_eq_false (by omega)
          have hwt := pn_counts HM6.out HX6.out
          obtain ⟨tt, htt⟩ : ∃ tt : Int, tt = ((a - 2 : Nat) : Int) := ⟨_, rfl⟩
          rw [← htt] at hwt
          have HWT := Lib.hid hwt
          have hmul : (1 + (m : Int)) * (k : Int) = tt := by
            rw [htt]
            have h := HA.out
            rw [hrk2] at h
            have e : ((1 + m : Nat) : Int) * (k : Int) = (((1 + m) * k : Nat) : Int) := by rw [Int.natCast_mul]
            rw [show (1 + (m : Int)) = ((1 + m : Nat) : Int) by omega, e]
            congr 1
            omega
          have ht0 : 0 ≤ tt := by omega
          have ht1 : tt ≤ 100 := by omega
          have hun := pn_unpin HM6.out HX6.out
          rw [Nat.add_sub_cancel_left] at hun
          have HUN := Lib.hid hun
          clear hwt htt hun hrk2
          go_wp2_with fail
          refine HWT.out.mono ?_; rintro e w7 ⟨rfl, rfl⟩
          go_wp2_with fail
          refine HUN.out.mono ?_; rintro e w7 ⟨rfl, Z, hZ⟩
          have HZ := Lib.hid hZ
          clear hZ
          go_wp2_with fail
          refine HZ.out.un.mono ?_; rintro e w8 ⟨rfl, hb8⟩
          have HB8 := Lib.hid hb8
          clear hb8
          go_wp2_with fail
          refine (HZ.out.wt _ HB8.out).mono ?_; rintro e w9 ⟨rfl, rfl⟩
          go_wp2_with fail
          refine (HZ.out.us _ HB8.out).mono ?_; rintro e w9 ⟨rfl, rfl⟩
          go_wp2_with fail
          refine (HZ.out.fr _ HB8.out).mono ?_; rintro e w9 ⟨rfl, hb9⟩
          have HB9 := Lib.hid ((HZ.out.m.on HB8.out).on hb9)
          clear hb9
          go_wp2
          go_ret
          exact ⟨rfl, HB9.out.below⟩

end Go.Proofs.YtpmiakcngjihnaaDoor
