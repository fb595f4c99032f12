/-
  PagerOpens: a disk that was formatted is opened with the generation 2 and no root; one that was not, or is too small, is not.
-/
import Derived.Test.YtpmiakcngjihnaaDoorGrMeta
import Derived.Test.YtpmiakcngjihnaaDoorFrPure
import Derived.Test.YtpmiakcngjihnaaDoorLawGrNobody
set_option linter.unusedVariables false
set_option maxRecDepth 100000
namespace Go.Proofs.YtpmiakcngjihnaaDoor
open Go.RowKit

theorem and255 (x : Int) : ∃ m : Nat, m ≤ 255 ∧ bits BinOp.and IntKind.i64 x 255 = (m : Int) := by
  refine ⟨(x % 256).toNat, by omega, ?_⟩
  have h := andLow (n := x) (M := 255) (b := 8) rfl (by omega)
  have e : (x % 256).toNat = x % 256 := by omega
  rw [e]
  exact h

theorem countP_no {l : List Int} : l.countP (fun _ => false) = 0 := by rw [List.countP_eq_zero]; simp
theorem FL.new_used (lo hi : Int) : (FL.new lo hi).nUsed = 0 := countP_no
theorem FL.new_waits (lo hi : Int) : (FL.new lo hi).nWaits = 0 := countP_no
theorem FL.new_free (lo hi : Int) : (FL.new lo hi).nFree = hi - lo := by
  unfold FL.nFree
  rw [FL.new_used, FL.new_waits]
  show hi - lo - (0 : Nat) - (0 : Nat) = hi - lo
  omega

/-- What the law stands on, from the disk on that was written (or not). -/
structure OpensOn (w w1 : World) (p lm fm : Nat) (S : SD) : Prop where
  tab : Tab w
  disk : DiskAt w1 w.heap.size p lm fm S
  below : Below w.heap.size w w1
  left : S.left = -1
  ops : S.ops ≤ 1
  r0 : S.read 0 = zeros 512
  r1 : 2 < S.size → S.read 1 = zeros 512

theorem OpensOn.open1 {w w1 : World} {p lm fm : Nat} {S : SD} (h : OpensOn w w1 p lm fm S) : Calls Tryd.prog 10 #[.pointer (some ⟨p, 0, none⟩)] w1 (Open1Post w1 w.heap.size p S) :=
  grOpen_first (h.tab.below h.tab.lt h.below) h.disk h.below.size h.left (by have := h.ops; omega) h.r0 h.r1

set_option maxHeartbeats 3200000 in
theorem opens_01 {w : World} (hT : Tab w) {q : Option Addr} {l : List UInt8} {k c : Nat} (hl : Bs w q l) (hk : k = l.length) (hkc : k ≤ c) (hc : c ≤ 9223372036854775807) (h5 : k ≤ 512) {n : Int} (hn : bits BinOp.and IntKind.i64 n 255 = 0) :
    Calls Tryd.prog 5 #[.int .i64 n, .slice q k c] w fun e w' => e = .returned (.bool true) ∧ Below w.heap.size w w' := by
  have HNEW := Lib.hid (new_yes (w := w) (n := 1) (by omega) (by omega))
  have d5 : decide ((512 : Int) < (k : Int)) = false := decide_eq_false (by omega)
  have HQ := Lib.hid hl
  have HL : Hid (k = l.length) := Lib.hid (by exact hk)
  have H5 : Hid (l.length ≤ 512) := Lib.hid (by omega)
  have HTT := Lib.hid hT
  clear hl hk hT
  go_enter Tryd.func5, Tryd.ntmps5
  go_wp2_with fail
  refine HNEW.out.mono ?_; rintro e w1 ⟨p, lm, fm, rfl, hd, hb, hp⟩
  have HO : Hid (OpensOn w w1 p lm fm (SD.new 1)) := Lib.hid ⟨HTT.out, hd, hb, rfl, by show (0 : Int) ≤ 1; omega, SD.new_read _ _, fun _ => SD.new_read _ _⟩
  obtain ⟨S, hS⟩ : ∃ S, S = SD.new 1 := ⟨_, rfl⟩
  have HS : Hid (S.size = 1) := Lib.hid (by rw [hS]; rfl)
  rw [← hS] at HO
  clear hd hb hp hS
  go_wp2_with fail
  refine HO.out.open1.mono ?_; rintro e w3 ⟨a, x, lm', fm', S', rfl, hd, hb, hz, hl, hops, hn2⟩
  have HD3 := Lib.hid hd
  have HB3 := Lib.hid (HO.out.below.trans hb)
  have HZ : Hid (S'.size = 1) := Lib.hid (hz.trans HS.out)
  have HL3 := Lib.hid hl
  have HO3 : Hid (S'.ops ≤ 3) := Lib.hid (by have := HO.out.ops; omega)
  clear hd hb hz hl hops hn2
  have HFM := Lib.hid (grFormat_few HD3.out (by rw [HZ.out]; decide))
  go_wp2_with fail
  refine HFM.out.mono ?_; rintro e w4 ⟨rfl, rfl⟩
  go_wp2
  go_ret
  exact ⟨rfl, HB3.out⟩

set_option maxHeartbeats 3200000 in
theorem opens_02 {w : World} (hT : Tab w) {q : Option Addr} {l : List UInt8} {k c : Nat} (hl : Bs w q l) (hk : k = l.length) (hkc : k ≤ c) (hc : c ≤ 9223372036854775807) (h5 : k ≤ 512) {n : Int} (hn : bits BinOp.and IntKind.i64 n 255 = 1) :
    Calls Tryd.prog 5 #[.int .i64 n, .slice q k c] w fun e w' => e = .returned (.bool true) ∧ Below w.heap.size w w' := by
  have HNEW := Lib.hid (new_yes (w := w) (n := 2) (by omega) (by omega))
  have d5 : decide ((512 : Int) < (k : Int)) = false := decide_eq_false (by omega)
  have HQ := Lib.hid hl
  have HL : Hid (k = l.length) := Lib.hid (by exact hk)
  have H5 : Hid (l.length ≤ 512) := Lib.hid (by omega)
  have HTT := Lib.hid hT
  clear hl hk hT
  go_enter Tryd.func5, Tryd.ntmps5
  go_wp2_with fail
  refine HNEW.out.mono ?_; rintro e w1 ⟨p, lm, fm, rfl, hd, hb, hp⟩
  have HWR := Lib.hid (write_any hd (k := 1) (by show (-1 : Int) ≠ 0; decide) (by show (-1 : Int) ≤ -1; decide) (by show (-1 : Int) ≤ _; decide) (by show (0 : Int) ≤ _; decide) (by omega) (by show 1 < 2; omega) c (Bytes.arg (lm := lm) (fm := fm) (HQ.out) hb) HL.out H5.out)
  have HD := Lib.hid hd
  have HB := Lib.hid hb
  clear hd hb hp
  go_wp2_with fail
  skip
  refine HWR.out.mono ?_; rintro e w2 ⟨rfl, hs⟩
  have HO : Hid (OpensOn w w2 p lm fm ((SD.new (2)).write 1 l)) := Lib.hid ⟨HTT.out, hs.disk, HB.out.trans hs.below, rfl, by show (0 : Int) + 1 ≤ 1; omega, by rw [SD.write_read, if_neg (by decide)]; exact SD.new_read _ _, fun h2 => by
    exact absurd (show (2 : Int) < 2 from h2) (by decide)⟩
  obtain ⟨S, hS⟩ : ∃ S, S = (SD.new (2)).write 1 l := ⟨_, rfl⟩
  have HS : Hid (S.size = 2) := Lib.hid (by rw [hS]; rfl)
  rw [← hS] at HO
  clear hs hS HWR
  go_wp2_with fail
  refine HO.out.open1.mono ?_; rintro e w3 ⟨a, x, lm', fm', S', rfl, hd, hb, hz, hl, hops, hn2⟩
  have HD3 := Lib.hid hd
  have HB3 := Lib.hid (HO.out.below.trans hb)
  have HZ : Hid (S'.size = 2) := Lib.hid (hz.trans HS.out)
  have HL3 := Lib.hid hl
  have HO3 : Hid (S'.ops ≤ 3) := Lib.hid (by have := HO.out.ops; omega)
  clear hd hb hz hl hops hn2
  have HFM := Lib.hid (grFormat_few HD3.out (by rw [HZ.out]; decide))
  go_wp2_with fail
  refine HFM.out.mono ?_; rintro e w4 ⟨rfl, rfl⟩
  go_wp2
  go_ret
  exact ⟨rfl, HB3.out⟩

set_option maxHeartbeats 3200000 in
theorem opens_03 {w : World} (hT : Tab w) {q : Option Addr} {l : List UInt8} {k c : Nat} (hl : Bs w q l) (hk : k = l.length) (hkc : k ≤ c) (hc : c ≤ 9223372036854775807) (h5 : k ≤ 512) {n : Int} (hn : bits BinOp.and IntKind.i64 n 255 = 2) :
    Calls Tryd.prog 5 #[.int .i64 n, .slice q k c] w fun e w' => e = .returned (.bool true) ∧ Below w.heap.size w w' := by
  have HNEW := Lib.hid (new_yes (w := w) (n := 3) (by omega) (by omega))
  have d5 : decide ((512 : Int) < (k : Int)) = false := decide_eq_false (by omega)
  have HQ := Lib.hid hl
  have HL : Hid (k = l.length) := Lib.hid (by exact hk)
  have H5 : Hid (l.length ≤ 512) := Lib.hid (by omega)
  have HTT := Lib.hid hT
  clear hl hk hT
  go_enter Tryd.func5, Tryd.ntmps5
  go_wp2_with fail
  refine HNEW.out.mono ?_; rintro e w1 ⟨p, lm, fm, rfl, hd, hb, hp⟩
  have HWR := Lib.hid (write_any hd (k := 2) (by show (-1 : Int) ≠ 0; decide) (by show (-1 : Int) ≤ -1; decide) (by show (-1 : Int) ≤ _; decide) (by show (0 : Int) ≤ _; decide) (by omega) (by show 2 < 3; omega) c (Bytes.arg (lm := lm) (fm := fm) (HQ.out) hb) HL.out H5.out)
  have HD := Lib.hid hd
  have HB := Lib.hid hb
  clear hd hb hp
  go_wp2_with fail
  skip
  refine HWR.out.mono ?_; rintro e w2 ⟨rfl, hs⟩
  have HO : Hid (OpensOn w w2 p lm fm ((SD.new (3)).write 2 l)) := Lib.hid ⟨HTT.out, hs.disk, HB.out.trans hs.below, rfl, by show (0 : Int) + 1 ≤ 1; omega, by rw [SD.write_read, if_neg (by decide)]; exact SD.new_read _ _, fun h2 => by
    rw [SD.write_read, if_neg (by decide)]; exact SD.new_read _ _⟩
  obtain ⟨S, hS⟩ : ∃ S, S = (SD.new (3)).write 2 l := ⟨_, rfl⟩
  have HS : Hid (S.size = 3) := Lib.hid (by rw [hS]; rfl)
  rw [← hS] at HO
  clear hs hS HWR
  go_wp2_with fail
  refine HO.out.open1.mono ?_; rintro e w3 ⟨a, x, lm', fm', S', rfl, hd, hb, hz, hl, hops, hn2⟩
  have HD3 := Lib.hid hd
  have HB3 := Lib.hid (HO.out.below.trans hb)
  have HZ : Hid (S'.size = 3) := Lib.hid (hz.trans HS.out)
  have HL3 := Lib.hid hl
  have HO3 : Hid (S'.ops ≤ 3) := Lib.hid (by have := HO.out.ops; omega)
  obtain ⟨rfl, rfl⟩ := hn2 (by rw [HS.out]; decide)
  clear hd hb hz hl hops hn2
  have HFM := Lib.hid (grFormat_few HD3.out (by rw [HZ.out]; decide))
  go_wp2_with fail
  refine HFM.out.mono ?_; rintro e w4 ⟨rfl, rfl⟩
  go_wp2
  go_ret
  exact ⟨rfl, HB3.out⟩

set_option maxHeartbeats 3200000 in
theorem opens_04 {w : World} (hT : Tab w) {q : Option Addr} {l : List UInt8} {k c : Nat} (hl : Bs w q l) (hk : k = l.length) (hkc : k ≤ c) (hc : c ≤ 9223372036854775807) (h5 : k ≤ 512) {n : Int} {m : Nat} (hm : 3 ≤ m) (hm2 : m ≤ 255) (hn : bits BinOp.and IntKind.i64 n 255 = (m : Int)) :
    Calls Tryd.prog 5 #[.int .i64 n, .slice q k c] w fun e w' => e = .returned (.bool true) ∧ Below w.heap.size w w' := by
  have HNEW := Lib.hid (new_yes (w := w) (n := 1 + (m : Int)) (by omega) (by omega))
  have d5 : decide ((512 : Int) < (k : Int)) = false := decide_eq_false (by omega)
  have HQ := Lib.hid hl
  have HL : Hid (k = l.length) := Lib.hid (by exact hk)
  have H5 : Hid (l.length ≤ 512) := Lib.hid (by omega)
  have HTT := Lib.hid hT
  have t1 : decide ((1 : Int) < 1 + (m : Int)) = true := decide_eq_true (by omega)
  have t2 : decide ((2 : Int) < 1 + (m : Int)) = true := decide_eq_true (by omega)
  have t4 : decide (1 + (m : Int) < 4) = false := decide_eq_false (by omega)
  have HM := Lib.hid hm
  have HM2 := Lib.hid hm2
  clear hl hk hT
  go_enter Tryd.func5, Tryd.ntmps5
  go_wp2_with fail
  refine HNEW.out.mono ?_; rintro e w1 ⟨p, lm, fm, rfl, hd, hb, hp⟩
  have HWR := Lib.hid (write_any hd (k := (m : Int)) (by show (-1 : Int) ≠ 0; decide) (by show (-1 : Int) ≤ -1; decide) (by show (-1 : Int) ≤ _; decide) (by show (0 : Int) ≤ _; decide) (by omega) (by show (m : Int) < 1 + (m : Int); omega) c (Bytes.arg (lm := lm) (fm := fm) (HQ.out) hb) HL.out H5.out)
  have HD := Lib.hid hd
  have HB := Lib.hid hb
  clear hd hb hp
  go_wp2_with fail
  rw [show (1 + (m : Int) - 1) = (m : Int) by omega]
  refine HWR.out.mono ?_; rintro e w2 ⟨rfl, hs⟩
  have HO : Hid (OpensOn w w2 p lm fm ((SD.new (1 + (m : Int))).write (m : Int) l)) := Lib.hid ⟨HTT.out, hs.disk, HB.out.trans hs.below, rfl, by show (0 : Int) + 1 ≤ 1; omega, by rw [SD.write_read, if_neg (by have := HM.out; omega)]; exact SD.new_read _ _, fun h2 => by
    rw [SD.write_read, if_neg (by have := HM.out; omega)]; exact SD.new_read _ _⟩
  obtain ⟨S, hS⟩ : ∃ S, S = (SD.new (1 + (m : Int))).write (m : Int) l := ⟨_, rfl⟩
  have HS : Hid (S.size = 1 + (m : Int)) := Lib.hid (by rw [hS]; rfl)
  rw [← hS] at HO
  clear hs hS HWR
  go_wp2_with fail
  refine HO.out.open1.mono ?_; rintro e w3 ⟨a, x, lm', fm', S', rfl, hd, hb, hz, hl, hops, hn2⟩
  have HD3 := Lib.hid hd
  have HB3 := Lib.hid (HO.out.below.trans hb)
  have HZ : Hid (S'.size = 1 + (m : Int)) := Lib.hid (hz.trans HS.out)
  have HL3 := Lib.hid hl
  have HO3 : Hid (S'.ops ≤ 3) := Lib.hid (by have := HO.out.ops; omega)
  obtain ⟨rfl, rfl⟩ := hn2 (by rw [HS.out]; have := HM.out; omega)
  clear hd hb hz hl hops hn2
  have HFM := Lib.hid (grFormat_ok (HTT.out.below HTT.out.lt HB3.out) HTT.out.lt HD3.out HL3.out (by have := HO3.out; omega) (by rw [HZ.out]; have := HM.out; omega))
  go_wp2_with fail
  refine HFM.out.mono ?_; rintro e w4 ⟨rfl, hs⟩
  have HB4 := Lib.hid (HB3.out.trans hs.below)
  have HOF := Lib.hid (grOpen_fmt (HTT.out.below HTT.out.lt HB4.out) hs.disk HB4.out.size HL3.out (by have := HO3.out; omega) (by rw [HZ.out]; have := HM.out; omega))
  clear hs
  go_wp2_with fail
  refine HOF.out.mono ?_; rintro e w5 ⟨P, rfl, hs⟩
  have HB5 := Lib.hid (HB4.out.trans hs.below)
  obtain ⟨lm5, fm5, pl, um, wm, la, v, hg⟩ := hs.at_
  have HG := Lib.hid hg
  have HME := Lib.hid (grMeta hg)
  clear hs hg
  go_wp2_with fail
  refine HME.out.mono ?_; rintro e w6 ⟨rfl, hb6⟩
  have HFR := Lib.hid (grFree (HG.out.below hb6))
  have HB6 := Lib.hid (HB5.out.trans (hb6.mono HB5.out.size))
  have HG6 := Lib.hid (HG.out.below hb6)
  clear hb6
  have hfree : (PG.new (fmtS S' 2).flush 2 0 1 1).F.nFree = 1 + (m : Int) - 2 := by
    show (FL.new 2 (fmtS S' 2).size).nFree = _
    rw [FL.new_free, fmtS_size, HZ.out]
  have hused : (PG.new (fmtS S' 2).flush 2 0 1 1).F.nUsed = 0 := FL.new_used _ _
  rw [hfree] at HFR
  go_wp2_with fail
  refine HFR.out.mono ?_; rintro e w7 ⟨rfl, hb7⟩
  have HB7 := Lib.hid (HB6.out.trans (hb7.mono HB6.out.size))
  have HUS := Lib.hid (grUsed (HG6.out.below hb7))
  rw [hused] at HUS
  clear hb7 hfree hused
  go_wp2_with fail
  refine HUS.out.mono ?_; rintro e w8 ⟨rfl, rfl⟩
  go_wp2
  go_ret
  exact ⟨rfl, HB7.out⟩

set_option maxHeartbeats 3200000 in
theorem opens_11 {w : World} (hT : Tab w) {q : Option Addr} {l : List UInt8} {k c : Nat} (hl : Bs w q l) (hk : k = l.length) (hkc : k ≤ c) (hc : c ≤ 9223372036854775807) (h5 : 512 < k) {n : Int} (hn : bits BinOp.and IntKind.i64 n 255 = 0) :
    Calls Tryd.prog 5 #[.int .i64 n, .slice q k c] w fun e w' => e = .returned (.bool true) ∧ Below w.heap.size w w' := by
  have HNEW := Lib.hid (new_yes (w := w) (n := 1) (by omega) (by omega))
  have d5 : decide ((512 : Int) < (k : Int)) = true := decide_eq_true (by omega)
  have HQ := Lib.hid hl
  have HL : Hid (512 = (l.take 512).length) := Lib.hid (by rw [List.length_take]; omega)
  have H5 : Hid ((l.take 512).length ≤ 512) := Lib.hid (by rw [List.length_take]; omega)
  have HTT := Lib.hid hT
  clear hl hk hT
  go_enter Tryd.func5, Tryd.ntmps5
  go_wp2_with fail
  refine HNEW.out.mono ?_; rintro e w1 ⟨p, lm, fm, rfl, hd, hb, hp⟩
  have HO : Hid (OpensOn w w1 p lm fm (SD.new 1)) := Lib.hid ⟨HTT.out, hd, hb, rfl, by show (0 : Int) ≤ 1; omega, SD.new_read _ _, fun _ => SD.new_read _ _⟩
  obtain ⟨S, hS⟩ : ∃ S, S = SD.new 1 := ⟨_, rfl⟩
  have HS : Hid (S.size = 1) := Lib.hid (by rw [hS]; rfl)
  rw [← hS] at HO
  clear hd hb hp hS
  go_wp2_with fail
  refine HO.out.open1.mono ?_; rintro e w3 ⟨a, x, lm', fm', S', rfl, hd, hb, hz, hl, hops, hn2⟩
  have HD3 := Lib.hid hd
  have HB3 := Lib.hid (HO.out.below.trans hb)
  have HZ : Hid (S'.size = 1) := Lib.hid (hz.trans HS.out)
  have HL3 := Lib.hid hl
  have HO3 : Hid (S'.ops ≤ 3) := Lib.hid (by have := HO.out.ops; omega)
  clear hd hb hz hl hops hn2
  have HFM := Lib.hid (grFormat_few HD3.out (by rw [HZ.out]; decide))
  go_wp2_with fail
  refine HFM.out.mono ?_; rintro e w4 ⟨rfl, rfl⟩
  go_wp2
  go_ret
  exact ⟨rfl, HB3.out⟩

set_option maxHeartbeats 3200000 in
theorem opens_12 {w : World} (hT : Tab w) {q : Option Addr} {l : List UInt8} {k c : Nat} (hl : Bs w q l) (hk : k = l.length) (hkc : k ≤ c) (hc : c ≤ 9223372036854775807) (h5 : 512 < k) {n : Int} (hn : bits BinOp.and IntKind.i64 n 255 = 1) :
    Calls Tryd.prog 5 #[.int .i64 n, .slice q k c] w fun e w' => e = .returned (.bool true) ∧ Below w.heap.size w w' := by
  have HNEW := Lib.hid (new_yes (w := w) (n := 2) (by omega) (by omega))
  have d5 : decide ((512 : Int) < (k : Int)) = true := decide_eq_true (by omega)
  have HQ := Lib.hid hl
  have HL : Hid (512 = (l.take 512).length) := Lib.hid (by rw [List.length_take]; omega)
  have H5 : Hid ((l.take 512).length ≤ 512) := Lib.hid (by rw [List.length_take]; omega)
  have HTT := Lib.hid hT
  clear hl hk hT
  go_enter Tryd.func5, Tryd.ntmps5
  go_wp2_with fail
  refine HNEW.out.mono ?_; rintro e w1 ⟨p, lm, fm, rfl, hd, hb, hp⟩
  have HWR := Lib.hid (write_any hd (k := 1) (by show (-1 : Int) ≠ 0; decide) (by show (-1 : Int) ≤ -1; decide) (by show (-1 : Int) ≤ _; decide) (by show (0 : Int) ≤ _; decide) (by omega) (by show 1 < 2; omega) c (Bytes.arg (lm := lm) (fm := fm) (HQ.out.take 512) hb) HL.out H5.out)
  have HD := Lib.hid hd
  have HB := Lib.hid hb
  clear hd hb hp
  go_wp2_with fail
  skip
  refine HWR.out.mono ?_; rintro e w2 ⟨rfl, hs⟩
  have HO : Hid (OpensOn w w2 p lm fm ((SD.new (2)).write 1 (l.take 512))) := Lib.hid ⟨HTT.out, hs.disk, HB.out.trans hs.below, rfl, by show (0 : Int) + 1 ≤ 1; omega, by rw [SD.write_read, if_neg (by decide)]; exact SD.new_read _ _, fun h2 => by
    exact absurd (show (2 : Int) < 2 from h2) (by decide)⟩
  obtain ⟨S, hS⟩ : ∃ S, S = (SD.new (2)).write 1 (l.take 512) := ⟨_, rfl⟩
  have HS : Hid (S.size = 2) := Lib.hid (by rw [hS]; rfl)
  rw [← hS] at HO
  clear hs hS HWR
  go_wp2_with fail
  refine HO.out.open1.mono ?_; rintro e w3 ⟨a, x, lm', fm', S', rfl, hd, hb, hz, hl, hops, hn2⟩
  have HD3 := Lib.hid hd
  have HB3 := Lib.hid (HO.out.below.trans hb)
  have HZ : Hid (S'.size = 2) := Lib.hid (hz.trans HS.out)
  have HL3 := Lib.hid hl
  have HO3 : Hid (S'.ops ≤ 3) := Lib.hid (by have := HO.out.ops; omega)
  clear hd hb hz hl hops hn2
  have HFM := Lib.hid (grFormat_few HD3.out (by rw [HZ.out]; decide))
  go_wp2_with fail
  refine HFM.out.mono ?_; rintro e w4 ⟨rfl, rfl⟩
  go_wp2
  go_ret
  exact ⟨rfl, HB3.out⟩

set_option maxHeartbeats 3200000 in
theorem opens_13 {w : World} (hT : Tab w) {q : Option Addr} {l : List UInt8} {k c : Nat} (hl : Bs w q l) (hk : k = l.length) (hkc : k ≤ c) (hc : c ≤ 9223372036854775807) (h5 : 512 < k) {n : Int} (hn : bits BinOp.and IntKind.i64 n 255 = 2) :
    Calls Tryd.prog 5 #[.int .i64 n, .slice q k c] w fun e w' => e = .returned (.bool true) ∧ Below w.heap.size w w' := by
  have HNEW := Lib.hid (new_yes (w := w) (n := 3) (by omega) (by omega))
  have d5 : decide ((512 : Int) < (k : Int)) = true := decide_eq_true (by omega)
  have HQ := Lib.hid hl
  have HL : Hid (512 = (l.take 512).length) := Lib.hid (by rw [List.length_take]; omega)
  have H5 : Hid ((l.take 512).length ≤ 512) := Lib.hid (by rw [List.length_take]; omega)
  have HTT := Lib.hid hT
  clear hl hk hT
  go_enter Tryd.func5, Tryd.ntmps5
  go_wp2_with fail
  refine HNEW.out.mono ?_; rintro e w1 ⟨p, lm, fm, rfl, hd, hb, hp⟩
  have HWR := Lib.hid (write_any hd (k := 2) (by show (-1 : Int) ≠ 0; decide) (by show (-1 : Int) ≤ -1; decide) (by show (-1 : Int) ≤ _; decide) (by show (0 : Int) ≤ _; decide) (by omega) (by show 2 < 3; omega) c (Bytes.arg (lm := lm) (fm := fm) (HQ.out.take 512) hb) HL.out H5.out)
  have HD := Lib.hid hd
  have HB := Lib.hid hb
  clear hd hb hp
  go_wp2_with fail
  skip
  refine HWR.out.mono ?_; rintro e w2 ⟨rfl, hs⟩
  have HO : Hid (OpensOn w w2 p lm fm ((SD.new (3)).write 2 (l.take 512))) := Lib.hid ⟨HTT.out, hs.disk, HB.out.trans hs.below, rfl, by show (0 : Int) + 1 ≤ 1; omega, by rw [SD.write_read, if_neg (by decide)]; exact SD.new_read _ _, fun h2 => by
    rw [SD.write_read, if_neg (by decide)]; exact SD.new_read _ _⟩
  obtain ⟨S, hS⟩ : ∃ S, S = (SD.new (3)).write 2 (l.take 512) := ⟨_, rfl⟩
  have HS : Hid (S.size = 3) := Lib.hid (by rw [hS]; rfl)
  rw [← hS] at HO
  clear hs hS HWR
  go_wp2_with fail
  refine HO.out.open1.mono ?_; rintro e w3 ⟨a, x, lm', fm', S', rfl, hd, hb, hz, hl, hops, hn2⟩
  have HD3 := Lib.hid hd
  have HB3 := Lib.hid (HO.out.below.trans hb)
  have HZ : Hid (S'.size = 3) := Lib.hid (hz.trans HS.out)
  have HL3 := Lib.hid hl
  have HO3 : Hid (S'.ops ≤ 3) := Lib.hid (by have := HO.out.ops; omega)
  obtain ⟨rfl, rfl⟩ := hn2 (by rw [HS.out]; decide)
  clear hd hb hz hl hops hn2
  have HFM := Lib.hid (grFormat_few HD3.out (by rw [HZ.out]; decide))
  go_wp2_with fail
  refine HFM.out.mono ?_; rintro e w4 ⟨rfl, rfl⟩
  go_wp2
  go_ret
  exact ⟨rfl, HB3.out⟩

set_option maxHeartbeats 3200000 in
theorem opens_14 {w : World} (hT : Tab w) {q : Option Addr} {l : List UInt8} {k c : Nat} (hl : Bs w q l) (hk : k = l.length) (hkc : k ≤ c) (hc : c ≤ 9223372036854775807) (h5 : 512 < k) {n : Int} {m : Nat} (hm : 3 ≤ m) (hm2 : m ≤ 255) (hn : bits BinOp.and IntKind.i64 n 255 = (m : Int)) :
    Calls Tryd.prog 5 #[.int .i64 n, .slice q k c] w fun e w' => e = .returned (.bool true) ∧ Below w.heap.size w w' := by
  have HNEW := Lib.hid (new_yes (w := w) (n := 1 + (m : Int)) (by omega) (by omega))
  have d5 : decide ((512 : Int) < (k : Int)) = true := decide_eq_true (by omega)
  have HQ := Lib.hid hl
  have HL : Hid (512 = (l.take 512).length) := Lib.hid (by rw [List.length_take]; omega)
  have H5 : Hid ((l.take 512).length ≤ 512) := Lib.hid (by rw [List.length_take]; omega)
  have HTT := Lib.hid hT
  have t1 : decide ((1 : Int) < 1 + (m : Int)) = true := decide_eq_true (by omega)
  have t2 : decide ((2 : Int) < 1 + (m : Int)) = true := decide_eq_true (by omega)
  have t4 : decide (1 + (m : Int) < 4) = false := decide_eq_false (by omega)
  have HM := Lib.hid hm
  have HM2 := Lib.hid hm2
  clear hl hk hT
  go_enter Tryd.func5, Tryd.ntmps5
  go_wp2_with fail
  refine HNEW.out.mono ?_; rintro e w1 ⟨p, lm, fm, rfl, hd, hb, hp⟩
  have HWR := Lib.hid (write_any hd (k := (m : Int)) (by show (-1 : Int) ≠ 0; decide) (by show (-1 : Int) ≤ -1; decide) (by show (-1 : Int) ≤ _; decide) (by show (0 : Int) ≤ _; decide) (by omega) (by show (m : Int) < 1 + (m : Int); omega) c (Bytes.arg (lm := lm) (fm := fm) (HQ.out.take 512) hb) HL.out H5.out)
  have HD := Lib.hid hd
  have HB := Lib.hid hb
  clear hd hb hp
  go_wp2_with fail
  rw [show (1 + (m : Int) - 1) = (m : Int) by omega]
  refine HWR.out.mono ?_; rintro e w2 ⟨rfl, hs⟩
  have HO : Hid (OpensOn w w2 p lm fm ((SD.new (1 + (m : Int))).write (m : Int) (l.take 512))) := Lib.hid ⟨HTT.out, hs.disk, HB.out.trans hs.below, rfl, by show (0 : Int) + 1 ≤ 1; omega, by rw [SD.write_read, if_neg (by have := HM.out; omega)]; exact SD.new_read _ _, fun h2 => by
    rw [SD.write_read, if_neg (by have := HM.out; omega)]; exact SD.new_read _ _⟩
  obtain ⟨S, hS⟩ : ∃ S, S = (SD.new (1 + (m : Int))).write (m : Int) (l.take 512) := ⟨_, rfl⟩
  have HS : Hid (S.size = 1 + (m : Int)) := Lib.hid (by rw [hS]; rfl)
  rw [← hS] at HO
  clear hs hS HWR
  go_wp2_with fail
  refine HO.out.open1.mono ?_; rintro e w3 ⟨a, x, lm', fm', S', rfl, hd, hb, hz, hl, hops, hn2⟩
  have HD3 := Lib.hid hd
  have HB3 := Lib.hid (HO.out.below.trans hb)
  have HZ : Hid (S'.size = 1 + (m : Int)) := Lib.hid (hz.trans HS.out)
  have HL3 := Lib.hid hl
  have HO3 : Hid (S'.ops ≤ 3) := Lib.hid (by have := HO.out.ops; omega)
  obtain ⟨rfl, rfl⟩ := hn2 (by rw [HS.out]; have := HM.out; omega)
  clear hd hb hz hl hops hn2
  have HFM := Lib.hid (grFormat_ok (HTT.out.below HTT.out.lt HB3.out) HTT.out.lt HD3.out HL3.out (by have := HO3.out; omega) (by rw [HZ.out]; have := HM.out; omega))
  go_wp2_with fail
  refine HFM.out.mono ?_; rintro e w4 ⟨rfl, hs⟩
  have HB4 := Lib.hid (HB3.out.trans hs.below)
  have HOF := Lib.hid (grOpen_fmt (HTT.out.below HTT.out.lt HB4.out) hs.disk HB4.out.size HL3.out (by have := HO3.out; omega) (by rw [HZ.out]; have := HM.out; omega))
  clear hs
  go_wp2_with fail
  refine HOF.out.mono ?_; rintro e w5 ⟨P, rfl, hs⟩
  have HB5 := Lib.hid (HB4.out.trans hs.below)
  obtain ⟨lm5, fm5, pl, um, wm, la, v, hg⟩ := hs.at_
  have HG := Lib.hid hg
  have HME := Lib.hid (grMeta hg)
  clear hs hg
  go_wp2_with fail
  refine HME.out.mono ?_; rintro e w6 ⟨rfl, hb6⟩
  have HFR := Lib.hid (grFree (HG.out.below hb6))
  have HB6 := Lib.hid (HB5.out.trans (hb6.mono HB5.out.size))
  have HG6 := Lib.hid (HG.out.below hb6)
  clear hb6
  have hfree : (PG.new (fmtS S' 2).flush 2 0 1 1).F.nFree = 1 + (m : Int) - 2 := by
    show (FL.new 2 (fmtS S' 2).size).nFree = _
    rw [FL.new_free, fmtS_size, HZ.out]
  have hused : (PG.new (fmtS S' 2).flush 2 0 1 1).F.nUsed = 0 := FL.new_used _ _
  rw [hfree] at HFR
  go_wp2_with fail
  refine HFR.out.mono ?_; rintro e w7 ⟨rfl, hb7⟩
  have HB7 := Lib.hid (HB6.out.trans (hb7.mono HB6.out.size))
  have HUS := Lib.hid (grUsed (HG6.out.below hb7))
  rw [hused] at HUS
  clear hb7 hfree hused
  go_wp2_with fail
  refine HUS.out.mono ?_; rintro e w8 ⟨rfl, rfl⟩
  go_wp2
  go_ret
  exact ⟨rfl, HB7.out⟩

theorem law_gropens {w : World} (hT : Tab w) {q : Option Addr} {l : List UInt8} {k c : Nat} (hl : Bs w q l) (hk : k = l.length) (hkc : k ≤ c) (hc : c ≤ 9223372036854775807) (n : Int) :
    Calls Tryd.prog 5 #[.int .i64 n, .slice q k c] w fun e w' => e = .returned (.bool true) ∧ Below w.heap.size w w' := by
  obtain ⟨m, hm, hn⟩ := and255 n
  rcases Nat.lt_or_ge 512 k with h5 | h5
  · rcases (by omega : m = 0 ∨ m = 1 ∨ m = 2 ∨ 3 ≤ m) with rfl | rfl | rfl | h3
    · exact opens_11 hT hl hk hkc hc h5 hn
    · exact opens_12 hT hl hk hkc hc h5 hn
    · exact opens_13 hT hl hk hkc hc h5 hn
    · exact opens_14 hT hl hk hkc hc h5 h3 hm hn
  · rcases (by omega : m = 0 ∨ m = 1 ∨ m = 2 ∨ 3 ≤ m) with rfl | rfl | rfl | h3
    · exact opens_01 hT hl hk hkc hc h5 hn
    · exact opens_02 hT hl hk hkc hc h5 hn
    · exact opens_03 hT hl hk hkc hc h5 hn
    · exact opens_04 hT hl hk hkc hc h5 h3 hm hn

end Go.Proofs.YtpmiakcngjihnaaDoor
