/-
  sector.Write, of a disk that a call made.
  sector.Read; Cut, Ops, Waiting, Len, of a disk that a call made.
  Slices of ints: that lie there (Ks), of a call's own (OwnI); append of one.
  sector.Crash: the disk that is found behind a crash.
-/
import Derived.Test.YtngnmakeaniapaaGreatDoorGWrite
import Derived.Test.YtngnmakeaniapaaGreatDoorH00
import Derived.Deep.OwnRows
import Derived.Lib.Hide
import Derived.Laws.Externs
import Derived.Deep.QuietTactic
import Derived.BigQuiet
set_option linter.unusedVariables false
set_option maxRecDepth 100000
namespace Go.Proofs.YtngnmakeaniapaaGreatDoor
open Go.RowKit

/-- Bytes that stay while a disk changes. -/
def Bytes (w : World) (B lm fm : Nat) (q : Option Addr) (b : List UInt8) : Prop := ∀ w', Below B w w' → Keeps (ofDisk lm fm) w w' → Bs w' q b
theorem Bytes.on {w w' : World} {B lm fm : Nat} {q : Option Addr} {b : List UInt8} (h : Bytes w B lm fm q b) (h1 : Below B w w') (h2 : Keeps (ofDisk lm fm) w w') : Bytes w' B lm fm q b := fun w2 h3 h4 => h w2 (h1.trans h3) (h2.trans h4)
theorem Bytes.bs {w : World} {B lm fm : Nat} {q : Option Addr} {b : List UInt8} (h : Bytes w B lm fm q b) : Bs w q b := h w (Below.refl _ _) (Keeps.refl _ _)
theorem Bytes.below {w w' : World} {B lm fm : Nat} {q : Option Addr} {b : List UInt8} (h : Bytes w B lm fm q b) (hB : B ≤ w.heap.size) (hb : Below w.heap.size w w') : Bytes w' B lm fm q b := h.on (hb.mono hB) (Keeps.below hb)
theorem Bytes.nil (w : World) (B lm fm : Nat) (q : Option Addr) : Bytes w B lm fm q [] := fun _ _ _ => Bs.nil _ _
/-- What lay there when the call began stays. -/
theorem Bytes.arg {W w : World} {lm fm : Nat} {q : Option Addr} {b : List UInt8} (h : Bs W q b) (hb : Below W.heap.size W w) : Bytes w W.heap.size lm fm q b := fun w' h1 _ => h.below (hb.trans h1)
theorem Bytes.sec {w : World} {B lm fm g : Nat} {b : List UInt8} (h : Sec w g b) : Bytes w B lm fm (some ⟨g, 0, none⟩) b := fun w' _ h2 => Sec.bs (h2.stay h (ofDisk_u8 _ _))
theorem Bytes.take {w : World} {B lm fm : Nat} {q : Option Addr} {b : List UInt8} (h : Bytes w B lm fm q b) (n : Nat) : Bytes w B lm fm q (b.take n) := fun w' h1 h2 => (h w' h1 h2).take n

theorem wr_boxes (w : World) (p : Nat) (k : Int) (q : Option Addr) (n c : Nat) :
    WrBox (((w.alloc (.cells #[.pointer (some ⟨p, 0, none⟩)] 24)).alloc (.cells #[.int .i64 k] 3)).alloc (.cells #[.slice q n c] 41)) p (w.heap.size + 1) (w.heap.size + 2) w.heap.size k q n c := by
  obtain ⟨h1, h2, h3, _⟩ := sbox3_heap w (.cells #[.pointer (some ⟨p, 0, none⟩)] 24) (.cells #[.int .i64 k] 3) (.cells #[.slice q n c] 41)
  exact ⟨h2, h3, h1⟩

set_option maxHeartbeats 800000 in
theorem write_cut {w : World} {B p lm fm : Nat} {S : SD} (h : DiskAt w B p lm fm S) (h0 : S.left = 0) {k : Int} (hk0 : 0 ≤ k) (hk1 : k < S.size) (q : Option Addr) (n c : Nat) (hn : n ≤ 512) :
    Calls Tryz.prog 115 #[.pointer (some ⟨p, 0, none⟩), .int .i64 k, .slice q n c] w fun e w' => e = .returned (.int .i64 17) ∧ Below w.heap.size w w' := by
  have HM := Lib.hid fun w' hb => made_at (h.below (w' := w') hb)
  have HH : Hid (∀ w', Below w.heap.size w w' → Calls Tryz.prog 118 #[.pointer (some ⟨p, 0, none⟩), .int .i64 k] w' fun e w2 => e = .returned (.bool true) ∧ w' = w2) := Lib.hid fun w' hb => (has_at (h.below (w' := w') hb) k).mono fun e w2 ⟨he, hw⟩ => ⟨by rw [he, decide_eq_true hk0, decide_eq_true hk1]; rfl, hw⟩
  have HD := Lib.hid fun w' hb op => do_cut (h.below (w' := w') hb) h0 op
  clear h h0 hk0 hk1
  have hd : decide ((512 : Int) < (n : Int)) = false := decide_eq_false (by omega)
  go_enter Tryz.func115, Tryz.ntmps115
  go_wp2_with fail
  refine (HM.out _ (sbox3 _ _ _ _)).mono ?_; rintro e w1 ⟨rfl, rfl⟩
  go_wp2_with fail
  refine (HH.out _ (sbox3 _ _ _ _)).mono ?_; rintro e w1 ⟨rfl, rfl⟩
  go_wp2_with fail
  refine (HD.out _ (sbox3 _ _ _ _) _).mono ?_; rintro e w1 ⟨rfl, rfl⟩
  go_wp2
  go_ret
  exact ⟨rfl, sbox3 _ _ _ _⟩

set_option maxHeartbeats 800000 in
theorem write_any {w : World} {B p lm fm : Nat} {S : SD} (h : DiskAt w B p lm fm S) (h0 : S.left ≠ 0) (hl : -1 ≤ S.left) (hu : S.left ≤ 9223372036854775807) (ho : S.ops ≤ 999999999) {k : Int} (hk0 : 0 ≤ k) (hk1 : k < S.size)
    {q : Option Addr} {n : Nat} (c : Nat) {b : List UInt8} (hb : Bytes w B lm fm q b) (hn : n = b.length) (h5 : b.length ≤ 512) :
    Calls Tryz.prog 115 #[.pointer (some ⟨p, 0, none⟩), .int .i64 k, .slice q n c] w fun e w' => e = .returned (.int .i64 0) ∧ DiskStep w w' B p lm fm (S.write k b) := by
  have hB := h.base
  have HM := Lib.hid fun w' hb => made_at (h.below (w' := w') hb)
  have HH : Hid (∀ w', Below w.heap.size w w' → Calls Tryz.prog 118 #[.pointer (some ⟨p, 0, none⟩), .int .i64 k] w' fun e w2 => e = .returned (.bool true) ∧ w' = w2) := Lib.hid fun w' hb => (has_at (h.below (w' := w') hb) k).mono fun e w2 ⟨he, hw⟩ => ⟨by rw [he, decide_eq_true hk0, decide_eq_true hk1]; rfl, hw⟩
  have HD : Hid (∀ w1, Below w.heap.size w w1 → WrBox w1 p (w.heap.size + 1) (w.heap.size + 2) w.heap.size k q n c →
      Calls Tryz.prog 116 #[.pointer (some ⟨p, 0, none⟩), .func (.func 151) #[] #[.pointer (some ⟨w.heap.size + 1, 0, none⟩), .pointer (some ⟨w.heap.size + 2, 0, none⟩), .pointer (some ⟨w.heap.size, 0, none⟩)]] w1 fun e w' => e = .returned (.int .i64 0) ∧ DiskStep w w' B p lm fm (S.write k b)) := Lib.hid fun w1 hb1 hbx =>
    do_any (h.below hb1) h0 hl hu (by omega) (Nat.le_trans hB hb1.size) (fun _ _ => rfl) (fun w2 hd2 hb2 hk2 => (write1_any hd2 hd2.base (hbx.keeps hk2) (hb w2 ((hb1.mono hB).trans hb2) ((Keeps.below hb1).trans hk2)) hn h5 hk0 hk1 (by have := h.ok.n; show (S.waits.length : Int) < S.ops + 1; omega) (by show S.ops + 1 ≤ 1000000000; omega)).mono fun e w3 ⟨he, hs⟩ =>
      ⟨he, DiskStep.of ((hb1.mono hB).trans hb2) ((Keeps.below hb1).trans hk2) hs⟩)
  clear h h0 hl hu hB hb hk0 hk1 ho
  have hd : decide ((512 : Int) < (n : Int)) = false := decide_eq_false (by omega)
  clear hn h5
  go_enter Tryz.func115, Tryz.ntmps115
  go_wp2_with fail
  refine (HM.out _ (sbox3 _ _ _ _)).mono ?_; rintro e w1 ⟨rfl, rfl⟩
  go_wp2_with fail
  refine (HH.out _ (sbox3 _ _ _ _)).mono ?_; rintro e w1 ⟨rfl, rfl⟩
  go_wp2_with fail
  refine (HD.out _ (sbox3 _ _ _ _) (wr_boxes _ _ _ _ _ _)).mono ?_; rintro e w1 ⟨rfl, hs⟩
  have HS := Lib.hid hs
  clear hs
  go_wp2
  go_ret
  exact ⟨rfl, HS.out⟩

set_option maxHeartbeats 800000 in
theorem write_bad {w : World} {B p lm fm : Nat} {S : SD} (h : DiskAt w B p lm fm S) {k : Int} (q : Option Addr) (n c : Nat) (hk : ¬ (0 ≤ k ∧ k < S.size ∧ n ≤ 512)) :
    Calls Tryz.prog 115 #[.pointer (some ⟨p, 0, none⟩), .int .i64 k, .slice q n c] w fun e w' => e = .returned (.int .i64 2) ∧ Below w.heap.size w w' := by
  have HM := Lib.hid fun w' hb => made_at (h.below (w' := w') hb)
  by_cases hin : 0 ≤ k ∧ k < S.size
  · have HH : Hid (∀ w', Below w.heap.size w w' → Calls Tryz.prog 118 #[.pointer (some ⟨p, 0, none⟩), .int .i64 k] w' fun e w2 => e = .returned (.bool true) ∧ w' = w2) := Lib.hid fun w' hb => (has_at (h.below (w' := w') hb) k).mono fun e w2 ⟨he, hw⟩ => ⟨by rw [he, decide_eq_true hin.1, decide_eq_true hin.2]; rfl, hw⟩
    have hd : decide ((512 : Int) < (n : Int)) = true := decide_eq_true (by have : ¬ n ≤ 512 := fun h => hk ⟨hin.1, hin.2, h⟩; omega)
    clear h hk hin
    go_enter Tryz.func115, Tryz.ntmps115
    go_wp2_with fail
    refine (HM.out _ (sbox3 _ _ _ _)).mono ?_; rintro e w1 ⟨rfl, rfl⟩
    go_wp2_with fail
    refine (HH.out _ (sbox3 _ _ _ _)).mono ?_; rintro e w1 ⟨rfl, rfl⟩
    go_wp2
    go_ret
    exact ⟨rfl, sbox3 _ _ _ _⟩
  · have HH : Hid (∀ w', Below w.heap.size w w' → Calls Tryz.prog 118 #[.pointer (some ⟨p, 0, none⟩), .int .i64 k] w' fun e w2 => e = .returned (.bool false) ∧ w' = w2) := Lib.hid fun w' hb => (has_at (h.below (w' := w') hb) k).mono fun e w2 ⟨he, hw⟩ => ⟨by
      have : (decide (0 ≤ k) && decide (k < S.size)) = false := by
        rw [Bool.and_eq_false_iff, decide_eq_false_iff_not, decide_eq_false_iff_not]
        omega
      rw [he, this], hw⟩
    clear h hk hin
    go_enter Tryz.func115, Tryz.ntmps115
    go_wp2_with fail
    refine (HM.out _ (sbox3 _ _ _ _)).mono ?_; rintro e w1 ⟨rfl, rfl⟩
    go_wp2_with fail
    refine (HH.out _ (sbox3 _ _ _ _)).mono ?_; rintro e w1 ⟨rfl, rfl⟩
    go_wp2
    go_ret
    exact ⟨rfl, sbox3 _ _ _ _⟩

end Go.Proofs.YtngnmakeaniapaaGreatDoor

set_option linter.unusedVariables false
set_option maxRecDepth 100000
namespace Go.Proofs.YtngnmakeaniapaaGreatDoor
open Go.RowKit

theorem zero_bytes (w : World) : (zeroValue 41).run Tryz.prog w = .ok (.slice none 0 0) w := by kernel_rfl

section
variable {w : World} {ops : Array Oper} {rest : List Oper} {o : Oper} {a : Act} {Q : Exit → Act → World → Prop} {b : Nat} {f : Int → Option Value}

/-- m[k], of a map of sectors. -/
theorem sec_look (hg : o.guard = none) (m x : Operand) (ok : Bool) (hop : o.op = Op.lookup 53 m x ok) (hm : a.eval m = .map (some b)) (h : MapIs w b f) {k : Int} (hx : a.eval x = .int .i64 k) {r : Value}
    (hr : r = if ok then .tuple #[(f k).getD (.slice none 0 0), .bool (f k).isSome] else (f k).getD (.slice none 0 0)) (hK : wpList Tryz.prog ops Q rest (a.put o.dst r) w) : wpList Tryz.prog ops Q (o :: rest) a w := by
  subst hr
  exact map_look hg m x _ 3 41 ok hop Tryz.underlying53 Tryz.underlying3 (zero_bytes w) hm h hx hK
end

theorem pad_full {l : List UInt8} (h : l.length = 512) : over (pad l) [] = l := by
  unfold over pad zeros
  rw [h]
  simp
theorem pad_zero : over (pad []) [] = zeros 512 := by rw [pad_nil]; rfl

def ReadPost (w : World) (l : List UInt8) (e : Ending) (w' : World) : Prop :=
  ∃ g, e = .returned (.tuple #[.slice (some ⟨g, 0, none⟩) 512 512, .int .i64 0]) ∧ w.heap.size ≤ g ∧ Sec w' g l ∧ Below w.heap.size w w'

set_option maxHeartbeats 1600000 in
theorem read_any {w : World} {B p lm fm : Nat} {S : SD} (h : DiskAt w B p lm fm S) {k : Int} (hk0 : 0 ≤ k) (hk1 : k < S.size) :
    Calls Tryz.prog 75 #[.pointer (some ⟨p, 0, none⟩), .int .i64 k] w (ReadPost w (S.read k)) := by
  have HM := Lib.hid (made_at h)
  have HH : Hid (Calls Tryz.prog 118 #[.pointer (some ⟨p, 0, none⟩), .int .i64 k] w fun e w2 => e = .returned (.bool true) ∧ w = w2) := Lib.hid ((has_at h k).mono fun e w2 ⟨he, hw⟩ => ⟨by rw [he, decide_eq_true hk0, decide_eq_true hk1]; rfl, hw⟩)
  obtain ⟨v, ms, fl, ff, h⟩ := h
  have c1 : w.cell? ⟨p, 1, none⟩ = some (.map (some lm)) := (Joins.cell_of_block h.blk 1).trans rfl
  have c3 : w.cell? ⟨p, 3, none⟩ = some (.map (some fm)) := (Joins.cell_of_block h.blk 3).trans rfl
  have ML := Lib.hid h.ml
  have MF := Lib.hid h.mf
  have hl := h.ok.l k
  rcases h.lf k with ⟨f1, f2⟩ | ⟨g, l, f1, f2, hs⟩
  · have hR : S.read k = S.lasts k := by unfold SD.read; rw [f2]; rfl
    have r1 : (.tuple #[.slice none 0 0, .bool false] : Value) = if true then .tuple #[(ff k).getD (.slice none 0 0), .bool (ff k).isSome] else (ff k).getD (.slice none 0 0) := by rw [f1]; rfl
    have R1 := Lib.hid r1
    rcases h.ll k with ⟨l1, l2⟩ | ⟨g, l1, hs⟩
    · have r2 : (.slice none 0 0 : Value) = if false then .tuple #[(fl k).getD (.slice none 0 0), .bool (fl k).isSome] else (fl k).getD (.slice none 0 0) := by rw [l1]; rfl
      have R2 := Lib.hid r2
      have HL : Hid (Calls Tryz.prog 56 #[.slice none 0 0, .slice none 0 0] w (LaidPost w (zeros 512))) := Lib.hid (by
        have := laid_any (w := w) (c := 0) (d := 0) (Bs.nil w none) rfl (by simp) (Bs.nil w none) rfl (by simp)
        rwa [pad_zero] at this)
      rw [hR, l2]
      clear h hl hR f1 f2 r1 r2 l1 l2 hk0 hk1
      go_enter Tryz.func75, Tryz.ntmps75
      go_wp2_with fail
      refine HM.out.mono ?_; rintro e w1 ⟨rfl, rfl⟩
      go_wp2_with fail
      refine HH.out.mono ?_; rintro e w1 ⟨rfl, rfl⟩
      go_wp2_with (first | (at_lookup; refine sec_look rfl _ _ true rfl rfl MF.out rfl R1.out ?_) | (at_lookup; refine sec_look rfl _ _ false rfl rfl ML.out rfl R2.out ?_))
      refine HL.out.mono ?_; rintro e w1 ⟨g, rfl, hg, hs, hb⟩
      have HG := Lib.hid hg
      have HS := Lib.hid hs
      have HB := Lib.hid hb
      clear hg hs hb
      go_wp2
      go_ret2
      exact ⟨g, rfl, HG.out, HS.out, HB.out⟩
    · have r2 : (.slice (some ⟨g, 0, none⟩) 512 512 : Value) = if false then .tuple #[(fl k).getD (.slice none 0 0), .bool (fl k).isSome] else (fl k).getD (.slice none 0 0) := by rw [l1]; rfl
      have R2 := Lib.hid r2
      have HL : Hid (Calls Tryz.prog 56 #[.slice (some ⟨g, 0, none⟩) 512 512, .slice none 0 0] w (LaidPost w (S.lasts k))) := Lib.hid (by
        have := laid_any (w := w) (c := 512) (d := 0) hs.bs hl.symm (by rw [hl]; exact Nat.le_refl _) (Bs.nil w none) rfl (by simp)
        rwa [pad_full hl] at this)
      rw [hR]
      clear h hl hR f1 f2 r1 r2 l1 hs hk0 hk1
      go_enter Tryz.func75, Tryz.ntmps75
      go_wp2_with fail
      refine HM.out.mono ?_; rintro e w1 ⟨rfl, rfl⟩
      go_wp2_with fail
      refine HH.out.mono ?_; rintro e w1 ⟨rfl, rfl⟩
      go_wp2_with (first | (at_lookup; refine sec_look rfl _ _ true rfl rfl MF.out rfl R1.out ?_) | (at_lookup; refine sec_look rfl _ _ false rfl rfl ML.out rfl R2.out ?_))
      refine HL.out.mono ?_; rintro e w1 ⟨g', rfl, hg, hs, hb⟩
      have HG := Lib.hid hg
      have HS := Lib.hid hs
      have HB := Lib.hid hb
      clear hg hs hb
      go_wp2
      go_ret2
      exact ⟨g', rfl, HG.out, HS.out, HB.out⟩
  · have hR : S.read k = l := by unfold SD.read; rw [f2]; rfl
    have hl : l.length = 512 := found_len h.ok.w f2
    have r1 : (.tuple #[.slice (some ⟨g, 0, none⟩) 512 512, .bool true] : Value) = if true then .tuple #[(ff k).getD (.slice none 0 0), .bool (ff k).isSome] else (ff k).getD (.slice none 0 0) := by rw [f1]; rfl
    have R1 := Lib.hid r1
    have HL : Hid (Calls Tryz.prog 56 #[.slice (some ⟨g, 0, none⟩) 512 512, .slice none 0 0] w (LaidPost w l)) := Lib.hid (by
      have := laid_any (w := w) (c := 512) (d := 0) hs.bs hl.symm (by rw [hl]; exact Nat.le_refl _) (Bs.nil w none) rfl (by simp)
      rwa [pad_full hl] at this)
    rw [hR]
    clear h hl hR f1 f2 r1 hs hk0 hk1
    go_enter Tryz.func75, Tryz.ntmps75
    go_wp2_with fail
    refine HM.out.mono ?_; rintro e w1 ⟨rfl, rfl⟩
    go_wp2_with fail
    refine HH.out.mono ?_; rintro e w1 ⟨rfl, rfl⟩
    go_wp2_with (at_lookup; refine sec_look rfl _ _ true rfl rfl MF.out rfl R1.out ?_)
    refine HL.out.mono ?_; rintro e w1 ⟨g', rfl, hg, hs, hb⟩
    have HG := Lib.hid hg
    have HS := Lib.hid hs
    have HB := Lib.hid hb
    clear hg hs hb
    go_wp2
    go_ret2
    exact ⟨g', rfl, HG.out, HS.out, HB.out⟩

set_option maxHeartbeats 800000 in
theorem read_bad {w : World} {B p lm fm : Nat} {S : SD} (h : DiskAt w B p lm fm S) {k : Int} (hk : ¬ (0 ≤ k ∧ k < S.size)) :
    Calls Tryz.prog 75 #[.pointer (some ⟨p, 0, none⟩), .int .i64 k] w fun e w' => e = .returned (.tuple #[.slice none 0 0, .int .i64 2]) ∧ w = w' := by
  have HM := Lib.hid (made_at h)
  have HH : Hid (Calls Tryz.prog 118 #[.pointer (some ⟨p, 0, none⟩), .int .i64 k] w fun e w2 => e = .returned (.bool false) ∧ w = w2) := Lib.hid ((has_at h k).mono fun e w2 ⟨he, hw⟩ => ⟨by
    have : (decide (0 ≤ k) && decide (k < S.size)) = false := by
      rw [Bool.and_eq_false_iff, decide_eq_false_iff_not, decide_eq_false_iff_not]
      omega
    rw [he, this], hw⟩)
  clear h hk
  go_enter Tryz.func75, Tryz.ntmps75
  go_wp2_with fail
  refine HM.out.mono ?_; rintro e w1 ⟨rfl, rfl⟩
  go_wp2_with fail
  refine HH.out.mono ?_; rintro e w1 ⟨rfl, rfl⟩
  go_wp2
  go_ret2
  exact ⟨rfl, rfl⟩

set_option maxHeartbeats 800000 in
theorem len_any {w : World} {B p lm fm : Nat} {S : SD} (h : DiskAt w B p lm fm S) :
    Calls Tryz.prog 72 #[.pointer (some ⟨p, 0, none⟩)] w fun e w' => e = .returned (.int .i64 S.size) ∧ w = w' := by
  have HM := Lib.hid (made_at h)
  have c0 := h.cell
  clear h
  go_enter Tryz.func72, Tryz.ntmps72
  go_wp2_with fail
  refine HM.out.mono ?_; rintro e w1 ⟨rfl, rfl⟩
  go_wp2
  go_ret
  exact ⟨rfl, rfl⟩

theorem DiskIs.left {w : World} {B p lm fm : Nat} {v : Value} {ms : List (Wr × Nat)} {fl ff : Int → Option Value} {S : SD} (h : DiskIs w B p lm fm v ms fl ff S) (hBw : B ≤ w.heap.size) (x : Int) :
    DiskStep w (w.setCell ⟨p, 4, none⟩ (.int .i64 x)) B p lm fm { S with left := x } := by
  obtain ⟨b1, g1⟩ := cell_set (i := 4) (v := .int .i64 x) h.blk
  have q := disk_step (lm := lm) (fm := fm) g1 h.blk (ofDisk_own _ _) h.hp hBw
  exact ⟨⟨v, ms, fl, ff, h.count g1 (l := x) (o := S.ops) (by simpa using b1) (Int.le_refl _)⟩, q.1, q.2⟩

set_option maxHeartbeats 800000 in
theorem cut_any {w : World} {B p lm fm : Nat} {S : SD} (h : DiskAt w B p lm fm S) (n : Int) :
    Calls Tryz.prog 20 #[.pointer (some ⟨p, 0, none⟩), .int .i64 n] w fun e w' => e = .returned (.tuple #[]) ∧ DiskStep w w' B p lm fm (S.cut n) := by
  have hB := h.base
  have HM := Lib.hid (made_at h)
  obtain ⟨v, ms, fl, ff, h⟩ := h
  have c4 : w.cell? ⟨p, 4, none⟩ = some (.int .i64 S.left) := (Joins.cell_of_block h.blk 4).trans rfl
  have u4 : w.frozen? ⟨p, 4, none⟩ = false := Joins.unfrozen_of_block h.blk _
  have HD : Hid (∀ x, x = max n (-1) → DiskStep w (w.setCell ⟨p, 4, none⟩ (.int .i64 x)) B p lm fm (S.cut n)) := Lib.hid (by rintro x rfl; exact DiskIs.left h hB _)
  clear h
  go_enter Tryz.func20, Tryz.ntmps20
  go_wp2_with fail
  refine HM.out.mono ?_; rintro e w1 ⟨rfl, rfl⟩
  go_wp2
  all_goals (go_end0; exact ⟨rfl, HD.out _ (by omega)⟩)

end Go.Proofs.YtngnmakeaniapaaGreatDoor

set_option linter.unusedVariables false
set_option maxRecDepth 100000
namespace Go.Proofs.YtngnmakeaniapaaGreatDoor
open Go.RowKit

/-- Whole numbers that lie there (of none nothing is said). -/
def Ks (w : World) (q : Option Addr) (l : List Int) : Prop := l ≠ [] → ∃ b o, q = some ⟨b, o, none⟩ ∧ ∀ i x, l[i]? = some x → w.cell? ⟨b, o + i, none⟩ = some (.int .i64 x)
theorem Ks.nil (w : World) (q : Option Addr) : Ks w q [] := fun h => absurd rfl h
theorem Ks.below {w w' : World} {q : Option Addr} {l : List Int} (h : Ks w q l) (hb : Below w.heap.size w w') : Ks w' q l := by
  intro hne
  obtain ⟨b, o, hp, hc⟩ := h hne
  refine ⟨b, o, hp, fun i u hi => ?_⟩
  have h1 := hc i u hi
  rw [hb.cell (World.block_lt_of_cell? _ _ h1)]
  exact h1
theorem Ks.at {w : World} {q : Option Addr} {l : List Int} (h : Ks w q l) {i : Nat} {x : Int} (hx : l[i]? = some x) : ∃ b o, q = some ⟨b, o, none⟩ ∧ w.cell? ⟨b, o + i, none⟩ = some (.int .i64 x) := by
  obtain ⟨b, o, hp, hc⟩ := h (by intro e; subst e; simp at hx)
  exact ⟨b, o, hp, hc i x hx⟩

/-- The ints of a slice of the law's own. -/
def i64s (l : List Int) : List Value := l.map fun x => .int .i64 x
def OwnI (w : World) (B : Nat) (v : Value) (l : List Int) : Prop := w.ownsRow B 3 1 v l.length (i64s l)
theorem info_int : (Tryz.prog.info? 3).map (fun i => (i.zero, i.size, i.bytes)) = some (some (.int .i64 0), 1, 8) := by kernel_rfl
theorem OwnI.nil (w : World) (B : Nat) : OwnI w B (.slice none 0 0) [] := World.ownsRow_nil w B _ _
theorem OwnI.form {w : World} {B : Nat} {v : Value} {l : List Int} (h : OwnI w B v l) : ∃ q c, v = .slice q l.length c ∧ Ks w q l := by
  rcases h.2 with ⟨rfl, h0⟩ | ⟨g, cap, cur, rfl, hb, hg, hnc, hcm, hcs, htake⟩
  · obtain rfl := List.eq_nil_of_length_eq_zero h0
    exact ⟨none, 0, rfl, Ks.nil _ _⟩
  · refine ⟨some ⟨g, 0, none⟩, cap, rfl, fun _ => ⟨g, 0, rfl, fun i x hi => ?_⟩⟩
    have := h.cells (g := g) rfl i (.int .i64 x) (by simp [i64s, hi])
    simpa [Addr.add_lit] using this

theorem OwnI.kept {w w' : World} {B : Nat} {v : Value} {l : List Int} {row : Option Nat} (h : OwnI w B v l) (hg : w.grownBy w' row) (hr : v.ownBlock = none ∨ v.ownBlock ≠ row) : OwnI w' B v l := World.ownsRow.kept h hg hr
theorem OwnI.below {w w' : World} {B : Nat} {v : Value} {l : List Int} (h : OwnI w B v l) (hb : Below w.heap.size w w') : OwnI w' B v l :=
  h.kept (row := none) ⟨hb.os, hb.tape, hb.output, hb.size, fun k hk _ => hb.block k hk⟩ (by cases h0 : v.ownBlock with | none => exact .inl rfl | some b => exact .inr (by simp))

/-- append(ints, one int): only their own block changes. -/
theorem app_ints {w : World} {ops : Array Oper} {rest : List Oper} {o : Oper} {a : Act} {Q : Exit → Act → World → Prop} (hgd : o.guard = none) (s x : Operand)
    (ho : o.op = .call { callee := .builtin .append, args := #[s, x], argTypes := #[38, 38] })
    {B : Nat} {v : Value} {l : List Int} (hs : a.eval s = v) (hown : OwnI w B v l) {b c : Nat} {y : Int} (hx : a.eval x = .slice (some ⟨b, 0, none⟩) 1 c) (h0 : w.cell? ⟨b, 0, none⟩ = some (.int .i64 y)) (hlen : l.length ≤ 1000000000) (hB : B ≤ w.heap.size)
    (h : ∀ v' w', OwnI w' B v' (l ++ [y]) → w.grownBy w' v.ownBlock → wpList Tryz.prog ops Q rest (a.put o.dst v') w') : wpList Tryz.prog ops Q (o :: rest) a w := by
  obtain ⟨i, hi, hz0, hz1, hz2⟩ := info_parts info_int
  refine wpList_append_own w hgd s x _ ho B 3 i (.int .i64 0) 1 8 Tryz.underlying38 hi hz0 hz1 hz2 rfl (by decide) v l.length (i64s l) hs hown ⟨b, 0, none⟩ 1 c [.int .i64 y] hx rfl
    (fun j u hj => by
      rw [Addr.add_lit, Nat.zero_add]
      match j, hj with
      | 0, hj => cases hj; exact h0
      | j + 1, hj => simp at hj) (fun u hu => by obtain rfl := List.mem_singleton.1 hu; rfl) (by simp only [maxLen]; omega) (by omega) hB ?_
  intro v' w' h1 h2 _
  refine h v' w' ?_ h2
  unfold OwnI
  rw [List.length_append]
  simpa [i64s] using h1

theorem OwnI.other {w : World} {B : Nat} {v : Value} {l : List Int} (h : OwnI w B v l) {i : Nat} {o : Obj} (hi : w.heap[i]? = some o) (ho : ∀ c f, o ≠ .cells c 3 f) : v.ownBlock ≠ some i := by
  rcases h.2 with ⟨rfl, _⟩ | ⟨g, cap, cur, rfl, _, hg, _⟩
  · simp [Value.ownBlock]
  · intro e
    simp only [Value.ownBlock, Option.some.injEq] at e
    subst e
    rw [hg] at hi
    exact ho _ _ (Option.some.inj hi).symm

end Go.Proofs.YtngnmakeaniapaaGreatDoor

set_option linter.unusedVariables false
set_option maxRecDepth 100000
namespace Go.Proofs.YtngnmakeaniapaaGreatDoor
open Go.RowKit

section
variable {P : Program} (w : World)
theorem map_equalIn_nil (d : Nat) (t k e : TypeId) (p : Option Nat) (h : P.underlying t = some (.map k e)) : (Op.equalIn (d + 1) t (.map p) (.map none)).run P w = .ok p.isNone w := by
  cases p <;> simp [Op.equalIn, run_underlying h]
theorem map_eql_nil (t k e : TypeId) (p : Option Nat) (h : P.underlying t = some (.map k e)) : (binOp .eql t (.map p) (.map none)).run P w = .ok (.bool p.isNone) w := by
  simp only [binOp]
  simp [show Op.equal t (.map p) (.map none) = Op.equalIn (9999 + 1) t (.map p) (.map none) from rfl, map_equalIn_nil w 9999 t k e p h]
end
theorem map_assert (w : World) (v : Value) : (Instr.typeAssert (.iface 53 v) 20 53 false).run Tryz.prog w = .ok v w := by
  simp [Instr.typeAssert, run_underlying Tryz.underlying53, go_sem, Result.andThen]
theorem map_clone {w : World} {r : Nat} {es : Array MapEntry} {clock : Nat} (t : TypeId) (hb : w.heap[r]? = some (.map es clock)) :
    (Extern.MapsClone.clone #[.iface t (.map (some r))]).run Tryz.prog w = .ok (.iface t (.map (some w.heap.size))) (w.alloc (.map es clock)) := by
  have e : Extern.MapsClone.clone #[.iface t (.map (some r))] = (getObj r >>= fun o => match o with
      | .map entries clock => (newObj (.map entries clock) >>= fun n => pure (.iface t (.map (some n))))
      | _ => stuck "maps.clone: a map expected") := rfl
  rw [e]
  simp [MapKept.run_getObj_map hb, Result.andThen, go_sem]

def ClonePost (w : World) (f : Int → Option Value) (e : Ending) (w' : World) : Prop := ∃ m, e = .returned (.map (some m)) ∧ w.heap.size ≤ m ∧ MapIs w' m f ∧ Below w.heap.size w w'

set_option maxHeartbeats 2000000 in
theorem clone_any {w : World} {b : Nat} {f : Int → Option Value} (h : MapIs w b f) : Calls Tryz.prog 55 #[.map (some b)] w (ClonePost w f) := by
  obtain ⟨es, clock, hb, h'⟩ := h
  have hq := fun w => map_eql_nil (P := Tryz.prog) w 53 _ _ (some b) Tryz.underlying53
  have hfin : ClonePost w f (.returned (.map (some w.heap.size))) (w.alloc (.map es clock)) := ⟨_, rfl, Nat.le_refl _, ⟨es, clock, heap_alloc_new w _, h'⟩, sbox1 _ _⟩
  have HF := Lib.hid hfin
  clear hfin h'
  go_enter Tryz.func55, Tryz.ntmps55
  go_wp2
  rw [run_callFunc_extern Tryz.func91 (by kernel_rfl) (by kernel_rfl) (by kernel_rfl) (e := Extern.MapsClone.clone) (by kernel_rfl), map_clone 53 hb]
  simp only [Result.andThen]
  rw [Oper.upon_value]
  go_wp2
  rw [map_assert]
  simp only [Result.andThen]
  rw [Oper.upon_value]
  go_wp2
  go_ret
  exact HF.out

theorem keepOne_len {f : Int → List UInt8} {x : Wr} {n : Int} (hf : ∀ k, (f k).length = 512) (hx : x.l.length = 512) (k : Int) : (keepOne f x n k).length = 512 := by
  unfold keepOne putAt
  split
  · exact hf k
  · show (if _ then _ else _ : List UInt8).length = 512
    split
    · rw [over_length (by rw [hf, List.length_take]; omega)]
      exact hf _
    · exact hf k
theorem kept_len {f : Int → List UInt8} (hf : ∀ k, (f k).length = 512) : ∀ l : List (Wr × Int), (∀ p ∈ l, p.1.l.length = 512) → ∀ k, (kept f l k).length = 512 := by
  have : ∀ l : List (Wr × Int), (∀ p ∈ l, p.1.l.length = 512) → ∀ k, (kept f l.reverse k).length = 512 := by
    intro l
    induction l with
    | nil => intro _ k; exact hf k
    | cons x l ih =>
      intro h k
      rw [List.reverse_cons, kept_snoc]
      exact keepOne_len (ih fun p hp => h p (by simp [hp])) (h x (by simp)) k
  intro l h k
  have h' := this l.reverse (fun p hp => h p (by simpa using hp)) k
  rwa [List.reverse_reverse] at h'

section
variable {w : World} {ops : Array Oper} {o : Oper} {a : Act} {K : Act → World → Prop} {Q : Exit → Act → World → Prop} {E : Prop} {b : Nat} {f : Int → Option Value}

/-- m[k], as a step of a region that draws its order. -/
theorem step_look (hg : o.guard = none) (m x : Operand) (ok : Bool) (hop : o.op = Op.lookup 53 m x ok) (hm : a.eval m = .map (some b)) (h : MapIs w b f) {k : Int} (hx : a.eval x = .int .i64 k) {r : Value}
    (hr : r = if ok then .tuple #[(f k).getD (.slice none 0 0), .bool (f k).isSome] else (f k).getD (.slice none 0 0)) (hK : K (a.put o.dst r) w) : if Region.wanted o (yielded ops a.tmps) = true then Oper.wp Tryz.prog o a w K Q else E := by
  rw [if_pos (by simp [Region.wanted, hg])]
  subst hr
  have hrun := h.look Tryz.underlying53 Tryz.underlying3 k ok (zero_bytes w)
  unfold Oper.wp
  simp [execOp, hop, hm, hx, hrun, Result.andThen]
  exact hK

/-- m[k] = v, as a step of a region that draws its order. -/
theorem step_store (hg : o.guard = none) (m x v : Operand) (hop : o.op = Op.mapUpdate 53 m x v) (hm : a.eval m = .map (some b)) (h : MapIs w b f) {k : Int} (hx : a.eval x = .int .i64 k) {u : Value} (hv : a.eval v = u)
    (hK : ∀ w', MapIs w' b (fun x => if x = k then some u else f x) → w.grownBy w' (some b) → K (a.put o.dst undef) w') : if Region.wanted o (yielded ops a.tmps) = true then Oper.wp Tryz.prog o a w K Q else E := by
  rw [if_pos (by simp [Region.wanted, hg])]
  obtain ⟨es, c, hrun, h1⟩ := h.store Tryz.underlying53 Tryz.underlying3 k u
  obtain ⟨_, _, hb, _⟩ := h
  unfold Oper.wp
  simp [execOp, hop, hm, hx, hv, hrun, Result.andThen]
  exact hK _ h1 (setBlock_grown hb)
end

/-- Ahead of a round of Crash: j writes were looked at. -/
structure CrInv (w wr : World) (m : Nat) (L : Int → List UInt8) (f : Int → Option Value) : Prop where
  map : MapIs wr m f
  l : ∀ k, (f k = none ∧ L k = zeros 512) ∨ ∃ g, f k = some (sl g) ∧ Sec wr g (L k)
  below : Below w.heap.size w wr

theorem CrInv.on {w wr w' : World} {m : Nat} {L : Int → List UInt8} {f : Int → Option Value} (h : CrInv w wr m L f) (hb : Below wr.heap.size wr w') : CrInv w w' m L f := by
  refine ⟨h.map.block (hb.block _ h.map.lt), fun k => ?_, h.below.trans (hb.mono h.below.size)⟩
  rcases h.l k with h | ⟨g, h, h'⟩
  · exact .inl h
  · exact .inr ⟨g, h, h'.below hb⟩

theorem CrInv.put {w wr w' : World} {m : Nat} {L : Int → List UInt8} {f : Int → Option Value} (h : CrInv w wr m L f) (hm : w.heap.size ≤ m) {k : Int} {g : Nat} {b : List UInt8} (hs : Sec wr g b)
    (hm' : MapIs w' m fun x => if x = k then some (.slice (some ⟨g, 0, none⟩) 512 512) else f x) (hg : wr.grownBy w' (some m)) :
    CrInv w w' m (putAt L k b) (fun x => if x = k then some (.slice (some ⟨g, 0, none⟩) 512 512) else f x) := by
  refine ⟨hm', fun x => ?_, h.below.grown hg h.below.size fun i hi => by cases hi; exact hm⟩
  unfold putAt
  by_cases hx : x = k
  · rw [if_pos hx, if_pos hx]
    exact .inr ⟨g, rfl, map_others hg h.map hs⟩
  · rw [if_neg hx, if_neg hx]
    rcases h.l x with h' | ⟨g, h', hs'⟩
    · exact .inl h'
    · exact .inr ⟨g, h', map_others hg h.map hs'⟩

end Go.Proofs.YtngnmakeaniapaaGreatDoor

