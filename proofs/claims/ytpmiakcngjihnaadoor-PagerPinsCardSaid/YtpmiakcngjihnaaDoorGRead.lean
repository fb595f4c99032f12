/-
  sector.Read; Cut, Ops, Waiting, Len, of a disk that a call made.
-/
import Derived.Test.YtpmiakcngjihnaaDoorGm3
set_option linter.unusedVariables false
set_option maxRecDepth 100000
namespace Go.Proofs.YtpmiakcngjihnaaDoor
open Go.RowKit

theorem zero_bytes (w : World) : (zeroValue 37).run Tryd.prog w = .ok (.slice none 0 0) w := by kernel_rfl

section
variable {w : World} {ops : Array Oper} {rest : List Oper} {o : Oper} {a : Act} {Q : Exit → Act → World → Prop} {b : Nat} {f : Int → Option Value}

/-- m[k], of a map of sectors. -/
theorem sec_look (hg : o.guard = none) (m x : Operand) (ok : Bool) (hop : o.op = Op.lookup 55 m x ok) (hm : a.eval m = .map (some b)) (h : MapIs w b f) {k : Int} (hx : a.eval x = .int .i64 k) {r : Value}
    (hr : r = if ok then .tuple #[(f k).getD (.slice none 0 0), .bool (f k).isSome] else (f k).getD (.slice none 0 0)) (hK : wpList Tryd.prog ops Q rest (a.put o.dst r) w) : wpList Tryd.prog ops Q (o :: rest) a w := by
  subst hr
  exact map_look hg m x _ 3 37 ok hop Tryd.underlying55 Tryd.underlying3 (zero_bytes w) hm h hx hK
end

theorem pad_full {l : List UInt8} (h : l.length = 512) : over (pad l) [] = l := by
  unfold over pad zeros
  rw [h]
  simp
theorem pad_zero : over (pad []) [] = zeros 512 := by rw [pad_nil]; rfl

def ReadPost (w : World) (l : List UInt8) (e : Ending) (w' : World) : Prop :=
  ∃ g, e = .returned (.tuple #[.slice (some ⟨g, 0, none⟩) 512 512, .int .i64 0]) ∧ w.heap.size ≤ g ∧ Sec w' g l ∧ Below w.heap.size w w'

set_option maxHeartbeats 1600000 in
theorem read_any {w : World} {B p lm fm : Nat} {S : SD} (h : DiskAt w B p lm fm S) {k : Int} (hk0 : 0 ≤ k) (hk1 : k < S.size) :
    Calls Tryd.prog 32 #[.pointer (some ⟨p, 0, none⟩), .int .i64 k] w (ReadPost w (S.read k)) := by
  have HM := Lib.hid (made_at h)
  have HH : Hid (Calls Tryd.prog 56 #[.pointer (some ⟨p, 0, none⟩), .int .i64 k] w fun e w2 => e = .returned (.bool true) ∧ w = w2) := Lib.hid ((has_at h k).mono fun e w2 ⟨he, hw⟩ => ⟨by rw [he, decide_eq_true hk0, decide_eq_true hk1]; rfl, hw⟩)
  obtain ⟨v, ms, fl, ff, h⟩ := h
  have c1 : w.cell? ⟨p, 1, none⟩ = some (.map (some lm)) := (Joins.cell_of_block h.blk 1).trans rfl
  have c3 : w.cell? ⟨p, 3, none⟩ = some (.map (some fm)) := (Joins.cell_of_block h.blk 3).trans rfl
  have ML := Lib.hid h.ml
  have MF := Lib.hid h.mf
  have hl := h.ok.l k
  rcases h.lf k with ⟨f1, f2⟩ | ⟨g, l, f1, f2, hs⟩
  · have hR : S.read k = S.lasts k := by unfold SD.read; rw [f2]; rfl
    have r1 : (.tuple #[.slice none 0 0, .bool false] : Value) = if true then .tuple #[(ff k).getD (.slice none 0 0), .bool (ff k).isSome] else (ff k).getD (.slice none 0 0) := by rw [f1]; rfl
    have R1 := Lib.hid r1
    rcases h.ll k with ⟨l1, l2⟩ | ⟨g, l1, hs⟩
    · have r2 : (.slice none 0 0 : Value) = if false then .tuple #[(fl k).getD (.slice none 0 0), .bool (fl k).isSome] else (fl k).getD (.slice none 0 0) := by rw [l1]; rfl
      have R2 := Lib.hid r2
      have HL : Hid (Calls Tryd.prog 59 #[.slice none 0 0, .slice none 0 0] w (LaidPost w (zeros 512))) := Lib.hid (by
        have := laid_any (w := w) (c := 0) (d := 0) (Bs.nil w none) rfl (by simp) (Bs.nil w none) rfl (by simp)
        rwa [pad_zero] at this)
      rw [hR, l2]
      clear h hl hR f1 f2 r1 r2 l1 l2 hk0 hk1
      go_enter Tryd.func32, Tryd.ntmps32
      go_wp2_with fail
      refine HM.out.mono ?_; rintro e w1 ⟨rfl, rfl⟩
      go_wp2_with fail
      refine HH.out.mono ?_; rintro e w1 ⟨rfl, rfl⟩
      go_wp2_with (first | (at_lookup; refine sec_look rfl _ _ true rfl rfl MF.out rfl R1.out ?_) | (at_lookup; refine sec_look rfl _ _ false rfl rfl ML.out rfl R2.out ?_))
      refine HL.out.mono ?_; rintro e w1 ⟨g, rfl, hg, hs, hb⟩
      have HG := Lib.hid hg
      have HS := Lib.hid hs
      have HB := Lib.hid hb
      clear hg hs hb
      go_wp2
      go_ret2
      exact ⟨g, rfl, HG.out, HS.out, HB.out⟩
    · have r2 : (.slice (some ⟨g, 0, none⟩) 512 512 : Value) = if false then .tuple #[(fl k).getD (.slice none 0 0), .bool (fl k).isSome] else (fl k).getD (.slice none 0 0) := by rw [l1]; rfl
      have R2 := Lib.hid r2
      have HL : Hid (Calls Tryd.prog 59 #[.slice (some ⟨g, 0, none⟩) 512 512, .slice none 0 0] w (LaidPost w (S.lasts k))) := Lib.hid (by
        have := laid_any (w := w) (c := 512) (d := 0) hs.bs hl.symm (by rw [hl]; exact Nat.le_refl _) (Bs.nil w none) rfl (by simp)
        rwa [pad_full hl] at this)
      rw [hR]
      clear h hl hR f1 f2 r1 r2 l1 hs hk0 hk1
      go_enter Tryd.func32, Tryd.ntmps32
      go_wp2_with fail
      refine HM.out.mono ?_; rintro e w1 ⟨rfl, rfl⟩
      go_wp2_with fail
      refine HH.out.mono ?_; rintro e w1 ⟨rfl, rfl⟩
      go_wp2_with (first | (at_lookup; refine sec_look rfl _ _ true rfl rfl MF.out rfl R1.out ?_) | (at_lookup; refine sec_look rfl _ _ false rfl rfl ML.out rfl R2.out ?_))
      refine HL.out.mono ?_; rintro e w1 ⟨g', rfl, hg, hs, hb⟩
      have HG := Lib.hid hg
      have HS := Lib.hid hs
      have HB := Lib.hid hb
      clear hg hs hb
      go_wp2
      go_ret2
      exact ⟨g', rfl, HG.out, HS.out, HB.out⟩
  · have hR : S.read k = l := by unfold SD.read; rw [f2]; rfl
    have hl : l.length = 512 := found_len h.ok.w f2
    have r1 : (.tuple #[.slice (some ⟨g, 0, none⟩) 512 512, .bool true] : Value) = if true then .tuple #[(ff k).getD (.slice none 0 0), .bool (ff k).isSome] else (ff k).getD (.slice none 0 0) := by rw [f1]; rfl
    have R1 := Lib.hid r1
    have HL : Hid (Calls Tryd.prog 59 #[.slice (some ⟨g, 0, none⟩) 512 512, .slice none 0 0] w (LaidPost w l)) := Lib.hid (by
      have := laid_any (w := w) (c := 512) (d := 0) hs.bs hl.symm (by rw [hl]; exact Nat.le_refl _) (Bs.nil w none) rfl (by simp)
      rwa [pad_full hl] at this)
    rw [hR]
    clear h hl hR f1 f2 r1 hs hk0 hk1
    go_enter Tryd.func32, Tryd.ntmps32
    go_wp2_with fail
    refine HM.out.mono ?_; rintro e w1 ⟨rfl, rfl⟩
    go_wp2_with fail
    refine HH.out.mono ?_; rintro e w1 ⟨rfl, rfl⟩
    go_wp2_with (at_lookup; refine sec_look rfl _ _ true rfl rfl MF.out rfl R1.out ?_)
    refine HL.out.mono ?_; rintro e w1 ⟨g', rfl, hg, hs, hb⟩
    have HG := Lib.hid hg
    have HS := Lib.hid hs
    have HB := Lib.hid hb
    clear hg hs hb
    go_wp2
    go_ret2
    exact ⟨g', rfl, HG.out, HS.out, HB.out⟩

set_option maxHeartbeats 800000 in
theorem read_bad {w : World} {B p lm fm : Nat} {S : SD} (h : DiskAt w B p lm fm S) {k : Int} (hk : ¬ (0 ≤ k ∧ k < S.size)) :
    Calls Tryd.prog 32 #[.pointer (some ⟨p, 0, none⟩), .int .i64 k] w fun e w' => e = .returned (.tuple #[.slice none 0 0, .int .i64 2]) ∧ w = w' := by
  have HM := Lib.hid (made_at h)
  have HH : Hid (Calls Tryd.prog 56 #[.pointer (some ⟨p, 0, none⟩), .int .i64 k] w fun e w2 => e = .returned (.bool false) ∧ w = w2) := Lib.hid ((has_at h k).mono fun e w2 ⟨he, hw⟩ => ⟨by
    have : (decide (0 ≤ k) && decide (k < S.size)) = false := by
      rw [Bool.and_eq_false_iff, decide_eq_false_iff_not, decide_eq_false_iff_not]
      omega
    rw [he, this], hw⟩)
  clear h hk
  go_enter Tryd.func32, Tryd.ntmps32
  go_wp2_with fail
  refine HM.out.mono ?_; rintro e w1 ⟨rfl, rfl⟩
  go_wp2_with fail
  refine HH.out.mono ?_; rintro e w1 ⟨rfl, rfl⟩
  go_wp2
  go_ret2
  exact ⟨rfl, rfl⟩

set_option maxHeartbeats 800000 in
theorem len_any {w : World} {B p lm fm : Nat} {S : SD} (h : DiskAt w B p lm fm S) :
    Calls Tryd.prog 29 #[.pointer (some ⟨p, 0, none⟩)] w fun e w' => e = .returned (.int .i64 S.size) ∧ w = w' := by
  have HM := Lib.hid (made_at h)
  have c0 := h.cell
  clear h
  go_enter Tryd.func29, Tryd.ntmps29
  go_wp2_with fail
  refine HM.out.mono ?_; rintro e w1 ⟨rfl, rfl⟩
  go_wp2
  go_ret
  exact ⟨rfl, rfl⟩

theorem DiskIs.left {w : World} {B p lm fm : Nat} {v : Value} {ms : List (Wr × Nat)} {fl ff : Int → Option Value} {S : SD} (h : DiskIs w B p lm fm v ms fl ff S) (hBw : B ≤ w.heap.size) (x : Int) :
    DiskStep w (w.setCell ⟨p, 4, none⟩ (.int .i64 x)) B p lm fm { S with left := x } := by
  obtain ⟨b1, g1⟩ := cell_set (i := 4) (v := .int .i64 x) h.blk
  have q := disk_step (lm := lm) (fm := fm) g1 h.blk (ofDisk_own _ _) h.hp hBw
  exact ⟨⟨v, ms, fl, ff, h.count g1 (l := x) (o := S.ops) (by simpa using b1) (Int.le_refl _)⟩, q.1, q.2⟩

set_option maxHeartbeats 800000 in
theorem cut_any {w : World} {B p lm fm : Nat} {S : SD} (h : DiskAt w B p lm fm S) (n : Int) :
    Calls Tryd.prog 21 #[.pointer (some ⟨p, 0, none⟩), .int .i64 n] w fun e w' => e = .returned (.tuple #[]) ∧ DiskStep w w' B p lm fm (S.cut n) := by
  have hB := h.base
  have HM := Lib.hid (made_at h)
  obtain ⟨v, ms, fl, ff, h⟩ := h
  have c4 : w.cell? ⟨p, 4, none⟩ = some (.int .i64 S.left) := (Joins.cell_of_block h.blk 4).trans rfl
  have u4 : w.frozen? ⟨p, 4, none⟩ = false := Joins.unfrozen_of_block h.blk _
  have HD : Hid (∀ x, x = max n (-1) → DiskStep w (w.setCell ⟨p, 4, none⟩ (.int .i64 x)) B p lm fm (S.cut n)) := Lib.hid (by rintro x rfl; exact DiskIs.left h hB _)
  clear h
  go_enter Tryd.func21, Tryd.ntmps21
  go_wp2_with fail
  refine HM.out.mono ?_; rintro e w1 ⟨rfl, rfl⟩
  go_wp2
  all_goals (go_end0; exact ⟨rfl, HD.out _ (by omega)⟩)

end Go.Proofs.YtpmiakcngjihnaaDoor
