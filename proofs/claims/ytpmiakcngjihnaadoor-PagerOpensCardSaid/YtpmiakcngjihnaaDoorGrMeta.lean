/-
  pager.Open on disks that have a Meta, and on those that have none.
-/
import Derived.Test.YtpmiakcngjihnaaDoorGrAsk
set_option linter.unusedVariables false
set_option maxRecDepth 100000
namespace Go.Proofs.YtpmiakcngjihnaaDoor
open Go.RowKit

theorem zeros_none (no : Int) : mE (zeros 512) no ≠ 0 := by
  intro h
  have h1 := (mE_zero.1 h).2.1
  simp [zeros] at h1
theorem zeros_mG (no : Int) : mG (zeros 512) no = 0 := (m_none (zeros_none no)).1
theorem pad_same {l : List UInt8} (h : l.length = 512) : pad l = l := by
  unfold pad zeros
  rw [h]
  simp
theorem SD.flush_read (S : SD) (k : Int) : S.flush.read k = S.read k := read_flush _ _ _
theorem SD.write_read (S : SD) (k : Int) (b : List UInt8) (j : Int) : (S.write k b).read j = if j = k then pad b else S.read j := by
  unfold SD.read SD.write
  rw [found_snoc]
  unfold putAt
  split <;> rfl
theorem SD.new_read (n k : Int) : (SD.new n).read k = zeros 512 := rfl

theorem mPage_pad (g r n d : Nat) : pad (mPage g r n d) = mPage g r n d := pad_same (mPage_length g r n d)

/-- What Newest tells, where a Meta is newer than what stands beside it. -/
theorem newest_is {a b : List UInt8} {g r n d : Nat} (h : MRight g r n d) (hz : (g % 2 = 0 ∧ a = mPage g r n d ∧ mG b 1 < g) ∨ (g % 2 = 1 ∧ b = mPage g r n d ∧ mG a 0 < g)) : newG a b = g ∧ newR a b = r ∧ newN a b = n ∧ newD a b = d := by
  unfold newG newR newN newD
  rcases hz with ⟨h0, rfl, hlt⟩ | ⟨h0, rfl, hlt⟩
  · obtain ⟨_, e1, e2, e3, e4⟩ := page_is h (no := 0) (by omega)
    rw [e1, e2, e3, e4]
    have : ¬ g < mG b 1 := by omega
    simp [this]
  · obtain ⟨_, e1, e2, e3, e4⟩ := page_is h (no := 1) (by omega)
    rw [e1, e2, e3, e4]
    simp [hlt]

/-- The disk behind Open. -/
noncomputable def openS (S : SD) (g : Nat) : SD := open Classical in if mE (S.read (((g + 1) % 2 : Nat) : Int)) (((g + 1) % 2 : Nat) : Int) = 0 then S else (S.write (((g + 1) % 2 : Nat) : Int) []).flush

theorem openS_left {S : SD} (h : S.left = -1) (g : Nat) : (openS S g).left = -1 := by
  unfold openS
  split
  · exact h
  · exact SD.tick_left (S := S.write _ _) (SD.tick_left h)
theorem openS_size (S : SD) (g : Nat) : (openS S g).size = S.size := by
  unfold openS
  split <;> rfl
theorem openS_ops (S : SD) (g : Nat) : (openS S g).ops ≤ S.ops + 2 := by
  unfold openS
  split
  · omega
  · show S.ops + 1 + 1 ≤ _; omega
/-- All but the sector of the other Meta is as it was. -/
theorem openS_read (S : SD) (g : Nat) {k : Int} (hk : k ≠ (((g + 1) % 2 : Nat) : Int)) : (openS S g).read k = S.read k := by
  unfold openS
  split
  · rfl
  · rw [SD.flush_read, SD.write_read, if_neg hk]

theorem grOpen_meta {w : World} (hT : Tab w) {B pd lm fm : Nat} {S : SD} (h : DiskAt w B pd lm fm S) (hB : B ≤ w.heap.size) (hl : S.left = -1) (ho : S.ops ≤ 999999990) (h2 : 2 ≤ S.size) {g r n d : Nat} (hm : MRight g r n d) (hr : (r : Int) < S.size)
    (hp : S.read ((g % 2 : Nat) : Int) = mPage g r n d) (hlt : mG (S.read (((g + 1) % 2 : Nat) : Int)) (((g + 1) % 2 : Nat) : Int) < g) :
    Calls Tryd.prog 10 #[.pointer (some ⟨pd, 0, none⟩)] w (OpenedPost w B pd (PG.new (openS S g) g r n d)) := by
  have hb := hm.b
  have hOn := openOn hT h
  obtain ⟨e1, e2, e3, e4⟩ := newest_is (a := S.read 0) (b := read1 S) hm (by
    unfold read1
    rw [if_pos (by omega)]
    rcases Nat.mod_two_eq_zero_or_one g with h0 | h0
    · refine .inl ⟨h0, ?_, ?_⟩
      · rw [← hp, h0]; rfl
      · have : (g + 1) % 2 = 1 := by omega
        rw [this] at hlt
        exact hlt
    · refine .inr ⟨h0, ?_, ?_⟩
      · rw [← hp, h0]; rfl
      · have : (g + 1) % 2 = 0 := by omega
        rw [this] at hlt
        exact hlt)
  rw [e1, e2, e3, e4] at hOn
  refine grOpen_yes (S := S) (S' := openS S g) (lm := lm) (fm := fm) hOn hB (by omega) (by omega) hr (openS_size S g) h2 fun w1 hb1 => ?_
  have h1 := h.below hb1
  have hT1 := hT.below hT.lt hb1
  have hno : (((g + 1) % 2 : Nat) : Int) = 0 ∨ (((g + 1) % 2 : Nat) : Int) = 1 := by omega
  unfold openS
  by_cases hE : mE (S.read (((g + 1) % 2 : Nat) : Int)) (((g + 1) % 2 : Nat) : Int) = 0
  · rw [if_pos hE]
    exact (grMend_there (mendOn hT1 h1 hno h2) hE).mono fun e w' ⟨he, hb'⟩ => ⟨he, h1.below hb', hb'.mono h1.base, Keeps.below hb'⟩
  · rw [if_neg hE]
    exact grMend_mend hT1 h1 hl ho hno h2 hE

/-- Open of a disk whose first sector has no bytes. -/
def Open1Post (w : World) (B pd : Nat) (S : SD) (e : Ending) (w' : World) : Prop :=
  ∃ a x lm fm S', e = .returned (.tuple #[.pointer a, .int .i64 x]) ∧ DiskAt w' B pd lm fm S' ∧ Below B w w' ∧ S'.size = S.size ∧ S'.left = -1 ∧ S'.ops ≤ S.ops + 2 ∧ (2 < S.size → a = none ∧ x = 18)

theorem grOpen_first {w : World} (hT : Tab w) {B pd lm fm : Nat} {S : SD} (h : DiskAt w B pd lm fm S) (hB : B ≤ w.heap.size) (hl : S.left = -1) (ho : S.ops ≤ 999999990) (h0 : S.read 0 = zeros 512) (h1 : 2 < S.size → S.read 1 = zeros 512) :
    Calls Tryd.prog 10 #[.pointer (some ⟨pd, 0, none⟩)] w (Open1Post w B pd S) := by
  have hOn := openOn hT h
  have hno : ∀ e w', (e = .returned (.tuple #[.pointer none, .int .i64 18]) ∧ Below w.heap.size w w') → Open1Post w B pd S e w' := by
    rintro e w' ⟨rfl, hb⟩
    exact ⟨none, 18, lm, fm, S, rfl, h.below hb, hb.mono hB, rfl, hl, by omega, fun _ => ⟨rfl, rfl⟩⟩
  have hs1 := h.ok.s1
  by_cases hG : newG (S.read 0) (read1 S) = 0
  · exact (grOpen_none hOn hG).mono hno
  · by_cases hr : S.size ≤ (newR (S.read 0) (read1 S) : Int)
    · exact (grOpen_root hOn hG hr).mono hno
    · -- the disk has two sectors, and the second one a Meta
      have hz : mG (S.read 0) 0 = 0 := by rw [h0]; exact zeros_mG 0
      have h2 : S.size = 2 := by
        rcases Int.lt_or_le 2 S.size with h3 | h3
        · exfalso
          apply hG
          have e : read1 S = zeros 512 := by unfold read1; rw [if_pos (show 1 < S.size by omega), h1 h3]
          unfold newG
          rw [e, hz, zeros_mG]
          simp
        · rcases Int.lt_or_le 1 S.size with h4 | h4
          · omega
          · exfalso
            apply hG
            have e : read1 S = [] := by unfold read1; rw [if_neg (show ¬ 1 < S.size by omega)]
            unfold newG
            rw [e, hz, (nil_not 1).1]
            simp
      have e1 : read1 S = S.read 1 := by unfold read1; rw [if_pos (by omega)]
      have hgt : newG (S.read 0) (read1 S) = mG (S.read 1) 1 := by
        unfold newG
        rw [hz, e1]
        split
        · rfl
        · omega
      have hne : mG (S.read 1) 1 ≠ 0 := by rw [← hgt]; exact hG
      have hE := m_gen.2 hne
      obtain ⟨f1, _⟩ := m_some hE
      obtain ⟨_, _, _, hodd, _, hR⟩ := mE_zero.1 hE
      have hb := hR.b
      have hpar : (newG (S.read 0) (read1 S) + 1) % 2 = 0 := by rw [hgt, f1]; omega
      refine (grOpen_yes (S := S) (S' := (S.write 0 []).flush) (lm := lm) (fm := fm) hOn hB hG (by rw [hgt, f1]; omega) (by omega) rfl (by omega) fun w1 hb1 => ?_).mono ?_
      · rw [hpar]
        exact grMend_mend (hT.below hT.lt hb1) (h.below hb1) hl ho (.inl rfl) (by omega) (by show mE (S.read 0) 0 ≠ 0; rw [h0]; exact zeros_none 0)
      · rintro e w' ⟨P, rfl, hs⟩
        obtain ⟨lm', fm', pl, um, wm, la, v, hg⟩ := hs.at_
        exact ⟨some ⟨P, 0, none⟩, 0, lm', fm', (S.write 0 []).flush, rfl, hg.disk, hs.below, rfl, SD.tick_left (S := S.write 0 []) (SD.tick_left hl), by show S.ops + 1 + 1 ≤ _; omega, fun h => by omega⟩

/-- A disk that was formatted. -/
theorem fmt_read {S : SD} : (fmtS S 2).flush.read 0 = mPage 2 0 1 1 ∧ (fmtS S 2).flush.read 1 = mPage 1 0 1 1 := by
  rw [SD.flush_read, SD.flush_read]
  show ((S.write 1 (mPage 1 0 1 1)).write 0 (mPage 2 0 1 1)).read 0 = _ ∧ ((S.write 1 (mPage 1 0 1 1)).write 0 (mPage 2 0 1 1)).read 1 = _
  refine ⟨?_, ?_⟩
  · rw [SD.write_read, if_pos rfl]
    exact mPage_pad _ _ _ _
  · rw [SD.write_read, if_neg (by decide), SD.write_read, if_pos rfl]
    exact mPage_pad _ _ _ _
theorem fmt_flush_left {S : SD} (h : S.left = -1) : (fmtS S 2).flush.left = -1 := SD.tick_left (fmtS_left h 2)

theorem grOpen_fmt {w : World} (hT : Tab w) {B pd lm fm : Nat} {S : SD} (h : DiskAt w B pd lm fm (fmtS S 2).flush) (hB : B ≤ w.heap.size) (hl : S.left = -1) (ho : S.ops ≤ 999999980) (h4 : 4 ≤ S.size) :
    Calls Tryd.prog 10 #[.pointer (some ⟨pd, 0, none⟩)] w (OpenedPost w B pd (PG.new (fmtS S 2).flush 2 0 1 1)) := by
  obtain ⟨r0, r1⟩ := fmt_read (S := S)
  have hm1 : MRight (1 : Nat) (0 : Nat) (1 : Nat) (1 : Nat) := fmt_right (by omega) (by omega)
  have hm2 : MRight (2 : Nat) (0 : Nat) (1 : Nat) (1 : Nat) := fmt_right (by omega) (by omega)
  obtain ⟨q1, q2, _⟩ := page_is hm1 (no := 1) rfl
  have hz : (fmtS S 2).flush.size = S.size := fmtS_size (S := S) 2
  have h1 := grOpen_meta hT h hB (fmt_flush_left hl) (by show (fmtS S 2).ops + 1 ≤ _; have := (fmtS_ops (S := S) 2).1; omega) (by omega) hm2 (by rw [hz]; show (0 : Int) < _; omega) r0 (by
    show mG ((fmtS S 2).flush.read 1) 1 < 2
    rw [r1, q2]
    decide)
  have e : openS (fmtS S 2).flush 2 = (fmtS S 2).flush := by
    have hx : mE ((fmtS S 2).flush.read (((2 + 1) % 2 : Nat) : Int)) (((2 + 1) % 2 : Nat) : Int) = 0 := by
      show mE ((fmtS S 2).flush.read 1) 1 = 0
      rw [r1]
      exact q1
    exact if_pos hx
  rwa [e] at h1

end Go.Proofs.YtpmiakcngjihnaaDoor
