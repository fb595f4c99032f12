/-
  pager.Format.
  pager.Open.
  pager: next, Meta, Free, Waiting, Used, Read.
-/
import Derived.Test.YtngnmakeaniapaaGreatDoorH14
import Derived.BigQuiet
set_option linter.unusedVariables false
set_option maxRecDepth 100000
namespace Go.Proofs.YtngnmakeaniapaaGreatDoor
open Go.RowKit

/-- A disk while it is formatted: j Metas are written. -/
def fmtS (S : SD) : Nat → SD
  | 0 => S
  | 1 => S.write 1 (mPage 1 0 1 1)
  | _ => (S.write 1 (mPage 1 0 1 1)).write 0 (mPage 2 0 1 1)
theorem fmtS_left {S : SD} (h : S.left = -1) (j : Nat) : (fmtS S j).left = -1 := by
  unfold fmtS
  split
  · exact h
  · exact SD.tick_left h
  · exact SD.tick_left (S := S.write 1 _) (SD.tick_left h)
theorem fmtS_ops {S : SD} (j : Nat) : (fmtS S j).ops ≤ S.ops + 2 ∧ S.ops ≤ (fmtS S j).ops := by
  unfold fmtS
  split
  · omega
  · show S.ops + 1 ≤ _ ∧ _ ≤ S.ops + 1; omega
  · show S.ops + 1 + 1 ≤ _ ∧ _ ≤ S.ops + 1 + 1; omega
theorem fmtS_size {S : SD} (j : Nat) : (fmtS S j).size = S.size := by
  unfold fmtS
  split <;> rfl

theorem fmt_right {g : Nat} (h1 : 1 ≤ g) (h2 : g ≤ 2) : MRight g (0 : Nat) (1 : Nat) (1 : Nat) := MRight.mk' (by omega)

set_option maxHeartbeats 1600000 in
theorem grFormat_ok {w : World} (hT : Tab w) {B pd lm fm : Nat} (hB : 1 < B) {S : SD} (h : DiskAt w B pd lm fm S) (hl : S.left = -1) (ho : S.ops ≤ 999999990) (h4 : 4 ≤ S.size) :
    Calls Tryz.prog 43 #[.pointer (some ⟨pd, 0, none⟩)] w fun e w' => e = .returned (.int .i64 0) ∧ DiskStep w w' B pd lm fm (fmtS S 2).flush := by
  have HLN := Lib.hid (len_any h)
  have HW : Hid (∀ w1 (j : Nat), DiskStep w w1 B pd lm fm (fmtS S j) → j < 2 → Calls Tryz.prog 73 #[.pointer (some ⟨pd, 0, none⟩), .agg #[.int .i64 ((j : Int) + 1), .int .i64 0, .int .i64 1, .int .i64 1]] w1 fun e w' => e = .returned (.int .i64 0) ∧ DiskStep w w' B pd lm fm (fmtS S (j + 1))) := Lib.hid fun w1 j hs hj => by
    have hz := fmtS_ops (S := S) j
    have h1 := grWrite_ok (hT.below hB hs.below) hs.disk (by rw [fmtS_left hl]; decide) (by rw [fmtS_left hl]; decide) (by rw [fmtS_left hl]; decide) (by omega) (by rw [fmtS_size]; omega) (fmt_right (g := j + 1) (by omega) (by omega))
    refine h1.mono fun e w' ⟨he, hs'⟩ => ⟨he, ?_⟩
    have e : (fmtS S j).write (((j + 1) % 2 : Nat) : Int) (mPage (j + 1) 0 1 1) = fmtS S (j + 1) := by
      rcases (by omega : j = 0 ∨ j = 1) with rfl | rfl <;> rfl
    rw [← e]
    exact DiskStep.of hs.below hs.keeps hs'
  have HF : Hid (∀ w1, DiskStep w w1 B pd lm fm (fmtS S 2) → Calls Tryz.prog 74 #[.pointer (some ⟨pd, 0, none⟩)] w1 fun e w' => e = .returned (.int .i64 0) ∧ DiskStep w w' B pd lm fm (fmtS S 2).flush) := Lib.hid fun w1 hs => by
    have hz := fmtS_ops (S := S) 2
    exact (flush_any hs.disk (by rw [fmtS_left hl]; decide) (by rw [fmtS_left hl]; decide) (by rw [fmtS_left hl]; decide) (by omega)).mono fun e w' ⟨he, hs'⟩ => ⟨he, DiskStep.of hs.below hs.keeps hs'⟩
  have H0 : Hid (DiskStep w w B pd lm fm (fmtS S 0)) := Lib.hid ⟨h, Below.refl _ _, Keeps.refl _ _⟩
  have hb1 : (S.size == 0) = false := by rw [beq_eq_false_iff_ne]; omega
  have hb2 : decide (S.size < 4) = false := decide_eq_false (by omega)
  clear hT h hl ho h4
  generalize S.size = n at *
  go_enter Tryz.func43, Tryz.ntmps43
  go_wp2_with fail
  refine HLN.out.mono ?_; rintro e w1 ⟨rfl, rfl⟩
  go_wp2_with fail
  refine HLN.out.mono ?_; rintro e w1 ⟨rfl, rfl⟩
  go_wp2
  go_loopw [3] (fun x wr => ∃ j : Nat, x = .int .i64 ((j : Int) + 1) ∧ j ≤ 2 ∧ DiskStep w wr B pd lm fm (fmtS S j)) (fun x _ => 3 - (intOf x).toNat)
  case atStart => exact ⟨0, rfl, by omega, H0.out⟩
  case round =>
    obtain ⟨j, rfl, hj, hs⟩ := hrel
    have HS := Lib.hid hs
    clear hs
    by_cases hlt : j < 2
    · have d1 : decide ((j : Int) + 1 ≤ 2) = true := decide_eq_true (by omega)
      go_wp2_with fail
      refine (HW.out _ j HS.out hlt).mono ?_; rintro e w2 ⟨rfl, hs⟩
      have HS2 := Lib.hid hs
      clear hs
      go_wp2
      go_roundw
      case rel => exact ⟨j + 1, by go_num, by omega, HS2.out⟩
      case measure => simp [intOf]; omega
    · have d1 : decide ((j : Int) + 1 ≤ 2) = false := decide_eq_false (by omega)
      obtain rfl : j = 2 := by omega
      go_wp2_with fail
      refine (HF.out _ HS.out).mono ?_; rintro e w2 ⟨rfl, hs⟩
      have HS2 := Lib.hid hs
      clear hs
      go_wp2
      go_ret
      exact ⟨rfl, HS2.out⟩

set_option maxHeartbeats 800000 in
theorem grFormat_few {w : World} {B pd lm fm : Nat} {S : SD} (h : DiskAt w B pd lm fm S) (h4 : S.size < 4) :
    Calls Tryz.prog 43 #[.pointer (some ⟨pd, 0, none⟩)] w fun e w' => e = .returned (.int .i64 2) ∧ w = w' := by
  have HLN := Lib.hid (len_any h)
  have hb1 : (S.size == 0) = false := by rw [beq_eq_false_iff_ne]; have := h.ok.s1; omega
  have hb2 : decide (S.size < 4) = true := decide_eq_true h4
  clear h h4
  generalize S.size = n at *
  go_enter Tryz.func43, Tryz.ntmps43
  go_wp2_with fail
  refine HLN.out.mono ?_; rintro e w1 ⟨rfl, rfl⟩
  go_wp2_with fail
  refine HLN.out.mono ?_; rintro e w1 ⟨rfl, rfl⟩
  go_wp2
  go_ret
  exact ⟨rfl, rfl⟩

end Go.Proofs.YtngnmakeaniapaaGreatDoor

set_option linter.unusedVariables false
set_option maxRecDepth 100000
namespace Go.Proofs.YtngnmakeaniapaaGreatDoor
open Go.RowKit

/-- What the second sector tells. -/
def read1 (S : SD) : List UInt8 := if 1 < S.size then S.read 1 else []
def Read1Post (w : World) (l : List UInt8) (e : Ending) (w' : World) : Prop :=
  ∃ q n c x, e = .returned (.tuple #[.slice q n c, .int .i64 x]) ∧ Bs w' q l ∧ n = l.length ∧ n ≤ c ∧ c ≤ 9223372036854775807 ∧ Below w.heap.size w w'

structure OpenOn (w : World) (pd : Nat) (l0 l1 : List UInt8) (size : Int) (G R N D : Nat) : Prop where
  r0 : Calls Tryz.prog 75 #[.pointer (some ⟨pd, 0, none⟩), .int .i64 0] w (ReadPost w l0)
  r1 : ∀ w1, Below w.heap.size w w1 → Calls Tryz.prog 75 #[.pointer (some ⟨pd, 0, none⟩), .int .i64 1] w1 (Read1Post w1 l1)
  nw : ∀ w1 g q n c, Below w.heap.size w w1 → Sec w1 g l0 → Bs w1 q l1 → n = l1.length → n ≤ c → c ≤ 9223372036854775807 →
    Calls Tryz.prog 76 #[.slice (some ⟨g, 0, none⟩) 512 512, .slice q n c] w1 (MNewPost w1 G R N D)
  ln : ∀ w1, Below w.heap.size w w1 → Calls Tryz.prog 72 #[.pointer (some ⟨pd, 0, none⟩)] w1 fun e w' => e = .returned (.int .i64 size) ∧ w1 = w'
  pos : 0 < size

theorem openOn {w : World} (hT : Tab w) {B pd lm fm : Nat} {S : SD} (h : DiskAt w B pd lm fm S) :
    OpenOn w pd (S.read 0) (read1 S) S.size (newG (S.read 0) (read1 S)) (newR (S.read 0) (read1 S)) (newN (S.read 0) (read1 S)) (newD (S.read 0) (read1 S)) := by
  have h1 := h.ok.s1
  refine ⟨read_any h (by omega) (by omega), fun w1 hb => ?_, fun w1 g q n c hb hs hq hn hnc hc => mNewest_any (hT.below hT.lt hb) hs.bs (h.ok.read_len 0).symm (Nat.le_refl _) (by omega) hq hn hnc hc, fun w1 hb => len_any (h.below hb), by omega⟩
  unfold read1
  by_cases h2 : 1 < S.size
  · rw [if_pos h2]
    refine (read_any (h.below hb) (by omega) h2).mono ?_
    rintro e w' ⟨g, rfl, hg, hs, hb'⟩
    exact ⟨_, _, _, _, rfl, hs.bs, (h.ok.read_len 1).symm, Nat.le_refl _, by omega, hb'⟩
  · rw [if_neg h2]
    refine (read_bad (h.below hb) (k := 1) (by omega)).mono ?_
    rintro e w' ⟨rfl, rfl⟩
    exact ⟨_, _, _, _, rfl, Bs.nil _ _, rfl, Nat.le_refl _, by omega, Below.refl _ _⟩

set_option maxHeartbeats 1600000 in
theorem grOpen_none {w : World} {pd : Nat} {l0 l1 : List UInt8} {size : Int} {G R N D : Nat} (h : OpenOn w pd l0 l1 size G R N D) (h0 : G = 0) :
    Calls Tryz.prog 44 #[.pointer (some ⟨pd, 0, none⟩)] w fun e w' => e = .returned (.tuple #[.pointer none, .int .i64 18]) ∧ Below w.heap.size w w' := by
  have H := Lib.hid h
  have hb1 : (size == 0) = false := by rw [beq_eq_false_iff_ne]; have := h.pos; omega
  have HD : Hid (decide (G ≠ 0) = false) := Lib.hid (by rw [h0]; rfl)
  clear h h0
  generalize size = z at *
  go_enter Tryz.func44, Tryz.ntmps44
  go_wp2_with fail
  refine (H.out.ln _ (Below.refl _ _)).mono ?_; rintro e w1 ⟨rfl, rfl⟩
  go_wp2_with fail
  refine H.out.r0.mono ?_; rintro e w1 ⟨g, rfl, hg, hs, hb1⟩
  have HB1 := Lib.hid hb1
  have HS := Lib.hid hs
  clear hg hs hb1
  go_wp2_with fail
  refine (H.out.r1 _ HB1.out).mono ?_; rintro e w2 ⟨q, n, c, x, rfl, hq, hn, hnc, hc, hb2⟩
  have HB2 := Lib.hid (HB1.out.trans (hb2.mono HB1.out.size))
  have HS2 := Lib.hid (HS.out.below hb2)
  have HQ := Lib.hid hq
  have HN := Lib.hid hn
  have HNC := Lib.hid hnc
  have HC := Lib.hid hc
  clear hq hn hnc hc hb2
  go_wp2_with fail
  refine (H.out.nw _ _ _ _ _ HB2.out HS2.out HQ.out HN.out HNC.out HC.out).mono ?_; rintro e w3 ⟨he, hb3⟩
  rw [HD.out] at he
  subst he
  have HB3 := Lib.hid (HB2.out.trans (hb3.mono HB2.out.size))
  clear hb3
  obtain ⟨W, hW⟩ : ∃ W, W = w3.alloc (.cells #[.int .i64 (G : Int), .int .i64 (R : Int), .int .i64 (N : Int), .int .i64 (D : Int)] 92) := ⟨_, rfl⟩
  have hBX : W.heap[w3.heap.size]? = some (.cells #[.int .i64 (G : Int), .int .i64 (R : Int), .int .i64 (N : Int), .int .i64 (D : Int)] 92 (0, 0)) := by rw [hW]; exact heap_alloc_new w3 _
  have HBX := Lib.hid hBX
  have HBW : Hid (Below w.heap.size w W) := Lib.hid (by rw [hW]; exact HB3.out.alloc HB3.out.size _)
  clear hBX
  go_wp2_with fail
  rw [← hW]
  clear hW
  have g0 : W.cell? ⟨w3.heap.size, 0, none⟩ = some (.int .i64 (G : Int)) := (Joins.cell_of_block HBX.out 0).trans rfl
  have g1 : W.cell? ⟨w3.heap.size, 1, none⟩ = some (.int .i64 (R : Int)) := (Joins.cell_of_block HBX.out 1).trans rfl
  have g2 : W.cell? ⟨w3.heap.size, 2, none⟩ = some (.int .i64 (N : Int)) := (Joins.cell_of_block HBX.out 2).trans rfl
  have g3 : W.cell? ⟨w3.heap.size, 3, none⟩ = some (.int .i64 (D : Int)) := (Joins.cell_of_block HBX.out 3).trans rfl
  have HLN := Lib.hid fun k => (H.out.ln (W.drewN k) (belowN HBW.out k)).mono fun e w' ⟨h1, h2⟩ => (⟨h1, h2.symm⟩ : _ ∧ w' = W.drewN k)
  go_quiet (fail)
  go_wp2
  go_ret2
  exact ⟨rfl, belowN HBW.out _⟩

set_option maxHeartbeats 1600000 in
theorem grOpen_root {w : World} {pd : Nat} {l0 l1 : List UInt8} {size : Int} {G R N D : Nat} (h : OpenOn w pd l0 l1 size G R N D) (h0 : G ≠ 0) (hr : size ≤ (R : Int)) :
    Calls Tryz.prog 44 #[.pointer (some ⟨pd, 0, none⟩)] w fun e w' => e = .returned (.tuple #[.pointer none, .int .i64 18]) ∧ Below w.heap.size w w' := by
  have H := Lib.hid h
  have hb1 : (size == 0) = false := by rw [beq_eq_false_iff_ne]; have := h.pos; omega
  have HD : Hid (decide (G ≠ 0) = true) := Lib.hid (decide_eq_true h0)
  have d1 : decide (size ≤ (R : Int)) = true := decide_eq_true hr
  clear h h0
  generalize size = z at *
  go_enter Tryz.func44, Tryz.ntmps44
  go_wp2_with fail
  refine (H.out.ln _ (Below.refl _ _)).mono ?_; rintro e w1 ⟨rfl, rfl⟩
  go_wp2_with fail
  refine H.out.r0.mono ?_; rintro e w1 ⟨g, rfl, hg, hs, hb1⟩
  have HB1 := Lib.hid hb1
  have HS := Lib.hid hs
  clear hg hs hb1
  go_wp2_with fail
  refine (H.out.r1 _ HB1.out).mono ?_; rintro e w2 ⟨q, n, c, x, rfl, hq, hn, hnc, hc, hb2⟩
  have HB2 := Lib.hid (HB1.out.trans (hb2.mono HB1.out.size))
  have HS2 := Lib.hid (HS.out.below hb2)
  have HQ := Lib.hid hq
  have HN := Lib.hid hn
  have HNC := Lib.hid hnc
  have HC := Lib.hid hc
  clear hq hn hnc hc hb2
  go_wp2_with fail
  refine (H.out.nw _ _ _ _ _ HB2.out HS2.out HQ.out HN.out HNC.out HC.out).mono ?_; rintro e w3 ⟨he, hb3⟩
  rw [HD.out] at he
  subst he
  have HB3 := Lib.hid (HB2.out.trans (hb3.mono HB2.out.size))
  clear hb3
  obtain ⟨W, hW⟩ : ∃ W, W = w3.alloc (.cells #[.int .i64 (G : Int), .int .i64 (R : Int), .int .i64 (N : Int), .int .i64 (D : Int)] 92) := ⟨_, rfl⟩
  have hBX : W.heap[w3.heap.size]? = some (.cells #[.int .i64 (G : Int), .int .i64 (R : Int), .int .i64 (N : Int), .int .i64 (D : Int)] 92 (0, 0)) := by rw [hW]; exact heap_alloc_new w3 _
  have HBX := Lib.hid hBX
  have HBW : Hid (Below w.heap.size w W) := Lib.hid (by rw [hW]; exact HB3.out.alloc HB3.out.size _)
  clear hBX
  go_wp2_with fail
  rw [← hW]
  clear hW
  have g0 : W.cell? ⟨w3.heap.size, 0, none⟩ = some (.int .i64 (G : Int)) := (Joins.cell_of_block HBX.out 0).trans rfl
  have g1 : W.cell? ⟨w3.heap.size, 1, none⟩ = some (.int .i64 (R : Int)) := (Joins.cell_of_block HBX.out 1).trans rfl
  have g2 : W.cell? ⟨w3.heap.size, 2, none⟩ = some (.int .i64 (N : Int)) := (Joins.cell_of_block HBX.out 2).trans rfl
  have g3 : W.cell? ⟨w3.heap.size, 3, none⟩ = some (.int .i64 (D : Int)) := (Joins.cell_of_block HBX.out 3).trans rfl
  have HLN := Lib.hid fun k => (H.out.ln (W.drewN k) (belowN HBW.out k)).mono fun e w' ⟨h1, h2⟩ => (⟨h1, h2.symm⟩ : _ ∧ w' = W.drewN k)
  go_quiet (first | (go_at_call 72; with_reducible exact Calls.quiet_of_same (HLN.out _)))
  go_wp2
  go_ret2
  exact ⟨rfl, belowN HBW.out _⟩

/-- A pager that was just opened. -/
def PG.new (S : SD) (G R N D : Nat) : PG := ⟨S, FL.new 2 S.size, G, R, N, D, fun _ => false, [], false, false, false⟩
theorem GrIs.opened {w w' : World} {B pd lm fm pl um wm : Nat} {S : SD} {G R N D : Nat} (hd : DiskAt w B pd lm fm S) (hw : Below w.heap.size w w') (hl : FrIs w' pl um wm (FL.new 2 S.size)) (hu : w.heap.size ≤ um) (hm : w.heap.size ≤ wm) (hG : G ≤ 1152921504606846976) :
    GrIs ((w'.alloc (.map #[] 0)).alloc (.cells #[.pointer (some ⟨pd, 0, none⟩), .pointer (some ⟨pl, 0, none⟩), .int .i64 G, .int .i64 R, .int .i64 N, .int .i64 D, .map (some w'.heap.size), .slice none 0 0, .bool false, .bool false, .bool false] 140)) B (w'.heap.size + 1) pd lm fm pl um wm w'.heap.size (.slice none 0 0) (PG.new S G R N D) := by
  have hb := sbox2 w' (.map #[] 0) (.cells #[.pointer (some ⟨pd, 0, none⟩), .pointer (some ⟨pl, 0, none⟩), .int .i64 G, .int .i64 R, .int .i64 N, .int .i64 D, .map (some w'.heap.size), .slice none 0 0, .bool false, .bool false, .bool false] 140)
  have e1 : (w'.alloc (.map #[] 0)).heap.size = w'.heap.size + 1 := by simp
  have hBw := hd.base
  have hws := hw.size
  obtain ⟨l1, l2⟩ : lm < w.heap.size ∧ fm < w.heap.size := by
    obtain ⟨v, ms, fl, ff, h⟩ := hd
    exact ⟨h.ml.lt, h.mf.lt⟩
  have l3 := hl.mu.lt
  have l4 := hl.mw.lt
  refine ⟨?_, (hd.below hw).below hb, hl.below hb, ?_, World.ownsRow_nil _ B _ _, by omega, by omega, by omega, by omega, by omega, by omega, by omega, hG, by omega⟩
  · have := heap_alloc_new (w'.alloc (.map #[] 0)) (.cells #[.pointer (some ⟨pd, 0, none⟩), .pointer (some ⟨pl, 0, none⟩), .int .i64 G, .int .i64 R, .int .i64 N, .int .i64 D, .map (some w'.heap.size), .slice none 0 0, .bool false, .bool false, .bool false] 140)
    rw [e1] at this
    exact this
  · have e2 : setOf (fun _ => false) = fun _ => none := by funext k; simp [setOf]
    show MapSt _ _ (setOf fun _ => false)
    rw [e2]
    refine MapSt.new ?_
    rw [Below.heap_alloc _ _ _ (by omega)]
    exact heap_alloc_new w' _
def OpenedPost (w : World) (B pd : Nat) (X : PG) (e : Ending) (w' : World) : Prop :=
  ∃ P, e = .returned (.tuple #[.pointer (some ⟨P, 0, none⟩), .int .i64 0]) ∧ GrStep w w' B P pd X

set_option maxHeartbeats 3200000 in
theorem grOpen_yes {w : World} {B pd lm fm : Nat} {S S' : SD} {l0 l1 : List UInt8} {G R N D : Nat} (h : OpenOn w pd l0 l1 S.size G R N D) (hB : B ≤ w.heap.size) (h0 : G ≠ 0) (hG : G ≤ 1152921504606846976) (hr : (R : Int) < S.size) (hz : S'.size = S.size) (h2 : 2 ≤ S.size)
    (hM : ∀ w1, Below w.heap.size w w1 → Calls Tryz.prog 77 #[.pointer (some ⟨pd, 0, none⟩), .int .i64 (((G + 1) % 2 : Nat) : Int)] w1 fun e w' => e = .returned (.int .i64 0) ∧ DiskStep w1 w' B pd lm fm S') :
    Calls Tryz.prog 44 #[.pointer (some ⟨pd, 0, none⟩)] w (OpenedPost w B pd (PG.new S' G R N D)) := by
  have H := Lib.hid h
  have HMD := Lib.hid hM
  have hb1 : (S.size == 0) = false := by rw [beq_eq_false_iff_ne]; have := h.pos; omega
  have HD : Hid (decide (G ≠ 0) = true) := Lib.hid (decide_eq_true h0)
  have d1 : decide (S.size ≤ (R : Int)) = false := decide_eq_false (by omega)
  obtain ⟨m, hm⟩ : ∃ m : Int, m = (((G + 1) % 2 : Nat) : Int) := ⟨_, rfl⟩
  have hGm : ((G : Int) + 1) % 2 = m := by omega
  rw [← hm] at HMD
  clear hm
  have HZ := Lib.hid hz
  have H2 := Lib.hid h2
  have HBB := Lib.hid hB
  clear h h0 hM hz h2 hr hB
  obtain ⟨z, hz⟩ : ∃ z, z = S.size := ⟨_, rfl⟩
  rw [← hz] at H hb1 d1
  have HSZ := Lib.hid hz
  clear hz
  go_enter Tryz.func44, Tryz.ntmps44
  go_wp2_with fail
  refine (H.out.ln _ (Below.refl _ _)).mono ?_; rintro e w1 ⟨rfl, rfl⟩
  go_wp2_with fail
  refine H.out.r0.mono ?_; rintro e w1 ⟨g, rfl, hg, hs, hb1⟩
  have HB1 := Lib.hid hb1
  have HS := Lib.hid hs
  clear hg hs hb1
  go_wp2_with fail
  refine (H.out.r1 _ HB1.out).mono ?_; rintro e w2 ⟨q, n, c, x, rfl, hq, hn, hnc, hc, hb2⟩
  have HB2 := Lib.hid (HB1.out.trans (hb2.mono HB1.out.size))
  have HS2 := Lib.hid (HS.out.below hb2)
  have HQ := Lib.hid hq
  have HN := Lib.hid hn
  have HNC := Lib.hid hnc
  have HC := Lib.hid hc
  clear hq hn hnc hc hb2
  go_wp2_with fail
  refine (H.out.nw _ _ _ _ _ HB2.out HS2.out HQ.out HN.out HNC.out HC.out).mono ?_; rintro e w3 ⟨he, hb3⟩
  rw [HD.out] at he
  subst he
  have HB3 := Lib.hid (HB2.out.trans (hb3.mono HB2.out.size))
  clear hb3
  obtain ⟨W, hW⟩ : ∃ W, W = w3.alloc (.cells #[.int .i64 (G : Int), .int .i64 (R : Int), .int .i64 (N : Int), .int .i64 (D : Int)] 92) := ⟨_, rfl⟩
  have hBX : W.heap[w3.heap.size]? = some (.cells #[.int .i64 (G : Int), .int .i64 (R : Int), .int .i64 (N : Int), .int .i64 (D : Int)] 92 (0, 0)) := by rw [hW]; exact heap_alloc_new w3 _
  have HBX := Lib.hid hBX
  have HBW : Hid (Below w.heap.size w W) := Lib.hid (by rw [hW]; exact HB3.out.alloc HB3.out.size _)
  clear hBX
  go_wp2_with fail
  rw [← hW]
  clear hW
  have g0 : W.cell? ⟨w3.heap.size, 0, none⟩ = some (.int .i64 (G : Int)) := (Joins.cell_of_block HBX.out 0).trans rfl
  have g1 : W.cell? ⟨w3.heap.size, 1, none⟩ = some (.int .i64 (R : Int)) := (Joins.cell_of_block HBX.out 1).trans rfl
  have g2 : W.cell? ⟨w3.heap.size, 2, none⟩ = some (.int .i64 (N : Int)) := (Joins.cell_of_block HBX.out 2).trans rfl
  have g3 : W.cell? ⟨w3.heap.size, 3, none⟩ = some (.int .i64 (D : Int)) := (Joins.cell_of_block HBX.out 3).trans rfl
  have HLN := Lib.hid fun k => (H.out.ln (W.drewN k) (belowN HBW.out k)).mono fun e w' ⟨h1, h2⟩ => (⟨h1, h2.symm⟩ : _ ∧ w' = W.drewN k)
  go_quiet (first | (go_at_call 72; with_reducible exact Calls.quiet_of_same (HLN.out _)))
  go_wp2_with fail
  refine (HMD.out _ (belowN HBW.out _)).mono ?_; rintro e w4 ⟨rfl, hs⟩
  have HLN4 := Lib.hid (len_any hs.disk)
  have HS4 := Lib.hid (DiskStep.of ((belowN HBW.out _).mono HBB.out) (Keeps.below (belowN HBW.out _)) hs)
  have HX4 : Hid (w4.heap[w3.heap.size]? = some (.cells #[.int .i64 (G : Int), .int .i64 (R : Int), .int .i64 (N : Int), .int .i64 (D : Int)] 92 (0, 0))) := Lib.hid (hs.keeps.stay (by rw [(belowN (Below.refl W.heap.size W) nq).block _ (Array.getElem?_eq_some_iff.1 HBX.out).1]; exact HBX.out) rfl)
  rw [HZ.out, ← HSZ.out] at HLN4
  have HNEW := Lib.hid (frNew_yes (w := w4) (lo := 2) (hi := z) (by decide) (by have := HSZ.out; have := H2.out; omega) (by have := HSZ.out; have := hs.disk.ok.s2; have := HZ.out; omega))
  clear hs g0 g1 g2 g3 HLN
  go_wp2_with fail
  refine HLN4.out.mono ?_; rintro e w5 ⟨rfl, rfl⟩
  go_wp2_with fail
  refine HNEW.out.mono ?_; rintro e w6 ⟨pl, um, wm, rfl, hf, hb6, hpl, hum, hwm⟩
  have HFIN := Lib.hid (GrIs.opened (G := G) (R := R) (N := N) (D := D) HS4.out.disk hb6 (by rw [HZ.out, ← HSZ.out]; exact hf) hum hwm hG)
  have HB6 := Lib.hid hb6
  have g0 : w6.heap[w3.heap.size]? = some (.cells #[.int .i64 (G : Int), .int .i64 (R : Int), .int .i64 (N : Int), .int .i64 (D : Int)] 92 (0, 0)) := by rw [hb6.block _ (Array.getElem?_eq_some_iff.1 HX4.out).1]; exact HX4.out
  have c0 : w6.cell? ⟨w3.heap.size, 0, none⟩ = some (.int .i64 (G : Int)) := (Joins.cell_of_block g0 0).trans rfl
  have c1 : w6.cell? ⟨w3.heap.size, 1, none⟩ = some (.int .i64 (R : Int)) := (Joins.cell_of_block g0 1).trans rfl
  have c2 : w6.cell? ⟨w3.heap.size, 2, none⟩ = some (.int .i64 (N : Int)) := (Joins.cell_of_block g0 2).trans rfl
  have c3 : w6.cell? ⟨w3.heap.size, 3, none⟩ = some (.int .i64 (D : Int)) := (Joins.cell_of_block g0 3).trans rfl
  have hmm := @run_makeMap Tryz.prog
  clear hf hb6 hpl hum hwm g0
  go_wp2
  go_ret2
  have hb := fun o o' => HB6.out.trans ((sbox2 w6 o o').mono HB6.out.size)
  exact ⟨_, rfl, ⟨_, _, _, _, _, _, _, HFIN.out⟩, HS4.out.below.trans ((hb _ _).mono HS4.out.disk.base), (HS4.out.keeps.mono (ofDisk_ofGrP (HFIN.out).mP.1 (HFIN.out).mP.2.1)).trans (Keeps.below (hb _ _))⟩

end Go.Proofs.YtngnmakeaniapaaGreatDoor

set_option linter.unusedVariables false
set_option maxRecDepth 100000
namespace Go.Proofs.YtngnmakeaniapaaGreatDoor
open Go.RowKit

section
variable {w w' : World} {B P pd lm fm pl um wm la : Nat} {v : Value} {X : PG}

theorem GrIs.cell (h : GrIs w B P pd lm fm pl um wm la v X) (i : Nat) : w.cell? ⟨P, i, none⟩ = (grCells pd pl la v X)[i]? := Joins.cell_of_block h.blk i
theorem GrIs.c0 (h : GrIs w B P pd lm fm pl um wm la v X) : w.cell? ⟨P, 0, none⟩ = some (.pointer (some ⟨pd, 0, none⟩)) := h.cell 0
theorem GrIs.c1 (h : GrIs w B P pd lm fm pl um wm la v X) : w.cell? ⟨P, 1, none⟩ = some (.pointer (some ⟨pl, 0, none⟩)) := h.cell 1
theorem GrIs.c2 (h : GrIs w B P pd lm fm pl um wm la v X) : w.cell? ⟨P, 2, none⟩ = some (.int .i64 X.g) := h.cell 2
theorem GrIs.c3 (h : GrIs w B P pd lm fm pl um wm la v X) : w.cell? ⟨P, 3, none⟩ = some (.int .i64 X.r) := h.cell 3
theorem GrIs.c4 (h : GrIs w B P pd lm fm pl um wm la v X) : w.cell? ⟨P, 4, none⟩ = some (.int .i64 X.n) := h.cell 4
theorem GrIs.c5 (h : GrIs w B P pd lm fm pl um wm la v X) : w.cell? ⟨P, 5, none⟩ = some (.int .i64 X.d) := h.cell 5
theorem GrIs.c6 (h : GrIs w B P pd lm fm pl um wm la v X) : w.cell? ⟨P, 6, none⟩ = some (.map (some la)) := h.cell 6
theorem GrIs.c7 (h : GrIs w B P pd lm fm pl um wm la v X) : w.cell? ⟨P, 7, none⟩ = some v := h.cell 7
theorem GrIs.c8 (h : GrIs w B P pd lm fm pl um wm la v X) : w.cell? ⟨P, 8, none⟩ = some (.bool X.kept) := h.cell 8
theorem GrIs.c9 (h : GrIs w B P pd lm fm pl um wm la v X) : w.cell? ⟨P, 9, none⟩ = some (.bool X.laid) := h.cell 9
theorem GrIs.c10 (h : GrIs w B P pd lm fm pl um wm la v X) : w.cell? ⟨P, 10, none⟩ = some (.bool X.failed) := h.cell 10
theorem GrIs.soft (h : GrIs w B P pd lm fm pl um wm la v X) (i : Nat) : w.frozen? ⟨P, i, none⟩ = false := Joins.unfrozen_of_block h.blk i
theorem GrIs.made (h : GrIs w B P pd lm fm pl um wm la v X) : Calls Tryz.prog 86 #[.pointer (some ⟨P, 0, none⟩)] w fun e w' => e = .returned (.bool true) ∧ w = w' := grMade_yes h.c0

set_option maxHeartbeats 400000 in
theorem grNext (h : GrIs w B P pd lm fm pl um wm la v X) :
    Calls Tryz.prog 106 #[.pointer (some ⟨P, 0, none⟩)] w fun e w' => e = .returned (.int .i64 ((X.g : Int) + 1)) ∧ w = w' := by
  have c2 := h.c2
  have hg := h.g0
  clear h
  generalize X.g = g at *
  go_enter Tryz.func106, Tryz.ntmps106
  go_wp2
  go_ret
  exact ⟨rfl, rfl⟩

set_option maxHeartbeats 800000 in
theorem grMeta (h : GrIs w B P pd lm fm pl um wm la v X) :
    Calls Tryz.prog 46 #[.pointer (some ⟨P, 0, none⟩)] w fun e w' => e = .returned (.agg #[.int .i64 X.g, .int .i64 X.r, .int .i64 X.n, .int .i64 X.d]) ∧ Below w.heap.size w w' := by
  have HM := Lib.hid fun w' hb => (h.below (w' := w') hb).made
  have hb1 := sbox1 w (.cells #[.int .i64 0, .int .i64 0, .int .i64 0, .int .i64 0] 92)
  have h1 := h.below hb1
  obtain ⟨W, hW⟩ : ∃ W, W = w.alloc (.cells #[.int .i64 0, .int .i64 0, .int .i64 0, .int .i64 0] 92) := ⟨_, rfl⟩
  have hbx : W.heap[w.heap.size]? = some (.cells #[.int .i64 0, .int .i64 0, .int .i64 0, .int .i64 0] 92 (0, 0)) := by rw [hW]; exact heap_alloc_new w _
  rw [← hW] at h1 hb1
  have c2 := h1.c2
  have c3 := h1.c3
  have c4 := h1.c4
  have c5 := h1.c5
  have HB := Lib.hid hb1
  have HBX := Lib.hid hbx
  have f0 : ∀ i, W.frozen? ⟨w.heap.size, i, none⟩ = false := fun i => Joins.unfrozen_of_block hbx i
  have b0 : W.cell? ⟨w.heap.size, 0, none⟩ = some (.int .i64 0) := (Joins.cell_of_block hbx 0).trans rfl
  have b1 : W.cell? ⟨w.heap.size, 1, none⟩ = some (.int .i64 0) := (Joins.cell_of_block hbx 1).trans rfl
  have b2 : W.cell? ⟨w.heap.size, 2, none⟩ = some (.int .i64 0) := (Joins.cell_of_block hbx 2).trans rfl
  have b3 : W.cell? ⟨w.heap.size, 3, none⟩ = some (.int .i64 0) := (Joins.cell_of_block hbx 3).trans rfl
  clear h h1 hb1 hbx
  generalize X.g = g at *
  generalize X.r = r at *
  generalize X.n = n at *
  generalize X.d = d at *
  go_enter Tryz.func46, Tryz.ntmps46
  go_wp2_with fail
  rw [← hW]
  clear hW
  refine (HM.out _ HB.out).mono ?_; rintro e w1 ⟨rfl, rfl⟩
  go_wp2
  obtain ⟨x0, g0⟩ := cell_set (i := 0) (v := .int .i64 (g : Int)) HBX.out
  obtain ⟨x1, g1⟩ := cell_set (i := 1) (v := .int .i64 (r : Int)) x0
  obtain ⟨x2, g2⟩ := cell_set (i := 2) (v := .int .i64 (n : Int)) x1
  obtain ⟨x3, g3⟩ := cell_set (i := 3) (v := .int .i64 (d : Int)) x2
  have d0 := (Joins.cell_of_block x3 0)
  have d1 := (Joins.cell_of_block x3 1)
  have d2 := (Joins.cell_of_block x3 2)
  have d3 := (Joins.cell_of_block x3 3)
  simp at d0 d1 d2 d3
  exact bodyPost_ret (v := .agg #[.int .i64 (g : Int), .int .i64 (r : Int), .int .i64 (n : Int), .int .i64 (d : Int)]) (by simp [results, Tryz.results46, go_sem, d0, d1, d2, d3]) rfl ⟨rfl, (((HB.out.setCell (Nat.le_refl _) _).setCell (Nat.le_refl _) _).setCell (Nat.le_refl _) _).setCell (Nat.le_refl _) _⟩

set_option maxHeartbeats 400000 in
theorem grFree (h : GrIs w B P pd lm fm pl um wm la v X) :
    Calls Tryz.prog 52 #[.pointer (some ⟨P, 0, none⟩)] w fun e w' => e = .returned (.int .i64 X.F.nFree) ∧ Below w.heap.size w w' := by
  have HM := Lib.hid h.made
  have c1 := h.c1
  have HC := Lib.hid (frFree_any h.list)
  clear h
  go_enter Tryz.func52, Tryz.ntmps52
  go_wp2_with fail
  refine HM.out.mono ?_; rintro e w1 ⟨rfl, rfl⟩
  go_wp2_with fail
  refine HC.out.mono ?_; rintro e w1 ⟨rfl, hb⟩
  have HB := Lib.hid hb
  clear hb
  go_wp2
  go_ret
  exact ⟨rfl, HB.out⟩
set_option maxHeartbeats 400000 in
theorem grWaiting (h : GrIs w B P pd lm fm pl um wm la v X) :
    Calls Tryz.prog 51 #[.pointer (some ⟨P, 0, none⟩)] w fun e w' => e = .returned (.int .i64 X.F.nWaits) ∧ w = w' := by
  have HM := Lib.hid h.made
  have c1 := h.c1
  have HC := Lib.hid (frWaiting_any h.list)
  clear h
  go_enter Tryz.func51, Tryz.ntmps51
  go_wp2_with fail
  refine HM.out.mono ?_; rintro e w1 ⟨rfl, rfl⟩
  go_wp2_with fail
  refine HC.out.mono ?_; rintro e w1 ⟨rfl, rfl⟩
  go_wp2
  go_ret
  exact ⟨rfl, rfl⟩
set_option maxHeartbeats 400000 in
theorem grUsed (h : GrIs w B P pd lm fm pl um wm la v X) :
    Calls Tryz.prog 50 #[.pointer (some ⟨P, 0, none⟩)] w fun e w' => e = .returned (.int .i64 X.F.nUsed) ∧ w = w' := by
  have HM := Lib.hid h.made
  have c1 := h.c1
  have HC := Lib.hid (frUsed_any h.list)
  clear h
  go_enter Tryz.func50, Tryz.ntmps50
  go_wp2_with fail
  refine HM.out.mono ?_; rintro e w1 ⟨rfl, rfl⟩
  go_wp2_with fail
  refine HC.out.mono ?_; rintro e w1 ⟨rfl, rfl⟩
  go_wp2
  go_ret
  exact ⟨rfl, rfl⟩

def PgReadPost (w : World) (kind : UInt8) (l : List UInt8) (e : Ending) (w' : World) : Prop :=
  ∃ v, e = .returned (.tuple #[.int .u8 (kind.toNat : Int), v, .int .i64 0]) ∧ Own w' w.heap.size v l ∧ Below w.heap.size w w'

set_option maxHeartbeats 800000 in
theorem grRead (hT : Tab w) (h : GrIs w B P pd lm fm pl um wm la v X) {k : Nat} (hs : X.F.st k ≠ 0) (hk : (k : Int) < X.S.size) {kind : UInt8} {gen : Nat} {l : List UInt8} (hp : X.S.read k = pageB kind k gen l) (hl : l.length ≤ 493) (hg : gen ≤ 1152921504606846976) :
    Calls Tryz.prog 121 #[.pointer (some ⟨P, 0, none⟩), .int .i64 (k : Int)] w (PgReadPost w kind l) := by
  have HM := Lib.hid h.made
  have c1 := h.c1
  have HST := Lib.hid (frState_any h.list k)
  have HR := Lib.hid fun w' hb => read_any (h.disk.below (w' := w') hb) (k := k) (by omega) hk
  have h96 := h.disk.ok.s2
  have HPL : Hid (512 = (pageB kind k gen l).length) := Lib.hid (pageB_length hl).symm
  have HO : Hid (∀ w1 g, Below w.heap.size w w1 → Sec w1 g (pageB kind k gen l) → Calls Tryz.prog 152 #[.slice (some ⟨g, 0, none⟩) 512 512, .int .i64 (k : Int)] w1 fun e w2 => ∃ v, e = .returned (.tuple #[.int .u8 (kind.toNat : Int), .int .i64 (gen : Int), v, .int .i64 0]) ∧ Own w2 w1.heap.size v l ∧ Below w1.heap.size w1 w2) := Lib.hid fun w1 g hb hsec => by
    refine (pOpen_any (hT.below hT.lt hb) hsec.bs HPL.out (Nat.le_refl _) (by omega) k).mono ?_
    have hz := page_right (kind := kind) (no := k) (gen := gen) hl (by omega) hg k
    rw [if_pos rfl] at hz
    obtain ⟨f1, f2, f3, f4, f5, _⟩ := page_fields (kind := kind) hl (no := k) (by omega) (gen := gen) (by omega)
    rintro e w2 (⟨h1, _⟩ | ⟨h1, u, v, hu, rfl, ho, hb2⟩)
    · exact absurd hz h1
    · rw [f1] at hu
      cases hu
      rw [f5] at ho
      rw [f3]
      exact ⟨v, rfl, ho, hb2⟩
  have hb0 : (X.F.st k == 0) = false := by rw [beq_eq_false_iff_ne]; exact hs
  have HC0 : Hid (∀ w', Below w.heap.size w w' → w'.cell? ⟨P, 0, none⟩ = some (.pointer (some ⟨pd, 0, none⟩))) := Lib.hid fun w' hb => (h.below hb).c0
  rw [hp] at HR
  clear h hs hk hp hT h96
  generalize pageB kind k gen l = pg at *
  generalize X.F.st k = st at *
  generalize (gen : Int) = gi at *
  generalize (k : Int) = kk at *
  go_enter Tryz.func121, Tryz.ntmps121
  go_wp2_with fail
  refine HM.out.mono ?_; rintro e w1 ⟨rfl, rfl⟩
  go_wp2_with fail
  refine HST.out.mono ?_; rintro e w1 ⟨rfl, hb1⟩
  have HB1 := Lib.hid hb1
  have c0 := HC0.out _ hb1
  clear hb1
  go_wp2_with fail
  refine (HR.out _ HB1.out).mono ?_; rintro e w2 ⟨g, rfl, hg, hsec, hb2⟩
  have HB2 := Lib.hid (HB1.out.trans (hb2.mono HB1.out.size))
  have HS2 := Lib.hid hsec
  clear hb2 hsec hg c0
  go_wp2_with fail
  refine (HO.out _ _ HB2.out HS2.out).mono ?_; rintro e w3 ⟨u, rfl, ho, hb3⟩
  have HB3 := Lib.hid (HB2.out.trans (hb3.mono HB2.out.size))
  have HO3 := Lib.hid (ho.le HB2.out.size)
  clear ho hb3
  go_wp2
  exact bodyPost_ret (v := .tuple #[.int .u8 (kind.toNat : Int), u, .int .i64 0]) (by simp [results, Tryz.results121, go_sem]) rfl ⟨u, rfl, HO3.out, HB3.out⟩
end

end Go.Proofs.YtngnmakeaniapaaGreatDoor

