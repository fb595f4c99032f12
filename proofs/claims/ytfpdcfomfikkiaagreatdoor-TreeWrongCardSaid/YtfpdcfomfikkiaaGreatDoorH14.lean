/-
  pager.Open.
  pager: next, Meta, Free, Waiting, Used, Read.
  pager.Open on disks that have a Meta, and on those that have none.
-/
import Derived.Test.YtfpdcfomfikkiaaGreatDoorH13
import Derived.BigQuiet
set_option linter.unusedVariables false
set_option maxRecDepth 100000
namespace Go.Proofs.YtfpdcfomfikkiaaGreatDoor
open Go.RowKit

/-- What the second sector tells. -/
def read1 (S : SD) : List UInt8 := if 1 < S.size then S.read 1 else []
def Read1Post (w : World) (l : List UInt8) (e : Ending) (w' : World) : Prop :=
  ∃ q n c x, e = .returned (.tuple #[.slice q n c, .int .i64 x]) ∧ Bs w' q l ∧ n = l.length ∧ n ≤ c ∧ c ≤ 9223372036854775807 ∧ Below w.heap.size w w'

structure OpenOn (w : World) (pd : Nat) (l0 l1 : List UInt8) (size : Int) (G R N D : Nat) : Prop where
  r0 : Calls Tryz.prog 42 #[.pointer (some ⟨pd, 0, none⟩), .int .i64 0] w (ReadPost w l0)
  r1 : ∀ w1, Below w.heap.size w w1 → Calls Tryz.prog 42 #[.pointer (some ⟨pd, 0, none⟩), .int .i64 1] w1 (Read1Post w1 l1)
  nw : ∀ w1 g q n c, Below w.heap.size w w1 → Sec w1 g l0 → Bs w1 q l1 → n = l1.length → n ≤ c → c ≤ 9223372036854775807 →
    Calls Tryz.prog 43 #[.slice (some ⟨g, 0, none⟩) 512 512, .slice q n c] w1 (MNewPost w1 G R N D)
  ln : ∀ w1, Below w.heap.size w w1 → Calls Tryz.prog 39 #[.pointer (some ⟨pd, 0, none⟩)] w1 fun e w' => e = .returned (.int .i64 size) ∧ w1 = w'
  pos : 0 < size

theorem openOn {w : World} (hT : Tab w) {B pd lm fm : Nat} {S : SD} (h : DiskAt w B pd lm fm S) :
    OpenOn w pd (S.read 0) (read1 S) S.size (newG (S.read 0) (read1 S)) (newR (S.read 0) (read1 S)) (newN (S.read 0) (read1 S)) (newD (S.read 0) (read1 S)) := by
  have h1 := h.ok.s1
  refine ⟨read_any h (by omega) (by omega), fun w1 hb => ?_, fun w1 g q n c hb hs hq hn hnc hc => mNewest_any (hT.below hT.lt hb) hs.bs (h.ok.read_len 0).symm (Nat.le_refl _) (by omega) hq hn hnc hc, fun w1 hb => len_any (h.below hb), by omega⟩
  unfold read1
  by_cases h2 : 1 < S.size
  · rw [if_pos h2]
    refine (read_any (h.below hb) (by omega) h2).mono ?_
    rintro e w' ⟨g, rfl, hg, hs, hb'⟩
    exact ⟨_, _, _, _, rfl, hs.bs, (h.ok.read_len 1).symm, Nat.le_refl _, by omega, hb'⟩
  · rw [if_neg h2]
    refine (read_bad (h.below hb) (k := 1) (by omega)).mono ?_
    rintro e w' ⟨rfl, rfl⟩
    exact ⟨_, _, _, _, rfl, Bs.nil _ _, rfl, Nat.le_refl _, by omega, Below.refl _ _⟩

set_option maxHeartbeats 1600000 in
theorem grOpen_none {w : World} {pd : Nat} {l0 l1 : List UInt8} {size : Int} {G R N D : Nat} (h : OpenOn w pd l0 l1 size G R N D) (h0 : G = 0) :
    Calls Tryz.prog 16 #[.pointer (some ⟨pd, 0, none⟩)] w fun e w' => e = .returned (.tuple #[.pointer none, .int .i64 18]) ∧ Below w.heap.size w w' := by
  have H := Lib.hid h
  have hb1 : (size == 0) = false := by rw [beq_eq_false_iff_ne]; have := h.pos; omega
  have HD : Hid (decide (G ≠ 0) = false) := Lib.hid (by rw [h0]; rfl)
  clear h h0
  generalize size = z at *
  go_enter Tryz.func16, Tryz.ntmps16
  go_wp2_with fail
  refine (H.out.ln _ (Below.refl _ _)).mono ?_; rintro e w1 ⟨rfl, rfl⟩
  go_wp2_with fail
  refine H.out.r0.mono ?_; rintro e w1 ⟨g, rfl, hg, hs, hb1⟩
  have HB1 := Lib.hid hb1
  have HS := Lib.hid hs
  clear hg hs hb1
  go_wp2_with fail
  refine (H.out.r1 _ HB1.out).mono ?_; rintro e w2 ⟨q, n, c, x, rfl, hq, hn, hnc, hc, hb2⟩
  have HB2 := Lib.hid (HB1.out.trans (hb2.mono HB1.out.size))
  have HS2 := Lib.hid (HS.out.below hb2)
  have HQ := Lib.hid hq
  have HN := Lib.hid hn
  have HNC := Lib.hid hnc
  have HC := Lib.hid hc
  clear hq hn hnc hc hb2
  go_wp2_with fail
  refine (H.out.nw _ _ _ _ _ HB2.out HS2.out HQ.out HN.out HNC.out HC.out).mono ?_; rintro e w3 ⟨he, hb3⟩
  rw [HD.out] at he
  subst he
  have HB3 := Lib.hid (HB2.out.trans (hb3.mono HB2.out.size))
  clear hb3
  obtain ⟨W, hW⟩ : ∃ W, W = w3.alloc (.cells #[.int .i64 (G : Int), .int .i64 (R : Int), .int .i64 (N : Int), .int .i64 (D : Int)] 57) := ⟨_, rfl⟩
  have hBX : W.heap[w3.heap.size]? = some (.cells #[.int .i64 (G : Int), .int .i64 (R : Int), .int .i64 (N : Int), .int .i64 (D : Int)] 57 (0, 0)) := by rw [hW]; exact heap_alloc_new w3 _
  have HBX := Lib.hid hBX
  have HBW : Hid (Below w.heap.size w W) := Lib.hid (by rw [hW]; exact HB3.out.alloc HB3.out.size _)
  clear hBX
  go_wp2_with fail
  rw [← hW]
  clear hW
  have g0 : W.cell? ⟨w3.heap.size, 0, none⟩ = some (.int .i64 (G : Int)) := (Joins.cell_of_block HBX.out 0).trans rfl
  have g1 : W.cell? ⟨w3.heap.size, 1, none⟩ = some (.int .i64 (R : Int)) := (Joins.cell_of_block HBX.out 1).trans rfl
  have g2 : W.cell? ⟨w3.heap.size, 2, none⟩ = some (.int .i64 (N : Int)) := (Joins.cell_of_block HBX.out 2).trans rfl
  have g3 : W.cell? ⟨w3.heap.size, 3, none⟩ = some (.int .i64 (D : Int)) := (Joins.cell_of_block HBX.out 3).trans rfl
  have HLN := Lib.hid fun k => (H.out.ln (W.drewN k) (belowN HBW.out k)).mono fun e w' ⟨h1, h2⟩ => (⟨h1, h2.symm⟩ : _ ∧ w' = W.drewN k)
  go_quiet (fail)
  go_wp2
  go_ret2
  exact ⟨rfl, belowN HBW.out _⟩

set_option maxHeartbeats 1600000 in
theorem grOpen_root {w : World} {pd : Nat} {l0 l1 : List UInt8} {size : Int} {G R N D : Nat} (h : OpenOn w pd l0 l1 size G R N D) (h0 : G ≠ 0) (hr : size ≤ (R : Int)) :
    Calls Tryz.prog 16 #[.pointer (some ⟨pd, 0, none⟩)] w fun e w' => e = .returned (.tuple #[.pointer none, .int .i64 18]) ∧ Below w.heap.size w w' := by
  have H := Lib.hid h
  have hb1 : (size == 0) = false := by rw [beq_eq_false_iff_ne]; have := h.pos; omega
  have HD : Hid (decide (G ≠ 0) = true) := Lib.hid (decide_eq_true h0)
  have d1 : decide (size ≤ (R : Int)) = true := decide_eq_true hr
  clear h h0
  generalize size = z at *
  go_enter Tryz.func16, Tryz.ntmps16
  go_wp2_with fail
  refine (H.out.ln _ (Below.refl _ _)).mono ?_; rintro e w1 ⟨rfl, rfl⟩
  go_wp2_with fail
  refine H.out.r0.mono ?_; rintro e w1 ⟨g, rfl, hg, hs, hb1⟩
  have HB1 := Lib.hid hb1
  have HS := Lib.hid hs
  clear hg hs hb1
  go_wp2_with fail
  refine (H.out.r1 _ HB1.out).mono ?_; rintro e w2 ⟨q, n, c, x, rfl, hq, hn, hnc, hc, hb2⟩
  have HB2 := Lib.hid (HB1.out.trans (hb2.mono HB1.out.size))
  have HS2 := Lib.hid (HS.out.below hb2)
  have HQ := Lib.hid hq
  have HN := Lib.hid hn
  have HNC := Lib.hid hnc
  have HC := Lib.hid hc
  clear hq hn hnc hc hb2
  go_wp2_with fail
  refine (H.out.nw _ _ _ _ _ HB2.out HS2.out HQ.out HN.out HNC.out HC.out).mono ?_; rintro e w3 ⟨he, hb3⟩
  rw [HD.out] at he
  subst he
  have HB3 := Lib.hid (HB2.out.trans (hb3.mono HB2.out.size))
  clear hb3
  obtain ⟨W, hW⟩ : ∃ W, W = w3.alloc (.cells #[.int .i64 (G : Int), .int .i64 (R : Int), .int .i64 (N : Int), .int .i64 (D : Int)] 57) := ⟨_, rfl⟩
  have hBX : W.heap[w3.heap.size]? = some (.cells #[.int .i64 (G : Int), .int .i64 (R : Int), .int .i64 (N : Int), .int .i64 (D : Int)] 57 (0, 0)) := by rw [hW]; exact heap_alloc_new w3 _
  have HBX := Lib.hid hBX
  have HBW : Hid (Below w.heap.size w W) := Lib.hid (by rw [hW]; exact HB3.out.alloc HB3.out.size _)
  clear hBX
  go_wp2_with fail
  rw [← hW]
  clear hW
  have g0 : W.cell? ⟨w3.heap.size, 0, none⟩ = some (.int .i64 (G : Int)) := (Joins.cell_of_block HBX.out 0).trans rfl
  have g1 : W.cell? ⟨w3.heap.size, 1, none⟩ = some (.int .i64 (R : Int)) := (Joins.cell_of_block HBX.out 1).trans rfl
  have g2 : W.cell? ⟨w3.heap.size, 2, none⟩ = some (.int .i64 (N : Int)) := (Joins.cell_of_block HBX.out 2).trans rfl
  have g3 : W.cell? ⟨w3.heap.size, 3, none⟩ = some (.int .i64 (D : Int)) := (Joins.cell_of_block HBX.out 3).trans rfl
  have HLN := Lib.hid fun k => (H.out.ln (W.drewN k) (belowN HBW.out k)).mono fun e w' ⟨h1, h2⟩ => (⟨h1, h2.symm⟩ : _ ∧ w' = W.drewN k)
  go_quiet (first | (go_at_call 39; with_reducible exact Calls.quiet_of_same (HLN.out _)))
  go_wp2
  go_ret2
  exact ⟨rfl, belowN HBW.out _⟩

/-- A pager that was just opened. -/
def PG.new (S : SD) (G R N D : Nat) : PG := ⟨S, FL.new 2 S.size, G, R, N, D, fun _ => false, [], false, false, false⟩
theorem GrIs.opened {w w' : World} {B pd lm fm pl um wm : Nat} {S : SD} {G R N D : Nat} (hd : DiskAt w B pd lm fm S) (hw : Below w.heap.size w w') (hl : FrIs w' pl um wm (FL.new 2 S.size)) (hu : w.heap.size ≤ um) (hm : w.heap.size ≤ wm) (hG : G ≤ 1152921504606846976) :
    GrIs ((w'.alloc (.map #[] 0)).alloc (.cells #[.pointer (some ⟨pd, 0, none⟩), .pointer (some ⟨pl, 0, none⟩), .int .i64 G, .int .i64 R, .int .i64 N, .int .i64 D, .map (some w'.heap.size), .slice none 0 0, .bool false, .bool false, .bool false] 63)) B (w'.heap.size + 1) pd lm fm pl um wm w'.heap.size (.slice none 0 0) (PG.new S G R N D) := by
  have hb := sbox2 w' (.map #[] 0) (.cells #[.pointer (some ⟨pd, 0, none⟩), .pointer (some ⟨pl, 0, none⟩), .int .i64 G, .int .i64 R, .int .i64 N, .int .i64 D, .map (some w'.heap.size), .slice none 0 0, .bool false, .bool false, .bool false] 63)
  have e1 : (w'.alloc (.map #[] 0)).heap.size = w'.heap.size + 1 := by simp
  have hBw := hd.base
  have hws := hw.size
  obtain ⟨l1, l2⟩ : lm < w.heap.size ∧ fm < w.heap.size := by
    obtain ⟨v, ms, fl, ff, h⟩ := hd
    exact ⟨h.ml.lt, h.mf.lt⟩
  have l3 := hl.mu.lt
  have l4 := hl.mw.lt
  refine ⟨?_, (hd.below hw).below hb, hl.below hb, ?_, World.ownsRow_nil _ B _ _, by omega, by omega, by omega, by omega, by omega, by omega, by omega, hG⟩
  · have := heap_alloc_new (w'.alloc (.map #[] 0)) (.cells #[.pointer (some ⟨pd, 0, none⟩), .pointer (some ⟨pl, 0, none⟩), .int .i64 G, .int .i64 R, .int .i64 N, .int .i64 D, .map (some w'.heap.size), .slice none 0 0, .bool false, .bool false, .bool false] 63)
    rw [e1] at this
    exact this
  · have e2 : setOf (fun _ => false) = fun _ => none := by funext k; simp [setOf]
    show MapSt _ _ (setOf fun _ => false)
    rw [e2]
    refine MapSt.new ?_
    rw [Below.heap_alloc _ _ _ (by omega)]
    exact heap_alloc_new w' _
def OpenedPost (w : World) (B pd : Nat) (X : PG) (e : Ending) (w' : World) : Prop :=
  ∃ P, e = .returned (.tuple #[.pointer (some ⟨P, 0, none⟩), .int .i64 0]) ∧ GrStep w w' B P pd X

set_option maxHeartbeats 3200000 in
theorem grOpen_yes {w : World} {B pd lm fm : Nat} {S S' : SD} {l0 l1 : List UInt8} {G R N D : Nat} (h : OpenOn w pd l0 l1 S.size G R N D) (hB : B ≤ w.heap.size) (h0 : G ≠ 0) (hG : G ≤ 1152921504606846976) (hr : (R : Int) < S.size) (hz : S'.size = S.size) (h2 : 2 ≤ S.size)
    (hM : ∀ w1, Below w.heap.size w w1 → Calls Tryz.prog 44 #[.pointer (some ⟨pd, 0, none⟩), .int .i64 (((G + 1) % 2 : Nat) : Int)] w1 fun e w' => e = .returned (.int .i64 0) ∧ DiskStep w1 w' B pd lm fm S') :
    Calls Tryz.prog 16 #[.pointer (some ⟨pd, 0, none⟩)] w (OpenedPost w B pd (PG.new S' G R N D)) := by
  have H := Lib.hid h
  have HMD := Lib.hid hM
  have hb1 : (S.size == 0) = false := by rw [beq_eq_false_iff_ne]; have := h.pos; omega
  have HD : Hid (decide (G ≠ 0) = true) := Lib.hid (decide_eq_true h0)
  have d1 : decide (S.size ≤ (R : Int)) = false := decide_eq_false (by omega)
  obtain ⟨m, hm⟩ : ∃ m : Int, m = (((G + 1) % 2 : Nat) : Int) := ⟨_, rfl⟩
  have hGm : ((G : Int) + 1) % 2 = m := by omega
  rw [← hm] at HMD
  clear hm
  have HZ := Lib.hid hz
  have H2 := Lib.hid h2
  have HBB := Lib.hid hB
  clear h h0 hM hz h2 hr hB
  obtain ⟨z, hz⟩ : ∃ z, z = S.size := ⟨_, rfl⟩
  rw [← hz] at H hb1 d1
  have HSZ := Lib.hid hz
  clear hz
  go_enter Tryz.func16, Tryz.ntmps16
  go_wp2_with fail
  refine (H.out.ln _ (Below.refl _ _)).mono ?_; rintro e w1 ⟨rfl, rfl⟩
  go_wp2_with fail
  refine H.out.r0.mono ?_; rintro e w1 ⟨g, rfl, hg, hs, hb1⟩
  have HB1 := Lib.hid hb1
  have HS := Lib.hid hs
  clear hg hs hb1
  go_wp2_with fail
  refine (H.out.r1 _ HB1.out).mono ?_; rintro e w2 ⟨q, n, c, x, rfl, hq, hn, hnc, hc, hb2⟩
  have HB2 := Lib.hid (HB1.out.trans (hb2.mono HB1.out.size))
  have HS2 := Lib.hid (HS.out.below hb2)
  have HQ := Lib.hid hq
  have HN := Lib.hid hn
  have HNC := Lib.hid hnc
  have HC := Lib.hid hc
  clear hq hn hnc hc hb2
  go_wp2_with fail
  refine (H.out.nw _ _ _ _ _ HB2.out HS2.out HQ.out HN.out HNC.out HC.out).mono ?_; rintro e w3 ⟨he, hb3⟩
  rw [HD.out] at he
  subst he
  have HB3 := Lib.hid (HB2.out.trans (hb3.mono HB2.out.size))
  clear hb3
  obtain ⟨W, hW⟩ : ∃ W, W = w3.alloc (.cells #[.int .i64 (G : Int), .int .i64 (R : Int), .int .i64 (N : Int), .int .i64 (D : Int)] 57) := ⟨_, rfl⟩
  have hBX : W.heap[w3.heap.size]? = some (.cells #[.int .i64 (G : Int), .int .i64 (R : Int), .int .i64 (N : Int), .int .i64 (D : Int)] 57 (0, 0)) := by rw [hW]; exact heap_alloc_new w3 _
  have HBX := Lib.hid hBX
  have HBW : Hid (Below w.heap.size w W) := Lib.hid (by rw [hW]; exact HB3.out.alloc HB3.out.size _)
  clear hBX
  go_wp2_with fail
  rw [← hW]
  clear hW
  have g0 : W.cell? ⟨w3.heap.size, 0, none⟩ = some (.int .i64 (G : Int)) := (Joins.cell_of_block HBX.out 0).trans rfl
  have g1 : W.cell? ⟨w3.heap.size, 1, none⟩ = some (.int .i64 (R : Int)) := (Joins.cell_of_block HBX.out 1).trans rfl
  have g2 : W.cell? ⟨w3.heap.size, 2, none⟩ = some (.int .i64 (N : Int)) := (Joins.cell_of_block HBX.out 2).trans rfl
  have g3 : W.cell? ⟨w3.heap.size, 3, none⟩ = some (.int .i64 (D : Int)) := (Joins.cell_of_block HBX.out 3).trans rfl
  have HLN := Lib.hid fun k => (H.out.ln (W.drewN k) (belowN HBW.out k)).mono fun e w' ⟨h1, h2⟩ => (⟨h1, h2.symm⟩ : _ ∧ w' = W.drewN k)
  go_quiet (first | (go_at_call 39; with_reducible exact Calls.quiet_of_same (HLN.out _)))
  go_wp2_with fail
  refine (HMD.out _ (belowN HBW.out _)).mono ?_; rintro e w4 ⟨rfl, hs⟩
  have HLN4 := Lib.hid (len_any hs.disk)
  have HS4 := Lib.hid (DiskStep.of ((belowN HBW.out _).mono HBB.out) (Keeps.below (belowN HBW.out _)) hs)
  have HX4 : Hid (w4.heap[w3.heap.size]? = some (.cells #[.int .i64 (G : Int), .int .i64 (R : Int), .int .i64 (N : Int), .int .i64 (D : Int)] 57 (0, 0))) := Lib.hid (hs.keeps.stay (by rw [(belowN (Below.refl W.heap.size W) nq).block _ (Array.getElem?_eq_some_iff.1 HBX.out).1]; exact HBX.out) rfl)
  rw [HZ.out, ← HSZ.out] at HLN4
  have HNEW := Lib.hid (frNew_yes (w := w4) (lo := 2) (hi := z) (by decide) (by have := HSZ.out; have := H2.out; omega) (by have := HSZ.out; have := hs.disk.ok.s2; have := HZ.out; omega))
  clear hs g0 g1 g2 g3 HLN
  go_wp2_with fail
  refine HLN4.out.mono ?_; rintro e w5 ⟨rfl, rfl⟩
  go_wp2_with fail
  refine HNEW.out.mono ?_; rintro e w6 ⟨pl, um, wm, rfl, hf, hb6, hpl, hum, hwm⟩
  have HFIN := Lib.hid (GrIs.opened (G := G) (R := R) (N := N) (D := D) HS4.out.disk hb6 (by rw [HZ.out, ← HSZ.out]; exact hf) hum hwm hG)
  have HB6 := Lib.hid hb6
  have g0 : w6.heap[w3.heap.size]? = some (.cells #[.int .i64 (G : Int), .int .i64 (R : Int), .int .i64 (N : Int), .int .i64 (D : Int)] 57 (0, 0)) := by rw [hb6.block _ (Array.getElem?_eq_some_iff.1 HX4.out).1]; exact HX4.out
  have c0 : w6.cell? ⟨w3.heap.size, 0, none⟩ = some (.int .i64 (G : Int)) := (Joins.cell_of_block g0 0).trans rfl
  have c1 : w6.cell? ⟨w3.heap.size, 1, none⟩ = some (.int .i64 (R : Int)) := (Joins.cell_of_block g0 1).trans rfl
  have c2 : w6.cell? ⟨w3.heap.size, 2, none⟩ = some (.int .i64 (N : Int)) := (Joins.cell_of_block g0 2).trans rfl
  have c3 : w6.cell? ⟨w3.heap.size, 3, none⟩ = some (.int .i64 (D : Int)) := (Joins.cell_of_block g0 3).trans rfl
  have hmm := @run_makeMap Tryz.prog
  clear hf hb6 hpl hum hwm g0
  go_wp2
  go_ret2
  have hb := fun o o' => HB6.out.trans ((sbox2 w6 o o').mono HB6.out.size)
  exact ⟨_, rfl, ⟨_, _, _, _, _, _, _, HFIN.out⟩, HS4.out.below.trans ((hb _ _).mono HS4.out.disk.base), (HS4.out.keeps.mono ofDisk_ofGr).trans (Keeps.below (hb _ _))⟩

end Go.Proofs.YtfpdcfomfikkiaaGreatDoor

set_option linter.unusedVariables false
set_option maxRecDepth 100000
namespace Go.Proofs.YtfpdcfomfikkiaaGreatDoor
open Go.RowKit

section
variable {w w' : World} {B P pd lm fm pl um wm la : Nat} {v : Value} {X : PG}

theorem GrIs.cell (h : GrIs w B P pd lm fm pl um wm la v X) (i : Nat) : w.cell? ⟨P, i, none⟩ = (grCells pd pl la v X)[i]? := Joins.cell_of_block h.blk i
theorem GrIs.c0 (h : GrIs w B P pd lm fm pl um wm la v X) : w.cell? ⟨P, 0, none⟩ = some (.pointer (some ⟨pd, 0, none⟩)) := h.cell 0
theorem GrIs.c1 (h : GrIs w B P pd lm fm pl um wm la v X) : w.cell? ⟨P, 1, none⟩ = some (.pointer (some ⟨pl, 0, none⟩)) := h.cell 1
theorem GrIs.c2 (h : GrIs w B P pd lm fm pl um wm la v X) : w.cell? ⟨P, 2, none⟩ = some (.int .i64 X.g) := h.cell 2
theorem GrIs.c3 (h : GrIs w B P pd lm fm pl um wm la v X) : w.cell? ⟨P, 3, none⟩ = some (.int .i64 X.r) := h.cell 3
theorem GrIs.c4 (h : GrIs w B P pd lm fm pl um wm la v X) : w.cell? ⟨P, 4, none⟩ = some (.int .i64 X.n) := h.cell 4
theorem GrIs.c5 (h : GrIs w B P pd lm fm pl um wm la v X) : w.cell? ⟨P, 5, none⟩ = some (.int .i64 X.d) := h.cell 5
theorem GrIs.c6 (h : GrIs w B P pd lm fm pl um wm la v X) : w.cell? ⟨P, 6, none⟩ = some (.map (some la)) := h.cell 6
theorem GrIs.c7 (h : GrIs w B P pd lm fm pl um wm la v X) : w.cell? ⟨P, 7, none⟩ = some v := h.cell 7
theorem GrIs.c8 (h : GrIs w B P pd lm fm pl um wm la v X) : w.cell? ⟨P, 8, none⟩ = some (.bool X.kept) := h.cell 8
theorem GrIs.c9 (h : GrIs w B P pd lm fm pl um wm la v X) : w.cell? ⟨P, 9, none⟩ = some (.bool X.laid) := h.cell 9
theorem GrIs.c10 (h : GrIs w B P pd lm fm pl um wm la v X) : w.cell? ⟨P, 10, none⟩ = some (.bool X.failed) := h.cell 10
theorem GrIs.soft (h : GrIs w B P pd lm fm pl um wm la v X) (i : Nat) : w.frozen? ⟨P, i, none⟩ = false := Joins.unfrozen_of_block h.blk i
theorem GrIs.made (h : GrIs w B P pd lm fm pl um wm la v X) : Calls Tryz.prog 18 #[.pointer (some ⟨P, 0, none⟩)] w fun e w' => e = .returned (.bool true) ∧ w = w' := grMade_yes h.c0

set_option maxHeartbeats 400000 in
theorem grNext (h : GrIs w B P pd lm fm pl um wm la v X) :
    Calls Tryz.prog 52 #[.pointer (some ⟨P, 0, none⟩)] w fun e w' => e = .returned (.int .i64 ((X.g : Int) + 1)) ∧ w = w' := by
  have c2 := h.c2
  have hg := h.g0
  clear h
  generalize X.g = g at *
  go_enter Tryz.func52, Tryz.ntmps52
  go_wp2
  go_ret
  exact ⟨rfl, rfl⟩

def PgReadPost (w : World) (kind : UInt8) (l : List UInt8) (e : Ending) (w' : World) : Prop :=
  ∃ v, e = .returned (.tuple #[.int .u8 (kind.toNat : Int), v, .int .i64 0]) ∧ Own w' w.heap.size v l ∧ Below w.heap.size w w'

set_option maxHeartbeats 800000 in
theorem grRead (hT : Tab w) (h : GrIs w B P pd lm fm pl um wm la v X) {k : Nat} (hs : X.F.st k ≠ 0) (hk : (k : Int) < X.S.size) {kind : UInt8} {gen : Nat} {l : List UInt8} (hp : X.S.read k = pageB kind k gen l) (hl : l.length ≤ 493) (hg : gen ≤ 1152921504606846976) :
    Calls Tryz.prog 56 #[.pointer (some ⟨P, 0, none⟩), .int .i64 (k : Int)] w (PgReadPost w kind l) := by
  have HM := Lib.hid h.made
  have c1 := h.c1
  have HST := Lib.hid (frState_any h.list k)
  have HR := Lib.hid fun w' hb => read_any (h.disk.below (w' := w') hb) (k := k) (by omega) hk
  have h96 := h.disk.ok.s2
  have HPL : Hid (512 = (pageB kind k gen l).length) := Lib.hid (pageB_length hl).symm
  have HO : Hid (∀ w1 g, Below w.heap.size w w1 → Sec w1 g (pageB kind k gen l) → Calls Tryz.prog 86 #[.slice (some ⟨g, 0, none⟩) 512 512, .int .i64 (k : Int)] w1 fun e w2 => ∃ v, e = .returned (.tuple #[.int .u8 (kind.toNat : Int), .int .i64 (gen : Int), v, .int .i64 0]) ∧ Own w2 w1.heap.size v l ∧ Below w1.heap.size w1 w2) := Lib.hid fun w1 g hb hsec => by
    refine (pOpen_any (hT.below hT.lt hb) hsec.bs HPL.out (Nat.le_refl _) (by omega) k).mono ?_
    have hz := page_right (kind := kind) (no := k) (gen := gen) hl (by omega) hg k
    rw [if_pos rfl] at hz
    obtain ⟨f1, f2, f3, f4, f5, _⟩ := page_fields (kind := kind) hl (no := k) (by omega) (gen := gen) (by omega)
    rintro e w2 (⟨h1, _⟩ | ⟨h1, u, v, hu, rfl, ho, hb2⟩)
    · exact absurd hz h1
    · rw [f1] at hu
      cases hu
      rw [f5] at ho
      rw [f3]
      exact ⟨v, rfl, ho, hb2⟩
  have hb0 : (X.F.st k == 0) = false := by rw [beq_eq_false_iff_ne]; exact hs
  have HC0 : Hid (∀ w', Below w.heap.size w w' → w'.cell? ⟨P, 0, none⟩ = some (.pointer (some ⟨pd, 0, none⟩))) := Lib.hid fun w' hb => (h.below hb).c0
  rw [hp] at HR
  clear h hs hk hp hT h96
  generalize pageB kind k gen l = pg at *
  generalize X.F.st k = st at *
  generalize (gen : Int) = gi at *
  generalize (k : Int) = kk at *
  go_enter Tryz.func56, Tryz.ntmps56
  go_wp2_with fail
  refine HM.out.mono ?_; rintro e w1 ⟨rfl, rfl⟩
  go_wp2_with fail
  refine HST.out.mono ?_; rintro e w1 ⟨rfl, hb1⟩
  have HB1 := Lib.hid hb1
  have c0 := HC0.out _ hb1
  clear hb1
  go_wp2_with fail
  refine (HR.out _ HB1.out).mono ?_; rintro e w2 ⟨g, rfl, hg, hsec, hb2⟩
  have HB2 := Lib.hid (HB1.out.trans (hb2.mono HB1.out.size))
  have HS2 := Lib.hid hsec
  clear hb2 hsec hg c0
  go_wp2_with fail
  refine (HO.out _ _ HB2.out HS2.out).mono ?_; rintro e w3 ⟨u, rfl, ho, hb3⟩
  have HB3 := Lib.hid (HB2.out.trans (hb3.mono HB2.out.size))
  have HO3 := Lib.hid (ho.le HB2.out.size)
  clear ho hb3
  go_wp2
  exact bodyPost_ret (v := .tuple #[.int .u8 (kind.toNat : Int), u, .int .i64 0]) (by simp [results, Tryz.results56, go_sem]) rfl ⟨u, rfl, HO3.out, HB3.out⟩
end

end Go.Proofs.YtfpdcfomfikkiaaGreatDoor

set_option linter.unusedVariables false
set_option maxRecDepth 100000
namespace Go.Proofs.YtfpdcfomfikkiaaGreatDoor
open Go.RowKit

theorem zeros_none (no : Int) : mE (zeros 512) no ≠ 0 := by
  intro h
  have h1 := (mE_zero.1 h).2.1
  simp [zeros] at h1
theorem zeros_mG (no : Int) : mG (zeros 512) no = 0 := (m_none (zeros_none no)).1
theorem pad_same {l : List UInt8} (h : l.length = 512) : pad l = l := by
  unfold pad zeros
  rw [h]
  simp
theorem SD.flush_read (S : SD) (k : Int) : S.flush.read k = S.read k := read_flush _ _ _
theorem SD.write_read (S : SD) (k : Int) (b : List UInt8) (j : Int) : (S.write k b).read j = if j = k then pad b else S.read j := by
  unfold SD.read SD.write
  rw [found_snoc]
  unfold putAt
  split <;> rfl
theorem SD.new_read (n k : Int) : (SD.new n).read k = zeros 512 := rfl

theorem mPage_pad (g r n d : Nat) : pad (mPage g r n d) = mPage g r n d := pad_same (mPage_length g r n d)

/-- What Newest tells, where a Meta is newer than what stands beside it. -/
theorem newest_is {a b : List UInt8} {g r n d : Nat} (h : MRight g r n d) (hz : (g % 2 = 0 ∧ a = mPage g r n d ∧ mG b 1 < g) ∨ (g % 2 = 1 ∧ b = mPage g r n d ∧ mG a 0 < g)) : newG a b = g ∧ newR a b = r ∧ newN a b = n ∧ newD a b = d := by
  unfold newG newR newN newD
  rcases hz with ⟨h0, rfl, hlt⟩ | ⟨h0, rfl, hlt⟩
  · obtain ⟨_, e1, e2, e3, e4⟩ := page_is h (no := 0) (by omega)
    rw [e1, e2, e3, e4]
    have : ¬ g < mG b 1 := by omega
    simp [this]
  · obtain ⟨_, e1, e2, e3, e4⟩ := page_is h (no := 1) (by omega)
    rw [e1, e2, e3, e4]
    simp [hlt]

/-- The disk behind Open. -/
noncomputable def openS (S : SD) (g : Nat) : SD := open Classical in if mE (S.read (((g + 1) % 2 : Nat) : Int)) (((g + 1) % 2 : Nat) : Int) = 0 then S else (S.write (((g + 1) % 2 : Nat) : Int) []).flush

theorem openS_left {S : SD} (h : S.left = -1) (g : Nat) : (openS S g).left = -1 := by
  unfold openS
  split
  · exact h
  · exact SD.tick_left (S := S.write _ _) (SD.tick_left h)
theorem openS_size (S : SD) (g : Nat) : (openS S g).size = S.size := by
  unfold openS
  split <;> rfl
theorem openS_ops (S : SD) (g : Nat) : (openS S g).ops ≤ S.ops + 2 := by
  unfold openS
  split
  · omega
  · show S.ops + 1 + 1 ≤ _; omega
/-- All but the sector of the other Meta is as it was. -/
theorem openS_read (S : SD) (g : Nat) {k : Int} (hk : k ≠ (((g + 1) % 2 : Nat) : Int)) : (openS S g).read k = S.read k := by
  unfold openS
  split
  · rfl
  · rw [SD.flush_read, SD.write_read, if_neg hk]

theorem grOpen_meta {w : World} (hT : Tab w) {B pd lm fm : Nat} {S : SD} (h : DiskAt w B pd lm fm S) (hB : B ≤ w.heap.size) (hl : S.left = -1) (ho : S.ops ≤ 999999990) (h2 : 2 ≤ S.size) {g r n d : Nat} (hm : MRight g r n d) (hr : (r : Int) < S.size)
    (hp : S.read ((g % 2 : Nat) : Int) = mPage g r n d) (hlt : mG (S.read (((g + 1) % 2 : Nat) : Int)) (((g + 1) % 2 : Nat) : Int) < g) :
    Calls Tryz.prog 16 #[.pointer (some ⟨pd, 0, none⟩)] w (OpenedPost w B pd (PG.new (openS S g) g r n d)) := by
  have hb := hm.b
  have hOn := openOn hT h
  obtain ⟨e1, e2, e3, e4⟩ := newest_is (a := S.read 0) (b := read1 S) hm (by
    unfold read1
    rw [if_pos (by omega)]
    rcases Nat.mod_two_eq_zero_or_one g with h0 | h0
    · refine .inl ⟨h0, ?_, ?_⟩
      · rw [← hp, h0]; rfl
      · have : (g + 1) % 2 = 1 := by omega
        rw [this] at hlt
        exact hlt
    · refine .inr ⟨h0, ?_, ?_⟩
      · rw [← hp, h0]; rfl
      · have : (g + 1) % 2 = 0 := by omega
        rw [this] at hlt
        exact hlt)
  rw [e1, e2, e3, e4] at hOn
  refine grOpen_yes (S := S) (S' := openS S g) (lm := lm) (fm := fm) hOn hB (by omega) (by omega) hr (openS_size S g) h2 fun w1 hb1 => ?_
  have h1 := h.below hb1
  have hT1 := hT.below hT.lt hb1
  have hno : (((g + 1) % 2 : Nat) : Int) = 0 ∨ (((g + 1) % 2 : Nat) : Int) = 1 := by omega
  unfold openS
  by_cases hE : mE (S.read (((g + 1) % 2 : Nat) : Int)) (((g + 1) % 2 : Nat) : Int) = 0
  · rw [if_pos hE]
    exact (grMend_there (mendOn hT1 h1 hno h2) hE).mono fun e w' ⟨he, hb'⟩ => ⟨he, h1.below hb', hb'.mono h1.base, Keeps.below hb'⟩
  · rw [if_neg hE]
    exact grMend_mend hT1 h1 hl ho hno h2 hE

/-- Open of a disk whose first sector has no bytes. -/
def Open1Post (w : World) (B pd : Nat) (S : SD) (e : Ending) (w' : World) : Prop :=
  ∃ a x lm fm S', e = .returned (.tuple #[.pointer a, .int .i64 x]) ∧ DiskAt w' B pd lm fm S' ∧ Below B w w' ∧ S'.size = S.size ∧ S'.left = -1 ∧ S'.ops ≤ S.ops + 2 ∧ (2 < S.size → a = none ∧ x = 18)

theorem grOpen_first {w : World} (hT : Tab w) {B pd lm fm : Nat} {S : SD} (h : DiskAt w B pd lm fm S) (hB : B ≤ w.heap.size) (hl : S.left = -1) (ho : S.ops ≤ 999999990) (h0 : S.read 0 = zeros 512) (h1 : 2 < S.size → S.read 1 = zeros 512) :
    Calls Tryz.prog 16 #[.pointer (some ⟨pd, 0, none⟩)] w (Open1Post w B pd S) := by
  have hOn := openOn hT h
  have hno : ∀ e w', (e = .returned (.tuple #[.pointer none, .int .i64 18]) ∧ Below w.heap.size w w') → Open1Post w B pd S e w' := by
    rintro e w' ⟨rfl, hb⟩
    exact ⟨none, 18, lm, fm, S, rfl, h.below hb, hb.mono hB, rfl, hl, by omega, fun _ => ⟨rfl, rfl⟩⟩
  have hs1 := h.ok.s1
  by_cases hG : newG (S.read 0) (read1 S) = 0
  · exact (grOpen_none hOn hG).mono hno
  · by_cases hr : S.size ≤ (newR (S.read 0) (read1 S) : Int)
    · exact (grOpen_root hOn hG hr).mono hno
    · -- the disk has two sectors, and the second one a Meta
      have hz : mG (S.read 0) 0 = 0 := by rw [h0]; exact zeros_mG 0
      have h2 : S.size = 2 := by
        rcases Int.lt_or_le 2 S.size with h3 | h3
        · exfalso
          apply hG
          have e : read1 S = zeros 512 := by unfold read1; rw [if_pos (show 1 < S.size by omega), h1 h3]
          unfold newG
          rw [e, hz, zeros_mG]
          simp
        · rcases Int.lt_or_le 1 S.size with h4 | h4
          · omega
          · exfalso
            apply hG
            have e : read1 S = [] := by unfold read1; rw [if_neg (show ¬ 1 < S.size by omega)]
            unfold newG
            rw [e, hz, (nil_not 1).1]
            simp
      have e1 : read1 S = S.read 1 := by unfold read1; rw [if_pos (by omega)]
      have hgt : newG (S.read 0) (read1 S) = mG (S.read 1) 1 := by
        unfold newG
        rw [hz, e1]
        split
        · rfl
        · omega
      have hne : mG (S.read 1) 1 ≠ 0 := by rw [← hgt]; exact hG
      have hE := m_gen.2 hne
      obtain ⟨f1, _⟩ := m_some hE
      obtain ⟨_, _, _, hodd, _, hR⟩ := mE_zero.1 hE
      have hb := hR.b
      have hpar : (newG (S.read 0) (read1 S) + 1) % 2 = 0 := by rw [hgt, f1]; omega
      refine (grOpen_yes (S := S) (S' := (S.write 0 []).flush) (lm := lm) (fm := fm) hOn hB hG (by rw [hgt, f1]; omega) (by omega) rfl (by omega) fun w1 hb1 => ?_).mono ?_
      · rw [hpar]
        exact grMend_mend (hT.below hT.lt hb1) (h.below hb1) hl ho (.inl rfl) (by omega) (by show mE (S.read 0) 0 ≠ 0; rw [h0]; exact zeros_none 0)
      · rintro e w' ⟨P, rfl, hs⟩
        obtain ⟨lm', fm', pl, um, wm, la, v, hg⟩ := hs.at_
        exact ⟨some ⟨P, 0, none⟩, 0, lm', fm', (S.write 0 []).flush, rfl, hg.disk, hs.below, rfl, SD.tick_left (S := S.write 0 []) (SD.tick_left hl), by show S.ops + 1 + 1 ≤ _; omega, fun h => by omega⟩

/-- A disk that was formatted. -/
theorem fmt_read {S : SD} : (fmtS S 2).flush.read 0 = mPage 2 0 1 1 ∧ (fmtS S 2).flush.read 1 = mPage 1 0 1 1 := by
  rw [SD.flush_read, SD.flush_read]
  show ((S.write 1 (mPage 1 0 1 1)).write 0 (mPage 2 0 1 1)).read 0 = _ ∧ ((S.write 1 (mPage 1 0 1 1)).write 0 (mPage 2 0 1 1)).read 1 = _
  refine ⟨?_, ?_⟩
  · rw [SD.write_read, if_pos rfl]
    exact mPage_pad _ _ _ _
  · rw [SD.write_read, if_neg (by decide), SD.write_read, if_pos rfl]
    exact mPage_pad _ _ _ _
theorem fmt_flush_left {S : SD} (h : S.left = -1) : (fmtS S 2).flush.left = -1 := SD.tick_left (fmtS_left h 2)

theorem grOpen_fmt {w : World} (hT : Tab w) {B pd lm fm : Nat} {S : SD} (h : DiskAt w B pd lm fm (fmtS S 2).flush) (hB : B ≤ w.heap.size) (hl : S.left = -1) (ho : S.ops ≤ 999999980) (h4 : 4 ≤ S.size) :
    Calls Tryz.prog 16 #[.pointer (some ⟨pd, 0, none⟩)] w (OpenedPost w B pd (PG.new (fmtS S 2).flush 2 0 1 1)) := by
  obtain ⟨r0, r1⟩ := fmt_read (S := S)
  have hm1 : MRight (1 : Nat) (0 : Nat) (1 : Nat) (1 : Nat) := fmt_right (by omega) (by omega)
  have hm2 : MRight (2 : Nat) (0 : Nat) (1 : Nat) (1 : Nat) := fmt_right (by omega) (by omega)
  obtain ⟨q1, q2, _⟩ := page_is hm1 (no := 1) rfl
  have hz : (fmtS S 2).flush.size = S.size := fmtS_size (S := S) 2
  have h1 := grOpen_meta hT h hB (fmt_flush_left hl) (by show (fmtS S 2).ops + 1 ≤ _; have := (fmtS_ops (S := S) 2).1; omega) (by omega) hm2 (by rw [hz]; show (0 : Int) < _; omega) r0 (by
    show mG ((fmtS S 2).flush.read 1) 1 < 2
    rw [r1, q2]
    decide)
  have e : openS (fmtS S 2).flush 2 = (fmtS S 2).flush := by
    have hx : mE ((fmtS S 2).flush.read (((2 + 1) % 2 : Nat) : Int)) (((2 + 1) % 2 : Nat) : Int) = 0 := by
      show mE ((fmtS S 2).flush.read 1) 1 = 0
      rw [r1]
      exact q1
    exact if_pos hx
  rwa [e] at h1

end Go.Proofs.YtfpdcfomfikkiaaGreatDoor

