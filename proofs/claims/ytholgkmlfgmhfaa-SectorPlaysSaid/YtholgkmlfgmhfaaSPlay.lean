/-
  Both disks side by side: what each call answers, and that both stay the same.
-/
import Derived.Test.YtholgkmlfgmhfaaSActs
import Derived.Test.YtholgkmlfgmhfaaSRefW
import Derived.Test.YtholgkmlfgmhfaaSRefC
set_option linter.unusedVariables false
set_option maxRecDepth 100000
namespace Go.Proofs.Ytholgkmlfgmhfaa
open Go.RowKit

theorem ref_disk (o : Obj) (h : ofRef o = true) : ofDisk o = false := by
  cases o with
  | cells c t f =>
    have h' : (t == 42 || t == 69 || t == 30) = true := h
    rw [Bool.or_eq_true, Bool.or_eq_true, beq_iff_eq, beq_iff_eq, beq_iff_eq] at h'
    show (t == 53 || t == 66) = false
    rcases h' with (rfl | rfl) | rfl
    · decide
    · decide
    · decide
  | _ => cases h
theorem disk_ref (o : Obj) (h : ofDisk o = true) : ofRef o = false := by
  cases hr : ofRef o with
  | false => rfl
  | true => rw [ref_disk o hr] at h; cases h
theorem ofDisk_act (c : Array Value) (f : Nat × Nat) : ofDisk (.cells c 33 f) = false := by
  show ((33 : TypeId) == 53 || (33 : TypeId) == 66) = false
  decide
theorem ofRef_act (c : Array Value) (f : Nat × Nat) : ofRef (.cells c 33 f) = false := by
  show ((33 : TypeId) == 42 || (33 : TypeId) == 69 || (33 : TypeId) == 30) = false
  decide

/-- What Write tells, and the disk behind it. -/
def wrS (S : SD) (k : Int) (b : List UInt8) : SD × Int := if 0 ≤ k ∧ k < S.size ∧ b.length ≤ 512 then (if S.left = 0 then (S, 17) else (S.write k b, 0)) else (S, 2)
def flS (S : SD) : SD × Int := if S.left = 0 then (S, 17) else (S.flush, 0)

/-- Both disks, behind i acts. -/
structure PlI (w wr : World) (p p' : Nat) (S : SD) (i : Nat) : Prop where
  d : DiskAt wr w.heap.size p S
  r : RefAt wr w.heap.size p' S
  below : Below w.heap.size w wr
  l1 : -1 ≤ S.left
  l2 : S.left ≤ 9223372036854775807
  o : S.ops ≤ i
theorem PlI.on {w wr w' : World} {p p' : Nat} {S : SD} {i : Nat} (h : PlI w wr p p' S i) (hb : Below wr.heap.size wr w') : PlI w w' p p' S i := ⟨h.d.below hb, h.r.below hb, h.below.trans (hb.mono h.below.size), h.l1, h.l2, h.o⟩
theorem PlI.next {w wr : World} {p p' : Nat} {S : SD} {i : Nat} (h : PlI w wr p p' S i) : PlI w wr p p' S (i + 1) := ⟨h.d, h.r, h.below, h.l1, h.l2, by have := h.o; omega⟩

theorem tick_bounds {S : SD} (l1 : -1 ≤ S.left) (l2 : S.left ≤ 9223372036854775807) : -1 ≤ S.tick.left ∧ S.tick.left ≤ 9223372036854775807 ∧ S.tick.ops = S.ops + 1 := by
  refine ⟨?_, ?_, rfl⟩
  · show -1 ≤ (if 0 < S.left then S.left - 1 else S.left)
    split <;> omega
  · show (if 0 < S.left then S.left - 1 else S.left) ≤ _
    split <;> omega
theorem wrS_bounds {S : SD} {k : Int} {b : List UInt8} {i : Nat} (l1 : -1 ≤ S.left) (l2 : S.left ≤ 9223372036854775807) (o : S.ops ≤ i) : -1 ≤ (wrS S k b).1.left ∧ (wrS S k b).1.left ≤ 9223372036854775807 ∧ (wrS S k b).1.ops ≤ (i + 1 : Nat) := by
  have h := tick_bounds l1 l2
  unfold wrS
  split
  · split
    · exact ⟨l1, l2, by show S.ops ≤ _; omega⟩
    · exact ⟨h.1, h.2.1, by show S.ops + 1 ≤ _; omega⟩
  · exact ⟨l1, l2, by show S.ops ≤ _; omega⟩
theorem flS_bounds {S : SD} {i : Nat} (l1 : -1 ≤ S.left) (l2 : S.left ≤ 9223372036854775807) (o : S.ops ≤ i) : -1 ≤ (flS S).1.left ∧ (flS S).1.left ≤ 9223372036854775807 ∧ (flS S).1.ops ≤ (i + 1 : Nat) := by
  have h := tick_bounds l1 l2
  unfold flS
  split
  · exact ⟨l1, l2, by show S.ops ≤ _; omega⟩
  · exact ⟨h.1, h.2.1, by show S.ops + 1 ≤ _; omega⟩

theorem DiskStep.same {w w' : World} {B p : Nat} {S : SD} (h : DiskAt w B p S) (hb : Below w.heap.size w w') : DiskStep w w' B p S := ⟨h.below hb, hb.mono h.base, Keeps.below hb⟩
theorem RefStep.same {w w' : World} {B p : Nat} {S : SD} (h : RefAt w B p S) (e : w = w') : RefStep w w' B p S := by subst e; exact ⟨h, Below.refl _ _, Keeps.refl _ _⟩

theorem xwrite {w : World} {B p : Nat} {S : SD} (h : DiskAt w B p S) (l1 : -1 ≤ S.left) (l2 : S.left ≤ 9223372036854775807) (ho : S.ops ≤ 999999999) (k : Int) {q : Option Addr} {n : Nat} (c : Nat) {b : List UInt8} (hb : Bytes w B q b) (hn : n = b.length) :
    Calls Try.prog 11 #[.pointer (some ⟨p, 0, none⟩), .int .i64 k, .slice q n c] w fun e w' => e = .returned (.int .i64 (wrS S k b).2) ∧ DiskStep w w' B p (wrS S k b).1 := by
  unfold wrS
  split
  · rename_i hk
    split
    · rename_i h0
      exact (write_cut h h0 hk.1 hk.2.1 q n c (by rw [hn]; exact hk.2.2)).mono fun e w' ⟨he, hb⟩ => ⟨he, DiskStep.same h hb⟩
    · rename_i h0
      exact write_any h h0 l1 l2 ho hk.1 hk.2.1 c hb hn hk.2.2
  · rename_i hk
    exact (write_bad h q n c (by rw [hn]; exact hk)).mono fun e w' ⟨he, hb⟩ => ⟨he, DiskStep.same h hb⟩
theorem ywrite {w : World} {B p : Nat} {S : SD} (h : RefAt w B p S) (l1 : -1 ≤ S.left) (l2 : S.left ≤ 9223372036854775807) (ho : S.ops ≤ 999999999) (k : Int) {q : Option Addr} {n : Nat} (c : Nat) {b : List UInt8} (hb : ∀ w', Below B w w' → Keeps ofRef w w' → Bs w' q b) (hn : n = b.length) (hq : q = none → c = 0) :
    Calls Try.prog 12 #[.pointer (some ⟨p, 0, none⟩), .int .i64 k, .slice q n c] w fun e w' => e = .returned (.int .i64 (wrS S k b).2) ∧ RefStep w w' B p (wrS S k b).1 := by
  unfold wrS
  split
  · rename_i hk
    split
    · rename_i h0
      exact (rwrite_cut h h0 hk.1 hk.2.1 q n c (by rw [hn]; exact hk.2.2)).mono fun e w' ⟨he, hb⟩ => ⟨he, RefStep.same h hb⟩
    · rename_i h0
      exact rwrite_any h h0 l1 l2 ho hk.1 hk.2.1 c hb hn hk.2.2 hq
  · rename_i hk
    exact (rwrite_bad h q n c (by rw [hn]; exact hk)).mono fun e w' ⟨he, hb⟩ => ⟨he, RefStep.same h hb⟩
theorem xflush {w : World} {B p : Nat} {S : SD} (h : DiskAt w B p S) (l1 : -1 ≤ S.left) (l2 : S.left ≤ 9223372036854775807) (ho : S.ops ≤ 1000000000) :
    Calls Try.prog 13 #[.pointer (some ⟨p, 0, none⟩)] w fun e w' => e = .returned (.int .i64 (flS S).2) ∧ DiskStep w w' B p (flS S).1 := by
  unfold flS
  split
  · rename_i h0
    exact (flush_cut h h0).mono fun e w' ⟨he, hb⟩ => ⟨he, DiskStep.same h hb⟩
  · rename_i h0
    exact flush_any h h0 l1 l2 ho
theorem yflush {w : World} {B p : Nat} {S : SD} (h : RefAt w B p S) (l1 : -1 ≤ S.left) (l2 : S.left ≤ 9223372036854775807) (ho : S.ops ≤ 1000000000) :
    Calls Try.prog 14 #[.pointer (some ⟨p, 0, none⟩)] w fun e w' => e = .returned (.int .i64 (flS S).2) ∧ RefStep w w' B p (flS S).1 := by
  unfold flS
  split
  · rename_i h0
    exact (rflush_cut h h0).mono fun e w' ⟨he, hb⟩ => ⟨he, RefStep.same h hb⟩
  · rename_i h0
    exact rflush_any h h0 l1 l2 ho

theorem RefAt.x {w w' : World} {B p p' : Nat} {S T : SD} (h : RefAt w B p' S) (hs : DiskStep w w' B p T) : RefAt w' B p' S := h.keeps hs.keeps (fun o ho => ref_disk o ho) ofDisk_u8
theorem DiskAt.y {w w' : World} {B p p' : Nat} {S T : SD} (h : DiskAt w B p S) (hs : RefStep w w' B p' T) : DiskAt w' B p S := h.keeps hs.keeps (fun o ho => disk_ref o ho) ofRef_u8

/-- y.Left = n -/
theorem ref_left {w : World} {B p : Nat} {S : SD} (h : RefAt w B p S) (x : Int) : RefStep w (w.setCell ⟨p, 2, none⟩ (.int .i64 x)) B p { S with left := x } := by
  have hB := h.base
  obtain ⟨lv, wv, Ls, ms, h⟩ := h
  obtain ⟨b1, g1⟩ := cell_set (i := 2) (v := .int .i64 x) h.blk
  have q := ref_step g1 h.blk (ofRef_own _ _) h.hp hB
  exact ⟨⟨lv, wv, Ls, ms, h.count g1 (l := x) (o := S.ops) (by simpa using b1) (Int.le_refl _)⟩, q.1, q.2⟩

/-- What the law asks of the document's disk. -/
theorem ref_cells {w : World} {B p : Nat} {S : SD} (h : RefAt w B p S) : ∃ lq ln lc wq wn wc, w.cell? ⟨p, 0, none⟩ = some (.slice lq ln lc) ∧ w.cell? ⟨p, 1, none⟩ = some (.slice wq wn wc) ∧ w.cell? ⟨p, 2, none⟩ = some (.int .i64 S.left) ∧ w.cell? ⟨p, 3, none⟩ = some (.int .i64 S.ops) ∧ (∀ i, w.frozen? ⟨p, i, none⟩ = false) ∧ (ln : Int) = S.size ∧ wn = S.waits.length := by
  obtain ⟨lv, wv, Ls, ms, h⟩ := h
  obtain ⟨lq, ln, lc, wq, wn, wc, rfl, rfl, hm⟩ := h.mem
  exact ⟨lq, ln, lc, wq, wn, wc, hm.c0, hm.c1, (Joins.cell_of_block h.blk 2).trans rfl, (Joins.cell_of_block h.blk 3).trans rfl, fun i => Joins.unfrozen_of_block h.blk i, by rw [hm.lh]; exact h.ln, by rw [h.ws, List.length_map]; exact hm.wh⟩

end Go.Proofs.Ytholgkmlfgmhfaa
