/-
  sector.do: an operation is counted, and done.
-/
import Derived.Test.YtholgkmlfgmhfaaSNew
set_option linter.unusedVariables false
set_option maxRecDepth 100000
namespace Go.Proofs.Ytholgkmlfgmhfaa
open Go.RowKit

set_option maxHeartbeats 400000 in
theorem do_cut {w : World} {B p : Nat} {S : SD} (h : DiskAt w B p S) (h0 : S.left = 0) (op : Value) :
    Calls Try.prog 27 #[.pointer (some ⟨p, 0, none⟩), op] w fun e w' => e = .returned (.int .i64 17) ∧ w = w' := by
  obtain ⟨lm, fm, v, ms, fl, ff, h⟩ := h
  have c4 : w.cell? ⟨p, 4, none⟩ = some (.int .i64 0) := by rw [Joins.cell_of_block h.blk, ← h0]; rfl
  clear h h0
  go_enter Try.func27, Try.ntmps27
  go_wp2
  go_ret
  exact ⟨rfl, rfl⟩

set_option maxHeartbeats 1600000 in
theorem do_any {w : World} {B p : Nat} {S : SD} (h : DiskAt w B p S) (h0 : S.left ≠ 0) (hl : -1 ≤ S.left) (hu : S.left ≤ 9223372036854775807) (ho : S.ops ≤ 1000000000) (hBw : B ≤ w.heap.size)
    {fn : FuncId} {caps : Array Value} (eg : ∀ args (w : World), (callFunc fn args).run Try.prog w = .ok (.enter fn args) w) {R : World → Prop}
    (H : ∀ w1, DiskAt w1 B p S.tick → Below B w w1 → Keeps ofDisk w w1 → Calls Try.prog fn caps w1 fun e w2 => e = .returned (.tuple #[]) ∧ R w2) :
    Calls Try.prog 27 #[.pointer (some ⟨p, 0, none⟩), .func (.func fn) #[] caps] w fun e w' => e = .returned (.int .i64 0) ∧ R w' := by
  obtain ⟨lm, fm, v, ms, fl, ff, h⟩ := h
  have o0 := h.ok.o1
  have c4 : w.cell? ⟨p, 4, none⟩ = some (.int .i64 S.left) := by rw [Joins.cell_of_block h.blk]; rfl
  have c5 : w.cell? ⟨p, 5, none⟩ = some (.int .i64 S.ops) := by rw [Joins.cell_of_block h.blk]; rfl
  have u4 : ∀ i, w.frozen? ⟨p, i, none⟩ = false := fun i => Joins.unfrozen_of_block h.blk i
  have hHid := Lib.hid H
  have d0 : decide (S.left = 0) = false := decide_eq_false h0
  by_cases hp : 0 < S.left
  · have hd : decide (0 < S.left) = true := decide_eq_true hp
    have hfin : ∀ w1, w1 = ((w.setCell ⟨p, 4, none⟩ (.int .i64 (S.left - 1))).setCell ⟨p, 5, none⟩ (.int .i64 (S.ops + 1))) → Calls Try.prog fn caps w1 fun e w2 => e = .returned (.tuple #[]) ∧ R w2 := by
      rintro w1 rfl
      obtain ⟨b1, g1⟩ := cell_set (i := 4) (v := .int .i64 (S.left - 1)) h.blk
      obtain ⟨b2, g2⟩ := cell_set (i := 5) (v := .int .i64 (S.ops + 1)) b1
      have g := g1.trans g2
      obtain ⟨q1, q2⟩ := disk_step g h.blk (ofDisk_own _ _) h.hp hBw
      refine H _ ⟨lm, fm, v, ms, fl, ff, ?_⟩ q1 q2
      have := h.count g (l := S.left - 1) (o := S.ops + 1) (by simpa using b2) (by omega)
      have e : S.tick = { S with left := S.left - 1, ops := S.ops + 1 } := by simp [SD.tick, hp]
      rw [e]
      exact this
    have HF := Lib.hid hfin
    clear hfin h H
    generalize S.left = l at *
    generalize S.ops = o at *
    go_enter Try.func27, Try.ntmps27
    go_wp2_with fail
    refine (HF.out _ rfl).mono ?_; rintro e w2 ⟨rfl, hr⟩
    have HR := Lib.hid hr
    clear hr
    go_wp2
    go_ret
    exact ⟨rfl, HR.out⟩
  · have hd : decide (0 < S.left) = false := decide_eq_false hp
    have hfin : ∀ w1, w1 = (w.setCell ⟨p, 5, none⟩ (.int .i64 (S.ops + 1))) → Calls Try.prog fn caps w1 fun e w2 => e = .returned (.tuple #[]) ∧ R w2 := by
      rintro w1 rfl
      obtain ⟨b2, g⟩ := cell_set (i := 5) (v := .int .i64 (S.ops + 1)) h.blk
      obtain ⟨q1, q2⟩ := disk_step g h.blk (ofDisk_own _ _) h.hp hBw
      refine H _ ⟨lm, fm, v, ms, fl, ff, ?_⟩ q1 q2
      have := h.count g (l := S.left) (o := S.ops + 1) (by simpa using b2) (by omega)
      have e : S.tick = { S with left := S.left, ops := S.ops + 1 } := by simp [SD.tick, hp]
      rw [e]
      exact this
    have HF := Lib.hid hfin
    clear hfin h H
    generalize S.left = l at *
    generalize S.ops = o at *
    go_enter Try.func27, Try.ntmps27
    go_wp2_with fail
    refine (HF.out _ rfl).mono ?_; rintro e w2 ⟨rfl, hr⟩
    have HR := Lib.hid hr
    clear hr
    go_wp2
    go_ret
    exact ⟨rfl, HR.out⟩

end Go.Proofs.Ytholgkmlfgmhfaa
