/-
  sector.Write, of a disk that a call made.
-/
import Derived.Test.YtholgkmlfgmhfaaSWrite
set_option linter.unusedVariables false
set_option maxRecDepth 100000
namespace Go.Proofs.Ytholgkmlfgmhfaa
open Go.RowKit

/-- Bytes that stay while a disk changes. -/
def Bytes (w : World) (B : Nat) (q : Option Addr) (b : List UInt8) : Prop := ∀ w', Below B w w' → Keeps ofDisk w w' → Bs w' q b
theorem Bytes.on {w w' : World} {B : Nat} {q : Option Addr} {b : List UInt8} (h : Bytes w B q b) (h1 : Below B w w') (h2 : Keeps ofDisk w w') : Bytes w' B q b := fun w2 h3 h4 => h w2 (h1.trans h3) (h2.trans h4)
theorem Bytes.bs {w : World} {B : Nat} {q : Option Addr} {b : List UInt8} (h : Bytes w B q b) : Bs w q b := h w (Below.refl _ _) (Keeps.refl _ _)
theorem Bytes.below {w w' : World} {B : Nat} {q : Option Addr} {b : List UInt8} (h : Bytes w B q b) (hB : B ≤ w.heap.size) (hb : Below w.heap.size w w') : Bytes w' B q b := h.on (hb.mono hB) (Keeps.below hb)
theorem Bytes.nil (w : World) (B : Nat) (q : Option Addr) : Bytes w B q [] := fun _ _ _ => Bs.nil _ _
/-- What lay there when the call began stays. -/
theorem Bytes.arg {W w : World} {q : Option Addr} {b : List UInt8} (h : Bs W q b) (hb : Below W.heap.size W w) : Bytes w W.heap.size q b := fun w' h1 _ => h.below (hb.trans h1)
theorem Bytes.sec {w : World} {B g : Nat} {b : List UInt8} (h : Sec w g b) : Bytes w B (some ⟨g, 0, none⟩) b := fun w' _ h2 => Sec.bs (h2.stay h (ofDisk_u8 _ _))
theorem Bytes.take {w : World} {B : Nat} {q : Option Addr} {b : List UInt8} (h : Bytes w B q b) (n : Nat) : Bytes w B q (b.take n) := fun w' h1 h2 => (h w' h1 h2).take n

theorem wr_boxes (w : World) (p : Nat) (k : Int) (q : Option Addr) (n c : Nat) :
    WrBox (((w.alloc (.cells #[.pointer (some ⟨p, 0, none⟩)] 23)).alloc (.cells #[.int .i64 k] 3)).alloc (.cells #[.slice q n c] 30)) p (w.heap.size + 1) (w.heap.size + 2) w.heap.size k q n c := by
  obtain ⟨h1, h2, h3, _⟩ := sbox3_heap w (.cells #[.pointer (some ⟨p, 0, none⟩)] 23) (.cells #[.int .i64 k] 3) (.cells #[.slice q n c] 30)
  exact ⟨h2, h3, h1⟩

set_option maxHeartbeats 800000 in
theorem write_cut {w : World} {B p : Nat} {S : SD} (h : DiskAt w B p S) (h0 : S.left = 0) {k : Int} (hk0 : 0 ≤ k) (hk1 : k < S.size) (q : Option Addr) (n c : Nat) (hn : n ≤ 512) :
    Calls Try.prog 11 #[.pointer (some ⟨p, 0, none⟩), .int .i64 k, .slice q n c] w fun e w' => e = .returned (.int .i64 17) ∧ Below w.heap.size w w' := by
  have HM := Lib.hid fun w' hb => made_at (h.below (w' := w') hb)
  have HH : Hid (∀ w', Below w.heap.size w w' → Calls Try.prog 26 #[.pointer (some ⟨p, 0, none⟩), .int .i64 k] w' fun e w2 => e = .returned (.bool true) ∧ w' = w2) := Lib.hid fun w' hb => (has_at (h.below (w' := w') hb) k).mono fun e w2 ⟨he, hw⟩ => ⟨by rw [he, decide_eq_true hk0, decide_eq_true hk1]; rfl, hw⟩
  have HD := Lib.hid fun w' hb op => do_cut (h.below (w' := w') hb) h0 op
  clear h h0 hk0 hk1
  have hd : decide ((512 : Int) < (n : Int)) = false := decide_eq_false (by omega)
  go_enter Try.func11, Try.ntmps11
  go_wp2_with fail
  refine (HM.out _ (sbox3 _ _ _ _)).mono ?_; rintro e w1 ⟨rfl, rfl⟩
  go_wp2_with fail
  refine (HH.out _ (sbox3 _ _ _ _)).mono ?_; rintro e w1 ⟨rfl, rfl⟩
  go_wp2_with fail
  refine (HD.out _ (sbox3 _ _ _ _) _).mono ?_; rintro e w1 ⟨rfl, rfl⟩
  go_wp2
  go_ret
  exact ⟨rfl, sbox3 _ _ _ _⟩

set_option maxHeartbeats 800000 in
theorem write_any {w : World} {B p : Nat} {S : SD} (h : DiskAt w B p S) (h0 : S.left ≠ 0) (hl : -1 ≤ S.left) (hu : S.left ≤ 9223372036854775807) (ho : S.ops ≤ 999999999) {k : Int} (hk0 : 0 ≤ k) (hk1 : k < S.size)
    {q : Option Addr} {n : Nat} (c : Nat) {b : List UInt8} (hb : Bytes w B q b) (hn : n = b.length) (h5 : b.length ≤ 512) :
    Calls Try.prog 11 #[.pointer (some ⟨p, 0, none⟩), .int .i64 k, .slice q n c] w fun e w' => e = .returned (.int .i64 0) ∧ DiskStep w w' B p (S.write k b) := by
  have hB := h.base
  have HM := Lib.hid fun w' hb => made_at (h.below (w' := w') hb)
  have HH : Hid (∀ w', Below w.heap.size w w' → Calls Try.prog 26 #[.pointer (some ⟨p, 0, none⟩), .int .i64 k] w' fun e w2 => e = .returned (.bool true) ∧ w' = w2) := Lib.hid fun w' hb => (has_at (h.below (w' := w') hb) k).mono fun e w2 ⟨he, hw⟩ => ⟨by rw [he, decide_eq_true hk0, decide_eq_true hk1]; rfl, hw⟩
  have HD : Hid (∀ w1, Below w.heap.size w w1 → WrBox w1 p (w.heap.size + 1) (w.heap.size + 2) w.heap.size k q n c →
      Calls Try.prog 27 #[.pointer (some ⟨p, 0, none⟩), .func (.func 28) #[] #[.pointer (some ⟨w.heap.size + 1, 0, none⟩), .pointer (some ⟨w.heap.size + 2, 0, none⟩), .pointer (some ⟨w.heap.size, 0, none⟩)]] w1 fun e w' => e = .returned (.int .i64 0) ∧ DiskStep w w' B p (S.write k b)) := Lib.hid fun w1 hb1 hbx =>
    do_any (h.below hb1) h0 hl hu (by omega) (Nat.le_trans hB hb1.size) (fun _ _ => rfl) (fun w2 hd2 hb2 hk2 => (write1_any hd2 hd2.base (hbx.keeps hk2) (hb w2 ((hb1.mono hB).trans hb2) ((Keeps.below hb1).trans hk2)) hn h5 hk0 hk1 (by have := h.ok.n; show (S.waits.length : Int) < S.ops + 1; omega) (by show S.ops + 1 ≤ 1000000000; omega)).mono fun e w3 ⟨he, hs⟩ =>
      ⟨he, DiskStep.of ((hb1.mono hB).trans hb2) ((Keeps.below hb1).trans hk2) hs⟩)
  clear h h0 hl hu hB hb hk0 hk1 ho
  have hd : decide ((512 : Int) < (n : Int)) = false := decide_eq_false (by omega)
  clear hn h5
  go_enter Try.func11, Try.ntmps11
  go_wp2_with fail
  refine (HM.out _ (sbox3 _ _ _ _)).mono ?_; rintro e w1 ⟨rfl, rfl⟩
  go_wp2_with fail
  refine (HH.out _ (sbox3 _ _ _ _)).mono ?_; rintro e w1 ⟨rfl, rfl⟩
  go_wp2_with fail
  refine (HD.out _ (sbox3 _ _ _ _) (wr_boxes _ _ _ _ _ _)).mono ?_; rintro e w1 ⟨rfl, hs⟩
  have HS := Lib.hid hs
  clear hs
  go_wp2
  go_ret
  exact ⟨rfl, HS.out⟩

set_option maxHeartbeats 800000 in
theorem write_bad {w : World} {B p : Nat} {S : SD} (h : DiskAt w B p S) {k : Int} (q : Option Addr) (n c : Nat) (hk : ¬ (0 ≤ k ∧ k < S.size ∧ n ≤ 512)) :
    Calls Try.prog 11 #[.pointer (some ⟨p, 0, none⟩), .int .i64 k, .slice q n c] w fun e w' => e = .returned (.int .i64 2) ∧ Below w.heap.size w w' := by
  have HM := Lib.hid fun w' hb => made_at (h.below (w' := w') hb)
  by_cases hin : 0 ≤ k ∧ k < S.size
  · have HH : Hid (∀ w', Below w.heap.size w w' → Calls Try.prog 26 #[.pointer (some ⟨p, 0, none⟩), .int .i64 k] w' fun e w2 => e = .returned (.bool true) ∧ w' = w2) := Lib.hid fun w' hb => (has_at (h.below (w' := w') hb) k).mono fun e w2 ⟨he, hw⟩ => ⟨by rw [he, decide_eq_true hin.1, decide_eq_true hin.2]; rfl, hw⟩
    have hd : decide ((512 : Int) < (n : Int)) = true := decide_eq_true (by have : ¬ n ≤ 512 := fun h => hk ⟨hin.1, hin.2, h⟩; omega)
    clear h hk hin
    go_enter Try.func11, Try.ntmps11
    go_wp2_with fail
    refine (HM.out _ (sbox3 _ _ _ _)).mono ?_; rintro e w1 ⟨rfl, rfl⟩
    go_wp2_with fail
    refine (HH.out _ (sbox3 _ _ _ _)).mono ?_; rintro e w1 ⟨rfl, rfl⟩
    go_wp2
    go_ret
    exact ⟨rfl, sbox3 _ _ _ _⟩
  · have HH : Hid (∀ w', Below w.heap.size w w' → Calls Try.prog 26 #[.pointer (some ⟨p, 0, none⟩), .int .i64 k] w' fun e w2 => e = .returned (.bool false) ∧ w' = w2) := Lib.hid fun w' hb => (has_at (h.below (w' := w') hb) k).mono fun e w2 ⟨he, hw⟩ => ⟨by
      have : (decide (0 ≤ k) && decide (k < S.size)) = false := by
        rw [Bool.and_eq_false_iff, decide_eq_false_iff_not, decide_eq_false_iff_not]
        omega
      rw [he, this], hw⟩
    clear h hk hin
    go_enter Try.func11, Try.ntmps11
    go_wp2_with fail
    refine (HM.out _ (sbox3 _ _ _ _)).mono ?_; rintro e w1 ⟨rfl, rfl⟩
    go_wp2_with fail
    refine (HH.out _ (sbox3 _ _ _ _)).mono ?_; rintro e w1 ⟨rfl, rfl⟩
    go_wp2
    go_ret
    exact ⟨rfl, sbox3 _ _ _ _⟩

end Go.Proofs.Ytholgkmlfgmhfaa
