/-
  Read's reader: one box that holds the rest of a text; take, cut.
-/
import Derived.Test.YtckmajcophpddaaDoorShelf
import Derived.Test.YtckmajcophpddaaDoorBytes
import Derived.WalkLawsBesides
import Derived.RangeFuncBox
set_option linter.unusedVariables false
set_option linter.unusedSimpArgs false
set_option maxRecDepth 100000
namespace Go.Proofs.YtckmajcophpddaaDoor
open Go.RowKit

/-- Block b is a reader whose rest is l. -/
def Rd (w : World) (b : Nat) (l : List UInt8) : Prop := w.heap[b]? = some (.cells #[.string ⟨l.toArray⟩] 38 (0, 0))
theorem Rd.lt {w : World} {b : Nat} {l : List UInt8} (h : Rd w b l) : b < w.heap.size := (Array.getElem?_eq_some_iff.1 h).1
theorem Rd.cell {w : World} {b : Nat} {l : List UInt8} (h : Rd w b l) : w.cell? ⟨b, 0, none⟩ = some (.string ⟨l.toArray⟩) := cell_of_one h
theorem Rd.free {w : World} {b : Nat} {l : List UInt8} (h : Rd w b l) : w.frozen? ⟨b, 0, none⟩ = false := free_of_one h
theorem Rd.set {w : World} {b : Nat} {l : List UInt8} (h : Rd w b l) (m : List UInt8) : Rd (w.setCell ⟨b, 0, none⟩ (.string ⟨m.toArray⟩)) b m := one_setCell h
theorem Rd.kept {w w' : World} {b : Nat} {l : List UInt8} (h : Rd w b l) {r : Option Nat} (hg : w.grownBy w' r) (hne : some b ≠ r) : Rd w' b l := (hg.block b h.lt hne).trans h
theorem Rd.below {w w' : World} {b : Nat} {l : List UInt8} (h : Rd w b l) {B : Nat} (hb : Below B w w') (hB : b < B) : Rd w' b l := (hb.block b hB).trans h
theorem Rd.same {w : World} {b : Nat} {l m : List UInt8} (h : Rd w b l) (k : Rd w b m) : l = m := by
  unfold Rd at h k
  rw [h] at k
  simpa using k

set_option maxHeartbeats 800000 in
/-- take: whether the rest begins so; then it is passed over. -/
theorem take_any {w : World} {b : Nat} {l : List UInt8} (h : Rd w b l) (p : ByteArray) :
    Calls Tryd.prog 20 #[.pointer (some ⟨b, 0, none⟩), .string p] w fun e w' => e = .returned (.bool (Lib.hasPrefix l p.data.toList)) ∧ Rd w' b (Lib.trimPrefix l p.data.toList) ∧ w.grownBy w' (some b) := by
  have c0 := h.cell
  have f0 := h.free
  have H := Lib.hid h
  clear h
  have C := Lib.hid (Tryd.strings_CutPrefix ⟨l.toArray⟩ p w)
  go_enter Tryd.func20, Tryd.ntmps20
  go_wp2_with fail
  refine C.out.mono ?_
  rintro e w1 ⟨rfl, rfl⟩
  go_wp2
  go_ret
  exact ⟨rfl, H.out.set _, grownBy_setCell' _ _ _⟩

theorem ba_extract0 (l : List UInt8) (n : Nat) : (⟨l.toArray⟩ : ByteArray).extract 0 n = ⟨(l.take n).toArray⟩ := by
  rw [ByteArray.extract_mk]
  simp
theorem ba_extract (l : List UInt8) (n : Nat) : (⟨l.toArray⟩ : ByteArray).extract n l.length = ⟨(l.drop n).toArray⟩ := by
  rw [ByteArray.extract_mk]
  simp [List.take_of_length_le]
theorem ba_size (l : List UInt8) : (⟨l.toArray⟩ : ByteArray).size = l.length := by simp [ByteArray.size]

set_option maxHeartbeats 800000 in
/-- cut: so many bytes, or what there is. -/
theorem cut_any {w : World} {b : Nat} {l : List UInt8} (h : Rd w b l) (n : Nat) (hl : l.length ≤ 9223372036854775807) :
    Calls Tryd.prog 53 #[.pointer (some ⟨b, 0, none⟩), .int .i64 n] w fun e w' => e = .returned (.string ⟨(l.take n).toArray⟩) ∧ Rd w' b (l.drop n) ∧ w.grownBy w' (some b) := by
  have c0 := h.cell
  have f0 := h.free
  have H := Lib.hid h
  clear h
  obtain ⟨s, hs⟩ : ∃ s, s = (⟨l.toArray⟩ : ByteArray) := ⟨_, rfl⟩
  have hz : s.size = l.length := by rw [hs, ba_size]
  have HS := Lib.hid hs
  rw [← hs] at c0
  clear hs
  have H1 : Hid (s.extract 0 (min (n : Int) (l.length : Int)).toNat = ⟨(l.take n).toArray⟩) := Lib.hid (by
    rw [show (min (n : Int) (l.length : Int)).toNat = min n l.length by omega, HS.out, ba_extract0]; by_cases hn : n ≤ l.length
    · rw [Nat.min_eq_left hn]
    · rw [Nat.min_eq_right (by omega), List.take_of_length_le (Nat.le_refl _), List.take_of_length_le (by omega)])
  have H2 : Hid (s.extract (min (n : Int) (l.length : Int)).toNat l.length = ⟨(l.drop n).toArray⟩) := Lib.hid (by
    rw [show (min (n : Int) (l.length : Int)).toNat = min n l.length by omega, HS.out, ba_extract]
    by_cases hn : n ≤ l.length
    · rw [Nat.min_eq_left hn]
    · rw [Nat.min_eq_right (by omega), List.drop_of_length_le (Nat.le_refl _), List.drop_of_length_le (by omega)])
  go_enter Tryd.func53, Tryd.ntmps53
  go_wp2
  go_ret
  refine ⟨?_, ?_, grownBy_setCell' _ _ _⟩
  · show Ending.returned (.string (s.extract 0 (min (n : Int) (l.length : Int)).toNat)) = _
    rw [H1.out]
  · rw [H2.out]
    exact H.out.set _

end Go.Proofs.YtckmajcophpddaaDoor
