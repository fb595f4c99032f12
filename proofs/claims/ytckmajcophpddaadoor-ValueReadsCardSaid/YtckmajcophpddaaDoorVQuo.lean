/-
  The reference's quoted: a text between its marks.
-/
import Derived.Test.YtckmajcophpddaaDoorVEscL
import Derived.Deep.RegionHeld3
set_option linter.unusedVariables false
set_option maxRecDepth 100000
namespace Go.Proofs.YtckmajcophpddaaDoor
open Go.RowKit

theorem own_lit (w : World) (l : List UInt8) {cs : Array Value} (hc : cs = (u8s l).toArray) (hm : l.length ≤ 1000) {n : Nat} (hn : n = l.length) : Own (w.alloc (.cells cs 5)) w.heap.size (.slice (some ⟨w.heap.size, 0, none⟩) n n) l := by
  subst hc hn
  exact ⟨by simp [u8s], .inr ⟨w.heap.size, l.length, (u8s l).toArray, rfl, Nat.le_refl _, heap_alloc_new w _, Nat.le_refl _, by simp only [maxLen]; omega, by simp [u8s], by rw [List.take_of_length_le (by simp [u8s])]⟩⟩

theorem esc_mark {c : UInt8} (h : (c.toNat : Int) = 34 ∨ (c.toNat : Int) = 92) : escC c = [92, c] := by
  have h1 : codeC c = false := by
    unfold codeC
    rw [Bool.or_eq_false_iff]
    exact ⟨decide_eq_false (by omega), decide_eq_false (by omega)⟩
  have h2 : markC c = true := by
    unfold markC
    rw [Bool.or_eq_true]
    rcases h with h | h
    · exact .inl (decide_eq_true h)
    · exact .inr (decide_eq_true h)
  unfold escC
  rw [h1, h2]
  rfl
theorem esc_code {c : UInt8} (h : (c.toNat : Int) < 32 ∨ 126 < (c.toNat : Int)) : escC c = [92, 120, hexE[c.toNat / 16]!, hexE[c.toNat % 16]!] := by
  have h1 : codeC c = true := by
    unfold codeC
    rw [Bool.or_eq_true]
    rcases h with h | h
    · exact .inl (decide_eq_true h)
    · exact .inr (decide_eq_true h)
  unfold escC
  rw [h1]
  rfl
theorem esc_plain {c : UInt8} (h1 : ¬ (c.toNat : Int) = 34) (h2 : ¬ (c.toNat : Int) = 92) (h3 : ¬ (c.toNat : Int) < 32) (h4 : ¬ 126 < (c.toNat : Int)) : escC c = [c] := by
  unfold escC codeC markC
  rw [decide_eq_false h1, decide_eq_false h2, decide_eq_false h3, decide_eq_false h4]
  rfl

end Go.Proofs.YtckmajcophpddaaDoor
