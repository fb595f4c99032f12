/-
  The reference's reader: Read: what its walk asks.
-/
import Derived.Test.YtckmajcophpddaaDoorVRrB
import Derived.Test.YtckmajcophpddaaDoorVRead
import Derived.Test.YtckmajcophpddaaDoorVRdE
set_option linter.unusedVariables false
set_option linter.unusedSimpArgs false
set_option maxRecDepth 100000
namespace Go.Proofs.YtckmajcophpddaaDoor
open Go.RowKit

/-- A list's box: its kind, and the slice v. -/
def LBx (w : World) (A : Nat) (v : Value) : Prop := w.heap[A]? = some (.cells #[.int .i64 6, .int .i64 0, .float .f64 0, .string ⟨#[]⟩, v] 27 (0, 0))
theorem LBx.cells {w : World} {A : Nat} {v : Value} (h : LBx w A v) : (w.cell? ⟨A, 0, none⟩ = some (.int .i64 6) ∧ w.cell? ⟨A, 1, none⟩ = some (.int .i64 0) ∧ w.cell? ⟨A, 2, none⟩ = some (.float .f64 0) ∧ w.cell? ⟨A, 3, none⟩ = some (.string ⟨#[]⟩) ∧ w.cell? ⟨A, 4, none⟩ = some v) ∧ w.frozen? ⟨A, 4, none⟩ = false :=
  ⟨⟨Joins.cell_of_block h 0, Joins.cell_of_block h 1, Joins.cell_of_block h 2, Joins.cell_of_block h 3, Joins.cell_of_block h 4⟩, Joins.unfrozen_of_block h 4⟩
theorem LBx.lt {w : World} {A : Nat} {v : Value} (h : LBx w A v) : A < w.heap.size := (Array.getElem?_eq_some_iff.1 h).1
theorem LBx.below {w w' : World} {A B : Nat} {v : Value} (h : LBx w A v) (hb : Below B w w') (hA : A < B) : LBx w' A v := (hb.block A hA).trans h
theorem VBx.lt {w : World} {A : Nat} (h : VBx w A) : A < w.heap.size := (Array.getElem?_eq_some_iff.1 h).1
theorem VBx.below {w w' : World} {A B : Nat} (h : VBx w A) (hb : Below B w w') (hA : A < B) : VBx w' A := (hb.block A hA).trans h
theorem LBx.set {w : World} {A : Nat} {v : Value} (h : LBx w A v) (u : Value) : LBx (w.setCell ⟨A, 4, none⟩ u) A u ∧ w.grownBy (w.setCell ⟨A, 4, none⟩ u) (some A) := by
  unfold LBx at h ⊢
  rw [setCell_eq_setRow w A 4 _ _ (0, 0) u h]
  exact ⟨setRow_heap w A _ _ _ _ h, ⟨rfl, rfl, rfl, by simp [World.setRow], fun k _ hk => setRow_other w A k _ (fun e => hk (by rw [e]))⟩⟩

theorem row_set {w : World} {p i : Nat} {cs : Array Value} {t : TypeId} (h : w.heap[p]? = some (.cells cs t (0, 0))) (v : Value) : (w.setCell ⟨p, i, none⟩ v).heap[p]? = some (.cells (cs.setIfInBounds i v) t (0, 0)) := by
  rw [setCell_eq_setRow w p i cs t (0, 0) v h]
  exact setRow_heap w p cs _ t _ h
/-- Five cells that are stored into a value's box. -/
theorem five_row {w : World} {A : Nat} {x0 x1 x2 x3 x4 : Value} {t : TypeId} (h : w.heap[A]? = some (.cells #[x0, x1, x2, x3, x4] t (0, 0))) (a b c d e : Value) :
    (((((w.setCell ⟨A, 0, none⟩ a).setCell ⟨A, 1, none⟩ b).setCell ⟨A, 2, none⟩ c).setCell ⟨A, 3, none⟩ d).setCell ⟨A, 4, none⟩ e).heap[A]? = some (.cells #[a, b, c, d, e] t (0, 0)) :=
  row_set (i := 4) (row_set (i := 3) (row_set (i := 2) (row_set (i := 1) (row_set (i := 0) h a) b) c) d) e
theorem five_read {w : World} {A : Nat} (h : VBx w A) (a b c d e : Value) (o : Obj) : ∀ (i : Nat),
    ((((((w.setCell ⟨A, 0, none⟩ a).setCell ⟨A, 1, none⟩ b).setCell ⟨A, 2, none⟩ c).setCell ⟨A, 3, none⟩ d).setCell ⟨A, 4, none⟩ e).alloc o).cell? ⟨A, i, none⟩ = #[a, b, c, d, e][i]? := by
  intro i
  have hb := five_row h a b c d e
  rw [World.cell?_alloc_lt _ _ _ (Array.getElem?_eq_some_iff.1 hb).1]
  exact Joins.cell_of_block hb i
theorem rr_open {l : List UInt8} (h : Lib.hasPrefix l [91] = true) : Lib.hasPrefix l [91, 93] = Lib.hasPrefix (l.drop 1) [93] := by
  have e := pre_split h
  rw [e]
  generalize Lib.trimPrefix l [91] = m
  show Lib.hasPrefix (91 :: m) [91, 93] = Lib.hasPrefix m [93]
  unfold Lib.hasPrefix
  simp [List.isPrefixOf]
/-- Behind an atom. -/
theorem rr_behind {l m : List UInt8} {a : At} {j : Nat} (h : atomR (l.drop j) = .ok (a, m)) : ∃ u, m = l.drop (j + u) ∧ m.length + (j + u) = max j l.length := by
  obtain ⟨h1, _⟩ := atomR_back h
  refine ⟨(prAt a).length, ?_, ?_⟩
  · rw [← List.drop_drop, h1, List.drop_left]
  · have h2 := congrArg List.length h1
    rw [List.length_drop, List.length_append] at h2
    omega
theorem ext_drop (s : ByteArray) (a : Nat) : (s.extract a s.size).data.toList = s.data.toList.drop a := by
  rw [ext_list _ _ _ (Nat.le_refl _), List.take_of_length_le (by rw [List.length_drop]; exact Nat.le_refl _)]
theorem RErr.ne {x : Int} (h : RErr x) : x ≠ 0 := by rcases h with rfl | rfl <;> decide

end Go.Proofs.YtckmajcophpddaaDoor
