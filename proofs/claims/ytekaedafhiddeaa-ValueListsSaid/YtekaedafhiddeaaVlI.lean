/-
  ValueLists: what holds in each state of the region that makes the three lists, whatever order is drawn.
-/
import Derived.Test.YtekaedafhiddeaaLawVLists
import Derived.Test.YtekaedafhiddeaaOrdUp
import Derived.OneCell
import Derived.Laws.Rows
set_option linter.unusedVariables false
set_option maxRecDepth 100000
namespace Go.Proofs.Ytekaedafhiddeaa
open Go.RowKit

def zeroV : Array Value := #[.int .i64 0, .int .i64 0, .float .f64 0, .string ⟨#[]⟩, .slice none 0 0]
/-- A list that was made. -/
def LiV (B : Nat) (l : List At) (x : Value) (w : World) : Prop := ∃ v, x = .agg #[.int .i64 6, .int .i64 0, .float .f64 0, .string ⟨#[]⟩, v] ∧ AOwn w B v l
/-- The atoms that it is made of. -/
def SlV (n : Nat) (l : List At) (x : Value) (w : World) : Prop := ∃ g, x = .slice (some ⟨g, 0, none⟩) n n ∧ n = l.length ∧ As w (some ⟨g, 0, none⟩) l
/-- A box of the call's own. -/
def BoxV (B : Nat) (x : Value) (w : World) : Prop := ∃ g, x = .pointer (some ⟨g, 0, none⟩) ∧ B ≤ g ∧ w.heap[g]? = some (.cells zeroV 46 (0, 0))
theorem LiV.mono {B : Nat} {l : List At} {x : Value} {w w' : World} (h : LiV B l x w) (hb : Below w.heap.size w w') : LiV B l x w' := by
  obtain ⟨v, h1, h2⟩ := h
  exact ⟨v, h1, h2.below hb⟩
theorem SlV.mono {n : Nat} {l : List At} {x : Value} {w w' : World} (h : SlV n l x w) (hb : Below w.heap.size w w') : SlV n l x w' := by
  obtain ⟨g, h1, h2, h3⟩ := h
  exact ⟨g, h1, h2, h3.below hb⟩
theorem BoxV.mono {B : Nat} {x : Value} {w w' : World} (h : BoxV B x w) (hb : Below w.heap.size w w') : BoxV B x w' := by
  obtain ⟨g, h1, h2, h3⟩ := h
  exact ⟨g, h1, h2, by rw [hb.block g (Array.getElem?_eq_some_iff.1 h3).1]; exact h3⟩
theorem BoxV.new {B : Nat} {w : World} (hB : B ≤ w.heap.size) : BoxV B (.pointer (some ⟨w.heap.size, 0, none⟩)) (w.alloc (.cells zeroV 46)) := ⟨_, rfl, hB, heap_alloc_new w _⟩
theorem BoxV.ne {B : Nat} {x : Value} {w : World} (h : BoxV B x w) : x ≠ .pointer (some ⟨w.heap.size, 0, none⟩) := by
  obtain ⟨g, rfl, h2, h3⟩ := h
  intro e
  have := (Array.getElem?_eq_some_iff.1 h3).1
  simp only [Value.pointer.injEq, Option.some.injEq, Addr.mk.injEq, and_true] at e
  omega

structure VlI (Wb : World) (al : List At) (b c : At) (l1 l4 l5 l9 l10 l11 l12 l13 : Bool) (x20 x23 x24 x28 x29 x8 x9 x10 : Value) (w : World) : Prop where
  d5 : l5 = true → l1 = true ∧ l4 = true
  d10 : l10 = true → l5 = true ∧ l9 = true
  p20 : l1 = true → LiV Wb.heap.size al x20 w
  p23 : l4 = true → SlV 1 [b] x23 w
  p24 : l5 = true → LiV Wb.heap.size (al ++ [b]) x24 w
  p28 : l9 = true → SlV 2 [c, b] x28 w
  p29 : l10 = true → LiV Wb.heap.size (al ++ [c, b]) x29 w
  p8 : l11 = true → BoxV Wb.heap.size x8 w
  p9 : l12 = true → BoxV Wb.heap.size x9 w
  p10 : l13 = true → BoxV Wb.heap.size x10 w
  n89 : l11 = true → l12 = true → x8 ≠ x9
  n8a : l11 = true → l13 = true → x8 ≠ x10
  n9a : l12 = true → l13 = true → x9 ≠ x10
  bl : Below Wb.heap.size Wb w

section
variable {Wb : World} {al : List At} {b c : At} {l1 l4 l5 l9 l10 l11 l12 l13 : Bool} {x20 x23 x24 x28 x29 x8 x9 x10 : Value} {w w' : World}
theorem VlI.mono (h : VlI Wb al b c l1 l4 l5 l9 l10 l11 l12 l13 x20 x23 x24 x28 x29 x8 x9 x10 w) (hb : Below w.heap.size w w') : VlI Wb al b c l1 l4 l5 l9 l10 l11 l12 l13 x20 x23 x24 x28 x29 x8 x9 x10 w' :=
  ⟨h.d5, h.d10, fun k => (h.p20 k).mono hb, fun k => (h.p23 k).mono hb, fun k => (h.p24 k).mono hb, fun k => (h.p28 k).mono hb, fun k => (h.p29 k).mono hb, fun k => (h.p8 k).mono hb, fun k => (h.p9 k).mono hb, fun k => (h.p10 k).mono hb, h.n89, h.n8a, h.n9a, h.bl.trans (hb.mono h.bl.size)⟩
theorem VlI.s1 (h : VlI Wb al b c false l4 l5 l9 l10 l11 l12 l13 x20 x23 x24 x28 x29 x8 x9 x10 w) (hb : Below w.heap.size w w') {y : Value} (hy : LiV w.heap.size al y w') : VlI Wb al b c true l4 l5 l9 l10 l11 l12 l13 y x23 x24 x28 x29 x8 x9 x10 w' := by
  have g := h.mono hb
  obtain ⟨v, e, ho⟩ := hy
  exact ⟨fun k => ⟨rfl, (g.d5 k).2⟩, g.d10, fun _ => ⟨v, e, ho.le h.bl.size⟩, g.p23, g.p24, g.p28, g.p29, g.p8, g.p9, g.p10, g.n89, g.n8a, g.n9a, g.bl⟩
theorem VlI.s4 (h : VlI Wb al b c l1 false l5 l9 l10 l11 l12 l13 x20 x23 x24 x28 x29 x8 x9 x10 w) (hb : Below w.heap.size w w') {y : Value} (hy : SlV 1 [b] y w') : VlI Wb al b c l1 true l5 l9 l10 l11 l12 l13 x20 y x24 x28 x29 x8 x9 x10 w' := by
  have g := h.mono hb
  exact ⟨fun k => ⟨(g.d5 k).1, rfl⟩, g.d10, g.p20, fun _ => hy, g.p24, g.p28, g.p29, g.p8, g.p9, g.p10, g.n89, g.n8a, g.n9a, g.bl⟩
theorem VlI.s5 (h : VlI Wb al b c true true false l9 l10 l11 l12 l13 x20 x23 x24 x28 x29 x8 x9 x10 w) (hb : Below w.heap.size w w') {y : Value} (hy : LiV w.heap.size (al ++ [b]) y w') : VlI Wb al b c true true true l9 l10 l11 l12 l13 x20 x23 y x28 x29 x8 x9 x10 w' := by
  have g := h.mono hb
  obtain ⟨v, e, ho⟩ := hy
  exact ⟨fun k => ⟨rfl, rfl⟩, fun k => ⟨rfl, (g.d10 k).2⟩, g.p20, g.p23, fun _ => ⟨v, e, ho.le h.bl.size⟩, g.p28, g.p29, g.p8, g.p9, g.p10, g.n89, g.n8a, g.n9a, g.bl⟩
theorem VlI.s9 (h : VlI Wb al b c l1 l4 l5 false l10 l11 l12 l13 x20 x23 x24 x28 x29 x8 x9 x10 w) (hb : Below w.heap.size w w') {y : Value} (hy : SlV 2 [c, b] y w') : VlI Wb al b c l1 l4 l5 true l10 l11 l12 l13 x20 x23 x24 y x29 x8 x9 x10 w' := by
  have g := h.mono hb
  exact ⟨g.d5, fun k => ⟨(g.d10 k).1, rfl⟩, g.p20, g.p23, g.p24, fun _ => hy, g.p29, g.p8, g.p9, g.p10, g.n89, g.n8a, g.n9a, g.bl⟩
theorem VlI.s10 (h : VlI Wb al b c l1 l4 true true false l11 l12 l13 x20 x23 x24 x28 x29 x8 x9 x10 w) (hb : Below w.heap.size w w') {y : Value} (hy : LiV w.heap.size (al ++ [c, b]) y w') : VlI Wb al b c l1 l4 true true true l11 l12 l13 x20 x23 x24 x28 y x8 x9 x10 w' := by
  have g := h.mono hb
  obtain ⟨v, e, ho⟩ := hy
  exact ⟨g.d5, fun k => ⟨rfl, rfl⟩, g.p20, g.p23, g.p24, g.p28, fun _ => ⟨v, e, ho.le h.bl.size⟩, g.p8, g.p9, g.p10, g.n89, g.n8a, g.n9a, g.bl⟩
theorem VlI.s11 (h : VlI Wb al b c l1 l4 l5 l9 l10 false l12 l13 x20 x23 x24 x28 x29 x8 x9 x10 w) : VlI Wb al b c l1 l4 l5 l9 l10 true l12 l13 x20 x23 x24 x28 x29 (.pointer (some ⟨w.heap.size, 0, none⟩)) x9 x10 (w.alloc (.cells zeroV 46)) := by
  have g := h.mono ((Below.refl w.heap.size w).alloc (Nat.le_refl _) (.cells zeroV 46))
  exact ⟨g.d5, g.d10, g.p20, g.p23, g.p24, g.p28, g.p29, fun _ => BoxV.new h.bl.size, g.p9, g.p10, fun _ k => ((h.p9 k).ne).symm, fun _ k => ((h.p10 k).ne).symm, g.n9a, g.bl⟩
theorem VlI.s12 (h : VlI Wb al b c l1 l4 l5 l9 l10 l11 false l13 x20 x23 x24 x28 x29 x8 x9 x10 w) : VlI Wb al b c l1 l4 l5 l9 l10 l11 true l13 x20 x23 x24 x28 x29 x8 (.pointer (some ⟨w.heap.size, 0, none⟩)) x10 (w.alloc (.cells zeroV 46)) := by
  have g := h.mono ((Below.refl w.heap.size w).alloc (Nat.le_refl _) (.cells zeroV 46))
  exact ⟨g.d5, g.d10, g.p20, g.p23, g.p24, g.p28, g.p29, g.p8, fun _ => BoxV.new h.bl.size, g.p10, fun k _ => (h.p8 k).ne, g.n8a, fun _ k => ((h.p10 k).ne).symm, g.bl⟩
theorem VlI.s13 (h : VlI Wb al b c l1 l4 l5 l9 l10 l11 l12 false x20 x23 x24 x28 x29 x8 x9 x10 w) : VlI Wb al b c l1 l4 l5 l9 l10 l11 l12 true x20 x23 x24 x28 x29 x8 x9 (.pointer (some ⟨w.heap.size, 0, none⟩)) (w.alloc (.cells zeroV 46)) := by
  have g := h.mono ((Below.refl w.heap.size w).alloc (Nat.le_refl _) (.cells zeroV 46))
  exact ⟨g.d5, g.d10, g.p20, g.p23, g.p24, g.p28, g.p29, g.p8, g.p9, fun _ => BoxV.new h.bl.size, g.n89, fun k _ => (h.p8 k).ne, fun k _ => (h.p9 k).ne, g.bl⟩
end

/-- A box that is filled. -/
def putV (w : World) (g : Nat) (v : Value) : World := ((((w.setCell ⟨g, 0, none⟩ (.int .i64 6)).setCell ⟨g, 1, none⟩ (.int .i64 0)).setCell ⟨g, 2, none⟩ (.float .f64 0)).setCell ⟨g, 3, none⟩ (.string ⟨#[]⟩)).setCell ⟨g, 4, none⟩ v
theorem boxV_put {w : World} {g : Nat} (h : w.heap[g]? = some (.cells zeroV 46 (0, 0))) (v : Value) : (putV w g v).heap[g]? = some (.cells #[.int .i64 6, .int .i64 0, .float .f64 0, .string ⟨#[]⟩, v] 46 (0, 0)) := by
  have h1 := heap_setCell_same w g 0 _ _ (.int .i64 6) h
  have h2 := heap_setCell_same _ g 1 _ _ (.int .i64 0) h1
  have h3 := heap_setCell_same _ g 2 _ _ (.float .f64 0) h2
  have h4 := heap_setCell_same _ g 3 _ _ (.string ⟨#[]⟩) h3
  have h5 := heap_setCell_same _ g 4 _ _ v h4
  exact h5.trans rfl
theorem boxV_far {w : World} {g k : Nat} (hk : k ≠ g) (v : Value) : (putV w g v).heap[k]? = w.heap[k]? := by
  unfold putV
  rw [heap_setCell_other _ _ _ _ hk, heap_setCell_other _ _ _ _ hk, heap_setCell_other _ _ _ _ hk, heap_setCell_other _ _ _ _ hk, heap_setCell_other _ _ _ _ hk]
theorem boxV_below {Wb w : World} {g : Nat} (hb : Below Wb.heap.size Wb w) (hg : Wb.heap.size ≤ g) (v : Value) : Below Wb.heap.size Wb (putV w g v) :=
  (((((hb.setCell (p := ⟨g, 0, none⟩) hg _).setCell (p := ⟨g, 1, none⟩) hg _).setCell (p := ⟨g, 2, none⟩) hg _).setCell (p := ⟨g, 3, none⟩) hg _).setCell (p := ⟨g, 4, none⟩) hg _)
theorem AOwn.box {w : World} {B : Nat} {v : Value} {l : List At} (h : AOwn w B v l) {g : Nat} {cs : Array Value} (hg : w.heap[g]? = some (.cells cs 46 (0, 0))) (x : Value) : AOwn (putV w g x) B v l := by
  refine ⟨h.1, ?_⟩
  rcases h.2 with h0 | ⟨k, cap, cur, hv, h1, hk, h2⟩
  · exact .inl h0
  · refine .inr ⟨k, cap, cur, hv, h1, ?_, h2⟩
    rw [boxV_far (fun e => ?_)]
    · exact hk
    · subst e
      rw [hg] at hk
      have := (Obj.cells.inj (Option.some.inj hk)).2.1
      exact absurd this (by decide)
theorem cell_at {w : World} {g : Nat} {cs : Array Value} {t : TypeId} (h : w.heap[g]? = some (.cells cs t (0, 0))) (i : Nat) : w.cell? ⟨g, i, none⟩ = cs[i]? ∧ w.frozen? ⟨g, i, none⟩ = false := ⟨Joins.cell_of_block h i, Joins.unfrozen_of_block h i⟩

theorem sl_one {w : World} {b : At} (t : TypeId) : SlV 1 [b] (.slice (some ⟨w.heap.size, 0, none⟩) 1 1) (w.alloc (.cells #[.int .i64 b.k, .int .i64 b.n, .float .f64 b.f, .string b.s] t)) := by
  refine ⟨_, rfl, rfl, fun _ => ⟨w.heap.size, 0, rfl, fun i x hi => ?_⟩⟩
  match i, hi with
  | 0, hi =>
    obtain rfl := Option.some.inj hi
    have h1 := fun i => Joins.cell_of_block (heap_alloc_new w (.cells #[.int .i64 b.k, .int .i64 b.n, .float .f64 b.f, .string b.s] t)) i
    exact ⟨h1 0, h1 1, h1 2, h1 3⟩
  | i + 1, hi => simp at hi
theorem sl_two {w : World} {b c : At} (t : TypeId) : SlV 2 [c, b] (.slice (some ⟨w.heap.size, 0, none⟩) 2 2) (w.alloc (.cells #[.int .i64 c.k, .int .i64 c.n, .float .f64 c.f, .string c.s, .int .i64 b.k, .int .i64 b.n, .float .f64 b.f, .string b.s] t)) := by
  refine ⟨_, rfl, rfl, fun _ => ⟨w.heap.size, 0, rfl, fun i x hi => ?_⟩⟩
  have h1 := fun i => Joins.cell_of_block (heap_alloc_new w (.cells #[.int .i64 c.k, .int .i64 c.n, .float .f64 c.f, .string c.s, .int .i64 b.k, .int .i64 b.n, .float .f64 b.f, .string b.s] t)) i
  match i, hi with
  | 0, hi =>
    obtain rfl := Option.some.inj hi
    exact ⟨h1 0, h1 1, h1 2, h1 3⟩
  | 1, hi =>
    obtain rfl := Option.some.inj hi
    exact ⟨h1 4, h1 5, h1 6, h1 7⟩
  | i + 2, hi => simp at hi

end Go.Proofs.Ytekaedafhiddeaa
