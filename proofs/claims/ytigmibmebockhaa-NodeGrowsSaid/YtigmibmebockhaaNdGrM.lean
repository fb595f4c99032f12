/-
  NodeGrows: the greater node: it is one; its size.
-/
import Derived.Test.YtigmibmebockhaaNdGrI
import Derived.Test.YtigmibmebockhaaNdFew
set_option linter.unusedVariables false
set_option linter.unusedSimpArgs false
set_option maxRecDepth 100000
namespace Go.Proofs.Ytigmibmebockhaa
open Go.RowKit

theorem sizeL_app (k : List UInt8) (v : VlS) : ∀ (ks : List (List UInt8)) (vs : List VlS), vs.length = ks.length → sizeL (ks ++ [k]) (vs ++ [v]) = sizeL ks vs + entS k v
  | [], [], _ => by simp [sizeL]
  | a :: ks, b :: vs, h => by
    have := sizeL_app k v ks vs (by simpa using h)
    simp only [List.cons_append, sizeL, this]
    omega
  | [], _ :: _, h => by simp at h
  | _ :: _, [], h => by simp at h
theorem sizeB_app (k : List UInt8) : ∀ (ks : List (List UInt8)), sizeB (ks ++ [k]) = sizeB ks + (k.length + 3)
  | [] => by simp [sizeB]
  | a :: ks => by
    have := sizeB_app k ks
    simp only [List.cons_append, sizeB, this]
    omega
theorem size_branch {s t : NdS} {k : List UInt8} (hs : s.leaf = false) (ht : t.leaf = false) (hk : t.ks = s.ks ++ [k]) : t.size = s.size + (k.length + 3) := by
  unfold NdS.size
  rw [hs, ht, hk, if_neg (by simp), if_neg (by simp), sizeB_app]
  omega
theorem size_leaf {s t : NdS} {k : List UInt8} {v : VlS} (hs : s.leaf = true) (ht : t.leaf = true) (he : s.vs.length = s.ks.length) (hk : t.ks = s.ks ++ [k]) (hv : t.vs = s.vs ++ [v]) : t.size = s.size + entS k v := by
  unfold NdS.size
  rw [hs, ht, hk, hv, if_pos rfl, if_pos rfl, sizeL_app _ _ _ _ he]
  omega

/-- What the law makes of it. -/
structure GrM (w0 Wb w : World) (g : Nat) (m : Nd) : Prop where
  box : w.heap[g]? = some (.cells #[.bool m.leaf, .slice m.kq m.ks.length m.kc, .slice m.vq m.vs.length m.vc, .slice m.iq m.is.length m.ic] 27 (0, 0))
  ge : Wb.heap.size ≤ g
  ko : KOwn w Wb.heap.size (.slice m.kq m.ks.length m.kc) m.ks
  vo : VOwn w Wb.heap.size (.slice m.vq m.vs.length m.vc) m.vs
  io : OwnI w Wb.heap.size (.slice m.iq m.is.length m.ic) m.is
  below : Below Wb.heap.size Wb w
theorem GrM.ok {w0 Wb w : World} {g : Nat} {m : Nd} (h : GrM w0 Wb w g m) (hk : ∀ x ∈ m.ks, x.Ok w) (hv : ∀ x ∈ m.vs, x.Ok w) (hi : ∀ x ∈ m.is, -9223372036854775808 ≤ x ∧ x ≤ 9223372036854775807) : m.Ok w := by
  obtain ⟨q1, c1, e1, a1, a2, a3, _⟩ := row_form h.ko
  obtain ⟨q2, c2, e2, b1, b2, b3, _⟩ := row_form h.vo
  obtain ⟨q3, c3, e3, d1, d2, d3, _⟩ := row_form h.io
  cases e1
  cases e2
  cases e3
  have hil : Ks w m.iq m.is := by
    obtain ⟨q, c, e, hk⟩ := h.io.form
    cases e
    exact hk
  exact ⟨a1, a2, a3, kown_lie h.ko, hk, b1, b2, b3, vown_lie h.vo, hv, d1, d2, d3, hil, hi⟩
theorem GrM.lt {w0 Wb w : World} {g : Nat} {m : Nd} (h : GrM w0 Wb w g m) : g < w.heap.size := (Array.getElem?_eq_some_iff.1 h.box).1
theorem GrM.cells {w0 Wb w : World} {g : Nat} {m : Nd} (h : GrM w0 Wb w g m) : (w.cell? ⟨g, 0, none⟩ = some (.bool m.leaf) ∧ w.cell? ⟨g, 1, none⟩ = some (.slice m.kq m.ks.length m.kc) ∧ w.cell? ⟨g, 2, none⟩ = some (.slice m.vq m.vs.length m.vc) ∧ w.cell? ⟨g, 3, none⟩ = some (.slice m.iq m.is.length m.ic)) ∧ ∀ i, w.frozen? ⟨g, i, none⟩ = false :=
  ⟨⟨Joins.cell_of_block h.box 0, Joins.cell_of_block h.box 1, Joins.cell_of_block h.box 2, Joins.cell_of_block h.box 3⟩, fun i => Joins.unfrozen_of_block h.box i⟩
theorem GrM.later {w0 Wb w w' : World} {g : Nat} {m : Nd} (h : GrM w0 Wb w g m) (hb : Below w.heap.size w w') : GrM w0 Wb w' g m :=
  ⟨(hb.block _ h.lt).trans h.box, h.ge, row_keep h.ko (KeepT.below hb), row_keep h.vo (KeepT.below hb), row_keep h.io (KeepT.below hb), h.below.trans (hb.mono h.below.size)⟩
/-- A value more. -/
theorem GrM.setV {w0 Wb w w1 w2 : World} {g : Nat} {m : Nd} (h : GrM w0 Wb w g m) (hb : Below w.heap.size w w1) {q : Option Addr} {k c : Nat} {x : Vl} (hm : k = (m.vs ++ [x]).length) (ho : VOwn w2 Wb.heap.size (.slice q k c) (m.vs ++ [x])) (hg : w1.grownBy w2 (Value.slice m.vq m.vs.length m.vc).ownBlock) :
    GrM w0 Wb (w2.setCell ⟨g, 2, none⟩ (.slice q k c)) g { m with vq := q, vc := c, vs := m.vs ++ [x] } ∧ w2.heap[g]? = some (.cells #[.bool m.leaf, .slice m.kq m.ks.length m.kc, .slice m.vq m.vs.length m.vc, .slice m.iq m.is.length m.ic] 27 (0, 0)) := by
  have h1 := h.later hb
  have hbox : w2.heap[g]? = some (.cells #[.bool m.leaf, .slice m.kq m.ks.length m.kc, .slice m.vq m.vs.length m.vc, .slice m.iq m.is.length m.ic] 27 (0, 0)) := KeepT.grown hg h1.vo (by decide) _ _ _ h1.box
  have hko := row_keep h1.ko (KeepT.grown hg h1.vo (by decide))
  have hio := row_keep h1.io (KeepT.grown hg h1.vo (by decide))
  have hs := gr_set w2 g 2 (.slice q k c)
  subst hm
  have hb2 : Below Wb.heap.size Wb w2 := h1.below.trans (gr_low hg h1.below.size (fun j hj => (World.ownsRow.lt h1.vo j hj).1))
  refine ⟨⟨by simp [World.setCell, Array.getElem?_modify, hbox], h.ge, World.ownsRow.kept hko hs (.inr (row_other hko hbox (by decide))), World.ownsRow.kept ho hs (.inr (row_other ho hbox (by decide))), World.ownsRow.kept hio hs (.inr (row_other hio hbox (by decide))), hb2.setCell (p := ⟨g, 2, none⟩) h.ge _⟩, hbox⟩

/-- append(values, one value): only their own block changes. -/
theorem app_vals {w : World} {ops : Array Oper} {rest : List Oper} {o : Oper} {a : Act} {Q : Exit → Act → World → Prop} (hgd : o.guard = none) (s x : Operand)
    (ho : o.op = .call { callee := .builtin .append, args := #[s, x], argTypes := #[24, 24] })
    {B : Nat} {v : Value} {l : List Vl} (u : Vl) (hs : a.eval s = v) (hown : VOwn w B v l) {b c : Nat} (hx : a.eval x = .slice (some ⟨b, 0, none⟩) 1 c) {fr : Nat × Nat} {t : TypeId} (h0 : w.heap[b]? = some (.cells #[.slice u.q u.l.length u.c, .int .i64 u.g, .int .i64 u.p] t fr)) (hlen : l.length ≤ 1000000) (hB : B ≤ w.heap.size)
    (h : ∀ q n c' w', n = (l ++ [u]).length → VOwn w' B (.slice q n c') (l ++ [u]) → w.grownBy w' v.ownBlock → wpList Try.prog ops Q rest (a.put o.dst (.slice q n c')) w') : wpList Try.prog ops Q (o :: rest) a w := by
  obtain ⟨i, hi, hz0, hz1, hz2⟩ := info_parts info_val
  refine wpList_append_own w hgd s x _ ho B 42 i _ 3 40 Try.underlying24 hi hz0 hz1 hz2 rfl (by decide) v l.length (vCells l) hs hown ⟨b, 0, none⟩ 1 c (vCells [u]) hx rfl
    (fun j y hj => by
      rw [Addr.add_lit, Nat.zero_add, Joins.cell_of_block h0]
      match j, hj with
      | 0, hj => cases hj; rfl
      | 1, hj => cases hj; rfl
      | 2, hj => cases hj; rfl
      | j + 3, hj => simp [vCells] at hj) (fun y hy => by simp [vCells] at hy; rcases hy with rfl | rfl | rfl <;> rfl) (by simp only [maxLen]; omega) (by omega) hB ?_
  intro v' w' h1 h2 _
  have h1' : VOwn w' B v' (l ++ [u]) := by
    unfold VOwn
    rw [List.length_append, ← vCells_append]
    exact h1
  obtain ⟨q, c', rfl, _⟩ := row_form h1'
  exact h q _ c' w' rfl h1' h2

theorem Nd.leaf0_ok (w : World) : Nd.Ok w ⟨true, none, 0, [], none, 0, [], none, 0, []⟩ := ⟨Nat.le_refl _, (by show 0 ≤ _; omega), fun _ => rfl, (fun h => absurd rfl h), (fun x hx => by cases hx), Nat.le_refl _, (by show 0 ≤ _; omega), fun _ => rfl, (fun h => absurd rfl h), (fun x hx => by cases hx), Nat.le_refl _, (by show 0 ≤ _; omega), fun _ => rfl, (fun h => absurd rfl h), (fun x hx => by cases hx)⟩

end Go.Proofs.Ytigmibmebockhaa
