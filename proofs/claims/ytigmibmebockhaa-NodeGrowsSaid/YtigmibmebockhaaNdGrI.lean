/-
  NodeGrows: what holds of a chain of two appends onto a row of the law's own, and of what is laid for it, whatever order is drawn.
-/
import Derived.Test.YtigmibmebockhaaNdOwnR
import Derived.Test.YtigmibmebockhaaNdLawP
import Derived.Test.YtigmibmebockhaaOrdUp
import Derived.OneCell
import Derived.Laws.Rows
set_option linter.unusedVariables false
set_option maxRecDepth 100000
namespace Go.Proofs.Ytigmibmebockhaa
open Go.RowKit

theorem run_app_none {P : Program} {w : World} (base : Nat) (t ty e : TypeId) (i : TypeInfo) (size c : Nat) (ht : P.underlying t = some (.slice e)) (hi : P.info? e = some i)
    (v : Value) (n : Nat) (xs : List Value) (hown : w.ownsRow base e size v n xs) :
    (Builtin.append_ #[t, t] ty #[v, .slice none 0 c]).run P w = .ok v w := by
  rcases hown.2 with ⟨rfl, rfl⟩ | ⟨g, cap, cur, rfl, _, _, hnc, _⟩
  · simp [Builtin.append_, run_underlying ht, sizeOf, typeInfo, hi, Builtin.lenOf, Builtin.firstCells]
  · simp [Builtin.append_, run_underlying ht, sizeOf, typeInfo, hi, Builtin.lenOf, Builtin.firstCells, hnc, storeCells]
/-- append of what lies anywhere. -/
theorem run_appZ {w : World} (ty t e : TypeId) (i : TypeInfo) (z : Value) (size bytes : Nat) (ht : Try.prog.underlying t = some (.slice e)) (hi : Try.prog.info? e = some i) (hz : i.zero = some z) (hs : i.size = size) (hb : i.bytes = bytes) (hzs : z.cells.size = size) (hp : 0 < size) (h8 : bytes ≤ 64)
    {B : Nat} {v : Value} {n : Nat} {xs : List Value} (hown : w.ownsRow B e size v n xs) {q : Option Addr} {m c : Nat} {news : List Value} (hl : news.length = m * size) (hsrc : ∀ (j : Nat) u, news[j]? = some u → ∃ b o, q = some ⟨b, o, none⟩ ∧ w.cell? ⟨b, o + j, none⟩ = some u) (h1 : ∀ u ∈ news, u.oneCell' = true) (hlen : n + m ≤ 1000000) (hB : B ≤ w.heap.size) :
    ∃ v' w', (Builtin.append_ #[t, t] ty #[v, .slice q m c]).run Try.prog w = .ok v' w' ∧ w'.ownsRow B e size v' (n + m) (xs ++ news) ∧ w.grownBy w' v.ownBlock := by
  cases q with
  | none =>
    obtain rfl : news = [] := by
      rcases news with _ | ⟨u, news⟩
      · rfl
      · obtain ⟨b, o, hp, _⟩ := hsrc 0 u rfl
        cases hp
    obtain rfl : m = 0 := by
      rcases Nat.eq_zero_or_pos m with h | h
      · exact h
      · have := Nat.mul_pos h hp
        simp at hl
        omega
    exact ⟨v, w, run_app_none B t ty e i size c ht hi v n xs hown, by simpa using hown, ⟨rfl, rfl, rfl, Nat.le_refl _, fun _ _ _ => rfl⟩⟩
  | some ad =>
    have hcells : ∀ j u, news[j]? = some u → w.cell? (ad.add j) = some u := by
      intro j u hj
      obtain ⟨b, o, hp, hc⟩ := hsrc j u hj
      obtain rfl := Option.some.inj hp
      rw [Addr.add_lit]
      exact hc
    have hby : (n + m) * bytes ≤ 140737488355328 := Nat.le_trans (Nat.mul_le_mul hlen h8) (by decide)
    obtain ⟨v', w', hr, h2, h3, _⟩ := run_append_own (P := Try.prog) w B t ty e i z size bytes ht hi hz hs hb hzs hp v n xs hown ad m c news hl hcells h1 (by simp only [maxLen]; omega) hby hB
    exact ⟨v', w', hr, h2, h3⟩

/-- A row without anything; one of one cell; a box. -/
def EmpV (B : Nat) (e : TypeId) (x : Value) (w : World) : Prop := ∃ g, x = .slice (some ⟨g, 0, none⟩) 0 0 ∧ B ≤ g ∧ w.heap[g]? = some (.cells #[] e (0, 0))
def OneV (B : Nat) (e : TypeId) (u : Value) (x : Value) (w : World) : Prop := ∃ g, x = .slice (some ⟨g, 0, none⟩) 1 1 ∧ B ≤ g ∧ w.heap[g]? = some (.cells #[u] e (0, 0))
def BoxN (B : Nat) (x : Value) (w : World) : Prop := ∃ g, x = .pointer (some ⟨g, 0, none⟩) ∧ B ≤ g ∧ w.heap[g]? = some (.cells #[.bool false, .slice none 0 0, .slice none 0 0, .slice none 0 0] 27 (0, 0))
/-- All blocks of a type are as they were. -/
def KeepT (e : TypeId) (w w' : World) : Prop := ∀ (k : Nat) (c : Array Value) (f : Nat × Nat), w.heap[k]? = some (Obj.cells c e f) → w'.heap[k]? = some (Obj.cells c e f)
theorem KeepT.below {e : TypeId} {w w' : World} (hb : Below w.heap.size w w') : KeepT e w w' := fun k c f h => (hb.block k (Array.getElem?_eq_some_iff.1 h).1).trans h
theorem KeepT.grown {e e' : TypeId} {w w' : World} {B size n : Nat} {v : Value} {xs : List Value} (hg : w.grownBy w' v.ownBlock) (ho : w.ownsRow B e' size v n xs) (hne : e ≠ e') : KeepT e w w' := fun k c f h =>
  (hg.block k (Array.getElem?_eq_some_iff.1 h).1 (fun e2 => row_other ho h hne e2.symm)).trans h
theorem row_keep {w w' : World} {B size n : Nat} {e : TypeId} {v : Value} {xs : List Value} (h : w.ownsRow B e size v n xs) (hk : KeepT e w w') : w'.ownsRow B e size v n xs := by
  refine ⟨h.1, ?_⟩
  rcases h.2 with h0 | ⟨g, cap, cur, hv, hb, hg, h2⟩
  · exact .inl h0
  · exact .inr ⟨g, cap, cur, hv, hb, hk _ _ _ hg, h2⟩
theorem EmpV.row {B : Nat} {e : TypeId} {x : Value} {w : World} (h : EmpV B e x w) (size : Nat) : w.ownsRow B e size x 0 [] := by
  obtain ⟨g, rfl, hB, hg⟩ := h
  exact ⟨by simp, .inr ⟨g, 0, #[], rfl, hB, hg, Nat.le_refl _, by simp [maxLen], by simp, by simp⟩⟩

/-- A chain: a row is laid (a), what was there is put behind it (b), then one more (d), which was laid (c). -/
structure Fam (B : Nat) (e : TypeId) (size n : Nat) (xs : List Value) (u : Value) (a b c d : Bool) (x1 x2 x3 x4 : Value) (w : World) : Prop where
  ab : b = true → a = true
  dbc : d = true → b = true ∧ c = true
  p1 : a = true → b = false → EmpV B e x1 w
  p2 : b = true → d = false → w.ownsRow B e size x2 n xs
  p3 : c = true → d = false → OneV B e u x3 w
  p4 : d = true → w.ownsRow B e size x4 (n + 1) (xs ++ [u])
section
variable {B : Nat} {e : TypeId} {size n : Nat} {xs : List Value} {u : Value} {a b c d : Bool} {x1 x2 x3 x4 : Value} {w w' : World}
theorem Fam.none (x1 x2 x3 x4 : Value) (w : World) : Fam B e size n xs u false false false false x1 x2 x3 x4 w :=
  ⟨fun h => (by cases h), fun h => (by cases h), fun h => (by cases h), fun h => (by cases h), fun h => (by cases h), fun h => (by cases h)⟩
theorem Fam.keep (h : Fam B e size n xs u a b c d x1 x2 x3 x4 w) (hk : KeepT e w w') : Fam B e size n xs u a b c d x1 x2 x3 x4 w' :=
  ⟨h.ab, h.dbc, fun h1 h2 => by obtain ⟨g, e1, e2, e3⟩ := h.p1 h1 h2; exact ⟨g, e1, e2, hk _ _ _ e3⟩, fun h1 h2 => row_keep (h.p2 h1 h2) hk, fun h1 h2 => by obtain ⟨g, e1, e2, e3⟩ := h.p3 h1 h2; exact ⟨g, e1, e2, hk _ _ _ e3⟩, fun h1 => row_keep (h.p4 h1) hk⟩
theorem Fam.s1 (h : Fam B e size n xs u false b c d x1 x2 x3 x4 w) (hB : B ≤ w.heap.size) : Fam B e size n xs u true b c d (.slice (some ⟨w.heap.size, 0, Option.none⟩) 0 0) x2 x3 x4 (w.alloc (.cells #[] e)) := by
  have g := h.keep (w' := w.alloc (.cells #[] e)) (KeepT.below ((Below.refl _ _).alloc (Nat.le_refl _) _))
  exact ⟨fun _ => rfl, g.dbc, fun _ _ => ⟨_, rfl, hB, heap_alloc_new w _⟩, g.p2, g.p3, g.p4⟩
theorem Fam.s3 (h : Fam B e size n xs u a b false d x1 x2 x3 x4 w) (hB : B ≤ w.heap.size) : Fam B e size n xs u a b true d x1 x2 (.slice (some ⟨w.heap.size, 0, Option.none⟩) 1 1) x4 (w.alloc (.cells #[u] e)) := by
  have g := h.keep (w' := w.alloc (.cells #[u] e)) (KeepT.below ((Below.refl _ _).alloc (Nat.le_refl _) _))
  exact ⟨g.ab, fun hd => ⟨(g.dbc hd).1, rfl⟩, g.p1, g.p2, fun _ _ => ⟨_, rfl, hB, heap_alloc_new w _⟩, g.p4⟩
/-- What was there is put behind it. -/
theorem Fam.s2 (h : Fam B e size n xs u true false c false x1 x2 x3 x4 w) {y : Value} (ho : w'.ownsRow B e size y n xs) (hg : w.grownBy w' x1.ownBlock) : Fam B e size n xs u true true c false x1 y x3 x4 w' := by
  refine ⟨fun _ => rfl, fun hd => (by cases hd), fun _ hb => (by cases hb), fun _ _ => ho, fun hc hd => ?_, fun hd => (by cases hd)⟩
  obtain ⟨g3, e1, e2, e3⟩ := h.p3 hc hd
  obtain ⟨g1, rfl, _, f3⟩ := h.p1 rfl rfl
  refine ⟨g3, e1, e2, (hg.block g3 (Array.getElem?_eq_some_iff.1 e3).1 (fun e => ?_)).trans e3⟩
  have e4 : g3 = g1 := Option.some.inj e
  rw [e4, f3] at e3
  cases e3
theorem Fam.s4 (h : Fam B e size n xs u true true true false x1 x2 x3 x4 w) {y : Value} (ho : w'.ownsRow B e size y (n + 1) (xs ++ [u])) : Fam B e size n xs u true true true true x1 x2 x3 y w' :=
  ⟨fun _ => rfl, fun _ => ⟨rfl, rfl⟩, fun _ hb => (by cases hb), fun _ hd => (by cases hd), fun _ hd => (by cases hd), fun _ => ho⟩
end
theorem BoxN.keep {B : Nat} {x : Value} {w w' : World} (h : BoxN B x w) (hk : KeepT 27 w w') : BoxN B x w' := by
  obtain ⟨g, h1, h2, h3⟩ := h
  exact ⟨g, h1, h2, hk _ _ _ h3⟩

/-- One operation that appends, in a drawn region. -/
theorem step_appZ {w : World} {ops : Array Oper} {o : Oper} {a : Act} {K : Act → World → Prop} {Q : Exit → Act → World → Prop} {E : Prop} (hgd : o.guard = none) (s x : Operand) (t : TypeId)
    (ho : o.op = .call { callee := .builtin .append, args := #[s, x], argTypes := #[t, t] })
    {v y : Value} {w' : World} (hs : a.eval s = v) {q : Option Addr} {m c : Nat} (hx : a.eval x = .slice q m c) (hr : (Builtin.append_ #[t, t] o.type #[v, .slice q m c]).run Try.prog w = .ok y w')
    (h : K (a.put o.dst y) w') : if Region.wanted o (yielded ops a.tmps) = true then Oper.wp Try.prog o a w K Q else E := by
  have hw : Region.wanted o (yielded ops a.tmps) = true := by simp [Region.wanted, hgd]
  rw [if_pos hw]
  exact Lib.wp_append_run w s x t t ho v _ hs hx _ w' hr h

theorem vcells_at {l : List Vl} {j : Nat} {u : Value} (h : (vCells l)[j]? = some u) : ∃ x, l[j / 3]? = some x ∧ ((j % 3 = 0 ∧ u = .slice x.q x.l.length x.c) ∨ (j % 3 = 1 ∧ u = .int .i64 x.g) ∨ (j % 3 = 2 ∧ u = .int .i64 x.p)) := by
  have hj : j < (vCells l).length := (List.getElem?_eq_some_iff.1 h).1
  rw [vCells_length] at hj
  obtain ⟨x, hx⟩ : ∃ x, l[j / 3]? = some x := ⟨_, List.getElem?_eq_getElem (by omega)⟩
  obtain ⟨h0, h1, h2⟩ := vCells_get hx
  refine ⟨x, hx, ?_⟩
  have hm : j % 3 = 0 ∨ j % 3 = 1 ∨ j % 3 = 2 := by omega
  rcases hm with e | e | e
  · rw [show j / 3 * 3 = j by omega, h] at h0
    exact .inl ⟨e, Option.some.inj h0⟩
  · rw [show j / 3 * 3 + 1 = j by omega, h] at h1
    exact .inr (.inl ⟨e, Option.some.inj h1⟩)
  · rw [show j / 3 * 3 + 2 = j by omega, h] at h2
    exact .inr (.inr ⟨e, Option.some.inj h2⟩)
theorem vcells_src {w : World} {q : Option Addr} {l : List Vl} (h : Vls w q l) : (vCells l).length = l.length * 3 ∧ (∀ (j : Nat) u, (vCells l)[j]? = some u → ∃ b o, q = some ⟨b, o, none⟩ ∧ w.cell? ⟨b, o + j, none⟩ = some u) ∧ ∀ u ∈ vCells l, u.oneCell' = true := by
  refine ⟨vCells_length l, fun j u hj => ?_, fun u hu => ?_⟩
  · obtain ⟨x, hx, hc⟩ := vcells_at hj
    obtain ⟨b, o, hq, _, h0, h1, h2⟩ := h.at hx
    refine ⟨b, o, hq, ?_⟩
    rcases hc with ⟨e, rfl⟩ | ⟨e, rfl⟩ | ⟨e, rfl⟩
    · rw [show o + j = o + j / 3 * 3 by omega]; exact h0
    · rw [show o + j = o + j / 3 * 3 + 1 by omega]; exact h1
    · rw [show o + j = o + j / 3 * 3 + 2 by omega]; exact h2
  · obtain ⟨j, hj, rfl⟩ := List.mem_iff_getElem.1 hu
    obtain ⟨x, _, ⟨_, e⟩ | ⟨_, e⟩ | ⟨_, e⟩⟩ := vcells_at (List.getElem?_eq_getElem hj) <;> rw [e] <;> rfl

/-- What holds in each state of the region that makes the greater node. -/
structure GrI (B : Nat) (Wb : World) (lf : Bool) (ks : List Kb) (kv : Value) (vs : List Vl) (is : List Int) (kid : Int) (l2 l5 l7 l8 l9 l12 l13 l16 l18 l19 l20 l21 : Bool) (x33 x36 x38 x39 x40 x43 x44 x47 x49 x50 x51 x7 : Value) (w : World) : Prop where
  fk : Fam B 22 1 ks.length (kCells ks) kv l2 l5 l7 l8 x33 x36 x38 x39 w
  fv : Fam B 42 3 vs.length (vCells vs) undef l9 l12 false false x40 x43 undef undef w
  fi : Fam B 3 1 is.length (i64s is) (.int .i64 kid) l13 l16 l18 l19 x44 x47 x49 x50 w
  bx : l21 = true → BoxN B x7 w
  bd : l20 = true → l8 = true ∧ l12 = true ∧ l19 = true ∧ x51 = .agg #[.bool lf, x39, x43, x50]
  bl : Below B Wb w
  bs : B ≤ w.heap.size
section
variable {B : Nat} {Wb : World} {lf : Bool} {ks : List Kb} {kv : Value} {vs : List Vl} {is : List Int} {kid : Int} {l2 l5 l7 l8 l9 l12 l13 l16 l18 l19 l20 l21 : Bool} {x33 x36 x38 x39 x40 x43 x44 x47 x49 x50 x51 x7 : Value} {w w' : World}
theorem GrI.s2 (h : GrI B Wb lf ks kv vs is kid false l5 l7 l8 l9 l12 l13 l16 l18 l19 l20 l21 x33 x36 x38 x39 x40 x43 x44 x47 x49 x50 x51 x7 w) : GrI B Wb lf ks kv vs is kid true l5 l7 l8 l9 l12 l13 l16 l18 l19 l20 l21 (.slice (some ⟨w.heap.size, 0, Option.none⟩) 0 0) x36 x38 x39 x40 x43 x44 x47 x49 x50 x51 x7 (w.alloc (.cells #[] 22)) :=
  ⟨h.fk.s1 h.bs, h.fv.keep (KeepT.below ((Below.refl _ _).alloc (Nat.le_refl _) _)), h.fi.keep (KeepT.below ((Below.refl _ _).alloc (Nat.le_refl _) _)), fun h1 => (h.bx h1).keep (KeepT.below ((Below.refl _ _).alloc (Nat.le_refl _) _)), h.bd, h.bl.alloc h.bs _, by simp; have := h.bs; omega⟩
theorem GrI.s7 (h : GrI B Wb lf ks kv vs is kid l2 l5 false l8 l9 l12 l13 l16 l18 l19 l20 l21 x33 x36 x38 x39 x40 x43 x44 x47 x49 x50 x51 x7 w) : GrI B Wb lf ks kv vs is kid l2 l5 true l8 l9 l12 l13 l16 l18 l19 l20 l21 x33 x36 (.slice (some ⟨w.heap.size, 0, Option.none⟩) 1 1) x39 x40 x43 x44 x47 x49 x50 x51 x7 (w.alloc (.cells #[kv] 22)) :=
  ⟨h.fk.s3 h.bs, h.fv.keep (KeepT.below ((Below.refl _ _).alloc (Nat.le_refl _) _)), h.fi.keep (KeepT.below ((Below.refl _ _).alloc (Nat.le_refl _) _)), fun h1 => (h.bx h1).keep (KeepT.below ((Below.refl _ _).alloc (Nat.le_refl _) _)), h.bd, h.bl.alloc h.bs _, by simp; have := h.bs; omega⟩
theorem GrI.s9 (h : GrI B Wb lf ks kv vs is kid l2 l5 l7 l8 false l12 l13 l16 l18 l19 l20 l21 x33 x36 x38 x39 x40 x43 x44 x47 x49 x50 x51 x7 w) : GrI B Wb lf ks kv vs is kid l2 l5 l7 l8 true l12 l13 l16 l18 l19 l20 l21 x33 x36 x38 x39 (.slice (some ⟨w.heap.size, 0, Option.none⟩) 0 0) x43 x44 x47 x49 x50 x51 x7 (w.alloc (.cells #[] 42)) :=
  ⟨h.fk.keep (KeepT.below ((Below.refl _ _).alloc (Nat.le_refl _) _)), h.fv.s1 h.bs, h.fi.keep (KeepT.below ((Below.refl _ _).alloc (Nat.le_refl _) _)), fun h1 => (h.bx h1).keep (KeepT.below ((Below.refl _ _).alloc (Nat.le_refl _) _)), h.bd, h.bl.alloc h.bs _, by simp; have := h.bs; omega⟩
theorem GrI.s13 (h : GrI B Wb lf ks kv vs is kid l2 l5 l7 l8 l9 l12 false l16 l18 l19 l20 l21 x33 x36 x38 x39 x40 x43 x44 x47 x49 x50 x51 x7 w) : GrI B Wb lf ks kv vs is kid l2 l5 l7 l8 l9 l12 true l16 l18 l19 l20 l21 x33 x36 x38 x39 x40 x43 (.slice (some ⟨w.heap.size, 0, Option.none⟩) 0 0) x47 x49 x50 x51 x7 (w.alloc (.cells #[] 3)) :=
  ⟨h.fk.keep (KeepT.below ((Below.refl _ _).alloc (Nat.le_refl _) _)), h.fv.keep (KeepT.below ((Below.refl _ _).alloc (Nat.le_refl _) _)), h.fi.s1 h.bs, fun h1 => (h.bx h1).keep (KeepT.below ((Below.refl _ _).alloc (Nat.le_refl _) _)), h.bd, h.bl.alloc h.bs _, by simp; have := h.bs; omega⟩
theorem GrI.s18 (h : GrI B Wb lf ks kv vs is kid l2 l5 l7 l8 l9 l12 l13 l16 false l19 l20 l21 x33 x36 x38 x39 x40 x43 x44 x47 x49 x50 x51 x7 w) : GrI B Wb lf ks kv vs is kid l2 l5 l7 l8 l9 l12 l13 l16 true l19 l20 l21 x33 x36 x38 x39 x40 x43 x44 x47 (.slice (some ⟨w.heap.size, 0, Option.none⟩) 1 1) x50 x51 x7 (w.alloc (.cells #[.int .i64 kid] 3)) :=
  ⟨h.fk.keep (KeepT.below ((Below.refl _ _).alloc (Nat.le_refl _) _)), h.fv.keep (KeepT.below ((Below.refl _ _).alloc (Nat.le_refl _) _)), h.fi.s3 h.bs, fun h1 => (h.bx h1).keep (KeepT.below ((Below.refl _ _).alloc (Nat.le_refl _) _)), h.bd, h.bl.alloc h.bs _, by simp; have := h.bs; omega⟩
theorem GrI.s21 (h : GrI B Wb lf ks kv vs is kid l2 l5 l7 l8 l9 l12 l13 l16 l18 l19 l20 false x33 x36 x38 x39 x40 x43 x44 x47 x49 x50 x51 x7 w) : GrI B Wb lf ks kv vs is kid l2 l5 l7 l8 l9 l12 l13 l16 l18 l19 l20 true x33 x36 x38 x39 x40 x43 x44 x47 x49 x50 x51 (.pointer (some ⟨w.heap.size, 0, Option.none⟩)) (w.alloc (.cells #[.bool false, .slice Option.none 0 0, .slice Option.none 0 0, .slice Option.none 0 0] 27)) :=
  ⟨h.fk.keep (KeepT.below ((Below.refl _ _).alloc (Nat.le_refl _) _)), h.fv.keep (KeepT.below ((Below.refl _ _).alloc (Nat.le_refl _) _)), h.fi.keep (KeepT.below ((Below.refl _ _).alloc (Nat.le_refl _) _)), fun _ => ⟨_, rfl, h.bs, heap_alloc_new w _⟩, h.bd, h.bl.alloc h.bs _, by simp; have := h.bs; omega⟩
theorem GrI.s5 (h : GrI B Wb lf ks kv vs is kid true false l7 false l9 l12 l13 l16 l18 l19 l20 l21 x33 x36 x38 x39 x40 x43 x44 x47 x49 x50 x51 x7 w) {y : Value} (ho : w'.ownsRow B 22 1 y ks.length (kCells ks)) (hg : w.grownBy w' x33.ownBlock) : GrI B Wb lf ks kv vs is kid true true l7 false l9 l12 l13 l16 l18 l19 l20 l21 x33 y x38 x39 x40 x43 x44 x47 x49 x50 x51 x7 w' := by
  have row := (h.fk.p1 rfl rfl).row 1
  have hb : Below B w w' := gr_low hg h.bs (fun k hk => (World.ownsRow.lt row k hk).1)
  exact ⟨h.fk.s2 ho hg, h.fv.keep (KeepT.grown hg row (by decide)), h.fi.keep (KeepT.grown hg row (by decide)), fun h1 => (h.bx h1).keep (KeepT.grown hg row (by decide)), h.bd, h.bl.trans hb, Nat.le_trans h.bs hg.size⟩
theorem GrI.s8 (h : GrI B Wb lf ks kv vs is kid true true true false l9 l12 l13 l16 l18 l19 l20 l21 x33 x36 x38 x39 x40 x43 x44 x47 x49 x50 x51 x7 w) {y : Value} (ho : w'.ownsRow B 22 1 y (ks.length + 1) (kCells ks ++ [kv])) (hg : w.grownBy w' x36.ownBlock) : GrI B Wb lf ks kv vs is kid true true true true l9 l12 l13 l16 l18 l19 l20 l21 x33 x36 x38 y x40 x43 x44 x47 x49 x50 x51 x7 w' := by
  have row := h.fk.p2 rfl rfl
  have hb : Below B w w' := gr_low hg h.bs (fun k hk => (World.ownsRow.lt row k hk).1)
  exact ⟨h.fk.s4 ho, h.fv.keep (KeepT.grown hg row (by decide)), h.fi.keep (KeepT.grown hg row (by decide)), fun h1 => (h.bx h1).keep (KeepT.grown hg row (by decide)), fun h1 => (by have := (h.bd h1).1; cases this), h.bl.trans hb, Nat.le_trans h.bs hg.size⟩
theorem GrI.s12 (h : GrI B Wb lf ks kv vs is kid l2 l5 l7 l8 true false l13 l16 l18 l19 l20 l21 x33 x36 x38 x39 x40 x43 x44 x47 x49 x50 x51 x7 w) {y : Value} (ho : w'.ownsRow B 42 3 y vs.length (vCells vs)) (hg : w.grownBy w' x40.ownBlock) : GrI B Wb lf ks kv vs is kid l2 l5 l7 l8 true true l13 l16 l18 l19 l20 l21 x33 x36 x38 x39 x40 y x44 x47 x49 x50 x51 x7 w' := by
  have row := (h.fv.p1 rfl rfl).row 3
  have hb : Below B w w' := gr_low hg h.bs (fun k hk => (World.ownsRow.lt row k hk).1)
  exact ⟨h.fk.keep (KeepT.grown hg row (by decide)), h.fv.s2 ho hg, h.fi.keep (KeepT.grown hg row (by decide)), fun h1 => (h.bx h1).keep (KeepT.grown hg row (by decide)), fun h1 => (by have := (h.bd h1).2.1; cases this), h.bl.trans hb, Nat.le_trans h.bs hg.size⟩
theorem GrI.s16 (h : GrI B Wb lf ks kv vs is kid l2 l5 l7 l8 l9 l12 true false l18 false l20 l21 x33 x36 x38 x39 x40 x43 x44 x47 x49 x50 x51 x7 w) {y : Value} (ho : w'.ownsRow B 3 1 y is.length (i64s is)) (hg : w.grownBy w' x44.ownBlock) : GrI B Wb lf ks kv vs is kid l2 l5 l7 l8 l9 l12 true true l18 false l20 l21 x33 x36 x38 x39 x40 x43 x44 y x49 x50 x51 x7 w' := by
  have row := (h.fi.p1 rfl rfl).row 1
  have hb : Below B w w' := gr_low hg h.bs (fun k hk => (World.ownsRow.lt row k hk).1)
  exact ⟨h.fk.keep (KeepT.grown hg row (by decide)), h.fv.keep (KeepT.grown hg row (by decide)), h.fi.s2 ho hg, fun h1 => (h.bx h1).keep (KeepT.grown hg row (by decide)), h.bd, h.bl.trans hb, Nat.le_trans h.bs hg.size⟩
theorem GrI.s19 (h : GrI B Wb lf ks kv vs is kid l2 l5 l7 l8 l9 l12 true true true false l20 l21 x33 x36 x38 x39 x40 x43 x44 x47 x49 x50 x51 x7 w) {y : Value} (ho : w'.ownsRow B 3 1 y (is.length + 1) (i64s is ++ [.int .i64 kid])) (hg : w.grownBy w' x47.ownBlock) : GrI B Wb lf ks kv vs is kid l2 l5 l7 l8 l9 l12 true true true true l20 l21 x33 x36 x38 x39 x40 x43 x44 x47 x49 y x51 x7 w' := by
  have row := h.fi.p2 rfl rfl
  have hb : Below B w w' := gr_low hg h.bs (fun k hk => (World.ownsRow.lt row k hk).1)
  exact ⟨h.fk.keep (KeepT.grown hg row (by decide)), h.fv.keep (KeepT.grown hg row (by decide)), h.fi.s4 ho, fun h1 => (h.bx h1).keep (KeepT.grown hg row (by decide)), fun h1 => (by have := (h.bd h1).2.2.1; cases this), h.bl.trans hb, Nat.le_trans h.bs hg.size⟩
theorem GrI.s20 (h : GrI B Wb lf ks kv vs is kid l2 l5 l7 true l9 true l13 l16 l18 true false l21 x33 x36 x38 x39 x40 x43 x44 x47 x49 x50 x51 x7 w) : GrI B Wb lf ks kv vs is kid l2 l5 l7 true l9 true l13 l16 l18 true true l21 x33 x36 x38 x39 x40 x43 x44 x47 x49 x50 (.agg #[.bool lf, x39, x43, x50]) x7 w :=
  ⟨h.fk, h.fv, h.fi, h.bx, fun _ => ⟨rfl, rfl, rfl, rfl⟩, h.bl, h.bs⟩
end

end Go.Proofs.Ytigmibmebockhaa
