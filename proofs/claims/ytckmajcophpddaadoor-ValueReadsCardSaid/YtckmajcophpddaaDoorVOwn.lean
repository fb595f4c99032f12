/-
  Slices of atoms that the call itself made: what they hold, and append onto them.
-/
import Derived.Test.YtckmajcophpddaaDoorVAt
import Derived.Laws.AppendOwnNone
import Derived.Deep.Onto
set_option linter.unusedVariables false
set_option maxRecDepth 100000
namespace Go.Proofs.YtckmajcophpddaaDoor
open Go.RowKit

/-- The cells of atoms. -/
def atCells : List At → List Value
  | [] => []
  | a :: l => .int .i64 a.k :: .int .i64 a.n :: .float .f64 a.f :: .string a.s :: atCells l
theorem atCells_length : ∀ l : List At, (atCells l).length = l.length * 4
  | [] => rfl
  | a :: l => by simp only [atCells, List.length_cons, atCells_length l]; omega
theorem atCells_append : ∀ l m : List At, atCells l ++ atCells m = atCells (l ++ m)
  | [], m => rfl
  | a :: l, m => by simp only [atCells, List.cons_append, atCells_append l m]
theorem atCells_one : ∀ (l : List At), ∀ v ∈ atCells l, v.oneCell' = true
  | [], v, h => by cases h
  | a :: l, v, h => by
    simp only [atCells, List.mem_cons] at h
    rcases h with rfl | rfl | rfl | rfl | h
    · rfl
    · rfl
    · rfl
    · rfl
    · exact atCells_one l v h
theorem atCells_get : ∀ {l : List At} {i : Nat} {a : At}, l[i]? = some a → (atCells l)[i * 4]? = some (.int .i64 a.k) ∧ (atCells l)[i * 4 + 1]? = some (.int .i64 a.n) ∧ (atCells l)[i * 4 + 2]? = some (.float .f64 a.f) ∧ (atCells l)[i * 4 + 3]? = some (.string a.s)
  | [], i, a, h => by simp at h
  | b :: l, 0, a, h => by
    simp only [List.getElem?_cons_zero, Option.some.injEq] at h
    subst h
    exact ⟨rfl, rfl, rfl, rfl⟩
  | b :: l, i + 1, a, h => by
    have ih := atCells_get (l := l) (i := i) (a := a) (by simpa using h)
    have e0 : (i + 1) * 4 = i * 4 + 1 + 1 + 1 + 1 := by omega
    have e1 : (i + 1) * 4 + 1 = i * 4 + 1 + 1 + 1 + 1 + 1 := by omega
    have e2 : (i + 1) * 4 + 2 = i * 4 + 2 + 1 + 1 + 1 + 1 := by omega
    have e3 : (i + 1) * 4 + 3 = i * 4 + 3 + 1 + 1 + 1 + 1 := by omega
    rw [e1, e2, e3, e0]
    simp only [atCells, List.getElem?_cons_succ]
    exact ih
theorem atCells_at : ∀ {l : List At} {j : Nat} {u : Value}, (atCells l)[j]? = some u → ∃ i a, l[i]? = some a ∧ (j = i * 4 ∧ u = .int .i64 a.k ∨ j = i * 4 + 1 ∧ u = .int .i64 a.n ∨ j = i * 4 + 2 ∧ u = .float .f64 a.f ∨ j = i * 4 + 3 ∧ u = .string a.s)
  | [], j, u, h => by simp [atCells] at h
  | b :: l, 0, u, h => ⟨0, b, rfl, .inl ⟨rfl, by simpa [atCells] using h.symm⟩⟩
  | b :: l, 1, u, h => ⟨0, b, rfl, .inr (.inl ⟨rfl, by simpa [atCells] using h.symm⟩)⟩
  | b :: l, 2, u, h => ⟨0, b, rfl, .inr (.inr (.inl ⟨rfl, by simpa [atCells] using h.symm⟩))⟩
  | b :: l, 3, u, h => ⟨0, b, rfl, .inr (.inr (.inr ⟨rfl, by simpa [atCells] using h.symm⟩))⟩
  | b :: l, j + 4, u, h => by
    obtain ⟨i, a, hi, hc⟩ := atCells_at (l := l) (j := j) (u := u) (by simpa [atCells] using h)
    refine ⟨i + 1, a, by simpa using hi, ?_⟩
    rcases hc with ⟨h1, h2⟩ | ⟨h1, h2⟩ | ⟨h1, h2⟩ | ⟨h1, h2⟩
    · exact .inl ⟨by omega, h2⟩
    · exact .inr (.inl ⟨by omega, h2⟩)
    · exact .inr (.inr (.inl ⟨by omega, h2⟩))
    · exact .inr (.inr (.inr ⟨by omega, h2⟩))

theorem As.src {w : World} {ad : Addr} {l : List At} (h : As w (some ad) l) : ∀ j u, (atCells l)[j]? = some u → w.cell? (ad.add j) = some u := by
  intro j u hj
  obtain ⟨i, a, hi, hc⟩ := atCells_at hj
  obtain ⟨b, o, hp, hk, hn, hf, hs⟩ := h.at hi
  obtain rfl := Option.some.inj hp
  rw [Addr.add_lit]
  rcases hc with ⟨rfl, rfl⟩ | ⟨rfl, rfl⟩ | ⟨rfl, rfl⟩ | ⟨rfl, rfl⟩
  · exact hk
  · exact hn
  · exact hf
  · exact hs

/-- A slice of the call's own that holds the atoms l. -/
def AOwn (w : World) (B : Nat) (v : Value) (l : List At) : Prop := w.ownsRow B 24 4 v l.length (atCells l)
theorem AOwn.nil (w : World) (B : Nat) : AOwn w B (.slice none 0 0) [] := World.ownsRow_nil w B _ _
theorem AOwn.form {w : World} {B : Nat} {v : Value} {l : List At} (h : AOwn w B v l) {n : Nat} (hn : n = l.length) :
    ∃ p c, v = .slice p n c ∧ n ≤ c ∧ c ≤ 9223372036854775807 ∧ As w p l := by
  subst hn
  rcases h.2 with ⟨rfl, h0⟩ | ⟨g, cap, cur, rfl, hb, hg, hnc, hcm, hcs, htake⟩
  · obtain rfl := List.eq_nil_of_length_eq_zero h0
    exact ⟨none, 0, rfl, Nat.le_refl _, by omega, As.nil _ _⟩
  · refine ⟨some ⟨g, 0, none⟩, cap, rfl, hnc, by simp only [maxLen] at hcm; omega, ?_⟩
    intro _
    refine ⟨g, 0, rfl, fun i a hi => ?_⟩
    obtain ⟨c0, c1, c2, c3⟩ := atCells_get hi
    have r := fun j u hj => h.cells (g := g) rfl j u hj
    have r0 := r _ _ c0
    have r1 := r _ _ c1
    have r2 := r _ _ c2
    have r3 := r _ _ c3
    simp only [Addr.add_lit, Nat.zero_add] at r0 r1 r2 r3
    rw [Nat.zero_add]
    exact ⟨r0, r1, r2, r3⟩
theorem AOwn.le {w : World} {B B' : Nat} {v : Value} {l : List At} (h : AOwn w B v l) (hb : B' ≤ B) : AOwn w B' v l := World.ownsRow.mono h hb
theorem AOwn.below {w w' : World} {B : Nat} {v : Value} {l : List At} (h : AOwn w B v l) (hb : Below w.heap.size w w') : AOwn w' B v l := by
  refine ⟨h.1, ?_⟩
  rcases h.2 with h0 | ⟨g, cap, cur, hv, h1, hg, h2⟩
  · exact .inl h0
  · exact .inr ⟨g, cap, cur, hv, h1, by rw [hb.block g (Array.getElem?_eq_some_iff.1 hg).1]; exact hg, h2⟩
theorem AOwn.empty (w : World) (B : Nat) (hB : B ≤ w.heap.size) : AOwn (w.alloc (.cells #[] 24)) B (.slice (some ⟨w.heap.size, 0, none⟩) 0 0) [] :=
  World.ownsRow_made w #[] 0 hB (by simp [maxLen]) rfl
theorem AOwn.grown {w0 w w' : World} {B : Nat} {v : Value} {l : List At} (h : AOwn w B v l) (hb : Below B w0 w) (hB : B ≤ w.heap.size) (hg : w.grownBy w' v.ownBlock) : Below B w0 w' :=
  hb.grown hg hB fun k hk => (World.ownsRow.lt h k hk).1

theorem info_atom : (Tryd.prog.info? 24).map (fun i => (i.zero, i.size, i.bytes)) = some (some (.agg #[.int .i64 0, .int .i64 0, .float .f64 0, .string ⟨#[]⟩]), 4, 40) := by kernel_rfl

/-- append(own, atoms...): the source wherever it lies, nil too. -/
theorem app_atoms {w : World} {ops : Array Oper} {rest : List Oper} {o : Oper} {a : Act} {Q : Exit → Act → World → Prop} (hgd : o.guard = none) (s x : Operand)
    (ho : o.op = .call { callee := .builtin .append, args := #[s, x], argTypes := #[25, 25] })
    {B : Nat} {v : Value} {l m : List At} (hs : a.eval s = v) (hown : AOwn w B v l) {p : Option Addr} {n c : Nat} (hn : n = m.length) (hx : a.eval x = .slice p n c) (hsrc : As w p m) (hp : p = none → c = 0)
    (hlen : l.length + m.length ≤ 100000) (hB : B ≤ w.heap.size)
    (h : ∀ v' w', AOwn w' B v' (l ++ m) → Below B w w' → wpList Tryd.prog ops Q rest (a.put o.dst v') w') : wpList Tryd.prog ops Q (o :: rest) a w := by
  subst hn
  obtain ⟨i, hi, hz0, hz1, hz2⟩ := info_parts info_atom
  cases p with
  | none =>
    obtain rfl : m = [] := by
      rcases m with _ | ⟨u, m⟩
      · rfl
      · obtain ⟨b, o, hp, _⟩ := hsrc (by simp)
        cases hp
    obtain rfl := hp rfl
    have hx' : a.eval x = .slice none 0 0 := hx
    refine wpList_append_own_none hgd s x _ ho B 24 i 4 Tryd.underlying25 hi v l.length (atCells l) hs hown hx' ?_
    exact h v w (by simpa using hown) (Below.refl _ _)
  | some ad =>
    refine wpList_append_own w hgd s x _ ho B 24 i _ 4 40 Tryd.underlying25 hi hz0 hz1 hz2 rfl (by decide) v l.length (atCells l) hs hown ad m.length c (atCells m) hx (atCells_length m) hsrc.src (atCells_one m) (by simp only [maxLen]; omega) (by omega) hB ?_
    intro v' w' h1 h2 _
    refine h v' w' ?_ (hown.grown (Below.refl _ _) hB h2)
    unfold AOwn
    rw [← atCells_append, List.length_append]
    exact h1

theorem AOwn.fresh {w : World} {B g : Nat} (hg : g = w.heap.size) (hB : B ≤ g) : AOwn (w.alloc (.cells #[] 24)) B (.slice (some ⟨g, 0, none⟩) 0 0) [] := by
  subst hg
  exact AOwn.empty w B hB
/-- A store below its block leaves a slice of the call's own. -/
theorem AOwn.far {w : World} {B : Nat} {v : Value} {l : List At} (h : AOwn w B v l) {p : Addr} (hp : p.block < B) (u : Value) : AOwn (w.setCell p u) B v l := by
  refine ⟨h.1, ?_⟩
  rcases h.2 with h0 | ⟨g, cap, cur, hv, h1, hg, h2⟩
  · exact .inl h0
  · exact .inr ⟨g, cap, cur, hv, h1, by rw [Below.heap_setCell w p u g (by omega)]; exact hg, h2⟩
/-- A block of the call's own below a bound that is left alone. -/
theorem own_cell {W w2 : World} {cs : Array Value} {t : TypeId} {B : Nat} (hW : W.heap[B]? = some (.cells cs t (0, 0))) (hb : Below (B + 1) W w2) (i : Nat) : w2.cell? ⟨B, i, none⟩ = cs[i]? ∧ w2.frozen? ⟨B, i, none⟩ = false := by
  have h := hb.block B (by omega)
  rw [hW] at h
  exact ⟨Joins.cell_of_block h i, Joins.unfrozen_of_block h i⟩

end Go.Proofs.YtckmajcophpddaaDoor
