/-
  Slices of values that the call itself made; keys.Split: its contract, on the bytes of values.
-/
import Derived.Test.YtjimbjcfoebimaaKRList
import Derived.Test.YtjimbjcfoebimaaKVals
import Derived.Lib.AppendZeros
import Derived.Laws.OwnMore
import Derived.ArgAppend
import Derived.Outline
set_option linter.unusedVariables false
set_option maxRecDepth 100000
namespace Go.Proofs.Ytjimbjcfoebimaa
open Go.RowKit

def vaCells : List Va → List Value
  | [] => []
  | v :: l => .int .i64 v.a.k :: .int .i64 v.a.n :: .float .f64 v.a.f :: .string v.a.s :: .slice v.q v.m v.c :: vaCells l
theorem vaCells_length : ∀ l : List Va, (vaCells l).length = l.length * 5
  | [] => rfl
  | a :: l => by simp only [vaCells, List.length_cons, vaCells_length l]; omega
theorem vaCells_append : ∀ l m : List Va, vaCells l ++ vaCells m = vaCells (l ++ m)
  | [], m => rfl
  | a :: l, m => by simp only [vaCells, List.cons_append, vaCells_append l m]
theorem vaCells_one : ∀ (l : List Va), ∀ v ∈ vaCells l, v.oneCell' = true
  | [], v, h => by cases h
  | a :: l, v, h => by
    simp only [vaCells, List.mem_cons] at h
    rcases h with rfl | rfl | rfl | rfl | rfl | h
    · rfl
    · rfl
    · rfl
    · rfl
    · rfl
    · exact vaCells_one l v h
theorem vaCells_get : ∀ {l : List Va} {i : Nat} {a : Va}, l[i]? = some a → (vaCells l)[i * 5]? = some (.int .i64 a.a.k) ∧ (vaCells l)[i * 5 + 1]? = some (.int .i64 a.a.n) ∧ (vaCells l)[i * 5 + 2]? = some (.float .f64 a.a.f) ∧ (vaCells l)[i * 5 + 3]? = some (.string a.a.s) ∧ (vaCells l)[i * 5 + 4]? = some (.slice a.q a.m a.c)
  | [], i, a, h => by simp at h
  | b :: l, 0, a, h => by
    simp only [List.getElem?_cons_zero, Option.some.injEq] at h
    subst h
    exact ⟨rfl, rfl, rfl, rfl, rfl⟩
  | b :: l, i + 1, a, h => by
    have ih := vaCells_get (l := l) (i := i) (a := a) (by simpa using h)
    have e0 : (i + 1) * 5 = i * 5 + 1 + 1 + 1 + 1 + 1 := by omega
    have e1 : (i + 1) * 5 + 1 = i * 5 + 1 + 1 + 1 + 1 + 1 + 1 := by omega
    have e2 : (i + 1) * 5 + 2 = i * 5 + 2 + 1 + 1 + 1 + 1 + 1 := by omega
    have e3 : (i + 1) * 5 + 3 = i * 5 + 3 + 1 + 1 + 1 + 1 + 1 := by omega
    have e4 : (i + 1) * 5 + 4 = i * 5 + 4 + 1 + 1 + 1 + 1 + 1 := by omega
    rw [e1, e2, e3, e4, e0]
    simp only [vaCells, List.getElem?_cons_succ]
    exact ih

/-- A slice of the call's own that holds values. -/
def VOwn (w : World) (B : Nat) (v : Value) (l : List Va) : Prop := w.ownsRow B 27 5 v l.length (vaCells l)
theorem VOwn.nil (w : World) (B : Nat) : VOwn w B (.slice none 0 0) [] := World.ownsRow_nil w B _ _
theorem VOwn.form {w : World} {B : Nat} {v : Value} {l : List Va} (h : VOwn w B v l) {n : Nat} (hn : n = l.length) :
    ∃ p c, v = .slice p n c ∧ n ≤ c ∧ c ≤ 9223372036854775807 ∧ ((∀ x ∈ l, x.Ok w) → Vs w p l) := by
  subst hn
  rcases h.2 with ⟨rfl, h0⟩ | ⟨g, cap, cur, rfl, hb, hg, hnc, hcm, hcs, htake⟩
  · obtain rfl := List.eq_nil_of_length_eq_zero h0
    exact ⟨none, 0, rfl, Nat.le_refl _, by omega, fun h => ⟨h, fun h => absurd rfl h⟩⟩
  · refine ⟨some ⟨g, 0, none⟩, cap, rfl, hnc, by simp only [maxLen] at hcm; omega, fun hx => ⟨hx, fun _ => ⟨g, 0, rfl, fun i a hi => ?_⟩⟩⟩
    obtain ⟨c0, c1, c2, c3, c4⟩ := vaCells_get hi
    have r := fun j u hj => h.cells (g := g) rfl j u hj
    have r0 := r _ _ c0
    have r1 := r _ _ c1
    have r2 := r _ _ c2
    have r3 := r _ _ c3
    have r4 := r _ _ c4
    simp only [Addr.add_lit, Nat.zero_add] at r0 r1 r2 r3 r4
    rw [Nat.zero_add]
    exact ⟨r0, r1, r2, r3, r4⟩
theorem VOwn.le {w : World} {B B' : Nat} {v : Value} {l : List Va} (h : VOwn w B v l) (hb : B' ≤ B) : VOwn w B' v l := World.ownsRow.mono h hb
theorem VOwn.below {w w' : World} {B : Nat} {v : Value} {l : List Va} (h : VOwn w B v l) (hb : Below w.heap.size w w') : VOwn w' B v l := by
  refine ⟨h.1, ?_⟩
  rcases h.2 with h0 | ⟨g, cap, cur, hv, h1, hg, h2⟩
  · exact .inl h0
  · exact .inr ⟨g, cap, cur, hv, h1, by rw [hb.block g (Array.getElem?_eq_some_iff.1 hg).1]; exact hg, h2⟩
theorem VOwn.grown {w0 w w' : World} {B : Nat} {v : Value} {l : List Va} (h : VOwn w B v l) (hb : Below B w0 w) (hB : B ≤ w.heap.size) (hg : w.grownBy w' v.ownBlock) : Below B w0 w' :=
  hb.grown hg hB fun k hk => (World.ownsRow.lt h k hk).1

theorem info_value : (Try.prog.info? 27).map (fun i => (i.zero, i.size, i.bytes)) = some (some (.agg #[.int .i64 0, .int .i64 0, .float .f64 0, .string ⟨#[]⟩, .slice none 0 0]), 5, 64) := by kernel_rfl

/-- The list of a value does not lie in the slice's own block. -/
def Va.Apart (x : Va) (v : Value) : Prop := ∀ k, v.ownBlock = some k → x.l ≠ [] → ∀ a, x.q = some a → a.block ≠ k
theorem va_kept {w w' : World} {x : Va} {v v' : Value} (hx : x.Ok w) (ha : x.Apart v) (hg : w.grownBy w' v.ownBlock) (hv : v'.ownBlock = v.ownBlock ∨ ∀ k, v'.ownBlock = some k → w.heap.size ≤ k) : x.Ok w' ∧ x.Apart v' := by
  obtain ⟨a, q, m, c, l⟩ := x
  obtain ⟨h1, h2, h3, h4, h5, h6⟩ := hx
  dsimp only at *
  by_cases hl : l = []
  · subst hl
    exact ⟨⟨h1, h2, h3, h4, As.nil _ _, h6⟩, fun k hk hne => absurd rfl hne⟩
  · obtain ⟨b, o, hq, hc⟩ := h5 hl
    subst hq
    have hb : b < w.heap.size := by
      obtain ⟨x, hx⟩ : ∃ x, l[0]? = some x := ⟨_, List.getElem?_eq_getElem (List.length_pos_iff.2 hl)⟩
      exact (hc 0 x hx).lt
    have hne : ∀ k, v.ownBlock = some k → b ≠ k := fun k hk => ha k hk hl ⟨b, o, none⟩ rfl
    have hcell : ∀ i, w'.cell? ⟨b, i, none⟩ = w.cell? ⟨b, i, none⟩ := fun i => World.cell?_of_block (hg.block b hb (fun e => hne b e.symm rfl))
    refine ⟨⟨h1, h2, h3, h4, fun _ => ⟨b, o, rfl, fun i x hi => ?_⟩, h6⟩, fun k hk _ a ha' => ?_⟩
    · obtain ⟨c0, c1, c2, c3⟩ := hc i x hi
      exact ⟨by rw [hcell]; exact c0, by rw [hcell]; exact c1, by rw [hcell]; exact c2, by rw [hcell]; exact c3⟩
    · obtain rfl := Option.some.inj ha'
      show b ≠ k
      rcases hv with h | h
      · rw [h] at hk; exact hne k hk
      · have := h k hk; omega

theorem run_value {w : World} (ty : TypeId) {B : Nat} {v : Value} {l : List Va} (u : Va) (hown : VOwn w B v l) {ad : Addr} {c : Nat} (hsrc : ∀ j y, (vaCells [u])[j]? = some y → w.cell? (ad.add j) = some y) (hlen : l.length ≤ 100000) (hB : B ≤ w.heap.size) :
    ∃ v' w', (Builtin.append_ #[42, 42] ty #[v, .slice (some ad) 1 c]).run Try.prog w = .ok v' w' ∧ VOwn w' B v' (l ++ [u]) ∧ w.grownBy w' v.ownBlock ∧ (v'.ownBlock = v.ownBlock ∨ ∀ k, v'.ownBlock = some k → w.heap.size ≤ k) := by
  obtain ⟨i, hi, hz0, hz1, hz2⟩ := info_parts info_value
  have fin : ∀ {D : Nat} {v' : Value} {w' : World}, w'.ownsRow D 27 5 v' (l.length + 1) (vaCells l ++ vaCells [u]) → VOwn w' D v' (l ++ [u]) := by
    intro D v' w' h1
    unfold VOwn
    rw [← vaCells_append, List.length_append]
    exact h1
  have lo : ∀ {v' : Value} {w' : World}, VOwn w' w.heap.size v' (l ++ [u]) → ∀ k, v'.ownBlock = some k → w.heap.size ≤ k := fun h k hk => (World.ownsRow.lt h k hk).1
  rcases hown.2 with ⟨rfl, h0⟩ | ⟨g, cap, cur, rfl, hb, hg, hnc, hcm, hcs, htake⟩
  · have hl0 : l = [] := List.eq_nil_of_length_eq_zero h0
    subst hl0
    obtain ⟨v', w', hrun, r1, r2, _⟩ := run_append_own (P := Try.prog) w w.heap.size 42 ty 27 i _ 5 64 Try.underlying42 hi hz0 hz1 hz2 rfl (by decide) (.slice none 0 0) 0 [] (World.ownsRow_nil w _ _ _) ad 1 c (vaCells [u]) rfl hsrc (vaCells_one [u]) (by simp only [maxLen]; omega) (by omega) (Nat.le_refl _)
    exact ⟨v', w', hrun, (fin r1).le hB, r2, .inr (lo (fin r1))⟩
  · rcases Nat.lt_or_ge cap (l.length + 1) with hc | hc
    · obtain ⟨v', w', hrun, r1, r2⟩ := run_append_arg_grows (P := Try.prog) w 42 ty 27 i _ 5 64 Try.underlying42 hi hz0 hz1 hz2 rfl (by decide) ⟨g, 0, none⟩ l.length cap (vaCells l) (vaCells_length l) (fun j y hj => hown.cells (g := g) rfl j y hj) ad 1 c (vaCells [u]) rfl hsrc hc (by simp only [maxLen]; omega) (by omega)
      exact ⟨v', w', hrun, (fin r1).le hB, ⟨r2.os, r2.tape, r2.output, r2.size, fun k hk _ => r2.block k hk (by simp)⟩, .inr (lo (fin r1))⟩
    · obtain ⟨w', hrun, r1, r2⟩ := run_append_fits (P := Try.prog) (w := w) B 42 ty 27 i 5 Try.underlying42 hi hz1 g l.length cap (vaCells l) hown ad 1 c (vaCells [u]) rfl hsrc (vaCells_one [u]) hc
      exact ⟨_, w', hrun, fin r1, r2, .inl rfl⟩

/-- append(own, value). -/
theorem app_value {w : World} {ops : Array Oper} {rest : List Oper} {o : Oper} {a : Act} {Q : Exit → Act → World → Prop} (hgd : o.guard = none) (s x : Operand)
    (ho : o.op = .call { callee := .builtin .append, args := #[s, x], argTypes := #[42, 42] })
    {B : Nat} {v : Value} {l : List Va} (u : Va) (hs : a.eval s = v) (hown : VOwn w B v l) {ad : Addr} {n c : Nat} (hn : n = 1) (hx : a.eval x = .slice (some ad) n c) (hsrc : ∀ j y, (vaCells [u])[j]? = some y → w.cell? (ad.add j) = some y)
    (hlen : l.length ≤ 100000) (hB : B ≤ w.heap.size)
    (h : ∀ v' w', VOwn w' B v' (l ++ [u]) → Below B w w' → (∀ x : Va, x.Ok w → x.Apart v → x.Ok w' ∧ x.Apart v') → wpList Try.prog ops Q rest (a.put o.dst v') w') : wpList Try.prog ops Q (o :: rest) a w := by
  subst hn
  obtain ⟨v', w', hrun, r1, r2, r3⟩ := run_value o.type u hown (c := c) hsrc hlen hB
  refine Lib.wpList_append_run w hgd s x _ _ ho v _ hs hx v' w' hrun ?_
  exact h v' w' r1 (hown.grown (Below.refl _ _) hB r2) (fun x hx ha => va_kept hx ha r2 r3)

theorem va_src {w : World} {g : Nat} (hg : g = w.heap.size) (u : Va) (t : TypeId) : ∀ j y, (vaCells [u])[j]? = some y → (w.alloc (.cells #[.int .i64 u.a.k, .int .i64 u.a.n, .float .f64 u.a.f, .string u.a.s, .slice u.q u.m u.c] t)).cell? ((⟨g, 0, none⟩ : Addr).add j) = some y := by
  subst hg
  intro j y hj
  rw [Addr.add_lit, Joins.cell_of_block (heap_alloc_new w (.cells #[.int .i64 u.a.k, .int .i64 u.a.n, .float .f64 u.a.f, .string u.a.s, .slice u.q u.m u.c] t))]
  simpa [vaCells] using hj

end Go.Proofs.Ytjimbjcfoebimaa
