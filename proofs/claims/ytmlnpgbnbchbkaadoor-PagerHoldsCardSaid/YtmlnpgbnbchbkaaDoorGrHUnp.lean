/-
  PagerHolds: parts of rows appended onto new rows: append(append([]T{}, xs[:k]...), xs[k+1:]...), for ints and for states.
-/
import Derived.Test.YtmlnpgbnbchbkaaDoorH34
set_option linter.unusedVariables false
set_option maxRecDepth 100000
namespace Go.Proofs.YtmlnpgbnbchbkaaDoor
open Go.RowKit

/-- append(states, states...), as a step of a region that draws its order. -/
theorem step_appQ {w : World} {ops : Array Oper} {o : Oper} {a : Act} {K : Act → World → Prop} {Q : Exit → Act → World → Prop} {E : Prop} (hg : o.guard = none) (s x : Operand)
    (ho : o.op = .call { callee := .builtin .append, args := #[s, x], argTypes := #[36, 36] })
    {B : Nat} {v : Value} {l m : List HS} (hs : a.eval s = v) (hown : w.ownsRow B 35 3 v l.length (l.flatMap HS.cells)) {ad : Addr} {n c : Nat} (hx : a.eval x = .slice (some ad) n c) (hn : n = m.length) (hsrc : ∀ j u, (m.flatMap HS.cells)[j]? = some u → w.cell? (ad.add j) = some u) (hone : ∀ q ∈ m, q.v1.oneCell' = true ∧ q.v2.oneCell' = true) (hlen : l.length + m.length ≤ 1000000) (hB : B ≤ w.heap.size)
    (h : ∀ v' w', w'.ownsRow B 35 3 v' (l ++ m).length ((l ++ m).flatMap HS.cells) → w.grownBy w' v.ownBlock → K (a.put o.dst v') w') : if Region.wanted o (yielded ops a.tmps) = true then Oper.wp Tryd.prog o a w K Q else E := by
  have hw : Region.wanted o (yielded ops a.tmps) = true := by simp [Region.wanted, hg]
  rw [if_pos hw]
  obtain ⟨i, hi, hz0, hz1, hz2⟩ := info_parts info_state
  have hl : ∀ m : List HS, (m.flatMap HS.cells).length = m.length * 3 := fun m => by
    induction m with
    | nil => rfl
    | cons a m ih => rw [List.flatMap_cons, List.length_append, ih, List.length_cons]; show 3 + m.length * 3 = _; omega
  obtain ⟨v', w', hr, h1, h2, _⟩ := run_append_own (P := Tryd.prog) w B 36 o.type 35 i _ 3 56 Tryd.underlying36 hi hz0 hz1 hz2 rfl (by decide) v l.length (l.flatMap HS.cells) hown ad n c (m.flatMap HS.cells) (by rw [hl, hn]) hsrc (fun u hu => by
    obtain ⟨q, hq, hu⟩ := List.mem_flatMap.1 hu
    simp only [HS.cells, List.mem_cons, List.not_mem_nil, or_false] at hu
    rcases hu with rfl | rfl | rfl
    · exact (hone q hq).1
    · exact (hone q hq).2
    · rfl) (by rw [hn]; simp only [maxLen]; omega) (by rw [hn]; omega) hB
  refine Lib.wp_append_run w s x 36 36 ho v _ hs hx v' w' hr (h v' w' ?_ h2)
  rw [List.length_append, List.flatMap_append, ← hn]
  exact h1

theorem flat_len (m : List HS) : (m.flatMap HS.cells).length = m.length * 3 := by
  induction m with
  | nil => rfl
  | cons a m ih => rw [List.flatMap_cons, List.length_append, ih, List.length_cons]; show 3 + m.length * 3 = _; omega
theorem flat_take (m : List HS) (k : Nat) : (m.take k).flatMap HS.cells = (m.flatMap HS.cells).take (k * 3) := by
  induction m generalizing k with
  | nil => simp
  | cons a m ih =>
    cases k with
    | zero => simp
    | succ k =>
      rw [List.take_succ_cons, List.flatMap_cons, List.flatMap_cons, ih, show (k + 1) * 3 = k * 3 + 1 + 1 + 1 by omega]
      rfl
theorem flat_drop (m : List HS) (k : Nat) : (m.drop k).flatMap HS.cells = (m.flatMap HS.cells).drop (k * 3) := by
  induction m generalizing k with
  | nil => simp
  | cons a m ih =>
    cases k with
    | zero => simp
    | succ k =>
      rw [List.drop_succ_cons, ih, List.flatMap_cons, show (k + 1) * 3 = k * 3 + 1 + 1 + 1 by omega]
      rfl
/-- The cells of a part of a row. -/
theorem part_head {w : World} {B n s : Nat} {e : TypeId} {g c : Nat} {xs : List Value} (h : w.ownsRow B e s (.slice (some ⟨g, 0, none⟩) n c) n xs) (k : Nat) : ∀ j u, (xs.take k)[j]? = some u → w.cell? ((⟨g, 0, none⟩ : Addr).add j) = some u := fun j u hj => by
  rw [List.getElem?_take] at hj
  split at hj
  · exact h.cells (g := g) rfl j u hj
  · cases hj
theorem part_tail {w : World} {B n s : Nat} {e : TypeId} {g c : Nat} {xs : List Value} (h : w.ownsRow B e s (.slice (some ⟨g, 0, none⟩) n c) n xs) (k : Nat) : ∀ j u, (xs.drop k)[j]? = some u → w.cell? ((⟨g, k, none⟩ : Addr).add j) = some u := fun j u hj => by
  rw [List.getElem?_drop] at hj
  have := h.cells (g := g) rfl _ u hj
  rw [Addr.add_lit] at this ⊢
  rwa [Nat.zero_add] at this
theorem own_block {w : World} {B n s : Nat} {e : TypeId} {g c : Nat} {xs : List Value} (h : w.ownsRow B e s (.slice (some ⟨g, 0, none⟩) n c) n xs) : n ≤ c ∧ c ≤ 9223372036854775807 ∧ ∃ cur, w.heap[g]? = some (.cells cur e (0, 0)) := by
  rcases h.2 with ⟨h0, _⟩ | ⟨g', cap, cur, hv, _, hg, h1, h2, _⟩
  · cases h0
  · cases hv
    exact ⟨h1, by unfold maxLen at h2; omega, cur, hg⟩
theorem lie_head {w : World} {B g n c : Nat} {l : List Int} (h : OwnI w B (.slice (some ⟨g, 0, none⟩) n c) l) (hn : n = l.length) {k : Nat} (hk : k ≤ n) : Lie w.heap.size w (.slice (some ⟨g, 0, none⟩) k c) (l.take k) := by
  subst hn
  obtain ⟨h1, h2, cur, hg⟩ := own_block h
  have hl : (l.take k).length = k := by rw [List.length_take]; omega
  refine ⟨_, c, by rw [hl], by omega, h2, fun i x hx => ⟨g, 0, cur, (0, 0), rfl, (Array.getElem?_eq_some_iff.1 hg).1, hg, ?_⟩⟩
  have h3 := part_head h k i (.int .i64 x) (by rw [i64s, ← List.map_take, List.getElem?_map, hx]; rfl)
  rw [Addr.add_lit, Joins.cell_of_block hg] at h3
  exact h3
theorem lie_tail {w : World} {B g n c : Nat} {l : List Int} (h : OwnI w B (.slice (some ⟨g, 0, none⟩) n c) l) (hn : n = l.length) {k : Nat} (hk : k + 1 ≤ n) : ∃ A : Addr, (if c = k + 1 then some (⟨g, 0, none⟩ : Addr) else some ⟨g, k + 1, none⟩) = some A ∧ Lie w.heap.size w (.slice (some A) (n - (k + 1)) (c - (k + 1))) (l.drop (k + 1)) := by
  subst hn
  obtain ⟨h1, h2, cur, hg⟩ := own_block h
  have hl : (l.drop (k + 1)).length = l.length - (k + 1) := List.length_drop
  have hb := (Array.getElem?_eq_some_iff.1 hg).1
  by_cases hc : c = k + 1
  · refine ⟨⟨g, 0, none⟩, by simp [hc], _, _, by rw [hl], by rw [hl]; omega, by omega, fun i x hx => ?_⟩
    have := (List.getElem?_eq_some_iff.1 hx).1
    omega
  · refine ⟨⟨g, k + 1, none⟩, by simp [hc], _, _, by rw [hl], by rw [hl]; omega, by omega, fun i x hx => ⟨g, k + 1, cur, (0, 0), rfl, hb, hg, ?_⟩⟩
    have h3 := part_tail h (k + 1) i (.int .i64 x) (by rw [i64s, ← List.map_drop, List.getElem?_map, hx]; rfl)
    rw [Addr.add_lit, Joins.cell_of_block hg] at h3
    exact h3
theorem lieS_head {w : World} {B g n c : Nat} {l : List ByteArray} (h : OwnS w B (.slice (some ⟨g, 0, none⟩) n c) l) (hn : n = l.length) {k : Nat} (hk : k ≤ n) : LieS w.heap.size w (.slice (some ⟨g, 0, none⟩) k c) (l.take k) := by
  subst hn
  obtain ⟨h1, h2, cur, hg⟩ := own_block h
  have hl : (l.take k).length = k := by rw [List.length_take]; omega
  refine ⟨_, c, by rw [hl], by omega, h2, fun i x hx => ⟨g, 0, cur, (0, 0), rfl, (Array.getElem?_eq_some_iff.1 hg).1, hg, ?_⟩⟩
  have h3 := part_head h k i (.string x) (by rw [strs, ← List.map_take, List.getElem?_map, hx]; rfl)
  rw [Addr.add_lit, Joins.cell_of_block hg] at h3
  exact h3
theorem lieS_tail {w : World} {B g n c : Nat} {l : List ByteArray} (h : OwnS w B (.slice (some ⟨g, 0, none⟩) n c) l) (hn : n = l.length) {k : Nat} (hk : k + 1 ≤ n) : ∃ A : Addr, (if c = k + 1 then some (⟨g, 0, none⟩ : Addr) else some ⟨g, k + 1, none⟩) = some A ∧ LieS w.heap.size w (.slice (some A) (n - (k + 1)) (c - (k + 1))) (l.drop (k + 1)) := by
  subst hn
  obtain ⟨h1, h2, cur, hg⟩ := own_block h
  have hl : (l.drop (k + 1)).length = l.length - (k + 1) := List.length_drop
  have hb := (Array.getElem?_eq_some_iff.1 hg).1
  by_cases hc : c = k + 1
  · refine ⟨⟨g, 0, none⟩, by simp [hc], _, _, by rw [hl], by rw [hl]; omega, by omega, fun i x hx => ?_⟩
    have := (List.getElem?_eq_some_iff.1 hx).1
    omega
  · refine ⟨⟨g, k + 1, none⟩, by simp [hc], _, _, by rw [hl], by rw [hl]; omega, by omega, fun i x hx => ⟨g, k + 1, cur, (0, 0), rfl, hb, hg, ?_⟩⟩
    have h3 := part_tail h (k + 1) i (.string x) (by rw [strs, ← List.map_drop, List.getElem?_map, hx]; rfl)
    rw [Addr.add_lit, Joins.cell_of_block hg] at h3
    exact h3
/-- The parts of a row of states. -/
theorem row_tail {w : World} {B g n c : Nat} {qs : List HS} (h : w.ownsRow B 35 3 (.slice (some ⟨g, 0, none⟩) n c) n (qs.flatMap HS.cells)) (hn : n = qs.length) {k : Nat} (hk : k + 1 ≤ n) : ∃ A : Addr, (if c = k + 1 then some (⟨g, 0, none⟩ : Addr) else some ⟨g, (k + 1) * 3, none⟩) = some A ∧ ∀ w' : World, (∀ (a : Addr) (v : Value), w.cell? a = some v → w'.cell? a = some v) → ∀ (j : Nat) (u : Value), ((qs.drop (k + 1)).flatMap HS.cells)[j]? = some u → w'.cell? (A.add j) = some u := by
  obtain ⟨h1, h2, cur, hg⟩ := own_block h
  by_cases hc : c = k + 1
  · refine ⟨⟨g, 0, none⟩, by simp [hc], fun w' hw j u hj => ?_⟩
    have := (List.getElem?_eq_some_iff.1 hj).1
    rw [flat_len, List.length_drop] at this
    omega
  · refine ⟨⟨g, (k + 1) * 3, none⟩, by simp [hc], fun w' hw j u hj => hw _ _ ?_⟩
    rw [flat_drop] at hj
    exact part_tail h _ j u hj
theorem row_head {w : World} {B g n c : Nat} {qs : List HS} (h : w.ownsRow B 35 3 (.slice (some ⟨g, 0, none⟩) n c) n (qs.flatMap HS.cells)) (k : Nat) : ∀ w' : World, (∀ (a : Addr) (v : Value), w.cell? a = some v → w'.cell? a = some v) → ∀ (j : Nat) (u : Value), ((qs.take k).flatMap HS.cells)[j]? = some u → w'.cell? ((⟨g, 0, none⟩ : Addr).add j) = some u := fun w' hw j u hj => hw _ _ (by
  rw [flat_take] at hj
  exact part_head h _ j u hj)
theorem made_state {w : World} {B : Nat} (hB : B ≤ w.heap.size) : (w.alloc (.cells #[] 35)).ownsRow B 35 3 (.slice (some ⟨w.heap.size, 0, none⟩) 0 0) ([] : List HS).length (([] : List HS).flatMap HS.cells) :=
  ⟨rfl, .inr ⟨_, 0, #[], rfl, hB, heap_alloc_new w _, Nat.le_refl 0, by unfold maxLen; omega, rfl, rfl⟩⟩
theorem one_of_own {w : World} {B s n : Nat} {e : TypeId} {v : Value} {xs : List Value} (h : w.ownsRow B e s v n xs) : v.oneCell' = true := by
  rcases h.2 with ⟨rfl, _⟩ | ⟨g, cap, cur, rfl, _⟩ <;> rfl
/-- Which one: (k % n + n) % n. -/
theorem pick_any (kk : Int) {n : Nat} (hn : 0 < n) (hm : n ≤ 1000) : ∃ j : Nat, j < n ∧ IntKind.i64.wrap (kk.tmod (n : Int) + (n : Int)) = kk.tmod (n : Int) + (n : Int) ∧ (kk.tmod (n : Int) + (n : Int)).tmod (n : Int) = (j : Int) := by
  have h1 := Int.tmod_lt_of_pos kk (show (0 : Int) < (n : Int) by omega)
  have h2 := Int.lt_tmod_of_pos kk (show (0 : Int) < (n : Int) by omega)
  have h3 : (0 : Int) ≤ (kk.tmod (n : Int) + (n : Int)).tmod (n : Int) := Int.tmod_nonneg _ (by omega)
  have h4 := Int.tmod_lt_of_pos (kk.tmod (n : Int) + (n : Int)) (show (0 : Int) < (n : Int) by omega)
  refine ⟨((kk.tmod (n : Int) + (n : Int)).tmod (n : Int)).toNat, by omega, ?_, by omega⟩
  rw [IntKind.wrap_i64]
  omega

end Go.Proofs.YtmlnpgbnbchbkaaDoor
