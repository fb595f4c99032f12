/-
  Further laws on byte slices: append as a step of a region that draws its order; three boxes.
-/
import Derived.Test.YtlonbkkalnobeaaBytes
import Derived.Lib.AppendZeros
import Derived.RegionTactic
set_option linter.unusedVariables false
namespace Go.Proofs.Ytlonbkkalnobeaa
open Go.RowKit

/-- append(own, bytes...), as a run. -/
theorem run_app {w : World} (ty : TypeId) {B : Nat} {v : Value} {l m : List UInt8} (hown : Own w B v l) {p : Option Addr} {n c : Nat} (hn : n = m.length) (hsrc : Bs w p m) (hp : p = none → c = 0)
    (hlen : l.length + m.length ≤ 140737488355328) (hB : B ≤ w.heap.size) :
    ∃ v' w', (Builtin.append_ #[22, 22] ty #[v, .slice p n c]).run Try.prog w = .ok v' w' ∧ Own w' B v' (l ++ m) ∧ Below B w w' := by
  subst hn
  obtain ⟨i, hi, hz0, hz1, hz2⟩ := info_parts info_u8
  cases p with
  | none =>
    obtain rfl : m = [] := by
      rcases m with _ | ⟨u, m⟩
      · rfl
      · obtain ⟨b, o, hp, _⟩ := hsrc (by simp)
        cases hp
    obtain rfl := hp rfl
    have hrun := run_append_owned_none (P := Try.prog) (w := w) B 22 ty 5 i 1 Try.underlying22 hi v l.length (u8s l) hown
    exact ⟨v, w, hrun, by simpa using hown, Below.refl _ _⟩
  | some ad =>
    have hcells : ∀ j u, (u8s m)[j]? = some u → w.cell? (ad.add j) = some u := by
      intro j u hj
      obtain ⟨y, hy, rfl⟩ := u8s_get hj
      obtain ⟨b, o, hp, hc⟩ := hsrc (by intro e; subst e; simp at hy)
      obtain rfl := Option.some.inj hp
      rw [Addr.add_lit]
      exact hc j y hy
    obtain ⟨v', w', hr, h1, h2, _⟩ := run_append_own (P := Try.prog) w B 22 ty 5 i (.int .u8 0) 1 1 Try.underlying22 hi hz0 hz1 hz2 rfl (by decide) v l.length (u8s l) hown ad m.length c (u8s m) (by simp [u8s]) hcells (u8s_oneCell m) (by simp only [maxLen]; omega) (by omega) hB
    refine ⟨v', w', hr, ?_, hown.grown (Below.refl _ _) hB h2⟩
    unfold Own
    rw [← u8s_append, List.length_append]
    exact h1

/-- The same, as a step of a region that draws its order. -/
theorem step_app {w : World} {ops : Array Oper} {o : Oper} {a : Act} {K : Act → World → Prop} {Q : Exit → Act → World → Prop} {E : Prop} (hg : o.guard = none) (s x : Operand)
    (ho : o.op = .call { callee := .builtin .append, args := #[s, x], argTypes := #[22, 22] })
    {B : Nat} {v : Value} {l m : List UInt8} (hs : a.eval s = v) (hown : Own w B v l) {p : Option Addr} {n c : Nat} (hn : n = m.length) (hx : a.eval x = .slice p n c) (hsrc : Bs w p m) (hp : p = none → c = 0)
    (hlen : l.length + m.length ≤ 140737488355328) (hB : B ≤ w.heap.size)
    (h : ∀ v' w', Own w' B v' (l ++ m) → Below B w w' → K (a.put o.dst v') w') : if Region.wanted o (yielded ops a.tmps) = true then Oper.wp Try.prog o a w K Q else E := by
  have hw : Region.wanted o (yielded ops a.tmps) = true := by simp [Region.wanted, hg]
  rw [if_pos hw]
  obtain ⟨v', w', hr, h1, h2⟩ := run_app o.type hown hn hsrc hp hlen hB
  exact Lib.wp_append_run w s x 22 22 ho v _ hs hx v' w' hr (h v' w' h1 h2)

/-- Three boxes. -/
theorem boxes3 (w : World) (C D F : Array Value) (s t r : TypeId) :
    (((w.alloc (.cells C s)).alloc (.cells D t)).alloc (.cells F r)).heap[w.heap.size]? = some (.cells C s (0, 0)) ∧ (((w.alloc (.cells C s)).alloc (.cells D t)).alloc (.cells F r)).heap[w.heap.size + 1]? = some (.cells D t (0, 0)) ∧
    (((w.alloc (.cells C s)).alloc (.cells D t)).alloc (.cells F r)).heap[w.heap.size + 2]? = some (.cells F r (0, 0)) ∧
    Below w.heap.size w (((w.alloc (.cells C s)).alloc (.cells D t)).alloc (.cells F r)) ∧ (((w.alloc (.cells C s)).alloc (.cells D t)).alloc (.cells F r)).heap.size = w.heap.size + 3 := by
  obtain ⟨h1, h2, h3, h4⟩ := boxes w C D s t
  refine ⟨?_, ?_, ?_, h3.alloc (by omega) _, by simp⟩
  · rw [Below.heap_alloc _ _ _ (by omega)]; exact h1
  · rw [Below.heap_alloc _ _ _ (by omega)]; exact h2
  · have := heap_alloc_new ((w.alloc (.cells C s)).alloc (.cells D t)) (.cells F r)
    rw [h4] at this
    exact this

end Go.Proofs.Ytlonbkkalnobeaa
