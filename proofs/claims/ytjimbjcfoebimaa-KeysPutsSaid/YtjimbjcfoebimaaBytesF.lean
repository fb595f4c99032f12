/-
  append(b[:len(b):len(b)], bytes...), as a run and as a step of a region that draws its order.
-/
import Derived.Test.YtjimbjcfoebimaaBytes
import Derived.ArgAppend
set_option linter.unusedVariables false
set_option maxRecDepth 100000
namespace Go.Proofs.Ytjimbjcfoebimaa
open Go.RowKit

theorem run_full {w : World} (ty : TypeId) {l m : List UInt8} {q : Option Addr} {k k' : Nat} (hk : k = l.length) (hk' : k' = l.length) (hold : Bs w q l)
    {p : Option Addr} {n c : Nat} (hn : n = m.length) (hsrc : Bs w p m) (hm : 0 < m.length) (hlen : l.length + m.length ≤ 140737488355328) :
    ∃ v' w', (Builtin.append_ #[33, 33] ty #[.slice q k k', .slice p n c]).run Try.prog w = .ok v' w' ∧ Own w' w.heap.size v' (l ++ m) ∧ Below w.heap.size w w' := by
  subst hn hk hk'
  obtain ⟨i, hi, hz0, hz1, hz2⟩ := info_parts info_u8
  have src : ∀ {r : List UInt8} {d : Addr}, Bs w (some d) r → ∀ j u, (u8s r)[j]? = some u → w.cell? (d.add j) = some u := by
    intro r d hr j u hj
    obtain ⟨y, hy, rfl⟩ := u8s_get hj
    obtain ⟨b, o, hp, hc⟩ := hr (by intro e; subst e; simp at hy)
    obtain rfl := Option.some.inj hp
    rw [Addr.add_lit]
    exact hc j y hy
  have fin : ∀ {v' : Value} {w' : World}, w'.ownsRow w.heap.size 5 1 v' (l.length + m.length) (u8s l ++ u8s m) → Own w' w.heap.size v' (l ++ m) := by
    intro v' w' h1
    unfold Own
    rw [← u8s_append, List.length_append]
    exact h1
  obtain ⟨b0, o0, rfl, _, _⟩ := hsrc.at hm
  cases q with
  | some b =>
    obtain ⟨v', w', hrun, r1, r2⟩ := run_append_arg_grows (P := Try.prog) w 33 ty 5 i (.int .u8 0) 1 1 Try.underlying33 hi hz0 hz1 hz2 rfl (by decide) b l.length l.length (u8s l) (by simp [u8s]) (src hold) ⟨b0, o0, none⟩ m.length c (u8s m) (by simp [u8s]) (src hsrc) (by omega) (by simp only [maxLen]; omega) (by omega)
    exact ⟨v', w', hrun, fin r1, (Below.refl _ _).grown r2 (Nat.le_refl _) (fun k hk => by cases hk)⟩
  | none =>
    obtain rfl : l = [] := by
      rcases l with _ | ⟨u, l⟩
      · rfl
      · obtain ⟨b, o, hp, _⟩ := hold (by simp)
        cases hp
    obtain ⟨v', w', hr, h1, h2⟩ := run_app (w := w) ty (B := w.heap.size) (v := .slice none 0 0) (l := []) (Own.nil _ _) rfl hsrc (fun h => by cases h) (c := c) hlen (Nat.le_refl _)
    exact ⟨v', w', hr, h1, h2⟩

theorem step_full {w : World} {ops : Array Oper} {o : Oper} {a : Act} {K : Act → World → Prop} {Q : Exit → Act → World → Prop} {E : Prop} (hg : o.guard = none) (s x : Operand)
    (ho : o.op = .call { callee := .builtin .append, args := #[s, x], argTypes := #[33, 33] })
    {l m : List UInt8} {q : Option Addr} {k k' : Nat} (hk : k = l.length) (hk' : k' = l.length) (hs : a.eval s = .slice q k k') (hold : Bs w q l)
    {p : Option Addr} {n c : Nat} (hn : n = m.length) (hx : a.eval x = .slice p n c) (hsrc : Bs w p m) (hm : 0 < m.length) (hlen : l.length + m.length ≤ 140737488355328)
    (h : ∀ v' w', Own w' w.heap.size v' (l ++ m) → Below w.heap.size w w' → K (a.put o.dst v') w') : if Region.wanted o (yielded ops a.tmps) = true then Oper.wp Try.prog o a w K Q else E := by
  have hw : Region.wanted o (yielded ops a.tmps) = true := by simp [Region.wanted, hg]
  rw [if_pos hw]
  obtain ⟨v', w', hr, h1, h2⟩ := run_full o.type hk hk' hold hn hsrc hm hlen
  exact Lib.wp_append_run w s x 33 33 ho _ _ hs hx v' w' hr (h v' w' h1 h2)

end Go.Proofs.Ytjimbjcfoebimaa
