/-
  append(b[:len(b):len(b)], bytes...), as a run and as a step of a region that draws its order.
  append onto a slice of the call's own whose block is known: which block the result has, and that other slices of the call's own stay.
-/
import Derived.Test.YtigmibmebockhaaBytes
import Derived.ArgAppend
import Derived.Laws.OwnMore
set_option linter.unusedVariables false
set_option maxRecDepth 100000
namespace Go.Proofs.Ytigmibmebockhaa
open Go.RowKit

theorem run_full {w : World} (ty : TypeId) {l m : List UInt8} {q : Option Addr} {k k' : Nat} (hk : k = l.length) (hk' : k' = l.length) (hold : Bs w q l)
    {p : Option Addr} {n c : Nat} (hn : n = m.length) (hsrc : Bs w p m) (hm : 0 < m.length) (hlen : l.length + m.length ≤ 140737488355328) :
    ∃ v' w', (Builtin.append_ #[22, 22] ty #[.slice q k k', .slice p n c]).run Try.prog w = .ok v' w' ∧ Own w' w.heap.size v' (l ++ m) ∧ Below w.heap.size w w' := by
  subst hn hk hk'
  obtain ⟨i, hi, hz0, hz1, hz2⟩ := info_parts info_u8
  have src : ∀ {r : List UInt8} {d : Addr}, Bs w (some d) r → ∀ j u, (u8s r)[j]? = some u → w.cell? (d.add j) = some u := by
    intro r d hr j u hj
    obtain ⟨y, hy, rfl⟩ := u8s_get hj
    obtain ⟨b, o, hp, hc⟩ := hr (by intro e; subst e; simp at hy)
    obtain rfl := Option.some.inj hp
    rw [Addr.add_lit]
    exact hc j y hy
  have fin : ∀ {v' : Value} {w' : World}, w'.ownsRow w.heap.size 5 1 v' (l.length + m.length) (u8s l ++ u8s m) → Own w' w.heap.size v' (l ++ m) := by
    intro v' w' h1
    unfold Own
    rw [← u8s_append, List.length_append]
    exact h1
  obtain ⟨b0, o0, rfl, _, _⟩ := hsrc.at hm
  cases q with
  | some b =>
    obtain ⟨v', w', hrun, r1, r2⟩ := run_append_arg_grows (P := Try.prog) w 22 ty 5 i (.int .u8 0) 1 1 Try.underlying22 hi hz0 hz1 hz2 rfl (by decide) b l.length l.length (u8s l) (by simp [u8s]) (src hold) ⟨b0, o0, none⟩ m.length c (u8s m) (by simp [u8s]) (src hsrc) (by omega) (by simp only [maxLen]; omega) (by omega)
    exact ⟨v', w', hrun, fin r1, (Below.refl _ _).grown r2 (Nat.le_refl _) (fun k hk => by cases hk)⟩
  | none =>
    obtain rfl : l = [] := by
      rcases l with _ | ⟨u, l⟩
      · rfl
      · obtain ⟨b, o, hp, _⟩ := hold (by simp)
        cases hp
    obtain ⟨v', w', hr, h1, h2⟩ := run_app (w := w) ty (B := w.heap.size) (v := .slice none 0 0) (l := []) (Own.nil _ _) rfl hsrc (fun h => by cases h) (c := c) hlen (Nat.le_refl _)
    exact ⟨v', w', hr, h1, h2⟩

theorem step_full {w : World} {ops : Array Oper} {o : Oper} {a : Act} {K : Act → World → Prop} {Q : Exit → Act → World → Prop} {E : Prop} (hg : o.guard = none) (s x : Operand)
    (ho : o.op = .call { callee := .builtin .append, args := #[s, x], argTypes := #[22, 22] })
    {l m : List UInt8} {q : Option Addr} {k k' : Nat} (hk : k = l.length) (hk' : k' = l.length) (hs : a.eval s = .slice q k k') (hold : Bs w q l)
    {p : Option Addr} {n c : Nat} (hn : n = m.length) (hx : a.eval x = .slice p n c) (hsrc : Bs w p m) (hm : 0 < m.length) (hlen : l.length + m.length ≤ 140737488355328)
    (h : ∀ v' w', Own w' w.heap.size v' (l ++ m) → Below w.heap.size w w' → K (a.put o.dst v') w') : if Region.wanted o (yielded ops a.tmps) = true then Oper.wp Try.prog o a w K Q else E := by
  have hw : Region.wanted o (yielded ops a.tmps) = true := by simp [Region.wanted, hg]
  rw [if_pos hw]
  obtain ⟨v', w', hr, h1, h2⟩ := run_full o.type hk hk' hold hn hsrc hm hlen
  exact Lib.wp_append_run w s x 22 22 ho _ _ hs hx v' w' hr (h v' w' h1 h2)

end Go.Proofs.Ytigmibmebockhaa

set_option linter.unusedVariables false
set_option maxRecDepth 100000
namespace Go.Proofs.Ytigmibmebockhaa
open Go.RowKit

theorem run_at {w : World} (ty : TypeId) {B g n cap : Nat} {l m : List UInt8} (hown : Own w B (.slice (some ⟨g, 0, none⟩) n cap) l) (hn : n = l.length) {p : Option Addr} {k c : Nat} (hk : k = m.length) (hsrc : Bs w p m) (hp : p = none → c = 0)
    (hlen : l.length + m.length ≤ 140737488355328) (hB : B ≤ w.heap.size) :
    ∃ v' w', (Builtin.append_ #[22, 22] ty #[.slice (some ⟨g, 0, none⟩) n cap, .slice p k c]).run Try.prog w = .ok v' w' ∧ Own w' B v' (l ++ m) ∧ w.grownBy w' (some g) ∧ (v'.ownBlock = some g ∨ Own w' w.heap.size v' (l ++ m)) := by
  subst hn hk
  obtain ⟨i, hi, hz0, hz1, hz2⟩ := info_parts info_u8
  have fin : ∀ {D : Nat} {v' : Value} {w' : World}, w'.ownsRow D 5 1 v' (l.length + m.length) (u8s l ++ u8s m) → Own w' D v' (l ++ m) := by
    intro D v' w' h1
    unfold Own
    rw [← u8s_append, List.length_append]
    exact h1
  cases p with
  | none =>
    obtain rfl : m = [] := by
      rcases m with _ | ⟨u, m⟩
      · rfl
      · obtain ⟨b, o, hp, _⟩ := hsrc (by simp)
        cases hp
    obtain rfl := hp rfl
    have hrun := run_append_owned_none (P := Try.prog) (w := w) B 22 ty 5 i 1 Try.underlying22 hi _ l.length (u8s l) hown
    exact ⟨_, w, hrun, by simpa using hown, ⟨rfl, rfl, rfl, Nat.le_refl _, fun _ _ _ => rfl⟩, .inl rfl⟩
  | some ad =>
    have src : ∀ {r : List UInt8} {d : Addr}, Bs w (some d) r → ∀ j u, (u8s r)[j]? = some u → w.cell? (d.add j) = some u := by
      intro r d hr j u hj
      obtain ⟨y, hy, rfl⟩ := u8s_get hj
      obtain ⟨b, o, hp, hc⟩ := hr (by intro e; subst e; simp at hy)
      obtain rfl := Option.some.inj hp
      rw [Addr.add_lit]
      exact hc j y hy
    rcases Nat.lt_or_ge cap (l.length + m.length) with hc | hc
    · obtain ⟨_, _, hf, _, _, hbs, _⟩ := hown.form rfl
      simp only [Value.slice.injEq] at hf
      obtain ⟨hf, _, _⟩ := hf
      subst hf
      obtain ⟨v', w', hrun, r1, r2⟩ := run_append_arg_grows (P := Try.prog) w 22 ty 5 i (.int .u8 0) 1 1 Try.underlying22 hi hz0 hz1 hz2 rfl (by decide) ⟨g, 0, none⟩ l.length cap (u8s l) (by simp [u8s]) (src hbs) ad m.length c (u8s m) (by simp [u8s]) (src hsrc) hc (by simp only [maxLen]; omega) (by omega)
      exact ⟨v', w', hrun, (fin r1).le hB, ⟨r2.os, r2.tape, r2.output, r2.size, fun k hk _ => r2.block k hk (by simp)⟩, .inr (fin r1)⟩
    · obtain ⟨w', hrun, r1, r2⟩ := run_append_fits (P := Try.prog) (w := w) B 22 ty 5 i 1 Try.underlying22 hi hz1 g l.length cap (u8s l) hown ad m.length c (u8s m) (by simp [u8s]) (src hsrc) (u8s_oneCell m) hc
      exact ⟨_, w', hrun, fin r1, r2, .inl rfl⟩

/-- Another slice of the call's own stays. -/
theorem Own.kept {w w' : World} {B g : Nat} {v : Value} {l : List UInt8} (h : Own w B v l) (hg : w.grownBy w' (Option.some g)) (hne : v.ownBlock ≠ Option.some g) : Own w' B v l := World.ownsRow.kept h hg (.inr hne)
theorem Own.below_at {w w' : World} {B g n cap : Nat} {l : List UInt8} (h : Own w B (.slice (Option.some ⟨g, 0, Option.none⟩) n cap) l) {C : Nat} (hC : C ≤ B) (hB : B ≤ w.heap.size) (hg : w.grownBy w' (Option.some g)) : Below C w w' :=
  (Below.refl C w).grown hg (by omega) fun k hk => by have := (World.ownsRow.lt h g rfl).1; cases hk; omega

theorem block_ne {w' : World} {C g g' : Nat} {v' : Value} {l : List UInt8} (hd : v'.ownBlock = some g ∨ Own w' C v' l) (hne : g' ≠ g) (h : g' < C) : v'.ownBlock ≠ some g' := by
  rcases hd with h1 | h1
  · rw [h1]
    intro h2
    exact hne (Option.some.inj h2).symm
  · intro h2
    have := (World.ownsRow.lt h1 g' h2).1
    omega

/-- As a step of a region that draws its order. -/
theorem step_at {w : World} {ops : Array Oper} {o : Oper} {a : Act} {K : Act → World → Prop} {Q : Exit → Act → World → Prop} {E : Prop} (hgd : Region.wanted o (yielded ops a.tmps) = true) (s x : Operand)
    (ho : o.op = .call { callee := .builtin .append, args := #[s, x], argTypes := #[22, 22] })
    {B g n cap : Nat} {l m : List UInt8} (hs : a.eval s = .slice (some ⟨g, 0, none⟩) n cap) (hown : Own w B (.slice (some ⟨g, 0, none⟩) n cap) l) (hn : n = l.length) {p : Option Addr} {k c : Nat} (hk : k = m.length) (hx : a.eval x = .slice p k c) (hsrc : Bs w p m) (hp : p = none → c = 0)
    (hlen : l.length + m.length ≤ 140737488355328) (hB : B ≤ w.heap.size)
    (h : ∀ v' w', Own w' B v' (l ++ m) → w.grownBy w' (some g) → (v'.ownBlock = some g ∨ Own w' w.heap.size v' (l ++ m)) → K (a.put o.dst v') w') : if Region.wanted o (yielded ops a.tmps) = true then Oper.wp Try.prog o a w K Q else E := by
  rw [if_pos hgd]
  obtain ⟨v', w', hr, h1, h2, h3⟩ := run_at o.type hown hn hk hsrc hp hlen hB
  exact Lib.wp_append_run w s x 22 22 ho _ _ hs hx v' w' hr (h v' w' h1 h2 h3)

end Go.Proofs.Ytigmibmebockhaa

