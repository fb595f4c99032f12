/-
  Slices of ints: that lie there (Ks), of a call's own (OwnI); append of one.
-/
import Derived.Test.YtigmibmebockhaaBase
import Derived.Deep.OwnRows
import Derived.Lib.Hide
set_option linter.unusedVariables false
set_option maxRecDepth 100000
namespace Go.Proofs.Ytigmibmebockhaa
open Go.RowKit

/-- Whole numbers that lie there (of none nothing is said). -/
def Ks (w : World) (q : Option Addr) (l : List Int) : Prop := l ≠ [] → ∃ b o, q = some ⟨b, o, none⟩ ∧ ∀ i x, l[i]? = some x → w.cell? ⟨b, o + i, none⟩ = some (.int .i64 x)
theorem Ks.nil (w : World) (q : Option Addr) : Ks w q [] := fun h => absurd rfl h
theorem Ks.below {w w' : World} {q : Option Addr} {l : List Int} (h : Ks w q l) (hb : Below w.heap.size w w') : Ks w' q l := by
  intro hne
  obtain ⟨b, o, hp, hc⟩ := h hne
  refine ⟨b, o, hp, fun i u hi => ?_⟩
  have h1 := hc i u hi
  rw [hb.cell (World.block_lt_of_cell? _ _ h1)]
  exact h1
theorem Ks.at {w : World} {q : Option Addr} {l : List Int} (h : Ks w q l) {i : Nat} {x : Int} (hx : l[i]? = some x) : ∃ b o, q = some ⟨b, o, none⟩ ∧ w.cell? ⟨b, o + i, none⟩ = some (.int .i64 x) := by
  obtain ⟨b, o, hp, hc⟩ := h (by intro e; subst e; simp at hx)
  exact ⟨b, o, hp, hc i x hx⟩

/-- The ints of a slice of the law's own. -/
def i64s (l : List Int) : List Value := l.map fun x => .int .i64 x
def OwnI (w : World) (B : Nat) (v : Value) (l : List Int) : Prop := w.ownsRow B 3 1 v l.length (i64s l)
theorem info_int : (Try.prog.info? 3).map (fun i => (i.zero, i.size, i.bytes)) = some (some (.int .i64 0), 1, 8) := by kernel_rfl
theorem OwnI.nil (w : World) (B : Nat) : OwnI w B (.slice none 0 0) [] := World.ownsRow_nil w B _ _
theorem OwnI.form {w : World} {B : Nat} {v : Value} {l : List Int} (h : OwnI w B v l) : ∃ q c, v = .slice q l.length c ∧ Ks w q l := by
  rcases h.2 with ⟨rfl, h0⟩ | ⟨g, cap, cur, rfl, hb, hg, hnc, hcm, hcs, htake⟩
  · obtain rfl := List.eq_nil_of_length_eq_zero h0
    exact ⟨none, 0, rfl, Ks.nil _ _⟩
  · refine ⟨some ⟨g, 0, none⟩, cap, rfl, fun _ => ⟨g, 0, rfl, fun i x hi => ?_⟩⟩
    have := h.cells (g := g) rfl i (.int .i64 x) (by simp [i64s, hi])
    simpa [Addr.add_lit] using this

theorem OwnI.kept {w w' : World} {B : Nat} {v : Value} {l : List Int} {row : Option Nat} (h : OwnI w B v l) (hg : w.grownBy w' row) (hr : v.ownBlock = none ∨ v.ownBlock ≠ row) : OwnI w' B v l := World.ownsRow.kept h hg hr
theorem OwnI.below {w w' : World} {B : Nat} {v : Value} {l : List Int} (h : OwnI w B v l) (hb : Below w.heap.size w w') : OwnI w' B v l :=
  h.kept (row := none) ⟨hb.os, hb.tape, hb.output, hb.size, fun k hk _ => hb.block k hk⟩ (by cases h0 : v.ownBlock with | none => exact .inl rfl | some b => exact .inr (by simp))

/-- append(ints, one int): only their own block changes. -/
theorem app_ints {w : World} {ops : Array Oper} {rest : List Oper} {o : Oper} {a : Act} {Q : Exit → Act → World → Prop} (hgd : o.guard = none) (s x : Operand)
    (ho : o.op = .call { callee := .builtin .append, args := #[s, x], argTypes := #[25, 25] })
    {B : Nat} {v : Value} {l : List Int} (hs : a.eval s = v) (hown : OwnI w B v l) {b c : Nat} {y : Int} (hx : a.eval x = .slice (some ⟨b, 0, none⟩) 1 c) (h0 : w.cell? ⟨b, 0, none⟩ = some (.int .i64 y)) (hlen : l.length ≤ 1000000000) (hB : B ≤ w.heap.size)
    (h : ∀ v' w', OwnI w' B v' (l ++ [y]) → w.grownBy w' v.ownBlock → wpList Try.prog ops Q rest (a.put o.dst v') w') : wpList Try.prog ops Q (o :: rest) a w := by
  obtain ⟨i, hi, hz0, hz1, hz2⟩ := info_parts info_int
  refine wpList_append_own w hgd s x _ ho B 3 i (.int .i64 0) 1 8 Try.underlying25 hi hz0 hz1 hz2 rfl (by decide) v l.length (i64s l) hs hown ⟨b, 0, none⟩ 1 c [.int .i64 y] hx rfl
    (fun j u hj => by
      rw [Addr.add_lit, Nat.zero_add]
      match j, hj with
      | 0, hj => cases hj; exact h0
      | j + 1, hj => simp at hj) (fun u hu => by obtain rfl := List.mem_singleton.1 hu; rfl) (by simp only [maxLen]; omega) (by omega) hB ?_
  intro v' w' h1 h2 _
  refine h v' w' ?_ h2
  unfold OwnI
  rw [List.length_append]
  simpa [i64s] using h1

theorem OwnI.other {w : World} {B : Nat} {v : Value} {l : List Int} (h : OwnI w B v l) {i : Nat} {o : Obj} (hi : w.heap[i]? = some o) (ho : ∀ c f, o ≠ .cells c 3 f) : v.ownBlock ≠ some i := by
  rcases h.2 with ⟨rfl, _⟩ | ⟨g, cap, cur, rfl, _, hg, _⟩
  · simp [Value.ownBlock]
  · intro e
    simp only [Value.ownBlock, Option.some.injEq] at e
    subst e
    rw [hg] at hi
    exact ho _ _ (Option.some.inj hi).symm

end Go.Proofs.Ytigmibmebockhaa
