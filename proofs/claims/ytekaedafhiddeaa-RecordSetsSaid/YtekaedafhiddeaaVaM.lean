/-
  Values in memory, and slices of values that lie at an address.
-/
import Derived.Test.YtekaedafhiddeaaKPut
import Derived.Outline
set_option linter.unusedVariables false
set_option maxRecDepth 100000
namespace Go.Proofs.Ytekaedafhiddeaa
open Go.RowKit

/-- A value in memory: its atom, and where its list lies. -/
structure Va where
  a : At
  q : Option Addr
  m : Nat
  c : Nat
  l : List At
def Va.Ok (w : World) (v : Va) : Prop := VaOk w v.a v.q v.m v.c v.l
def Va.cell (v : Va) : Value := .agg #[.int .i64 v.a.k, .int .i64 v.a.n, .float .f64 v.a.f, .string v.a.s, .slice v.q v.m v.c]

/-- The cells of a value that lies there. -/
structure VaCells (w : World) (b o : Nat) (v : Va) : Prop where
  k : w.cell? ⟨b, o, none⟩ = some (.int .i64 v.a.k)
  n : w.cell? ⟨b, o + 1, none⟩ = some (.int .i64 v.a.n)
  f : w.cell? ⟨b, o + 2, none⟩ = some (.float .f64 v.a.f)
  s : w.cell? ⟨b, o + 3, none⟩ = some (.string v.a.s)
  l : w.cell? ⟨b, o + 4, none⟩ = some (.slice v.q v.m v.c)
theorem VaCells.lt {w : World} {b o : Nat} {v : Va} (h : VaCells w b o v) : b < w.heap.size := by
  have := World.block_lt_of_cell? _ _ h.k
  simpa using this
theorem VaCells.below {w w' : World} {b o : Nat} {v : Va} (h : VaCells w b o v) (hb : Below w.heap.size w w') : VaCells w' b o v := by
  have hlt := h.lt
  obtain ⟨h1, h2, h3, h4, h5⟩ := h
  exact ⟨by rw [hb.cell hlt]; exact h1, by rw [hb.cell hlt]; exact h2, by rw [hb.cell hlt]; exact h3, by rw [hb.cell hlt]; exact h4, by rw [hb.cell hlt]; exact h5⟩

/-- The values l lie at p (of none nothing is said), and are in order. -/
def Vs (w : World) (p : Option Addr) (l : List Va) : Prop :=
  (∀ v ∈ l, v.Ok w) ∧ (l ≠ [] → ∃ b o, p = some ⟨b, o, none⟩ ∧ ∀ i v, l[i]? = some v → VaCells w b (o + i * 5) v)
theorem Vs.below {w w' : World} {p : Option Addr} {l : List Va} (h : Vs w p l) (hb : Below w.heap.size w w') : Vs w' p l := by
  refine ⟨fun v hv => VaOk.below (h.1 v hv) hb, fun hne => ?_⟩
  obtain ⟨b, o, hp, hc⟩ := h.2 hne
  exact ⟨b, o, hp, fun i a hi => (hc i a hi).below hb⟩
theorem Vs.at {w : World} {p : Option Addr} {l : List Va} (h : Vs w p l) {j : Nat} {v : Va} (hj : l[j]? = some v) :
    v.Ok w ∧ ∃ b o, p = some ⟨b, o, none⟩ ∧ VaCells w b (o + j * 5) v := by
  obtain ⟨b, o, hp, hc⟩ := h.2 (by intro e; subst e; simp at hj)
  exact ⟨h.1 v (List.mem_of_getElem? hj), b, o, hp, hc j v hj⟩

/-- P4.3: the bytes of all, one behind the other. -/
def tupK : List Va → List UInt8
  | [] => []
  | v :: l => putK v.a v.l ++ tupK l
theorem tupK_append (l m : List Va) : tupK (l ++ m) = tupK l ++ tupK m := by
  induction l with
  | nil => rfl
  | cons a l ih => simp only [List.cons_append, tupK, ih, List.append_assoc]
theorem tupK_take {l : List Va} {j : Nat} {v : Va} (h : l[j]? = some v) : tupK (l.take (j + 1)) = tupK (l.take j) ++ putK v.a v.l := by
  obtain ⟨hj, rfl⟩ := List.getElem?_eq_some_iff.1 h
  rw [List.take_succ_eq_append_getElem hj, tupK_append]
  simp [tupK]
theorem putK_len (a : At) (l : List At) : (putK a l).length ≤ 8242 := by
  unfold putK
  by_cases h : validV a l = true
  · rw [if_pos h]; exact valK_len h
  · rw [if_neg h]; simp
theorem tupK_len : ∀ l : List Va, (tupK l).length ≤ 8242 * l.length
  | [] => by simp [tupK]
  | v :: l => by
    have h1 := putK_len v.a v.l
    have h2 := tupK_len l
    simp only [tupK, List.length_append, List.length_cons]
    omega

/-- The list of a value does not lie in the slice's own block. -/
def Va.Apart (x : Va) (v : Value) : Prop := ∀ k, v.ownBlock = some k → x.l ≠ [] → ∀ a, x.q = some a → a.block ≠ k
theorem va_kept {w w' : World} {x : Va} {v v' : Value} (hx : x.Ok w) (ha : x.Apart v) (hg : w.grownBy w' v.ownBlock) (hv : v'.ownBlock = v.ownBlock ∨ ∀ k, v'.ownBlock = some k → w.heap.size ≤ k) : x.Ok w' ∧ x.Apart v' := by
  obtain ⟨a, q, m, c, l⟩ := x
  obtain ⟨h1, h2, h3, h4, h5, h6⟩ := hx
  dsimp only at *
  by_cases hl : l = []
  · subst hl
    exact ⟨⟨h1, h2, h3, h4, As.nil _ _, h6⟩, fun k hk hne => absurd rfl hne⟩
  · obtain ⟨b, o, hq, hc⟩ := h5 hl
    subst hq
    have hb : b < w.heap.size := by
      obtain ⟨x, hx⟩ : ∃ x, l[0]? = some x := ⟨_, List.getElem?_eq_getElem (List.length_pos_iff.2 hl)⟩
      exact (hc 0 x hx).lt
    have hne : ∀ k, v.ownBlock = some k → b ≠ k := fun k hk => ha k hk hl ⟨b, o, none⟩ rfl
    have hcell : ∀ i, w'.cell? ⟨b, i, none⟩ = w.cell? ⟨b, i, none⟩ := fun i => World.cell?_of_block (hg.block b hb (fun e => hne b e.symm rfl))
    refine ⟨⟨h1, h2, h3, h4, fun _ => ⟨b, o, rfl, fun i x hi => ?_⟩, h6⟩, fun k hk _ a ha' => ?_⟩
    · obtain ⟨c0, c1, c2, c3⟩ := hc i x hi
      exact ⟨by rw [hcell]; exact c0, by rw [hcell]; exact c1, by rw [hcell]; exact c2, by rw [hcell]; exact c3⟩
    · obtain rfl := Option.some.inj ha'
      show b ≠ k
      rcases hv with h | h
      · rw [h] at hk; exact hne k hk
      · have := h k hk; omega

end Go.Proofs.Ytekaedafhiddeaa
