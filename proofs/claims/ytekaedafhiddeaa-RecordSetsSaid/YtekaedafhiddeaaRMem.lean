/-
  Slices of strings and of properties: what lies at an address, and slices that the call itself made, with append.
-/
import Derived.Test.YtekaedafhiddeaaRSpec
import Derived.Test.YtekaedafhiddeaaVaM
set_option linter.unusedVariables false
set_option maxRecDepth 100000
namespace Go.Proofs.Ytekaedafhiddeaa
open Go.RowKit

/-- The strings l lie at p (of none nothing is said). -/
def Ss (w : World) (p : Option Addr) (l : List ByteArray) : Prop :=
  l ≠ [] → ∃ b o, p = some ⟨b, o, none⟩ ∧ ∀ i s, l[i]? = some s → w.cell? ⟨b, o + i, none⟩ = some (.string s)
theorem Ss.nil (w : World) (p : Option Addr) : Ss w p [] := fun h => absurd rfl h
theorem Ss.at {w : World} {p : Option Addr} {l : List ByteArray} (h : Ss w p l) {j : Nat} {s : ByteArray} (hj : l[j]? = some s) :
    ∃ b o, p = some ⟨b, o, none⟩ ∧ b < w.heap.size ∧ w.cell? ⟨b, o + j, none⟩ = some (.string s) := by
  obtain ⟨b, o, hp, hc⟩ := h (by intro e; subst e; simp at hj)
  refine ⟨b, o, hp, ?_, hc j s hj⟩
  have := World.block_lt_of_cell? _ _ (hc j s hj)
  simpa using this
theorem Ss.below {w w' : World} {p : Option Addr} {l : List ByteArray} (h : Ss w p l) (hb : Below w.heap.size w w') : Ss w' p l := by
  intro hne
  obtain ⟨b, o, hp, hc⟩ := h hne
  refine ⟨b, o, hp, fun i s hi => ?_⟩
  have h1 := hc i s hi
  have h2 := World.block_lt_of_cell? _ _ h1
  rw [hb.cell (by simpa using h2)]
  exact h1

/-- A property in memory. -/
structure Pr where
  n : ByteArray
  v : Va
def Pr.c (p : Pr) : Pc := ⟨p.n, p.v.a, p.v.l⟩
structure Pr.Ok (w : World) (p : Pr) : Prop where
  n : p.n.size ≤ 9223372036854775807
  v : p.v.Ok w
  z : p.v.q = none → p.v.c = 0
theorem Pr.Ok.below {w w' : World} {p : Pr} (h : p.Ok w) (hb : Below w.heap.size w w') : p.Ok w' := ⟨h.n, VaOk.below h.v hb, h.z⟩
def Pr.cell (p : Pr) : Value := .agg #[.string p.n, .int .i64 p.v.a.k, .int .i64 p.v.a.n, .float .f64 p.v.a.f, .string p.v.a.s, .slice p.v.q p.v.m p.v.c]

/-- The cells of a property that lies there. -/
structure PrCells (w : World) (b o : Nat) (p : Pr) : Prop where
  n : w.cell? ⟨b, o, none⟩ = some (.string p.n)
  v : w.cell? ⟨b, o + 1, none⟩ = some (.int .i64 p.v.a.k)
  m : w.cell? ⟨b, o + 2, none⟩ = some (.int .i64 p.v.a.n)
  f : w.cell? ⟨b, o + 3, none⟩ = some (.float .f64 p.v.a.f)
  s : w.cell? ⟨b, o + 4, none⟩ = some (.string p.v.a.s)
  l : w.cell? ⟨b, o + 5, none⟩ = some (.slice p.v.q p.v.m p.v.c)
theorem PrCells.lt {w : World} {b o : Nat} {p : Pr} (h : PrCells w b o p) : b < w.heap.size := by
  have := World.block_lt_of_cell? _ _ h.n
  simpa using this
theorem PrCells.below {w w' : World} {b o : Nat} {p : Pr} (h : PrCells w b o p) (hb : Below w.heap.size w w') : PrCells w' b o p := by
  have hlt := h.lt
  obtain ⟨h1, h2, h3, h4, h5, h6⟩ := h
  exact ⟨by rw [hb.cell hlt]; exact h1, by rw [hb.cell hlt]; exact h2, by rw [hb.cell hlt]; exact h3, by rw [hb.cell hlt]; exact h4, by rw [hb.cell hlt]; exact h5, by rw [hb.cell hlt]; exact h6⟩

/-- The properties l lie at p (of none nothing is said), and are in order. -/
structure Ps (w : World) (p : Option Addr) (l : List Pr) : Prop where
  ok : ∀ x ∈ l, x.Ok w
  cl : l ≠ [] → ∃ b o, p = some ⟨b, o, none⟩ ∧ ∀ i x, l[i]? = some x → PrCells w b (o + i * 6) x
theorem Ps.nil (w : World) (p : Option Addr) : Ps w p [] := ⟨by simp, fun h => absurd rfl h⟩
theorem Ps.below {w w' : World} {p : Option Addr} {l : List Pr} (h : Ps w p l) (hb : Below w.heap.size w w') : Ps w' p l := by
  refine ⟨fun v hv => (h.ok v hv).below hb, fun hne => ?_⟩
  obtain ⟨b, o, hp, hc⟩ := h.cl hne
  exact ⟨b, o, hp, fun i a hi => (hc i a hi).below hb⟩
theorem Ps.at {w : World} {p : Option Addr} {l : List Pr} (h : Ps w p l) {j : Nat} {x : Pr} (hj : l[j]? = some x) :
    x.Ok w ∧ ∃ b o, p = some ⟨b, o, none⟩ ∧ PrCells w b (o + j * 6) x := by
  obtain ⟨b, o, hp, hc⟩ := h.cl (by intro e; subst e; simp at hj)
  exact ⟨h.ok x (List.mem_of_getElem? hj), b, o, hp, hc j x hj⟩

/-- What the contracts ask of a list of properties that is handed in. -/
structure PsOk (w : World) (q : Option Addr) (m c : Nat) (l : List Pr) : Prop where
  hn : m = l.length
  h1 : m ≤ c
  h2 : c ≤ 9223372036854775807
  h0 : q = none → c = 0
  hl : Ps w q l
theorem PsOk.below {w w' : World} {q : Option Addr} {m c : Nat} {l : List Pr} (h : PsOk w q m c l) (hb : Below w.heap.size w w') : PsOk w' q m c l := ⟨h.hn, h.h1, h.h2, h.h0, h.hl.below hb⟩
structure SsOk (w : World) (q : Option Addr) (m c : Nat) (l : List ByteArray) : Prop where
  hn : m = l.length
  h1 : m ≤ c
  h2 : c ≤ 9223372036854775807
  hl : Ss w q l
  ok : ∀ s ∈ l, s.size ≤ 9223372036854775807
theorem SsOk.below {w w' : World} {q : Option Addr} {m c : Nat} {l : List ByteArray} (h : SsOk w q m c l) (hb : Below w.heap.size w w') : SsOk w' q m c l := ⟨h.hn, h.h1, h.h2, h.hl.below hb, h.ok⟩

def prCells : List Pr → List Value
  | [] => []
  | p :: l => .string p.n :: .int .i64 p.v.a.k :: .int .i64 p.v.a.n :: .float .f64 p.v.a.f :: .string p.v.a.s :: .slice p.v.q p.v.m p.v.c :: prCells l
theorem prCells_length : ∀ l : List Pr, (prCells l).length = l.length * 6
  | [] => rfl
  | a :: l => by simp only [prCells, List.length_cons, prCells_length l]; omega
theorem prCells_append : ∀ l m : List Pr, prCells l ++ prCells m = prCells (l ++ m)
  | [], m => rfl
  | a :: l, m => by simp only [prCells, List.cons_append, prCells_append l m]
theorem prCells_one : ∀ (l : List Pr), ∀ v ∈ prCells l, v.oneCell' = true
  | [], v, h => by cases h
  | a :: l, v, h => by
    simp only [prCells, List.mem_cons] at h
    rcases h with rfl | rfl | rfl | rfl | rfl | rfl | h
    · rfl
    · rfl
    · rfl
    · rfl
    · rfl
    · rfl
    · exact prCells_one l v h
theorem prCells_get : ∀ {l : List Pr} {i : Nat} {a : Pr}, l[i]? = some a → (prCells l)[i * 6]? = some (.string a.n) ∧ (prCells l)[i * 6 + 1]? = some (.int .i64 a.v.a.k) ∧ (prCells l)[i * 6 + 2]? = some (.int .i64 a.v.a.n) ∧ (prCells l)[i * 6 + 3]? = some (.float .f64 a.v.a.f) ∧ (prCells l)[i * 6 + 4]? = some (.string a.v.a.s) ∧ (prCells l)[i * 6 + 5]? = some (.slice a.v.q a.v.m a.v.c)
  | [], i, a, h => by simp at h
  | b :: l, 0, a, h => by
    simp only [List.getElem?_cons_zero, Option.some.injEq] at h
    subst h
    exact ⟨rfl, rfl, rfl, rfl, rfl, rfl⟩
  | b :: l, i + 1, a, h => by
    have ih := prCells_get (l := l) (i := i) (a := a) (by simpa using h)
    have e0 : (i + 1) * 6 = i * 6 + 1 + 1 + 1 + 1 + 1 + 1 := by omega
    have e1 : (i + 1) * 6 + 1 = i * 6 + 1 + 1 + 1 + 1 + 1 + 1 + 1 := by omega
    have e2 : (i + 1) * 6 + 2 = i * 6 + 2 + 1 + 1 + 1 + 1 + 1 + 1 := by omega
    have e3 : (i + 1) * 6 + 3 = i * 6 + 3 + 1 + 1 + 1 + 1 + 1 + 1 := by omega
    have e4 : (i + 1) * 6 + 4 = i * 6 + 4 + 1 + 1 + 1 + 1 + 1 + 1 := by omega
    have e5 : (i + 1) * 6 + 5 = i * 6 + 5 + 1 + 1 + 1 + 1 + 1 + 1 := by omega
    rw [e1, e2, e3, e4, e5, e0]
    simp only [prCells, List.getElem?_cons_succ]
    exact ih

/-- A slice of the call's own that holds properties. -/
def POwn (w : World) (B : Nat) (v : Value) (l : List Pr) : Prop := w.ownsRow B 48 6 v l.length (prCells l)
theorem POwn.nil (w : World) (B : Nat) : POwn w B (.slice none 0 0) [] := World.ownsRow_nil w B _ _
theorem POwn.form {w : World} {B : Nat} {v : Value} {l : List Pr} (h : POwn w B v l) {n : Nat} (hn : n = l.length) :
    ∃ p c, v = .slice p n c ∧ ((∀ x ∈ l, x.Ok w) → PsOk w p n c l) := by
  subst hn
  rcases h.2 with ⟨rfl, h0⟩ | ⟨g, cap, cur, rfl, hb, hg, hnc, hcm, hcs, htake⟩
  · obtain rfl := List.eq_nil_of_length_eq_zero h0
    exact ⟨none, 0, rfl, fun h => ⟨rfl, Nat.le_refl _, by omega, fun _ => rfl, Ps.nil _ _⟩⟩
  · refine ⟨some ⟨g, 0, none⟩, cap, rfl, fun hx => ⟨rfl, hnc, by simp only [maxLen] at hcm; omega, fun h => (by cases h), hx, fun _ => ⟨g, 0, rfl, fun i a hi => ?_⟩⟩⟩
    obtain ⟨c0, c1, c2, c3, c4, c5⟩ := prCells_get hi
    have r := fun j u hj => h.cells (g := g) rfl j u hj
    have r0 := r _ _ c0
    have r1 := r _ _ c1
    have r2 := r _ _ c2
    have r3 := r _ _ c3
    have r4 := r _ _ c4
    have r5 := r _ _ c5
    simp only [Addr.add_lit, Nat.zero_add] at r0 r1 r2 r3 r4 r5
    rw [Nat.zero_add]
    exact ⟨r0, r1, r2, r3, r4, r5⟩
theorem POwn.le {w : World} {B B' : Nat} {v : Value} {l : List Pr} (h : POwn w B v l) (hb : B' ≤ B) : POwn w B' v l := World.ownsRow.mono h hb
theorem POwn.below {w w' : World} {B : Nat} {v : Value} {l : List Pr} (h : POwn w B v l) (hb : Below w.heap.size w w') : POwn w' B v l := by
  refine ⟨h.1, ?_⟩
  rcases h.2 with h0 | ⟨g, cap, cur, hv, h1, hg, h2⟩
  · exact .inl h0
  · exact .inr ⟨g, cap, cur, hv, h1, by rw [hb.block g (Array.getElem?_eq_some_iff.1 hg).1]; exact hg, h2⟩
theorem POwn.grown {w0 w w' : World} {B : Nat} {v : Value} {l : List Pr} (h : POwn w B v l) (hb : Below B w0 w) (hB : B ≤ w.heap.size) (hg : w.grownBy w' v.ownBlock) : Below B w0 w' :=
  hb.grown hg hB fun k hk => (World.ownsRow.lt h k hk).1

theorem info_prop : (Try.prog.info? 48).map (fun i => (i.zero, i.size, i.bytes)) = some (some (.agg #[.string ⟨#[]⟩, .int .i64 0, .int .i64 0, .float .f64 0, .string ⟨#[]⟩, .slice none 0 0]), 6, 80) := by kernel_rfl

/-- The list of a property does not lie in the slice's own block. -/
def Pr.Apart (x : Pr) (v : Value) : Prop := x.v.Apart v
theorem pr_kept {w w' : World} {x : Pr} {v v' : Value} (hx : x.Ok w) (ha : x.Apart v) (hg : w.grownBy w' v.ownBlock) (hv : v'.ownBlock = v.ownBlock ∨ ∀ k, v'.ownBlock = some k → w.heap.size ≤ k) : x.Ok w' ∧ x.Apart v' := by
  obtain ⟨h1, h2⟩ := va_kept hx.v ha hg hv
  exact ⟨⟨hx.n, h1, hx.z⟩, h2⟩

theorem run_prop {w : World} (ty : TypeId) {B : Nat} {v : Value} {l : List Pr} (u : Pr) (hown : POwn w B v l) {ad : Addr} {c : Nat} (hsrc : ∀ j y, (prCells [u])[j]? = some y → w.cell? (ad.add j) = some y) (hlen : l.length ≤ 100000) (hB : B ≤ w.heap.size) :
    ∃ v' w', (Builtin.append_ #[23, 23] ty #[v, .slice (some ad) 1 c]).run Try.prog w = .ok v' w' ∧ POwn w' B v' (l ++ [u]) ∧ w.grownBy w' v.ownBlock ∧ (v'.ownBlock = v.ownBlock ∨ ∀ k, v'.ownBlock = some k → w.heap.size ≤ k) := by
  obtain ⟨i, hi, hz0, hz1, hz2⟩ := info_parts info_prop
  have fin : ∀ {D : Nat} {v' : Value} {w' : World}, w'.ownsRow D 48 6 v' (l.length + 1) (prCells l ++ prCells [u]) → POwn w' D v' (l ++ [u]) := by
    intro D v' w' h1
    unfold POwn
    rw [← prCells_append, List.length_append]
    exact h1
  have lo : ∀ {v' : Value} {w' : World}, POwn w' w.heap.size v' (l ++ [u]) → ∀ k, v'.ownBlock = some k → w.heap.size ≤ k := fun h k hk => (World.ownsRow.lt h k hk).1
  rcases hown.2 with ⟨rfl, h0⟩ | ⟨g, cap, cur, rfl, hb, hg, hnc, hcm, hcs, htake⟩
  · have hl0 : l = [] := List.eq_nil_of_length_eq_zero h0
    subst hl0
    obtain ⟨v', w', hrun, r1, r2, _⟩ := run_append_own (P := Try.prog) w w.heap.size 23 ty 48 i _ 6 80 Try.underlying23 hi hz0 hz1 hz2 rfl (by decide) (.slice none 0 0) 0 [] (World.ownsRow_nil w _ _ _) ad 1 c (prCells [u]) rfl hsrc (prCells_one [u]) (by simp only [maxLen]; omega) (by omega) (Nat.le_refl _)
    exact ⟨v', w', hrun, (fin r1).le hB, r2, .inr (lo (fin r1))⟩
  · rcases Nat.lt_or_ge cap (l.length + 1) with hc | hc
    · obtain ⟨v', w', hrun, r1, r2⟩ := run_append_arg_grows (P := Try.prog) w 23 ty 48 i _ 6 80 Try.underlying23 hi hz0 hz1 hz2 rfl (by decide) ⟨g, 0, none⟩ l.length cap (prCells l) (prCells_length l) (fun j y hj => hown.cells (g := g) rfl j y hj) ad 1 c (prCells [u]) rfl hsrc hc (by simp only [maxLen]; omega) (by omega)
      exact ⟨v', w', hrun, (fin r1).le hB, ⟨r2.os, r2.tape, r2.output, r2.size, fun k hk _ => r2.block k hk (by simp)⟩, .inr (lo (fin r1))⟩
    · obtain ⟨w', hrun, r1, r2⟩ := run_append_fits (P := Try.prog) (w := w) B 23 ty 48 i 6 Try.underlying23 hi hz1 g l.length cap (prCells l) hown ad 1 c (prCells [u]) rfl hsrc (prCells_one [u]) hc
      exact ⟨_, w', hrun, fin r1, r2, .inl rfl⟩

/-- append(own, property). -/
theorem app_prop {w : World} {ops : Array Oper} {rest : List Oper} {o : Oper} {a : Act} {Q : Exit → Act → World → Prop} (hgd : o.guard = none) (s x : Operand)
    (ho : o.op = .call { callee := .builtin .append, args := #[s, x], argTypes := #[23, 23] })
    {B : Nat} {v : Value} {l : List Pr} (u : Pr) (hs : a.eval s = v) (hown : POwn w B v l) {ad : Addr} {n c : Nat} (hn : n = 1) (hx : a.eval x = .slice (some ad) n c) (hsrc : ∀ j y, (prCells [u])[j]? = some y → w.cell? (ad.add j) = some y)
    (hlen : l.length ≤ 100000) (hB : B ≤ w.heap.size)
    (h : ∀ v' w', POwn w' B v' (l ++ [u]) → Below B w w' → (∀ x : Pr, x.Ok w → x.Apart v → x.Ok w' ∧ x.Apart v') → wpList Try.prog ops Q rest (a.put o.dst v') w') : wpList Try.prog ops Q (o :: rest) a w := by
  subst hn
  obtain ⟨v', w', hrun, r1, r2, r3⟩ := run_prop o.type u hown (c := c) hsrc hlen hB
  refine Lib.wpList_append_run w hgd s x _ _ ho v _ hs hx v' w' hrun ?_
  exact h v' w' r1 (hown.grown (Below.refl _ _) hB r2) (fun x hx ha => pr_kept hx ha r2 r3)

/-- The same, as a step of a region that draws its order. -/
theorem step_prop {w : World} {ops : Array Oper} {o : Oper} {a : Act} {K : Act → World → Prop} {Q : Exit → Act → World → Prop} {E : Prop} (hg : o.guard = none) (s x : Operand)
    (ho : o.op = .call { callee := .builtin .append, args := #[s, x], argTypes := #[23, 23] })
    {B : Nat} {v : Value} {l : List Pr} (u : Pr) (hs : a.eval s = v) (hown : POwn w B v l) {ad : Addr} {n c : Nat} (hn : n = 1) (hx : a.eval x = .slice (some ad) n c) (hsrc : ∀ j y, (prCells [u])[j]? = some y → w.cell? (ad.add j) = some y)
    (hlen : l.length ≤ 100000) (hB : B ≤ w.heap.size)
    (h : ∀ v' w', POwn w' B v' (l ++ [u]) → Below B w w' → (∀ x : Pr, x.Ok w → x.Apart v → x.Ok w' ∧ x.Apart v') → w.grownBy w' v.ownBlock → K (a.put o.dst v') w') : if Region.wanted o (yielded ops a.tmps) = true then Oper.wp Try.prog o a w K Q else E := by
  have hw : Region.wanted o (yielded ops a.tmps) = true := by simp [Region.wanted, hg]
  rw [if_pos hw]
  subst hn
  obtain ⟨v', w', hr, r1, r2, r3⟩ := run_prop o.type u hown (c := c) hsrc hlen hB
  exact Lib.wp_append_run w s x 23 23 ho v _ hs hx v' w' hr (h v' w' r1 (hown.grown (Below.refl _ _) hB r2) (fun x hx ha => pr_kept hx ha r2 r3) r2)
theorem kept_cellP {w0 w w' : World} {B k : Nat} {v : Value} {l : List Pr} (h : POwn w0 B v l) (hg : w.grownBy w' v.ownBlock) (h0 : w0.heap.size ≤ k) (hk : k < w.heap.size) (i : Nat) : w'.cell? ⟨k, i, none⟩ = w.cell? ⟨k, i, none⟩ := by
  refine World.cell?_of_block (hg.block k hk fun e => ?_)
  have := (World.ownsRow.lt h k e.symm).2
  omega
/-- b[u:] -/
theorem from_props {q : Option Addr} {m c u : Nat} (hnc : m ≤ c) (hu : u ≤ m) (h0 : q = none → c = 0) : ∃ q', (if c = u then q else q.map (·.add (u * 6))) = q' ∧ (∀ W l, PsOk W q m c l → PsOk W q' (m - u) (c - u) (l.drop u)) := by
  refine ⟨_, rfl, fun W l h => ?_⟩
  have hl : m = l.length := h.hn
  refine ⟨by rw [List.length_drop, hl], by omega, by have := h.h2; omega, ?_, ⟨fun x hx => h.hl.ok x (List.mem_of_mem_drop hx), fun hne => ?_⟩⟩
  · intro e
    split at e
    · omega
    · cases q with
      | none => have := h0 rfl; omega
      | some a => cases e
  · have hlt : u < l.length := by
      rcases Nat.lt_or_ge u l.length with h | h
      · exact h
      · exact absurd (List.drop_eq_nil_of_le h) hne
    obtain ⟨b, o, rfl, hc⟩ := h.hl.cl (by intro e; subst e; simp at hlt)
    rw [if_neg (by omega)]
    refine ⟨b, o + u * 6, by simp [Addr.add_lit], fun i x hi => ?_⟩
    rw [List.getElem?_drop] at hi
    have := hc (u + i) x hi
    rw [Nat.add_mul, ← Nat.add_assoc] at this
    exact this
theorem PsOk.take {W : World} {q : Option Addr} {m c : Nat} {l : List Pr} (h : PsOk W q m c l) {u : Nat} (hu : u ≤ m) : PsOk W q u c (l.take u) := by
  have hl : m = l.length := h.hn
  refine ⟨by rw [List.length_take]; omega, by have := h.h1; omega, h.h2, h.h0, ⟨fun x hx => h.hl.ok x (List.mem_of_mem_take hx), fun hne => ?_⟩⟩
  obtain ⟨b, o, hq, hc⟩ := h.hl.cl (by intro e; subst e; simp at hne)
  refine ⟨b, o, hq, fun i x hi => hc i x ?_⟩
  rw [List.getElem?_take] at hi
  split at hi
  · exact hi
  · cases hi

theorem pr_src {w : World} {g : Nat} (hg : g = w.heap.size) (u : Pr) (t : TypeId) : ∀ j y, (prCells [u])[j]? = some y → (w.alloc (.cells #[.string u.n, .int .i64 u.v.a.k, .int .i64 u.v.a.n, .float .f64 u.v.a.f, .string u.v.a.s, .slice u.v.q u.v.m u.v.c] t)).cell? ((⟨g, 0, none⟩ : Addr).add j) = some y := by
  subst hg
  intro j y hj
  rw [Addr.add_lit, Joins.cell_of_block (heap_alloc_new w (.cells #[.string u.n, .int .i64 u.v.a.k, .int .i64 u.v.a.n, .float .f64 u.v.a.f, .string u.v.a.s, .slice u.v.q u.v.m u.v.c] t))]
  simpa [prCells] using hj

end Go.Proofs.Ytekaedafhiddeaa
