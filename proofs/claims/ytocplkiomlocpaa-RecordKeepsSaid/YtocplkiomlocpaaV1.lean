/-
  Atoms and values, for the walks: what an atom is in memory, and a list of atoms that lies at an address.
  Boxes: what a function's own boxes hold in later worlds.
  Three boxes.
  What the calls on values tell, as plain functions.
  Two lists side by side: plain facts.
  The order of values, as plain functions.
  Slices of atoms that the call itself made: what they hold, and append onto them.
-/
import Derived.Test.YtocplkiomlocpaaF1
import Derived.Test.YtocplkiomlocpaaF2
import Derived.Lib.SmallJoins
import Derived.Lib.Bytealg
import Derived.Laws.AppendOwnNone
import Derived.Deep.Onto
set_option linter.unusedVariables false
set_option maxRecDepth 100000
namespace Go.Proofs.Ytocplkiomlocpaa
open Go.RowKit


/-- An atom. -/
structure At where
  k : Int
  n : Int
  f : Nat
  s : ByteArray

/-- In the bounds of its types. -/
structure At.Ok (a : At) : Prop where
  k1 : -9223372036854775808 ≤ a.k
  k2 : a.k ≤ 9223372036854775807
  n1 : -9223372036854775808 ≤ a.n
  n2 : a.n ≤ 9223372036854775807
  f1 : a.f < 18446744073709551616
  s1 : a.s.size ≤ 9223372036854775807

/-- Is a float the stand-in of itself? -/
def canonT (f : Nat) : Bool := ((canonB f : Nat) : Int) == (f : Int)

/-- P3.1, of atoms. -/
def validA (k n : Int) (f : Nat) (s : ByteArray) : Bool :=
  if k = 0 then n == 0 && (f : Int) == 0 && s.toList.isEmpty
  else if k = 1 then (n == 0 || n == 1) && (f : Int) == 0 && s.toList.isEmpty
  else if k = 2 then (f : Int) == 0 && s.toList.isEmpty
  else if k = 3 then n == 0 && canonT f && s.toList.isEmpty
  else if k = 4 ∨ k = 5 then n == 0 && (f : Int) == 0 && decide (s.size ≤ 256)
  else false

def At.cell (a : At) : Value := .agg #[.int .i64 a.k, .int .i64 a.n, .float .f64 a.f, .string a.s]
def At.valid (a : At) : Bool := validA a.k a.n a.f a.s

/-- The cells of an atom that lies there. -/
structure AtCells (w : World) (b o : Nat) (a : At) : Prop where
  k : w.cell? ⟨b, o, none⟩ = some (.int .i64 a.k)
  n : w.cell? ⟨b, o + 1, none⟩ = some (.int .i64 a.n)
  f : w.cell? ⟨b, o + 2, none⟩ = some (.float .f64 a.f)
  s : w.cell? ⟨b, o + 3, none⟩ = some (.string a.s)

/-- The atoms l lie at p (of none nothing is said). -/
def As (w : World) (p : Option Addr) (l : List At) : Prop :=
  l ≠ [] → ∃ b o, p = some ⟨b, o, none⟩ ∧ ∀ i a, l[i]? = some a → AtCells w b (o + i * 4) a

theorem AtCells.lt {w : World} {b o : Nat} {a : At} (h : AtCells w b o a) : b < w.heap.size := by
  have := World.block_lt_of_cell? _ _ h.k
  simpa using this
theorem AtCells.below {w w' : World} {b o : Nat} {a : At} (h : AtCells w b o a) (hb : Below w.heap.size w w') : AtCells w' b o a := by
  have hlt := h.lt
  obtain ⟨h1, h2, h3, h4⟩ := h
  exact ⟨by rw [hb.cell hlt]; exact h1, by rw [hb.cell hlt]; exact h2, by rw [hb.cell hlt]; exact h3, by rw [hb.cell hlt]; exact h4⟩

theorem As.nil (w : World) (p : Option Addr) : As w p [] := fun h => absurd rfl h
theorem As.below {w w' : World} {p : Option Addr} {l : List At} (h : As w p l) (hb : Below w.heap.size w w') : As w' p l := by
  intro hne
  obtain ⟨b, o, hp, hc⟩ := h hne
  exact ⟨b, o, hp, fun i a hi => (hc i a hi).below hb⟩
theorem As.at {w : World} {p : Option Addr} {l : List At} (h : As w p l) {j : Nat} {a : At} (hj : l[j]? = some a) :
    ∃ b o, p = some ⟨b, o, none⟩ ∧ AtCells w b (o + j * 4) a := by
  obtain ⟨b, o, hp, hc⟩ := h (by intro e; subst e; simp at hj)
  exact ⟨b, o, hp, hc j a hj⟩
theorem As.drew {w : World} {p : Option Addr} {l : List At} (h : As w p l) (n : Nat) : As (w.drewN n) p l := h.below (belowN (Below.refl _ _) n)
theorem As.alloc {w : World} {p : Option Addr} {l : List At} (h : As w p l) (o : Obj) : As (w.alloc o) p l := h.below (Below.alloc (Below.refl _ _) (Nat.le_refl _) _)

theorem store_flt (a : Addr) (k : FloatKind) (b : Nat) (m : Mode) (w : World) : (store a (.float k b) m).run Try.prog w = stored Try.prog w a (.float k b) m := run_store _ _ _ _ _ rfl
theorem bcell {W w1 : World} (hb : Below W.heap.size W w1) : (∀ b o, b < W.heap.size → w1.cell? ⟨b, o, none⟩ = W.cell? ⟨b, o, none⟩) ∧ (∀ b o, b < W.heap.size → w1.frozen? ⟨b, o, none⟩ = W.frozen? ⟨b, o, none⟩) :=
  ⟨fun b o h => hb.cell (p := ⟨b, o, none⟩) h, fun b o h => hb.frozen (p := ⟨b, o, none⟩) h⟩

/-- What the contracts ask of a value that is handed in. -/
structure VaOk (w : World) (a : At) (q : Option Addr) (m c : Nat) (l : List At) : Prop where
  ok : a.Ok
  hn : m = l.length
  h1 : m ≤ c
  h2 : c ≤ 9223372036854775807
  hl : As w q l
  hok : ∀ a ∈ l, a.Ok

theorem VaOk.below {w w' : World} {a : At} {q : Option Addr} {m c : Nat} {l : List At} (h : VaOk w a q m c l) (hb : Below w.heap.size w w') : VaOk w' a q m c l :=
  ⟨h.ok, h.hn, h.h1, h.h2, h.hl.below hb, h.hok⟩

end Go.Proofs.Ytocplkiomlocpaa

set_option linter.unusedVariables false
set_option maxRecDepth 100000
namespace Go.Proofs.Ytocplkiomlocpaa
open Go.RowKit

/-- A box, and later worlds: its cells. -/
theorem box_cell {w w1 : World} {cs : Array Value} {t : TypeId} (hb : Below (w.alloc (.cells cs t)).heap.size (w.alloc (.cells cs t)) w1) (i : Nat) : w1.cell? ⟨w.heap.size, i, none⟩ = cs[i]? := by
  rw [hb.cell (by simp)]
  exact Joins.cell_of_block (heap_alloc_new w _) i
theorem box_below {w w1 : World} {o : Obj} (hb : Below (w.alloc o).heap.size (w.alloc o) w1) : Below w.heap.size w w1 :=
  ((Below.refl _ _).alloc (Nat.le_refl _) _).trans (hb.mono (by simp))
theorem box2_below {w w1 : World} {o o' : Obj} (hb : Below ((w.alloc o).alloc o').heap.size ((w.alloc o).alloc o') w1) : Below w.heap.size w w1 :=
  box_below ((box_below hb : Below _ _ _))
theorem box2_cell {w w1 : World} {cs cs' : Array Value} {t t' : TypeId} (hb : Below ((w.alloc (.cells cs t)).alloc (.cells cs' t')).heap.size ((w.alloc (.cells cs t)).alloc (.cells cs' t')) w1) (i : Nat) :
    w1.cell? ⟨w.heap.size, i, none⟩ = cs[i]? ∧ w1.cell? ⟨w.heap.size + 1, i, none⟩ = cs'[i]? := by
  refine ⟨?_, ?_⟩
  · exact box_cell (box_below hb) i
  · have h := box_cell hb i
    have e : (w.alloc (.cells cs t)).heap.size = w.heap.size + 1 := by simp
    rw [e] at h
    exact h

end Go.Proofs.Ytocplkiomlocpaa

set_option linter.unusedVariables false
set_option maxRecDepth 100000
namespace Go.Proofs.Ytocplkiomlocpaa
open Go.RowKit

/-- Three boxes. -/
theorem box3_below {w w1 : World} {o o' o2 : Obj} (hb : Below (((w.alloc o).alloc o').alloc o2).heap.size (((w.alloc o).alloc o').alloc o2) w1) : Below w.heap.size w w1 :=
  box2_below ((box_below hb : Below _ _ _))
theorem box3_cells {w w1 : World} {a b c : Array Value} {t t' t2 : TypeId} (hb : Below (((w.alloc (.cells a t)).alloc (.cells b t')).alloc (.cells c t2)).heap.size (((w.alloc (.cells a t)).alloc (.cells b t')).alloc (.cells c t2)) w1) :
    (∀ i, w1.cell? ⟨w.heap.size, i, none⟩ = a[i]?) ∧ (∀ i, w1.cell? ⟨w.heap.size + 1, i, none⟩ = b[i]?) ∧ (∀ i, w1.cell? ⟨w.heap.size + 2, i, none⟩ = c[i]?) := by
  have h12 := fun i => box2_cell (box_below hb : Below _ _ _) i
  refine ⟨fun i => (h12 i).1, fun i => (h12 i).2, fun i => ?_⟩
  have h := box_cell hb i
  have e : ((w.alloc (.cells a t)).alloc (.cells b t')).heap.size = w.heap.size + 2 := by simp
  rw [e] at h
  exact h

end Go.Proofs.Ytocplkiomlocpaa

set_option linter.unusedVariables false
set_option maxRecDepth 100000
namespace Go.Proofs.Ytocplkiomlocpaa
open Go.RowKit

/-- P3.1. -/
def validV (a : At) (l : List At) : Bool :=
  if a.k = 6 then validA 0 a.n a.f a.s && (decide ((l.length : Int) ≤ 16) && !l.any fun a => !a.valid) else ((l.length : Int) == 0) && a.valid

/-- Two atoms that are the same. -/
def sameA (a b : At) : Bool := a.k == b.k && (a.n == b.n && ((a.f : Int) == (b.f : Int) && a.s.toList == b.s.toList))
/-- Two values that are the same. -/
def sameV (a : At) (l : List At) (b : At) (r : List At) : Bool := sameA a b && (decide (l.length = r.length) && ((l.zip r).all fun p => sameA p.1 p.2))

end Go.Proofs.Ytocplkiomlocpaa

set_option linter.unusedVariables false
set_option maxRecDepth 100000
namespace Go.Proofs.Ytocplkiomlocpaa

theorem all_zip_take {α : Type} {p : α × α → Bool} {l r : List α} {j : Nat} {a b : α} (ha : l[j]? = some a) (hb : r[j]? = some b) :
    ((l.zip r).take (j + 1)).all p = (((l.zip r).take j).all p && p (a, b)) := by
  have h : (l.zip r)[j]? = some (a, b) := by simp [List.getElem?_zip_eq_some, ha, hb]
  rw [List.take_add_one, h]
  simp
theorem all_zip_false {α : Type} {p : α × α → Bool} {l r : List α} {j : Nat} {a b : α} (ha : l[j]? = some a) (hb : r[j]? = some b) (h : p (a, b) = false) : (l.zip r).all p = false := by
  have h1 : (l.zip r)[j]? = some (a, b) := by simp [List.getElem?_zip_eq_some, ha, hb]
  rw [List.all_eq_false]
  exact ⟨(a, b), List.mem_of_getElem? h1, by rw [h]; decide⟩

end Go.Proofs.Ytocplkiomlocpaa

set_option linter.unusedVariables false
set_option maxRecDepth 100000
namespace Go.Proofs.Ytocplkiomlocpaa
open Go.RowKit

def isNum2 (k : Int) : Bool := k == 2 || k == 3
def rankA (k : Int) : Int := if isNum2 k = true then 2 else k
/-- The first that is not 0. -/
def orI (x y : Int) : Int := if x = 0 then y else x
/-- How numbers stand, exactly. -/
def weighN (k n : Int) (f : Nat) (k' n' : Int) (g : Nat) : Int :=
  if k = 3 then (if k' = 3 then cmpI (keyB f) (keyB g) else -cmpN n' f) else if k' = 3 then cmpN n g else cmpI n n'
def cmpS (s t : ByteArray) : Int := Lib.compareBytes s.data.toList t.data.toList
/-- How atoms stand by what they stand for. -/
def weighA (a b : At) : Int :=
  if cmpI (rankA a.k) (rankA b.k) ≠ 0 then cmpI (rankA a.k) (rankA b.k)
  else if isNum2 a.k = true then weighN a.k a.n a.f b.k b.n b.f
  else orI (cmpI a.n b.n) (cmpS a.s b.s)
def cmpA (a b : At) : Int := orI (weighA a b) (cmpI a.k b.k)
def cmpLs : List At → List At → Int
  | [], [] => 0
  | [], _ :: _ => -1
  | _ :: _, [] => 1
  | a :: l, b :: r => orI (cmpA a b) (cmpLs l r)
/-- P3.2. -/
def cmpV (a : At) (l : List At) (b : At) (r : List At) : Int := if validV a l = true ∧ validV b r = true then orI (cmpA a b) (cmpLs l r) else 0

end Go.Proofs.Ytocplkiomlocpaa

set_option linter.unusedVariables false
set_option maxRecDepth 100000
namespace Go.Proofs.Ytocplkiomlocpaa
open Go.RowKit

/-- The cells of atoms. -/
def atCells : List At → List Value
  | [] => []
  | a :: l => .int .i64 a.k :: .int .i64 a.n :: .float .f64 a.f :: .string a.s :: atCells l
theorem atCells_length : ∀ l : List At, (atCells l).length = l.length * 4
  | [] => rfl
  | a :: l => by simp only [atCells, List.length_cons, atCells_length l]; omega
theorem atCells_append : ∀ l m : List At, atCells l ++ atCells m = atCells (l ++ m)
  | [], m => rfl
  | a :: l, m => by simp only [atCells, List.cons_append, atCells_append l m]
theorem atCells_one : ∀ (l : List At), ∀ v ∈ atCells l, v.oneCell' = true
  | [], v, h => by cases h
  | a :: l, v, h => by
    simp only [atCells, List.mem_cons] at h
    rcases h with rfl | rfl | rfl | rfl | h
    · rfl
    · rfl
    · rfl
    · rfl
    · exact atCells_one l v h
theorem atCells_get : ∀ {l : List At} {i : Nat} {a : At}, l[i]? = some a → (atCells l)[i * 4]? = some (.int .i64 a.k) ∧ (atCells l)[i * 4 + 1]? = some (.int .i64 a.n) ∧ (atCells l)[i * 4 + 2]? = some (.float .f64 a.f) ∧ (atCells l)[i * 4 + 3]? = some (.string a.s)
  | [], i, a, h => by simp at h
  | b :: l, 0, a, h => by
    simp only [List.getElem?_cons_zero, Option.some.injEq] at h
    subst h
    exact ⟨rfl, rfl, rfl, rfl⟩
  | b :: l, i + 1, a, h => by
    have ih := atCells_get (l := l) (i := i) (a := a) (by simpa using h)
    have e0 : (i + 1) * 4 = i * 4 + 1 + 1 + 1 + 1 := by omega
    have e1 : (i + 1) * 4 + 1 = i * 4 + 1 + 1 + 1 + 1 + 1 := by omega
    have e2 : (i + 1) * 4 + 2 = i * 4 + 2 + 1 + 1 + 1 + 1 := by omega
    have e3 : (i + 1) * 4 + 3 = i * 4 + 3 + 1 + 1 + 1 + 1 := by omega
    rw [e1, e2, e3, e0]
    simp only [atCells, List.getElem?_cons_succ]
    exact ih
theorem atCells_at : ∀ {l : List At} {j : Nat} {u : Value}, (atCells l)[j]? = some u → ∃ i a, l[i]? = some a ∧ (j = i * 4 ∧ u = .int .i64 a.k ∨ j = i * 4 + 1 ∧ u = .int .i64 a.n ∨ j = i * 4 + 2 ∧ u = .float .f64 a.f ∨ j = i * 4 + 3 ∧ u = .string a.s)
  | [], j, u, h => by simp [atCells] at h
  | b :: l, 0, u, h => ⟨0, b, rfl, .inl ⟨rfl, by simpa [atCells] using h.symm⟩⟩
  | b :: l, 1, u, h => ⟨0, b, rfl, .inr (.inl ⟨rfl, by simpa [atCells] using h.symm⟩)⟩
  | b :: l, 2, u, h => ⟨0, b, rfl, .inr (.inr (.inl ⟨rfl, by simpa [atCells] using h.symm⟩))⟩
  | b :: l, 3, u, h => ⟨0, b, rfl, .inr (.inr (.inr ⟨rfl, by simpa [atCells] using h.symm⟩))⟩
  | b :: l, j + 4, u, h => by
    obtain ⟨i, a, hi, hc⟩ := atCells_at (l := l) (j := j) (u := u) (by simpa [atCells] using h)
    refine ⟨i + 1, a, by simpa using hi, ?_⟩
    rcases hc with ⟨h1, h2⟩ | ⟨h1, h2⟩ | ⟨h1, h2⟩ | ⟨h1, h2⟩
    · exact .inl ⟨by omega, h2⟩
    · exact .inr (.inl ⟨by omega, h2⟩)
    · exact .inr (.inr (.inl ⟨by omega, h2⟩))
    · exact .inr (.inr (.inr ⟨by omega, h2⟩))

theorem As.src {w : World} {ad : Addr} {l : List At} (h : As w (some ad) l) : ∀ j u, (atCells l)[j]? = some u → w.cell? (ad.add j) = some u := by
  intro j u hj
  obtain ⟨i, a, hi, hc⟩ := atCells_at hj
  obtain ⟨b, o, hp, hk, hn, hf, hs⟩ := h.at hi
  obtain rfl := Option.some.inj hp
  rw [Addr.add_lit]
  rcases hc with ⟨rfl, rfl⟩ | ⟨rfl, rfl⟩ | ⟨rfl, rfl⟩ | ⟨rfl, rfl⟩
  · exact hk
  · exact hn
  · exact hf
  · exact hs

/-- A slice of the call's own that holds the atoms l. -/
def AOwn (w : World) (B : Nat) (v : Value) (l : List At) : Prop := w.ownsRow B 42 4 v l.length (atCells l)
theorem AOwn.nil (w : World) (B : Nat) : AOwn w B (.slice none 0 0) [] := World.ownsRow_nil w B _ _
theorem AOwn.form {w : World} {B : Nat} {v : Value} {l : List At} (h : AOwn w B v l) {n : Nat} (hn : n = l.length) :
    ∃ p c, v = .slice p n c ∧ n ≤ c ∧ c ≤ 9223372036854775807 ∧ As w p l := by
  subst hn
  rcases h.2 with ⟨rfl, h0⟩ | ⟨g, cap, cur, rfl, hb, hg, hnc, hcm, hcs, htake⟩
  · obtain rfl := List.eq_nil_of_length_eq_zero h0
    exact ⟨none, 0, rfl, Nat.le_refl _, by omega, As.nil _ _⟩
  · refine ⟨some ⟨g, 0, none⟩, cap, rfl, hnc, by simp only [maxLen] at hcm; omega, ?_⟩
    intro _
    refine ⟨g, 0, rfl, fun i a hi => ?_⟩
    obtain ⟨c0, c1, c2, c3⟩ := atCells_get hi
    have r := fun j u hj => h.cells (g := g) rfl j u hj
    have r0 := r _ _ c0
    have r1 := r _ _ c1
    have r2 := r _ _ c2
    have r3 := r _ _ c3
    simp only [Addr.add_lit, Nat.zero_add] at r0 r1 r2 r3
    rw [Nat.zero_add]
    exact ⟨r0, r1, r2, r3⟩
theorem AOwn.le {w : World} {B B' : Nat} {v : Value} {l : List At} (h : AOwn w B v l) (hb : B' ≤ B) : AOwn w B' v l := World.ownsRow.mono h hb
theorem AOwn.below {w w' : World} {B : Nat} {v : Value} {l : List At} (h : AOwn w B v l) (hb : Below w.heap.size w w') : AOwn w' B v l := by
  refine ⟨h.1, ?_⟩
  rcases h.2 with h0 | ⟨g, cap, cur, hv, h1, hg, h2⟩
  · exact .inl h0
  · exact .inr ⟨g, cap, cur, hv, h1, by rw [hb.block g (Array.getElem?_eq_some_iff.1 hg).1]; exact hg, h2⟩
theorem AOwn.empty (w : World) (B : Nat) (hB : B ≤ w.heap.size) : AOwn (w.alloc (.cells #[] 42)) B (.slice (some ⟨w.heap.size, 0, none⟩) 0 0) [] :=
  World.ownsRow_made w #[] 0 hB (by simp [maxLen]) rfl
theorem AOwn.grown {w0 w w' : World} {B : Nat} {v : Value} {l : List At} (h : AOwn w B v l) (hb : Below B w0 w) (hB : B ≤ w.heap.size) (hg : w.grownBy w' v.ownBlock) : Below B w0 w' :=
  hb.grown hg hB fun k hk => (World.ownsRow.lt h k hk).1

theorem info_atom : (Try.prog.info? 42).map (fun i => (i.zero, i.size, i.bytes)) = some (some (.agg #[.int .i64 0, .int .i64 0, .float .f64 0, .string ⟨#[]⟩]), 4, 40) := by kernel_rfl

/-- append(own, atoms...): the source wherever it lies, nil too. -/
theorem app_atoms {w : World} {ops : Array Oper} {rest : List Oper} {o : Oper} {a : Act} {Q : Exit → Act → World → Prop} (hgd : o.guard = none) (s x : Operand)
    (ho : o.op = .call { callee := .builtin .append, args := #[s, x], argTypes := #[43, 43] })
    {B : Nat} {v : Value} {l m : List At} (hs : a.eval s = v) (hown : AOwn w B v l) {p : Option Addr} {n c : Nat} (hn : n = m.length) (hx : a.eval x = .slice p n c) (hsrc : As w p m) (hp : p = none → c = 0)
    (hlen : l.length + m.length ≤ 100000) (hB : B ≤ w.heap.size)
    (h : ∀ v' w', AOwn w' B v' (l ++ m) → Below B w w' → wpList Try.prog ops Q rest (a.put o.dst v') w') : wpList Try.prog ops Q (o :: rest) a w := by
  subst hn
  obtain ⟨i, hi, hz0, hz1, hz2⟩ := info_parts info_atom
  cases p with
  | none =>
    obtain rfl : m = [] := by
      rcases m with _ | ⟨u, m⟩
      · rfl
      · obtain ⟨b, o, hp, _⟩ := hsrc (by simp)
        cases hp
    obtain rfl := hp rfl
    have hx' : a.eval x = .slice none 0 0 := hx
    refine wpList_append_own_none hgd s x _ ho B 42 i 4 Try.underlying43 hi v l.length (atCells l) hs hown hx' ?_
    exact h v w (by simpa using hown) (Below.refl _ _)
  | some ad =>
    refine wpList_append_own w hgd s x _ ho B 42 i _ 4 40 Try.underlying43 hi hz0 hz1 hz2 rfl (by decide) v l.length (atCells l) hs hown ad m.length c (atCells m) hx (atCells_length m) hsrc.src (atCells_one m) (by simp only [maxLen]; omega) (by omega) hB ?_
    intro v' w' h1 h2 _
    refine h v' w' ?_ (hown.grown (Below.refl _ _) hB h2)
    unfold AOwn
    rw [← atCells_append, List.length_append]
    exact h1

theorem AOwn.fresh {w : World} {B g : Nat} (hg : g = w.heap.size) (hB : B ≤ g) : AOwn (w.alloc (.cells #[] 42)) B (.slice (some ⟨g, 0, none⟩) 0 0) [] := by
  subst hg
  exact AOwn.empty w B hB
/-- A store below its block leaves a slice of the call's own. -/
theorem AOwn.far {w : World} {B : Nat} {v : Value} {l : List At} (h : AOwn w B v l) {p : Addr} (hp : p.block < B) (u : Value) : AOwn (w.setCell p u) B v l := by
  refine ⟨h.1, ?_⟩
  rcases h.2 with h0 | ⟨g, cap, cur, hv, h1, hg, h2⟩
  · exact .inl h0
  · exact .inr ⟨g, cap, cur, hv, h1, by rw [Below.heap_setCell w p u g (by omega)]; exact hg, h2⟩
/-- A block of the call's own below a bound that is left alone. -/
theorem own_cell {W w2 : World} {cs : Array Value} {t : TypeId} {B : Nat} (hW : W.heap[B]? = some (.cells cs t (0, 0))) (hb : Below (B + 1) W w2) (i : Nat) : w2.cell? ⟨B, i, none⟩ = cs[i]? ∧ w2.frozen? ⟨B, i, none⟩ = false := by
  have h := hb.block B (by omega)
  rw [hW] at h
  exact ⟨Joins.cell_of_block h i, Joins.unfrozen_of_block h i⟩

end Go.Proofs.Ytocplkiomlocpaa

