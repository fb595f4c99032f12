/-
  Atoms and values, for the walks: what an atom is in memory, and a list of atoms that lies at an address.
  Boxes: what a function's own boxes hold in later worlds.
  Three boxes.
  What the calls on values tell, as plain functions.
  Two lists side by side: plain facts.
-/
import Derived.Test.YtckmajcophpddaaDoorFCanon
import Derived.Lib.SmallJoins
set_option linter.unusedVariables false
set_option maxRecDepth 100000
namespace Go.Proofs.YtckmajcophpddaaDoor
open Go.RowKit


/-- An atom. -/
structure At where
  k : Int
  n : Int
  f : Nat
  s : ByteArray

/-- In the bounds of its types. -/
structure At.Ok (a : At) : Prop where
  k1 : -9223372036854775808 ≤ a.k
  k2 : a.k ≤ 9223372036854775807
  n1 : -9223372036854775808 ≤ a.n
  n2 : a.n ≤ 9223372036854775807
  f1 : a.f < 18446744073709551616
  s1 : a.s.size ≤ 9223372036854775807

/-- Is a float the stand-in of itself? -/
def canonT (f : Nat) : Bool := ((canonB f : Nat) : Int) == (f : Int)

/-- P3.1, of atoms. -/
def validA (k n : Int) (f : Nat) (s : ByteArray) : Bool :=
  if k = 0 then n == 0 && (f : Int) == 0 && s.toList.isEmpty
  else if k = 1 then (n == 0 || n == 1) && (f : Int) == 0 && s.toList.isEmpty
  else if k = 2 then (f : Int) == 0 && s.toList.isEmpty
  else if k = 3 then n == 0 && canonT f && s.toList.isEmpty
  else if k = 4 ∨ k = 5 then n == 0 && (f : Int) == 0 && decide (s.size ≤ 256)
  else false

def At.cell (a : At) : Value := .agg #[.int .i64 a.k, .int .i64 a.n, .float .f64 a.f, .string a.s]
def At.valid (a : At) : Bool := validA a.k a.n a.f a.s

/-- The cells of an atom that lies there. -/
structure AtCells (w : World) (b o : Nat) (a : At) : Prop where
  k : w.cell? ⟨b, o, none⟩ = some (.int .i64 a.k)
  n : w.cell? ⟨b, o + 1, none⟩ = some (.int .i64 a.n)
  f : w.cell? ⟨b, o + 2, none⟩ = some (.float .f64 a.f)
  s : w.cell? ⟨b, o + 3, none⟩ = some (.string a.s)

/-- The atoms l lie at p (of none nothing is said). -/
def As (w : World) (p : Option Addr) (l : List At) : Prop :=
  l ≠ [] → ∃ b o, p = some ⟨b, o, none⟩ ∧ ∀ i a, l[i]? = some a → AtCells w b (o + i * 4) a

theorem AtCells.lt {w : World} {b o : Nat} {a : At} (h : AtCells w b o a) : b < w.heap.size := by
  have := World.block_lt_of_cell? _ _ h.k
  simpa using this
theorem AtCells.below {w w' : World} {b o : Nat} {a : At} (h : AtCells w b o a) (hb : Below w.heap.size w w') : AtCells w' b o a := by
  have hlt := h.lt
  obtain ⟨h1, h2, h3, h4⟩ := h
  exact ⟨by rw [hb.cell hlt]; exact h1, by rw [hb.cell hlt]; exact h2, by rw [hb.cell hlt]; exact h3, by rw [hb.cell hlt]; exact h4⟩

theorem As.nil (w : World) (p : Option Addr) : As w p [] := fun h => absurd rfl h
theorem As.below {w w' : World} {p : Option Addr} {l : List At} (h : As w p l) (hb : Below w.heap.size w w') : As w' p l := by
  intro hne
  obtain ⟨b, o, hp, hc⟩ := h hne
  exact ⟨b, o, hp, fun i a hi => (hc i a hi).below hb⟩
theorem As.at {w : World} {p : Option Addr} {l : List At} (h : As w p l) {j : Nat} {a : At} (hj : l[j]? = some a) :
    ∃ b o, p = some ⟨b, o, none⟩ ∧ AtCells w b (o + j * 4) a := by
  obtain ⟨b, o, hp, hc⟩ := h (by intro e; subst e; simp at hj)
  exact ⟨b, o, hp, hc j a hj⟩
theorem As.drew {w : World} {p : Option Addr} {l : List At} (h : As w p l) (n : Nat) : As (w.drewN n) p l := h.below (belowN (Below.refl _ _) n)
theorem As.alloc {w : World} {p : Option Addr} {l : List At} (h : As w p l) (o : Obj) : As (w.alloc o) p l := h.below (Below.alloc (Below.refl _ _) (Nat.le_refl _) _)

theorem store_flt (a : Addr) (k : FloatKind) (b : Nat) (m : Mode) (w : World) : (store a (.float k b) m).run Tryd.prog w = stored Tryd.prog w a (.float k b) m := run_store _ _ _ _ _ rfl
theorem bcell {W w1 : World} (hb : Below W.heap.size W w1) : (∀ b o, b < W.heap.size → w1.cell? ⟨b, o, none⟩ = W.cell? ⟨b, o, none⟩) ∧ (∀ b o, b < W.heap.size → w1.frozen? ⟨b, o, none⟩ = W.frozen? ⟨b, o, none⟩) :=
  ⟨fun b o h => hb.cell (p := ⟨b, o, none⟩) h, fun b o h => hb.frozen (p := ⟨b, o, none⟩) h⟩

/-- What the contracts ask of a value that is handed in. -/
structure VaOk (w : World) (a : At) (q : Option Addr) (m c : Nat) (l : List At) : Prop where
  ok : a.Ok
  hn : m = l.length
  h1 : m ≤ c
  h2 : c ≤ 9223372036854775807
  hl : As w q l
  hok : ∀ a ∈ l, a.Ok

theorem VaOk.below {w w' : World} {a : At} {q : Option Addr} {m c : Nat} {l : List At} (h : VaOk w a q m c l) (hb : Below w.heap.size w w') : VaOk w' a q m c l :=
  ⟨h.ok, h.hn, h.h1, h.h2, h.hl.below hb, h.hok⟩

end Go.Proofs.YtckmajcophpddaaDoor

set_option linter.unusedVariables false
set_option maxRecDepth 100000
namespace Go.Proofs.YtckmajcophpddaaDoor
open Go.RowKit

/-- A box, and later worlds: its cells. -/
theorem box_cell {w w1 : World} {cs : Array Value} {t : TypeId} (hb : Below (w.alloc (.cells cs t)).heap.size (w.alloc (.cells cs t)) w1) (i : Nat) : w1.cell? ⟨w.heap.size, i, none⟩ = cs[i]? := by
  rw [hb.cell (by simp)]
  exact Joins.cell_of_block (heap_alloc_new w _) i
theorem box_below {w w1 : World} {o : Obj} (hb : Below (w.alloc o).heap.size (w.alloc o) w1) : Below w.heap.size w w1 :=
  ((Below.refl _ _).alloc (Nat.le_refl _) _).trans (hb.mono (by simp))
theorem box2_below {w w1 : World} {o o' : Obj} (hb : Below ((w.alloc o).alloc o').heap.size ((w.alloc o).alloc o') w1) : Below w.heap.size w w1 :=
  box_below ((box_below hb : Below _ _ _))
theorem box2_cell {w w1 : World} {cs cs' : Array Value} {t t' : TypeId} (hb : Below ((w.alloc (.cells cs t)).alloc (.cells cs' t')).heap.size ((w.alloc (.cells cs t)).alloc (.cells cs' t')) w1) (i : Nat) :
    w1.cell? ⟨w.heap.size, i, none⟩ = cs[i]? ∧ w1.cell? ⟨w.heap.size + 1, i, none⟩ = cs'[i]? := by
  refine ⟨?_, ?_⟩
  · exact box_cell (box_below hb) i
  · have h := box_cell hb i
    have e : (w.alloc (.cells cs t)).heap.size = w.heap.size + 1 := by simp
    rw [e] at h
    exact h

end Go.Proofs.YtckmajcophpddaaDoor

set_option linter.unusedVariables false
set_option maxRecDepth 100000
namespace Go.Proofs.YtckmajcophpddaaDoor
open Go.RowKit

/-- Three boxes. -/
theorem box3_below {w w1 : World} {o o' o2 : Obj} (hb : Below (((w.alloc o).alloc o').alloc o2).heap.size (((w.alloc o).alloc o').alloc o2) w1) : Below w.heap.size w w1 :=
  box2_below ((box_below hb : Below _ _ _))
theorem box3_cells {w w1 : World} {a b c : Array Value} {t t' t2 : TypeId} (hb : Below (((w.alloc (.cells a t)).alloc (.cells b t')).alloc (.cells c t2)).heap.size (((w.alloc (.cells a t)).alloc (.cells b t')).alloc (.cells c t2)) w1) :
    (∀ i, w1.cell? ⟨w.heap.size, i, none⟩ = a[i]?) ∧ (∀ i, w1.cell? ⟨w.heap.size + 1, i, none⟩ = b[i]?) ∧ (∀ i, w1.cell? ⟨w.heap.size + 2, i, none⟩ = c[i]?) := by
  have h12 := fun i => box2_cell (box_below hb : Below _ _ _) i
  refine ⟨fun i => (h12 i).1, fun i => (h12 i).2, fun i => ?_⟩
  have h := box_cell hb i
  have e : ((w.alloc (.cells a t)).alloc (.cells b t')).heap.size = w.heap.size + 2 := by simp
  rw [e] at h
  exact h

end Go.Proofs.YtckmajcophpddaaDoor

set_option linter.unusedVariables false
set_option maxRecDepth 100000
namespace Go.Proofs.YtckmajcophpddaaDoor
open Go.RowKit

/-- P3.1. -/
def validV (a : At) (l : List At) : Bool :=
  if a.k = 6 then validA 0 a.n a.f a.s && (decide ((l.length : Int) ≤ 16) && !l.any fun a => !a.valid) else ((l.length : Int) == 0) && a.valid

/-- Two atoms that are the same. -/
def sameA (a b : At) : Bool := a.k == b.k && (a.n == b.n && ((a.f : Int) == (b.f : Int) && a.s.toList == b.s.toList))
/-- Two values that are the same. -/
def sameV (a : At) (l : List At) (b : At) (r : List At) : Bool := sameA a b && (decide (l.length = r.length) && ((l.zip r).all fun p => sameA p.1 p.2))

end Go.Proofs.YtckmajcophpddaaDoor

set_option linter.unusedVariables false
set_option maxRecDepth 100000
namespace Go.Proofs.YtckmajcophpddaaDoor

theorem all_zip_take {α : Type} {p : α × α → Bool} {l r : List α} {j : Nat} {a b : α} (ha : l[j]? = some a) (hb : r[j]? = some b) :
    ((l.zip r).take (j + 1)).all p = (((l.zip r).take j).all p && p (a, b)) := by
  have h : (l.zip r)[j]? = some (a, b) := by simp [List.getElem?_zip_eq_some, ha, hb]
  rw [List.take_add_one, h]
  simp
theorem all_zip_false {α : Type} {p : α × α → Bool} {l r : List α} {j : Nat} {a b : α} (ha : l[j]? = some a) (hb : r[j]? = some b) (h : p (a, b) = false) : (l.zip r).all p = false := by
  have h1 : (l.zip r)[j]? = some (a, b) := by simp [List.getElem?_zip_eq_some, ha, hb]
  rw [List.all_eq_false]
  exact ⟨(a, b), List.mem_of_getElem? h1, by rw [h]; decide⟩

end Go.Proofs.YtckmajcophpddaaDoor

