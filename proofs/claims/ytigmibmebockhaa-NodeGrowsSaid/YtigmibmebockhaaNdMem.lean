/-
  A tree's node in memory; what stays where one block alone changes.
-/
import Derived.Test.YtigmibmebockhaaNdSpec
import Derived.Test.YtigmibmebockhaaInts
set_option linter.unusedVariables false
set_option maxRecDepth 100000
namespace Go.Proofs.Ytigmibmebockhaa
open Go.RowKit

/-- A key, a value that lies somewhere. -/
structure Kb where
  q : Option Addr
  c : Nat
  l : List UInt8
structure Kb.Ok (w : World) (x : Kb) : Prop where
  bs : Bs w x.q x.l
  h1 : x.l.length ≤ x.c
  h2 : x.c ≤ 9223372036854775807
  z : x.q = none → x.c = 0
structure Vl where
  q : Option Addr
  c : Nat
  l : List UInt8
  g : Int
  p : Int
structure Vl.Ok (w : World) (x : Vl) : Prop where
  bs : Bs w x.q x.l
  h1 : x.l.length ≤ x.c
  h2 : x.c ≤ 9223372036854775807
  z : x.q = none → x.c = 0
  g1 : -9223372036854775808 ≤ x.g
  g2 : x.g ≤ 9223372036854775807
  p1 : -9223372036854775808 ≤ x.p
  p2 : x.p ≤ 9223372036854775807
def Vl.s (x : Vl) : VlS := ⟨x.l, x.g, x.p⟩
def Kb.v (x : Kb) : Value := .slice x.q x.l.length x.c
def Vl.cell (x : Vl) : Value := .agg #[.slice x.q x.l.length x.c, .int .i64 x.g, .int .i64 x.p]

theorem Kb.Ok.below {w w' : World} {x : Kb} (h : x.Ok w) (hb : Below w.heap.size w w') : x.Ok w' := ⟨h.bs.below hb, h.h1, h.h2, h.z⟩
theorem Vl.Ok.below {w w' : World} {x : Vl} (h : x.Ok w) (hb : Below w.heap.size w w') : x.Ok w' := ⟨h.bs.below hb, h.h1, h.h2, h.z, h.g1, h.g2, h.p1, h.p2⟩

/-- They lie at q. -/
def Kbs (w : World) (q : Option Addr) (ls : List Kb) : Prop := ls ≠ [] → ∃ b o, q = some ⟨b, o, none⟩ ∧ ∀ i x, ls[i]? = some x → w.cell? ⟨b, o + i, none⟩ = some (.slice x.q x.l.length x.c)
def Vls (w : World) (q : Option Addr) (ls : List Vl) : Prop := ls ≠ [] → ∃ b o, q = some ⟨b, o, none⟩ ∧ ∀ i x, ls[i]? = some x → w.cell? ⟨b, o + i * 3, none⟩ = some (.slice x.q x.l.length x.c) ∧ w.cell? ⟨b, o + i * 3 + 1, none⟩ = some (.int .i64 x.g) ∧ w.cell? ⟨b, o + i * 3 + 2, none⟩ = some (.int .i64 x.p)
theorem Kbs.at {w : World} {q : Option Addr} {l : List Kb} (h : Kbs w q l) {i : Nat} {x : Kb} (hx : l[i]? = some x) : ∃ b o, q = some ⟨b, o, none⟩ ∧ b < w.heap.size ∧ w.cell? ⟨b, o + i, none⟩ = some (.slice x.q x.l.length x.c) := by
  obtain ⟨b, o, hp, hc⟩ := h (by intro e; subst e; simp at hx)
  exact ⟨b, o, hp, World.block_lt_of_cell? _ _ (hc i x hx), hc i x hx⟩
theorem Kbs.below {w w' : World} {q : Option Addr} {l : List Kb} (h : Kbs w q l) (hb : Below w.heap.size w w') : Kbs w' q l := by
  intro hne
  obtain ⟨b, o, hp, hc⟩ := h hne
  refine ⟨b, o, hp, fun i u hi => ?_⟩
  have h1 := hc i u hi
  rw [hb.cell (World.block_lt_of_cell? _ _ h1)]
  exact h1
theorem Vls.at {w : World} {q : Option Addr} {l : List Vl} (h : Vls w q l) {i : Nat} {x : Vl} (hx : l[i]? = some x) : ∃ b o, q = some ⟨b, o, none⟩ ∧ b < w.heap.size ∧ w.cell? ⟨b, o + i * 3, none⟩ = some (.slice x.q x.l.length x.c) ∧ w.cell? ⟨b, o + i * 3 + 1, none⟩ = some (.int .i64 x.g) ∧ w.cell? ⟨b, o + i * 3 + 2, none⟩ = some (.int .i64 x.p) := by
  obtain ⟨b, o, hp, hc⟩ := h (by intro e; subst e; simp at hx)
  exact ⟨b, o, hp, World.block_lt_of_cell? _ _ (hc i x hx).1, hc i x hx⟩
theorem Vls.below {w w' : World} {q : Option Addr} {l : List Vl} (h : Vls w q l) (hb : Below w.heap.size w w') : Vls w' q l := by
  intro hne
  obtain ⟨b, o, hp, hc⟩ := h hne
  refine ⟨b, o, hp, fun i u hi => ?_⟩
  obtain ⟨h1, h2, h3⟩ := hc i u hi
  rw [hb.cell (World.block_lt_of_cell? _ _ h1), hb.cell (World.block_lt_of_cell? _ _ h2), hb.cell (World.block_lt_of_cell? _ _ h3)]
  exact ⟨h1, h2, h3⟩

/-- A node. -/
structure Nd where
  leaf : Bool
  kq : Option Addr
  kc : Nat
  ks : List Kb
  vq : Option Addr
  vc : Nat
  vs : List Vl
  iq : Option Addr
  ic : Nat
  is : List Int
def Nd.cell (n : Nd) : Value := .agg #[.bool n.leaf, .slice n.kq n.ks.length n.kc, .slice n.vq n.vs.length n.vc, .slice n.iq n.is.length n.ic]
def Nd.cells (n : Nd) : Array Value := #[.bool n.leaf, .slice n.kq n.ks.length n.kc, .slice n.vq n.vs.length n.vc, .slice n.iq n.is.length n.ic]
def Nd.s (n : Nd) : NdS := ⟨n.leaf, n.ks.map Kb.l, n.vs.map Vl.s, n.is⟩
def Nd.zero : Nd := ⟨false, none, 0, [], none, 0, [], none, 0, []⟩
structure Nd.Ok (w : World) (n : Nd) : Prop where
  k1 : n.ks.length ≤ n.kc
  k2 : n.kc ≤ 9223372036854775807
  kz : n.kq = none → n.kc = 0
  kl : Kbs w n.kq n.ks
  ko : ∀ x ∈ n.ks, x.Ok w
  v1 : n.vs.length ≤ n.vc
  v2 : n.vc ≤ 9223372036854775807
  vz : n.vq = none → n.vc = 0
  vl : Vls w n.vq n.vs
  vo : ∀ x ∈ n.vs, x.Ok w
  i1 : n.is.length ≤ n.ic
  i2 : n.ic ≤ 9223372036854775807
  iz : n.iq = none → n.ic = 0
  il : Ks w n.iq n.is
  io : ∀ x ∈ n.is, -9223372036854775808 ≤ x ∧ x ≤ 9223372036854775807
theorem Nd.Ok.below {w w' : World} {n : Nd} (h : n.Ok w) (hb : Below w.heap.size w w') : n.Ok w' :=
  ⟨h.k1, h.k2, h.kz, h.kl.below hb, fun x hx => (h.ko x hx).below hb, h.v1, h.v2, h.vz, h.vl.below hb, fun x hx => (h.vo x hx).below hb, h.i1, h.i2, h.iz, h.il.below hb, h.io⟩
theorem Nd.zero_ok (w : World) : Nd.zero.Ok w := ⟨Nat.le_refl _, (by show 0 ≤ _; omega), fun _ => rfl, (fun h => absurd rfl h), (fun x hx => by cases hx), Nat.le_refl _, (by show 0 ≤ _; omega), fun _ => rfl, (fun h => absurd rfl h), (fun x hx => by cases hx), Nat.le_refl _, (by show 0 ≤ _; omega), fun _ => rfl, (fun h => absurd rfl h), (fun x hx => by cases hx)⟩

/-- All blocks stay but g. -/
theorem gb_refl (w : World) (g : Nat) : w.grownBy w (some g) := ⟨rfl, rfl, rfl, Nat.le_refl _, fun _ _ _ => rfl⟩
theorem gb_below {w w' : World} {g : Nat} (h : Below w.heap.size w w') : w.grownBy w' (some g) := ⟨h.os, h.tape, h.output, h.size, fun k hk _ => h.block k hk⟩
theorem gb_trans {w w1 w2 : World} {g : Nat} (h : w.grownBy w1 (some g)) (h' : w1.grownBy w2 (some g)) : w.grownBy w2 (some g) :=
  ⟨h'.os.trans h.os, h'.tape.trans h.tape, h'.output.trans h.output, Nat.le_trans h.size h'.size, fun k hk hne => (h'.block k (Nat.lt_of_lt_of_le hk h.size) hne).trans (h.block k hk hne)⟩
theorem gb_set {w w1 : World} {g : Nat} (h : w.grownBy w1 (some g)) (i : Nat) (v : Value) : w.grownBy (w1.setCell ⟨g, i, none⟩ v) (some g) :=
  ⟨h.os, h.tape, h.output, by simpa using h.size, fun k hk hne => by
    have hk' : k ≠ g := fun e => hne (by rw [e])
    have e : (w1.setCell ⟨g, i, none⟩ v).heap[k]? = w1.heap[k]? := by simp [World.setCell, Array.getElem?_modify, Ne.symm hk']
    rw [e]
    exact h.block k hk hne⟩
theorem gb_low {w w' : World} {g : Nat} (h : w.grownBy w' (some g)) (hg : g ≤ w.heap.size) : Below g w w' := ⟨h.os, h.tape, h.output, h.size, fun k hk => h.block k (by omega) (fun e => by have := Option.some.inj e; omega)⟩
theorem Bs.low {w w' : World} {g : Nat} {p : Option Addr} {l : List UInt8} (h : Bs w p l) (hp : ∀ a, p = some a → a.block < g) (hb : Below g w w') : Bs w' p l := by
  intro hne
  obtain ⟨b, o, hpe, hc⟩ := h hne
  exact ⟨b, o, hpe, fun i u hi => by rw [hb.cell (p := ⟨b, o + i, none⟩) (hp ⟨b, o, none⟩ hpe)]; exact hc i u hi⟩

/-- The box of a node. -/
structure NBox (w : World) (b : Nat) (n : Nd) : Prop where
  c0 : w.cell? ⟨b, 0, none⟩ = some (.bool n.leaf)
  c1 : w.cell? ⟨b, 1, none⟩ = some (.slice n.kq n.ks.length n.kc)
  c2 : w.cell? ⟨b, 2, none⟩ = some (.slice n.vq n.vs.length n.vc)
  c3 : w.cell? ⟨b, 3, none⟩ = some (.slice n.iq n.is.length n.ic)
theorem NBox.lt {w : World} {b : Nat} {n : Nd} (h : NBox w b n) : b < w.heap.size := World.block_lt_of_cell? _ _ h.c0
theorem NBox.low {w w' : World} {b B : Nat} {n : Nd} (h : NBox w b n) (hb : Below B w w') (hB : b < B) : NBox w' b n := by
  obtain ⟨c0, c1, c2, c3⟩ := h
  exact ⟨by rw [hb.cell hB]; exact c0, by rw [hb.cell hB]; exact c1, by rw [hb.cell hB]; exact c2, by rw [hb.cell hB]; exact c3⟩
theorem NBox.new (w : World) (n : Nd) (t : TypeId) : NBox (w.alloc (.cells #[.bool n.leaf, .slice n.kq n.ks.length n.kc, .slice n.vq n.vs.length n.vc, .slice n.iq n.is.length n.ic] t)) w.heap.size n := by
  have h := heap_alloc_new w (.cells #[.bool n.leaf, .slice n.kq n.ks.length n.kc, .slice n.vq n.vs.length n.vc, .slice n.iq n.is.length n.ic] t)
  exact ⟨Joins.cell_of_block h 0, Joins.cell_of_block h 1, Joins.cell_of_block h 2, Joins.cell_of_block h 3⟩

end Go.Proofs.Ytigmibmebockhaa
