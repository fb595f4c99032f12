/-
  A tree's node, plain: its sizes, whether it is right, its bytes.
  A tree's node in memory; what stays where one block alone changes.
  bytes.Compare tells the order of two byte slices: a contract for the walks (split off by what a seat holds).
  tree: spans of keys: plain, and the calls.
  tree: a page that is read, whatever lies there; made, lookAt, look.page.
-/
import Derived.Test.YtngnmakeaniapaaGreatDoorH00
import Derived.Test.YtngnmakeaniapaaGreatDoorH05
import Derived.Test.YtngnmakeaniapaaGreatDoorH02
import Derived.Test.YtngnmakeaniapaaGreatDoorH15
import Derived.Deep.QuietTactic
import Derived.BigQuiet
set_option linter.unusedVariables false
set_option maxRecDepth 100000
namespace Go.Proofs.YtngnmakeaniapaaGreatDoor
open Go.RowKit

/-- A value; a node. -/
structure VlS where
  l : List UInt8
  g : Int
  p : Int
structure NdS where
  leaf : Bool
  ks : List (List UInt8)
  vs : List VlS
  is : List Int
def VlS.zero : VlS := ⟨[], 0, 0⟩
def NdS.zero : NdS := ⟨false, [], [], []⟩

def entS (k : List UInt8) (v : VlS) : Nat := if v.p = 0 then k.length + v.l.length + 2 else k.length + 6
def sizeL : List (List UInt8) → List VlS → Nat
  | [], _ => 0
  | k :: ks, [] => entS k .zero + sizeL ks []
  | k :: ks, v :: vs => entS k v + sizeL ks vs
def sizeB : List (List UInt8) → Nat
  | [] => 0
  | k :: ks => k.length + 3 + sizeB ks
def NdS.size (n : NdS) : Nat := if n.leaf then 1 + sizeL n.ks n.vs else 3 + sizeB n.ks

theorem sizeL_drop {ks : List (List UInt8)} {vs : List VlS} {j : Nat} {k : List UInt8} (h : ks[j]? = some k) :
    sizeL (ks.drop j) (vs.drop j) = entS k (vs[j]?.getD .zero) + sizeL (ks.drop (j + 1)) (vs.drop (j + 1)) := by
  rw [drop_get h]
  cases hv : vs[j]? with
  | none =>
    have hl : vs.length ≤ j := List.getElem?_eq_none_iff.1 hv
    rw [List.drop_eq_nil_of_le hl, (List.drop_eq_nil_of_le (Nat.le_succ_of_le hl) : vs.drop (j + 1) = [])]
    rfl
  | some v =>
    rw [drop_get hv]
    rfl
theorem sizeB_drop {ks : List (List UInt8)} {j : Nat} {k : List UInt8} (h : ks[j]? = some k) : sizeB (ks.drop j) = k.length + 3 + sizeB (ks.drop (j + 1)) := by
  rw [drop_get h]
  rfl

/-- How much there is of it. -/
def lens {α : Type} (f : α → List UInt8) : List α → Nat
  | [] => 0
  | a :: l => (f a).length + lens f l
theorem lens_mem {α : Type} {f : α → List UInt8} : ∀ {l : List α} {a : α}, a ∈ l → (f a).length ≤ lens f l
  | b :: l, a, h => by
    rcases List.mem_cons.1 h with rfl | h
    · exact Nat.le_add_right _ _
    · exact Nat.le_trans (lens_mem h) (Nat.le_add_left _ _)
theorem lens_take {α : Type} {f : α → List UInt8} : ∀ {l : List α} {j : Nat} {a : α}, l[j]? = some a → lens f (l.take (j + 1)) = lens f (l.take j) + (f a).length
  | b :: l, 0, a, h => by
    simp only [List.getElem?_cons_zero, Option.some.injEq] at h
    subst h
    simp [lens]
  | b :: l, j + 1, a, h => by
    have := lens_take (f := f) (l := l) (j := j) (a := a) (by simpa using h)
    simp only [List.take_succ_cons, lens] at this ⊢
    omega
theorem lens_append {α : Type} {f : α → List UInt8} : ∀ (l m : List α), lens f (l ++ m) = lens f l + lens f m
  | [], m => by simp [lens]
  | a :: l, m => by simp only [List.cons_append, lens, lens_append l m]; omega
def NdS.count (n : NdS) : Nat := n.ks.length + n.vs.length + n.is.length + lens id n.ks + lens VlS.l n.vs

theorem sizeL_le : ∀ (ks : List (List UInt8)) (vs : List VlS), sizeL ks vs ≤ 6 * ks.length + lens id ks + lens VlS.l vs
  | [], vs => by simp [sizeL]
  | k :: ks, [] => by
    have := sizeL_le ks []
    simp only [sizeL, entS, VlS.zero, if_true, List.length_nil, List.length_cons, lens, id] at this ⊢
    omega
  | k :: ks, v :: vs => by
    have := sizeL_le ks vs
    simp only [sizeL, entS, List.length_cons, lens, id]
    split <;> omega
theorem sizeB_le : ∀ (ks : List (List UInt8)), sizeB ks ≤ 3 * ks.length + lens id ks
  | [] => by simp [sizeB]
  | k :: ks => by
    have := sizeB_le ks
    simp only [sizeB, List.length_cons, lens, id]
    omega
theorem NdS.size_le (n : NdS) : n.size ≤ 3 + 6 * n.count := by
  unfold NdS.size NdS.count
  have h1 := sizeL_le n.ks n.vs
  have h2 := sizeB_le n.ks
  split <;> omega

/-- The keys rise. -/
def Rise (ks : List (List UInt8)) : Prop := ∀ i k, ks[i]? = some k → k.length ≤ 72 ∧ ∀ k', 0 < i → ks[i - 1]? = some k' → Lib.compareBytes k' k < 0
def PageOk (i : Int) : Prop := 2 ≤ i ∧ i < 4096
def VlS.Right (v : VlS) : Prop := (v.p = 0 ∧ v.g = 0 ∧ v.l.length ≤ 64) ∨ (PageOk v.p ∧ 65 ≤ v.g ∧ v.g ≤ 4096 ∧ v.l = [])
def NdS.LeafRight (n : NdS) : Prop := n.vs.length = n.ks.length ∧ n.is = [] ∧ ∀ v ∈ n.vs, v.Right
def NdS.BranchRight (n : NdS) : Prop := n.is.length = n.ks.length + 1 ∧ n.vs = [] ∧ ∀ i ∈ n.is, PageOk i
structure NdS.Right (n : NdS) : Prop where
  many : n.ks.length ≤ 250
  rise : Rise n.ks
  leaf : n.leaf = true → n.LeafRight
  branch : n.leaf = false → n.BranchRight
  size : n.size ≤ 493

/-- Its bytes. -/
def two (n : Nat) : List UInt8 := [UInt8.ofNat n, UInt8.ofNat (n / 256)]
def txtB (l : List UInt8) : List UInt8 := UInt8.ofNat l.length :: l
def valB (v : VlS) : List UInt8 := if v.p = 0 then txtB v.l else 255 :: (two v.g.toNat ++ two v.p.toNat)
def entsL : List (List UInt8) → List VlS → List UInt8
  | k :: ks, v :: vs => txtB k ++ valB v ++ entsL ks vs
  | _, _ => []
def entsB : List (List UInt8) → List Int → List UInt8
  | k :: ks, i :: is => txtB k ++ two i.toNat ++ entsB ks is
  | _, _ => []
def NdS.put (n : NdS) : List UInt8 := UInt8.ofNat n.ks.length :: (if n.leaf then entsL n.ks n.vs else two (n.is.headD 0).toNat ++ entsB n.ks n.is.tail)

theorem entsL_drop {ks : List (List UInt8)} {vs : List VlS} {j : Nat} {k : List UInt8} {v : VlS} (h : ks[j]? = some k) (h' : vs[j]? = some v) :
    entsL (ks.drop j) (vs.drop j) = txtB k ++ valB v ++ entsL (ks.drop (j + 1)) (vs.drop (j + 1)) := by
  rw [drop_get h, drop_get h']
  rfl
theorem entsB_drop {ks : List (List UInt8)} {is : List Int} {j : Nat} {k : List UInt8} {i : Int} (h : ks[j]? = some k) (h' : is[j]? = some i) :
    entsB (ks.drop j) (is.drop j) = txtB k ++ two i.toNat ++ entsB (ks.drop (j + 1)) (is.drop (j + 1)) := by
  rw [drop_get h, drop_get h']
  rfl
theorem entsL_length : ∀ {ks : List (List UInt8)} {vs : List VlS}, vs.length = ks.length → (entsL ks vs).length = sizeL ks vs
  | [], [], _ => rfl
  | k :: ks, v :: vs, h => by
    have := entsL_length (ks := ks) (vs := vs) (by simpa using h)
    simp only [entsL, sizeL, List.length_append, this, txtB, valB, entS, List.length_cons]
    split
    all_goals
      simp [two]
      try omega
  | [], _ :: _, h => by simp at h
  | _ :: _, [], h => by simp at h
theorem entsB_length : ∀ {ks : List (List UInt8)} {is : List Int}, is.length = ks.length → (entsB ks is).length = sizeB ks
  | [], [], _ => rfl
  | k :: ks, v :: vs, h => by
    have := entsB_length (ks := ks) (is := vs) (by simpa using h)
    simp [entsB, sizeB, this, txtB, two]
    try omega
  | [], _ :: _, h => by simp at h
  | _ :: _, [], h => by simp at h
theorem NdS.Right.length {n : NdS} (h : n.Right) : n.put.length = n.size := by
  unfold NdS.put NdS.size
  cases hl : n.leaf
  · obtain ⟨h1, _, _⟩ := h.branch hl
    rw [if_neg (by simp), if_neg (by simp), List.length_cons, List.length_append, entsB_length (by rw [List.length_tail]; omega)]
    simp only [two, List.length_cons, List.length_nil]
    omega
  · obtain ⟨h1, _, _⟩ := h.leaf hl
    rw [if_pos rfl, if_pos rfl, List.length_cons, entsL_length h1]
    omega

end Go.Proofs.YtngnmakeaniapaaGreatDoor

set_option linter.unusedVariables false
set_option maxRecDepth 100000
namespace Go.Proofs.YtngnmakeaniapaaGreatDoor
open Go.RowKit

/-- A key, a value that lies somewhere. -/
structure Kb where
  q : Option Addr
  c : Nat
  l : List UInt8
structure Kb.Ok (w : World) (x : Kb) : Prop where
  bs : Bs w x.q x.l
  h1 : x.l.length ≤ x.c
  h2 : x.c ≤ 9223372036854775807
  z : x.q = none → x.c = 0
structure Vl where
  q : Option Addr
  c : Nat
  l : List UInt8
  g : Int
  p : Int
structure Vl.Ok (w : World) (x : Vl) : Prop where
  bs : Bs w x.q x.l
  h1 : x.l.length ≤ x.c
  h2 : x.c ≤ 9223372036854775807
  z : x.q = none → x.c = 0
  g1 : -9223372036854775808 ≤ x.g
  g2 : x.g ≤ 9223372036854775807
  p1 : -9223372036854775808 ≤ x.p
  p2 : x.p ≤ 9223372036854775807
def Vl.s (x : Vl) : VlS := ⟨x.l, x.g, x.p⟩
def Kb.v (x : Kb) : Value := .slice x.q x.l.length x.c
def Vl.cell (x : Vl) : Value := .agg #[.slice x.q x.l.length x.c, .int .i64 x.g, .int .i64 x.p]

theorem Kb.Ok.below {w w' : World} {x : Kb} (h : x.Ok w) (hb : Below w.heap.size w w') : x.Ok w' := ⟨h.bs.below hb, h.h1, h.h2, h.z⟩
theorem Vl.Ok.below {w w' : World} {x : Vl} (h : x.Ok w) (hb : Below w.heap.size w w') : x.Ok w' := ⟨h.bs.below hb, h.h1, h.h2, h.z, h.g1, h.g2, h.p1, h.p2⟩

/-- They lie at q. -/
def Kbs (w : World) (q : Option Addr) (ls : List Kb) : Prop := ls ≠ [] → ∃ b o, q = some ⟨b, o, none⟩ ∧ ∀ i x, ls[i]? = some x → w.cell? ⟨b, o + i, none⟩ = some (.slice x.q x.l.length x.c)
def Vls (w : World) (q : Option Addr) (ls : List Vl) : Prop := ls ≠ [] → ∃ b o, q = some ⟨b, o, none⟩ ∧ ∀ i x, ls[i]? = some x → w.cell? ⟨b, o + i * 3, none⟩ = some (.slice x.q x.l.length x.c) ∧ w.cell? ⟨b, o + i * 3 + 1, none⟩ = some (.int .i64 x.g) ∧ w.cell? ⟨b, o + i * 3 + 2, none⟩ = some (.int .i64 x.p)
theorem Kbs.at {w : World} {q : Option Addr} {l : List Kb} (h : Kbs w q l) {i : Nat} {x : Kb} (hx : l[i]? = some x) : ∃ b o, q = some ⟨b, o, none⟩ ∧ b < w.heap.size ∧ w.cell? ⟨b, o + i, none⟩ = some (.slice x.q x.l.length x.c) := by
  obtain ⟨b, o, hp, hc⟩ := h (by intro e; subst e; simp at hx)
  exact ⟨b, o, hp, World.block_lt_of_cell? _ _ (hc i x hx), hc i x hx⟩
theorem Kbs.below {w w' : World} {q : Option Addr} {l : List Kb} (h : Kbs w q l) (hb : Below w.heap.size w w') : Kbs w' q l := by
  intro hne
  obtain ⟨b, o, hp, hc⟩ := h hne
  refine ⟨b, o, hp, fun i u hi => ?_⟩
  have h1 := hc i u hi
  rw [hb.cell (World.block_lt_of_cell? _ _ h1)]
  exact h1
theorem Vls.at {w : World} {q : Option Addr} {l : List Vl} (h : Vls w q l) {i : Nat} {x : Vl} (hx : l[i]? = some x) : ∃ b o, q = some ⟨b, o, none⟩ ∧ b < w.heap.size ∧ w.cell? ⟨b, o + i * 3, none⟩ = some (.slice x.q x.l.length x.c) ∧ w.cell? ⟨b, o + i * 3 + 1, none⟩ = some (.int .i64 x.g) ∧ w.cell? ⟨b, o + i * 3 + 2, none⟩ = some (.int .i64 x.p) := by
  obtain ⟨b, o, hp, hc⟩ := h (by intro e; subst e; simp at hx)
  exact ⟨b, o, hp, World.block_lt_of_cell? _ _ (hc i x hx).1, hc i x hx⟩
theorem Vls.below {w w' : World} {q : Option Addr} {l : List Vl} (h : Vls w q l) (hb : Below w.heap.size w w') : Vls w' q l := by
  intro hne
  obtain ⟨b, o, hp, hc⟩ := h hne
  refine ⟨b, o, hp, fun i u hi => ?_⟩
  obtain ⟨h1, h2, h3⟩ := hc i u hi
  rw [hb.cell (World.block_lt_of_cell? _ _ h1), hb.cell (World.block_lt_of_cell? _ _ h2), hb.cell (World.block_lt_of_cell? _ _ h3)]
  exact ⟨h1, h2, h3⟩

/-- A node. -/
structure Nd where
  leaf : Bool
  kq : Option Addr
  kc : Nat
  ks : List Kb
  vq : Option Addr
  vc : Nat
  vs : List Vl
  iq : Option Addr
  ic : Nat
  is : List Int
def Nd.cell (n : Nd) : Value := .agg #[.bool n.leaf, .slice n.kq n.ks.length n.kc, .slice n.vq n.vs.length n.vc, .slice n.iq n.is.length n.ic]
def Nd.cells (n : Nd) : Array Value := #[.bool n.leaf, .slice n.kq n.ks.length n.kc, .slice n.vq n.vs.length n.vc, .slice n.iq n.is.length n.ic]
def Nd.s (n : Nd) : NdS := ⟨n.leaf, n.ks.map Kb.l, n.vs.map Vl.s, n.is⟩
def Nd.zero : Nd := ⟨false, none, 0, [], none, 0, [], none, 0, []⟩
structure Nd.Ok (w : World) (n : Nd) : Prop where
  k1 : n.ks.length ≤ n.kc
  k2 : n.kc ≤ 9223372036854775807
  kz : n.kq = none → n.kc = 0
  kl : Kbs w n.kq n.ks
  ko : ∀ x ∈ n.ks, x.Ok w
  v1 : n.vs.length ≤ n.vc
  v2 : n.vc ≤ 9223372036854775807
  vz : n.vq = none → n.vc = 0
  vl : Vls w n.vq n.vs
  vo : ∀ x ∈ n.vs, x.Ok w
  i1 : n.is.length ≤ n.ic
  i2 : n.ic ≤ 9223372036854775807
  iz : n.iq = none → n.ic = 0
  il : Ks w n.iq n.is
  io : ∀ x ∈ n.is, -9223372036854775808 ≤ x ∧ x ≤ 9223372036854775807
theorem Nd.Ok.below {w w' : World} {n : Nd} (h : n.Ok w) (hb : Below w.heap.size w w') : n.Ok w' :=
  ⟨h.k1, h.k2, h.kz, h.kl.below hb, fun x hx => (h.ko x hx).below hb, h.v1, h.v2, h.vz, h.vl.below hb, fun x hx => (h.vo x hx).below hb, h.i1, h.i2, h.iz, h.il.below hb, h.io⟩
theorem Nd.zero_ok (w : World) : Nd.zero.Ok w := ⟨Nat.le_refl _, (by show 0 ≤ _; omega), fun _ => rfl, (fun h => absurd rfl h), (fun x hx => by cases hx), Nat.le_refl _, (by show 0 ≤ _; omega), fun _ => rfl, (fun h => absurd rfl h), (fun x hx => by cases hx), Nat.le_refl _, (by show 0 ≤ _; omega), fun _ => rfl, (fun h => absurd rfl h), (fun x hx => by cases hx)⟩

/-- All blocks stay but g. -/
theorem gb_refl (w : World) (g : Nat) : w.grownBy w (some g) := ⟨rfl, rfl, rfl, Nat.le_refl _, fun _ _ _ => rfl⟩
theorem gb_below {w w' : World} {g : Nat} (h : Below w.heap.size w w') : w.grownBy w' (some g) := ⟨h.os, h.tape, h.output, h.size, fun k hk _ => h.block k hk⟩
theorem gb_trans {w w1 w2 : World} {g : Nat} (h : w.grownBy w1 (some g)) (h' : w1.grownBy w2 (some g)) : w.grownBy w2 (some g) :=
  ⟨h'.os.trans h.os, h'.tape.trans h.tape, h'.output.trans h.output, Nat.le_trans h.size h'.size, fun k hk hne => (h'.block k (Nat.lt_of_lt_of_le hk h.size) hne).trans (h.block k hk hne)⟩
theorem gb_set {w w1 : World} {g : Nat} (h : w.grownBy w1 (some g)) (i : Nat) (v : Value) : w.grownBy (w1.setCell ⟨g, i, none⟩ v) (some g) :=
  ⟨h.os, h.tape, h.output, by simpa using h.size, fun k hk hne => by
    have hk' : k ≠ g := fun e => hne (by rw [e])
    have e : (w1.setCell ⟨g, i, none⟩ v).heap[k]? = w1.heap[k]? := by simp [World.setCell, Array.getElem?_modify, Ne.symm hk']
    rw [e]
    exact h.block k hk hne⟩
theorem gb_low {w w' : World} {g : Nat} (h : w.grownBy w' (some g)) (hg : g ≤ w.heap.size) : Below g w w' := ⟨h.os, h.tape, h.output, h.size, fun k hk => h.block k (by omega) (fun e => by have := Option.some.inj e; omega)⟩
theorem Bs.low {w w' : World} {g : Nat} {p : Option Addr} {l : List UInt8} (h : Bs w p l) (hp : ∀ a, p = some a → a.block < g) (hb : Below g w w') : Bs w' p l := by
  intro hne
  obtain ⟨b, o, hpe, hc⟩ := h hne
  exact ⟨b, o, hpe, fun i u hi => by rw [hb.cell (p := ⟨b, o + i, none⟩) (hp ⟨b, o, none⟩ hpe)]; exact hc i u hi⟩

/-- A block of bytes; an address below g that lies in one. -/
def U8 (w : World) (b : Nat) : Prop := ∃ c f, w.heap[b]? = some (.cells c 5 f)
def Lo (w : World) (g : Nat) (a : Addr) : Prop := a.block < g ∧ U8 w a.block
theorem U8.below {w w' : World} {b : Nat} (h : U8 w b) (hb : Below w.heap.size w w') : U8 w' b := by
  obtain ⟨c, f, h⟩ := h
  exact ⟨c, f, by rw [hb.block _ (Array.getElem?_eq_some_iff.1 h).1]; exact h⟩
theorem U8.low {w w' : World} {b B : Nat} (h : U8 w b) (hb : Below B w w') (hB : b < B) : U8 w' b := by
  obtain ⟨c, f, h⟩ := h
  exact ⟨c, f, by rw [hb.block _ hB]; exact h⟩
theorem Lo.low {w w' : World} {g : Nat} {a : Addr} (h : Lo w g a) (hb : Below g w w') : Lo w' g a := ⟨h.1, h.2.low hb h.1⟩
theorem Bs.low' {w w' : World} {g : Nat} {p : Option Addr} {l : List UInt8} (h : Bs w p l) (hp : ∀ a, p = some a → Lo w g a) (hb : Below g w w') : Bs w' p l := h.low (fun a ha => (hp a ha).1) hb
/-- A key, a value whose bytes lie in a block of bytes. -/
def Kb.Ty (w : World) (x : Kb) : Prop := ∀ a, x.q = some a → U8 w a.block
def Vl.Ty (w : World) (x : Vl) : Prop := ∀ a, x.q = some a → U8 w a.block

/-- The box of a node. -/
structure NBox (w : World) (b : Nat) (n : Nd) : Prop where
  c0 : w.cell? ⟨b, 0, none⟩ = some (.bool n.leaf)
  c1 : w.cell? ⟨b, 1, none⟩ = some (.slice n.kq n.ks.length n.kc)
  c2 : w.cell? ⟨b, 2, none⟩ = some (.slice n.vq n.vs.length n.vc)
  c3 : w.cell? ⟨b, 3, none⟩ = some (.slice n.iq n.is.length n.ic)
theorem NBox.lt {w : World} {b : Nat} {n : Nd} (h : NBox w b n) : b < w.heap.size := World.block_lt_of_cell? _ _ h.c0
theorem NBox.low {w w' : World} {b B : Nat} {n : Nd} (h : NBox w b n) (hb : Below B w w') (hB : b < B) : NBox w' b n := by
  obtain ⟨c0, c1, c2, c3⟩ := h
  exact ⟨by rw [hb.cell hB]; exact c0, by rw [hb.cell hB]; exact c1, by rw [hb.cell hB]; exact c2, by rw [hb.cell hB]; exact c3⟩
theorem NBox.new (w : World) (n : Nd) (t : TypeId) : NBox (w.alloc (.cells #[.bool n.leaf, .slice n.kq n.ks.length n.kc, .slice n.vq n.vs.length n.vc, .slice n.iq n.is.length n.ic] t)) w.heap.size n := by
  have h := heap_alloc_new w (.cells #[.bool n.leaf, .slice n.kq n.ks.length n.kc, .slice n.vq n.vs.length n.vc, .slice n.iq n.is.length n.ic] t)
  exact ⟨Joins.cell_of_block h 0, Joins.cell_of_block h 1, Joins.cell_of_block h 2, Joins.cell_of_block h 3⟩

end Go.Proofs.YtngnmakeaniapaaGreatDoor

set_option linter.unusedVariables false
set_option maxRecDepth 100000
namespace Go.Proofs.YtngnmakeaniapaaGreatDoor
open Go.RowKit

set_option maxHeartbeats 400000 in
theorem bytesCompare_any {w : World} {p q : Option Addr} {l m : List UInt8} (hl : Bs w p l) (hm : Bs w q m) (n c k d : Nat) (hn : n = l.length) (hk : k = m.length) (hp : p = none → c = 0) (hq : q = none → d = 0) :
    Calls Tryz.prog 137 #[.slice p n c, .slice q k d] w fun e w' => e = .returned (.int .i64 (Lib.compareBytes l m)) ∧ w = w' := by
  have hr := run_cmp hl hm hn hk hp hq
  have hx : (callFunc 162 #[.slice p n c, .slice q k d]).run Tryz.prog w = .ok (.value (.int .i64 (Lib.compareBytes l m))) w := by
    rw [run_callFunc_extern Tryz.func162 (by kernel_rfl) (by kernel_rfl) (by kernel_rfl) (e := Extern.BytealgCompare.compare) (by kernel_rfl), hr]
    rfl
  clear hr hl hm hn hk hp hq
  generalize Lib.compareBytes l m = r at hx ⊢
  go_enter Tryz.func137, Tryz.ntmps137
  go_wp2
  go_ret
  exact ⟨rfl, rfl⟩

end Go.Proofs.YtngnmakeaniapaaGreatDoor

set_option linter.unusedVariables false
set_option linter.unusedSimpArgs false
set_option maxRecDepth 100000
namespace Go.Proofs.YtngnmakeaniapaaGreatDoor
open Go.RowKit

/-- A span, plain; in memory. -/
structure SpS where
  f : List UInt8
  t : List UInt8
  e : Bool
def SpS.ahead (s : SpS) (k : List UInt8) : Bool := !s.e || decide (Lib.compareBytes k s.t < 0)
def SpS.has (s : SpS) (k : List UInt8) : Bool := decide (Lib.compareBytes s.f k ≤ 0) && s.ahead k
def SpS.none (s : SpS) : Bool := !s.ahead s.f
def SpS.all (s : SpS) : Bool := decide (s.f.length = 0) && !s.e
def SpS.meets (s r : SpS) : Bool := s.ahead r.f && r.ahead s.f
def SpS.zero : SpS := ⟨[], [], false⟩
structure Sp where
  f : Kb
  t : Kb
  e : Bool
def Kb.zero : Kb := ⟨none, 0, []⟩
theorem Kb.zero_ok (w : World) : Kb.zero.Ok w := ⟨Bs.nil _ _, Nat.le_refl _, (by show (0 : Nat) ≤ _; omega), fun _ => rfl⟩
def Sp.zero : Sp := ⟨Kb.zero, Kb.zero, false⟩
def Sp.v (s : Sp) : Value := .agg #[.slice s.f.q s.f.l.length s.f.c, .slice s.t.q s.t.l.length s.t.c, .bool s.e]
def Sp.s (s : Sp) : SpS := ⟨s.f.l, s.t.l, s.e⟩
structure Sp.Ok (w : World) (s : Sp) : Prop where
  f : s.f.Ok w
  t : s.t.Ok w
theorem Sp.Ok.below {w w' : World} {s : Sp} (h : s.Ok w) (hb : Below w.heap.size w w') : s.Ok w' := ⟨h.f.below hb, h.t.below hb⟩
theorem Sp.zero_ok (w : World) : Sp.zero.Ok w := ⟨Kb.zero_ok w, Kb.zero_ok w⟩

/-- The box of a span. -/
theorem sp_box (w : World) (s : Sp) : ∃ W, W = w.alloc (.cells #[.slice s.f.q s.f.l.length s.f.c, .slice s.t.q s.t.l.length s.t.c, .bool s.e] 149) ∧ Below w.heap.size w W ∧ W.heap.size = w.heap.size + 1 ∧
    (∀ w', Below W.heap.size W w' → Below w.heap.size w w' ∧ w'.cell? ⟨w.heap.size, 0, none⟩ = some (.slice s.f.q s.f.l.length s.f.c) ∧ w'.cell? ⟨w.heap.size, 1, none⟩ = some (.slice s.t.q s.t.l.length s.t.c) ∧ w'.cell? ⟨w.heap.size, 2, none⟩ = some (.bool s.e)) := by
  refine ⟨_, rfl, (Below.refl _ _).alloc (Nat.le_refl _) _, by simp, fun w' hb => ?_⟩
  have h1 := (hb.block w.heap.size (by simp)).trans (heap_alloc_new w _)
  exact ⟨((Below.refl _ _).alloc (Nat.le_refl _) _).trans (hb.mono (by simp)), Joins.cell_of_block h1 0, Joins.cell_of_block h1 1, Joins.cell_of_block h1 2⟩

set_option maxHeartbeats 800000 in
theorem spAhead {w : World} {s : Sp} (h : s.Ok w) {k : Kb} (hk : k.Ok w) :
    Calls Tryz.prog 139 #[s.v, .slice k.q k.l.length k.c] w fun e w' => e = .returned (.bool (s.s.ahead k.l)) ∧ Below w.heap.size w w' := by
  obtain ⟨W, hW, hbw, hws, hc⟩ := sp_box w s
  have HC := Lib.hid hc
  have HBW := Lib.hid hbw
  obtain ⟨z0, z1, z2⟩ := (hc W (Below.refl _ _)).2
  have HCMP := Lib.hid (bytesCompare_any (hk.bs.below hbw) (h.t.bs.below hbw) k.l.length k.c s.t.l.length s.t.c rfl rfl hk.z h.t.z)
  have HR : Hid (s.s.ahead k.l = (!s.e || decide (Lib.compareBytes k.l s.t.l < 0))) := Lib.hid rfl
  unfold Sp.v
  generalize s.s.ahead k.l = R at *
  generalize Lib.compareBytes k.l s.t.l = c at *
  generalize k.l.length = kn at *
  generalize s.t.l.length = tn at *
  generalize s.f.l.length = fn at *
  cases hE : s.e
  · rw [hE] at HR z2 hW
    rw [hE] at HC
    clear h hk hc hE
    go_enter Tryz.func139, Tryz.ntmps139
    go_wp2
    go_ret
    exact ⟨by rw [HR.out]; rfl, sbox1 _ _⟩
  · rw [hE] at HR z2 hW
    rw [hE] at HC
    clear h hk hc hE
    go_enter Tryz.func139, Tryz.ntmps139
    go_wp2_with fail
    rw [← hW]
    clear hW
    refine HCMP.out.mono ?_; rintro e w1 ⟨rfl, rfl⟩
    go_wp2
    go_ret
    exact ⟨by rw [HR.out]; rfl, HBW.out⟩

set_option maxHeartbeats 800000 in
theorem spHas {w : World} {s : Sp} (h : s.Ok w) {k : Kb} (hk : k.Ok w) :
    Calls Tryz.prog 101 #[s.v, .slice k.q k.l.length k.c] w fun e w' => e = .returned (.bool (s.s.has k.l)) ∧ Below w.heap.size w w' := by
  obtain ⟨W, hW, hbw, hws, hc⟩ := sp_box w s
  have HC := Lib.hid hc
  have HBW := Lib.hid hbw
  obtain ⟨z0, z1, z2⟩ := (hc W (Below.refl _ _)).2
  have HCMP := Lib.hid (bytesCompare_any (h.f.bs.below hbw) (hk.bs.below hbw) s.f.l.length s.f.c k.l.length k.c rfl rfl h.f.z hk.z)
  have HA := Lib.hid (spAhead (h.below hbw) (hk.below hbw))
  have HR : Hid (s.s.has k.l = (decide (Lib.compareBytes s.f.l k.l ≤ 0) && s.s.ahead k.l)) := Lib.hid rfl
  unfold Sp.v at *
  generalize s.s.has k.l = R at *
  generalize s.s.ahead k.l = A at *
  generalize Lib.compareBytes s.f.l k.l = c at *
  generalize k.l.length = kn at *
  generalize s.t.l.length = tn at *
  generalize s.f.l.length = fn at *
  by_cases h0 : c ≤ 0
  · have d0 : decide (c ≤ 0) = true := decide_eq_true h0
    rw [d0] at HR
    clear h hk hc
    go_enter Tryz.func101, Tryz.ntmps101
    go_wp2_with fail
    rw [← hW]
    clear hW
    refine HCMP.out.mono ?_; rintro e w1 ⟨rfl, rfl⟩
    go_wp2_with fail
    refine HA.out.mono ?_; rintro e w1 ⟨rfl, hb1⟩
    have HB1 := Lib.hid (HC.out _ hb1).1
    clear hb1
    go_wp2
    go_ret
    exact ⟨by rw [HR.out]; simp, HB1.out⟩
  · have d0 : decide (c ≤ 0) = false := decide_eq_false h0
    rw [d0] at HR
    clear h hk hc
    go_enter Tryz.func101, Tryz.ntmps101
    go_wp2_with fail
    rw [← hW]
    clear hW
    refine HCMP.out.mono ?_; rintro e w1 ⟨rfl, rfl⟩
    go_wp2
    go_ret
    exact ⟨by rw [HR.out]; simp, HBW.out⟩

set_option maxHeartbeats 800000 in
theorem spNone {w : World} {s : Sp} (h : s.Ok w) :
    Calls Tryz.prog 99 #[s.v] w fun e w' => e = .returned (.bool s.s.none) ∧ Below w.heap.size w w' := by
  obtain ⟨W, hW, hbw, hws, hc⟩ := sp_box w s
  have HC := Lib.hid hc
  obtain ⟨z0, z1, z2⟩ := (hc W (Below.refl _ _)).2
  have HA := Lib.hid (spAhead (h.below hbw) (h.f.below hbw))
  have HR : Hid (s.s.none = !s.s.ahead s.f.l) := Lib.hid rfl
  unfold Sp.v at *
  generalize s.s.none = R at *
  generalize s.s.ahead s.f.l = A at *
  generalize s.t.l.length = tn at *
  generalize s.f.l.length = fn at *
  clear h hc
  go_enter Tryz.func99, Tryz.ntmps99
  go_wp2_with fail
  rw [← hW]
  clear hW
  refine HA.out.mono ?_; rintro e w1 ⟨rfl, hb1⟩
  have HB1 := Lib.hid (HC.out _ hb1).1
  clear hb1
  go_wp2
  go_ret
  exact ⟨by rw [HR.out]; rfl, HB1.out⟩

set_option maxHeartbeats 800000 in
theorem spAll {w : World} {s : Sp} :
    Calls Tryz.prog 102 #[s.v] w fun e w' => e = .returned (.bool s.s.all) ∧ Below w.heap.size w w' := by
  obtain ⟨W, hW, hbw, hws, hc⟩ := sp_box w s
  have HBW := Lib.hid hbw
  obtain ⟨z0, z1, z2⟩ := (hc W (Below.refl _ _)).2
  have HR : Hid (s.s.all = (decide (s.f.l.length = 0) && !s.e)) := Lib.hid rfl
  unfold Sp.v at *
  generalize s.s.all = R at *
  generalize s.t.l.length = tn at *
  generalize s.f.l.length = fn at *
  generalize s.e = E at *
  clear hc
  by_cases h0 : fn = 0
  · subst h0
    go_enter Tryz.func102, Tryz.ntmps102
    go_wp2
    go_ret
    exact ⟨by rw [HR.out]; simp, sbox1 _ _⟩
  · have d0 : decide (fn = 0) = false := decide_eq_false h0
    have d1 : ((fn : Int) == 0) = false := by rw [beq_eq_false_iff_ne]; omega
    have d2 : (fn == 0) = false := by rw [beq_eq_false_iff_ne]; omega
    rw [d0] at HR
    go_enter Tryz.func102, Tryz.ntmps102
    go_wp2
    go_ret
    exact ⟨by rw [HR.out]; simp, sbox1 _ _⟩

set_option maxHeartbeats 1600000 in
theorem spMeets {w : World} {s r : Sp} (h : s.Ok w) (hr : r.Ok w) :
    Calls Tryz.prog 100 #[s.v, r.v] w fun e w' => e = .returned (.bool (s.s.meets r.s)) ∧ Below w.heap.size w w' := by
  obtain ⟨W1, hW1, hbw1, hws1, hc1⟩ := sp_box w s
  obtain ⟨W, hW, hbw, hws, hc⟩ := sp_box W1 r
  have HC1 := Lib.hid hc1
  have HC := Lib.hid hc
  have hbb : Below w.heap.size w W := (hc1 W hbw).1
  have HBW := Lib.hid hbb
  have HA := Lib.hid (spAhead (h.below hbb) (hr.f.below hbb))
  have HA2 := Lib.hid fun w' (hb : Below W.heap.size W w') => spAhead ((hr.below hbb).below hb) ((h.f.below hbb).below hb)
  have HR : Hid (s.s.meets r.s = (s.s.ahead r.f.l && r.s.ahead s.f.l)) := Lib.hid rfl
  have HZ : Hid (∀ w', Below W.heap.size W w' → (w'.cell? ⟨w.heap.size, 0, none⟩ = some (.slice s.f.q s.f.l.length s.f.c) ∧ w'.cell? ⟨w.heap.size, 1, none⟩ = some (.slice s.t.q s.t.l.length s.t.c) ∧ w'.cell? ⟨w.heap.size, 2, none⟩ = some (.bool s.e)) ∧ (w'.cell? ⟨w.heap.size + 1, 0, none⟩ = some (.slice r.f.q r.f.l.length r.f.c) ∧ w'.cell? ⟨w.heap.size + 1, 1, none⟩ = some (.slice r.t.q r.t.l.length r.t.c) ∧ w'.cell? ⟨w.heap.size + 1, 2, none⟩ = some (.bool r.e)) ∧ Below w.heap.size w w') := Lib.hid fun w' hb => ⟨(hc1 w' (hbw.trans (hb.mono hbw.size))).2, by rw [← hws1]; exact (hc w' hb).2, hbb.trans (hb.mono hbb.size)⟩
  unfold Sp.v at *
  generalize s.s.meets r.s = R at *
  generalize s.s.ahead r.f.l = A1 at *
  generalize r.s.ahead s.f.l = A2 at *
  generalize s.f.l.length = n1 at *
  generalize s.t.l.length = n2 at *
  generalize r.f.l.length = n3 at *
  generalize r.t.l.length = n4 at *
  clear h hr hc hc1 hbw hbb hbw1
  subst hW1
  cases A1
  · go_enter Tryz.func100, Tryz.ntmps100
    go_wp2_with fail
    rw [← hW]
    clear hW
    refine HA.out.mono ?_; rintro e w1 ⟨rfl, hb1⟩
    have HB1 := Lib.hid (HZ.out _ hb1)
    clear hb1
    go_wp2
    go_ret
    exact ⟨by rw [HR.out]; rfl, HB1.out.2.2⟩
  · go_enter Tryz.func100, Tryz.ntmps100
    go_wp2_with fail
    rw [← hW]
    clear hW
    refine HA.out.mono ?_; rintro e w1 ⟨rfl, hb1⟩
    obtain ⟨⟨z0, z1, z2⟩, ⟨y0, y1, y2⟩, _⟩ := HZ.out _ hb1
    have HB1 := Lib.hid hb1
    clear hb1
    go_wp2_with fail
    refine (HA2.out _ HB1.out).mono ?_; rintro e w2 ⟨rfl, hb2⟩
    have HB2 := Lib.hid (HZ.out _ (HB1.out.trans (hb2.mono HB1.out.size)))
    clear hb2
    go_wp2
    go_ret
    exact ⟨by rw [HR.out]; rfl, HB2.out.2.2⟩

end Go.Proofs.YtngnmakeaniapaaGreatDoor

set_option linter.unusedVariables false
set_option linter.unusedSimpArgs false
set_option maxRecDepth 100000
namespace Go.Proofs.YtngnmakeaniapaaGreatDoor
open Go.RowKit

/-- What Read tells of a page. -/
noncomputable def PG.page (X : PG) (k : Int) : Option (UInt8 × List UInt8) := open Classical in
  if X.F.st k = 0 then none else if openE (X.S.read k) k = 0 then some ((X.S.read k).headD 0, fIn (X.S.read k)) else none
theorem PG.page_is {X : PG} {k : Nat} (hs : X.F.st k ≠ 0) (hk : k < 4096) {kind : UInt8} {gen : Nat} {l : List UInt8} (hp : X.S.read k = pageB kind k gen l) (hl : l.length ≤ 493) (hg : gen ≤ 1152921504606846976) : X.page k = some (kind, l) := by
  unfold PG.page
  have hz := page_right (kind := kind) (no := k) (gen := gen) hl hk hg k
  rw [if_pos rfl] at hz
  obtain ⟨f1, f2, f3, f4, f5, _⟩ := page_fields (kind := kind) hl (no := k) (by omega) (gen := gen) (by omega)
  rw [if_neg hs, hp, if_pos hz, f5]
  have hh : (pageB kind k gen l).headD 0 = kind := by
    cases h : pageB kind k gen l with
    | nil => rw [h] at f1; cases f1
    | cons a m => rw [h] at f1; simpa using f1
  rw [hh]
theorem SD.read_len {S : SD} (h : S.Ok) (k : Int) : (S.read k).length = 512 := by
  unfold SD.read
  cases hf : found S.waits k with
  | none => exact h.l k
  | some l => exact found_len h.w hf
theorem PG.page_len {X : PG} {k : Int} {kind : UInt8} {l : List UInt8} (h : X.page k = some (kind, l)) : l.length ≤ 493 := by
  unfold PG.page at h
  split at h
  · cases h
  · split at h
    · rename_i h0
      simp only [Option.some.injEq, Prod.mk.injEq] at h
      rw [← h.2]
      unfold openE at h0
      split at h0
      · cases h0
      · split at h0
        · cases h0
        · split at h0
          · rename_i hr
            have := hr.2.2.2.2.1
            unfold fIn
            rw [List.length_take]
            omega
          · cases h0
    · cases h

def GrReadPost (w : World) (X : PG) (k : Int) (e : Ending) (w' : World) : Prop :=
  (∃ kind l v, X.page k = some (kind, l) ∧ e = .returned (.tuple #[.int .u8 (kind.toNat : Int), v, .int .i64 0]) ∧ Own w' w.heap.size v l ∧ Below w.heap.size w w') ∨
  (X.page k = none ∧ ∃ z : Int, z ≠ 0 ∧ z ≠ 1 ∧ e = .returned (.tuple #[.int .u8 0, .slice none 0 0, .int .i64 z]) ∧ Below w.heap.size w w')

section
variable {w w' : World} {B P pd lm fm pl um wm la : Nat} {v : Value} {X : PG}

set_option maxHeartbeats 1600000 in
theorem grRead_gen (hT : Tab w) (h : GrIs w B P pd lm fm pl um wm la v X) (hz : X.F.hi = X.S.size) (k : Int) :
    Calls Tryz.prog 121 #[.pointer (some ⟨P, 0, none⟩), .int .i64 k] w (GrReadPost w X k) := by
  have HM := Lib.hid h.made
  have c1 := h.c1
  have HST := Lib.hid (frState_any h.list k)
  by_cases hs : X.F.st k = 0
  · have hb0 : (X.F.st k == 0) = true := by rw [beq_iff_eq]; exact hs
    have HP : Hid (X.page k = none) := Lib.hid (by unfold PG.page; rw [if_pos hs])
    rw [hs] at HST
    clear h hT hs hb0
    go_enter Tryz.func121, Tryz.ntmps121
    go_wp2_with fail
    refine HM.out.mono ?_; rintro e w1 ⟨rfl, rfl⟩
    go_wp2_with fail
    refine HST.out.mono ?_; rintro e w1 ⟨rfl, hb1⟩
    have HB1 := Lib.hid hb1
    clear hb1
    go_wp2
    exact bodyPost_ret (v := .tuple #[.int .u8 0, .slice none 0 0, .int .i64 2]) (by simp [results, Tryz.results121, go_sem]) rfl (.inr ⟨HP.out, 2, by decide, by decide, rfl, HB1.out⟩)
  have hk : 0 ≤ k ∧ k < X.S.size := by
    have h1 : X.F.has k = true := by
      cases hh : X.F.has k
      · exact absurd (by unfold FL.st; rw [hh]; rfl) hs
      · rfl
    have h2 := FL.has_iff.1 h1
    have := h.list.ok.h0
    omega
  have HR := Lib.hid fun w' hb => read_any (h.disk.below (w' := w') hb) hk.1 hk.2
  have hlen := SD.read_len h.disk.ok k
  have HPL : Hid (512 = (X.S.read k).length) := Lib.hid hlen.symm
  have HO : Hid (∀ w1 g, Below w.heap.size w w1 → Sec w1 g (X.S.read k) → Calls Tryz.prog 152 #[.slice (some ⟨g, 0, none⟩) 512 512, .int .i64 k] w1 (OpenPost w1 (X.S.read k) k)) := Lib.hid fun w1 g hb hsec => pOpen_any (hT.below hT.lt hb) hsec.bs HPL.out (Nat.le_refl _) (by omega) k
  have hb0 : (X.F.st k == 0) = false := by rw [beq_eq_false_iff_ne]; exact hs
  have HP1 : Hid (openE (X.S.read k) k ≠ 0 → X.page k = none) := Lib.hid fun h0 => by unfold PG.page; rw [if_neg hs, if_neg h0]
  have HP2 : Hid (openE (X.S.read k) k = 0 → ∀ u, (X.S.read k)[0]? = some u → X.page k = some (u, fIn (X.S.read k))) := Lib.hid fun h0 u hu => by
    unfold PG.page
    rw [if_neg hs, if_pos h0]
    congr 2
    cases hx : X.S.read k with
    | nil => rw [hx] at hu; cases hu
    | cons a m => rw [hx] at hu; simpa using hu
  have HC0 : Hid (∀ w', Below w.heap.size w w' → w'.cell? ⟨P, 0, none⟩ = some (.pointer (some ⟨pd, 0, none⟩))) := Lib.hid fun w' hb => (h.below hb).c0
  clear h hs hT hlen hk hz
  generalize X.S.read k = pg at *
  generalize X.F.st k = st at *
  go_enter Tryz.func121, Tryz.ntmps121
  go_wp2_with fail
  refine HM.out.mono ?_; rintro e w1 ⟨rfl, rfl⟩
  go_wp2_with fail
  refine HST.out.mono ?_; rintro e w1 ⟨rfl, hb1⟩
  have HB1 := Lib.hid hb1
  have c0 := HC0.out _ hb1
  clear hb1
  go_wp2_with fail
  refine (HR.out _ HB1.out).mono ?_; rintro e w2 ⟨g, rfl, hg, hsec, hb2⟩
  have HB2 := Lib.hid (HB1.out.trans (hb2.mono HB1.out.size))
  have HS2 := Lib.hid hsec
  clear hb2 hsec hg c0
  go_wp2_with fail
  have HOO := Lib.hid (HO.out _ _ HB2.out HS2.out)
  clear HO
  generalize hz0 : openE pg k = z at *
  by_cases hz1 : z = 0
  · refine HOO.out.mono ?_
    rintro e w3 (⟨h1, _⟩ | ⟨h1, u, v', hu, rfl, ho, hb3⟩)
    · rw [hz0] at h1; exact absurd hz1 h1
    have HB3 := Lib.hid (HB2.out.trans (hb3.mono HB2.out.size))
    have HOW := Lib.hid ho
    have HQ := Lib.hid (HP2.out hz1 u hu)
    have HSZ := Lib.hid HB2.out.size
    clear HP1 HP2 hz0 hz1 HOO hb3 ho hu h1 HB2 HS2 HR HC0
    go_wp2
    exact bodyPost_ret (v := .tuple #[.int .u8 (u.toNat : Int), v', .int .i64 0]) (by simp [results, Tryz.results121, go_sem]) rfl (.inl ⟨u, _, v', HQ.out, rfl, HOW.out.le HSZ.out, HB3.out⟩)
  · refine HOO.out.mono ?_
    rintro e w3 h3
    obtain ⟨h1, rfl, hb3⟩ : openE pg k ≠ 0 ∧ e = .returned (.tuple #[.int .u8 0, .int .i64 0, .slice none 0 0, .int .i64 (openE pg k : Nat)]) ∧ Below w2.heap.size w2 w3 := by
      rcases h3 with h3 | h3
      · exact h3
      · exact absurd (hz0 ▸ h3.1) hz1
    have HB3 := Lib.hid (HB2.out.trans (hb3.mono HB2.out.size))
    have HQ := Lib.hid (HP1.out hz1)
    have hne : (((openE pg k : Nat) : Int) == 0) = false := by rw [hz0, beq_eq_false_iff_ne]; omega
    have hne2 : (((openE pg k : Nat) : Int) != 0) = true := by rw [hz0, bne_iff_ne]; omega
    clear HP1 HP2 HOO hb3 h1 HB2 HS2 HR HC0
    rw [hz0] at hne hne2 ⊢
    have hne3 : (z != 0) = true := by rw [bne_iff_ne]; omega
    clear hz0
    go_wp2
    exact bodyPost_ret (v := .tuple #[.int .u8 0, .slice none 0 0, .int .i64 18]) (by simp [results, Tryz.results121, go_sem]) rfl (.inr ⟨HQ.out, 18, by decide, by decide, rfl, HB3.out⟩)

end

end Go.Proofs.YtngnmakeaniapaaGreatDoor

