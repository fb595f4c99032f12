/-
  The node that the reference reads: what stays true of its box, its three slices and the reader at each step.
-/
import Derived.Test.YtigmibmebockhaaNdRefRd
import Derived.Test.YtigmibmebockhaaNdOwnR
set_option linter.unusedVariables false
set_option linter.unusedSimpArgs false
set_option maxRecDepth 100000
namespace Go.Proofs.Ytigmibmebockhaa
open Go.RowKit

/-- A value that was read: its bytes are the call's own. -/
structure VInR (w : World) (C : Nat) (x : Vl) : Prop where
  own : Own w C (.slice x.q x.l.length x.c) x.l
  g1 : 0 ≤ x.g
  g2 : x.g ≤ 65535
  p1 : 0 ≤ x.p
  p2 : x.p ≤ 65535
structure StR (w0 w : World) (R g A C : Nat) (n : Nd) (l : List UInt8) (bad : Bool) : Prop where
  box : w.heap[A]? = some (.cells #[.bool n.leaf, .slice n.kq n.ks.length n.kc, .slice n.vq n.vs.length n.vc, .slice n.iq n.is.length n.ic] 33 (0, 0))
  res : w.heap[R]? = some (.cells #[.bool false, .slice none 0 0, .slice none 0 0, .slice none 0 0] 33 (0, 0))
  ko : KOwn w C (.slice n.kq n.ks.length n.kc) n.ks
  vo : VOwnR w C (.slice n.vq n.vs.length n.vc) n.vs
  io : OwnI w C (.slice n.iq n.is.length n.ic) n.is
  ki : ∀ x ∈ n.ks, Own w C x.v x.l
  vi : ∀ x ∈ n.vs, VInR w C x
  ii : ∀ x ∈ n.is, 0 ≤ x ∧ x ≤ 65535
  rs : RsR w g l bad
  below : Below w0.heap.size w0 w
  ne : w0.heap.size ≤ R ∧ R < g ∧ g < A ∧ A < C ∧ C ≤ w.heap.size
theorem StR.lt {w0 w : World} {R g A C : Nat} {n : Nd} {l : List UInt8} {bad : Bool} (h : StR w0 w R g A C n l bad) : A < w.heap.size := (Array.getElem?_eq_some_iff.1 h.box).1
theorem StR.rlt {w0 w : World} {R g A C : Nat} {n : Nd} {l : List UInt8} {bad : Bool} (h : StR w0 w R g A C n l bad) : R < w.heap.size := (Array.getElem?_eq_some_iff.1 h.res).1
theorem StR.rdBox {w0 w : World} {R g A C : Nat} {n : Nd} {l : List UInt8} {bad : Bool} (h : StR w0 w R g A C n l bad) : ∃ c f, w.heap[g]? = some (.cells c 62 f) := by
  obtain ⟨p, m, c, hb, _⟩ := h.rs
  exact ⟨_, _, hb⟩

/-- Something was taken. -/
theorem StR.take {w0 w w' : World} {R g A C : Nat} {n : Nd} {l l' : List UInt8} {bad bad' : Bool} (h : StR w0 w R g A C n l bad) (hg : w.grownBy w' (some g)) (hr : RsR w' g l' bad') : StR w0 w' R g A C n l' bad' := by
  obtain ⟨c, f, hb⟩ := h.rdBox
  obtain ⟨e1, e2, e3, e4, e5⟩ := h.ne
  have hs := hg.size
  have hw := h.below.size
  refine ⟨(hg.block A h.lt (fun e => by have := Option.some.inj e; omega)).trans h.box, (hg.block R h.rlt (fun e => by have := Option.some.inj e; omega)).trans h.res, World.ownsRow.kept h.ko hg (.inr (row_other h.ko hb (by decide))), World.ownsRow.kept h.vo hg (.inr (row_other h.vo hb (by decide))), World.ownsRow.kept h.io hg (.inr (row_other h.io hb (by decide))),
    fun x hx => World.ownsRow.kept (h.ki x hx) hg (.inr (row_other (h.ki x hx) hb (by decide))), fun x hx => ⟨World.ownsRow.kept (h.vi x hx).own hg (.inr (row_other (h.vi x hx).own hb (by decide))), (h.vi x hx).g1, (h.vi x hx).g2, (h.vi x hx).p1, (h.vi x hx).p2⟩, h.ii, hr,
    h.below.trans (gr_low hg hw (fun k hk => by have := Option.some.inj hk; omega)), e1, e2, e3, e4, by omega⟩
theorem StR.later {w0 w w' : World} {R g A C : Nat} {n : Nd} {l : List UInt8} {bad : Bool} (h : StR w0 w R g A C n l bad) (hb : Below w.heap.size w w') : StR w0 w' R g A C n l bad := h.take (gb_below hb) (h.rs.below hb)
theorem StR.apart {w0 w : World} {R g A C size m : Nat} {n : Nd} {l : List UInt8} {bad : Bool} (h : StR w0 w R g A C n l bad) {e : TypeId} {v : Value} {xs : List Value} (ho : w.ownsRow C e size v m xs) (h1 : 33 ≠ e) (h2 : 62 ≠ e) :
    v.ownBlock ≠ some A ∧ v.ownBlock ≠ some R ∧ (∀ k, v.ownBlock = some k → C ≤ k) :=
  ⟨row_other ho h.box h1, row_other ho h.res h1, fun k hk => (World.ownsRow.lt ho k hk).1⟩
theorem StR.cells {w0 w : World} {R g A C : Nat} {n : Nd} {l : List UInt8} {bad : Bool} (h : StR w0 w R g A C n l bad) : (w.cell? ⟨A, 0, none⟩ = some (.bool n.leaf) ∧ w.cell? ⟨A, 1, none⟩ = some (.slice n.kq n.ks.length n.kc) ∧ w.cell? ⟨A, 2, none⟩ = some (.slice n.vq n.vs.length n.vc) ∧ w.cell? ⟨A, 3, none⟩ = some (.slice n.iq n.is.length n.ic)) ∧ ∀ i, w.frozen? ⟨A, i, none⟩ = false :=
  ⟨⟨Joins.cell_of_block h.box 0, Joins.cell_of_block h.box 1, Joins.cell_of_block h.box 2, Joins.cell_of_block h.box 3⟩, fun i => Joins.unfrozen_of_block h.box i⟩
theorem StR.boxAt {w0 w w1 w2 : World} {R g A C size m : Nat} {n : Nd} {l : List UInt8} {bad : Bool} (h : StR w0 w R g A C n l bad) (hb : Below w.heap.size w w1) {e : TypeId} {v : Value} {xs : List Value} (ho : w.ownsRow C e size v m xs) (h1 : 33 ≠ e) (h2 : 62 ≠ e) (hg : w1.grownBy w2 v.ownBlock) :
    w2.heap[A]? = some (.cells #[.bool n.leaf, .slice n.kq n.ks.length n.kc, .slice n.vq n.vs.length n.vc, .slice n.iq n.is.length n.ic] 33 (0, 0)) :=
  ((gr_pre hb hg).block A h.lt (h.apart ho h1 h2).1.symm).trans h.box

/-- A key more. -/
theorem StR.setK {w0 w w1 w2 : World} {R g A C : Nat} {n : Nd} {l : List UInt8} {bad : Bool} (h : StR w0 w R g A C n l bad) (hb : Below w.heap.size w w1) {q : Option Addr} {m c : Nat} {x : Kb} (hm : m = (n.ks ++ [x]).length) (ho : KOwn w2 C (.slice q m c) (n.ks ++ [x])) (hg : w1.grownBy w2 (Value.slice n.kq n.ks.length n.kc).ownBlock) (hx : Own w C x.v x.l) :
    StR w0 (w2.setCell ⟨A, 1, none⟩ (.slice q m c)) R g A C { n with kq := q, kc := c, ks := n.ks ++ [x] } l bad := by
  have hgw := gr_pre hb hg
  obtain ⟨n1, n2, n4⟩ := h.apart h.ko (by decide) (by decide)
  obtain ⟨e1, e2, e3, e4, e5⟩ := h.ne
  have hw := h.below.size
  have hsz := hgw.size
  have hbox := (hgw.block A h.lt n1.symm).trans h.box
  have hres := (hgw.block R h.rlt n2.symm).trans h.res
  have hrs : RsR w2 g l bad := h.rs.low (gr_low hgw (by omega) (fun k hk => by have := n4 k hk; omega))
  have hbel : Below w0.heap.size w w2 := gr_low hgw hw (fun k hk => by have := n4 k hk; omega)
  have hvo : VOwnR w2 C (.slice n.vq n.vs.length n.vc) n.vs := World.ownsRow.kept h.vo hgw (row_apart h.vo h.ko (by decide))
  have hio : OwnI w2 C (.slice n.iq n.is.length n.ic) n.is := World.ownsRow.kept h.io hgw (row_apart h.io h.ko (by decide))
  have hki : ∀ x ∈ n.ks, Own w2 C x.v x.l := fun x hx => World.ownsRow.kept (h.ki x hx) hgw (row_apart (h.ki x hx) h.ko (by decide))
  have hvi : ∀ x ∈ n.vs, VInR w2 C x := fun x hx => ⟨World.ownsRow.kept (h.vi x hx).own hgw (row_apart (h.vi x hx).own h.ko (by decide)), (h.vi x hx).g1, (h.vi x hx).g2, (h.vi x hx).p1, (h.vi x hx).p2⟩
  have hx2 : Own w2 C x.v x.l := World.ownsRow.kept hx hgw (row_apart hx h.ko (by decide))
  have hs := gr_set w2 A 1 (.slice q m c)
  have hlow : ∀ {B : Nat}, B ≤ A → Below B w2 (w2.setCell ⟨A, 1, none⟩ (.slice q m c)) := fun hB => (Below.refl _ _).setCell (p := ⟨A, 1, none⟩) hB _
  have hkn : ∀ x : Kb, Own w2 C x.v x.l → Own (w2.setCell ⟨A, 1, none⟩ (.slice q m c)) C x.v x.l := fun x hx => World.ownsRow.kept hx hs (.inr (row_other hx hbox (by decide)))
  have hvn : ∀ x : Vl, VInR w2 C x → VInR (w2.setCell ⟨A, 1, none⟩ (.slice q m c)) C x := fun x hx => ⟨World.ownsRow.kept hx.own hs (.inr (row_other hx.own hbox (by decide))), hx.g1, hx.g2, hx.p1, hx.p2⟩
  have hss : (w2.setCell ⟨A, 1, none⟩ (.slice q m c)).heap.size = w2.heap.size := by simp
  subst hm
  refine ⟨by simp [World.setCell, Array.getElem?_modify, hbox], by rw [set_ne (by omega)]; exact hres, World.ownsRow.kept ho hs (.inr (row_other ho hbox (by decide))), World.ownsRow.kept hvo hs (.inr (row_other hvo hbox (by decide))), World.ownsRow.kept hio hs (.inr (row_other hio hbox (by decide))), ?_, fun y hy => hvn y (hvi y hy), h.ii, hrs.low (hlow (by omega)), (h.below.trans hbel).trans (hlow (by omega)), e1, e2, e3, e4, by omega⟩
  intro y hy
  rcases List.mem_append.1 hy with hy | hy
  · exact hkn y (hki y hy)
  · obtain rfl := List.mem_singleton.1 hy
    exact hkn y hx2

/-- A value more. -/
theorem StR.setV {w0 w w1 w2 : World} {R g A C : Nat} {n : Nd} {l : List UInt8} {bad : Bool} (h : StR w0 w R g A C n l bad) (hb : Below w.heap.size w w1) {q : Option Addr} {m c : Nat} {x : Vl} (hm : m = (n.vs ++ [x]).length) (ho : VOwnR w2 C (.slice q m c) (n.vs ++ [x])) (hg : w1.grownBy w2 (Value.slice n.vq n.vs.length n.vc).ownBlock) (hx : VInR w C x) :
    StR w0 (w2.setCell ⟨A, 2, none⟩ (.slice q m c)) R g A C { n with vq := q, vc := c, vs := n.vs ++ [x] } l bad := by
  have hgw := gr_pre hb hg
  obtain ⟨n1, n2, n4⟩ := h.apart h.vo (by decide) (by decide)
  obtain ⟨e1, e2, e3, e4, e5⟩ := h.ne
  have hw := h.below.size
  have hsz := hgw.size
  have hbox := (hgw.block A h.lt n1.symm).trans h.box
  have hres := (hgw.block R h.rlt n2.symm).trans h.res
  have hrs : RsR w2 g l bad := h.rs.low (gr_low hgw (by omega) (fun k hk => by have := n4 k hk; omega))
  have hbel : Below w0.heap.size w w2 := gr_low hgw hw (fun k hk => by have := n4 k hk; omega)
  have hko : KOwn w2 C (.slice n.kq n.ks.length n.kc) n.ks := World.ownsRow.kept h.ko hgw (row_apart h.ko h.vo (by decide))
  have hio : OwnI w2 C (.slice n.iq n.is.length n.ic) n.is := World.ownsRow.kept h.io hgw (row_apart h.io h.vo (by decide))
  have hki : ∀ x ∈ n.ks, Own w2 C x.v x.l := fun x hx => World.ownsRow.kept (h.ki x hx) hgw (row_apart (h.ki x hx) h.vo (by decide))
  have hvi : ∀ x ∈ n.vs, VInR w2 C x := fun x hx => ⟨World.ownsRow.kept (h.vi x hx).own hgw (row_apart (h.vi x hx).own h.vo (by decide)), (h.vi x hx).g1, (h.vi x hx).g2, (h.vi x hx).p1, (h.vi x hx).p2⟩
  have hx2 : VInR w2 C x := ⟨World.ownsRow.kept hx.own hgw (row_apart hx.own h.vo (by decide)), hx.g1, hx.g2, hx.p1, hx.p2⟩
  have hs := gr_set w2 A 2 (.slice q m c)
  have hlow : ∀ {B : Nat}, B ≤ A → Below B w2 (w2.setCell ⟨A, 2, none⟩ (.slice q m c)) := fun hB => (Below.refl _ _).setCell (p := ⟨A, 2, none⟩) hB _
  have hkn : ∀ x : Kb, Own w2 C x.v x.l → Own (w2.setCell ⟨A, 2, none⟩ (.slice q m c)) C x.v x.l := fun x hx => World.ownsRow.kept hx hs (.inr (row_other hx hbox (by decide)))
  have hvn : ∀ x : Vl, VInR w2 C x → VInR (w2.setCell ⟨A, 2, none⟩ (.slice q m c)) C x := fun x hx => ⟨World.ownsRow.kept hx.own hs (.inr (row_other hx.own hbox (by decide))), hx.g1, hx.g2, hx.p1, hx.p2⟩
  have hss : (w2.setCell ⟨A, 2, none⟩ (.slice q m c)).heap.size = w2.heap.size := by simp
  subst hm
  refine ⟨by simp [World.setCell, Array.getElem?_modify, hbox], by rw [set_ne (by omega)]; exact hres, World.ownsRow.kept hko hs (.inr (row_other hko hbox (by decide))), World.ownsRow.kept ho hs (.inr (row_other ho hbox (by decide))), World.ownsRow.kept hio hs (.inr (row_other hio hbox (by decide))), fun y hy => hkn y (hki y hy), ?_, h.ii, hrs.low (hlow (by omega)), (h.below.trans hbel).trans (hlow (by omega)), e1, e2, e3, e4, by omega⟩
  intro y hy
  rcases List.mem_append.1 hy with hy | hy
  · exact hvn y (hvi y hy)
  · obtain rfl := List.mem_singleton.1 hy
    exact hvn y hx2

/-- A kid more. -/
theorem StR.setI {w0 w w1 w2 : World} {R g A C : Nat} {n : Nd} {l : List UInt8} {bad : Bool} (h : StR w0 w R g A C n l bad) (hb : Below w.heap.size w w1) {q : Option Addr} {m c : Nat} {x : Int} (hm : m = (n.is ++ [x]).length) (ho : OwnI w2 C (.slice q m c) (n.is ++ [x])) (hg : w1.grownBy w2 (Value.slice n.iq n.is.length n.ic).ownBlock) (hx : 0 ≤ x ∧ x ≤ 65535) :
    StR w0 (w2.setCell ⟨A, 3, none⟩ (.slice q m c)) R g A C { n with iq := q, ic := c, is := n.is ++ [x] } l bad := by
  have hgw := gr_pre hb hg
  obtain ⟨n1, n2, n4⟩ := h.apart h.io (by decide) (by decide)
  obtain ⟨e1, e2, e3, e4, e5⟩ := h.ne
  have hw := h.below.size
  have hsz := hgw.size
  have hbox := (hgw.block A h.lt n1.symm).trans h.box
  have hres := (hgw.block R h.rlt n2.symm).trans h.res
  have hrs : RsR w2 g l bad := h.rs.low (gr_low hgw (by omega) (fun k hk => by have := n4 k hk; omega))
  have hbel : Below w0.heap.size w w2 := gr_low hgw hw (fun k hk => by have := n4 k hk; omega)
  have hko : KOwn w2 C (.slice n.kq n.ks.length n.kc) n.ks := World.ownsRow.kept h.ko hgw (row_apart h.ko h.io (by decide))
  have hvo : VOwnR w2 C (.slice n.vq n.vs.length n.vc) n.vs := World.ownsRow.kept h.vo hgw (row_apart h.vo h.io (by decide))
  have hki : ∀ x ∈ n.ks, Own w2 C x.v x.l := fun x hx => World.ownsRow.kept (h.ki x hx) hgw (row_apart (h.ki x hx) h.io (by decide))
  have hvi : ∀ x ∈ n.vs, VInR w2 C x := fun x hx => ⟨World.ownsRow.kept (h.vi x hx).own hgw (row_apart (h.vi x hx).own h.io (by decide)), (h.vi x hx).g1, (h.vi x hx).g2, (h.vi x hx).p1, (h.vi x hx).p2⟩
  have hs := gr_set w2 A 3 (.slice q m c)
  have hlow : ∀ {B : Nat}, B ≤ A → Below B w2 (w2.setCell ⟨A, 3, none⟩ (.slice q m c)) := fun hB => (Below.refl _ _).setCell (p := ⟨A, 3, none⟩) hB _
  have hkn : ∀ x : Kb, Own w2 C x.v x.l → Own (w2.setCell ⟨A, 3, none⟩ (.slice q m c)) C x.v x.l := fun x hx => World.ownsRow.kept hx hs (.inr (row_other hx hbox (by decide)))
  have hvn : ∀ x : Vl, VInR w2 C x → VInR (w2.setCell ⟨A, 3, none⟩ (.slice q m c)) C x := fun x hx => ⟨World.ownsRow.kept hx.own hs (.inr (row_other hx.own hbox (by decide))), hx.g1, hx.g2, hx.p1, hx.p2⟩
  have hss : (w2.setCell ⟨A, 3, none⟩ (.slice q m c)).heap.size = w2.heap.size := by simp
  subst hm
  refine ⟨by simp [World.setCell, Array.getElem?_modify, hbox], by rw [set_ne (by omega)]; exact hres, World.ownsRow.kept hko hs (.inr (row_other hko hbox (by decide))), World.ownsRow.kept hvo hs (.inr (row_other hvo hbox (by decide))), World.ownsRow.kept ho hs (.inr (row_other ho hbox (by decide))), fun y hy => hkn y (hki y hy), fun y hy => hvn y (hvi y hy), ?_, hrs.low (hlow (by omega)), (h.below.trans hbel).trans (hlow (by omega)), e1, e2, e3, e4, by omega⟩
  intro y hy
  rcases List.mem_append.1 hy with hy | hy
  · exact h.ii y hy
  · obtain rfl := List.mem_singleton.1 hy
    exact hx

/-- It is a node. -/
theorem StR.ok {w0 w : World} {R g A C : Nat} {n : Nd} {l : List UInt8} {bad : Bool} (h : StR w0 w R g A C n l bad) : n.Ok w := by
  obtain ⟨q1, c1, e1, a1, a2, a3, _⟩ := row_form h.ko
  obtain ⟨q2, c2, e2, b1, b2, b3, _⟩ := row_form h.vo
  obtain ⟨q3, c3, e3, d1, d2, d3, _⟩ := row_form h.io
  cases e1
  cases e2
  cases e3
  have hil : Ks w n.iq n.is := by
    obtain ⟨q, c, e, hk⟩ := h.io.form
    cases e
    exact hk
  refine ⟨a1, a2, a3, kown_lie h.ko, fun x hx => ?_, b1, b2, b3, vownR_lie h.vo, fun x hx => ?_, d1, d2, d3, hil, fun x hx => by have := h.ii x hx; omega⟩
  · obtain ⟨q, c, e, h1, h2, h3, h4⟩ := (h.ki x hx).form rfl
    unfold Kb.v at e
    cases e
    exact ⟨h3, h1, h2, h4⟩
  · obtain ⟨q, c, e, h1, h2, h3, h4⟩ := (h.vi x hx).own.form rfl
    have hv := h.vi x hx
    cases e
    exact ⟨h3, h1, h2, h4, by have := hv.g1; omega, by have := hv.g2; omega, by have := hv.p1; omega, by have := hv.p2; omega⟩

end Go.Proofs.Ytigmibmebockhaa
