/-
  The node that is being read: what stays true of its box and its three slices at each step.
-/
import Derived.Test.YtigmibmebockhaaNdVal
set_option linter.unusedVariables false
set_option linter.unusedSimpArgs false
set_option maxRecDepth 100000
namespace Go.Proofs.Ytigmibmebockhaa
open Go.RowKit

theorem gr_pre {w w1 w2 : World} {r : Option Nat} (h : Below w.heap.size w w1) (h' : w1.grownBy w2 r) : w.grownBy w2 r :=
  ⟨h'.os.trans h.os, h'.tape.trans h.tape, h'.output.trans h.output, Nat.le_trans h.size h'.size, fun k hk hne => (h'.block k (Nat.lt_of_lt_of_le hk h.size) hne).trans (h.block k hk)⟩
theorem gr_low {w w' : World} {r : Option Nat} {g : Nat} (h : w.grownBy w' r) (hg : g ≤ w.heap.size) (hr : ∀ k, r = some k → g ≤ k) : Below g w w' :=
  ⟨h.os, h.tape, h.output, h.size, fun k hk => h.block k (by omega) (fun e => by have := hr k e.symm; omega)⟩
theorem gb_gr {w w1 w2 : World} {g : Nat} {r : Option Nat} (h : w.grownBy w1 (some g)) (h' : w1.grownBy w2 r) (hr : ∀ k, r = some k → w.heap.size ≤ k) : w.grownBy w2 (some g) :=
  ⟨h'.os.trans h.os, h'.tape.trans h.tape, h'.output.trans h.output, Nat.le_trans h.size h'.size, fun k hk hne => (h'.block k (Nat.lt_of_lt_of_le hk h.size) (fun e => by have := hr k e.symm; omega)).trans (h.block k hk hne)⟩

structure NSt (w0 w : World) (g A : Nat) (n : Nd) (l : List UInt8) : Prop where
  box : w.heap[A]? = some (.cells #[.bool n.leaf, .slice n.kq n.ks.length n.kc, .slice n.vq n.vs.length n.vc, .slice n.iq n.is.length n.ic] 27 (0, 0))
  res : w.heap[w0.heap.size]? = some (.cells #[.bool false, .slice none 0 0, .slice none 0 0, .slice none 0 0] 27 (0, 0))
  ko : KOwn w w0.heap.size (.slice n.kq n.ks.length n.kc) n.ks
  vo : VOwn w w0.heap.size (.slice n.vq n.vs.length n.vc) n.vs
  io : OwnI w w0.heap.size (.slice n.iq n.is.length n.ic) n.is
  ki : ∀ x ∈ n.ks, KIn w g x
  vi : ∀ x ∈ n.vs, VIn w g x
  ii : ∀ x ∈ n.is, 0 ≤ x ∧ x ≤ 65535
  rs : Rs w g l
  gb : w0.grownBy w (some g)
  glt : g < w0.heap.size
  ra : w0.heap.size < A

theorem NSt.restBox {w0 w : World} {g A : Nat} {n : Nd} {l : List UInt8} (h : NSt w0 w g A n l) : ∃ c f, w.heap[g]? = some (.cells c 76 f) := by
  obtain ⟨p, m, c, hb, _⟩ := h.rs
  exact ⟨_, _, hb⟩
theorem NSt.lt {w0 w : World} {g A : Nat} {n : Nd} {l : List UInt8} (h : NSt w0 w g A n l) : A < w.heap.size := (Array.getElem?_eq_some_iff.1 h.box).1

/-- One block alone changes, and it is none of the node's; what is left is known. -/
theorem NSt.turn {w0 w w' : World} {g A : Nat} {n : Nd} {l l' : List UInt8} (h : NSt w0 w g A n l) {r : Option Nat} (hg : w.grownBy w' r) (h1 : r ≠ some A) (h2 : r ≠ some w0.heap.size)
    (h3 : (Value.slice n.kq n.ks.length n.kc).ownBlock = none ∨ (Value.slice n.kq n.ks.length n.kc).ownBlock ≠ r) (h4 : (Value.slice n.vq n.vs.length n.vc).ownBlock = none ∨ (Value.slice n.vq n.vs.length n.vc).ownBlock ≠ r) (h5 : (Value.slice n.iq n.is.length n.ic).ownBlock = none ∨ (Value.slice n.iq n.is.length n.ic).ownBlock ≠ r)
    (hlow : Below g w w') (hr : Rs w' g l') (hgb : w0.grownBy w' (some g)) : NSt w0 w' g A n l' :=
  ⟨(hg.block A h.lt h1.symm).trans h.box, (hg.block _ (Array.getElem?_eq_some_iff.1 h.res).1 h2.symm).trans h.res, World.ownsRow.kept h.ko hg h3, World.ownsRow.kept h.vo hg h4, World.ownsRow.kept h.io hg h5,
    fun x hx => (h.ki x hx).low hlow, fun x hx => (h.vi x hx).low hlow, h.ii, hr, hgb, h.glt, h.ra⟩
theorem NSt.read {w0 w w' : World} {g A : Nat} {n : Nd} {l l' : List UInt8} (h : NSt w0 w g A n l) (hg : w.grownBy w' (some g)) (hr : Rs w' g l') : NSt w0 w' g A n l' := by
  obtain ⟨c, f, hb⟩ := h.restBox
  have hlt := h.glt
  have hs := h.gb.size
  refine h.turn hg (fun e => by have := Option.some.inj e; have := h.ra; omega) (fun e => by have := Option.some.inj e; omega) (.inr (row_other h.ko hb (by decide))) (.inr (row_other h.vo hb (by decide))) (.inr (row_other h.io hb (by decide))) (gb_low hg (by omega)) hr (gb_trans h.gb hg)
theorem NSt.below {w0 w w' : World} {g A : Nat} {n : Nd} {l : List UInt8} (h : NSt w0 w g A n l) (hb : Below w.heap.size w w') : NSt w0 w' g A n l := by
  have hs := h.gb.size
  have hg := h.glt
  exact h.read (gb_below hb) (h.rs.below hb)

/-- A slice has grown: all but its own block is as it was. -/
theorem NSt.ne {w0 w : World} {g A size m : Nat} {n : Nd} {l : List UInt8} (h : NSt w0 w g A n l) {e : TypeId} {v : Value} {xs : List Value} (ho : w.ownsRow w0.heap.size e size v m xs) (h1 : 27 ≠ e) (h2 : 76 ≠ e) :
    v.ownBlock ≠ some A ∧ v.ownBlock ≠ some w0.heap.size ∧ v.ownBlock ≠ some g ∧ (∀ k, v.ownBlock = some k → w0.heap.size ≤ k) := by
  obtain ⟨c, f, hb⟩ := h.restBox
  exact ⟨row_other ho h.box h1, row_other ho h.res h1, row_other ho hb h2, fun k hk => (World.ownsRow.lt ho k hk).1⟩
theorem NSt.rest {w0 w w' : World} {g A : Nat} {n : Nd} {l : List UInt8} (h : NSt w0 w g A n l) {r : Option Nat} (hg : w.grownBy w' r) (hne : r ≠ some g) (hlo : ∀ k, r = some k → w0.heap.size ≤ k) : Below g w w' ∧ Rs w' g l ∧ w0.grownBy w' (some g) := by
  have hs := h.gb.size
  have hlt := h.glt
  have hlow : Below (g + 1) w w' := gr_low hg (by omega) (fun k hk => by have := hlo k hk; omega)
  exact ⟨hlow.mono (by omega), h.rs.low hlow, gb_gr h.gb hg hlo⟩
theorem set_ne {w : World} {A k i : Nat} {v : Value} (h : k ≠ A) : (w.setCell ⟨A, i, none⟩ v).heap[k]? = w.heap[k]? := by
  simp [World.setCell, Array.getElem?_modify, Ne.symm h]
theorem gr_set (w : World) (A i : Nat) (v : Value) : w.grownBy (w.setCell ⟨A, i, none⟩ v) (some A) := gb_set (gb_refl w A) i v

/-- A key more. -/
theorem NSt.setK {w0 w w1 w2 : World} {g A : Nat} {n : Nd} {l : List UInt8} (h : NSt w0 w g A n l) (hb : Below w.heap.size w w1) {q : Option Addr} {m c : Nat} {x : Kb} (hm : m = (n.ks ++ [x]).length) (ho : KOwn w2 w0.heap.size (.slice q m c) (n.ks ++ [x])) (hg : w1.grownBy w2 (Value.slice n.kq n.ks.length n.kc).ownBlock) (hx : KIn w g x) :
    NSt w0 (w2.setCell ⟨A, 1, none⟩ (.slice q m c)) g A { n with kq := q, kc := c, ks := n.ks ++ [x] } l := by
  have hgw := gr_pre hb hg
  obtain ⟨n1, n2, n3, n4⟩ := h.ne h.ko (by decide) (by decide)
  obtain ⟨r1, r2, r3⟩ := h.rest hgw n3 n4
  have hbox := (hgw.block A h.lt n1.symm).trans h.box
  have hres := (hgw.block _ (Array.getElem?_eq_some_iff.1 h.res).1 n2.symm).trans h.res
  have hvo : VOwn w2 w0.heap.size (.slice n.vq n.vs.length n.vc) n.vs := World.ownsRow.kept h.vo hgw (row_apart h.vo h.ko (by decide))
  have hio : OwnI w2 w0.heap.size (.slice n.iq n.is.length n.ic) n.is := World.ownsRow.kept h.io hgw (row_apart h.io h.ko (by decide))
  have hs := gr_set w2 A 1 (.slice q m c)
  have hra := h.ra
  have hglt := h.glt
  have hlow2 : Below g w2 (w2.setCell ⟨A, 1, none⟩ (.slice q m c)) := (Below.refl _ _).setCell (p := ⟨A, 1, none⟩) (show g ≤ A by omega) _
  have hlow3 : Below (g + 1) w2 (w2.setCell ⟨A, 1, none⟩ (.slice q m c)) := (Below.refl _ _).setCell (p := ⟨A, 1, none⟩) (show g + 1 ≤ A by omega) _
  subst hm
  refine ⟨by simp [World.setCell, Array.getElem?_modify, hbox], by rw [set_ne (by omega)]; exact hres, World.ownsRow.kept ho hs (.inr (row_other ho hbox (by decide))), World.ownsRow.kept hvo hs (.inr (row_other hvo hbox (by decide))), World.ownsRow.kept hio hs (.inr (row_other hio hbox (by decide))), ?_, fun y hy => ((h.vi y hy).low r1).low hlow2, h.ii, r2.low hlow3, gb_gr r3 hs (fun k hk => by have := Option.some.inj hk; omega), hglt, hra⟩
  intro y hy
  rcases List.mem_append.1 hy with hy | hy
  · exact ((h.ki y hy).low r1).low hlow2
  · obtain rfl := List.mem_singleton.1 hy
    exact (hx.low r1).low hlow2
/-- A value more. -/
theorem NSt.setV {w0 w w1 w2 : World} {g A : Nat} {n : Nd} {l : List UInt8} (h : NSt w0 w g A n l) (hb : Below w.heap.size w w1) {q : Option Addr} {m c : Nat} {x : Vl} (hm : m = (n.vs ++ [x]).length) (ho : VOwn w2 w0.heap.size (.slice q m c) (n.vs ++ [x])) (hg : w1.grownBy w2 (Value.slice n.vq n.vs.length n.vc).ownBlock) (hx : VIn w g x) :
    NSt w0 (w2.setCell ⟨A, 2, none⟩ (.slice q m c)) g A { n with vq := q, vc := c, vs := n.vs ++ [x] } l := by
  have hgw := gr_pre hb hg
  obtain ⟨n1, n2, n3, n4⟩ := h.ne h.vo (by decide) (by decide)
  obtain ⟨r1, r2, r3⟩ := h.rest hgw n3 n4
  have hbox := (hgw.block A h.lt n1.symm).trans h.box
  have hres := (hgw.block _ (Array.getElem?_eq_some_iff.1 h.res).1 n2.symm).trans h.res
  have hvo : KOwn w2 w0.heap.size (.slice n.kq n.ks.length n.kc) n.ks := World.ownsRow.kept h.ko hgw (row_apart h.ko h.vo (by decide))
  have hio : OwnI w2 w0.heap.size (.slice n.iq n.is.length n.ic) n.is := World.ownsRow.kept h.io hgw (row_apart h.io h.vo (by decide))
  have hs := gr_set w2 A 2 (.slice q m c)
  have hra := h.ra
  have hglt := h.glt
  have hlow2 : Below g w2 (w2.setCell ⟨A, 2, none⟩ (.slice q m c)) := (Below.refl _ _).setCell (p := ⟨A, 2, none⟩) (show g ≤ A by omega) _
  have hlow3 : Below (g + 1) w2 (w2.setCell ⟨A, 2, none⟩ (.slice q m c)) := (Below.refl _ _).setCell (p := ⟨A, 2, none⟩) (show g + 1 ≤ A by omega) _
  subst hm
  refine ⟨by simp [World.setCell, Array.getElem?_modify, hbox], by rw [set_ne (by omega)]; exact hres, World.ownsRow.kept hvo hs (.inr (row_other hvo hbox (by decide))), World.ownsRow.kept ho hs (.inr (row_other ho hbox (by decide))), World.ownsRow.kept hio hs (.inr (row_other hio hbox (by decide))), fun y hy => ((h.ki y hy).low r1).low hlow2, ?_, h.ii, r2.low hlow3, gb_gr r3 hs (fun k hk => by have := Option.some.inj hk; omega), hglt, hra⟩
  intro y hy
  rcases List.mem_append.1 hy with hy | hy
  · exact ((h.vi y hy).low r1).low hlow2
  · obtain rfl := List.mem_singleton.1 hy
    exact (hx.low r1).low hlow2
/-- A kid more. -/
theorem NSt.setI {w0 w w1 w2 : World} {g A : Nat} {n : Nd} {l : List UInt8} (h : NSt w0 w g A n l) (hb : Below w.heap.size w w1) {q : Option Addr} {m c : Nat} {x : Int} (hm : m = (n.is ++ [x]).length) (ho : OwnI w2 w0.heap.size (.slice q m c) (n.is ++ [x])) (hg : w1.grownBy w2 (Value.slice n.iq n.is.length n.ic).ownBlock) (hx : 0 ≤ x ∧ x ≤ 65535) :
    NSt w0 (w2.setCell ⟨A, 3, none⟩ (.slice q m c)) g A { n with iq := q, ic := c, is := n.is ++ [x] } l := by
  have hgw := gr_pre hb hg
  obtain ⟨n1, n2, n3, n4⟩ := h.ne h.io (by decide) (by decide)
  obtain ⟨r1, r2, r3⟩ := h.rest hgw n3 n4
  have hbox := (hgw.block A h.lt n1.symm).trans h.box
  have hres := (hgw.block _ (Array.getElem?_eq_some_iff.1 h.res).1 n2.symm).trans h.res
  have hvo : KOwn w2 w0.heap.size (.slice n.kq n.ks.length n.kc) n.ks := World.ownsRow.kept h.ko hgw (row_apart h.ko h.io (by decide))
  have hio : VOwn w2 w0.heap.size (.slice n.vq n.vs.length n.vc) n.vs := World.ownsRow.kept h.vo hgw (row_apart h.vo h.io (by decide))
  have hs := gr_set w2 A 3 (.slice q m c)
  have hra := h.ra
  have hglt := h.glt
  have hlow2 : Below g w2 (w2.setCell ⟨A, 3, none⟩ (.slice q m c)) := (Below.refl _ _).setCell (p := ⟨A, 3, none⟩) (show g ≤ A by omega) _
  have hlow3 : Below (g + 1) w2 (w2.setCell ⟨A, 3, none⟩ (.slice q m c)) := (Below.refl _ _).setCell (p := ⟨A, 3, none⟩) (show g + 1 ≤ A by omega) _
  subst hm
  refine ⟨by simp [World.setCell, Array.getElem?_modify, hbox], by rw [set_ne (by omega)]; exact hres, World.ownsRow.kept hvo hs (.inr (row_other hvo hbox (by decide))), World.ownsRow.kept hio hs (.inr (row_other hio hbox (by decide))), World.ownsRow.kept ho hs (.inr (row_other ho hbox (by decide))), fun y hy => ((h.ki y hy).low r1).low hlow2, fun y hy => ((h.vi y hy).low r1).low hlow2, ?_, r2.low hlow3, gb_gr r3 hs (fun k hk => by have := Option.some.inj hk; omega), hglt, hra⟩
  intro y hy
  rcases List.mem_append.1 hy with hy | hy
  · exact h.ii y hy
  · obtain rfl := List.mem_singleton.1 hy
    exact hx

theorem NSt.cells {w0 w : World} {g A : Nat} {n : Nd} {l : List UInt8} (h : NSt w0 w g A n l) : (w.cell? ⟨A, 0, none⟩ = some (.bool n.leaf) ∧ w.cell? ⟨A, 1, none⟩ = some (.slice n.kq n.ks.length n.kc) ∧ w.cell? ⟨A, 2, none⟩ = some (.slice n.vq n.vs.length n.vc) ∧ w.cell? ⟨A, 3, none⟩ = some (.slice n.iq n.is.length n.ic)) ∧ ∀ i, w.frozen? ⟨A, i, none⟩ = false :=
  ⟨⟨Joins.cell_of_block h.box 0, Joins.cell_of_block h.box 1, Joins.cell_of_block h.box 2, Joins.cell_of_block h.box 3⟩, fun i => Joins.unfrozen_of_block h.box i⟩
/-- A node whose three slices are rows of the call's own. -/
structure NOwn (w : World) (n : Nd) : Prop where
  ko : ∃ B, KOwn w B (.slice n.kq n.ks.length n.kc) n.ks
  vo : ∃ B, VOwn w B (.slice n.vq n.vs.length n.vc) n.vs
  io : ∃ B, OwnI w B (.slice n.iq n.is.length n.ic) n.is
  ki : ∀ x ∈ n.ks, x.Ok w
  vi : ∀ x ∈ n.vs, x.Ok w
  ii : ∀ x ∈ n.is, 0 ≤ x ∧ x ≤ 65535
theorem NOwn.ok {w : World} {n : Nd} (h : NOwn w n) : n.Ok w := by
  obtain ⟨_, ko⟩ := h.ko
  obtain ⟨_, vo⟩ := h.vo
  obtain ⟨_, io⟩ := h.io
  obtain ⟨q1, c1, e1, a1, a2, a3, _⟩ := row_form ko
  obtain ⟨q2, c2, e2, b1, b2, b3, _⟩ := row_form vo
  obtain ⟨q3, c3, e3, d1, d2, d3, _⟩ := row_form io
  cases e1
  cases e2
  cases e3
  have hil : Ks w n.iq n.is := by
    obtain ⟨q, c, e, hk⟩ := io.form
    cases e
    exact hk
  exact ⟨a1, a2, a3, kown_lie ko, h.ki, b1, b2, b3, vown_lie vo, h.vi, d1, d2, d3, hil, fun x hx => by have := h.ii x hx; omega⟩
theorem NOwn.zero (w : World) : NOwn w Nd.zero :=
  ⟨⟨0, World.ownsRow_nil w _ _ _⟩, ⟨0, World.ownsRow_nil w _ _ _⟩, ⟨0, World.ownsRow_nil w _ _ _⟩, fun x hx => (by cases hx), fun x hx => (by cases hx), fun x hx => (by cases hx)⟩
theorem row_below {w w' : World} {B size n : Nat} {e : TypeId} {v : Value} {xs : List Value} (h : w.ownsRow B e size v n xs) (hb : Below w.heap.size w w') : w'.ownsRow B e size v n xs := by
  refine ⟨h.1, ?_⟩
  rcases h.2 with h0 | ⟨g, cap, cur, hv, h1, hg, h2⟩
  · exact .inl h0
  · exact .inr ⟨g, cap, cur, hv, h1, by rw [hb.block g (Array.getElem?_eq_some_iff.1 hg).1]; exact hg, h2⟩
theorem NOwn.below {w w' : World} {n : Nd} (h : NOwn w n) (hb : Below w.heap.size w w') : NOwn w' n := by
  obtain ⟨_, ko⟩ := h.ko
  obtain ⟨_, vo⟩ := h.vo
  obtain ⟨_, io⟩ := h.io
  exact ⟨⟨_, row_below ko hb⟩, ⟨_, row_below vo hb⟩, ⟨_, row_below io hb⟩, fun x hx => (h.ki x hx).below hb, fun x hx => (h.vi x hx).below hb, h.ii⟩

/-- The result's box, new: bytes do not lie there. -/
def RBox (w : World) (R : Nat) : Prop := w.heap[R]? = some (.cells #[.bool false, .slice none 0 0, .slice none 0 0, .slice none 0 0] 27 (0, 0))
theorem RBox.cells {w : World} {R : Nat} (h : RBox w R) : (w.cell? ⟨R, 0, none⟩ = some (.bool false) ∧ w.cell? ⟨R, 1, none⟩ = some (.slice none 0 0) ∧ w.cell? ⟨R, 2, none⟩ = some (.slice none 0 0) ∧ w.cell? ⟨R, 3, none⟩ = some (.slice none 0 0)) ∧ (w.frozen? ⟨R, 0, none⟩ = false ∧ w.frozen? ⟨R, 1, none⟩ = false ∧ w.frozen? ⟨R, 2, none⟩ = false ∧ w.frozen? ⟨R, 3, none⟩ = false) ∧ R < w.heap.size :=
  ⟨⟨Joins.cell_of_block h 0, Joins.cell_of_block h 1, Joins.cell_of_block h 2, Joins.cell_of_block h 3⟩, ⟨Joins.unfrozen_of_block h 0, Joins.unfrozen_of_block h 1, Joins.unfrozen_of_block h 2, Joins.unfrozen_of_block h 3⟩, (Array.getElem?_eq_some_iff.1 h).1⟩
theorem RBox.no {w : World} {R o : Nat} {x : Int} (h : RBox w R) : w.cell? ⟨R, o, none⟩ ≠ some (.int .u8 x) := by
  rw [Joins.cell_of_block h o]
  match o with
  | 0 => intro e; cases e
  | 1 => intro e; cases e
  | 2 => intro e; cases e
  | 3 => intro e; cases e
  | o + 4 => intro e; simp at e
theorem RBox.bs {w w' : World} {R : Nat} (h : RBox w R) (hg : w.grownBy w' (some R)) {q : Option Addr} {l : List UInt8} (hb : Bs w q l) : Bs w' q l := by
  intro hne
  obtain ⟨b, o, hq, hc⟩ := hb hne
  refine ⟨b, o, hq, fun i u hi => ?_⟩
  have h1 := hc i u hi
  have hbR : b ≠ R := fun e => by subst e; exact h.no h1
  rw [World.cell?_of_block (hg.block b (World.block_lt_of_cell? _ _ h1) (fun e => hbR (Option.some.inj e)))]
  exact h1
theorem NOwn.off {w w' : World} {n : Nd} (h : NOwn w n) {R : Nat} (hR : RBox w R) (hg : w.grownBy w' (some R)) : NOwn w' n := by
  obtain ⟨_, ko⟩ := h.ko
  obtain ⟨_, vo⟩ := h.vo
  obtain ⟨_, io⟩ := h.io
  exact ⟨⟨_, World.ownsRow.kept ko hg (.inr (row_other ko hR (by decide)))⟩, ⟨_, World.ownsRow.kept vo hg (.inr (row_other vo hR (by decide)))⟩, ⟨_, World.ownsRow.kept io hg (.inr (row_other io hR (by decide)))⟩,
    fun x hx => ⟨hR.bs hg (h.ki x hx).bs, (h.ki x hx).h1, (h.ki x hx).h2, (h.ki x hx).z⟩, fun x hx => ⟨hR.bs hg (h.vi x hx).bs, (h.vi x hx).h1, (h.vi x hx).h2, (h.vi x hx).z, (h.vi x hx).g1, (h.vi x hx).g2, (h.vi x hx).p1, (h.vi x hx).p2⟩, h.ii⟩
theorem NSt.resCells {w0 w : World} {g A : Nat} {n : Nd} {l : List UInt8} (h : NSt w0 w g A n l) : (w.cell? ⟨w0.heap.size, 0, none⟩ = some (.bool false) ∧ w.cell? ⟨w0.heap.size, 1, none⟩ = some (.slice none 0 0) ∧ w.cell? ⟨w0.heap.size, 2, none⟩ = some (.slice none 0 0) ∧ w.cell? ⟨w0.heap.size, 3, none⟩ = some (.slice none 0 0)) ∧ (w.frozen? ⟨w0.heap.size, 0, none⟩ = false ∧ w.frozen? ⟨w0.heap.size, 1, none⟩ = false ∧ w.frozen? ⟨w0.heap.size, 2, none⟩ = false ∧ w.frozen? ⟨w0.heap.size, 3, none⟩ = false) ∧ w0.heap.size < w.heap.size :=
  ⟨⟨Joins.cell_of_block h.res 0, Joins.cell_of_block h.res 1, Joins.cell_of_block h.res 2, Joins.cell_of_block h.res 3⟩, ⟨Joins.unfrozen_of_block h.res 0, Joins.unfrozen_of_block h.res 1, Joins.unfrozen_of_block h.res 2, Joins.unfrozen_of_block h.res 3⟩, (Array.getElem?_eq_some_iff.1 h.res).1⟩
theorem set4 {w : World} {R : Nat} {x y z u a b c d : Value} {t : TypeId} (h : w.heap[R]? = some (.cells #[x, y, z, u] t (0, 0))) :
    ((((w.setCell ⟨R, 0, none⟩ a).setCell ⟨R, 1, none⟩ b).setCell ⟨R, 2, none⟩ c).setCell ⟨R, 3, none⟩ d).heap[R]? = some (.cells #[a, b, c, d] t (0, 0)) := by
  simp [World.setCell, Array.getElem?_modify, h]
theorem gb4 (w : World) (R : Nat) (a b c d : Value) : w.grownBy ((((w.setCell ⟨R, 0, none⟩ a).setCell ⟨R, 1, none⟩ b).setCell ⟨R, 2, none⟩ c).setCell ⟨R, 3, none⟩ d) (some R) :=
  gb_set (gb_set (gb_set (gb_set (gb_refl w R) 0 a) 1 b) 2 c) 3 d
/-- The node behind the store into the result's box. -/
theorem NSt.done {w0 w w' : World} {g A : Nat} {n : Nd} {l : List UInt8} (h : NSt w0 w g A n l) (hg : w.grownBy w' (some w0.heap.size)) : NOwn w' n ∧ w0.grownBy w' (some g) ∧ Rs w' g l := by
  have hglt := h.glt
  have hs := h.gb.size
  have hlow : Below (g + 1) w w' := gr_low hg (by omega) (fun k hk => by have := Option.some.inj hk; omega)
  exact ⟨⟨⟨_, World.ownsRow.kept h.ko hg (.inr (row_other h.ko h.res (by decide)))⟩, ⟨_, World.ownsRow.kept h.vo hg (.inr (row_other h.vo h.res (by decide)))⟩, ⟨_, World.ownsRow.kept h.io hg (.inr (row_other h.io h.res (by decide)))⟩, fun x hx => ((h.ki x hx).low (hlow.mono (by omega))).ok, fun x hx => ((h.vi x hx).low (hlow.mono (by omega))).ok, h.ii⟩,
    gb_gr h.gb hg (fun k hk => by have := Option.some.inj hk; omega), h.rs.low hlow⟩

end Go.Proofs.Ytigmibmebockhaa
