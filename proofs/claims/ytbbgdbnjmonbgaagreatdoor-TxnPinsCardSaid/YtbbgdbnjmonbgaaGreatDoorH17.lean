/-
  The node that is being read.
  node's rest.
-/
import Derived.Test.YtbbgdbnjmonbgaaGreatDoorH00
import Derived.Test.YtbbgdbnjmonbgaaGreatDoorH16
import Derived.Deep.CutBlock
import Derived.Deep.CutRange
import Derived.Laws.MakeOwn
set_option linter.unusedVariables false
set_option linter.unusedSimpArgs false
set_option maxRecDepth 100000
namespace Go.Proofs.YtbbgdbnjmonbgaaGreatDoor
open Go.RowKit
theorem gr_pre {w w1 w2 : World} {r : Option Nat} (h : Below w.heap.size w w1) (h' : w1.grownBy w2 r) : w.grownBy w2 r :=
 ⟨h'.os.trans h.os, h'.tape.trans h.tape, h'.output.trans h.output, Nat.le_trans h.size h'.size, fun k hk hne => (h'.block k (Nat.lt_of_lt_of_le hk h.size) hne).trans (h.block k hk)⟩
theorem gr_low {w w' : World} {r : Option Nat} {g : Nat} (h : w.grownBy w' r) (hg : g ≤ w.heap.size) (hr : ∀ k, r = some k → g ≤ k) : Below g w w' :=
 ⟨h.os, h.tape, h.output, h.size, fun k hk => h.block k (by omega) (fun e => by have := hr k e.symm; omega)⟩
theorem gb_gr {w w1 w2 : World} {g : Nat} {r : Option Nat} (h : w.grownBy w1 (some g)) (h' : w1.grownBy w2 r) (hr : ∀ k, r = some k → w.heap.size ≤ k) : w.grownBy w2 (some g) :=
 ⟨h'.os.trans h.os, h'.tape.trans h.tape, h'.output.trans h.output, Nat.le_trans h.size h'.size, fun k hk hne => (h'.block k (Nat.lt_of_lt_of_le hk h.size) (fun e => by have := hr k e.symm; omega)).trans (h.block k hk hne)⟩
structure NSt (w0 w : World) (g A : Nat) (n : Nd) (l : List UInt8) : Prop where
 box : w.heap[A]? = some (.cells #[.bool n.leaf, .slice n.kq n.ks.length n.kc, .slice n.vq n.vs.length n.vc, .slice n.iq n.is.length n.ic] 106 (0, 0))
 res : w.heap[w0.heap.size]? = some (.cells #[.bool false, .slice none 0 0, .slice none 0 0, .slice none 0 0] 106 (0, 0))
 ko : KOwn w w0.heap.size (.slice n.kq n.ks.length n.kc) n.ks
 vo : VOwn w w0.heap.size (.slice n.vq n.vs.length n.vc) n.vs
 io : OwnI w w0.heap.size (.slice n.iq n.is.length n.ic) n.is
 ki : ∀ x ∈ n.ks, KIn w g x
 vi : ∀ x ∈ n.vs, VIn w g x
 ii : ∀ x ∈ n.is, 0 ≤ x ∧ x ≤ 65535
 rs : Rs w g l
 gb : w0.grownBy w (some g)
 glt : g < w0.heap.size
 ra : w0.heap.size < A
theorem NSt.restBox {w0 w : World} {g A : Nat} {n : Nd} {l : List UInt8} (h : NSt w0 w g A n l) : ∃ c f, w.heap[g]? = some (.cells c 235 f) := by
 obtain ⟨p, m, c, hb, _⟩ := h.rs
 exact ⟨_, _, hb⟩
theorem NSt.lt {w0 w : World} {g A : Nat} {n : Nd} {l : List UInt8} (h : NSt w0 w g A n l) : A < w.heap.size := (aL h.box)
theorem NSt.turn {w0 w w' : World} {g A : Nat} {n : Nd} {l l' : List UInt8} (h : NSt w0 w g A n l) {r : Option Nat} (hg : w.grownBy w' r) (h1 : r ≠ some A) (h2 : r ≠ some w0.heap.size)
  (h3 : (Value.slice n.kq n.ks.length n.kc).ownBlock = none ∨ (Value.slice n.kq n.ks.length n.kc).ownBlock ≠ r) (h4 : (Value.slice n.vq n.vs.length n.vc).ownBlock = none ∨ (Value.slice n.vq n.vs.length n.vc).ownBlock ≠ r) (h5 : (Value.slice n.iq n.is.length n.ic).ownBlock = none ∨ (Value.slice n.iq n.is.length n.ic).ownBlock ≠ r)
  (hlow : Below g w w') (hr : Rs w' g l') (hgb : w0.grownBy w' (some g)) : NSt w0 w' g A n l' :=
 ⟨(hg.block A h.lt h1.symm).trans h.box, (hg.block _ (aL h.res) h2.symm).trans h.res, World.ownsRow.kept h.ko hg h3, World.ownsRow.kept h.vo hg h4, World.ownsRow.kept h.io hg h5,
  fun x hx => (h.ki x hx).low hlow, fun x hx => (h.vi x hx).low hlow, h.ii, hr, hgb, h.glt, h.ra⟩
theorem NSt.read {w0 w w' : World} {g A : Nat} {n : Nd} {l l' : List UInt8} (h : NSt w0 w g A n l) (hg : w.grownBy w' (some g)) (hr : Rs w' g l') : NSt w0 w' g A n l' := by
 obtain ⟨c, f, hb⟩ := h.restBox
 have hlt := h.glt
 have hs := h.gb.size
 refine h.turn hg (fun e => by have := Option.some.inj e; have := h.ra; omega) (fun e => by have := Option.some.inj e; omega) (.inr (row_other h.ko hb (by decide))) (.inr (row_other h.vo hb (by decide))) (.inr (row_other h.io hb (by decide))) (gb_low hg (by omega)) hr (gb_trans h.gb hg)
theorem NSt.below {w0 w w' : World} {g A : Nat} {n : Nd} {l : List UInt8} (h : NSt w0 w g A n l) (hb : Below w.heap.size w w') : NSt w0 w' g A n l := by
 have hs := h.gb.size
 have hg := h.glt
 exact h.read (gb_below hb) (h.rs.below hb)
theorem NSt.ne {w0 w : World} {g A size m : Nat} {n : Nd} {l : List UInt8} (h : NSt w0 w g A n l) {e : TypeId} {v : Value} {xs : List Value} (ho : w.ownsRow w0.heap.size e size v m xs) (h1 : 106 ≠ e) (h2 : 235 ≠ e) :
  v.ownBlock ≠ some A ∧ v.ownBlock ≠ some w0.heap.size ∧ v.ownBlock ≠ some g ∧ (∀ k, v.ownBlock = some k → w0.heap.size ≤ k) := by
 obtain ⟨c, f, hb⟩ := h.restBox
 exact ⟨row_other ho h.box h1, row_other ho h.res h1, row_other ho hb h2, fun k hk => (World.ownsRow.lt ho k hk).1⟩
theorem NSt.rest {w0 w w' : World} {g A : Nat} {n : Nd} {l : List UInt8} (h : NSt w0 w g A n l) {r : Option Nat} (hg : w.grownBy w' r) (hne : r ≠ some g) (hlo : ∀ k, r = some k → w0.heap.size ≤ k) : Below g w w' ∧ Rs w' g l ∧ w0.grownBy w' (some g) := by
 have hs := h.gb.size
 have hlt := h.glt
 have hlow : Below (g + 1) w w' := gr_low hg (by omega) (fun k hk => by have := hlo k hk; omega)
 exact ⟨hlow.mono (by omega), h.rs.low hlow, gb_gr h.gb hg hlo⟩
theorem set_ne {w : World} {A k i : Nat} {v : Value} (h : k ≠ A) : (w.setCell ⟨A, i, none⟩ v).heap[k]? = w.heap[k]? := by
 simp [World.setCell, Array.getElem?_modify, Ne.symm h]
theorem gr_set (w : World) (A i : Nat) (v : Value) : w.grownBy (w.setCell ⟨A, i, none⟩ v) (some A) := gb_set (gb_refl w A) i v
theorem NSt.setK {w0 w w1 w2 : World} {g A : Nat} {n : Nd} {l : List UInt8} (h : NSt w0 w g A n l) (hb : Below w.heap.size w w1) {q : Option Addr} {m c : Nat} {x : Kb} (hm : m = (n.ks ++ [x]).length) (ho : KOwn w2 w0.heap.size (.slice q m c) (n.ks ++ [x])) (hg : w1.grownBy w2 (Value.slice n.kq n.ks.length n.kc).ownBlock) (hx : KIn w g x) :
  NSt w0 (w2.setCell ⟨A, 1, none⟩ (.slice q m c)) g A { n with kq := q, kc := c, ks := n.ks ++ [x] } l := by
 have hgw := gr_pre hb hg
 obtain ⟨n1, n2, n3, n4⟩ := h.ne h.ko (by decide) (by decide)
 obtain ⟨r1, r2, r3⟩ := h.rest hgw n3 n4
 have hbox := (hgw.block A h.lt n1.symm).trans h.box
 have hres := (hgw.block _ (aL h.res) n2.symm).trans h.res
 have hvo : VOwn w2 w0.heap.size (.slice n.vq n.vs.length n.vc) n.vs := World.ownsRow.kept h.vo hgw (row_apart h.vo h.ko (by decide))
 have hio : OwnI w2 w0.heap.size (.slice n.iq n.is.length n.ic) n.is := World.ownsRow.kept h.io hgw (row_apart h.io h.ko (by decide))
 have hs := gr_set w2 A 1 (.slice q m c)
 have hra := h.ra
 have hglt := h.glt
 have hlow2 : Below g w2 (w2.setCell ⟨A, 1, none⟩ (.slice q m c)) := (Below.refl _ _).setCell (p := ⟨A, 1, none⟩) (show g ≤ A by omega) _
 have hlow3 : Below (g + 1) w2 (w2.setCell ⟨A, 1, none⟩ (.slice q m c)) := (Below.refl _ _).setCell (p := ⟨A, 1, none⟩) (show g + 1 ≤ A by omega) _
 subst hm
 refine ⟨by simp [World.setCell, Array.getElem?_modify, hbox], by rw [set_ne (by omega)]; exact hres, World.ownsRow.kept ho hs (.inr (row_other ho hbox (by decide))), World.ownsRow.kept hvo hs (.inr (row_other hvo hbox (by decide))), World.ownsRow.kept hio hs (.inr (row_other hio hbox (by decide))), ?_, fun y hy => ((h.vi y hy).low r1).low hlow2, h.ii, r2.low hlow3, gb_gr r3 hs (fun k hk => by have := Option.some.inj hk; omega), hglt, hra⟩
 intro y hy
 rcases List.mem_append.1 hy with hy | hy
 ·
  exact ((h.ki y hy).low r1).low hlow2
 ·
  obtain rfl := List.mem_singleton.1 hy
  exact (hx.low r1).low hlow2
theorem NSt.setV {w0 w w1 w2 : World} {g A : Nat} {n : Nd} {l : List UInt8} (h : NSt w0 w g A n l) (hb : Below w.heap.size w w1) {q : Option Addr} {m c : Nat} {x : Vl} (hm : m = (n.vs ++ [x]).length) (ho : VOwn w2 w0.heap.size (.slice q m c) (n.vs ++ [x])) (hg : w1.grownBy w2 (Value.slice n.vq n.vs.length n.vc).ownBlock) (hx : VIn w g x) :
  NSt w0 (w2.setCell ⟨A, 2, none⟩ (.slice q m c)) g A { n with vq := q, vc := c, vs := n.vs ++ [x] } l := by
 have hgw := gr_pre hb hg
 obtain ⟨n1, n2, n3, n4⟩ := h.ne h.vo (by decide) (by decide)
 obtain ⟨r1, r2, r3⟩ := h.rest hgw n3 n4
 have hbox := (hgw.block A h.lt n1.symm).trans h.box
 have hres := (hgw.block _ (aL h.res) n2.symm).trans h.res
 have hvo : KOwn w2 w0.heap.size (.slice n.kq n.ks.length n.kc) n.ks := World.ownsRow.kept h.ko hgw (row_apart h.ko h.vo (by decide))
 have hio : OwnI w2 w0.heap.size (.slice n.iq n.is.length n.ic) n.is := World.ownsRow.kept h.io hgw (row_apart h.io h.vo (by decide))
 have hs := gr_set w2 A 2 (.slice q m c)
 have hra := h.ra
 have hglt := h.glt
 have hlow2 : Below g w2 (w2.setCell ⟨A, 2, none⟩ (.slice q m c)) := (Below.refl _ _).setCell (p := ⟨A, 2, none⟩) (show g ≤ A by omega) _
 have hlow3 : Below (g + 1) w2 (w2.setCell ⟨A, 2, none⟩ (.slice q m c)) := (Below.refl _ _).setCell (p := ⟨A, 2, none⟩) (show g + 1 ≤ A by omega) _
 subst hm
 refine ⟨by simp [World.setCell, Array.getElem?_modify, hbox], by rw [set_ne (by omega)]; exact hres, World.ownsRow.kept hvo hs (.inr (row_other hvo hbox (by decide))), World.ownsRow.kept ho hs (.inr (row_other ho hbox (by decide))), World.ownsRow.kept hio hs (.inr (row_other hio hbox (by decide))), fun y hy => ((h.ki y hy).low r1).low hlow2, ?_, h.ii, r2.low hlow3, gb_gr r3 hs (fun k hk => by have := Option.some.inj hk; omega), hglt, hra⟩
 intro y hy
 rcases List.mem_append.1 hy with hy | hy
 ·
  exact ((h.vi y hy).low r1).low hlow2
 ·
  obtain rfl := List.mem_singleton.1 hy
  exact (hx.low r1).low hlow2
theorem NSt.setI {w0 w w1 w2 : World} {g A : Nat} {n : Nd} {l : List UInt8} (h : NSt w0 w g A n l) (hb : Below w.heap.size w w1) {q : Option Addr} {m c : Nat} {x : Int} (hm : m = (n.is ++ [x]).length) (ho : OwnI w2 w0.heap.size (.slice q m c) (n.is ++ [x])) (hg : w1.grownBy w2 (Value.slice n.iq n.is.length n.ic).ownBlock) (hx : 0 ≤ x ∧ x ≤ 65535) :
  NSt w0 (w2.setCell ⟨A, 3, none⟩ (.slice q m c)) g A { n with iq := q, ic := c, is := n.is ++ [x] } l := by
 have hgw := gr_pre hb hg
 obtain ⟨n1, n2, n3, n4⟩ := h.ne h.io (by decide) (by decide)
 obtain ⟨r1, r2, r3⟩ := h.rest hgw n3 n4
 have hbox := (hgw.block A h.lt n1.symm).trans h.box
 have hres := (hgw.block _ (aL h.res) n2.symm).trans h.res
 have hvo : KOwn w2 w0.heap.size (.slice n.kq n.ks.length n.kc) n.ks := World.ownsRow.kept h.ko hgw (row_apart h.ko h.io (by decide))
 have hio : VOwn w2 w0.heap.size (.slice n.vq n.vs.length n.vc) n.vs := World.ownsRow.kept h.vo hgw (row_apart h.vo h.io (by decide))
 have hs := gr_set w2 A 3 (.slice q m c)
 have hra := h.ra
 have hglt := h.glt
 have hlow2 : Below g w2 (w2.setCell ⟨A, 3, none⟩ (.slice q m c)) := (Below.refl _ _).setCell (p := ⟨A, 3, none⟩) (show g ≤ A by omega) _
 have hlow3 : Below (g + 1) w2 (w2.setCell ⟨A, 3, none⟩ (.slice q m c)) := (Below.refl _ _).setCell (p := ⟨A, 3, none⟩) (show g + 1 ≤ A by omega) _
 subst hm
 refine ⟨by simp [World.setCell, Array.getElem?_modify, hbox], by rw [set_ne (by omega)]; exact hres, World.ownsRow.kept hvo hs (.inr (row_other hvo hbox (by decide))), World.ownsRow.kept hio hs (.inr (row_other hio hbox (by decide))), World.ownsRow.kept ho hs (.inr (row_other ho hbox (by decide))), fun y hy => ((h.ki y hy).low r1).low hlow2, fun y hy => ((h.vi y hy).low r1).low hlow2, ?_, r2.low hlow3, gb_gr r3 hs (fun k hk => by have := Option.some.inj hk; omega), hglt, hra⟩
 intro y hy
 rcases List.mem_append.1 hy with hy | hy
 ·
  exact h.ii y hy
 ·
  obtain rfl := List.mem_singleton.1 hy
  exact hx
theorem NSt.cells {w0 w : World} {g A : Nat} {n : Nd} {l : List UInt8} (h : NSt w0 w g A n l) : (w.cell? ⟨A, 0, none⟩ = some (.bool n.leaf) ∧ w.cell? ⟨A, 1, none⟩ = some (.slice n.kq n.ks.length n.kc) ∧ w.cell? ⟨A, 2, none⟩ = some (.slice n.vq n.vs.length n.vc) ∧ w.cell? ⟨A, 3, none⟩ = some (.slice n.iq n.is.length n.ic)) ∧ ∀ i, w.frozen? ⟨A, i, none⟩ = false :=
 ⟨⟨jC h.box 0, jC h.box 1, jC h.box 2, jC h.box 3⟩, fun i => jU h.box i⟩
structure NOwn (w : World) (n : Nd) : Prop where
 ko : ∃ B, KOwn w B (.slice n.kq n.ks.length n.kc) n.ks
 vo : ∃ B, VOwn w B (.slice n.vq n.vs.length n.vc) n.vs
 io : ∃ B, OwnI w B (.slice n.iq n.is.length n.ic) n.is
 ki : ∀ x ∈ n.ks, x.Ok w ∧ x.Ty w
 vi : ∀ x ∈ n.vs, x.Ok w ∧ x.Ty w
 ii : ∀ x ∈ n.is, 0 ≤ x ∧ x ≤ 65535
theorem NOwn.ok {w : World} {n : Nd} (h : NOwn w n) : n.Ok w := by
 obtain ⟨_, ko⟩ := h.ko
 obtain ⟨_, vo⟩ := h.vo
 obtain ⟨_, io⟩ := h.io
 obtain ⟨q1, c1, e1, a1, a2, a3, _⟩ := row_form ko
 obtain ⟨q2, c2, e2, b1, b2, b3, _⟩ := row_form vo
 obtain ⟨q3, c3, e3, d1, d2, d3, _⟩ := row_form io
 cases e1
 cases e2
 cases e3
 have hil : Ks w n.iq n.is := by
  obtain ⟨q, c, e, hk⟩ := io.form
  cases e
  exact hk
 exact ⟨a1, a2, a3, kown_lie ko, (fun x hx => (h.ki x hx).1), b1, b2, b3, vown_lie vo, (fun x hx => (h.vi x hx).1), d1, d2, d3, hil, fun x hx => by have := h.ii x hx; omega⟩
theorem row_below {w w' : World} {B size n : Nat} {e : TypeId} {v : Value} {xs : List Value} (h : w.ownsRow B e size v n xs) (hb : Below w.heap.size w w') : w'.ownsRow B e size v n xs := by
 refine ⟨h.1, ?_⟩
 rcases h.2 with h0 | ⟨g, cap, cur, hv, h1, hg, h2⟩
 ·
  exact .inl h0
 ·
  exact .inr ⟨g, cap, cur, hv, h1, by rw [hb.block g (aL hg)]; exact hg, h2⟩
theorem NOwn.below {w w' : World} {n : Nd} (h : NOwn w n) (hb : Below w.heap.size w w') : NOwn w' n := by
 obtain ⟨_, ko⟩ := h.ko
 obtain ⟨_, vo⟩ := h.vo
 obtain ⟨_, io⟩ := h.io
 exact ⟨⟨_, row_below ko hb⟩, ⟨_, row_below vo hb⟩, ⟨_, row_below io hb⟩, fun x hx => ⟨(h.ki x hx).1.below hb, fun a ha => ((h.ki x hx).2 a ha).below hb⟩, fun x hx => ⟨(h.vi x hx).1.below hb, fun a ha => ((h.vi x hx).2 a ha).below hb⟩, h.ii⟩
def RBox (w : World) (R : Nat) : Prop := w.heap[R]? = some (.cells #[.bool false, .slice none 0 0, .slice none 0 0, .slice none 0 0] 106 (0, 0))
theorem RBox.cells {w : World} {R : Nat} (h : RBox w R) : (w.cell? ⟨R, 0, none⟩ = some (.bool false) ∧ w.cell? ⟨R, 1, none⟩ = some (.slice none 0 0) ∧ w.cell? ⟨R, 2, none⟩ = some (.slice none 0 0) ∧ w.cell? ⟨R, 3, none⟩ = some (.slice none 0 0)) ∧ (w.frozen? ⟨R, 0, none⟩ = false ∧ w.frozen? ⟨R, 1, none⟩ = false ∧ w.frozen? ⟨R, 2, none⟩ = false ∧ w.frozen? ⟨R, 3, none⟩ = false) ∧ R < w.heap.size :=
 ⟨⟨jC h 0, jC h 1, jC h 2, jC h 3⟩, ⟨jU h 0, jU h 1, jU h 2, jU h 3⟩, (aL h)⟩
theorem RBox.no {w : World} {R o : Nat} {x : Int} (h : RBox w R) : w.cell? ⟨R, o, none⟩ ≠ some (.int .u8 x) := by
 rw [jC h o]
 match o with
 | 0 => intro e; cases e
 | 1 => intro e; cases e
 | 2 => intro e; cases e
 | 3 => intro e; cases e
 | o + 4 => intro e; simp at e
theorem RBox.bs {w w' : World} {R : Nat} (h : RBox w R) (hg : w.grownBy w' (some R)) {q : Option Addr} {l : List UInt8} (hb : Bs w q l) : Bs w' q l := by
 intro hne
 obtain ⟨b, o, hq, hc⟩ := hb hne
 refine ⟨b, o, hq, fun i u hi => ?_⟩
 have h1 := hc i u hi
 have hbR : b ≠ R := fun e => by subst e; exact h.no h1
 rw [World.cell?_of_block (hg.block b (World.block_lt_of_cell? _ _ h1) (fun e => hbR (Option.some.inj e)))]
 exact h1
theorem RBox.u8 {w w' : World} {R : Nat} (h : RBox w R) (hg : w.grownBy w' (some R)) {b : Nat} (hb : U8 w b) : U8 w' b := by
 obtain ⟨c, f, hb⟩ := hb
 have hne : b ≠ R := fun e => by
  subst e
  rw [h] at hb
  injection hb with hb
  injection hb with _ h2 _
  exact absurd h2 (by decide)
 exact ⟨c, f, by rw [hg.block b (aL hb) (fun e => hne (Option.some.inj e))]; exact hb⟩
theorem NOwn.off {w w' : World} {n : Nd} (h : NOwn w n) {R : Nat} (hR : RBox w R) (hg : w.grownBy w' (some R)) : NOwn w' n := by
 obtain ⟨_, ko⟩ := h.ko
 obtain ⟨_, vo⟩ := h.vo
 obtain ⟨_, io⟩ := h.io
 exact ⟨⟨_, World.ownsRow.kept ko hg (.inr (row_other ko hR (by decide)))⟩, ⟨_, World.ownsRow.kept vo hg (.inr (row_other vo hR (by decide)))⟩, ⟨_, World.ownsRow.kept io hg (.inr (row_other io hR (by decide)))⟩,
  fun x hx => ⟨⟨hR.bs hg (h.ki x hx).1.bs, (h.ki x hx).1.h1, (h.ki x hx).1.h2, (h.ki x hx).1.z⟩, fun a ha => hR.u8 hg ((h.ki x hx).2 a ha)⟩, fun x hx => ⟨⟨hR.bs hg (h.vi x hx).1.bs, (h.vi x hx).1.h1, (h.vi x hx).1.h2, (h.vi x hx).1.z, (h.vi x hx).1.g1, (h.vi x hx).1.g2, (h.vi x hx).1.p1, (h.vi x hx).1.p2⟩, fun a ha => hR.u8 hg ((h.vi x hx).2 a ha)⟩, h.ii⟩
theorem NSt.resCells {w0 w : World} {g A : Nat} {n : Nd} {l : List UInt8} (h : NSt w0 w g A n l) : (w.cell? ⟨w0.heap.size, 0, none⟩ = some (.bool false) ∧ w.cell? ⟨w0.heap.size, 1, none⟩ = some (.slice none 0 0) ∧ w.cell? ⟨w0.heap.size, 2, none⟩ = some (.slice none 0 0) ∧ w.cell? ⟨w0.heap.size, 3, none⟩ = some (.slice none 0 0)) ∧ (w.frozen? ⟨w0.heap.size, 0, none⟩ = false ∧ w.frozen? ⟨w0.heap.size, 1, none⟩ = false ∧ w.frozen? ⟨w0.heap.size, 2, none⟩ = false ∧ w.frozen? ⟨w0.heap.size, 3, none⟩ = false) ∧ w0.heap.size < w.heap.size :=
 ⟨⟨jC h.res 0, jC h.res 1, jC h.res 2, jC h.res 3⟩, ⟨jU h.res 0, jU h.res 1, jU h.res 2, jU h.res 3⟩, (aL h.res)⟩
theorem ndSet4 {w : World} {R : Nat} {x y z u a b c d : Value} {t : TypeId} (h : w.heap[R]? = some (.cells #[x, y, z, u] t (0, 0))) :
  ((((w.setCell ⟨R, 0, none⟩ a).setCell ⟨R, 1, none⟩ b).setCell ⟨R, 2, none⟩ c).setCell ⟨R, 3, none⟩ d).heap[R]? = some (.cells #[a, b, c, d] t (0, 0)) := by
 simp [World.setCell, Array.getElem?_modify, h]
theorem gb4 (w : World) (R : Nat) (a b c d : Value) : w.grownBy ((((w.setCell ⟨R, 0, none⟩ a).setCell ⟨R, 1, none⟩ b).setCell ⟨R, 2, none⟩ c).setCell ⟨R, 3, none⟩ d) (some R) :=
 gb_set (gb_set (gb_set (gb_set (gb_refl w R) 0 a) 1 b) 2 c) 3 d
theorem NSt.done {w0 w w' : World} {g A : Nat} {n : Nd} {l : List UInt8} (h : NSt w0 w g A n l) (hg : w.grownBy w' (some w0.heap.size)) : NOwn w' n ∧ w0.grownBy w' (some g) ∧ Rs w' g l := by
 have hglt := h.glt
 have hs := h.gb.size
 have hlow : Below (g + 1) w w' := gr_low hg (by omega) (fun k hk => by have := Option.some.inj hk; omega)
 exact ⟨⟨⟨_, World.ownsRow.kept h.ko hg (.inr (row_other h.ko h.res (by decide)))⟩, ⟨_, World.ownsRow.kept h.vo hg (.inr (row_other h.vo h.res (by decide)))⟩, ⟨_, World.ownsRow.kept h.io hg (.inr (row_other h.io h.res (by decide)))⟩, fun x hx => ⟨((h.ki x hx).low (hlow.mono (by omega))).ok, ((h.ki x hx).low (hlow.mono (by omega))).ty⟩, fun x hx => ⟨((h.vi x hx).low (hlow.mono (by omega))).ok, ((h.vi x hx).low (hlow.mono (by omega))).ty⟩, h.ii⟩,
  gb_gr h.gb hg (fun k hk => by have := Option.some.inj hk; omega), h.rs.low hlow⟩
end Go.Proofs.YtbbgdbnjmonbgaaGreatDoor

set_option linter.unusedVariables false
set_option linter.unusedSimpArgs false
set_option maxRecDepth 100000
namespace Go.Proofs.YtbbgdbnjmonbgaaGreatDoor
open Go.RowKit
def rdL : Nat → List UInt8 → List (List UInt8 × VlS)
 | 0, _ => []
 | m + 1, l => if l.isEmpty then [] else ((textR l).1, (valR (textR l).2).1) :: rdL m (valR (textR l).2).2
def leafS (l : List UInt8) : NdS := ⟨true, (rdL (leN (l.take 1)) (l.drop 1)).map Prod.fst, (rdL (leN (l.take 1)) (l.drop 1)).map Prod.snd, []⟩
theorem makeK (m : Nat) (hm : m ≤ 255) : ∃ Z : Array Value, (∀ w : World, (Instr.makeSlice 103 (.int .i64 0) (.int .i64 (m : Int))).run Tryz.prog w = .ok (.slice (some ⟨w.heap.size, 0, none⟩) 0 m) (w.alloc (.cells Z 33))) ∧
  ∀ (w : World) (k B : Nat), B ≤ k → w.heap[k]? = some (.cells Z 33 (0, 0)) → KOwn w B (.slice (some ⟨k, 0, none⟩) 0 m) [] := by
 obtain ⟨i, hi, hz0, hz1, hz2⟩ := info_parts info_key
 refine ⟨_, fun w => (run_makeSlice (P := Tryz.prog) (w := w) 103 33 i _ Tryz.underlying103 hi hz0 .i64 .i64 0 (m : Int) (by omega) (by omega) (by rw [hz1]; omega) (by rw [hz2]; omega) (by omega)).trans rfl, fun w k B hB hk => ?_⟩
 refine ⟨rfl, .inr ⟨k, m, _, rfl, hB, hk, Nat.zero_le _, by unfold maxLen; omega, ?_, rfl⟩⟩
 rw [hz1]
 simp [madeCells, Value.cells]
theorem makeV (m : Nat) (hm : m ≤ 255) : ∃ Z : Array Value, (∀ w : World, (Instr.makeSlice 104 (.int .i64 0) (.int .i64 (m : Int))).run Tryz.prog w = .ok (.slice (some ⟨w.heap.size, 0, none⟩) 0 m) (w.alloc (.cells Z 108))) ∧
  ∀ (w : World) (k B : Nat), B ≤ k → w.heap[k]? = some (.cells Z 108 (0, 0)) → VOwn w B (.slice (some ⟨k, 0, none⟩) 0 m) [] := by
 obtain ⟨i, hi, hz0, hz1, hz2⟩ := info_parts info_val
 refine ⟨_, fun w => (run_makeSlice (P := Tryz.prog) (w := w) 104 108 i _ Tryz.underlying104 hi hz0 .i64 .i64 0 (m : Int) (by omega) (by omega) (by rw [hz1]; omega) (by rw [hz2]; omega) (by omega)).trans rfl, fun w k B hB hk => ?_⟩
 refine ⟨rfl, .inr ⟨k, m, _, rfl, hB, hk, Nat.zero_le _, by unfold maxLen; omega, ?_, rfl⟩⟩
 rw [hz1]
 simp [madeCells, Value.cells]
theorem makeI (m : Nat) (hm : m ≤ 256) : ∃ Z : Array Value, (∀ w : World, (Instr.makeSlice 22 (.int .i64 0) (.int .i64 (m : Int))).run Tryz.prog w = .ok (.slice (some ⟨w.heap.size, 0, none⟩) 0 m) (w.alloc (.cells Z 3))) ∧
  ∀ (w : World) (k B : Nat), B ≤ k → w.heap[k]? = some (.cells Z 3 (0, 0)) → OwnI w B (.slice (some ⟨k, 0, none⟩) 0 m) [] := by
 obtain ⟨i, hi, hz0, hz1, hz2⟩ := info_parts info_int
 refine ⟨_, fun w => (run_makeSlice (P := Tryz.prog) (w := w) 22 3 i _ Tryz.underlying22 hi hz0 .i64 .i64 0 (m : Int) (by omega) (by omega) (by rw [hz1]; omega) (by rw [hz2]; omega) (by omega)).trans rfl, fun w k B hB hk => ?_⟩
 refine ⟨rfl, .inr ⟨k, m, _, rfl, hB, hk, Nat.zero_le _, by unfold maxLen; omega, ?_, rfl⟩⟩
 rw [hz1]
 simp [madeCells, Value.cells]
def lenAt (w : World) (A : Nat) : Nat := match w.cell? ⟨A, 1, none⟩ with | some (.slice _ n _) => n | _ => 0
theorem NSt.start {w0 w w' : World} {g A : Nat} {n : Nd} {l : List UInt8} (hs : w0.heap.size < w.heap.size) (hb : Below w.heap.size w w') (hR : w.heap[w0.heap.size]? = some (.cells #[.bool false, .slice none 0 0, .slice none 0 0, .slice none 0 0] 106 (0, 0))) (hr : Rs w g l) (hg : w0.grownBy w (some g)) (hgl : g < w0.heap.size)
  (hA : w.heap.size ≤ A) (hbox : w'.heap[A]? = some (.cells #[.bool n.leaf, .slice n.kq n.ks.length n.kc, .slice n.vq n.vs.length n.vc, .slice n.iq n.is.length n.ic] 106 (0, 0)))
  (hk : KOwn w' w0.heap.size (.slice n.kq n.ks.length n.kc) n.ks) (hv : VOwn w' w0.heap.size (.slice n.vq n.vs.length n.vc) n.vs) (hi : OwnI w' w0.heap.size (.slice n.iq n.is.length n.ic) n.is) (h1 : n.ks = []) (h2 : n.vs = []) (h3 : n.is = []) : NSt w0 w' g A n l :=
 ⟨hbox, (hb.block _ hs).trans hR, hk, hv, hi, by rw [h1]; simp, by rw [h2]; simp, by rw [h3]; simp, hr.below hb, gb_gr hg (gr_pre hb ⟨rfl, rfl, rfl, Nat.le_refl _, fun _ _ _ => rfl⟩ : w.grownBy w' none) (fun k hk => by cases hk), hgl, by omega⟩
structure LfInv (m : Nat) (d : List UInt8) (n : Nd) (l : List UInt8) : Prop where
 leaf : n.leaf = true
 is : n.is = []
 le : n.ks.length ≤ m
 vk : n.vs.length = n.ks.length
 ks : n.ks.map Kb.l ++ (rdL (m - n.ks.length) l).map Prod.fst = (rdL m d).map Prod.fst
 vs : n.vs.map Vl.s ++ (rdL (m - n.ks.length) l).map Prod.snd = (rdL m d).map Prod.snd
 len : l.length ≤ 100000
theorem rdL_more {m j : Nat} {l : List UInt8} (hj : j < m) (hl : l ≠ []) : rdL (m - j) l = ((textR l).1, (valR (textR l).2).1) :: rdL (m - (j + 1)) (valR (textR l).2).2 := by
 rw [show m - j = (m - (j + 1)) + 1 by omega, rdL, if_neg (by simpa using hl)]
theorem rdL_end {m j : Nat} {l : List UInt8} (h : m ≤ j ∨ l = []) : rdL (m - j) l = [] := by
 rcases h with h | h
 ·
  rw [show m - j = 0 by omega]; rfl
 ·
  subst h
  cases m - j <;> rfl
theorem textR_len (l : List UInt8) : (textR l).2.length ≤ l.length := by unfold textR; simp only [List.length_drop]; omega
theorem valR_len (l : List UInt8) : (valR l).2.length ≤ l.length := by unfold valR; split <;> simp only [List.length_drop] <;> omega
theorem LfInv.step {m : Nat} {d l : List UInt8} {n n2 : Nd} (h : LfInv m d n l) (hj : n.ks.length < m) (hl : 0 < l.length) {x : Kb} {y : Vl} (h1 : n2.leaf = n.leaf) (h2 : n2.is = n.is) (h3 : n2.ks = n.ks ++ [x]) (h4 : n2.vs = n.vs ++ [y]) (hx : x.l = (textR l).1) (hy : y.s = (valR (textR l).2).1) : LfInv m d n2 (valR (textR l).2).2 := by
 have hm := rdL_more (l := l) hj (fun e => by subst e; simp at hl)
 have hks := h.ks
 have hvs := h.vs
 rw [hm] at hks hvs
 refine ⟨h1.trans h.leaf, h2.trans h.is, by rw [h3, List.length_append]; simp only [List.length_singleton]; omega, by rw [h3, h4, List.length_append, List.length_append, h.vk]; rfl, ?_, ?_, Nat.le_trans (valR_len _) (Nat.le_trans (textR_len _) h.len)⟩
 ·
  rw [h3, ← hks, List.map_append, List.length_append]
  simp [hx]
 ·
  rw [h3, h4, ← hvs, List.map_append, List.length_append]
  simp [hy]
theorem leaf_end {m : Nat} {d l : List UInt8} {n : Nd} (h : LfInv m d n l) (hE : rdL (m - n.ks.length) l = []) : n.s = ⟨true, (rdL m d).map Prod.fst, (rdL m d).map Prod.snd, []⟩ := by
 have h1 := h.ks
 have h2 := h.vs
 rw [hE] at h1 h2
 simp only [List.map_nil, List.append_nil] at h1 h2
 unfold Nd.s
 rw [h.leaf, h.is, h1, h2]
def NodePost (w : World) (g : Nat) (s : NdS) (e : Ending) (w' : World) : Prop := ∃ n : Nd, e = .returned n.cell ∧ n.s = s ∧ NOwn w' n ∧ w.grownBy w' (some g)
theorem NSt.boxAt {w0 w w1 w2 : World} {g A size m : Nat} {n : Nd} {l : List UInt8} (h : NSt w0 w g A n l) (hb : Below w.heap.size w w1) {e : TypeId} {v : Value} {xs : List Value} (ho : w.ownsRow w0.heap.size e size v m xs) (h1 : 106 ≠ e) (h2 : 235 ≠ e) (hg : w1.grownBy w2 v.ownBlock) :
  w2.heap[A]? = some (.cells #[.bool n.leaf, .slice n.kq n.ks.length n.kc, .slice n.vq n.vs.length n.vc, .slice n.iq n.is.length n.ic] 106 (0, 0)) :=
 ((gr_pre hb hg).block A h.lt (h.ne ho h1 h2).1.symm).trans h.box
set_option maxHeartbeats 3200000 in
theorem leaf_any {w : World} {g : Nat} {l : List UInt8} (h : Rs w g l) (hl : l.length ≤ 100000) :
  Calls Tryz.prog 166 #[.pointer (some ⟨g, 0, none⟩)] w (NodePost w g (leafS l)) := by
 have hlt := h.lt
 obtain ⟨W, hW⟩ : ∃ W, W = w.alloc (.cells #[.bool false, .slice none 0 0, .slice none 0 0, .slice none 0 0] 106) := ⟨_, rfl⟩
 have HBW : Hid (Below w.heap.size w W) := Hq (by rw [hW]; exact (Below.refl _ _).alloc (Nat.le_refl _) _)
 have HRES : Hid (W.heap[w.heap.size]? = some (.cells #[.bool false, .slice none 0 0, .slice none 0 0, .slice none 0 0] 106 (0, 0))) := Hq (by rw [hW]; exact heap_alloc_new w _)
 have HR0 := Hq (h.below HBW.out)
 have HN := Hq (number_any HR0.out hl 1 (by omega))
 have h255 := leN_one l
 unfold leafS
 have hd : (l.drop 1).length ≤ 100000 := by rw [List.length_drop]; omega
 generalize leN (l.take 1) = m at *
 generalize l.drop 1 = d at *
 clear h hl
 obtain ⟨Z1, hm1, ho1⟩ := makeK m (by omega)
 obtain ⟨Z2, hm2, ho2⟩ := makeV m (by omega)
 have HO1 := Hq ho1
 have HO2 := Hq ho2
 clear ho1 ho2
 go_enter Tryz.func166, Tryz.ntmps166
 go_wp2_with fail
 rw [← hW]
 replace hW := Hq hW
 refine HN.out.mono ?_
 rintro e w1 ⟨rfl, hr, hg⟩
 have HR1 := Hq hr
 have HG1 := Hq (gb_trans (gb_below HBW.out) hg)
 have HRES1 : Hid (w1.heap[w.heap.size]? = some (.cells #[.bool false, .slice none 0 0, .slice none 0 0, .slice none 0 0] 106 (0, 0))) := Hq ((hg.block _ (aL HRES.out) (fun e => by have := Option.some.inj e; omega)).trans HRES.out)
 clear hr hg HN
 go_wp2_with fail
 have hs1 : w.heap.size < w1.heap.size := (aL HRES1.out)
 have HS1 := Hq hs1
 go_cut [4] from 7 to 11 (fun x4 wx => ∃ (A k1 k2 : Nat), x4 = .pointer (some ⟨A, 0, none⟩) ∧ NSt w wx g A ⟨true, some ⟨k1, 0, none⟩, m, [], some ⟨k2, 0, none⟩, m, [], none, 0, []⟩ d)
 case first =>
  have HST : Hid (∀ (w' : World) (A k1 k2 : Nat), Below w1.heap.size w1 w' → w1.heap.size ≤ A → w1.heap.size ≤ k1 → w1.heap.size ≤ k2 → w'.heap[k1]? = some (.cells Z1 33 (0, 0)) → w'.heap[k2]? = some (.cells Z2 108 (0, 0)) →
    w'.heap[A]? = some (.cells #[.bool true, .slice (some ⟨k1, 0, none⟩) 0 m, .slice (some ⟨k2, 0, none⟩) 0 m, .slice none 0 0] 106 (0, 0)) → NSt w w'.drew g A ⟨true, some ⟨k1, 0, none⟩, m, [], some ⟨k2, 0, none⟩, m, [], none, 0, []⟩ d) := Hq fun w' A k1 k2 hb hA hk1 hk2 h1 h2 h3 =>
   NSt.start hs1 hb.drew HRES1.out HR1.out HG1.out hlt hA h3 (HO1.out w'.drew k1 _ (by omega) h1) (HO2.out w'.drew k2 _ (by omega) h2) (OwnI.nil _ _) rfl rfl rfl
  go_region
  all_goals
   go_wp2_with fail
   go_meet
   first
    | exact ⟨_, _, _, rfl, HST.out _ _ _ _ (boxes3 w1 _ _ _ _ _ _).2.2.2.1 (by omega) (by omega) (by omega) (boxes3 w1 _ _ _ _ _ _).1 (boxes3 w1 _ _ _ _ _ _).2.1 (boxes3 w1 _ _ _ _ _ _).2.2.1⟩
    | exact ⟨_, _, _, rfl, HST.out _ _ _ _ (boxes3 w1 _ _ _ _ _ _).2.2.2.1 (by omega) (by omega) (by omega) (boxes3 w1 _ _ _ _ _ _).1 (boxes3 w1 _ _ _ _ _ _).2.2.1 (boxes3 w1 _ _ _ _ _ _).2.1⟩
    | exact ⟨_, _, _, rfl, HST.out _ _ _ _ (boxes3 w1 _ _ _ _ _ _).2.2.2.1 (by omega) (by omega) (by omega) (boxes3 w1 _ _ _ _ _ _).2.1 (boxes3 w1 _ _ _ _ _ _).1 (boxes3 w1 _ _ _ _ _ _).2.2.1⟩
    | exact ⟨_, _, _, rfl, HST.out _ _ _ _ (boxes3 w1 _ _ _ _ _ _).2.2.2.1 (by omega) (by omega) (by omega) (boxes3 w1 _ _ _ _ _ _).2.1 (boxes3 w1 _ _ _ _ _ _).2.2.1 (boxes3 w1 _ _ _ _ _ _).1⟩
    | exact ⟨_, _, _, rfl, HST.out _ _ _ _ (boxes3 w1 _ _ _ _ _ _).2.2.2.1 (by omega) (by omega) (by omega) (boxes3 w1 _ _ _ _ _ _).2.2.1 (boxes3 w1 _ _ _ _ _ _).1 (boxes3 w1 _ _ _ _ _ _).2.1⟩
    | exact ⟨_, _, _, rfl, HST.out _ _ _ _ (boxes3 w1 _ _ _ _ _ _).2.2.2.1 (by omega) (by omega) (by omega) (boxes3 w1 _ _ _ _ _ _).2.2.1 (boxes3 w1 _ _ _ _ _ _).2.1 (boxes3 w1 _ _ _ _ _ _).1⟩
    | fail
 case rest =>
  obtain ⟨A, k1, k2, rfl, hst⟩ := hcut
  have HST := Hq hst
  clear hst hm1 hm2 HO1 HO2
  have HLI : Hid (LfInv m d ⟨true, some ⟨k1, 0, none⟩, m, [], some ⟨k2, 0, none⟩, m, [], none, 0, []⟩ d) := Hq ⟨rfl, rfl, Nat.zero_le _, rfl, rfl, rfl, hd⟩
  go_wp2_with fail
  go_loopw [12] (fun _ wr => ∃ n l', NSt w wr g A n l' ∧ LfInv m d n l') (fun _ wr => m - lenAt wr A)
  case atStart => exact ⟨_, _, HST.out, HLI.out⟩
  case round =>
   clear HST HLI
   obtain ⟨n, l', hst, hli⟩ := hrel
   have HST := Hq hst
   have HLI := Hq hli
   obtain ⟨⟨c0, c1, c2, c3⟩, fz⟩ := hst.cells
   have hA := hst.lt
   have HLA : Hid (lenAt wr A = n.ks.length) := Hq (by unfold lenAt; rw [c1])
   obtain ⟨rp, rn, rc, rb, rbs, rhn, rh1, rh2, rhz, _⟩ := hst.rs
   have d0 : wr.cell? ⟨g, 0, none⟩ = some (.slice rp rn rc) := jC rb 0
   have hgw := hst.rs.lt
   have HRN := Hq rhn
   have hkf := row_form hst.ko
   have hle := hli.le
   have hvk := hli.vk
   obtain ⟨_, _, hke, hk1, hk2, _⟩ := hkf
   cases hke
   obtain ⟨j, hj⟩ : ∃ j, j = n.ks.length := ⟨_, rfl⟩
   have HJ := Hq hj
   rw [← hj] at c1 hk1 hle hvk
   rw [hvk] at c2
   clear hst hli rb rbs rhn hvk hj
   by_cases hjm : j < m
   ·
    by_cases hrn : 0 < rn
    ·
     have HTX := Hq (text_any (w := wr.drew) (HST.out.below (Below.refl _ _).drew).rs HLI.out.len)
     have HLT2 := Hq (textR_len l')
     go_wp2_with fail
     go_cut [25] from 26 to 31 (fun _ wx => ∃ (x : Kb) (n2 : Nd), x.l = (textR l').1 ∧ n2.ks = n.ks ++ [x] ∧ n2.vs = n.vs ∧ n2.is = n.is ∧ n2.leaf = n.leaf ∧ NSt w wx g A n2 (textR l').2)
     case first =>
      go_region_law (first
       | (go_simp; go_at_call 186; (with_reducible refine HTX.out.mono ?_); rintro e w2 ⟨x, rfl, hxl, hki, hr2, hg2⟩; have HXL := Hq hxl; have HKI := Hq hki; have HST2 := Hq ((HST.out.below (Below.refl _ _).drew).read hg2 hr2); have c1b := HST2.out.cells.1.2.1; rw [← HJ.out] at c1b; have hA2 := HST2.out.lt; have HKO : Hid (KOwn w2 w.heap.size (.slice n.kq j n.kc) n.ks) := Hq (by rw [HJ.out]; exact HST2.out.ko); clear hxl hki hr2 hg2)
       | (refine step_appK rfl (.tmp 26) (.tmp 29) rfl x rfl (World.ownsRow.alloc HKO.out _) rfl ((jC (heap_alloc_new w2 _) 0).trans rfl) (by rw [← HJ.out]; omega) (by have := HST2.out.gb.size; simp; omega) ?_; intro q3 n3 c3' w3 hn3 ho3 hg3; have HST3 := Hq (HST2.out.setK ((Below.refl _ _).alloc (Nat.le_refl _) _) hn3 ho3 (by rw [← HJ.out]; exact hg3) HKI.out); have hb3 := HST2.out.boxAt ((Below.refl _ _).alloc (Nat.le_refl _) _) HKO.out (by decide) (by decide) hg3; have z1 := (jC hb3 1).trans rfl; have y1 := jU hb3 1; have hA3 := (aL hb3); clear hn3 ho3 hg3 hb3)
       | fail)
      all_goals
       go_wp2_with fail
       go_meet
       exact ⟨x, { n with kq := q3, kc := c3', ks := n.ks ++ [x] }, HXL.out, rfl, rfl, rfl, rfl, HST3.out⟩
     case rest =>
      obtain ⟨x, n2, hxl, hn1, hn2, hn3, hn4, hst⟩ := hcut
      have HXL := Hq hxl
      have HN1 := Hq hn1
      have HN2 := Hq hn2
      have HN3 := Hq hn3
      have HN4 := Hq hn4
      have HST2 := Hq hst
      obtain ⟨⟨e0, e1, e2, e3⟩, fz2⟩ := hst.cells
      have hA2 := hst.lt
      obtain ⟨i, hi⟩ : ∃ i, i = n2.vs.length := ⟨_, rfl⟩
      have HI := Hq hi
      have hi255 : i ≤ 255 := by rw [hi, hn2]; have := HLI.out.vk; have := HJ.out; omega
      rw [← hi] at e2
      have HVL := Hq (rval_any (w := wc.drew) (HST2.out.below (Below.refl _ _).drew).rs (Nat.le_trans HLT2.out HLI.out.len))
      clear hst hxl hn1 hn2 hn3 hn4 hi HTX c0 c1 c2 c3 fz hA d0
      go_wp2_with fail
      go_region_law (first
       | (go_simp; go_at_call 187; (with_reducible refine HVL.out.mono ?_); rintro e w3 ⟨⟨yq, yc, yl, yg, yp⟩, rfl, hys, hvi, hr3, hg3⟩; dsimp only [Vl.cell]; have HYS := Hq hys; have HVI := Hq hvi; have HST3 := Hq ((HST2.out.below (Below.refl _ _).drew).read hg3 hr3); have e2b := HST3.out.cells.1.2.2.1; rw [← HI.out] at e2b; have hA3 := HST3.out.lt; have HVO : Hid (VOwn w3 w.heap.size (.slice n2.vq i n2.vc) n2.vs) := Hq (by rw [HI.out]; exact HST3.out.vo); clear hys hvi hr3 hg3)
       | (refine step_appV rfl (.tmp 33) (.tmp 36) rfl ⟨yq, yc, yl, yg, yp⟩ rfl (World.ownsRow.alloc HVO.out _) rfl (heap_alloc_new w3 _) (by rw [← HI.out]; omega) (by have := HST3.out.gb.size; simp; omega) ?_; intro q4 n4 c4' w4 hn4 ho4 hg4; have HST4 := Hq (HST3.out.setV ((Below.refl _ _).alloc (Nat.le_refl _) _) hn4 ho4 (by rw [← HI.out]; exact hg4) HVI.out); have hb4 := HST3.out.boxAt ((Below.refl _ _).alloc (Nat.le_refl _) _) HVO.out (by decide) (by decide) hg4; have z2 := (jC hb4 2).trans rfl; have y2 := jU hb4 2; have hA4 := (aL hb4); clear hn4 ho4 hg4 hb4)
       | fail)
      all_goals
       have HLI4 := Hq (HLI.out.step (n2 := { n2 with vq := q4, vc := c4', vs := n2.vs ++ [⟨yq, yc, yl, yg, yp⟩] }) (x := x) (y := ⟨yq, yc, yl, yg, yp⟩) (by rw [← HJ.out]; exact hjm) (by rw [← HRN.out]; exact hrn) HN4.out HN3.out HN1.out (by rw [← HN2.out]) HXL.out HYS.out)
       have HLB : Hid (lenAt (w4.setCell ⟨A, 2, none⟩ (.slice q4 n4 c4')) A = j + 1) := Hq (by
        unfold lenAt
        rw [HST4.out.cells.1.2.1]
        dsimp only
        rw [HN1.out, List.length_append, HJ.out]
        rfl)
       generalize (w4.setCell ⟨A, 2, none⟩ (.slice q4 n4 c4')) = w5 at *
       go_wp2_with fail
       go_roundw
       case rel =>
        (repeat apply Exists.intro)
        exact ⟨HST4.out, HLI4.out⟩
       case measure =>
        rw [HLA.out, HLB.out, ← HJ.out]
        omega
    ·
     have HE : Hid (rdL (m - n.ks.length) l' = []) := Hq (rdL_end (.inr (List.eq_nil_of_length_eq_zero (by have := HRN.out; omega))))
     obtain rfl : rn = 0 := by omega
     obtain ⟨⟨r0, r1, r2, r3⟩, ⟨v0, v1, v2, v3⟩, hrl⟩ := HST.out.resCells
     go_wp2
     refine bodyPost_ret (results_cell_row rfl _ _ w.heap.size 106 _ (0, 0) _ (by kernel_rfl) (ndSet4 HST.out.res) Tryz.underlying106 rfl (by kernel_rfl)) rfl ?_
     obtain ⟨hok, hgb, _⟩ := HST.out.done (gb4 wr w.heap.size (.bool n.leaf) (.slice n.kq j n.kc) (.slice n.vq j n.vc) (.slice n.iq n.is.length n.ic))
     refine ⟨n, ?_, leaf_end HLI.out HE.out, hok, hgb⟩
     unfold Nd.cell
     rw [HLI.out.vk, ← HJ.out]
   ·
    have HE : Hid (rdL (m - n.ks.length) l' = []) := Hq (rdL_end (.inl (by rw [← HJ.out]; omega)))
    obtain ⟨⟨r0, r1, r2, r3⟩, ⟨v0, v1, v2, v3⟩, hrl⟩ := HST.out.resCells
    go_wp2
    refine bodyPost_ret (results_cell_row rfl _ _ w.heap.size 106 _ (0, 0) _ (by kernel_rfl) (ndSet4 HST.out.res) Tryz.underlying106 rfl (by kernel_rfl)) rfl ?_
    obtain ⟨hok, hgb, _⟩ := HST.out.done (gb4 wr w.heap.size (.bool n.leaf) (.slice n.kq j n.kc) (.slice n.vq j n.vc) (.slice n.iq n.is.length n.ic))
    refine ⟨n, ?_, leaf_end HLI.out HE.out, hok, hgb⟩
    unfold Nd.cell
    rw [HLI.out.vk, ← HJ.out]
end Go.Proofs.YtbbgdbnjmonbgaaGreatDoor

