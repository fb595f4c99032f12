/-
  A tree's node in memory; what.
  node's rest.
  Slices of keys.
  Plain facts on numbers put as.
  Names.
  Many trees in one.
-/
import Derived.Test.YtbbgdbnjmonbgaaGreatDoorH00
import Derived.Test.YtbbgdbnjmonbgaaGreatDoorH12
import Derived.Test.YtbbgdbnjmonbgaaGreatDoorH04
import Derived.Deep.QuietTactic
import Derived.BigQuiet
import Derived.Deep.RegionHeld3
import Derived.Deep.RegionLaw
import Derived.Laws.Bits64
import Derived.Laws.Bits64b
import Derived.Lib.EndianBits
import Derived.IntWalk
import Derived.RowKit
import Derived.Lib.Bytealg
import GoSem.Op.String
set_option linter.unusedVariables false
set_option maxRecDepth 100000
namespace Go.Proofs.YtbbgdbnjmonbgaaGreatDoor
open Go.RowKit
structure Kb where
 q : Option Addr
 c : Nat
 l : List UInt8
structure Kb.Ok (w : World) (x : Kb) : Prop where
 bs : Bs w x.q x.l
 h1 : x.l.length ≤ x.c
 h2 : x.c ≤ 9223372036854775807
 z : x.q = none → x.c = 0
structure Vl where
 q : Option Addr
 c : Nat
 l : List UInt8
 g : Int
 p : Int
structure Vl.Ok (w : World) (x : Vl) : Prop where
 bs : Bs w x.q x.l
 h1 : x.l.length ≤ x.c
 h2 : x.c ≤ 9223372036854775807
 z : x.q = none → x.c = 0
 g1 : -9223372036854775808 ≤ x.g
 g2 : x.g ≤ 9223372036854775807
 p1 : -9223372036854775808 ≤ x.p
 p2 : x.p ≤ 9223372036854775807
def Vl.s (x : Vl) : VlS := ⟨x.l, x.g, x.p⟩
def Kb.v (x : Kb) : Value := .slice x.q x.l.length x.c
def Vl.cell (x : Vl) : Value := .agg #[.slice x.q x.l.length x.c, .int .i64 x.g, .int .i64 x.p]
theorem Kb.Ok.below {w w' : World} {x : Kb} (h : x.Ok w) (hb : Below w.heap.size w w') : x.Ok w' := ⟨h.bs.below hb, h.h1, h.h2, h.z⟩
theorem Vl.Ok.below {w w' : World} {x : Vl} (h : x.Ok w) (hb : Below w.heap.size w w') : x.Ok w' := ⟨h.bs.below hb, h.h1, h.h2, h.z, h.g1, h.g2, h.p1, h.p2⟩
def Kbs (w : World) (q : Option Addr) (ls : List Kb) : Prop := ls ≠ [] → ∃ b o, q = some ⟨b, o, none⟩ ∧ ∀ i x, ls[i]? = some x → w.cell? ⟨b, o + i, none⟩ = some (.slice x.q x.l.length x.c)
def Vls (w : World) (q : Option Addr) (ls : List Vl) : Prop := ls ≠ [] → ∃ b o, q = some ⟨b, o, none⟩ ∧ ∀ i x, ls[i]? = some x → w.cell? ⟨b, o + i * 3, none⟩ = some (.slice x.q x.l.length x.c) ∧ w.cell? ⟨b, o + i * 3 + 1, none⟩ = some (.int .i64 x.g) ∧ w.cell? ⟨b, o + i * 3 + 2, none⟩ = some (.int .i64 x.p)
theorem Kbs.at {w : World} {q : Option Addr} {l : List Kb} (h : Kbs w q l) {i : Nat} {x : Kb} (hx : l[i]? = some x) : ∃ b o, q = some ⟨b, o, none⟩ ∧ b < w.heap.size ∧ w.cell? ⟨b, o + i, none⟩ = some (.slice x.q x.l.length x.c) := by
 obtain ⟨b, o, hp, hc⟩ := h (by intro e; subst e; simp at hx)
 exact ⟨b, o, hp, World.block_lt_of_cell? _ _ (hc i x hx), hc i x hx⟩
theorem Kbs.below {w w' : World} {q : Option Addr} {l : List Kb} (h : Kbs w q l) (hb : Below w.heap.size w w') : Kbs w' q l := by
 intro hne
 obtain ⟨b, o, hp, hc⟩ := h hne
 refine ⟨b, o, hp, fun i u hi => ?_⟩
 have h1 := hc i u hi
 rw [hb.cell (World.block_lt_of_cell? _ _ h1)]
 exact h1
theorem Vls.at {w : World} {q : Option Addr} {l : List Vl} (h : Vls w q l) {i : Nat} {x : Vl} (hx : l[i]? = some x) : ∃ b o, q = some ⟨b, o, none⟩ ∧ b < w.heap.size ∧ w.cell? ⟨b, o + i * 3, none⟩ = some (.slice x.q x.l.length x.c) ∧ w.cell? ⟨b, o + i * 3 + 1, none⟩ = some (.int .i64 x.g) ∧ w.cell? ⟨b, o + i * 3 + 2, none⟩ = some (.int .i64 x.p) := by
 obtain ⟨b, o, hp, hc⟩ := h (by intro e; subst e; simp at hx)
 exact ⟨b, o, hp, World.block_lt_of_cell? _ _ (hc i x hx).1, hc i x hx⟩
theorem Vls.below {w w' : World} {q : Option Addr} {l : List Vl} (h : Vls w q l) (hb : Below w.heap.size w w') : Vls w' q l := by
 intro hne
 obtain ⟨b, o, hp, hc⟩ := h hne
 refine ⟨b, o, hp, fun i u hi => ?_⟩
 obtain ⟨h1, h2, h3⟩ := hc i u hi
 rw [hb.cell (World.block_lt_of_cell? _ _ h1), hb.cell (World.block_lt_of_cell? _ _ h2), hb.cell (World.block_lt_of_cell? _ _ h3)]
 exact ⟨h1, h2, h3⟩
structure Nd where
 leaf : Bool
 kq : Option Addr
 kc : Nat
 ks : List Kb
 vq : Option Addr
 vc : Nat
 vs : List Vl
 iq : Option Addr
 ic : Nat
 is : List Int
def Nd.cell (n : Nd) : Value := .agg #[.bool n.leaf, .slice n.kq n.ks.length n.kc, .slice n.vq n.vs.length n.vc, .slice n.iq n.is.length n.ic]
def Nd.cells (n : Nd) : Array Value := #[.bool n.leaf, .slice n.kq n.ks.length n.kc, .slice n.vq n.vs.length n.vc, .slice n.iq n.is.length n.ic]
def Nd.s (n : Nd) : NdS := ⟨n.leaf, n.ks.map Kb.l, n.vs.map Vl.s, n.is⟩
def Nd.zero : Nd := ⟨false, none, 0, [], none, 0, [], none, 0, []⟩
structure Nd.Ok (w : World) (n : Nd) : Prop where
 k1 : n.ks.length ≤ n.kc
 k2 : n.kc ≤ 9223372036854775807
 kz : n.kq = none → n.kc = 0
 kl : Kbs w n.kq n.ks
 ko : ∀ x ∈ n.ks, x.Ok w
 v1 : n.vs.length ≤ n.vc
 v2 : n.vc ≤ 9223372036854775807
 vz : n.vq = none → n.vc = 0
 vl : Vls w n.vq n.vs
 vo : ∀ x ∈ n.vs, x.Ok w
 i1 : n.is.length ≤ n.ic
 i2 : n.ic ≤ 9223372036854775807
 iz : n.iq = none → n.ic = 0
 il : Ks w n.iq n.is
 io : ∀ x ∈ n.is, -9223372036854775808 ≤ x ∧ x ≤ 9223372036854775807
theorem Nd.Ok.below {w w' : World} {n : Nd} (h : n.Ok w) (hb : Below w.heap.size w w') : n.Ok w' :=
 ⟨h.k1, h.k2, h.kz, h.kl.below hb, fun x hx => (h.ko x hx).below hb, h.v1, h.v2, h.vz, h.vl.below hb, fun x hx => (h.vo x hx).below hb, h.i1, h.i2, h.iz, h.il.below hb, h.io⟩
theorem gb_refl (w : World) (g : Nat) : w.grownBy w (some g) := ⟨rfl, rfl, rfl, Nat.le_refl _, fun _ _ _ => rfl⟩
theorem gb_below {w w' : World} {g : Nat} (h : Below w.heap.size w w') : w.grownBy w' (some g) := ⟨h.os, h.tape, h.output, h.size, fun k hk _ => h.block k hk⟩
theorem gb_trans {w w1 w2 : World} {g : Nat} (h : w.grownBy w1 (some g)) (h' : w1.grownBy w2 (some g)) : w.grownBy w2 (some g) :=
 ⟨h'.os.trans h.os, h'.tape.trans h.tape, h'.output.trans h.output, Nat.le_trans h.size h'.size, fun k hk hne => (h'.block k (Nat.lt_of_lt_of_le hk h.size) hne).trans (h.block k hk hne)⟩
theorem gb_set {w w1 : World} {g : Nat} (h : w.grownBy w1 (some g)) (i : Nat) (v : Value) : w.grownBy (w1.setCell ⟨g, i, none⟩ v) (some g) :=
 ⟨h.os, h.tape, h.output, by simpa using h.size, fun k hk hne => by
  have hk' : k ≠ g := fun e => hne (by rw [e])
  have e : (w1.setCell ⟨g, i, none⟩ v).heap[k]? = w1.heap[k]? := by simp [World.setCell, Array.getElem?_modify, Ne.symm hk']
  rw [e]
  exact h.block k hk hne⟩
theorem gb_low {w w' : World} {g : Nat} (h : w.grownBy w' (some g)) (hg : g ≤ w.heap.size) : Below g w w' := ⟨h.os, h.tape, h.output, h.size, fun k hk => h.block k (by omega) (fun e => by have := Option.some.inj e; omega)⟩
theorem Bs.low {w w' : World} {g : Nat} {p : Option Addr} {l : List UInt8} (h : Bs w p l) (hp : ∀ a, p = some a → a.block < g) (hb : Below g w w') : Bs w' p l := by
 intro hne
 obtain ⟨b, o, hpe, hc⟩ := h hne
 exact ⟨b, o, hpe, fun i u hi => by rw [hb.cell (p := ⟨b, o + i, none⟩) (hp ⟨b, o, none⟩ hpe)]; exact hc i u hi⟩
def U8 (w : World) (b : Nat) : Prop := ∃ c f, w.heap[b]? = some (.cells c 5 f)
def Lo (w : World) (g : Nat) (a : Addr) : Prop := a.block < g ∧ U8 w a.block
theorem U8.below {w w' : World} {b : Nat} (h : U8 w b) (hb : Below w.heap.size w w') : U8 w' b := by
 obtain ⟨c, f, h⟩ := h
 exact ⟨c, f, by rw [hb.block _ (aL h)]; exact h⟩
theorem U8.low {w w' : World} {b B : Nat} (h : U8 w b) (hb : Below B w w') (hB : b < B) : U8 w' b := by
 obtain ⟨c, f, h⟩ := h
 exact ⟨c, f, by rw [hb.block _ hB]; exact h⟩
theorem Lo.low {w w' : World} {g : Nat} {a : Addr} (h : Lo w g a) (hb : Below g w w') : Lo w' g a := ⟨h.1, h.2.low hb h.1⟩
theorem Bs.low' {w w' : World} {g : Nat} {p : Option Addr} {l : List UInt8} (h : Bs w p l) (hp : ∀ a, p = some a → Lo w g a) (hb : Below g w w') : Bs w' p l := h.low (fun a ha => (hp a ha).1) hb
def Kb.Ty (w : World) (x : Kb) : Prop := ∀ a, x.q = some a → U8 w a.block
def Vl.Ty (w : World) (x : Vl) : Prop := ∀ a, x.q = some a → U8 w a.block
structure NBox (w : World) (b : Nat) (n : Nd) : Prop where
 c0 : w.cell? ⟨b, 0, none⟩ = some (.bool n.leaf)
 c1 : w.cell? ⟨b, 1, none⟩ = some (.slice n.kq n.ks.length n.kc)
 c2 : w.cell? ⟨b, 2, none⟩ = some (.slice n.vq n.vs.length n.vc)
 c3 : w.cell? ⟨b, 3, none⟩ = some (.slice n.iq n.is.length n.ic)
theorem NBox.low {w w' : World} {b B : Nat} {n : Nd} (h : NBox w b n) (hb : Below B w w') (hB : b < B) : NBox w' b n := by
 obtain ⟨c0, c1, c2, c3⟩ := h
 exact ⟨by rw [hb.cell hB]; exact c0, by rw [hb.cell hB]; exact c1, by rw [hb.cell hB]; exact c2, by rw [hb.cell hB]; exact c3⟩
end Go.Proofs.YtbbgdbnjmonbgaaGreatDoor

set_option linter.unusedVariables false
set_option maxRecDepth 100000
namespace Go.Proofs.YtbbgdbnjmonbgaaGreatDoor
open Go.RowKit
def Rs (w : World) (g : Nat) (l : List UInt8) : Prop :=
 ∃ p n c, w.heap[g]? = some (.cells #[.slice p n c] 235 (0, 0)) ∧ Bs w p l ∧ n = l.length ∧ n ≤ c ∧ c ≤ 9223372036854775807 ∧ (p = none → c = 0) ∧ ∀ a, p = some a → Lo w g a
theorem Rs.lt {w : World} {g : Nat} {l : List UInt8} (h : Rs w g l) : g < w.heap.size := by
 obtain ⟨p, n, c, hb, _⟩ := h
 exact (aL hb)
theorem Rs.low {w w' : World} {g : Nat} {l : List UInt8} (h : Rs w g l) (hb : Below (g + 1) w w') : Rs w' g l := by
 obtain ⟨p, n, c, h1, h2, h3, h4, h5, h6, h7⟩ := h
 exact ⟨p, n, c, by rw [hb.block g (by omega)]; exact h1, h2.low' h7 (hb.mono (by omega)), h3, h4, h5, h6, fun a ha => (h7 a ha).low (hb.mono (by omega))⟩
theorem Rs.below {w w' : World} {g : Nat} {l : List UInt8} (h : Rs w g l) (hb : Below w.heap.size w w') : Rs w' g l := h.low (hb.mono h.lt)
theorem rs_set {w : World} {g : Nat} {a v : Value} {t : TypeId} (h : w.heap[g]? = some (.cells #[a] t (0, 0))) : (w.setCell ⟨g, 0, none⟩ v).heap[g]? = some (.cells #[v] t (0, 0)) := by
 simp [World.setCell, Array.getElem?_modify, h]
def PartPost (w : World) (g : Nat) (t l : List UInt8) (e : Ending) (w' : World) : Prop :=
 ∃ p m, e = .returned (.slice p m m) ∧ m = t.length ∧ Bs w' p t ∧ (p = none → m = 0) ∧ (∀ a, p = some a → Lo w' g a) ∧ Rs w' g l ∧ w.grownBy w' (some g)
theorem drop_addr {w : World} {ad : Addr} {l : List UInt8} {k : Nat} (h : Bs w (some ad) l) : Bs w (some (ad.add k)) (l.drop k) := by
 intro hne
 obtain ⟨b, o, hp, hc⟩ := h (by intro e; subst e; simp at hne)
 obtain rfl := Option.some.inj hp
 rw [Addr.add_lit]
 exact Bs.drop hc k hne
theorem add_block (ad : Addr) (m : Nat) : (ad.add m).block = ad.block := by
 unfold Addr.add
 first | rfl | (split <;> rfl)
theorem part_end {w : World} {g : Nat} {p : Option Addr} {n c : Nat} {l : List UInt8} (hblk : w.heap[g]? = some (.cells #[.slice p n c] 235 (0, 0))) (hbs : Bs w p l) (hn : n = l.length) (hnc : n ≤ c) (hc : c ≤ 9223372036854775807) (hz : p = none → c = 0) (hlo : ∀ a, p = some a → Lo w g a)
  (k m : Nat) (hm : m = (l.take k).length) (p' : Option Addr) (n' c' : Nat) (hp : (c = m ∧ p' = p) ∨ (∃ ad, p = some ad ∧ p' = some (ad.add m))) (hn' : n' = n - m) (hc' : c' = c - m) :
  PartPost w g (l.take k) (l.drop k) (.returned (.slice p m m)) (w.setCell ⟨g, 0, none⟩ (.slice p' n' c')) := by
 have hmn : m ≤ n := by rw [hm, List.length_take]; omega
 have hdr : l.drop m = l.drop k := by
  rw [hm, List.length_take]
  rcases Nat.le_total k l.length with h | h
  ·
   rw [Nat.min_eq_left h]
  ·
   rw [Nat.min_eq_right h, List.drop_eq_nil_of_le (Nat.le_refl _), List.drop_eq_nil_of_le h]
 have hbl : Below g w (w.setCell ⟨g, 0, none⟩ (.slice p' n' c')) := (Below.refl _ _).setCell (p := ⟨g, 0, none⟩) (Nat.le_refl _) _
 refine ⟨p, m, rfl, hm, (hbs.take k).low' hlo hbl, (fun e => by have := hz e; omega), (fun a ha => (hlo a ha).low hbl), ⟨p', n', c', rs_set hblk, ?_, by rw [List.length_drop]; rw [hm, List.length_take] at hn'; omega, by omega, by omega, ?_, ?_⟩, gb_set (gb_refl w g) 0 _⟩
 ·
  rcases hp with ⟨h1, rfl⟩ | ⟨ad, rfl, rfl⟩
  ·
   rw [← hdr, List.drop_eq_nil_of_le (by omega)]
   exact Bs.nil _ _
  ·
   rw [← hdr]
   refine (drop_addr hbs).low ?_ hbl
   intro a ha
   obtain rfl := Option.some.inj ha
   rw [add_block]
   exact (hlo ad rfl).1
 ·
  rcases hp with ⟨h1, rfl⟩ | ⟨ad, rfl, rfl⟩
  ·
   intro e; have := hz e; omega
  ·
   intro e; cases e
 ·
  rcases hp with ⟨h1, rfl⟩ | ⟨ad, rfl, rfl⟩
  ·
   exact fun a ha => (hlo a ha).low hbl
  ·
   intro a ha
   obtain rfl := Option.some.inj ha
   unfold Lo
   rw [add_block]
   exact (hlo ad rfl).low hbl
set_option maxHeartbeats 1600000 in
theorem part_any {w : World} {g : Nat} {l : List UInt8} (h : Rs w g l) (hl : l.length ≤ 100000) (k : Nat) (hk : k ≤ 70000) :
  Calls Tryz.prog 200 #[.pointer (some ⟨g, 0, none⟩), .int .i64 (k : Int)] w (PartPost w g (l.take k) (l.drop k)) := by
 obtain ⟨p, n, c, hblk, hbs, hn, hnc, hc, hz, hlo⟩ := h
 have hg := (aL hblk)
 have c0 : w.cell? ⟨g, 0, none⟩ = some (.slice p n c) := jC hblk 0
 have f0 := jU hblk 0
 have HE := Hq (part_end hblk hbs hn hnc hc hz hlo k)
 have HN := Hq hn
 have HZ := Hq hz
 rw [← hn] at hl
 clear hblk hbs hn hlo hz
 by_cases hkn : k ≤ n
 ·
  have HM : Hid (k = (l.take k).length) := Hq (by rw [List.length_take, ← HN.out]; omega)
  have hkc : k ≤ c := by omega
  generalize l.take k = T at *
  generalize l.drop k = D at *
  cases p with
  | none =>
   obtain rfl : c = 0 := HZ.out rfl
   obtain rfl : n = 0 := by omega
   obtain rfl : k = 0 := by omega
   clear HZ
   rw [show ((0 : Nat) : Int) = 0 from rfl]
   go_enter Tryz.func200, Tryz.ntmps200
   go_wp2
   go_ret
   exact HE.out 0 HM.out none 0 0 (.inl ⟨rfl, rfl⟩) rfl rfl
  | some ad =>
   by_cases hcm : c = k
   ·
    subst hcm
    go_enter Tryz.func200, Tryz.ntmps200
    go_wp2
    all_goals
     go_ret
     exact HE.out c HM.out _ _ _ (.inl ⟨rfl, rfl⟩) (by omega) (by omega)
   ·
    go_enter Tryz.func200, Tryz.ntmps200
    go_wp2
    go_ret
    exact HE.out k HM.out _ _ _ (.inr ⟨_, rfl, rfl⟩) rfl rfl
 ·
  have HM : Hid (n = (l.take k).length) := Hq (by rw [List.length_take, ← HN.out]; omega)
  have hkn2 : n < k := by omega
  generalize l.take k = T at *
  generalize l.drop k = D at *
  cases p with
  | none =>
   obtain rfl : c = 0 := HZ.out rfl
   obtain rfl : n = 0 := by omega
   clear HZ
   go_enter Tryz.func200, Tryz.ntmps200
   go_wp2
   go_ret
   exact HE.out 0 HM.out none 0 0 (.inl ⟨rfl, rfl⟩) rfl rfl
  | some ad =>
   by_cases hcm : c = n
   ·
    subst hcm
    go_enter Tryz.func200, Tryz.ntmps200
    go_wp2
    go_ret
    exact HE.out c HM.out _ _ _ (.inl ⟨rfl, rfl⟩) (by simp) (by simp)
   ·
    go_enter Tryz.func200, Tryz.ntmps200
    go_wp2
    go_ret
    exact HE.out n HM.out _ _ _ (.inr ⟨_, rfl, rfl⟩) (by simp) rfl
def leN : List UInt8 → Nat
 | [] => 0
 | a :: l => a.toNat + 256 * leN l
theorem or_i64 (a b : Nat) (ha : a < 18446744073709551616) (hb : b < 18446744073709551616) : bits BinOp.or IntKind.i64 (a : Int) (b : Int) = IntKind.i64.wrap ((a ||| b : Nat) : Int) := by
 have h5 : ∀ k : Nat, k < 18446744073709551616 → (BitVec.ofInt 64 (k : Int)).toNat = k := fun k hk => by rw [BitVec.ofInt_natCast, BitVec.toNat_ofNat]; exact Nat.mod_eq_of_lt (by omega)
 show IntKind.i64.wrap (((BitVec.ofInt 64 (a : Int) ||| BitVec.ofInt 64 (b : Int)).toNat : Nat) : Int) = _
 rw [BitVec.toNat_or, h5 a ha, h5 b hb]
theorem or_one (x : UInt8) : bits BinOp.or IntKind.i64 ((leN [] : Nat) : Int) (wrap64 (wrap64 (x.toNat : Int))) = ((leN [x] : Nat) : Int) := by
 have hx := x.toNat_lt
 have hw : wrap64 (wrap64 (x.toNat : Int)) = (x.toNat : Int) := by unfold wrap64; omega
 rw [hw]
 show bits BinOp.or IntKind.i64 ((0 : Nat) : Int) (x.toNat : Int) = _
 rw [or_i64 0 x.toNat (by omega) (by omega), Nat.zero_or, IntKind.wrap_i64]
 simp only [leN]
 omega
theorem or_two (a x : UInt8) : bits BinOp.or IntKind.i64 ((leN [a] : Nat) : Int) (wrap64 (wrap64 (x.toNat : Int) * 256)) = ((leN [a, x] : Nat) : Int) := by
 have ha := a.toNat_lt
 have hx := x.toNat_lt
 have hw : wrap64 (wrap64 (x.toNat : Int) * 256) = ((2 ^ 8 * x.toNat : Nat) : Int) := by unfold wrap64; omega
 rw [hw]
 have e1 : leN [a] = a.toNat := by simp [leN]
 rw [e1, or_i64 a.toNat (2 ^ 8 * x.toNat) (by omega) (by omega), Nat.or_comm, ← Nat.two_pow_add_eq_or_of_lt (i := 8) (b := a.toNat) ha x.toNat, IntKind.wrap_i64]
 simp only [leN]
 omega
def NumPost (w : World) (g v : Nat) (l : List UInt8) (e : Ending) (w' : World) : Prop := e = .returned (.int .i64 (v : Int)) ∧ Rs w' g l ∧ w.grownBy w' (some g)
set_option maxHeartbeats 1600000 in
theorem number_any {w : World} {g : Nat} {l : List UInt8} (h : Rs w g l) (hl : l.length ≤ 100000) (k : Nat) (hk : k ≤ 2) :
  Calls Tryz.prog 185 #[.pointer (some ⟨g, 0, none⟩), .int .i64 (k : Int)] w (NumPost w g (leN (l.take k)) (l.drop k)) := by
 have HP := Hq (part_any h hl k (by omega))
 have ht : (l.take k).length ≤ 2 := by rw [List.length_take]; omega
 generalize l.take k = T at *
 generalize l.drop k = D at *
 clear h hl hk
 go_enter Tryz.func185, Tryz.ntmps185
 go_wp2_with fail
 refine HP.out.mono ?_
 rintro e w1 ⟨p, m, rfl, hm, hbs, hz, _, hr, hg⟩
 have HM := Hq hm
 have HBS := Hq hbs
 have HR := Hq hr
 have HG := Hq hg
 have hm2 : m ≤ 2 := by omega
 clear hbs hr hg hz HP hm
 go_wp2
 go_loopw [5, 12] (fun s i wr => ∃ (j : Nat), i = .int .i64 (j : Int) ∧ s = .int .i64 (leN (T.take j) : Nat) ∧ j ≤ m ∧ wr = w1) (fun _ i _ => m - (intOf i).toNat)
 case atStart => exact ⟨0, rfl, rfl, by omega, rfl⟩
 case round =>
  obtain ⟨j, rfl, rfl, hj, hw⟩ := hrel
  subst hw
  by_cases hlt : j < m
  ·
   have hjl : j < T.length := by have := HM.out; omega
   obtain ⟨b, o, rfl, hblt, hcell⟩ := HBS.out.at (by omega)
   have hcj := hcell j hjl
   clear hcell
   obtain ⟨x, hx⟩ : ∃ x, x = T[j] := ⟨_, rfl⟩
   rw [← hx] at hcj
   have HX := Hq hx
   clear hx
   rcases (by omega : j = 0 ∨ j = 1) with rfl | rfl
   ·
    rw [Nat.add_zero] at hcj
    rw [show ((0 : Nat) : Int) = 0 from rfl]
    go_wp2
    go_roundw
    case rel =>
     refine ⟨1, rfl, ?_, by omega, trivial⟩
     rw [or_one, HX.out, List.take_add_one, List.getElem?_eq_getElem hjl]
     rfl
    case measure => simp [intOf]; omega
   ·
    obtain ⟨y, hy⟩ : ∃ y, T.take 1 = [y] := ⟨T[0], by rw [List.take_add_one, List.getElem?_eq_getElem (by omega)]; rfl⟩
    have HY := Hq hy
    rw [show ((1 : Nat) : Int) = 1 from rfl, hy]
    clear hy
    go_wp2
    go_roundw
    case rel =>
     refine ⟨2, rfl, ?_, by omega, trivial⟩
     rw [or_two, List.take_add_one, HY.out, List.getElem?_eq_getElem hjl, HX.out]
     rfl
    case measure => simp [intOf]; omega
  ·
   go_wp2
   go_ret
   refine ⟨ret_int ?_, HR.out, HG.out⟩
   rw [List.take_of_length_le (by have := HM.out; omega)]
end Go.Proofs.YtbbgdbnjmonbgaaGreatDoor

set_option linter.unusedVariables false
set_option maxRecDepth 100000
namespace Go.Proofs.YtbbgdbnjmonbgaaGreatDoor
open Go.RowKit
theorem row_other {w : World} {B size n : Nat} {e : TypeId} {v : Value} {xs : List Value} (h : w.ownsRow B e size v n xs) {i : Nat} {c : Array Value} {t : TypeId} {f : Nat × Nat} (hi : w.heap[i]? = some (.cells c t f)) (hne : t ≠ e) : v.ownBlock ≠ some i := by
 rcases h.2 with ⟨rfl, _⟩ | ⟨g, cap, cur, rfl, _, hg, _⟩
 ·
  intro e; cases e
 ·
  intro e2
  obtain rfl : g = i := Option.some.inj e2
  rw [hg] at hi
  cases hi
  exact hne rfl
theorem row_apart {w : World} {B B' size size' n n' : Nat} {e e' : TypeId} {v v' : Value} {xs xs' : List Value} (h : w.ownsRow B e size v n xs) (h' : w.ownsRow B' e' size' v' n' xs') (hne : e ≠ e') : v.ownBlock = none ∨ v.ownBlock ≠ v'.ownBlock := by
 rcases h.2 with ⟨rfl, _⟩ | ⟨g, cap, cur, rfl, _, hg, _⟩
 ·
  exact .inl rfl
 ·
  rcases h'.2 with ⟨rfl, _⟩ | ⟨g', cap', cur', rfl, _, hg', _⟩
  ·
   exact .inr (by intro e; cases e)
  ·
   refine .inr fun e => ?_
   obtain rfl : g = g' := Option.some.inj e
   rw [hg] at hg'
   cases hg'
   exact hne rfl
theorem row_form {w : World} {B size n : Nat} {e : TypeId} {v : Value} {xs : List Value} (h : w.ownsRow B e size v n xs) : ∃ q c, v = .slice q n c ∧ n ≤ c ∧ c ≤ 9223372036854775807 ∧ (q = none → c = 0) ∧ ∀ b, v.ownBlock = some b → B ≤ b ∧ b < w.heap.size := by
 rcases h.2 with ⟨rfl, rfl⟩ | ⟨g, cap, cur, rfl, hb, hg, hnc, hcm, _⟩
 ·
  exact ⟨none, 0, rfl, Nat.le_refl _, by omega, fun _ => rfl, fun b hb => by cases hb⟩
 ·
  exact ⟨_, cap, rfl, hnc, by unfold maxLen at hcm; omega, fun e => (by cases e), fun b hbb => by cases hbb; exact ⟨hb, (aL hg)⟩⟩
theorem run_app1 {w : World} (ty t e : TypeId) (i : TypeInfo) (z : Value) (size bytes : Nat) (ht : Tryz.prog.underlying t = some (.slice e)) (hi : Tryz.prog.info? e = some i) (hz : i.zero = some z) (hs : i.size = size) (hb : i.bytes = bytes) (hzs : z.cells.size = size) (hp : 0 < size) (h8 : bytes ≤ 64)
  {B : Nat} {v : Value} {n : Nat} {xs : List Value} (hown : w.ownsRow B e size v n xs) {ad : Addr} {c : Nat} {news : List Value} (hl : news.length = 1 * size) (hcells : ∀ (j : Nat) u, news[j]? = some u → w.cell? (ad.add j) = some u) (h1 : ∀ u ∈ news, u.oneCell' = true) (hlen : n ≤ 1000000) (hB : B ≤ w.heap.size) :
  ∃ v' w', (Builtin.append_ #[t, t] ty #[v, .slice (some ad) 1 c]).run Tryz.prog w = .ok v' w' ∧ w'.ownsRow B e size v' (n + 1) (xs ++ news) ∧ w.grownBy w' v.ownBlock := by
 have hby : (n + 1) * bytes ≤ 140737488355328 := by
  have := Nat.mul_le_mul (show n + 1 ≤ 1000001 by omega) h8
  omega
 obtain ⟨v', w', hr, h2, h3, _⟩ := run_append_own (P := Tryz.prog) w B t ty e i z size bytes ht hi hz hs hb hzs hp v n xs hown ad 1 c news hl hcells h1 (by simp only [maxLen]; omega) (by omega) hB
 exact ⟨v', w', hr, h2, h3⟩
theorem info_key : (Tryz.prog.info? 33).map (fun i => (i.zero, i.size, i.bytes)) = some (some (.slice none 0 0), 1, 24) := by kernel_rfl
theorem info_val : (Tryz.prog.info? 108).map (fun i => (i.zero, i.size, i.bytes)) = some (some (.agg #[.slice none 0 0, .int .i64 0, .int .i64 0]), 3, 40) := by kernel_rfl
def kCells (l : List Kb) : List Value := l.map Kb.v
def vCells : List Vl → List Value
 | [] => []
 | x :: l => .slice x.q x.l.length x.c :: .int .i64 x.g :: .int .i64 x.p :: vCells l
theorem vCells_append : ∀ l m : List Vl, vCells l ++ vCells m = vCells (l ++ m)
 | [], m => rfl
 | a :: l, m => by simp only [vCells, List.cons_append, vCells_append l m]
theorem vCells_length : ∀ l : List Vl, (vCells l).length = l.length * 3
 | [] => rfl
 | a :: l => by simp only [vCells, List.length_cons, vCells_length l]; omega
theorem vCells_get : ∀ {l : List Vl} {i : Nat} {a : Vl}, l[i]? = some a → (vCells l)[i * 3]? = some (.slice a.q a.l.length a.c) ∧ (vCells l)[i * 3 + 1]? = some (.int .i64 a.g) ∧ (vCells l)[i * 3 + 2]? = some (.int .i64 a.p)
 | [], i, a, h => by simp at h
 | b :: l, 0, a, h => by
  simp only [List.getElem?_cons_zero, Option.some.injEq] at h
  subst h
  exact ⟨rfl, rfl, rfl⟩
 | b :: l, i + 1, a, h => by
  have ih := vCells_get (l := l) (i := i) (a := a) (by simpa using h)
  have e0 : (i + 1) * 3 = i * 3 + 1 + 1 + 1 := by omega
  have e1 : (i + 1) * 3 + 1 = i * 3 + 1 + 1 + 1 + 1 := by omega
  have e2 : (i + 1) * 3 + 2 = i * 3 + 2 + 1 + 1 + 1 := by omega
  rw [e1, e2, e0]
  simp only [vCells, List.getElem?_cons_succ]
  exact ih
def KOwn (w : World) (B : Nat) (v : Value) (l : List Kb) : Prop := w.ownsRow B 33 1 v l.length (kCells l)
def VOwn (w : World) (B : Nat) (v : Value) (l : List Vl) : Prop := w.ownsRow B 108 3 v l.length (vCells l)
theorem kown_lie {w : World} {B : Nat} {q : Option Addr} {n c : Nat} {l : List Kb} (h : KOwn w B (.slice q n c) l) : Kbs w q l := by
 intro hne
 rcases h.2 with ⟨_, h0⟩ | ⟨g, cap, cur, hv, hb, hg, _⟩
 ·
  exact absurd (List.eq_nil_of_length_eq_zero h0) hne
 ·
  cases hv
  refine ⟨g, 0, rfl, fun i x hi => ?_⟩
  have := h.cells (g := g) rfl i (.slice x.q x.l.length x.c) (by simp [kCells, hi, Kb.v])
  simpa [Addr.add_lit] using this
theorem vown_lie {w : World} {B : Nat} {q : Option Addr} {n c : Nat} {l : List Vl} (h : VOwn w B (.slice q n c) l) : Vls w q l := by
 intro hne
 rcases h.2 with ⟨_, h0⟩ | ⟨g, cap, cur, hv, hb, hg, _⟩
 ·
  exact absurd (List.eq_nil_of_length_eq_zero h0) hne
 ·
  cases hv
  refine ⟨g, 0, rfl, fun i x hi => ?_⟩
  obtain ⟨c0, c1, c2⟩ := vCells_get hi
  have r0 := h.cells (g := g) rfl _ _ c0
  have r1 := h.cells (g := g) rfl _ _ c1
  have r2 := h.cells (g := g) rfl _ _ c2
  rw [Addr.add_lit] at r0 r1 r2
  rw [Nat.zero_add] at r0 r1 r2 ⊢
  exact ⟨r0, r1, r2⟩
theorem step_appK {w : World} {ops : Array Oper} {o : Oper} {a : Act} {K : Act → World → Prop} {Q : Exit → Act → World → Prop} {E : Prop} (hgd : o.guard = none) (s x : Operand)
  (ho : o.op = .call { callee := .builtin .append, args := #[s, x], argTypes := #[103, 103] })
  {B : Nat} {v : Value} {l : List Kb} (u : Kb) (hs : a.eval s = v) (hown : KOwn w B v l) {b c : Nat} (hx : a.eval x = .slice (some ⟨b, 0, none⟩) 1 c) (h0 : w.cell? ⟨b, 0, none⟩ = some u.v) (hlen : l.length ≤ 1000000) (hB : B ≤ w.heap.size)
  (h : ∀ q n c' w', n = (l ++ [u]).length → KOwn w' B (.slice q n c') (l ++ [u]) → w.grownBy w' v.ownBlock → K (a.put o.dst (.slice q n c')) w') : if Region.wanted o (yielded ops a.tmps) = true then Oper.wp Tryz.prog o a w K Q else E := by
 have hw : Region.wanted o (yielded ops a.tmps) = true := by simp [Region.wanted, hgd]
 rw [if_pos hw]
 obtain ⟨i, hi, hz0, hz1, hz2⟩ := info_parts info_key
 obtain ⟨v', w', hr, h1, h2⟩ := run_app1 (w := w) o.type 103 33 i _ 1 24 Tryz.underlying103 hi hz0 hz1 hz2 rfl (by decide) (by decide) hown (ad := ⟨b, 0, none⟩) (c := c) (news := [u.v]) rfl (fun j y hj => by
  rw [Addr.add_lit, Nat.zero_add]
  match j, hj with
  | 0, hj => cases hj; exact h0
  | j + 1, hj => simp at hj) (fun y hy => by obtain rfl := List.mem_singleton.1 hy; rfl) hlen hB
 have h1' : KOwn w' B v' (l ++ [u]) := by
  unfold KOwn
  rw [List.length_append]
  simpa [kCells] using h1
 obtain ⟨q, c', rfl, _⟩ := row_form h1'
 exact Lib.wp_append_run w s x 103 103 ho v _ hs hx _ w' hr (h q _ c' w' rfl h1' h2)
theorem step_appV {w : World} {ops : Array Oper} {o : Oper} {a : Act} {K : Act → World → Prop} {Q : Exit → Act → World → Prop} {E : Prop} (hgd : o.guard = none) (s x : Operand)
  (ho : o.op = .call { callee := .builtin .append, args := #[s, x], argTypes := #[104, 104] })
  {B : Nat} {v : Value} {l : List Vl} (u : Vl) (hs : a.eval s = v) (hown : VOwn w B v l) {b c : Nat} (hx : a.eval x = .slice (some ⟨b, 0, none⟩) 1 c) {fr : Nat × Nat} {t : TypeId} (h0 : w.heap[b]? = some (.cells #[.slice u.q u.l.length u.c, .int .i64 u.g, .int .i64 u.p] t fr)) (hlen : l.length ≤ 1000000) (hB : B ≤ w.heap.size)
  (h : ∀ q n c' w', n = (l ++ [u]).length → VOwn w' B (.slice q n c') (l ++ [u]) → w.grownBy w' v.ownBlock → K (a.put o.dst (.slice q n c')) w') : if Region.wanted o (yielded ops a.tmps) = true then Oper.wp Tryz.prog o a w K Q else E := by
 have hw : Region.wanted o (yielded ops a.tmps) = true := by simp [Region.wanted, hgd]
 rw [if_pos hw]
 obtain ⟨i, hi, hz0, hz1, hz2⟩ := info_parts info_val
 obtain ⟨v', w', hr, h1, h2⟩ := run_app1 (w := w) o.type 104 108 i _ 3 40 Tryz.underlying104 hi hz0 hz1 hz2 rfl (by decide) (by decide) hown (ad := ⟨b, 0, none⟩) (c := c) (news := vCells [u]) rfl (fun j y hj => by
  rw [Addr.add_lit, Nat.zero_add, jC h0]
  simpa [vCells] using hj) (fun y hy => by simp only [vCells, List.mem_cons, List.not_mem_nil, or_false] at hy; rcases hy with rfl | rfl | rfl <;> rfl) hlen hB
 have h1' : VOwn w' B v' (l ++ [u]) := by
  unfold VOwn
  rw [List.length_append, ← vCells_append]
  exact h1
 obtain ⟨q, c', rfl, _⟩ := row_form h1'
 exact Lib.wp_append_run w s x 104 104 ho v _ hs hx _ w' hr (h q _ c' w' rfl h1' h2)
theorem step_appI1 {w : World} {ops : Array Oper} {o : Oper} {a : Act} {K : Act → World → Prop} {Q : Exit → Act → World → Prop} {E : Prop} (hgd : o.guard = none) (s x : Operand)
  (ho : o.op = .call { callee := .builtin .append, args := #[s, x], argTypes := #[22, 22] })
  {B : Nat} {v : Value} {l : List Int} (u : Int) (hs : a.eval s = v) (hown : OwnI w B v l) {b c : Nat} (hx : a.eval x = .slice (some ⟨b, 0, none⟩) 1 c) (h0 : w.cell? ⟨b, 0, none⟩ = some (.int .i64 u)) (hlen : l.length ≤ 1000000) (hB : B ≤ w.heap.size)
  (h : ∀ q n c' w', n = (l ++ [u]).length → OwnI w' B (.slice q n c') (l ++ [u]) → w.grownBy w' v.ownBlock → K (a.put o.dst (.slice q n c')) w') : if Region.wanted o (yielded ops a.tmps) = true then Oper.wp Tryz.prog o a w K Q else E := by
 have hw : Region.wanted o (yielded ops a.tmps) = true := by simp [Region.wanted, hgd]
 rw [if_pos hw]
 obtain ⟨i, hi, hz0, hz1, hz2⟩ := info_parts info_int
 obtain ⟨v', w', hr, h1, h2⟩ := run_app1 (w := w) o.type 22 3 i _ 1 8 Tryz.underlying22 hi hz0 hz1 hz2 rfl (by decide) (by decide) hown (ad := ⟨b, 0, none⟩) (c := c) (news := [.int .i64 u]) rfl (fun j y hj => by
  rw [Addr.add_lit, Nat.zero_add]
  match j, hj with
  | 0, hj => cases hj; exact h0
  | j + 1, hj => simp at hj) (fun y hy => by obtain rfl := List.mem_singleton.1 hy; rfl) hlen hB
 have h1' : OwnI w' B v' (l ++ [u]) := by
  unfold OwnI
  rw [List.length_append]
  simpa [i64s] using h1
 obtain ⟨q, c', rfl, _⟩ := row_form h1'
 exact Lib.wp_append_run w s x 22 22 ho v _ hs hx _ w' hr (h q _ c' w' rfl h1' h2)
structure KIn (w : World) (g : Nat) (x : Kb) : Prop where
 bs : Bs w x.q x.l
 c : x.c = x.l.length
 z : x.q = none → x.c = 0
 lo : ∀ a, x.q = some a → Lo w g a
 len : x.l.length ≤ 100000
structure VIn (w : World) (g : Nat) (x : Vl) : Prop where
 bs : Bs w x.q x.l
 c : x.c = x.l.length
 z : x.q = none → x.c = 0
 lo : ∀ a, x.q = some a → Lo w g a
 len : x.l.length ≤ 100000
 g1 : 0 ≤ x.g ∧ x.g ≤ 65535
 p1 : 0 ≤ x.p ∧ x.p ≤ 65535
theorem KIn.low {w w' : World} {g : Nat} {x : Kb} (h : KIn w g x) (hb : Below g w w') : KIn w' g x := ⟨h.bs.low' h.lo hb, h.c, h.z, fun a ha => (h.lo a ha).low hb, h.len⟩
theorem VIn.low {w w' : World} {g : Nat} {x : Vl} (h : VIn w g x) (hb : Below g w w') : VIn w' g x := ⟨h.bs.low' h.lo hb, h.c, h.z, fun a ha => (h.lo a ha).low hb, h.len, h.g1, h.p1⟩
theorem KIn.ok {w : World} {g : Nat} {x : Kb} (h : KIn w g x) : x.Ok w := ⟨h.bs, by rw [h.c]; exact Nat.le_refl _, by have := h.c; have := h.len; omega, h.z⟩
theorem VIn.ok {w : World} {g : Nat} {x : Vl} (h : VIn w g x) : x.Ok w := ⟨h.bs, by rw [h.c]; exact Nat.le_refl _, by have := h.c; have := h.len; omega, h.z, by have := h.g1; omega, by have := h.g1; omega, by have := h.p1; omega, by have := h.p1; omega⟩
theorem KIn.ty {w : World} {g : Nat} {x : Kb} (h : KIn w g x) : x.Ty w := fun a ha => (h.lo a ha).2
theorem VIn.ty {w : World} {g : Nat} {x : Vl} (h : VIn w g x) : x.Ty w := fun a ha => (h.lo a ha).2
theorem leN_one (l : List UInt8) : leN (l.take 1) ≤ 255 := by
 cases l with
 | nil => simp [leN]
 | cons a l => have := a.toNat_lt; simp [leN]; omega
theorem leN_two (l : List UInt8) : leN (l.take 2) ≤ 65535 := by
 match l with
 | [] => simp [leN]
 | [a] => have := a.toNat_lt; simp [leN]; omega
 | a :: b :: l => have := a.toNat_lt; have := b.toNat_lt; simp [leN]; omega
def textR (l : List UInt8) : List UInt8 × List UInt8 := ((l.drop 1).take (leN (l.take 1)), (l.drop 1).drop (leN (l.take 1)))
def valR (l : List UInt8) : VlS × List UInt8 :=
 if leN (l.take 1) = 255 then (⟨[], (leN ((l.drop 1).take 2) : Nat), (leN (((l.drop 1).drop 2).take 2) : Nat)⟩, ((l.drop 1).drop 2).drop 2)
 else (⟨(l.drop 1).take (leN (l.take 1)), 0, 0⟩, (l.drop 1).drop (leN (l.take 1)))
def TextPost (w : World) (g : Nat) (t l : List UInt8) (e : Ending) (w' : World) : Prop := ∃ x : Kb, e = .returned (.slice x.q x.l.length x.c) ∧ x.l = t ∧ KIn w' g x ∧ Rs w' g l ∧ w.grownBy w' (some g)
def ValPost (w : World) (g : Nat) (v : VlS) (l : List UInt8) (e : Ending) (w' : World) : Prop := ∃ x : Vl, e = .returned x.cell ∧ x.s = v ∧ VIn w' g x ∧ Rs w' g l ∧ w.grownBy w' (some g)
set_option maxHeartbeats 800000 in
theorem text_any {w : World} {g : Nat} {l : List UInt8} (h : Rs w g l) (hl : l.length ≤ 100000) :
  Calls Tryz.prog 186 #[.pointer (some ⟨g, 0, none⟩)] w (TextPost w g (textR l).1 (textR l).2) := by
 have HN := Hq (number_any h hl 1 (by omega))
 have h255 := leN_one l
 unfold textR
 dsimp only
 have hd : (l.drop 1).length ≤ 100000 := by rw [List.length_drop]; omega
 generalize leN (l.take 1) = k at *
 generalize l.drop 1 = d at *
 have HP := Hq (fun (w : World) (h : Rs w g d) => part_any h hd k (by omega))
 clear h hl
 have HTL : Hid ((d.take k).length ≤ 100000) := Hq (by rw [List.length_take]; omega)
 generalize d.take k = T at *
 generalize d.drop k = D at *
 go_enter Tryz.func186, Tryz.ntmps186
 go_wp2_with fail
 refine HN.out.mono ?_
 rintro e w1 ⟨rfl, hr, hg⟩
 have HG := Hq hg
 have HR := Hq hr
 clear hr hg HN
 go_wp2_with fail
 refine (HP.out _ HR.out).mono ?_
 rintro e w2 ⟨p, m, rfl, hm, hbs, hz, hlo, hr, hg⟩
 have HF : Hid (TextPost w g T D (.returned (.slice p m m)) w2) := Hq ⟨⟨p, m, T⟩, by rw [hm], rfl, ⟨hbs, hm, hz, hlo, HTL.out⟩, hr, gb_trans HG.out hg⟩
 clear hm hbs hz hlo hr hg
 go_wp2
 go_ret
 exact HF.out
end Go.Proofs.YtbbgdbnjmonbgaaGreatDoor

namespace Go.Proofs.YtbbgdbnjmonbgaaGreatDoor
open Go.RowKit
end Go.Proofs.YtbbgdbnjmonbgaaGreatDoor
set_option linter.unusedVariables false
set_option maxRecDepth 100000
namespace Go.Proofs.YtbbgdbnjmonbgaaGreatDoor
open Go.Lib (compareBytes)
/-! ### what is above all that begin so -/
end Go.Proofs.YtbbgdbnjmonbgaaGreatDoor
namespace Go.Proofs.YtbbgdbnjmonbgaaGreatDoor
def fz : List UInt8 → Nat
 | [] => 0
 | c :: r => if c = 0 then 0 else fz r + 1
/-! ### what is put is read; what is read is put so -/
end Go.Proofs.YtbbgdbnjmonbgaaGreatDoor
namespace Go.Proofs.YtbbgdbnjmonbgaaGreatDoor
open Go.Lib (compareBytes)
end Go.Proofs.YtbbgdbnjmonbgaaGreatDoor

set_option linter.unusedVariables false
set_option maxRecDepth 100000
namespace Go.Proofs.YtbbgdbnjmonbgaaGreatDoor
open Go.RowKit
def isL (c : UInt8) : Bool := (decide (97 ≤ (c.toNat : Int)) && decide ((c.toNat : Int) ≤ 122)) || (decide (65 ≤ (c.toNat : Int)) && decide ((c.toNat : Int) ≤ 90))
def isD (c : UInt8) : Bool := decide (48 ≤ (c.toNat : Int)) && decide ((c.toNat : Int) ≤ 57)
def okC (c : UInt8) : Bool := isL c || (isD c || ((c.toNat : Int) == 95))
def nameL : List UInt8 → Bool
 | [] => false
 | c :: t => decide ((c :: t).length ≤ 16) && (!isD c && (c :: t).all okC)
def nameOk (s : ByteArray) : Bool := nameL s.data.toList
theorem nameL_len {l : List UInt8} (h : nameL l = true) : 0 < l.length ∧ l.length ≤ 16 := by
 cases l with
 | nil => cases h
 | cons c t =>
  simp only [nameL, Bool.and_eq_true, decide_eq_true_eq] at h
  exact ⟨by simp, h.1⟩
theorem nameOk_len {s : ByteArray} (h : nameOk s = true) : 0 < s.size ∧ s.size ≤ 16 := nameL_len h
end Go.Proofs.YtbbgdbnjmonbgaaGreatDoor

set_option linter.unusedVariables false
set_option maxRecDepth 100000
namespace Go.Proofs.YtbbgdbnjmonbgaaGreatDoor
open Go.RowKit
open Go.Lib (compareBytes)
def headF (n : List UInt8) : List UInt8 := UInt8.ofNat n.length :: n
def mostF (n : List UInt8) : Nat := if nameL n = true then 71 - n.length else 0
def keyF (n k : List UInt8) : List UInt8 := headF n ++ k
end Go.Proofs.YtbbgdbnjmonbgaaGreatDoor

