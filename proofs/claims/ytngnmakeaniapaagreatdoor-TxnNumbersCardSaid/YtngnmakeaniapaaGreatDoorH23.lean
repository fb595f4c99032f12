/-
  Slices of keys, of values and of numbers of the call's own: append of one; node's rest: text, val.
  node's rest: val: its contract.
-/
import Derived.Test.YtngnmakeaniapaaGreatDoorH22
import Derived.Deep.RegionHeld3
import Derived.Deep.RegionLaw
set_option linter.unusedVariables false
set_option maxRecDepth 100000
namespace Go.Proofs.YtngnmakeaniapaaGreatDoor
open Go.RowKit

theorem row_other {w : World} {B size n : Nat} {e : TypeId} {v : Value} {xs : List Value} (h : w.ownsRow B e size v n xs) {i : Nat} {c : Array Value} {t : TypeId} {f : Nat × Nat} (hi : w.heap[i]? = some (.cells c t f)) (hne : t ≠ e) : v.ownBlock ≠ some i := by
  rcases h.2 with ⟨rfl, _⟩ | ⟨g, cap, cur, rfl, _, hg, _⟩
  · intro e; cases e
  · intro e2
    obtain rfl : g = i := Option.some.inj e2
    rw [hg] at hi
    cases hi
    exact hne rfl
theorem row_apart {w : World} {B B' size size' n n' : Nat} {e e' : TypeId} {v v' : Value} {xs xs' : List Value} (h : w.ownsRow B e size v n xs) (h' : w.ownsRow B' e' size' v' n' xs') (hne : e ≠ e') : v.ownBlock = none ∨ v.ownBlock ≠ v'.ownBlock := by
  rcases h.2 with ⟨rfl, _⟩ | ⟨g, cap, cur, rfl, _, hg, _⟩
  · exact .inl rfl
  · rcases h'.2 with ⟨rfl, _⟩ | ⟨g', cap', cur', rfl, _, hg', _⟩
    · exact .inr (by intro e; cases e)
    · refine .inr fun e => ?_
      obtain rfl : g = g' := Option.some.inj e
      rw [hg] at hg'
      cases hg'
      exact hne rfl
theorem row_form {w : World} {B size n : Nat} {e : TypeId} {v : Value} {xs : List Value} (h : w.ownsRow B e size v n xs) : ∃ q c, v = .slice q n c ∧ n ≤ c ∧ c ≤ 9223372036854775807 ∧ (q = none → c = 0) ∧ ∀ b, v.ownBlock = some b → B ≤ b ∧ b < w.heap.size := by
  rcases h.2 with ⟨rfl, rfl⟩ | ⟨g, cap, cur, rfl, hb, hg, hnc, hcm, _⟩
  · exact ⟨none, 0, rfl, Nat.le_refl _, by omega, fun _ => rfl, fun b hb => by cases hb⟩
  · exact ⟨_, cap, rfl, hnc, by unfold maxLen at hcm; omega, fun e => (by cases e), fun b hbb => by cases hbb; exact ⟨hb, (Array.getElem?_eq_some_iff.1 hg).1⟩⟩

/-- append(own, one). -/
theorem run_app1 {w : World} (ty t e : TypeId) (i : TypeInfo) (z : Value) (size bytes : Nat) (ht : Tryz.prog.underlying t = some (.slice e)) (hi : Tryz.prog.info? e = some i) (hz : i.zero = some z) (hs : i.size = size) (hb : i.bytes = bytes) (hzs : z.cells.size = size) (hp : 0 < size) (h8 : bytes ≤ 64)
    {B : Nat} {v : Value} {n : Nat} {xs : List Value} (hown : w.ownsRow B e size v n xs) {ad : Addr} {c : Nat} {news : List Value} (hl : news.length = 1 * size) (hcells : ∀ (j : Nat) u, news[j]? = some u → w.cell? (ad.add j) = some u) (h1 : ∀ u ∈ news, u.oneCell' = true) (hlen : n ≤ 1000000) (hB : B ≤ w.heap.size) :
    ∃ v' w', (Builtin.append_ #[t, t] ty #[v, .slice (some ad) 1 c]).run Tryz.prog w = .ok v' w' ∧ w'.ownsRow B e size v' (n + 1) (xs ++ news) ∧ w.grownBy w' v.ownBlock := by
  have hby : (n + 1) * bytes ≤ 140737488355328 := by
    have := Nat.mul_le_mul (show n + 1 ≤ 1000001 by omega) h8
    omega
  obtain ⟨v', w', hr, h2, h3, _⟩ := run_append_own (P := Tryz.prog) w B t ty e i z size bytes ht hi hz hs hb hzs hp v n xs hown ad 1 c news hl hcells h1 (by simp only [maxLen]; omega) (by omega) hB
  exact ⟨v', w', hr, h2, h3⟩

theorem info_key : (Tryz.prog.info? 41).map (fun i => (i.zero, i.size, i.bytes)) = some (some (.slice none 0 0), 1, 24) := by kernel_rfl
theorem info_val : (Tryz.prog.info? 156).map (fun i => (i.zero, i.size, i.bytes)) = some (some (.agg #[.slice none 0 0, .int .i64 0, .int .i64 0]), 3, 40) := by kernel_rfl

def kCells (l : List Kb) : List Value := l.map Kb.v
def vCells : List Vl → List Value
  | [] => []
  | x :: l => .slice x.q x.l.length x.c :: .int .i64 x.g :: .int .i64 x.p :: vCells l
theorem vCells_append : ∀ l m : List Vl, vCells l ++ vCells m = vCells (l ++ m)
  | [], m => rfl
  | a :: l, m => by simp only [vCells, List.cons_append, vCells_append l m]
theorem vCells_length : ∀ l : List Vl, (vCells l).length = l.length * 3
  | [] => rfl
  | a :: l => by simp only [vCells, List.length_cons, vCells_length l]; omega
theorem vCells_get : ∀ {l : List Vl} {i : Nat} {a : Vl}, l[i]? = some a → (vCells l)[i * 3]? = some (.slice a.q a.l.length a.c) ∧ (vCells l)[i * 3 + 1]? = some (.int .i64 a.g) ∧ (vCells l)[i * 3 + 2]? = some (.int .i64 a.p)
  | [], i, a, h => by simp at h
  | b :: l, 0, a, h => by
    simp only [List.getElem?_cons_zero, Option.some.injEq] at h
    subst h
    exact ⟨rfl, rfl, rfl⟩
  | b :: l, i + 1, a, h => by
    have ih := vCells_get (l := l) (i := i) (a := a) (by simpa using h)
    have e0 : (i + 1) * 3 = i * 3 + 1 + 1 + 1 := by omega
    have e1 : (i + 1) * 3 + 1 = i * 3 + 1 + 1 + 1 + 1 := by omega
    have e2 : (i + 1) * 3 + 2 = i * 3 + 2 + 1 + 1 + 1 := by omega
    rw [e1, e2, e0]
    simp only [vCells, List.getElem?_cons_succ]
    exact ih
def KOwn (w : World) (B : Nat) (v : Value) (l : List Kb) : Prop := w.ownsRow B 41 1 v l.length (kCells l)
def VOwn (w : World) (B : Nat) (v : Value) (l : List Vl) : Prop := w.ownsRow B 156 3 v l.length (vCells l)

theorem kown_lie {w : World} {B : Nat} {q : Option Addr} {n c : Nat} {l : List Kb} (h : KOwn w B (.slice q n c) l) : Kbs w q l := by
  intro hne
  rcases h.2 with ⟨_, h0⟩ | ⟨g, cap, cur, hv, hb, hg, _⟩
  · exact absurd (List.eq_nil_of_length_eq_zero h0) hne
  · cases hv
    refine ⟨g, 0, rfl, fun i x hi => ?_⟩
    have := h.cells (g := g) rfl i (.slice x.q x.l.length x.c) (by simp [kCells, hi, Kb.v])
    simpa [Addr.add_lit] using this
theorem vown_lie {w : World} {B : Nat} {q : Option Addr} {n c : Nat} {l : List Vl} (h : VOwn w B (.slice q n c) l) : Vls w q l := by
  intro hne
  rcases h.2 with ⟨_, h0⟩ | ⟨g, cap, cur, hv, hb, hg, _⟩
  · exact absurd (List.eq_nil_of_length_eq_zero h0) hne
  · cases hv
    refine ⟨g, 0, rfl, fun i x hi => ?_⟩
    obtain ⟨c0, c1, c2⟩ := vCells_get hi
    have r0 := h.cells (g := g) rfl _ _ c0
    have r1 := h.cells (g := g) rfl _ _ c1
    have r2 := h.cells (g := g) rfl _ _ c2
    rw [Addr.add_lit] at r0 r1 r2
    rw [Nat.zero_add] at r0 r1 r2 ⊢
    exact ⟨r0, r1, r2⟩

/-- As steps of a region that draws its order. -/
theorem step_appK {w : World} {ops : Array Oper} {o : Oper} {a : Act} {K : Act → World → Prop} {Q : Exit → Act → World → Prop} {E : Prop} (hgd : o.guard = none) (s x : Operand)
    (ho : o.op = .call { callee := .builtin .append, args := #[s, x], argTypes := #[151, 151] })
    {B : Nat} {v : Value} {l : List Kb} (u : Kb) (hs : a.eval s = v) (hown : KOwn w B v l) {b c : Nat} (hx : a.eval x = .slice (some ⟨b, 0, none⟩) 1 c) (h0 : w.cell? ⟨b, 0, none⟩ = some u.v) (hlen : l.length ≤ 1000000) (hB : B ≤ w.heap.size)
    (h : ∀ q n c' w', n = (l ++ [u]).length → KOwn w' B (.slice q n c') (l ++ [u]) → w.grownBy w' v.ownBlock → K (a.put o.dst (.slice q n c')) w') : if Region.wanted o (yielded ops a.tmps) = true then Oper.wp Tryz.prog o a w K Q else E := by
  have hw : Region.wanted o (yielded ops a.tmps) = true := by simp [Region.wanted, hgd]
  rw [if_pos hw]
  obtain ⟨i, hi, hz0, hz1, hz2⟩ := info_parts info_key
  obtain ⟨v', w', hr, h1, h2⟩ := run_app1 (w := w) o.type 151 41 i _ 1 24 Tryz.underlying151 hi hz0 hz1 hz2 rfl (by decide) (by decide) hown (ad := ⟨b, 0, none⟩) (c := c) (news := [u.v]) rfl (fun j y hj => by
    rw [Addr.add_lit, Nat.zero_add]
    match j, hj with
    | 0, hj => cases hj; exact h0
    | j + 1, hj => simp at hj) (fun y hy => by obtain rfl := List.mem_singleton.1 hy; rfl) hlen hB
  have h1' : KOwn w' B v' (l ++ [u]) := by
    unfold KOwn
    rw [List.length_append]
    simpa [kCells] using h1
  obtain ⟨q, c', rfl, _⟩ := row_form h1'
  exact Lib.wp_append_run w s x 151 151 ho v _ hs hx _ w' hr (h q _ c' w' rfl h1' h2)
theorem step_appV {w : World} {ops : Array Oper} {o : Oper} {a : Act} {K : Act → World → Prop} {Q : Exit → Act → World → Prop} {E : Prop} (hgd : o.guard = none) (s x : Operand)
    (ho : o.op = .call { callee := .builtin .append, args := #[s, x], argTypes := #[152, 152] })
    {B : Nat} {v : Value} {l : List Vl} (u : Vl) (hs : a.eval s = v) (hown : VOwn w B v l) {b c : Nat} (hx : a.eval x = .slice (some ⟨b, 0, none⟩) 1 c) {fr : Nat × Nat} {t : TypeId} (h0 : w.heap[b]? = some (.cells #[.slice u.q u.l.length u.c, .int .i64 u.g, .int .i64 u.p] t fr)) (hlen : l.length ≤ 1000000) (hB : B ≤ w.heap.size)
    (h : ∀ q n c' w', n = (l ++ [u]).length → VOwn w' B (.slice q n c') (l ++ [u]) → w.grownBy w' v.ownBlock → K (a.put o.dst (.slice q n c')) w') : if Region.wanted o (yielded ops a.tmps) = true then Oper.wp Tryz.prog o a w K Q else E := by
  have hw : Region.wanted o (yielded ops a.tmps) = true := by simp [Region.wanted, hgd]
  rw [if_pos hw]
  obtain ⟨i, hi, hz0, hz1, hz2⟩ := info_parts info_val
  obtain ⟨v', w', hr, h1, h2⟩ := run_app1 (w := w) o.type 152 156 i _ 3 40 Tryz.underlying152 hi hz0 hz1 hz2 rfl (by decide) (by decide) hown (ad := ⟨b, 0, none⟩) (c := c) (news := vCells [u]) rfl (fun j y hj => by
    rw [Addr.add_lit, Nat.zero_add, Joins.cell_of_block h0]
    simpa [vCells] using hj) (fun y hy => by simp only [vCells, List.mem_cons, List.not_mem_nil, or_false] at hy; rcases hy with rfl | rfl | rfl <;> rfl) hlen hB
  have h1' : VOwn w' B v' (l ++ [u]) := by
    unfold VOwn
    rw [List.length_append, ← vCells_append]
    exact h1
  obtain ⟨q, c', rfl, _⟩ := row_form h1'
  exact Lib.wp_append_run w s x 152 152 ho v _ hs hx _ w' hr (h q _ c' w' rfl h1' h2)
theorem step_appI1 {w : World} {ops : Array Oper} {o : Oper} {a : Act} {K : Act → World → Prop} {Q : Exit → Act → World → Prop} {E : Prop} (hgd : o.guard = none) (s x : Operand)
    (ho : o.op = .call { callee := .builtin .append, args := #[s, x], argTypes := #[38, 38] })
    {B : Nat} {v : Value} {l : List Int} (u : Int) (hs : a.eval s = v) (hown : OwnI w B v l) {b c : Nat} (hx : a.eval x = .slice (some ⟨b, 0, none⟩) 1 c) (h0 : w.cell? ⟨b, 0, none⟩ = some (.int .i64 u)) (hlen : l.length ≤ 1000000) (hB : B ≤ w.heap.size)
    (h : ∀ q n c' w', n = (l ++ [u]).length → OwnI w' B (.slice q n c') (l ++ [u]) → w.grownBy w' v.ownBlock → K (a.put o.dst (.slice q n c')) w') : if Region.wanted o (yielded ops a.tmps) = true then Oper.wp Tryz.prog o a w K Q else E := by
  have hw : Region.wanted o (yielded ops a.tmps) = true := by simp [Region.wanted, hgd]
  rw [if_pos hw]
  obtain ⟨i, hi, hz0, hz1, hz2⟩ := info_parts info_int
  obtain ⟨v', w', hr, h1, h2⟩ := run_app1 (w := w) o.type 38 3 i _ 1 8 Tryz.underlying38 hi hz0 hz1 hz2 rfl (by decide) (by decide) hown (ad := ⟨b, 0, none⟩) (c := c) (news := [.int .i64 u]) rfl (fun j y hj => by
    rw [Addr.add_lit, Nat.zero_add]
    match j, hj with
    | 0, hj => cases hj; exact h0
    | j + 1, hj => simp at hj) (fun y hy => by obtain rfl := List.mem_singleton.1 hy; rfl) hlen hB
  have h1' : OwnI w' B v' (l ++ [u]) := by
    unfold OwnI
    rw [List.length_append]
    simpa [i64s] using h1
  obtain ⟨q, c', rfl, _⟩ := row_form h1'
  exact Lib.wp_append_run w s x 38 38 ho v _ hs hx _ w' hr (h q _ c' w' rfl h1' h2)

/-- A key, a value of the page's own bytes (below g). -/
structure KIn (w : World) (g : Nat) (x : Kb) : Prop where
  bs : Bs w x.q x.l
  c : x.c = x.l.length
  z : x.q = none → x.c = 0
  lo : ∀ a, x.q = some a → Lo w g a
  len : x.l.length ≤ 100000
structure VIn (w : World) (g : Nat) (x : Vl) : Prop where
  bs : Bs w x.q x.l
  c : x.c = x.l.length
  z : x.q = none → x.c = 0
  lo : ∀ a, x.q = some a → Lo w g a
  len : x.l.length ≤ 100000
  g1 : 0 ≤ x.g ∧ x.g ≤ 65535
  p1 : 0 ≤ x.p ∧ x.p ≤ 65535
theorem KIn.low {w w' : World} {g : Nat} {x : Kb} (h : KIn w g x) (hb : Below g w w') : KIn w' g x := ⟨h.bs.low' h.lo hb, h.c, h.z, fun a ha => (h.lo a ha).low hb, h.len⟩
theorem VIn.low {w w' : World} {g : Nat} {x : Vl} (h : VIn w g x) (hb : Below g w w') : VIn w' g x := ⟨h.bs.low' h.lo hb, h.c, h.z, fun a ha => (h.lo a ha).low hb, h.len, h.g1, h.p1⟩
theorem KIn.ok {w : World} {g : Nat} {x : Kb} (h : KIn w g x) : x.Ok w := ⟨h.bs, by rw [h.c]; exact Nat.le_refl _, by have := h.c; have := h.len; omega, h.z⟩
theorem VIn.ok {w : World} {g : Nat} {x : Vl} (h : VIn w g x) : x.Ok w := ⟨h.bs, by rw [h.c]; exact Nat.le_refl _, by have := h.c; have := h.len; omega, h.z, by have := h.g1; omega, by have := h.g1; omega, by have := h.p1; omega, by have := h.p1; omega⟩

theorem KIn.ty {w : World} {g : Nat} {x : Kb} (h : KIn w g x) : x.Ty w := fun a ha => (h.lo a ha).2
theorem VIn.ty {w : World} {g : Nat} {x : Vl} (h : VIn w g x) : x.Ty w := fun a ha => (h.lo a ha).2

theorem leN_one (l : List UInt8) : leN (l.take 1) ≤ 255 := by
  cases l with
  | nil => simp [leN]
  | cons a l => have := a.toNat_lt; simp [leN]; omega
theorem leN_two (l : List UInt8) : leN (l.take 2) ≤ 65535 := by
  match l with
  | [] => simp [leN]
  | [a] => have := a.toNat_lt; simp [leN]; omega
  | a :: b :: l => have := a.toNat_lt; have := b.toNat_lt; simp [leN]; omega

/-- What is read of the bytes that are left: a text, a value. -/
def textR (l : List UInt8) : List UInt8 × List UInt8 := ((l.drop 1).take (leN (l.take 1)), (l.drop 1).drop (leN (l.take 1)))
def valR (l : List UInt8) : VlS × List UInt8 :=
  if leN (l.take 1) = 255 then (⟨[], (leN ((l.drop 1).take 2) : Nat), (leN (((l.drop 1).drop 2).take 2) : Nat)⟩, ((l.drop 1).drop 2).drop 2)
  else (⟨(l.drop 1).take (leN (l.take 1)), 0, 0⟩, (l.drop 1).drop (leN (l.take 1)))
def TextPost (w : World) (g : Nat) (t l : List UInt8) (e : Ending) (w' : World) : Prop := ∃ x : Kb, e = .returned (.slice x.q x.l.length x.c) ∧ x.l = t ∧ KIn w' g x ∧ Rs w' g l ∧ w.grownBy w' (some g)
def ValPost (w : World) (g : Nat) (v : VlS) (l : List UInt8) (e : Ending) (w' : World) : Prop := ∃ x : Vl, e = .returned x.cell ∧ x.s = v ∧ VIn w' g x ∧ Rs w' g l ∧ w.grownBy w' (some g)

set_option maxHeartbeats 800000 in
theorem text_any {w : World} {g : Nat} {l : List UInt8} (h : Rs w g l) (hl : l.length ≤ 100000) :
    Calls Tryz.prog 215 #[.pointer (some ⟨g, 0, none⟩)] w (TextPost w g (textR l).1 (textR l).2) := by
  have HN := Lib.hid (number_any h hl 1 (by omega))
  have h255 := leN_one l
  unfold textR
  dsimp only
  have hd : (l.drop 1).length ≤ 100000 := by rw [List.length_drop]; omega
  generalize leN (l.take 1) = k at *
  generalize l.drop 1 = d at *
  have HP := Lib.hid (fun (w : World) (h : Rs w g d) => part_any h hd k (by omega))
  clear h hl
  have HTL : Hid ((d.take k).length ≤ 100000) := Lib.hid (by rw [List.length_take]; omega)
  generalize d.take k = T at *
  generalize d.drop k = D at *
  go_enter Tryz.func215, Tryz.ntmps215
  go_wp2_with fail
  refine HN.out.mono ?_
  rintro e w1 ⟨rfl, hr, hg⟩
  have HG := Lib.hid hg
  have HR := Lib.hid hr
  clear hr hg HN
  go_wp2_with fail
  refine (HP.out _ HR.out).mono ?_
  rintro e w2 ⟨p, m, rfl, hm, hbs, hz, hlo, hr, hg⟩
  have HF : Hid (TextPost w g T D (.returned (.slice p m m)) w2) := Lib.hid ⟨⟨p, m, T⟩, by rw [hm], rfl, ⟨hbs, hm, hz, hlo, HTL.out⟩, hr, gb_trans HG.out hg⟩
  clear hm hbs hz hlo hr hg
  go_wp2
  go_ret
  exact HF.out

end Go.Proofs.YtngnmakeaniapaaGreatDoor

set_option linter.unusedVariables false
set_option linter.unusedSimpArgs false
set_option maxRecDepth 100000
namespace Go.Proofs.YtngnmakeaniapaaGreatDoor
open Go.RowKit

theorem set3 {w : World} {R : Nat} {x y z a b c : Value} {t : TypeId} (h : w.heap[R]? = some (.cells #[x, y, z] t (0, 0))) :
    (((w.setCell ⟨R, 0, none⟩ a).setCell ⟨R, 1, none⟩ b).setCell ⟨R, 2, none⟩ c).heap[R]? = some (.cells #[a, b, c] t (0, 0)) := by
  simp [World.setCell, Array.getElem?_modify, h]
theorem below3 {B R : Nat} {w0 w : World} (h : Below B w0 w) (hR : B ≤ R) (a b c : Value) : Below B w0 (((w.setCell ⟨R, 0, none⟩ a).setCell ⟨R, 1, none⟩ b).setCell ⟨R, 2, none⟩ c) :=
  ((h.setCell (p := ⟨R, 0, none⟩) hR a).setCell (p := ⟨R, 1, none⟩) hR b).setCell (p := ⟨R, 2, none⟩) hR c
theorem gb_on {w w1 w2 : World} {g : Nat} (h : w.grownBy w1 (some g)) (hb : Below w.heap.size w1 w2) : w.grownBy w2 (some g) :=
  ⟨hb.os.trans h.os, hb.tape.trans h.tape, hb.output.trans h.output, Nat.le_trans h.size hb.size, fun k hk hne => (hb.block k hk).trans (h.block k hk hne)⟩

/-- The result's box, new and kept. -/
def VBox0 (w : World) (R : Nat) : Prop := w.heap[R]? = some (.cells #[.slice none 0 0, .int .i64 0, .int .i64 0] 156 (0, 0))
theorem VBox0.kept {w w' : World} {R g : Nat} (h : VBox0 w R) (hg : w.grownBy w' (some g)) (hne : R ≠ g) : VBox0 w' R :=
  (hg.block R (Array.getElem?_eq_some_iff.1 h).1 (fun e => hne (Option.some.inj e))).trans h
theorem VBox0.cells {w : World} {R : Nat} (h : VBox0 w R) : (w.cell? ⟨R, 0, none⟩ = some (.slice none 0 0) ∧ w.frozen? ⟨R, 0, none⟩ = false) ∧ (w.cell? ⟨R, 1, none⟩ = some (.int .i64 0) ∧ w.frozen? ⟨R, 1, none⟩ = false) ∧ (w.cell? ⟨R, 2, none⟩ = some (.int .i64 0) ∧ w.frozen? ⟨R, 2, none⟩ = false) :=
  ⟨⟨Joins.cell_of_block h 0, Joins.unfrozen_of_block h 0⟩, ⟨Joins.cell_of_block h 1, Joins.unfrozen_of_block h 1⟩, ⟨Joins.cell_of_block h 2, Joins.unfrozen_of_block h 2⟩⟩

set_option maxHeartbeats 1600000 in
theorem rval_any {w : World} {g : Nat} {l : List UInt8} (h : Rs w g l) (hl : l.length ≤ 100000) :
    Calls Tryz.prog 216 #[.pointer (some ⟨g, 0, none⟩)] w (ValPost w g (valR l).1 (valR l).2) := by
  have hlt := h.lt
  obtain ⟨W, hW⟩ : ∃ W, W = w.alloc (.cells #[.slice none 0 0, .int .i64 0, .int .i64 0] 156) := ⟨_, rfl⟩
  have HB0 : Hid (VBox0 W w.heap.size) := Lib.hid (by rw [hW]; exact heap_alloc_new w _)
  have HBW : Hid (Below w.heap.size w W) := Lib.hid (by rw [hW]; exact (Below.refl _ _).alloc (Nat.le_refl _) _)
  have HG0 : Hid (w.grownBy W (some g)) := Lib.hid (gb_below HBW.out)
  have HNE : Hid (w.heap.size ≠ g) := Lib.hid (by omega)
  have HR0 := Lib.hid (h.below HBW.out)
  have HN := Lib.hid (number_any HR0.out hl 1 (by omega))
  have h255 := leN_one l
  unfold valR
  have hd : (l.drop 1).length ≤ 100000 := by rw [List.length_drop]; omega
  generalize leN (l.take 1) = k at *
  generalize l.drop 1 = d at *
  have HSZ : Hid (∀ {w'}, w.grownBy w' (some g) → w.heap.size ≤ w'.heap.size) := Lib.hid fun h => h.size
  clear h hl
  by_cases hk : k = 255
  · subst hk
    rw [if_pos rfl]
    dsimp only
    have hd2 : (d.drop 2).length ≤ 100000 := by rw [List.length_drop]; omega
    have h1 := leN_two d
    have h2 := leN_two (d.drop 2)
    have HN1 := Lib.hid (fun (w : World) (h : Rs w g d) => number_any h hd 2 (by omega))
    have HN2 := Lib.hid (fun (w : World) (h : Rs w g (d.drop 2)) => number_any h hd2 2 (by omega))
    generalize d.drop 2 = d2 at *
    generalize d2.drop 2 = d4 at *
    generalize leN (d.take 2) = n1 at *
    generalize leN (d2.take 2) = n2 at *
    clear hd hd2
    go_enter Tryz.func216, Tryz.ntmps216
    go_wp2_with fail
    rw [← hW]
    replace hW := Lib.hid hW
    refine HN.out.mono ?_
    rintro e w1 ⟨rfl, hr, hg⟩
    have HB1 := Lib.hid (HB0.out.kept hg HNE.out)
    have HG1 := Lib.hid (gb_trans HG0.out hg)
    have HR1 := Lib.hid hr
    clear hr hg HN
    go_wp2_with fail
    refine (HN1.out _ HR1.out).mono ?_
    rintro e w2 ⟨rfl, hr, hg⟩
    have HB2 := Lib.hid (HB1.out.kept hg HNE.out)
    have HG2 := Lib.hid (gb_trans HG1.out hg)
    have HR2 := Lib.hid hr
    clear hr hg HN1
    go_wp2_with fail
    refine (HN2.out _ HR2.out).mono ?_
    rintro e w3 ⟨rfl, hr, hg⟩
    have HB3 := Lib.hid (HB2.out.kept hg HNE.out)
    have HG3 := Lib.hid (gb_trans HG2.out hg)
    have HR3 := Lib.hid hr
    clear hr hg HN2
    obtain ⟨⟨a0, u0⟩, ⟨a1, u1⟩, a2, u2⟩ := HB3.out.cells
    have hlt3 : w.heap.size < w3.heap.size := (Array.getElem?_eq_some_iff.1 HB3.out).1
    go_wp2
    refine bodyPost_ret (results_cell_row rfl _ _ w.heap.size 156 _ (0, 0) _ (by kernel_rfl) (set3 HB3.out) Tryz.underlying156 rfl (by kernel_rfl)) rfl ?_
    have hb3 := below3 (Below.refl w.heap.size w3) (Nat.le_refl _) (.slice none 0 0) (.int .i64 (n1 : Int)) (.int .i64 (n2 : Int))
    exact ⟨⟨none, 0, [], n1, n2⟩, rfl, rfl, ⟨Bs.nil _ _, rfl, fun _ => rfl, fun a h => (by cases h), Nat.zero_le _, ⟨by show (0 : Int) ≤ (n1 : Int); omega, by show (n1 : Int) ≤ _; omega⟩, ⟨by show (0 : Int) ≤ (n2 : Int); omega, by show (n2 : Int) ≤ _; omega⟩⟩, HR3.out.low (hb3.mono (by omega)), gb_on HG3.out hb3⟩
  · rw [if_neg hk]
    dsimp only
    have HP := Lib.hid (fun (w : World) (h : Rs w g d) => part_any h hd k (by omega))
    have HTL : Hid ((d.take k).length ≤ 100000) := Lib.hid (by rw [List.length_take]; omega)
    generalize d.take k = T at *
    generalize d.drop k = D at *
    have hkb : ((k : Int) != 255) = true := by rw [bne_iff_ne]; omega
    clear hk hd
    go_enter Tryz.func216, Tryz.ntmps216
    go_wp2_with fail
    rw [← hW]
    replace hW := Lib.hid hW
    refine HN.out.mono ?_
    rintro e w1 ⟨rfl, hr, hg⟩
    have HB1 := Lib.hid (HB0.out.kept hg HNE.out)
    have HG1 := Lib.hid (gb_trans HG0.out hg)
    have HR1 := Lib.hid hr
    clear hr hg HN
    go_wp2_with fail
    refine (HP.out _ HR1.out).mono ?_
    rintro e w2 ⟨p, m, rfl, hm, hbs, hz, hlo, hr, hg⟩
    have HB2 := Lib.hid (HB1.out.kept hg HNE.out)
    have HG2 := Lib.hid (gb_trans HG1.out hg)
    have HR2 := Lib.hid hr
    have HX : Hid (VIn w2 g ⟨p, m, T, 0, 0⟩ ∧ m = T.length) := Lib.hid ⟨⟨hbs, hm, hz, hlo, HTL.out, ⟨by show (0 : Int) ≤ 0; omega, by show (0 : Int) ≤ _; omega⟩, ⟨by show (0 : Int) ≤ 0; omega, by show (0 : Int) ≤ _; omega⟩⟩, hm⟩
    clear hr hg HP hm hbs hz hlo
    obtain ⟨⟨a0, u0⟩, ⟨a1, u1⟩, a2, u2⟩ := HB2.out.cells
    have hlt3 : w.heap.size < w2.heap.size := (Array.getElem?_eq_some_iff.1 HB2.out).1
    go_wp2
    refine bodyPost_ret (results_cell_row rfl _ _ w.heap.size 156 _ (0, 0) _ (by kernel_rfl) (set3 HB2.out) Tryz.underlying156 rfl (by kernel_rfl)) rfl ?_
    have hb3 := below3 (Below.refl w.heap.size w2) (Nat.le_refl _) (.slice p m m) (.int .i64 0) (.int .i64 0)
    exact ⟨⟨p, m, T, 0, 0⟩, by unfold Vl.cell; dsimp only; rw [← HX.out.2], rfl, HX.out.1.low (hb3.mono (by omega)), HR2.out.low (hb3.mono (by omega)), gb_on HG2.out hb3⟩

end Go.Proofs.YtngnmakeaniapaaGreatDoor

