/-
  General laws on byte slices, for the walks over this translation: bytes that lie at an address (Bs), a slice of the call's own (Own), append, string(b), and internal/bytealg.Compare.
-/
import Derived.Test.YtbbgdbnjmonbgabGreatDoorProg
import Derived.Test.YtbbgdbnjmonbgabGreatDoorBase
import Derived.WalkKit
import Derived.WalkSpells
import Derived.WalkLawsBesides
import Derived.Laws.AppendOwnNone
import Derived.Laws.BytesArg
import Derived.Deep.Onto
import Derived.Lib.Hide
import Derived.Lib.AppendZeros
import Derived.RegionTactic
import Derived.Lib.Bytealg
import Derived.Lib.UnsafeStr
import Derived.Lib.SmallJoins
set_option linter.unusedVariables false
set_option maxRecDepth 100000
namespace Go.Proofs.YtbbgdbnjmonbgabGreatDoor
open Go.RowKit

theorem ret3_int {k : IntKind} {a b : Int} {x y : Value} (h : a = b) : Ending.returned (.tuple #[.int k a, x, y]) = .returned (.tuple #[.int k b, x, y]) := by rw [h]

/-- The cells of bytes. -/
def u8s (l : List UInt8) : List Value := l.map fun u => Value.int .u8 (u.toNat : Int)

theorem u8s_length (l : List UInt8) : (u8s l).length = l.length := by simp [u8s]
theorem u8s_append (l m : List UInt8) : u8s l ++ u8s m = u8s (l ++ m) := by simp [u8s]
theorem u8s_get {l : List UInt8} {i : Nat} {v : Value} (h : (u8s l)[i]? = some v) : ∃ u, l[i]? = some u ∧ v = .int .u8 (u.toNat : Int) := by
  simp only [u8s, List.getElem?_map, Option.map_eq_some_iff] at h
  obtain ⟨u, h1, h2⟩ := h
  exact ⟨u, h1, h2.symm⟩
theorem u8s_oneCell (l : List UInt8) : ∀ v ∈ u8s l, v.oneCell' = true := by
  intro v hv
  obtain ⟨u, _, rfl⟩ := List.mem_map.1 hv
  rfl

/-- The bytes l lie at p (of no bytes nothing is said). -/
def Bs (w : World) (p : Option Addr) (l : List UInt8) : Prop :=
  l ≠ [] → ∃ b o, p = some ⟨b, o, none⟩ ∧ ∀ i u, l[i]? = some u → w.cell? ⟨b, o + i, none⟩ = some (.int .u8 (u.toNat : Int))

theorem Bs.nil (w : World) (p : Option Addr) : Bs w p [] := fun h => absurd rfl h

theorem Bs.at {w : World} {p : Option Addr} {l : List UInt8} (h : Bs w p l) (hn : 0 < l.length) :
    ∃ b o, p = some ⟨b, o, none⟩ ∧ b < w.heap.size ∧ ∀ i (hi : i < l.length), w.cell? ⟨b, o + i, none⟩ = some (.int .u8 (l[i].toNat : Int)) := by
  obtain ⟨b, o, hp, hc⟩ := h (by intro h; subst h; simp at hn)
  refine ⟨b, o, hp, ?_, fun i hi => hc i _ (List.getElem?_eq_getElem hi)⟩
  have := World.block_lt_of_cell? _ _ (hc 0 _ (List.getElem?_eq_getElem hn))
  exact this

theorem Bs.cell {w : World} {b o : Nat} {l : List UInt8} (h : Bs w (some ⟨b, o, none⟩) l) {i : Nat} (hi : i < l.length) : w.cell? ⟨b, o + i, none⟩ = some (.int .u8 (l[i].toNat : Int)) := by
  obtain ⟨b', o', hp, _, hc⟩ := h.at (by omega)
  simp only [Option.some.injEq, Addr.mk.injEq, and_true] at hp
  obtain ⟨rfl, rfl⟩ := hp
  exact hc i hi

theorem Bs.below {w w' : World} {p : Option Addr} {l : List UInt8} (h : Bs w p l) (hb : Below w.heap.size w w') : Bs w' p l := by
  intro hne
  obtain ⟨b, o, hp, hc⟩ := h hne
  refine ⟨b, o, hp, fun i u hi => ?_⟩
  have h1 := hc i u hi
  have h2 := World.block_lt_of_cell? _ _ h1
  rw [hb.cell h2]
  exact h1

theorem Bs.drew {w : World} {p : Option Addr} {l : List UInt8} (h : Bs w p l) : Bs w.drew p l := h.below (Below.drew (Below.refl _ _))
theorem Bs.drewN {w : World} {p : Option Addr} {l : List UInt8} (h : Bs w p l) (n : Nat) : Bs (w.drewN n) p l := h.below (belowN (Below.refl _ _) n)
theorem Bs.alloc {w : World} {p : Option Addr} {l : List UInt8} (h : Bs w p l) (o : Obj) : Bs (w.alloc o) p l := h.below (Below.alloc (Below.refl _ _) (Nat.le_refl _) _)
theorem Bs.take {w : World} {p : Option Addr} {l : List UInt8} (h : Bs w p l) (k : Nat) : Bs w p (l.take k) := by
  intro hne
  obtain ⟨b, o, hp, hc⟩ := h (by intro e; subst e; simp at hne)
  refine ⟨b, o, hp, fun i u hi => hc i u ?_⟩
  rw [List.getElem?_take] at hi
  split at hi
  · exact hi
  · cases hi

theorem Bs.drop {w : World} {b o : Nat} {l : List UInt8} (h : ∀ i u, l[i]? = some u → w.cell? ⟨b, o + i, none⟩ = some (.int .u8 (u.toNat : Int))) (k : Nat) : Bs w (some ⟨b, o + k, none⟩) (l.drop k) := by
  intro _
  refine ⟨b, o + k, rfl, fun i u hi => ?_⟩
  rw [List.getElem?_drop] at hi
  rw [Nat.add_assoc]
  exact h (k + i) u hi

/-- A block that is known whole: the bytes that it holds. -/
theorem Bs.of_block {w : World} {g : Nat} {cs : Array Value} {t : TypeId} {fr : Nat × Nat} {l : List UInt8} (h : w.heap[g]? = some (.cells cs t fr)) (hc : cs = (u8s l).toArray) : Bs w (some ⟨g, 0, none⟩) l := by
  subst hc
  intro _
  refine ⟨g, 0, rfl, fun i u hi => ?_⟩
  rw [Joins.cell_of_block h]
  simp [u8s, hi]
theorem Bs.new (w : World) (t : TypeId) (fr : Nat × Nat) (cs : Array Value) {g : Nat} (hg : g = w.heap.size) {l : List UInt8} (hc : cs = (u8s l).toArray) : Bs (w.alloc (.cells cs t fr)) (some ⟨g, 0, none⟩) l := by
  subst hg
  exact Bs.of_block (heap_alloc_new w _) hc

theorem Bs.one (w : World) (t : TypeId) (fr : Nat × Nat) {g : Nat} (hg : g = w.heap.size) {x : Int} {b : UInt8} (hx : x = (b.toNat : Int)) : Bs (w.alloc (.cells #[.int .u8 x] t fr)) (some ⟨g, 0, none⟩) [b] := by
  subst hx
  exact Bs.new w t fr _ hg rfl

/-- A slice of the call's own that holds the bytes l. -/
def Own (w : World) (B : Nat) (v : Value) (l : List UInt8) : Prop := w.ownsRow B 5 1 v l.length (u8s l)

theorem Own.nil (w : World) (B : Nat) : Own w B (.slice none 0 0) [] := World.ownsRow_nil w B _ _

theorem Own.form {w : World} {B : Nat} {v : Value} {l : List UInt8} (h : Own w B v l) {n : Nat} (hn : n = l.length) :
    ∃ p c, v = .slice p n c ∧ n ≤ c ∧ c ≤ 9223372036854775807 ∧ Bs w p l ∧ (p = none → c = 0) := by
  subst hn
  rcases h.2 with ⟨rfl, h0⟩ | ⟨g, cap, cur, rfl, hb, hg, hnc, hcm, hcs, htake⟩
  · obtain rfl := List.eq_nil_of_length_eq_zero h0
    exact ⟨none, 0, rfl, Nat.le_refl _, by omega, Bs.nil _ _, fun _ => rfl⟩
  · refine ⟨some ⟨g, 0, none⟩, cap, rfl, hnc, by simp only [maxLen] at hcm; omega, ?_, fun h => by cases h⟩
    intro _
    refine ⟨g, 0, rfl, fun i u hi => ?_⟩
    have := h.cells (g := g) rfl i (.int .u8 (u.toNat : Int)) (by simp [u8s, hi])
    simpa [Addr.add_lit] using this

/-- With where it lies: a block of the call's own, none of whose cells is frozen. -/
theorem Own.some {w : World} {B : Nat} {v : Value} {l : List UInt8} (h : Own w B v l) {n : Nat} (hn : n = l.length) (h0 : 0 < n) :
    ∃ g c, v = .slice (some ⟨g, 0, none⟩) n c ∧ n ≤ c ∧ c ≤ 9223372036854775807 ∧ B ≤ g ∧ g < w.heap.size ∧
      (∀ i (hi : i < l.length), w.cell? ⟨g, i, none⟩ = some (.int .u8 (l[i].toNat : Int))) ∧ ∀ j, w.frozen? ⟨g, j, none⟩ = false := by
  obtain ⟨p, c, hv, h1, h2, h3, _⟩ := h.form hn
  subst hn
  rcases h.2 with ⟨rfl, h0⟩ | ⟨g, cap, cur, rfl, hb, hg, hnc, hcm, hcs, htake⟩
  · omega
  · simp only [Value.slice.injEq] at hv
    obtain ⟨rfl, _, rfl⟩ := hv
    refine ⟨g, cap, rfl, h1, h2, hb, ?_, fun i hi => ?_, fun j => Joins.unfrozen_of_block hg j⟩
    · exact (Array.getElem?_eq_some_iff.1 hg).1
    · obtain ⟨b, o, hp, _, hc⟩ := h3.at h0
      simp only [Option.some.injEq, Addr.mk.injEq, and_true] at hp
      obtain ⟨rfl, rfl⟩ := hp
      have := hc i hi
      rwa [Nat.zero_add] at this

theorem Own.le {w : World} {B B' : Nat} {v : Value} {l : List UInt8} (h : Own w B v l) (hb : B' ≤ B) : Own w B' v l := World.ownsRow.mono h hb

theorem Own.below {w w' : World} {B : Nat} {v : Value} {l : List UInt8} (h : Own w B v l) (hb : Below w.heap.size w w') : Own w' B v l := by
  refine ⟨h.1, ?_⟩
  rcases h.2 with h0 | ⟨g, cap, cur, hv, h1, hg, h2⟩
  · exact .inl h0
  · exact .inr ⟨g, cap, cur, hv, h1, by rw [hb.block g (Array.getElem?_eq_some_iff.1 hg).1]; exact hg, h2⟩

theorem Own.alloc {w : World} {B : Nat} {v : Value} {l : List UInt8} (h : Own w B v l) (o : Obj) : Own (w.alloc o) B v l := World.ownsRow.alloc h o
theorem Own.drew {w : World} {B : Nat} {v : Value} {l : List UInt8} (h : Own w B v l) : Own w.drew B v l := h

/-- []byte{} -/
theorem Own.empty (w : World) (B : Nat) (hB : B ≤ w.heap.size) : Own (w.alloc (.cells #[] 5)) B (.slice (.some ⟨w.heap.size, 0, none⟩) 0 0) [] :=
  World.ownsRow_made w #[] 0 hB (by simp [maxLen]) rfl

/-- A byte is stored. -/
theorem Own.stored {w : World} {B g c n : Nat} {l : List UInt8} (h : Own w B (.slice (.some ⟨g, 0, none⟩) n c) l) (hn : n = l.length) (j : Nat) (u : UInt8) {x : Int} (hx : x = (u.toNat : Int)) :
    Own (w.setCell ⟨g, j, none⟩ (.int .u8 x)) B (.slice (.some ⟨g, 0, none⟩) n c) (l.set j u) := by
  subst hn hx
  have h1 := (World.ownsRow.stored h j (.int .u8 (u.toNat : Int))).1
  have h2 : u8s (l.set j u) = (u8s l).set j (.int .u8 (u.toNat : Int)) := by simp [u8s, List.map_set]
  unfold Own
  rw [h2, List.length_set]
  exact h1

/-- What an append leaves is below as it was. -/
theorem Own.grown {w0 w w' : World} {B : Nat} {v : Value} {l : List UInt8} (h : Own w B v l) (hb : Below B w0 w) (hB : B ≤ w.heap.size) (hg : w.grownBy w' v.ownBlock) : Below B w0 w' :=
  hb.grown hg hB fun k hk => (World.ownsRow.lt h k hk).1

theorem info_u8 : (Tryz.prog.info? 5).map (fun i => (i.zero, i.size, i.bytes)) = some (some (.int .u8 0), 1, 1) := by kernel_rfl

/-- Two boxes. -/
theorem boxes (w : World) (C D : Array Value) (s t : TypeId) :
    ((w.alloc (.cells C s)).alloc (.cells D t)).heap[w.heap.size]? = some (.cells C s (0, 0)) ∧ ((w.alloc (.cells C s)).alloc (.cells D t)).heap[w.heap.size + 1]? = some (.cells D t (0, 0)) ∧
    Below w.heap.size w ((w.alloc (.cells C s)).alloc (.cells D t)) ∧ ((w.alloc (.cells C s)).alloc (.cells D t)).heap.size = w.heap.size + 2 := by
  have h1 : (w.alloc (.cells C s)).heap.size = w.heap.size + 1 := by simp
  refine ⟨?_, ?_, ((Below.refl w.heap.size w).alloc (Nat.le_refl _) _).alloc (by omega) _, by simp⟩
  · rw [Below.heap_alloc _ _ _ (by omega)]
    exact heap_alloc_new w _
  · have := heap_alloc_new (w.alloc (.cells C s)) (.cells D t)
    rw [h1] at this
    exact this

/-- Three boxes. -/
theorem boxes3 (w : World) (C D F : Array Value) (s t r : TypeId) :
    (((w.alloc (.cells C s)).alloc (.cells D t)).alloc (.cells F r)).heap[w.heap.size]? = some (.cells C s (0, 0)) ∧ (((w.alloc (.cells C s)).alloc (.cells D t)).alloc (.cells F r)).heap[w.heap.size + 1]? = some (.cells D t (0, 0)) ∧
    (((w.alloc (.cells C s)).alloc (.cells D t)).alloc (.cells F r)).heap[w.heap.size + 2]? = some (.cells F r (0, 0)) ∧
    Below w.heap.size w (((w.alloc (.cells C s)).alloc (.cells D t)).alloc (.cells F r)) ∧ (((w.alloc (.cells C s)).alloc (.cells D t)).alloc (.cells F r)).heap.size = w.heap.size + 3 := by
  obtain ⟨h1, h2, h3, h4⟩ := boxes w C D s t
  refine ⟨?_, ?_, ?_, h3.alloc (by omega) _, by simp⟩
  · rw [Below.heap_alloc _ _ _ (by omega)]; exact h1
  · rw [Below.heap_alloc _ _ _ (by omega)]; exact h2
  · have := heap_alloc_new ((w.alloc (.cells C s)).alloc (.cells D t)) (.cells F r)
    rw [h4] at this
    exact this

/-- append(own, bytes...): the source wherever it lies, nil too. -/
theorem app_own {w : World} {ops : Array Oper} {rest : List Oper} {o : Oper} {a : Act} {Q : Exit → Act → World → Prop} (hgd : o.guard = none) (s x : Operand)
    (ho : o.op = .call { callee := .builtin .append, args := #[s, x], argTypes := #[97, 97] })
    {B : Nat} {v : Value} {l m : List UInt8} (hs : a.eval s = v) (hown : Own w B v l) {p : Option Addr} {n c : Nat} (hn : n = m.length) (hx : a.eval x = .slice p n c) (hsrc : Bs w p m) (hp : p = none → c = 0)
    (hlen : l.length + m.length ≤ 140737488355328) (hB : B ≤ w.heap.size)
    (h : ∀ v' w', Own w' B v' (l ++ m) → Below B w w' → wpList Tryz.prog ops Q rest (a.put o.dst v') w') : wpList Tryz.prog ops Q (o :: rest) a w := by
  subst hn
  obtain ⟨i, hi, hz0, hz1, hz2⟩ := info_parts info_u8
  cases p with
  | none =>
    obtain rfl : m = [] := by
      rcases m with _ | ⟨u, m⟩
      · rfl
      · obtain ⟨b, o, hp, _⟩ := hsrc (by simp)
        cases hp
    obtain rfl := hp rfl
    have hx' : a.eval x = .slice none 0 0 := hx
    refine wpList_append_own_none hgd s x _ ho B 5 i 1 Tryz.underlying97 hi v l.length (u8s l) hs hown hx' ?_
    exact h v w (by simpa using hown) (Below.refl _ _)
  | some ad =>
    have hcells : ∀ j u, (u8s m)[j]? = some u → w.cell? (ad.add j) = some u := by
      intro j u hj
      obtain ⟨y, hy, rfl⟩ := u8s_get hj
      obtain ⟨b, o, hp, hc⟩ := hsrc (by intro e; subst e; simp at hy)
      obtain rfl := Option.some.inj hp
      rw [Addr.add_lit]
      exact hc j y hy
    refine wpList_append_own w hgd s x _ ho B 5 i (.int .u8 0) 1 1 Tryz.underlying97 hi hz0 hz1 hz2 rfl (by decide) v l.length (u8s l) hs hown ad m.length c (u8s m) hx (by simp [u8s]) hcells (u8s_oneCell m) (by simp only [maxLen]; omega) (by omega) hB ?_
    intro v' w' h1 h2 _
    refine h v' w' ?_ (hown.grown (Below.refl _ _) hB h2)
    unfold Own
    rw [← u8s_append, List.length_append]
    exact h1

/-- The same, as a run. -/
theorem run_app {w : World} (ty : TypeId) {B : Nat} {v : Value} {l m : List UInt8} (hown : Own w B v l) {p : Option Addr} {n c : Nat} (hn : n = m.length) (hsrc : Bs w p m) (hp : p = none → c = 0)
    (hlen : l.length + m.length ≤ 140737488355328) (hB : B ≤ w.heap.size) :
    ∃ v' w', (Builtin.append_ #[97, 97] ty #[v, .slice p n c]).run Tryz.prog w = .ok v' w' ∧ Own w' B v' (l ++ m) ∧ Below B w w' := by
  subst hn
  obtain ⟨i, hi, hz0, hz1, hz2⟩ := info_parts info_u8
  cases p with
  | none =>
    obtain rfl : m = [] := by
      rcases m with _ | ⟨u, m⟩
      · rfl
      · obtain ⟨b, o, hp, _⟩ := hsrc (by simp)
        cases hp
    obtain rfl := hp rfl
    have hrun := run_append_owned_none (P := Tryz.prog) (w := w) B 97 ty 5 i 1 Tryz.underlying97 hi v l.length (u8s l) hown
    exact ⟨v, w, hrun, by simpa using hown, Below.refl _ _⟩
  | some ad =>
    have hcells : ∀ j u, (u8s m)[j]? = some u → w.cell? (ad.add j) = some u := by
      intro j u hj
      obtain ⟨y, hy, rfl⟩ := u8s_get hj
      obtain ⟨b, o, hp, hc⟩ := hsrc (by intro e; subst e; simp at hy)
      obtain rfl := Option.some.inj hp
      rw [Addr.add_lit]
      exact hc j y hy
    obtain ⟨v', w', hr, h1, h2, _⟩ := run_append_own (P := Tryz.prog) w B 97 ty 5 i (.int .u8 0) 1 1 Tryz.underlying97 hi hz0 hz1 hz2 rfl (by decide) v l.length (u8s l) hown ad m.length c (u8s m) (by simp [u8s]) hcells (u8s_oneCell m) (by simp only [maxLen]; omega) (by omega) hB
    refine ⟨v', w', hr, ?_, hown.grown (Below.refl _ _) hB h2⟩
    unfold Own
    rw [← u8s_append, List.length_append]
    exact h1

/-- The same, as a step of a region that draws its order. -/
theorem step_app {w : World} {ops : Array Oper} {o : Oper} {a : Act} {K : Act → World → Prop} {Q : Exit → Act → World → Prop} {E : Prop} (hg : o.guard = none) (s x : Operand)
    (ho : o.op = .call { callee := .builtin .append, args := #[s, x], argTypes := #[97, 97] })
    {B : Nat} {v : Value} {l m : List UInt8} (hs : a.eval s = v) (hown : Own w B v l) {p : Option Addr} {n c : Nat} (hn : n = m.length) (hx : a.eval x = .slice p n c) (hsrc : Bs w p m) (hp : p = none → c = 0)
    (hlen : l.length + m.length ≤ 140737488355328) (hB : B ≤ w.heap.size)
    (h : ∀ v' w', Own w' B v' (l ++ m) → Below B w w' → K (a.put o.dst v') w') : if Region.wanted o (yielded ops a.tmps) = true then Oper.wp Tryz.prog o a w K Q else E := by
  have hw : Region.wanted o (yielded ops a.tmps) = true := by simp [Region.wanted, hg]
  rw [if_pos hw]
  obtain ⟨v', w', hr, h1, h2⟩ := run_app o.type hown hn hsrc hp hlen hB
  exact Lib.wp_append_run w s x 97 97 ho v _ hs hx v' w' hr (h v' w' h1 h2)

/-- append(b[:len(b):len(b)], bytes...): the slice has no room: new memory. -/
theorem app_full {w : World} {ops : Array Oper} {rest : List Oper} {o : Oper} {a : Act} {Q : Exit → Act → World → Prop} (hgd : o.guard = none) (s x : Operand)
    (ho : o.op = .call { callee := .builtin .append, args := #[s, x], argTypes := #[97, 97] })
    {l m : List UInt8} {q : Option Addr} {k k' : Nat} (hk : k = l.length) (hk' : k' = l.length) (hs : a.eval s = .slice q k k') (hold : Bs w q l)
    {ad : Addr} {n c : Nat} (hn : n = m.length) (hx : a.eval x = .slice (some ad) n c) (hsrc : Bs w (some ad) m)
    (hm : 0 < m.length) (hlen : l.length + m.length ≤ 140737488355328)
    (h : ∀ v' w', Own w' w.heap.size v' (l ++ m) → Below w.heap.size w w' → wpList Tryz.prog ops Q rest (a.put o.dst v') w') : wpList Tryz.prog ops Q (o :: rest) a w := by
  subst hn hk
  have hk'' := hk'
  subst hk''
  obtain ⟨i, hi, hz0, hz1, hz2⟩ := info_parts info_u8
  have src : ∀ {r : List UInt8} {d : Addr}, Bs w (some d) r → ∀ j u, (u8s r)[j]? = some u → w.cell? (d.add j) = some u := by
    intro r d hr j u hj
    obtain ⟨y, hy, rfl⟩ := u8s_get hj
    obtain ⟨b, o, hp, hc⟩ := hr (by intro e; subst e; simp at hy)
    obtain rfl := Option.some.inj hp
    rw [Addr.add_lit]
    exact hc j y hy
  refine wpList_append_grows w hgd s x _ ho 5 i (.int .u8 0) 1 1 Tryz.underlying97 hi hz0 hz1 hz2 rfl (by decide) q l.length l.length (u8s l) hs ?_ (by simp [u8s]) (fun b hb => by subst hb; exact src hold) ad m.length c (u8s m) hx (by simp [u8s]) (src hsrc) (u8s_oneCell m) (by omega) (by simp only [maxLen]; omega) (by omega) ?_
  · intro hq
    subst hq
    rcases l with _ | ⟨u, l⟩
    · exact ⟨rfl, rfl⟩
    · obtain ⟨b, o, hp, _⟩ := hold (by simp)
      cases hp
  · intro v' w' h1 h2
    refine h v' w' ?_ ((Below.refl _ _).grown h2 (Nat.le_refl _) (fun k hk => by cases hk))
    unfold Own
    rw [← u8s_append, List.length_append]
    exact h1

/-- string(b). -/
theorem str_of {w : World} {p : Option Addr} {l : List UInt8} (h : Bs w p l) {n c : Nat} (hn : n = l.length) :
    (convert 97 9 (.slice p n c)).run Tryz.prog w = .ok (.string ⟨l.toArray⟩) w := by
  subst hn
  rcases Nat.eq_zero_or_pos l.length with h0 | h0
  · obtain rfl := List.eq_nil_of_length_eq_zero h0
    have h1 := run_convert_bytes_string (P := Tryz.prog) w 97 9 5 p 0 c Tryz.underlying97 Tryz.underlying5 Tryz.underlying9
    show (convert 97 9 (.slice p 0 c)).run Tryz.prog w = _
    rw [h1]
    cases p <;> simp [Conv.bytesToString, loadCells]
    all_goals rfl
  · obtain ⟨b, o, rfl, _, hc⟩ := h.at h0
    exact run_convert_bytes_back w _ _ 5 ⟨b, o, none⟩ c l Tryz.underlying97 Tryz.underlying5 Tryz.underlying9 (fun j hj => by rw [Addr.add_lit]; exact hc j hj)

theorem run_loadL {w : World} : ∀ (l : List UInt8) (a : Addr) (acc : ByteArray), (∀ j x, l[j]? = some x → w.cell? (a.add j) = some (.int .u8 (x.toNat : Int))) →
    (Extern.Bytes.loadBytes a l.length acc).run Tryz.prog w = .ok ⟨acc.data ++ l.toArray⟩ w
  | [], a, acc, _ => by simp [Extern.Bytes.loadBytes, Sem.run_pure]
  | x :: l, a, acc, h => by
    have h0 : w.cell? a = some (.int .u8 (x.toNat : Int)) := by
      have := h 0 x rfl
      simpa [Addr.add] using this
    have ih := run_loadL l (a.add 1) (acc.push x) (fun j y hy => by
      have := h (j + 1) y (by simpa using hy)
      have e : (a.add 1).add j = a.add (j + 1) := by
        unfold Addr.add
        by_cases hj : j = 0
        · subst hj; simp
        · simp [hj]; omega
      rw [e]; exact this)
    simp only [List.length_cons, Extern.Bytes.loadBytes, Sem.run_bind, Go.run_load, h0, Result.andThen]
    rw [Int.toNat_natCast, Nat.toUInt8_eq, UInt8.ofNat_toNat, ih]
    congr 1
    apply ByteArray.ext
    simp [ByteArray.push]

theorem load_bytes {w : World} {p : Option Addr} {l : List UInt8} (h : Bs w p l) {n c : Nat} (hn : n = l.length) (hp : p = none → c = 0) :
    (Extern.Bytes.bytesOf (.slice p n c)).run Tryz.prog w = .ok ⟨l.toArray⟩ w := by
  subst hn
  cases p with
  | none =>
    obtain rfl := hp rfl
    obtain rfl : l = [] := by
      rcases l with _ | ⟨u, m⟩
      · rfl
      · obtain ⟨b, o, hp, _⟩ := h (by simp)
        cases hp
    simp [Extern.Bytes.bytesOf, Sem.run_pure]
    rfl
  | some ad =>
    simp only [Extern.Bytes.bytesOf]
    have := run_loadL l ad .empty (fun j x hj => by
      obtain ⟨b, o, hp, hc⟩ := h (by intro e; subst e; simp at hj)
      obtain rfl := Option.some.inj hp
      rw [Addr.add_lit]
      exact hc j x hj)
    rw [this]
    simp [ByteArray.empty, ByteArray.emptyWithCapacity]
    rfl

theorem run_cmp {w : World} {p q : Option Addr} {l m : List UInt8} (hl : Bs w p l) (hm : Bs w q m) {n c k d : Nat} (hn : n = l.length) (hk : k = m.length) (hp : p = none → c = 0) (hq : q = none → d = 0) :
    (Extern.BytealgCompare.compare #[.slice p n c, .slice q k d]).run Tryz.prog w = .ok (.int .i64 (Lib.compareBytes l m)) w := by
  change Sem.run Tryz.prog (do pure (goInt (Extern.BytealgCompare.cmp (← Extern.Bytes.bytesOf (.slice p n c)) (← Extern.Bytes.bytesOf (.slice q k d))))) w = _
  simp only [Sem.run_bind, Sem.run_pure, Result.andThen, load_bytes hl hn hp, load_bytes hm hk hq]
  rw [Lib.cmp_eq]
  rfl

end Go.Proofs.YtbbgdbnjmonbgabGreatDoor
