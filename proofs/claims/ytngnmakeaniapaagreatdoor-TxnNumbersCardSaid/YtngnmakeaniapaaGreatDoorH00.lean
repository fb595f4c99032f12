/-
  How a float and a number open, for the rows' proofs; the facts on the whole program that each row asks.
  How many cells a number and a text take.
  Small facts that the texts share.
  General laws on byte slices, for the walks over this translation: bytes that lie at an address (Bs), a slice of the call's own (Own), append, string(b), and internal/bytealg.Compare.
  How arguments of type []byte open, for the rows' proofs; and the facts on the whole program that each row asks.
  What a page is (plain): bytes of a number, the lowest first; the check sum as a shift of a number's bits; bits that are turned.
-/
import Derived.Test.YtngnmakeaniapaaGreatDoorRows
import Derived.Test.YtngnmakeaniapaaGreatDoorProg
import Derived.Laws.Cover2
import Derived.ProofKit
import Derived.ShutString
import Derived.Carry
import Derived.SizedLaws
import Derived.OpenShut
import Derived.WalkKit
import Derived.Laws.AppendOwnNone
import Derived.Deep.Draws
import Derived.WalkSpells
import Derived.WalkLawsBesides
import Derived.Laws.BytesArg
import Derived.Deep.Onto
import Derived.Lib.Hide
import Derived.Lib.AppendZeros
import Derived.RegionTactic
import Derived.Lib.Bytealg
import Derived.Lib.UnsafeStr
import Derived.Lib.SmallJoins
set_option linter.unusedVariables false
set_option maxRecDepth 100000
namespace Go.Proofs.YtngnmakeaniapaaGreatDoor
open Go.ChangeShapes Go.WideShapes Go.ChangeAt Go.RowKit

theorem own : ownKnob Tryz.prog.godebug = none := by kernel_rfl
theorem laidOut : laidOutB Tryz.prog = true := by kernel_rfl

theorem flt_lt {b : Nat} (h : (Lit.float .f64 b).wf = true) : b < 18446744073709551616 := by
  simp only [Lit.wf, decide_eq_true_eq] at h
  exact h
theorem i64_bounds {x : Int} (h : (Lit.int .i64 x).wf = true) : -9223372036854775808 ≤ x ∧ x ≤ 9223372036854775807 := by
  have h1 : IntKind.i64.min = -9223372036854775808 := rfl
  have h2 : IntKind.i64.max = 9223372036854775807 := rfl
  simp only [Lit.wf, Bool.and_eq_true, decide_eq_true_eq] at h
  omega
theorem u64_bounds {x : Int} (h : (Lit.int .u64 x).wf = true) : 0 ≤ x ∧ x < 18446744073709551616 := by
  have h1 : IntKind.u64.min = 0 := rfl
  have h2 : IntKind.u64.max = 18446744073709551615 := rfl
  simp only [Lit.wf, Bool.and_eq_true, decide_eq_true_eq] at h
  omega

end Go.Proofs.YtngnmakeaniapaaGreatDoor

set_option linter.unusedVariables false
set_option maxRecDepth 100000
namespace Go.Proofs.YtngnmakeaniapaaGreatDoor

theorem cells_str : Tryz.prog.cellsOf 9 = 1 := by kernel_rfl
theorem cells_int : Tryz.prog.cellsOf 3 = 1 := by kernel_rfl

end Go.Proofs.YtngnmakeaniapaaGreatDoor

set_option linter.unusedVariables false
set_option maxRecDepth 100000
namespace Go.Proofs.YtngnmakeaniapaaGreatDoor
open Go.RowKit

theorem ret_int {k : IntKind} {a b : Int} (h : a = b) : Ending.returned (.int k a) = .returned (.int k b) := by rw [h]
theorem ret_bool {a b : Bool} (h : a = b) : Ending.returned (.bool a) = .returned (.bool b) := by rw [h]
theorem belowN {B : Nat} {a w : World} (h : Below B a w) (n : Nat) : Below B a (w.drewN n) := h.trans ⟨rfl, rfl, rfl, Nat.le_refl _, fun _ _ => rfl⟩
theorem drop_get {α : Type} {l : List α} {j : Nat} {a : α} (h : l[j]? = some a) : l.drop j = a :: l.drop (j + 1) := by
  obtain ⟨hj, rfl⟩ := List.getElem?_eq_some_iff.1 h
  exact List.drop_eq_getElem_cons hj

end Go.Proofs.YtngnmakeaniapaaGreatDoor

set_option linter.unusedVariables false
set_option maxRecDepth 100000
namespace Go.Proofs.YtngnmakeaniapaaGreatDoor
open Go.RowKit

theorem ret3_int {k : IntKind} {a b : Int} {x y : Value} (h : a = b) : Ending.returned (.tuple #[.int k a, x, y]) = .returned (.tuple #[.int k b, x, y]) := by rw [h]

/-- The cells of bytes. -/
def u8s (l : List UInt8) : List Value := l.map fun u => Value.int .u8 (u.toNat : Int)

theorem u8s_length (l : List UInt8) : (u8s l).length = l.length := by simp [u8s]
theorem u8s_append (l m : List UInt8) : u8s l ++ u8s m = u8s (l ++ m) := by simp [u8s]
theorem u8s_get {l : List UInt8} {i : Nat} {v : Value} (h : (u8s l)[i]? = some v) : ∃ u, l[i]? = some u ∧ v = .int .u8 (u.toNat : Int) := by
  simp only [u8s, List.getElem?_map, Option.map_eq_some_iff] at h
  obtain ⟨u, h1, h2⟩ := h
  exact ⟨u, h1, h2.symm⟩
theorem u8s_oneCell (l : List UInt8) : ∀ v ∈ u8s l, v.oneCell' = true := by
  intro v hv
  obtain ⟨u, _, rfl⟩ := List.mem_map.1 hv
  rfl

/-- The bytes l lie at p (of no bytes nothing is said). -/
def Bs (w : World) (p : Option Addr) (l : List UInt8) : Prop :=
  l ≠ [] → ∃ b o, p = some ⟨b, o, none⟩ ∧ ∀ i u, l[i]? = some u → w.cell? ⟨b, o + i, none⟩ = some (.int .u8 (u.toNat : Int))

theorem Bs.nil (w : World) (p : Option Addr) : Bs w p [] := fun h => absurd rfl h

theorem Bs.at {w : World} {p : Option Addr} {l : List UInt8} (h : Bs w p l) (hn : 0 < l.length) :
    ∃ b o, p = some ⟨b, o, none⟩ ∧ b < w.heap.size ∧ ∀ i (hi : i < l.length), w.cell? ⟨b, o + i, none⟩ = some (.int .u8 (l[i].toNat : Int)) := by
  obtain ⟨b, o, hp, hc⟩ := h (by intro h; subst h; simp at hn)
  refine ⟨b, o, hp, ?_, fun i hi => hc i _ (List.getElem?_eq_getElem hi)⟩
  have := World.block_lt_of_cell? _ _ (hc 0 _ (List.getElem?_eq_getElem hn))
  exact this

theorem Bs.cell {w : World} {b o : Nat} {l : List UInt8} (h : Bs w (some ⟨b, o, none⟩) l) {i : Nat} (hi : i < l.length) : w.cell? ⟨b, o + i, none⟩ = some (.int .u8 (l[i].toNat : Int)) := by
  obtain ⟨b', o', hp, _, hc⟩ := h.at (by omega)
  simp only [Option.some.injEq, Addr.mk.injEq, and_true] at hp
  obtain ⟨rfl, rfl⟩ := hp
  exact hc i hi

theorem Bs.below {w w' : World} {p : Option Addr} {l : List UInt8} (h : Bs w p l) (hb : Below w.heap.size w w') : Bs w' p l := by
  intro hne
  obtain ⟨b, o, hp, hc⟩ := h hne
  refine ⟨b, o, hp, fun i u hi => ?_⟩
  have h1 := hc i u hi
  have h2 := World.block_lt_of_cell? _ _ h1
  rw [hb.cell h2]
  exact h1

theorem Bs.drew {w : World} {p : Option Addr} {l : List UInt8} (h : Bs w p l) : Bs w.drew p l := h.below (Below.drew (Below.refl _ _))
theorem Bs.drewN {w : World} {p : Option Addr} {l : List UInt8} (h : Bs w p l) (n : Nat) : Bs (w.drewN n) p l := h.below (belowN (Below.refl _ _) n)
theorem Bs.alloc {w : World} {p : Option Addr} {l : List UInt8} (h : Bs w p l) (o : Obj) : Bs (w.alloc o) p l := h.below (Below.alloc (Below.refl _ _) (Nat.le_refl _) _)
theorem Bs.take {w : World} {p : Option Addr} {l : List UInt8} (h : Bs w p l) (k : Nat) : Bs w p (l.take k) := by
  intro hne
  obtain ⟨b, o, hp, hc⟩ := h (by intro e; subst e; simp at hne)
  refine ⟨b, o, hp, fun i u hi => hc i u ?_⟩
  rw [List.getElem?_take] at hi
  split at hi
  · exact hi
  · cases hi

theorem Bs.drop {w : World} {b o : Nat} {l : List UInt8} (h : ∀ i u, l[i]? = some u → w.cell? ⟨b, o + i, none⟩ = some (.int .u8 (u.toNat : Int))) (k : Nat) : Bs w (some ⟨b, o + k, none⟩) (l.drop k) := by
  intro _
  refine ⟨b, o + k, rfl, fun i u hi => ?_⟩
  rw [List.getElem?_drop] at hi
  rw [Nat.add_assoc]
  exact h (k + i) u hi

/-- A block that is known whole: the bytes that it holds. -/
theorem Bs.of_block {w : World} {g : Nat} {cs : Array Value} {t : TypeId} {fr : Nat × Nat} {l : List UInt8} (h : w.heap[g]? = some (.cells cs t fr)) (hc : cs = (u8s l).toArray) : Bs w (some ⟨g, 0, none⟩) l := by
  subst hc
  intro _
  refine ⟨g, 0, rfl, fun i u hi => ?_⟩
  rw [Joins.cell_of_block h]
  simp [u8s, hi]
theorem Bs.new (w : World) (t : TypeId) (fr : Nat × Nat) (cs : Array Value) {g : Nat} (hg : g = w.heap.size) {l : List UInt8} (hc : cs = (u8s l).toArray) : Bs (w.alloc (.cells cs t fr)) (some ⟨g, 0, none⟩) l := by
  subst hg
  exact Bs.of_block (heap_alloc_new w _) hc

theorem Bs.one (w : World) (t : TypeId) (fr : Nat × Nat) {g : Nat} (hg : g = w.heap.size) {x : Int} {b : UInt8} (hx : x = (b.toNat : Int)) : Bs (w.alloc (.cells #[.int .u8 x] t fr)) (some ⟨g, 0, none⟩) [b] := by
  subst hx
  exact Bs.new w t fr _ hg rfl

/-- A slice of the call's own that holds the bytes l. -/
def Own (w : World) (B : Nat) (v : Value) (l : List UInt8) : Prop := w.ownsRow B 5 1 v l.length (u8s l)

theorem Own.nil (w : World) (B : Nat) : Own w B (.slice none 0 0) [] := World.ownsRow_nil w B _ _

theorem Own.form {w : World} {B : Nat} {v : Value} {l : List UInt8} (h : Own w B v l) {n : Nat} (hn : n = l.length) :
    ∃ p c, v = .slice p n c ∧ n ≤ c ∧ c ≤ 9223372036854775807 ∧ Bs w p l ∧ (p = none → c = 0) := by
  subst hn
  rcases h.2 with ⟨rfl, h0⟩ | ⟨g, cap, cur, rfl, hb, hg, hnc, hcm, hcs, htake⟩
  · obtain rfl := List.eq_nil_of_length_eq_zero h0
    exact ⟨none, 0, rfl, Nat.le_refl _, by omega, Bs.nil _ _, fun _ => rfl⟩
  · refine ⟨some ⟨g, 0, none⟩, cap, rfl, hnc, by simp only [maxLen] at hcm; omega, ?_, fun h => by cases h⟩
    intro _
    refine ⟨g, 0, rfl, fun i u hi => ?_⟩
    have := h.cells (g := g) rfl i (.int .u8 (u.toNat : Int)) (by simp [u8s, hi])
    simpa [Addr.add_lit] using this

/-- With where it lies: a block of the call's own, none of whose cells is frozen. -/
theorem Own.some {w : World} {B : Nat} {v : Value} {l : List UInt8} (h : Own w B v l) {n : Nat} (hn : n = l.length) (h0 : 0 < n) :
    ∃ g c, v = .slice (some ⟨g, 0, none⟩) n c ∧ n ≤ c ∧ c ≤ 9223372036854775807 ∧ B ≤ g ∧ g < w.heap.size ∧
      (∀ i (hi : i < l.length), w.cell? ⟨g, i, none⟩ = some (.int .u8 (l[i].toNat : Int))) ∧ ∀ j, w.frozen? ⟨g, j, none⟩ = false := by
  obtain ⟨p, c, hv, h1, h2, h3, _⟩ := h.form hn
  subst hn
  rcases h.2 with ⟨rfl, h0⟩ | ⟨g, cap, cur, rfl, hb, hg, hnc, hcm, hcs, htake⟩
  · omega
  · simp only [Value.slice.injEq] at hv
    obtain ⟨rfl, _, rfl⟩ := hv
    refine ⟨g, cap, rfl, h1, h2, hb, ?_, fun i hi => ?_, fun j => Joins.unfrozen_of_block hg j⟩
    · exact (Array.getElem?_eq_some_iff.1 hg).1
    · obtain ⟨b, o, hp, _, hc⟩ := h3.at h0
      simp only [Option.some.injEq, Addr.mk.injEq, and_true] at hp
      obtain ⟨rfl, rfl⟩ := hp
      have := hc i hi
      rwa [Nat.zero_add] at this

theorem Own.le {w : World} {B B' : Nat} {v : Value} {l : List UInt8} (h : Own w B v l) (hb : B' ≤ B) : Own w B' v l := World.ownsRow.mono h hb

theorem Own.below {w w' : World} {B : Nat} {v : Value} {l : List UInt8} (h : Own w B v l) (hb : Below w.heap.size w w') : Own w' B v l := by
  refine ⟨h.1, ?_⟩
  rcases h.2 with h0 | ⟨g, cap, cur, hv, h1, hg, h2⟩
  · exact .inl h0
  · exact .inr ⟨g, cap, cur, hv, h1, by rw [hb.block g (Array.getElem?_eq_some_iff.1 hg).1]; exact hg, h2⟩

theorem Own.alloc {w : World} {B : Nat} {v : Value} {l : List UInt8} (h : Own w B v l) (o : Obj) : Own (w.alloc o) B v l := World.ownsRow.alloc h o
theorem Own.drew {w : World} {B : Nat} {v : Value} {l : List UInt8} (h : Own w B v l) : Own w.drew B v l := h

/-- []byte{} -/
theorem Own.empty (w : World) (B : Nat) (hB : B ≤ w.heap.size) : Own (w.alloc (.cells #[] 5)) B (.slice (.some ⟨w.heap.size, 0, none⟩) 0 0) [] :=
  World.ownsRow_made w #[] 0 hB (by simp [maxLen]) rfl

/-- A byte is stored. -/
theorem Own.stored {w : World} {B g c n : Nat} {l : List UInt8} (h : Own w B (.slice (.some ⟨g, 0, none⟩) n c) l) (hn : n = l.length) (j : Nat) (u : UInt8) {x : Int} (hx : x = (u.toNat : Int)) :
    Own (w.setCell ⟨g, j, none⟩ (.int .u8 x)) B (.slice (.some ⟨g, 0, none⟩) n c) (l.set j u) := by
  subst hn hx
  have h1 := (World.ownsRow.stored h j (.int .u8 (u.toNat : Int))).1
  have h2 : u8s (l.set j u) = (u8s l).set j (.int .u8 (u.toNat : Int)) := by simp [u8s, List.map_set]
  unfold Own
  rw [h2, List.length_set]
  exact h1

/-- What an append leaves is below as it was. -/
theorem Own.grown {w0 w w' : World} {B : Nat} {v : Value} {l : List UInt8} (h : Own w B v l) (hb : Below B w0 w) (hB : B ≤ w.heap.size) (hg : w.grownBy w' v.ownBlock) : Below B w0 w' :=
  hb.grown hg hB fun k hk => (World.ownsRow.lt h k hk).1

theorem info_u8 : (Tryz.prog.info? 5).map (fun i => (i.zero, i.size, i.bytes)) = some (some (.int .u8 0), 1, 1) := by kernel_rfl

/-- Two boxes. -/
theorem boxes (w : World) (C D : Array Value) (s t : TypeId) :
    ((w.alloc (.cells C s)).alloc (.cells D t)).heap[w.heap.size]? = some (.cells C s (0, 0)) ∧ ((w.alloc (.cells C s)).alloc (.cells D t)).heap[w.heap.size + 1]? = some (.cells D t (0, 0)) ∧
    Below w.heap.size w ((w.alloc (.cells C s)).alloc (.cells D t)) ∧ ((w.alloc (.cells C s)).alloc (.cells D t)).heap.size = w.heap.size + 2 := by
  have h1 : (w.alloc (.cells C s)).heap.size = w.heap.size + 1 := by simp
  refine ⟨?_, ?_, ((Below.refl w.heap.size w).alloc (Nat.le_refl _) _).alloc (by omega) _, by simp⟩
  · rw [Below.heap_alloc _ _ _ (by omega)]
    exact heap_alloc_new w _
  · have := heap_alloc_new (w.alloc (.cells C s)) (.cells D t)
    rw [h1] at this
    exact this

/-- Three boxes. -/
theorem boxes3 (w : World) (C D F : Array Value) (s t r : TypeId) :
    (((w.alloc (.cells C s)).alloc (.cells D t)).alloc (.cells F r)).heap[w.heap.size]? = some (.cells C s (0, 0)) ∧ (((w.alloc (.cells C s)).alloc (.cells D t)).alloc (.cells F r)).heap[w.heap.size + 1]? = some (.cells D t (0, 0)) ∧
    (((w.alloc (.cells C s)).alloc (.cells D t)).alloc (.cells F r)).heap[w.heap.size + 2]? = some (.cells F r (0, 0)) ∧
    Below w.heap.size w (((w.alloc (.cells C s)).alloc (.cells D t)).alloc (.cells F r)) ∧ (((w.alloc (.cells C s)).alloc (.cells D t)).alloc (.cells F r)).heap.size = w.heap.size + 3 := by
  obtain ⟨h1, h2, h3, h4⟩ := boxes w C D s t
  refine ⟨?_, ?_, ?_, h3.alloc (by omega) _, by simp⟩
  · rw [Below.heap_alloc _ _ _ (by omega)]; exact h1
  · rw [Below.heap_alloc _ _ _ (by omega)]; exact h2
  · have := heap_alloc_new ((w.alloc (.cells C s)).alloc (.cells D t)) (.cells F r)
    rw [h4] at this
    exact this

/-- append(own, bytes...): the source wherever it lies, nil too. -/
theorem app_own {w : World} {ops : Array Oper} {rest : List Oper} {o : Oper} {a : Act} {Q : Exit → Act → World → Prop} (hgd : o.guard = none) (s x : Operand)
    (ho : o.op = .call { callee := .builtin .append, args := #[s, x], argTypes := #[41, 41] })
    {B : Nat} {v : Value} {l m : List UInt8} (hs : a.eval s = v) (hown : Own w B v l) {p : Option Addr} {n c : Nat} (hn : n = m.length) (hx : a.eval x = .slice p n c) (hsrc : Bs w p m) (hp : p = none → c = 0)
    (hlen : l.length + m.length ≤ 140737488355328) (hB : B ≤ w.heap.size)
    (h : ∀ v' w', Own w' B v' (l ++ m) → Below B w w' → wpList Tryz.prog ops Q rest (a.put o.dst v') w') : wpList Tryz.prog ops Q (o :: rest) a w := by
  subst hn
  obtain ⟨i, hi, hz0, hz1, hz2⟩ := info_parts info_u8
  cases p with
  | none =>
    obtain rfl : m = [] := by
      rcases m with _ | ⟨u, m⟩
      · rfl
      · obtain ⟨b, o, hp, _⟩ := hsrc (by simp)
        cases hp
    obtain rfl := hp rfl
    have hx' : a.eval x = .slice none 0 0 := hx
    refine wpList_append_own_none hgd s x _ ho B 5 i 1 Tryz.underlying41 hi v l.length (u8s l) hs hown hx' ?_
    exact h v w (by simpa using hown) (Below.refl _ _)
  | some ad =>
    have hcells : ∀ j u, (u8s m)[j]? = some u → w.cell? (ad.add j) = some u := by
      intro j u hj
      obtain ⟨y, hy, rfl⟩ := u8s_get hj
      obtain ⟨b, o, hp, hc⟩ := hsrc (by intro e; subst e; simp at hy)
      obtain rfl := Option.some.inj hp
      rw [Addr.add_lit]
      exact hc j y hy
    refine wpList_append_own w hgd s x _ ho B 5 i (.int .u8 0) 1 1 Tryz.underlying41 hi hz0 hz1 hz2 rfl (by decide) v l.length (u8s l) hs hown ad m.length c (u8s m) hx (by simp [u8s]) hcells (u8s_oneCell m) (by simp only [maxLen]; omega) (by omega) hB ?_
    intro v' w' h1 h2 _
    refine h v' w' ?_ (hown.grown (Below.refl _ _) hB h2)
    unfold Own
    rw [← u8s_append, List.length_append]
    exact h1

/-- The same, as a run. -/
theorem run_app {w : World} (ty : TypeId) {B : Nat} {v : Value} {l m : List UInt8} (hown : Own w B v l) {p : Option Addr} {n c : Nat} (hn : n = m.length) (hsrc : Bs w p m) (hp : p = none → c = 0)
    (hlen : l.length + m.length ≤ 140737488355328) (hB : B ≤ w.heap.size) :
    ∃ v' w', (Builtin.append_ #[41, 41] ty #[v, .slice p n c]).run Tryz.prog w = .ok v' w' ∧ Own w' B v' (l ++ m) ∧ Below B w w' := by
  subst hn
  obtain ⟨i, hi, hz0, hz1, hz2⟩ := info_parts info_u8
  cases p with
  | none =>
    obtain rfl : m = [] := by
      rcases m with _ | ⟨u, m⟩
      · rfl
      · obtain ⟨b, o, hp, _⟩ := hsrc (by simp)
        cases hp
    obtain rfl := hp rfl
    have hrun := run_append_owned_none (P := Tryz.prog) (w := w) B 41 ty 5 i 1 Tryz.underlying41 hi v l.length (u8s l) hown
    exact ⟨v, w, hrun, by simpa using hown, Below.refl _ _⟩
  | some ad =>
    have hcells : ∀ j u, (u8s m)[j]? = some u → w.cell? (ad.add j) = some u := by
      intro j u hj
      obtain ⟨y, hy, rfl⟩ := u8s_get hj
      obtain ⟨b, o, hp, hc⟩ := hsrc (by intro e; subst e; simp at hy)
      obtain rfl := Option.some.inj hp
      rw [Addr.add_lit]
      exact hc j y hy
    obtain ⟨v', w', hr, h1, h2, _⟩ := run_append_own (P := Tryz.prog) w B 41 ty 5 i (.int .u8 0) 1 1 Tryz.underlying41 hi hz0 hz1 hz2 rfl (by decide) v l.length (u8s l) hown ad m.length c (u8s m) (by simp [u8s]) hcells (u8s_oneCell m) (by simp only [maxLen]; omega) (by omega) hB
    refine ⟨v', w', hr, ?_, hown.grown (Below.refl _ _) hB h2⟩
    unfold Own
    rw [← u8s_append, List.length_append]
    exact h1

/-- The same, as a step of a region that draws its order. -/
theorem step_app {w : World} {ops : Array Oper} {o : Oper} {a : Act} {K : Act → World → Prop} {Q : Exit → Act → World → Prop} {E : Prop} (hg : o.guard = none) (s x : Operand)
    (ho : o.op = .call { callee := .builtin .append, args := #[s, x], argTypes := #[41, 41] })
    {B : Nat} {v : Value} {l m : List UInt8} (hs : a.eval s = v) (hown : Own w B v l) {p : Option Addr} {n c : Nat} (hn : n = m.length) (hx : a.eval x = .slice p n c) (hsrc : Bs w p m) (hp : p = none → c = 0)
    (hlen : l.length + m.length ≤ 140737488355328) (hB : B ≤ w.heap.size)
    (h : ∀ v' w', Own w' B v' (l ++ m) → Below B w w' → K (a.put o.dst v') w') : if Region.wanted o (yielded ops a.tmps) = true then Oper.wp Tryz.prog o a w K Q else E := by
  have hw : Region.wanted o (yielded ops a.tmps) = true := by simp [Region.wanted, hg]
  rw [if_pos hw]
  obtain ⟨v', w', hr, h1, h2⟩ := run_app o.type hown hn hsrc hp hlen hB
  exact Lib.wp_append_run w s x 41 41 ho v _ hs hx v' w' hr (h v' w' h1 h2)

/-- append(b[:len(b):len(b)], bytes...): the slice has no room: new memory. -/
theorem app_full {w : World} {ops : Array Oper} {rest : List Oper} {o : Oper} {a : Act} {Q : Exit → Act → World → Prop} (hgd : o.guard = none) (s x : Operand)
    (ho : o.op = .call { callee := .builtin .append, args := #[s, x], argTypes := #[41, 41] })
    {l m : List UInt8} {q : Option Addr} {k k' : Nat} (hk : k = l.length) (hk' : k' = l.length) (hs : a.eval s = .slice q k k') (hold : Bs w q l)
    {ad : Addr} {n c : Nat} (hn : n = m.length) (hx : a.eval x = .slice (some ad) n c) (hsrc : Bs w (some ad) m)
    (hm : 0 < m.length) (hlen : l.length + m.length ≤ 140737488355328)
    (h : ∀ v' w', Own w' w.heap.size v' (l ++ m) → Below w.heap.size w w' → wpList Tryz.prog ops Q rest (a.put o.dst v') w') : wpList Tryz.prog ops Q (o :: rest) a w := by
  subst hn hk
  have hk'' := hk'
  subst hk''
  obtain ⟨i, hi, hz0, hz1, hz2⟩ := info_parts info_u8
  have src : ∀ {r : List UInt8} {d : Addr}, Bs w (some d) r → ∀ j u, (u8s r)[j]? = some u → w.cell? (d.add j) = some u := by
    intro r d hr j u hj
    obtain ⟨y, hy, rfl⟩ := u8s_get hj
    obtain ⟨b, o, hp, hc⟩ := hr (by intro e; subst e; simp at hy)
    obtain rfl := Option.some.inj hp
    rw [Addr.add_lit]
    exact hc j y hy
  refine wpList_append_grows w hgd s x _ ho 5 i (.int .u8 0) 1 1 Tryz.underlying41 hi hz0 hz1 hz2 rfl (by decide) q l.length l.length (u8s l) hs ?_ (by simp [u8s]) (fun b hb => by subst hb; exact src hold) ad m.length c (u8s m) hx (by simp [u8s]) (src hsrc) (u8s_oneCell m) (by omega) (by simp only [maxLen]; omega) (by omega) ?_
  · intro hq
    subst hq
    rcases l with _ | ⟨u, l⟩
    · exact ⟨rfl, rfl⟩
    · obtain ⟨b, o, hp, _⟩ := hold (by simp)
      cases hp
  · intro v' w' h1 h2
    refine h v' w' ?_ ((Below.refl _ _).grown h2 (Nat.le_refl _) (fun k hk => by cases hk))
    unfold Own
    rw [← u8s_append, List.length_append]
    exact h1

/-- string(b). -/
theorem str_of {w : World} {p : Option Addr} {l : List UInt8} (h : Bs w p l) {n c : Nat} (hn : n = l.length) :
    (convert 41 9 (.slice p n c)).run Tryz.prog w = .ok (.string ⟨l.toArray⟩) w := by
  subst hn
  rcases Nat.eq_zero_or_pos l.length with h0 | h0
  · obtain rfl := List.eq_nil_of_length_eq_zero h0
    have h1 := run_convert_bytes_string (P := Tryz.prog) w 41 9 5 p 0 c Tryz.underlying41 Tryz.underlying5 Tryz.underlying9
    show (convert 41 9 (.slice p 0 c)).run Tryz.prog w = _
    rw [h1]
    cases p <;> simp [Conv.bytesToString, loadCells]
    all_goals rfl
  · obtain ⟨b, o, rfl, _, hc⟩ := h.at h0
    exact run_convert_bytes_back w _ _ 5 ⟨b, o, none⟩ c l Tryz.underlying41 Tryz.underlying5 Tryz.underlying9 (fun j hj => by rw [Addr.add_lit]; exact hc j hj)

theorem run_loadL {w : World} : ∀ (l : List UInt8) (a : Addr) (acc : ByteArray), (∀ j x, l[j]? = some x → w.cell? (a.add j) = some (.int .u8 (x.toNat : Int))) →
    (Extern.Bytes.loadBytes a l.length acc).run Tryz.prog w = .ok ⟨acc.data ++ l.toArray⟩ w
  | [], a, acc, _ => by simp [Extern.Bytes.loadBytes, Sem.run_pure]
  | x :: l, a, acc, h => by
    have h0 : w.cell? a = some (.int .u8 (x.toNat : Int)) := by
      have := h 0 x rfl
      simpa [Addr.add] using this
    have ih := run_loadL l (a.add 1) (acc.push x) (fun j y hy => by
      have := h (j + 1) y (by simpa using hy)
      have e : (a.add 1).add j = a.add (j + 1) := by
        unfold Addr.add
        by_cases hj : j = 0
        · subst hj; simp
        · simp [hj]; omega
      rw [e]; exact this)
    simp only [List.length_cons, Extern.Bytes.loadBytes, Sem.run_bind, Go.run_load, h0, Result.andThen]
    rw [Int.toNat_natCast, Nat.toUInt8_eq, UInt8.ofNat_toNat, ih]
    congr 1
    apply ByteArray.ext
    simp [ByteArray.push]

theorem load_bytes {w : World} {p : Option Addr} {l : List UInt8} (h : Bs w p l) {n c : Nat} (hn : n = l.length) (hp : p = none → c = 0) :
    (Extern.Bytes.bytesOf (.slice p n c)).run Tryz.prog w = .ok ⟨l.toArray⟩ w := by
  subst hn
  cases p with
  | none =>
    obtain rfl := hp rfl
    obtain rfl : l = [] := by
      rcases l with _ | ⟨u, m⟩
      · rfl
      · obtain ⟨b, o, hp, _⟩ := h (by simp)
        cases hp
    simp [Extern.Bytes.bytesOf, Sem.run_pure]
    rfl
  | some ad =>
    simp only [Extern.Bytes.bytesOf]
    have := run_loadL l ad .empty (fun j x hj => by
      obtain ⟨b, o, hp, hc⟩ := h (by intro e; subst e; simp at hj)
      obtain rfl := Option.some.inj hp
      rw [Addr.add_lit]
      exact hc j x hj)
    rw [this]
    simp [ByteArray.empty, ByteArray.emptyWithCapacity]
    rfl

theorem run_cmp {w : World} {p q : Option Addr} {l m : List UInt8} (hl : Bs w p l) (hm : Bs w q m) {n c k d : Nat} (hn : n = l.length) (hk : k = m.length) (hp : p = none → c = 0) (hq : q = none → d = 0) :
    (Extern.BytealgCompare.compare #[.slice p n c, .slice q k d]).run Tryz.prog w = .ok (.int .i64 (Lib.compareBytes l m)) w := by
  change Sem.run Tryz.prog (do pure (goInt (Extern.BytealgCompare.cmp (← Extern.Bytes.bytesOf (.slice p n c)) (← Extern.Bytes.bytesOf (.slice q k d))))) w = _
  simp only [Sem.run_bind, Sem.run_pure, Result.andThen, load_bytes hl hn hp, load_bytes hm hk hq]
  rw [Lib.cmp_eq]
  rfl

end Go.Proofs.YtngnmakeaniapaaGreatDoor

set_option linter.unusedVariables false
set_option maxRecDepth 100000
namespace Go.Proofs.YtngnmakeaniapaaGreatDoor
open Go.ChangeShapes Go.WideShapes Go.ChangeAt Go.RowKit
open Go.ChangeMaps (open_string shut_string)

theorem cellsU8 : Tryz.prog.cellsOf 5 = 1 := by kernel_rfl

theorem u8_of_wf {x : Int} (h : (Lit.int .u8 x).wf = true) : 0 ≤ x ∧ x < 256 := by
  have h1 : IntKind.u8.min = 0 := rfl
  have h2 : IntKind.u8.max = 255 := rfl
  simp only [Lit.wf, Bool.and_eq_true, decide_eq_true_eq] at h
  omega

/-- An argument of type []byte, nil or not: its bytes. -/
theorem opened {H : Type} {enc : TypeId × Value → H} {W : World} {a0 : Option Addr} {len cap : Nat} {d0 : DataW H} {p : List MemPlace}
    (h0 : DataW.Trod enc Tryz.prog W 0 (fun _ => true) true 41 (.slice a0 len cap) d0 p) :
    ∃ l : List UInt8, len = l.length ∧ len ≤ cap ∧ cap ≤ 9223372036854775807 ∧ Bs W a0 l ∧ (a0 = none → cap = 0) ∧ (cap = 0 ∨ ∃ elems spare, d0 = .slice elems spare ∧ elems.length + spare.length = cap) := by
  obtain ⟨fuel, hf⟩ := h0
  rcases open_ints Tryz.underlying41 Tryz.underlying5 cellsU8 hf with ⟨hcs, hx⟩ | ⟨a, len', cap', zs, hcs, _, hl, hm, hz, hx, hcell, hwz⟩
  · simp [Value.cells] at hcs
    obtain ⟨rfl, rfl, rfl⟩ := hcs
    exact ⟨[], rfl, Nat.le_refl _, by omega, Bs.nil _ _, fun _ => rfl, .inl rfl⟩
  · simp [Value.cells] at hcs
    obtain ⟨rfl, rfl, rfl⟩ := hcs
    simp only [if_true] at hz
    simp only [Prod.mk.injEq] at hx
    obtain ⟨rfl, _⟩ := hx
    refine ⟨(zs.take len).map fun x => UInt8.ofNat x.toNat, by simp; omega, by omega, by unfold maxLen at hm; omega, ?_, (fun h => by cases h), .inr ⟨_, _, rfl, by simp [lits]; omega⟩⟩
    intro hne
    have h0 : 0 < len := by
      rcases Nat.eq_zero_or_pos len with h | h
      · subst h; simp at hne
      · exact h
    obtain ⟨b, o, s⟩ := a
    obtain rfl : s = none := by simpa [Addr.add] using World.cell?_spot (hcell 0 (by omega))
    refine ⟨b, o, rfl, fun i u hi => ?_⟩
    rw [List.getElem?_map, List.getElem?_take] at hi
    split at hi
    · rename_i hil
      have hiz : i < zs.length := by omega
      rw [List.getElem?_eq_getElem hiz] at hi
      simp only [Option.map_some, Option.some.injEq] at hi
      have hb := u8_of_wf (hwz zs[i] (List.getElem_mem hiz))
      have hc := hcell i hiz
      rw [← add_plain, hc, ← hi]
      have h4 : (UInt8.ofNat (zs[i]).toNat).toNat = (zs[i]).toNat := by
        rw [UInt8.toNat_ofNat']; omega
      rw [h4]
      simp only [List.getD_eq_getElem?_getD, List.getElem?_eq_getElem hiz, Option.getD_some, Option.some.injEq, Value.int.injEq, true_and]
      omega
    · cases hi

theorem bytesU8 : Tryz.prog.bytesOf 5 = 1 := by kernel_rfl

/-- .. with the reach: what is read before the call takes at most 2^47 - 4096 bytes. -/
theorem opened_sized {H : Type} {enc : TypeId × Value → H} {W : World} {a0 : Option Addr} {len cap : Nat} {d0 : DataW H} {p : List MemPlace} {ts : List TypeId} {ds : List (DataW H)}
    (h0 : DataW.Trod enc Tryz.prog W 0 (fun _ => true) true 41 (.slice a0 len cap) d0 p)
    (hsz : (DataW.weightsEach Tryz.prog ts ds).all (· ≤ reachBytes) = true) (j : Nat) (ht : ts[j]? = some 41) (hd : ds[j]? = some d0) :
    ∃ l : List UInt8, len = l.length ∧ len ≤ cap ∧ cap ≤ 140737488355328 ∧ Bs W a0 l ∧ (a0 = none → cap = 0) := by
  obtain ⟨l, h1, h2, h3, h4, h5, h6⟩ := opened h0
  refine ⟨l, h1, h2, ?_, h4, h5⟩
  rcases h6 with h6 | ⟨elems, spare, rfl, h7⟩
  · omega
  · have := sized_slice hsz ht hd Tryz.underlying41
    rw [bytesU8] at this
    have hr := reachBytes_lt
    omega

/-- An array of two elements of one cell each, by value. -/
theorem open_arr2 {H : Type} {enc : TypeId × Value → H} {W : World} {t e : TypeId} (ht : Tryz.prog.underlying t = some (.array 2 e)) (hce : Tryz.prog.cellsOf e = 1) (hC : Tryz.prog.cellsOf t = 2) {r : Reach} {b0 : Nat} {v : Value} {d : DataW H} {p : List MemPlace}
    (hv : Value.okWide Tryz.prog W r b0 t v) (h : DataW.Trod enc Tryz.prog W 0 (fun _ => true) true t v d p) :
    ∃ (v0 v1 : Value) (y0 y1 : DataW H × List MemPlace) (n : Nat), v = .agg #[v0, v1] ∧ d = .agg [y0.1, y1.1] ∧ p = y0.2 ++ y1.2 ∧
      DataW.trod enc Tryz.prog W 0 (fun _ => true) true n e [v0] = some y0 ∧ DataW.trod enc Tryz.prog W 0 (fun _ => true) true n e [v1] = some y1 := by
  simp only [Value.okWide, ht] at hv
  obtain ⟨cs, rfl, hsz, _⟩ := hv
  obtain ⟨c0, c1, rfl⟩ := Joins.array2 (hsz.trans hC)
  obtain ⟨fuel, hf⟩ := h
  obtain ⟨xs, m, _, hx, _, hlen, hg⟩ := DataW.trod_array ht hf
  match xs, hlen with
  | [y0, y1], _ =>
    simp only [Prod.mk.injEq] at hx
    have h0 := hg 0 (by decide)
    have h1 := hg 1 (by decide)
    simp only [hce, Value.cells] at h0 h1
    exact ⟨c0, c1, y0, y1, m, rfl, by simpa using hx.1, by simpa using hx.2, by simpa using h0, by simpa using h1⟩

end Go.Proofs.YtngnmakeaniapaaGreatDoor

set_option linter.unusedVariables false
set_option maxRecDepth 100000
namespace Go.Proofs.YtngnmakeaniapaaGreatDoor

/-- One step of the sum. -/
def crcP : Nat := 3988292384
def crcT (x : Nat) : Nat := (x / 2) ^^^ (if x % 2 = 1 then crcP else 0)
def crcI : Nat → Nat → Nat
  | 0, x => x
  | n + 1, x => crcI n (crcT x)
def allOn : Nat := 4294967295
def crcS (s : Nat) (l : List UInt8) : Nat := l.foldl (fun s c => crcI 8 (s ^^^ c.toNat)) s
def sumV (l : List UInt8) : Nat := crcS allOn l ^^^ allOn

/-- Bytes as a number, the lowest first. -/
def leV : List UInt8 → Nat
  | [] => 0
  | c :: l => c.toNat + 256 * leV l
def leB : Nat → Nat → List UInt8
  | 0, _ => []
  | k + 1, n => UInt8.ofNat n :: leB k (n / 256)

theorem leB_length (k n : Nat) : (leB k n).length = k := by
  induction k generalizing n with
  | zero => rfl
  | succ k ih => simp [leB, ih]
theorem u8_ofNat (n : Nat) : (UInt8.ofNat n).toNat = n % 256 := by simp
theorem leV_leB (k n : Nat) : leV (leB k n) = n % 256 ^ k := by
  induction k generalizing n with
  | zero => simp [leB, leV]; omega
  | succ k ih => rw [leB, leV, ih, u8_ofNat, Nat.pow_succ, Nat.mul_comm (256 ^ k), Nat.mod_mul]
theorem leV_lt (l : List UInt8) : leV l < 256 ^ l.length := by
  induction l with
  | nil => simp [leV]
  | cons c l ih => have := c.toNat_lt; rw [leV, List.length_cons, Nat.pow_succ]; omega
theorem leB_leV (l : List UInt8) : leB l.length (leV l) = l := by
  induction l with
  | nil => rfl
  | cons c l ih =>
    have := c.toNat_lt
    have h1 : (c.toNat + 256 * leV l) / 256 = leV l := by omega
    rw [List.length_cons, leB, leV, h1, ih]
    congr 1
    apply UInt8.toNat_inj.1
    rw [u8_ofNat]
    omega
theorem leB_mod (k n : Nat) : leB k (n % 256 ^ k) = leB k n := by
  have h1 := leB_leV (leB k n)
  rwa [leB_length, leV_leB] at h1
theorem leV_append (l m : List UInt8) : leV (l ++ m) = leV l + 256 ^ l.length * leV m := by
  induction l with
  | nil => simp [leV]
  | cons c l ih => rw [List.cons_append, leV, leV, ih, List.length_cons, Nat.pow_succ, Nat.mul_add, Nat.mul_comm (256 ^ l.length) 256, Nat.mul_assoc]; omega
theorem leB_take {k j n : Nat} (h : j ≤ k) : (leB k n).take j = leB j n := by
  induction j generalizing k n with
  | zero => rfl
  | succ j ih =>
    obtain ⟨k, rfl⟩ : ∃ k', k = k' + 1 := ⟨k - 1, by omega⟩
    rw [leB, List.take_succ_cons, ih (by omega), leB]
theorem leB_inj {k a b : Nat} (ha : a < 256 ^ k) (hb : b < 256 ^ k) (h : leB k a = leB k b) : a = b := by
  have h1 := leV_leB k a
  have h2 := leV_leB k b
  rw [Nat.mod_eq_of_lt ha] at h1
  rw [Nat.mod_eq_of_lt hb] at h2
  rw [← h1, h, h2]

/-! The sum is linear. -/
theorem crcP_lt : crcP < 4294967296 := by decide
theorem xor_rc (a b c : Nat) : a ^^^ b ^^^ c = a ^^^ c ^^^ b := by rw [Nat.xor_assoc, Nat.xor_comm b, ← Nat.xor_assoc]
theorem xor_no {a b : Nat} (h : a ^^^ b = 0) : a = b := by
  have h1 : a ^^^ b ^^^ b = 0 ^^^ b := by rw [h]
  rwa [Nat.xor_assoc, Nat.xor_self, Nat.xor_zero, Nat.zero_xor] at h1
theorem xor_half (a b : Nat) : (a ^^^ b) / 2 = a / 2 ^^^ b / 2 := by
  apply Nat.eq_of_testBit_eq
  intro i
  simp [Nat.testBit_div_two]
theorem split_xor (n x : Nat) : (x / 2 ^ n) * 2 ^ n ^^^ (x % 2 ^ n) = x := by
  apply Nat.eq_of_testBit_eq
  intro i
  rw [Nat.testBit_xor, Nat.testBit_mul_two_pow, Nat.testBit_mod_two_pow, Nat.testBit_div_two_pow]
  by_cases h : i < n
  · have h1 : ¬ n ≤ i := by omega
    simp [h, h1]
  · have h1 : n ≤ i := by omega
    have h2 : i - n + n = i := by omega
    simp [h, h1, h2]
theorem add_xor {n a b : Nat} (h : a < 2 ^ n) : a + 2 ^ n * b = a ^^^ (b * 2 ^ n) := by
  have h1 := split_xor n (a + 2 ^ n * b)
  have hp : 0 < 2 ^ n := Nat.two_pow_pos n
  rw [Nat.add_mul_div_left _ _ hp, Nat.div_eq_of_lt h, Nat.zero_add, Nat.add_mul_mod_self_left, Nat.mod_eq_of_lt h, Nat.xor_comm] at h1
  exact h1.symm
theorem crcT_xor (a b : Nat) : crcT (a ^^^ b) = crcT a ^^^ crcT b := by
  unfold crcT
  have h := Nat.xor_mod_two_eq_one (a := a) (b := b)
  rw [xor_half]
  by_cases ha : a % 2 = 1 <;> by_cases hb : b % 2 = 1 <;> simp only [ha, hb, h, if_true, if_false, not_true_eq_false, iff_self, iff_true, iff_false, not_false_eq_true, Nat.xor_zero]
  · rw [← Nat.xor_assoc, xor_rc (a / 2) crcP, Nat.xor_assoc (a / 2 ^^^ b / 2), Nat.xor_self, Nat.xor_zero]
  · rw [xor_rc]
  · rw [Nat.xor_assoc]
theorem crcI_xor (n a b : Nat) : crcI n (a ^^^ b) = crcI n a ^^^ crcI n b := by
  induction n generalizing a b with
  | zero => rfl
  | succ n ih => rw [crcI, crcI, crcI, crcT_xor, ih]
theorem crcT_double (x : Nat) : crcT (x * 2) = x := by
  unfold crcT
  rw [Nat.mul_div_cancel _ (by decide), Nat.mul_mod_left, if_neg (by decide), Nat.xor_zero]
theorem crcI_add (m n x : Nat) : crcI (m + n) x = crcI n (crcI m x) := by
  induction m generalizing x with
  | zero => rw [Nat.zero_add]; rfl
  | succ m ih => rw [Nat.succ_add, crcI, crcI, ih]
theorem crcI_shift (n x : Nat) : crcI n (x * 2 ^ n) = x := by
  induction n generalizing x with
  | zero => simp [crcI]
  | succ n ih => rw [crcI, Nat.pow_succ, ← Nat.mul_assoc, crcT_double, ih]
theorem crcT_lt {x : Nat} (h : x < 4294967296) : crcT x < 4294967296 := by
  unfold crcT
  have := crcP_lt
  have h1 : x / 2 < 2 ^ 32 := by omega
  split
  · exact Nat.xor_lt_two_pow (n := 32) h1 this
  · rw [Nat.xor_zero]; omega
theorem crcI_lt (n : Nat) {x : Nat} (h : x < 4294967296) : crcI n x < 4294967296 := by
  induction n generalizing x with
  | zero => exact h
  | succ n ih => exact ih (crcT_lt h)
theorem crcT_zero {x : Nat} (h : x < 4294967296) (h0 : crcT x = 0) : x = 0 := by
  unfold crcT at h0
  split at h0
  · have h1 := xor_no h0
    unfold crcP at h1
    omega
  · rw [Nat.xor_zero] at h0
    omega
theorem crcI_zero (n : Nat) {x : Nat} (h : x < 4294967296) (h0 : crcI n x = 0) : x = 0 := by
  induction n generalizing x with
  | zero => exact h0
  | succ n ih => exact crcT_zero h (ih (crcT_lt h) h0)
theorem crcI_inj (n : Nat) {x y : Nat} (hx : x < 4294967296) (hy : y < 4294967296) (h : crcI n x = crcI n y) : x = y := by
  have h1 : crcI n (x ^^^ y) = 0 := by rw [crcI_xor, h, Nat.xor_self]
  have h2 := crcI_zero n (Nat.xor_lt_two_pow (n := 32) hx hy) h1
  exact xor_no h2

/-- Four steps at once. -/
theorem crcI_four (x : Nat) : crcI 4 x = x / 16 ^^^ crcI 4 (x % 16) := by
  have h := split_xor 4 x
  have h1 : crcI 4 x = crcI 4 (x / 2 ^ 4 * 2 ^ 4) ^^^ crcI 4 (x % 2 ^ 4) := by rw [← crcI_xor, h]
  rw [crcI_shift] at h1
  exact h1

theorem crcS_lt {s : Nat} (hs : s < 4294967296) (l : List UInt8) : crcS s l < 4294967296 := by
  unfold crcS
  induction l generalizing s with
  | nil => exact hs
  | cons c l ih =>
    have := c.toNat_lt
    exact ih (crcI_lt 8 (Nat.xor_lt_two_pow (n := 32) hs (by omega)))
theorem crcS_nil (s : Nat) : crcS s [] = s := rfl
theorem crcS_cons (s : Nat) (c : UInt8) (l : List UInt8) : crcS s (c :: l) = crcS (crcI 8 (s ^^^ c.toNat)) l := rfl
theorem crcS_append (s : Nat) (l m : List UInt8) : crcS s (l ++ m) = crcS (crcS s l) m := by simp [crcS]
theorem sumV_lt (l : List UInt8) : sumV l < 4294967296 := Nat.xor_lt_two_pow (n := 32) (crcS_lt (by decide) l) (by decide)
/-- The sum of bytes is that of the number that they are. -/
theorem crcS_eq (s : Nat) (l : List UInt8) : crcS s l = crcI (8 * l.length) (s ^^^ leV l) := by
  induction l generalizing s with
  | nil => simp [crcS, leV, crcI]
  | cons c l ih =>
    have hc := c.toNat_lt
    have h1 : c.toNat + 256 * leV l = c.toNat ^^^ (leV l * 2 ^ 8) := add_xor (n := 8) hc
    rw [crcS_cons, ih, List.length_cons, leV, h1, ← Nat.xor_assoc, Nat.mul_succ, Nat.add_comm, crcI_add, crcI_xor 8 (s ^^^ c.toNat), crcI_shift]

/-- The sum fits. -/
def Fits (l : List UInt8) : Prop := leV (l.drop 508) = sumV (l.take 508)
theorem fits_iff {l : List UInt8} (h : l.length = 512) : Fits l ↔ crcS allOn l = crcI 32 allOn := by
  have hd : (l.drop 508).length = 4 := by simp [h]
  have hlt : leV (l.drop 508) < 4294967296 := by have := leV_lt (l.drop 508); rw [hd] at this; exact this
  have hs := crcS_lt (s := allOn) (by decide) (l.take 508)
  have h1 : crcS allOn l = crcI 32 (crcS allOn (l.take 508) ^^^ leV (l.drop 508)) := by
    have h2 := crcS_append allOn (l.take 508) (l.drop 508)
    rw [List.take_append_drop, crcS_eq _ (l.drop 508), hd] at h2
    exact h2
  rw [h1]
  unfold Fits sumV
  constructor
  · intro h2
    rw [h2, ← Nat.xor_assoc, Nat.xor_self, Nat.zero_xor]
  · intro h2
    have h3 := crcI_inj 32 (Nat.xor_lt_two_pow (n := 32) hs hlt) (by decide) h2
    generalize crcS allOn (l.take 508) = x at h3 ⊢
    rw [← h3, ← Nat.xor_assoc, Nat.xor_self, Nat.zero_xor]

/-- Bits that are turned, at most 32 side by side: the sum fits no more. -/
theorem burst {l m : List UInt8} (hl : l.length = 512) (hm : m.length = 512) {y at_ : Nat} (hy : y < 4294967296) (ha : at_ ≤ 4096) (hx : leV m = leV l ^^^ (y * 2 ^ at_)) (h1 : Fits l) (h2 : Fits m) : y = 0 := by
  have e1 := (fits_iff hl).1 h1
  have e2 := (fits_iff hm).1 h2
  rw [crcS_eq, hl] at e1
  rw [crcS_eq, hm, hx, ← Nat.xor_assoc, crcI_xor, e1] at e2
  have e3 : crcI (8 * 512) (y * 2 ^ at_) = 0 := by
    have h3 : crcI 32 allOn ^^^ crcI (8 * 512) (y * 2 ^ at_) = crcI 32 allOn ^^^ 0 := by rw [e2, Nat.xor_zero]
    have h5 : crcI 32 allOn ^^^ (crcI 32 allOn ^^^ crcI (8 * 512) (y * 2 ^ at_)) = crcI 32 allOn ^^^ (crcI 32 allOn ^^^ 0) := by rw [h3]
    rwa [← Nat.xor_assoc, ← Nat.xor_assoc, Nat.xor_self, Nat.zero_xor, Nat.zero_xor] at h5
  have h4 : 8 * 512 = at_ + (4096 - at_) := by omega
  rw [h4, crcI_add, crcI_shift] at e3
  exact crcI_zero _ hy e3

/-- One bit is turned. -/
theorem leV_turn {l : List UInt8} {j k : Nat} (hj : j < l.length) (hk : k < 8) {u : UInt8} (hu : u.toNat = l[j].toNat ^^^ 2 ^ k) : leV (l.set j u) = leV l ^^^ 2 ^ (8 * j + k) := by
  induction l generalizing j with
  | nil => simp at hj
  | cons c l ih =>
    have hc := c.toNat_lt
    have h1 : ∀ d n : Nat, d < 256 → d + 256 * n = d ^^^ (n * 2 ^ 8) := fun d n hd => add_xor (n := 8) hd
    cases j with
    | zero =>
      rw [List.getElem_cons_zero] at hu
      rw [List.set_cons_zero, leV, leV, h1 _ _ u.toNat_lt, h1 _ _ hc, hu, Nat.mul_zero, Nat.zero_add, xor_rc]
    | succ j =>
      rw [List.getElem_cons_succ] at hu
      rw [List.set_cons_succ, leV, leV, ih (by simpa using hj) hu, h1 _ _ hc, h1 _ _ hc, Nat.xor_assoc]
      congr 1
      have h2 : 8 * (j + 1) + k = 8 * j + k + 8 := by omega
      have h3 : ∀ a b : Nat, (a ^^^ b) * 2 ^ 8 = a * 2 ^ 8 ^^^ b * 2 ^ 8 := fun a b => by rw [← Nat.shiftLeft_eq, ← Nat.shiftLeft_eq a, ← Nat.shiftLeft_eq b, Nat.shiftLeft_xor_distrib]
      have h4 : 2 ^ (8 * (j + 1) + k) = 2 ^ (8 * j + k) * 2 ^ 8 := by rw [h2]; exact Nat.pow_add _ _ _
      rw [h4, h3]

end Go.Proofs.YtngnmakeaniapaaGreatDoor

