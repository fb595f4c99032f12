/-
  Short names of a few laws.
  How a float and a number open.
  Small facts that the texts sha.
  General laws on byte slices.
  How arguments of type []byte o.
  What a page is (plain).
  page.Sum.
  How the arguments of layer 8's.
-/
import Derived.Test.YtbbgdbnjmonbgaaGreatDoorProg
import Derived.Test.YtbbgdbnjmonbgaaGreatDoorRows
import Derived.Test.YtbbgdbnjmonbgaaGreatDoorTie
import Derived.WalkKit
import Derived.Lib.Hide
import Derived.Lib.SmallJoins
import Derived.Laws.Cover2
import Derived.ProofKit
import Derived.ShutString
import Derived.Carry
import Derived.SizedLaws
import Derived.OpenShut
import Derived.Laws.AppendOwnNone
import Derived.Deep.Draws
import Derived.WalkSpells
import Derived.WalkLawsBesides
import Derived.Laws.BytesArg
import Derived.Deep.Onto
import Derived.Lib.AppendZeros
import Derived.RegionTactic
import Derived.Lib.Bytealg
import Derived.Lib.UnsafeStr
import Derived.Laws.Rows
import Derived.Laws.BitsAllLaws
import Derived.Below
import Derived.ChangeSame
import Derived.ChangeVars
namespace Go.Proofs.YtbbgdbnjmonbgaaGreatDoor
open Go.RowKit
theorem Hq {p : Prop} (h : p) : Hid p := h
theorem jC {w : World} {g : Nat} {cs : Array Value} {t : TypeId} {fr : Nat × Nat} (h : w.heap[g]? = some (.cells cs t fr)) (i : Nat) : w.cell? ⟨g, i, none⟩ = cs[i]? := Joins.cell_of_block h i
theorem jU {w : World} {g : Nat} {cs : Array Value} {t : TypeId} (h : w.heap[g]? = some (.cells cs t (0, 0))) (i : Nat) : w.frozen? ⟨g, i, none⟩ = false := Joins.unfrozen_of_block h i
theorem zA {α : Type _} {xs : List α} {i : Nat} (h : i < xs.toArray.size) : xs.toArray[i] = xs[i]'(by simpa using h) := rfl
theorem zB {α : Type _} (a : α) (l : List α) (h : 0 < (a :: l).length) : getElem (a :: l) 0 h = a := rfl
theorem zC {α : Type _} (a : α) (l : List α) (i : Nat) (h : i + 1 < (a :: l).length) : getElem (a :: l) (i + 1) h = getElem l i (Nat.lt_of_succ_lt_succ h) := rfl
theorem zD {α : Type _} (l : List α) (i : Nat) (a : α) : l.toArray.setIfInBounds i a = (l.set i a).toArray := by simp
theorem zE {α : Type _} {x : α} {xs : List α} {a : α} : (x :: xs).set 0 a = a :: xs := rfl
theorem zF {α : Type _} {x : α} {xs : List α} {i : Nat} {a : α} : (x :: xs).set (i + 1) a = x :: xs.set i a := rfl
theorem aL {α : Type _} {xs : Array α} {i : Nat} {a : α} (h : xs[i]? = some a) : i < xs.size := (Array.getElem?_eq_some_iff.1 h).1
end Go.Proofs.YtbbgdbnjmonbgaaGreatDoor

set_option linter.unusedVariables false
set_option maxRecDepth 100000
namespace Go.Proofs.YtbbgdbnjmonbgaaGreatDoor
open Go.ChangeShapes Go.WideShapes Go.ChangeAt Go.RowKit
theorem own : ownKnob Tryz.prog.godebug = none := by kernel_rfl
end Go.Proofs.YtbbgdbnjmonbgaaGreatDoor
set_option linter.unusedVariables false
set_option maxRecDepth 100000
namespace Go.Proofs.YtbbgdbnjmonbgaaGreatDoor
end Go.Proofs.YtbbgdbnjmonbgaaGreatDoor

set_option linter.unusedVariables false
set_option maxRecDepth 100000
namespace Go.Proofs.YtbbgdbnjmonbgaaGreatDoor
open Go.RowKit
theorem ret_int {k : IntKind} {a b : Int} (h : a = b) : Ending.returned (.int k a) = .returned (.int k b) := by rw [h]
theorem ret_bool {a b : Bool} (h : a = b) : Ending.returned (.bool a) = .returned (.bool b) := by rw [h]
theorem belowN {B : Nat} {a w : World} (h : Below B a w) (n : Nat) : Below B a (w.drewN n) := h.trans ⟨rfl, rfl, rfl, Nat.le_refl _, fun _ _ => rfl⟩
theorem drop_get {α : Type} {l : List α} {j : Nat} {a : α} (h : l[j]? = some a) : l.drop j = a :: l.drop (j + 1) := by
 obtain ⟨hj, rfl⟩ := List.getElem?_eq_some_iff.1 h
 exact List.drop_eq_getElem_cons hj
end Go.Proofs.YtbbgdbnjmonbgaaGreatDoor

set_option linter.unusedVariables false
set_option maxRecDepth 100000
namespace Go.Proofs.YtbbgdbnjmonbgaaGreatDoor
open Go.RowKit
def u8s (l : List UInt8) : List Value := l.map fun u => Value.int .u8 (u.toNat : Int)
theorem u8s_length (l : List UInt8) : (u8s l).length = l.length := by simp [u8s]
theorem u8s_append (l m : List UInt8) : u8s l ++ u8s m = u8s (l ++ m) := by simp [u8s]
theorem u8s_get {l : List UInt8} {i : Nat} {v : Value} (h : (u8s l)[i]? = some v) : ∃ u, l[i]? = some u ∧ v = .int .u8 (u.toNat : Int) := by
 simp only [u8s, List.getElem?_map, Option.map_eq_some_iff] at h
 obtain ⟨u, h1, h2⟩ := h
 exact ⟨u, h1, h2.symm⟩
theorem u8s_oneCell (l : List UInt8) : ∀ v ∈ u8s l, v.oneCell' = true := by
 intro v hv
 obtain ⟨u, _, rfl⟩ := List.mem_map.1 hv
 rfl
def Bs (w : World) (p : Option Addr) (l : List UInt8) : Prop :=
 l ≠ [] → ∃ b o, p = some ⟨b, o, none⟩ ∧ ∀ i u, l[i]? = some u → w.cell? ⟨b, o + i, none⟩ = some (.int .u8 (u.toNat : Int))
theorem Bs.nil (w : World) (p : Option Addr) : Bs w p [] := fun h => absurd rfl h
theorem Bs.at {w : World} {p : Option Addr} {l : List UInt8} (h : Bs w p l) (hn : 0 < l.length) :
  ∃ b o, p = some ⟨b, o, none⟩ ∧ b < w.heap.size ∧ ∀ i (hi : i < l.length), w.cell? ⟨b, o + i, none⟩ = some (.int .u8 (l[i].toNat : Int)) := by
 obtain ⟨b, o, hp, hc⟩ := h (by intro h; subst h; simp at hn)
 refine ⟨b, o, hp, ?_, fun i hi => hc i _ (List.getElem?_eq_getElem hi)⟩
 have := World.block_lt_of_cell? _ _ (hc 0 _ (List.getElem?_eq_getElem hn))
 exact this
theorem Bs.cell {w : World} {b o : Nat} {l : List UInt8} (h : Bs w (some ⟨b, o, none⟩) l) {i : Nat} (hi : i < l.length) : w.cell? ⟨b, o + i, none⟩ = some (.int .u8 (l[i].toNat : Int)) := by
 obtain ⟨b', o', hp, _, hc⟩ := h.at (by omega)
 simp only [Option.some.injEq, Addr.mk.injEq, and_true] at hp
 obtain ⟨rfl, rfl⟩ := hp
 exact hc i hi
theorem Bs.below {w w' : World} {p : Option Addr} {l : List UInt8} (h : Bs w p l) (hb : Below w.heap.size w w') : Bs w' p l := by
 intro hne
 obtain ⟨b, o, hp, hc⟩ := h hne
 refine ⟨b, o, hp, fun i u hi => ?_⟩
 have h1 := hc i u hi
 have h2 := World.block_lt_of_cell? _ _ h1
 rw [hb.cell h2]
 exact h1
theorem Bs.drew {w : World} {p : Option Addr} {l : List UInt8} (h : Bs w p l) : Bs w.drew p l := h.below (Below.drew (Below.refl _ _))
theorem Bs.drewN {w : World} {p : Option Addr} {l : List UInt8} (h : Bs w p l) (n : Nat) : Bs (w.drewN n) p l := h.below (belowN (Below.refl _ _) n)
theorem Bs.alloc {w : World} {p : Option Addr} {l : List UInt8} (h : Bs w p l) (o : Obj) : Bs (w.alloc o) p l := h.below (Below.alloc (Below.refl _ _) (Nat.le_refl _) _)
theorem Bs.take {w : World} {p : Option Addr} {l : List UInt8} (h : Bs w p l) (k : Nat) : Bs w p (l.take k) := by
 intro hne
 obtain ⟨b, o, hp, hc⟩ := h (by intro e; subst e; simp at hne)
 refine ⟨b, o, hp, fun i u hi => hc i u ?_⟩
 rw [List.getElem?_take] at hi
 split at hi
 ·
  exact hi
 ·
  cases hi
theorem Bs.drop {w : World} {b o : Nat} {l : List UInt8} (h : ∀ i u, l[i]? = some u → w.cell? ⟨b, o + i, none⟩ = some (.int .u8 (u.toNat : Int))) (k : Nat) : Bs w (some ⟨b, o + k, none⟩) (l.drop k) := by
 intro _
 refine ⟨b, o + k, rfl, fun i u hi => ?_⟩
 rw [List.getElem?_drop] at hi
 rw [Nat.add_assoc]
 exact h (k + i) u hi
theorem Bs.of_block {w : World} {g : Nat} {cs : Array Value} {t : TypeId} {fr : Nat × Nat} {l : List UInt8} (h : w.heap[g]? = some (.cells cs t fr)) (hc : cs = (u8s l).toArray) : Bs w (some ⟨g, 0, none⟩) l := by
 subst hc
 intro _
 refine ⟨g, 0, rfl, fun i u hi => ?_⟩
 rw [jC h]
 simp [u8s, hi]
theorem Bs.new (w : World) (t : TypeId) (fr : Nat × Nat) (cs : Array Value) {g : Nat} (hg : g = w.heap.size) {l : List UInt8} (hc : cs = (u8s l).toArray) : Bs (w.alloc (.cells cs t fr)) (some ⟨g, 0, none⟩) l := by
 subst hg
 exact Bs.of_block (heap_alloc_new w _) hc
theorem Bs.one (w : World) (t : TypeId) (fr : Nat × Nat) {g : Nat} (hg : g = w.heap.size) {x : Int} {b : UInt8} (hx : x = (b.toNat : Int)) : Bs (w.alloc (.cells #[.int .u8 x] t fr)) (some ⟨g, 0, none⟩) [b] := by
 subst hx
 exact Bs.new w t fr _ hg rfl
def Own (w : World) (B : Nat) (v : Value) (l : List UInt8) : Prop := w.ownsRow B 5 1 v l.length (u8s l)
theorem Own.nil (w : World) (B : Nat) : Own w B (.slice none 0 0) [] := World.ownsRow_nil w B _ _
theorem Own.form {w : World} {B : Nat} {v : Value} {l : List UInt8} (h : Own w B v l) {n : Nat} (hn : n = l.length) :
  ∃ p c, v = .slice p n c ∧ n ≤ c ∧ c ≤ 9223372036854775807 ∧ Bs w p l ∧ (p = none → c = 0) := by
 subst hn
 rcases h.2 with ⟨rfl, h0⟩ | ⟨g, cap, cur, rfl, hb, hg, hnc, hcm, hcs, htake⟩
 ·
  obtain rfl := List.eq_nil_of_length_eq_zero h0
  exact ⟨none, 0, rfl, Nat.le_refl _, by omega, Bs.nil _ _, fun _ => rfl⟩
 ·
  refine ⟨some ⟨g, 0, none⟩, cap, rfl, hnc, by simp only [maxLen] at hcm; omega, ?_, fun h => by cases h⟩
  intro _
  refine ⟨g, 0, rfl, fun i u hi => ?_⟩
  have := h.cells (g := g) rfl i (.int .u8 (u.toNat : Int)) (by simp [u8s, hi])
  simpa [Addr.add_lit] using this
theorem Own.some {w : World} {B : Nat} {v : Value} {l : List UInt8} (h : Own w B v l) {n : Nat} (hn : n = l.length) (h0 : 0 < n) :
  ∃ g c, v = .slice (some ⟨g, 0, none⟩) n c ∧ n ≤ c ∧ c ≤ 9223372036854775807 ∧ B ≤ g ∧ g < w.heap.size ∧
   (∀ i (hi : i < l.length), w.cell? ⟨g, i, none⟩ = some (.int .u8 (l[i].toNat : Int))) ∧ ∀ j, w.frozen? ⟨g, j, none⟩ = false := by
 obtain ⟨p, c, hv, h1, h2, h3, _⟩ := h.form hn
 subst hn
 rcases h.2 with ⟨rfl, h0⟩ | ⟨g, cap, cur, rfl, hb, hg, hnc, hcm, hcs, htake⟩
 ·
  omega
 ·
  simp only [Value.slice.injEq] at hv
  obtain ⟨rfl, _, rfl⟩ := hv
  refine ⟨g, cap, rfl, h1, h2, hb, ?_, fun i hi => ?_, fun j => jU hg j⟩
  ·
   exact (aL hg)
  ·
   obtain ⟨b, o, hp, _, hc⟩ := h3.at h0
   simp only [Option.some.injEq, Addr.mk.injEq, and_true] at hp
   obtain ⟨rfl, rfl⟩ := hp
   have := hc i hi
   rwa [Nat.zero_add] at this
theorem Own.le {w : World} {B B' : Nat} {v : Value} {l : List UInt8} (h : Own w B v l) (hb : B' ≤ B) : Own w B' v l := World.ownsRow.mono h hb
theorem Own.alloc {w : World} {B : Nat} {v : Value} {l : List UInt8} (h : Own w B v l) (o : Obj) : Own (w.alloc o) B v l := World.ownsRow.alloc h o
theorem Own.drew {w : World} {B : Nat} {v : Value} {l : List UInt8} (h : Own w B v l) : Own w.drew B v l := h
theorem Own.empty (w : World) (B : Nat) (hB : B ≤ w.heap.size) : Own (w.alloc (.cells #[] 5)) B (.slice (.some ⟨w.heap.size, 0, none⟩) 0 0) [] :=
 World.ownsRow_made w #[] 0 hB (by simp [maxLen]) rfl
theorem Own.grown {w0 w w' : World} {B : Nat} {v : Value} {l : List UInt8} (h : Own w B v l) (hb : Below B w0 w) (hB : B ≤ w.heap.size) (hg : w.grownBy w' v.ownBlock) : Below B w0 w' :=
 hb.grown hg hB fun k hk => (World.ownsRow.lt h k hk).1
theorem info_u8 : (Tryz.prog.info? 5).map (fun i => (i.zero, i.size, i.bytes)) = some (some (.int .u8 0), 1, 1) := by kernel_rfl
theorem boxes (w : World) (C D : Array Value) (s t : TypeId) :
  ((w.alloc (.cells C s)).alloc (.cells D t)).heap[w.heap.size]? = some (.cells C s (0, 0)) ∧ ((w.alloc (.cells C s)).alloc (.cells D t)).heap[w.heap.size + 1]? = some (.cells D t (0, 0)) ∧
  Below w.heap.size w ((w.alloc (.cells C s)).alloc (.cells D t)) ∧ ((w.alloc (.cells C s)).alloc (.cells D t)).heap.size = w.heap.size + 2 := by
 have h1 : (w.alloc (.cells C s)).heap.size = w.heap.size + 1 := by simp
 refine ⟨?_, ?_, ((Below.refl w.heap.size w).alloc (Nat.le_refl _) _).alloc (by omega) _, by simp⟩
 ·
  rw [Below.heap_alloc _ _ _ (by omega)]
  exact heap_alloc_new w _
 ·
  have := heap_alloc_new (w.alloc (.cells C s)) (.cells D t)
  rw [h1] at this
  exact this
theorem boxes3 (w : World) (C D F : Array Value) (s t r : TypeId) :
  (((w.alloc (.cells C s)).alloc (.cells D t)).alloc (.cells F r)).heap[w.heap.size]? = some (.cells C s (0, 0)) ∧ (((w.alloc (.cells C s)).alloc (.cells D t)).alloc (.cells F r)).heap[w.heap.size + 1]? = some (.cells D t (0, 0)) ∧
  (((w.alloc (.cells C s)).alloc (.cells D t)).alloc (.cells F r)).heap[w.heap.size + 2]? = some (.cells F r (0, 0)) ∧
  Below w.heap.size w (((w.alloc (.cells C s)).alloc (.cells D t)).alloc (.cells F r)) ∧ (((w.alloc (.cells C s)).alloc (.cells D t)).alloc (.cells F r)).heap.size = w.heap.size + 3 := by
 obtain ⟨h1, h2, h3, h4⟩ := boxes w C D s t
 refine ⟨?_, ?_, ?_, h3.alloc (by omega) _, by simp⟩
 ·
  rw [Below.heap_alloc _ _ _ (by omega)]; exact h1
 ·
  rw [Below.heap_alloc _ _ _ (by omega)]; exact h2
 ·
  have := heap_alloc_new ((w.alloc (.cells C s)).alloc (.cells D t)) (.cells F r)
  rw [h4] at this
  exact this
theorem app_own {w : World} {ops : Array Oper} {rest : List Oper} {o : Oper} {a : Act} {Q : Exit → Act → World → Prop} (hgd : o.guard = none) (s x : Operand)
  (ho : o.op = .call { callee := .builtin .append, args := #[s, x], argTypes := #[33, 33] })
  {B : Nat} {v : Value} {l m : List UInt8} (hs : a.eval s = v) (hown : Own w B v l) {p : Option Addr} {n c : Nat} (hn : n = m.length) (hx : a.eval x = .slice p n c) (hsrc : Bs w p m) (hp : p = none → c = 0)
  (hlen : l.length + m.length ≤ 140737488355328) (hB : B ≤ w.heap.size)
  (h : ∀ v' w', Own w' B v' (l ++ m) → Below B w w' → wpList Tryz.prog ops Q rest (a.put o.dst v') w') : wpList Tryz.prog ops Q (o :: rest) a w := by
 subst hn
 obtain ⟨i, hi, hz0, hz1, hz2⟩ := info_parts info_u8
 cases p with
 | none =>
  obtain rfl : m = [] := by
   rcases m with _ | ⟨u, m⟩
   ·
    rfl
   ·
    obtain ⟨b, o, hp, _⟩ := hsrc (by simp)
    cases hp
  obtain rfl := hp rfl
  have hx' : a.eval x = .slice none 0 0 := hx
  refine wpList_append_own_none hgd s x _ ho B 5 i 1 Tryz.underlying33 hi v l.length (u8s l) hs hown hx' ?_
  exact h v w (by simpa using hown) (Below.refl _ _)
 | some ad =>
  have hcells : ∀ j u, (u8s m)[j]? = some u → w.cell? (ad.add j) = some u := by
   intro j u hj
   obtain ⟨y, hy, rfl⟩ := u8s_get hj
   obtain ⟨b, o, hp, hc⟩ := hsrc (by intro e; subst e; simp at hy)
   obtain rfl := Option.some.inj hp
   rw [Addr.add_lit]
   exact hc j y hy
  refine wpList_append_own w hgd s x _ ho B 5 i (.int .u8 0) 1 1 Tryz.underlying33 hi hz0 hz1 hz2 rfl (by decide) v l.length (u8s l) hs hown ad m.length c (u8s m) hx (by simp [u8s]) hcells (u8s_oneCell m) (by simp only [maxLen]; omega) (by omega) hB ?_
  intro v' w' h1 h2 _
  refine h v' w' ?_ (hown.grown (Below.refl _ _) hB h2)
  unfold Own
  rw [← u8s_append, List.length_append]
  exact h1
theorem str_of {w : World} {p : Option Addr} {l : List UInt8} (h : Bs w p l) {n c : Nat} (hn : n = l.length) :
  (convert 33 9 (.slice p n c)).run Tryz.prog w = .ok (.string ⟨l.toArray⟩) w := by
 subst hn
 rcases Nat.eq_zero_or_pos l.length with h0 | h0
 ·
  obtain rfl := List.eq_nil_of_length_eq_zero h0
  have h1 := run_convert_bytes_string (P := Tryz.prog) w 33 9 5 p 0 c Tryz.underlying33 Tryz.underlying5 Tryz.underlying9
  show (convert 33 9 (.slice p 0 c)).run Tryz.prog w = _
  rw [h1]
  cases p <;> simp [Conv.bytesToString, loadCells]
  all_goals rfl
 ·
  obtain ⟨b, o, rfl, _, hc⟩ := h.at h0
  exact run_convert_bytes_back w _ _ 5 ⟨b, o, none⟩ c l Tryz.underlying33 Tryz.underlying5 Tryz.underlying9 (fun j hj => by rw [Addr.add_lit]; exact hc j hj)
theorem run_loadL {w : World} : ∀ (l : List UInt8) (a : Addr) (acc : ByteArray), (∀ j x, l[j]? = some x → w.cell? (a.add j) = some (.int .u8 (x.toNat : Int))) →
  (Extern.Bytes.loadBytes a l.length acc).run Tryz.prog w = .ok ⟨acc.data ++ l.toArray⟩ w
 | [], a, acc, _ => by simp [Extern.Bytes.loadBytes, Sem.run_pure]
 | x :: l, a, acc, h => by
  have h0 : w.cell? a = some (.int .u8 (x.toNat : Int)) := by
   have := h 0 x rfl
   simpa [Addr.add] using this
  have ih := run_loadL l (a.add 1) (acc.push x) (fun j y hy => by
   have := h (j + 1) y (by simpa using hy)
   have e : (a.add 1).add j = a.add (j + 1) := by
    unfold Addr.add
    by_cases hj : j = 0
    ·
     subst hj; simp
    ·
     simp [hj]; omega
   rw [e]; exact this)
  simp only [List.length_cons, Extern.Bytes.loadBytes, Sem.run_bind, Go.run_load, h0, Result.andThen]
  rw [Int.toNat_natCast, Nat.toUInt8_eq, UInt8.ofNat_toNat, ih]
  congr 1
  apply ByteArray.ext
  simp [ByteArray.push]
theorem load_bytes {w : World} {p : Option Addr} {l : List UInt8} (h : Bs w p l) {n c : Nat} (hn : n = l.length) (hp : p = none → c = 0) :
  (Extern.Bytes.bytesOf (.slice p n c)).run Tryz.prog w = .ok ⟨l.toArray⟩ w := by
 subst hn
 cases p with
 | none =>
  obtain rfl := hp rfl
  obtain rfl : l = [] := by
   rcases l with _ | ⟨u, m⟩
   ·
    rfl
   ·
    obtain ⟨b, o, hp, _⟩ := h (by simp)
    cases hp
  simp [Extern.Bytes.bytesOf, Sem.run_pure]
  rfl
 | some ad =>
  simp only [Extern.Bytes.bytesOf]
  have := run_loadL l ad .empty (fun j x hj => by
   obtain ⟨b, o, hp, hc⟩ := h (by intro e; subst e; simp at hj)
   obtain rfl := Option.some.inj hp
   rw [Addr.add_lit]
   exact hc j x hj)
  rw [this]
  simp [ByteArray.empty, ByteArray.emptyWithCapacity]
  rfl
theorem run_cmp {w : World} {p q : Option Addr} {l m : List UInt8} (hl : Bs w p l) (hm : Bs w q m) {n c k d : Nat} (hn : n = l.length) (hk : k = m.length) (hp : p = none → c = 0) (hq : q = none → d = 0) :
  (Extern.BytealgCompare.compare #[.slice p n c, .slice q k d]).run Tryz.prog w = .ok (.int .i64 (Lib.compareBytes l m)) w := by
 change Sem.run Tryz.prog (do pure (goInt (Extern.BytealgCompare.cmp (← Extern.Bytes.bytesOf (.slice p n c)) (← Extern.Bytes.bytesOf (.slice q k d))))) w = _
 simp only [Sem.run_bind, Sem.run_pure, Result.andThen, load_bytes hl hn hp, load_bytes hm hk hq]
 rw [Lib.cmp_eq]
 rfl
end Go.Proofs.YtbbgdbnjmonbgaaGreatDoor

set_option linter.unusedVariables false
set_option maxRecDepth 100000
namespace Go.Proofs.YtbbgdbnjmonbgaaGreatDoor
open Go.ChangeShapes Go.WideShapes Go.ChangeAt Go.RowKit
open Go.ChangeMaps (open_string shut_string)
theorem cellsU8 : Tryz.prog.cellsOf 5 = 1 := by kernel_rfl
theorem u8_of_wf {x : Int} (h : (Lit.int .u8 x).wf = true) : 0 ≤ x ∧ x < 256 := by
 have h1 : IntKind.u8.min = 0 := rfl
 have h2 : IntKind.u8.max = 255 := rfl
 simp only [Lit.wf, Bool.and_eq_true, decide_eq_true_eq] at h
 omega
theorem opened {H : Type} {enc : TypeId × Value → H} {W : World} {a0 : Option Addr} {len cap : Nat} {d0 : DataW H} {p : List MemPlace}
  (h0 : DataW.Trod enc Tryz.prog W 0 (fun _ => true) true 33 (.slice a0 len cap) d0 p) :
  ∃ l : List UInt8, len = l.length ∧ len ≤ cap ∧ cap ≤ 9223372036854775807 ∧ Bs W a0 l ∧ (a0 = none → cap = 0) ∧ (cap = 0 ∨ ∃ elems spare, d0 = .slice elems spare ∧ elems.length + spare.length = cap) := by
 obtain ⟨fuel, hf⟩ := h0
 rcases open_ints Tryz.underlying33 Tryz.underlying5 cellsU8 hf with ⟨hcs, hx⟩ | ⟨a, len', cap', zs, hcs, _, hl, hm, hz, hx, hcell, hwz⟩
 ·
  simp [Value.cells] at hcs
  obtain ⟨rfl, rfl, rfl⟩ := hcs
  exact ⟨[], rfl, Nat.le_refl _, by omega, Bs.nil _ _, fun _ => rfl, .inl rfl⟩
 ·
  simp [Value.cells] at hcs
  obtain ⟨rfl, rfl, rfl⟩ := hcs
  simp only [if_true] at hz
  simp only [Prod.mk.injEq] at hx
  obtain ⟨rfl, _⟩ := hx
  refine ⟨(zs.take len).map fun x => UInt8.ofNat x.toNat, by simp; omega, by omega, by unfold maxLen at hm; omega, ?_, (fun h => by cases h), .inr ⟨_, _, rfl, by simp [lits]; omega⟩⟩
  intro hne
  have h0 : 0 < len := by
   rcases Nat.eq_zero_or_pos len with h | h
   ·
    subst h; simp at hne
   ·
    exact h
  obtain ⟨b, o, s⟩ := a
  obtain rfl : s = none := by simpa [Addr.add] using World.cell?_spot (hcell 0 (by omega))
  refine ⟨b, o, rfl, fun i u hi => ?_⟩
  rw [List.getElem?_map, List.getElem?_take] at hi
  split at hi
  ·
   rename_i hil
   have hiz : i < zs.length := by omega
   rw [List.getElem?_eq_getElem hiz] at hi
   simp only [Option.map_some, Option.some.injEq] at hi
   have hb := u8_of_wf (hwz zs[i] (List.getElem_mem hiz))
   have hc := hcell i hiz
   rw [← add_plain, hc, ← hi]
   have h4 : (UInt8.ofNat (zs[i]).toNat).toNat = (zs[i]).toNat := by
    rw [UInt8.toNat_ofNat']; omega
   rw [h4]
   simp only [List.getD_eq_getElem?_getD, List.getElem?_eq_getElem hiz, Option.getD_some, Option.some.injEq, Value.int.injEq, true_and]
   omega
  ·
   cases hi
end Go.Proofs.YtbbgdbnjmonbgaaGreatDoor

set_option linter.unusedVariables false
set_option maxRecDepth 100000
namespace Go.Proofs.YtbbgdbnjmonbgaaGreatDoor
def crcP : Nat := 3988292384
def crcT (x : Nat) : Nat := (x / 2) ^^^ (if x % 2 = 1 then crcP else 0)
def crcI : Nat → Nat → Nat
 | 0, x => x
 | n + 1, x => crcI n (crcT x)
def allOn : Nat := 4294967295
def crcS (s : Nat) (l : List UInt8) : Nat := l.foldl (fun s c => crcI 8 (s ^^^ c.toNat)) s
def sumV (l : List UInt8) : Nat := crcS allOn l ^^^ allOn
def leV : List UInt8 → Nat
 | [] => 0
 | c :: l => c.toNat + 256 * leV l
def leB : Nat → Nat → List UInt8
 | 0, _ => []
 | k + 1, n => UInt8.ofNat n :: leB k (n / 256)
theorem leB_length (k n : Nat) : (leB k n).length = k := by
 induction k generalizing n with
 | zero => rfl
 | succ k ih => simp [leB, ih]
theorem u8_ofNat (n : Nat) : (UInt8.ofNat n).toNat = n % 256 := by simp
theorem leV_leB (k n : Nat) : leV (leB k n) = n % 256 ^ k := by
 induction k generalizing n with
 | zero => simp [leB, leV]; omega
 | succ k ih => rw [leB, leV, ih, u8_ofNat, Nat.pow_succ, Nat.mul_comm (256 ^ k), Nat.mod_mul]
theorem leV_lt (l : List UInt8) : leV l < 256 ^ l.length := by
 induction l with
 | nil => simp [leV]
 | cons c l ih => have := c.toNat_lt; rw [leV, List.length_cons, Nat.pow_succ]; omega
theorem leB_leV (l : List UInt8) : leB l.length (leV l) = l := by
 induction l with
 | nil => rfl
 | cons c l ih =>
  have := c.toNat_lt
  have h1 : (c.toNat + 256 * leV l) / 256 = leV l := by omega
  rw [List.length_cons, leB, leV, h1, ih]
  congr 1
  apply UInt8.toNat_inj.1
  rw [u8_ofNat]
  omega
theorem leV_append (l m : List UInt8) : leV (l ++ m) = leV l + 256 ^ l.length * leV m := by
 induction l with
 | nil => simp [leV]
 | cons c l ih => rw [List.cons_append, leV, leV, ih, List.length_cons, Nat.pow_succ, Nat.mul_add, Nat.mul_comm (256 ^ l.length) 256, Nat.mul_assoc]; omega
theorem leB_take {k j n : Nat} (h : j ≤ k) : (leB k n).take j = leB j n := by
 induction j generalizing k n with
 | zero => rfl
 | succ j ih =>
  obtain ⟨k, rfl⟩ : ∃ k', k = k' + 1 := ⟨k - 1, by omega⟩
  rw [leB, List.take_succ_cons, ih (by omega), leB]
theorem leB_inj {k a b : Nat} (ha : a < 256 ^ k) (hb : b < 256 ^ k) (h : leB k a = leB k b) : a = b := by
 have h1 := leV_leB k a
 have h2 := leV_leB k b
 rw [Nat.mod_eq_of_lt ha] at h1
 rw [Nat.mod_eq_of_lt hb] at h2
 rw [← h1, h, h2]
/-! The sum is linear. -/
theorem crcP_lt : crcP < 4294967296 := by decide
theorem xor_rc (a b c : Nat) : a ^^^ b ^^^ c = a ^^^ c ^^^ b := by rw [Nat.xor_assoc, Nat.xor_comm b, ← Nat.xor_assoc]
theorem xor_half (a b : Nat) : (a ^^^ b) / 2 = a / 2 ^^^ b / 2 := by
 apply Nat.eq_of_testBit_eq
 intro i
 simp [Nat.testBit_div_two]
theorem split_xor (n x : Nat) : (x / 2 ^ n) * 2 ^ n ^^^ (x % 2 ^ n) = x := by
 apply Nat.eq_of_testBit_eq
 intro i
 rw [Nat.testBit_xor, Nat.testBit_mul_two_pow, Nat.testBit_mod_two_pow, Nat.testBit_div_two_pow]
 by_cases h : i < n
 ·
  have h1 : ¬ n ≤ i := by omega
  simp [h, h1]
 ·
  have h1 : n ≤ i := by omega
  have h2 : i - n + n = i := by omega
  simp [h, h1, h2]
theorem crcT_xor (a b : Nat) : crcT (a ^^^ b) = crcT a ^^^ crcT b := by
 unfold crcT
 have h := Nat.xor_mod_two_eq_one (a := a) (b := b)
 rw [xor_half]
 by_cases ha : a % 2 = 1 <;> by_cases hb : b % 2 = 1 <;> simp only [ha, hb, h, if_true, if_false, not_true_eq_false, iff_self, iff_true, iff_false, not_false_eq_true, Nat.xor_zero]
 ·
  rw [← Nat.xor_assoc, xor_rc (a / 2) crcP, Nat.xor_assoc (a / 2 ^^^ b / 2), Nat.xor_self, Nat.xor_zero]
 ·
  rw [xor_rc]
 ·
  rw [Nat.xor_assoc]
theorem crcI_xor (n a b : Nat) : crcI n (a ^^^ b) = crcI n a ^^^ crcI n b := by
 induction n generalizing a b with
 | zero => rfl
 | succ n ih => rw [crcI, crcI, crcI, crcT_xor, ih]
theorem crcT_double (x : Nat) : crcT (x * 2) = x := by
 unfold crcT
 rw [Nat.mul_div_cancel _ (by decide), Nat.mul_mod_left, if_neg (by decide), Nat.xor_zero]
theorem crcI_add (m n x : Nat) : crcI (m + n) x = crcI n (crcI m x) := by
 induction m generalizing x with
 | zero => rw [Nat.zero_add]; rfl
 | succ m ih => rw [Nat.succ_add, crcI, crcI, ih]
theorem crcI_shift (n x : Nat) : crcI n (x * 2 ^ n) = x := by
 induction n generalizing x with
 | zero => simp [crcI]
 | succ n ih => rw [crcI, Nat.pow_succ, ← Nat.mul_assoc, crcT_double, ih]
theorem crcT_lt {x : Nat} (h : x < 4294967296) : crcT x < 4294967296 := by
 unfold crcT
 have := crcP_lt
 have h1 : x / 2 < 2 ^ 32 := by omega
 split
 ·
  exact Nat.xor_lt_two_pow (n := 32) h1 this
 ·
  rw [Nat.xor_zero]; omega
theorem crcI_lt (n : Nat) {x : Nat} (h : x < 4294967296) : crcI n x < 4294967296 := by
 induction n generalizing x with
 | zero => exact h
 | succ n ih => exact ih (crcT_lt h)
theorem crcI_four (x : Nat) : crcI 4 x = x / 16 ^^^ crcI 4 (x % 16) := by
 have h := split_xor 4 x
 have h1 : crcI 4 x = crcI 4 (x / 2 ^ 4 * 2 ^ 4) ^^^ crcI 4 (x % 2 ^ 4) := by rw [← crcI_xor, h]
 rw [crcI_shift] at h1
 exact h1
theorem crcS_lt {s : Nat} (hs : s < 4294967296) (l : List UInt8) : crcS s l < 4294967296 := by
 unfold crcS
 induction l generalizing s with
 | nil => exact hs
 | cons c l ih =>
  have := c.toNat_lt
  exact ih (crcI_lt 8 (Nat.xor_lt_two_pow (n := 32) hs (by omega)))
theorem crcS_append (s : Nat) (l m : List UInt8) : crcS s (l ++ m) = crcS (crcS s l) m := by simp [crcS]
theorem sumV_lt (l : List UInt8) : sumV l < 4294967296 := Nat.xor_lt_two_pow (n := 32) (crcS_lt (by decide) l) (by decide)
def Fits (l : List UInt8) : Prop := leV (l.drop 508) = sumV (l.take 508)
end Go.Proofs.YtbbgdbnjmonbgaaGreatDoor

set_option linter.unusedVariables false
set_option maxRecDepth 100000
namespace Go.Proofs.YtbbgdbnjmonbgaaGreatDoor
open Go.RowKit
def turnC : Array Value := #[.int .u32 0, .int .u32 498536548, .int .u32 997073096, .int .u32 651767980, .int .u32 1994146192, .int .u32 1802195444, .int .u32 1303535960, .int .u32 1342533948, .int .u32 3988292384, .int .u32 4027552580, .int .u32 3604390888, .int .u32 3412177804, .int .u32 2607071920, .int .u32 2262029012, .int .u32 2685067896, .int .u32 3183342108]
def Tab (w : World) : Prop := ∃ t fr, w.heap[1]? = some (.cells turnC t fr)
theorem Tab.lt {w : World} (h : Tab w) : 1 < w.heap.size := by
 obtain ⟨t, fr, h⟩ := h
 rcases Nat.lt_or_ge 1 w.heap.size with h1 | h1
 ·
  exact h1
 ·
  rw [Array.getElem?_eq_none h1] at h
  cases h
theorem Tab.below {w w' : World} (h : Tab w) {B : Nat} (hB : 1 < B) (hb : Below B w w') : Tab w' := by
 obtain ⟨t, fr, h⟩ := h
 exact ⟨t, fr, (hb.block 1 hB).trans h⟩
theorem turnC_at {j : Nat} (h : j < 16) : turnC[j]? = some (.int .u32 (crcI 4 j : Nat)) := by
 have h16 : ∀ j : Fin 16, (match turnC[j.val]? with | some (.int .u32 x) => decide (x = (crcI 4 j.val : Nat)) | _ => false) = true := by decide +kernel
 have := h16 ⟨j, h⟩
 simp only at this
 split at this
 ·
  rename_i x hx
  rw [hx, of_decide_eq_true this]
 ·
  cases this
theorem Tab.cell {w : World} (h : Tab w) {j : Nat} (hj : j < 16) : w.cell? ⟨1, j, none⟩ = some (.int .u32 (crcI 4 j : Nat)) := by
 obtain ⟨t, fr, h⟩ := h
 rw [cell_of_row w 1 j turnC t fr h]
 exact turnC_at hj
theorem xor32 {a b c : Nat} (ha : a < 4294967296) (hb : b < 4294967296) (h : a ^^^ b = c) : bits .xor .u32 (a : Int) (b : Int) = (c : Int) := by rw [u32_xor_nat a b ha hb, h]
theorem quo32 {a b c : Nat} (ha : a < 4294967296) (hb : b < 4294967296) (h : a / 16 ^^^ b = c) : bits .xor .u32 ((a : Int) / 16) (b : Int) = (c : Int) := by
 have h1 : (a : Int) / 16 = ((a / 16 : Nat) : Int) := by omega
 rw [h1, u32_xor_nat (a / 16) b (by omega) hb, h]
theorem pand15 {a : Nat} (ha : a < 4294967296) : bits .and .u32 (a : Int) 15 = ((a % 16 : Nat) : Int) := by
 have h := u32_and_nat a 15 ha (by omega)
 have h2 := Nat.and_two_pow_sub_one_eq_mod a 4
 have h3 : (2 : Nat) ^ 4 - 1 = 15 := by decide
 rw [h3] at h2
 rw [h2] at h
 exact h
theorem not32 {a : Nat} (ha : a < 4294967296) : bits .xor .u32 IntKind.u32.max (a : Int) = ((a ^^^ allOn : Nat) : Int) := by
 have h0 : IntKind.u32.max = ((allOn : Nat) : Int) := rfl
 rw [h0, u32_xor_nat allOn a (by decide) ha, Nat.xor_comm]
theorem crcI_eight (x : Nat) : crcI 8 x = crcI 4 (crcI 4 x) := crcI_add 4 4 x
theorem crcS_snoc (s : Nat) {l : List UInt8} {j : Nat} (hj : j < l.length) : crcS s (l.take (j + 1)) = crcI 8 (crcS s (l.take j) ^^^ l[j].toNat) := by
 rw [List.take_add_one, List.getElem?_eq_getElem hj, crcS_append]
 rfl
set_option maxHeartbeats 800000 in
theorem sum_any {w : World} (hT : Tab w) {p : Option Addr} {l : List UInt8} (hl : Bs w p l) {n c : Nat} (hn : n = l.length) (hc : n ≤ 9223372036854775807) :
  Calls Tryz.prog 128 #[.slice p n c] w fun e w' => e = .returned (.int .u32 (sumV l : Nat)) ∧ w = w' := by
 have HN := Hq hn
 have HL := Hq hl
 have HT := Hq hT
 clear hl hn hT
 go_enter Tryz.func128, Tryz.ntmps128
 go_wp2
 go_loop [3, 8] (fun s i => ∃ j : Nat, i = .int .i64 j ∧ j ≤ n ∧ s = .int .u32 (crcS allOn (l.take j) : Nat)) (fun _ i => n - (intOf i).toNat)
 case atStart => exact ⟨0, rfl, by omega, rfl⟩
 case round =>
  obtain ⟨j, rfl, hj, rfl⟩ := hrel
  have hs := crcS_lt (s := allOn) (by decide) (l.take j)
  by_cases hjn : j < n
  ·
   have hjl : j < l.length := by have := HN.out; omega
   obtain ⟨b, o, rfl, _, hcells⟩ := HL.out.at (by omega)
   have hx := hcells j hjl
   have HR := Hq (crcS_snoc allOn hjl)
   have hcl : l[j].toNat < 256 := l[j].toNat_lt
   clear hcells
   generalize crcS allOn (l.take j) = s at *
   generalize l[j].toNat = d at *
   have h1 : s ^^^ d < 4294967296 := Nat.xor_lt_two_pow (n := 32) hs (by omega)
   have e1 := xor32 (b := d) hs (by omega) rfl
   generalize s ^^^ d = s1 at *
   have a1 := pand15 h1
   have t1 := HT.out.cell (j := s1 % 16) (by omega)
   have q1 := quo32 (b := crcI 4 (s1 % 16)) h1 (crcI_lt 4 (by omega)) (crcI_four s1).symm
   have h2 := crcI_lt 4 h1
   rw [crcI_eight] at HR
   generalize crcI 4 (s1 % 16) = x1 at *
   have hm1 : s1 % 16 < 16 := by omega
   generalize crcI 4 s1 = s2 at *
   have a2 := pand15 h2
   have t2 := HT.out.cell (j := s2 % 16) (by omega)
   have q2 := quo32 (b := crcI 4 (s2 % 16)) h2 (crcI_lt 4 (by omega)) (crcI_four s2).symm
   generalize crcI 4 (s2 % 16) = x2 at *
   have hm2 : s2 % 16 < 16 := by omega
   generalize crcI 4 s2 = s3 at *
   generalize s1 % 16 = j1 at *
   generalize s2 % 16 = j2 at *
   go_wp2
   go_round
   case rel => exact ⟨j + 1, by go_num, by omega, by rw [HR.out]⟩
   case measure => simp [intOf]; omega
  ·
   have HJ : Hid (j = l.length) := Hq (by have := HN.out; omega)
   have HR : Hid (crcS allOn (l.take j) = crcS allOn l) := Hq (by rw [HJ.out, List.take_length])
   have e1 := not32 hs
   have HS : Hid (crcS allOn (l.take j) ^^^ allOn = sumV l) := Hq (by rw [HR.out]; rfl)
   clear HR
   generalize crcS allOn (l.take j) = s at *
   generalize s ^^^ allOn = x at *
   go_wp2
   go_ret
   refine ⟨ret_int ?_, rfl⟩
   rw [HS.out]
end Go.Proofs.YtbbgdbnjmonbgaaGreatDoor

set_option linter.unusedVariables false
set_option maxRecDepth 100000
namespace Go.Proofs.YtbbgdbnjmonbgaaGreatDoor
open Go.ChangeShapes Go.WideShapes Go.ChangeAt Go.RowKit
theorem gTurns : Tryz.prog.globalNamed "cobweb/page.turns" = some 1 := by kernel_rfl
theorem gType : (Tryz.prog.globals[1]?).map (·.type) = some 217 := by kernel_rfl
theorem cellsU32 : Tryz.prog.cellsOf 192 = 1 := by kernel_rfl
theorem cells16 : Tryz.prog.cellsOf 217 = 16 := by kernel_rfl
theorem int_of_read {H : Type} {enc : TypeId × Value → H} {P : Program} {w : World} {base : Nat} {sp : Nat → Bool} {held : Bool} {fuel : Nat} {t : TypeId} {k : IntKind} {c : Value} {y : DataW H × List MemPlace}
  (ht : P.underlying t = some (.int k)) (h : DataW.trod enc P w base sp held fuel t [c] = some y) : ∃ n, c = .int k n ∧ y.1 = .lit (.int k n) := by
 cases fuel with
 | zero => simp [DataW.trod] at h
 | succ fuel =>
  cases c <;> simp [DataW.trod, ht] at h
  rename_i k' n
  obtain ⟨⟨rfl, _⟩, rfl⟩ := h
  exact ⟨n, rfl, rfl⟩
theorem lit_u32 {a b : Int} (h : (DataW.lit (.int .u32 a) : DataW Unit) = .lit (.int .u32 b)) : a = b := by
 injection h with h
 injection h
theorem tab_of_laid {W : World} (h : laidMetH Tryz.prog [("cobweb/page.turns", Rows.laid_cobweb_page_turns)] W) : Tab W := by
 have h' : laidMet Tryz.prog [("cobweb/page.turns", Rows.laid_cobweb_page_turns)] W := h
 obtain ⟨ps, ⟨g, t, cs, fuel, p, q, hg, ht, hvar, hd, _, _⟩, _⟩ := h'
 obtain rfl := Option.some.inj (gTurns.symm.trans hg)
 obtain rfl := Option.some.inj (gType.symm.trans ht)
 obtain ⟨xs, m, _, hx, hlen, hxl, hget⟩ := DataW.trod_array Tryz.underlying217 hd
 rw [cells16] at hlen
 simp only [Prod.mk.injEq] at hx
 have hxs := hx.1
 rw [cellsU32] at hget
 simp only [Nat.mul_one] at hget
 have hmap : xs.map (·.1) = (List.range 16).map fun j => .lit (.int .u32 (crcI 4 j : Nat)) := by
  unfold Rows.laid_cobweb_page_turns at hxs
  injection hxs with hxs
  exact hxs.symm
 have hcell : ∀ i, i < 16 → ∀ n : Int, (xs.map (·.1))[i]? = some (.lit (.int .u32 n)) → cs.toList[i]? = some (.int .u32 n) := by
  intro i hi n hn
  have hil : i < cs.toList.length := by omega
  have h1 := hget i hi
  rw [List.drop_eq_getElem_cons hil, List.take_succ_cons, List.take_zero] at h1
  have hix : i < xs.length := by omega
  rw [List.getElem?_eq_getElem hix] at h1
  obtain ⟨k, hk, hy⟩ := int_of_read Tryz.underlying192 h1
  rw [List.getElem?_map, List.getElem?_eq_getElem hix, Option.map_some, Option.some.injEq, hy] at hn
  rw [List.getElem?_eq_getElem hil, hk, lit_u32 hn]
 have hcs : cs = turnC := by
  apply Array.ext'
  apply List.ext_getElem?
  intro i
  rcases Nat.lt_or_ge i 16 with hi | hi
  ·
   have h1 := turnC_at hi
   have h2 : turnC.toList[i]? = some (.int .u32 (crcI 4 i : Nat)) := by rw [← h1]; simp
   rw [h2]
   refine hcell i hi _ ?_
   rw [hmap, List.getElem?_map, List.getElem?_range hi]
   rfl
  ·
   rw [List.getElem?_eq_none (by omega), List.getElem?_eq_none (by show 16 ≤ i; exact hi)]
 subst hcs
 unfold World.var? at hvar
 rw [gTurns, Option.bind_some] at hvar
 split at hvar
 ·
  rename_i cs' t' fr' hh
  obtain rfl := Option.some.inj hvar
  exact ⟨_, _, hh⟩
 ·
  cases hvar
noncomputable def laidWorld (os : Os) : World :=
 { World.holding Tryz.prog os ⟨#[], #[], []⟩ with heap := (World.holding Tryz.prog os ⟨#[], #[], []⟩).heap.modify 1 fun
   | .cells _ t frozen => .cells turnC t frozen
   | o => o }
theorem laidWorld_row (os : Os) (args : Array Value) : ((laidWorld os).forCall (fun _ _ => 0) ⟨#[], args, []⟩).memory.heap[1]? = some (.cells turnC 217 (0, 0)) := by kernel_rfl
theorem laidWorld_met (os : Os) (args : Array Value) : laidMetH Tryz.prog [("cobweb/page.turns", Rows.laid_cobweb_page_turns)] ((laidWorld os).forCall (fun _ _ => 0) ⟨#[], args, []⟩).memory := by
 show laidMet _ _ _
 refine ⟨_, ⟨1, 217, turnC, 8, [], [], gTurns, gType, by kernel_rfl, by kernel_rfl, rfl, rfl⟩, by decide, fun b off h => ?_⟩
 have h' : MemPlace.cell b off ∈ (List.range 16).map (MemPlace.cell 1) := h
 obtain ⟨i, hi, he⟩ := List.mem_map.1 h'
 have hi := List.mem_range.1 hi
 injection he with hb ho
 subst hb ho
 refine ⟨⟨_, _, laidWorld_row os args⟩, fun u v hc => ?_⟩
 simp only [World.cell?, laidWorld_row os args] at hc
 rw [turnC_at hi] at hc
 injection hc with hc
 cases hc
end Go.Proofs.YtbbgdbnjmonbgaaGreatDoor

