/-
  A map keyed by whole numbers.
  A disk.
  sector.laid.
  A disk in memory.
  sector.
  A function's own boxes in late.
  sector.
-/
import Derived.Test.YtbbgdbnjmonbgaaGreatDoorH00
import Derived.MapKept
import Derived.ChangeMaps5
import Derived.Maps.Own
import Derived.Maps.OwnOps
import Derived.Maps.OwnSet
import Derived.Laws.CopyOwn
import Derived.Deep.OwnRows
import Derived.WalkSpells
import Derived.WalkLawsBesides
import Derived.RegionTactic
import Derived.Lib.Hide
import Derived.Lib.SmallJoins
set_option linter.unusedVariables false
set_option maxRecDepth 100000
namespace Go.Proofs.YtbbgdbnjmonbgaaGreatDoor
open Go.RowKit Go.MapKept
open Go.ChangeMaps (setBlock heap_setBlock_same heap_setBlock_other)
def MapIs (w : World) (b : Nat) (f : Int → Option Value) : Prop :=
 ∃ es clock, w.heap[b]? = some (.map es clock) ∧ (∀ x ∈ es.toList, IsKey (.int .i64) x.key) ∧ (es.toList.map (·.key)).Nodup ∧
  ∀ k v, f k = some v ↔ ∃ e ∈ es.toList, e.key = .int .i64 k ∧ e.val = v
theorem MapIs.lt {w : World} {b : Nat} {f : Int → Option Value} (h : MapIs w b f) : b < w.heap.size := by
 obtain ⟨es, c, hb, _⟩ := h
 exact (aL hb)
theorem MapIs.block {w w' : World} {b b' : Nat} {f : Int → Option Value} (h : MapIs w b f) (hb : w'.heap[b']? = w.heap[b]?) : MapIs w' b' f := by
 obtain ⟨es, c, h1, h2⟩ := h
 exact ⟨es, c, by rw [hb]; exact h1, h2⟩
theorem MapIs.new {w : World} {b : Nat} (hb : w.heap[b]? = some (.map #[] 0)) : MapIs w b fun _ => none :=
 ⟨#[], 0, hb, by simp, by simp, by simp⟩
theorem key_ne {a b : Int} : (Value.int .i64 a = Value.int .i64 b) ↔ a = b := by simp
theorem MapIs.find {w : World} {b : Nat} {f : Int → Option Value} {es : Array MapEntry} {c : Nat} (hb : w.heap[b]? = some (.map es c)) (hk : ∀ x ∈ es.toList, IsKey (.int .i64) x.key)
  (hf : ∀ k v, f k = some v ↔ ∃ e ∈ es.toList, e.key = .int .i64 k ∧ e.val = v) (k : Int) :
  (Instr.findNow (.int .i64) (.int .i64 k) es.toList 0 = some none ∧ f k = none ∧ ∀ x ∈ es.toList, x.key ≠ .int .i64 k) ∨
  ∃ j e, Instr.findNow (.int .i64) (.int .i64 k) es.toList 0 = some (some (j, e.val)) ∧ es.toList[j]? = some e ∧ e.key = .int .i64 k ∧ f k = some e.val := by
 rcases findNow_spec (d := .int .i64) (k := .int .i64 k) (show IsKey (.int .i64) (.int .i64 k) from rfl) es.toList 0 hk with ⟨h1, h2⟩ | ⟨j, e, h1, h2, h3⟩
 ·
  refine .inl ⟨h1, ?_, h2⟩
  cases hv : f k with
  | none => rfl
  | some v =>
   obtain ⟨e, he, hek, _⟩ := (hf k v).1 hv
   exact absurd hek (h2 e he)
 ·
  exact .inr ⟨j, e, by simpa using h1, h2, h3, (hf k e.val).2 ⟨e, List.mem_of_getElem? h2, h3, rfl⟩⟩
theorem MapIs.one {l : List MapEntry} {i j : Nat} {e a : MapEntry} {k : Value} (hn : (l.map (·.key)).Nodup) (hj : l[j]? = some e) (hjk : e.key = k) (hi : l[i]? = some a) (hik : a.key = k) : i = j := by
 have e1 : (l.map (·.key))[i]? = some k := by simp only [List.getElem?_map, hi, Option.map_some, hik]
 have e2 : (l.map (·.key))[j]? = some k := by simp only [List.getElem?_map, hj, Option.map_some, hjk]
 have hil : i < (l.map (·.key)).length := (List.getElem?_eq_some_iff.1 e1).1
 exact (List.getElem?_inj hil hn).1 (e1.trans e2.symm)
section
variable {P : Program} {w : World} {b : Nat} {f : Int → Option Value} {t kt et : TypeId}
theorem MapIs.look (h : MapIs w b f) (ht : P.underlying t = some (.map kt et)) (hk : P.underlying kt = some (.int .i64)) (k : Int) (ok : Bool) {z : Value} (hz : (zeroValue et).run P w = .ok z w) :
  (Instr.lookup t (.map (some b)) (.int .i64 k) ok).run P w = .ok (if ok then .tuple #[(f k).getD z, .bool (f k).isSome] else (f k).getD z) w := by
 obtain ⟨es, c, hb, hks, _, hf⟩ := h
 have hck : ∀ e, (Instr.checkKey e 10000 kt (.int .i64 k)).run P w = .ok () w := fun e => run_checkKey (d := .int .i64) (k := .int .i64 k) hk (show IsKey (.int .i64) (.int .i64 k) from rfl) e 9999
 rcases MapIs.find hb hks hf k with ⟨h1, h2, _⟩ | ⟨j, e, h1, _, _, h2⟩
 ·
  simp [Instr.lookup, run_underlying ht, MapKept.run_getObj_map hb, hck, run_findKey hk h1, hz, h2, Result.andThen]
 ·
  simp [Instr.lookup, run_underlying ht, MapKept.run_getObj_map hb, hck, run_findKey hk h1, h2, Result.andThen]
theorem MapIs.store (h : MapIs w b f) (ht : P.underlying t = some (.map kt et)) (hk : P.underlying kt = some (.int .i64)) (k : Int) (v : Value) :
  ∃ es c, (Instr.mapUpdate t (.map (some b)) (.int .i64 k) v).run P w = .ok () (setBlock w b (.map es c)) ∧ MapIs (setBlock w b (.map es c)) b fun x => if x = k then some v else f x := by
 obtain ⟨es, c, hb, hks, hn, hf⟩ := h
 have hck : ∀ e, (Instr.checkKey e 10000 kt (.int .i64 k)).run P w = .ok () w := fun e => run_checkKey (d := .int .i64) (k := .int .i64 k) hk (show IsKey (.int .i64) (.int .i64 k) from rfl) e 9999
 rcases MapIs.find hb hks hf k with ⟨h1, h2, h3⟩ | ⟨j, e, h1, h2, h3, h4⟩
 ·
  refine ⟨es.push ⟨.int .i64 k, v, c⟩, c + 1, by simp [Instr.mapUpdate, run_underlying ht, MapKept.run_getObj_map hb, hck, run_findKey hk h1, MapKept.run_setObj_map _ hb, Result.andThen, setBlock], ?_⟩
  refine ⟨_, _, heap_setBlock_same hb _, ?_, ?_, ?_⟩
  ·
   intro x hx
   simp only [Array.toList_push, List.mem_append, List.mem_singleton] at hx
   rcases hx with hx | rfl
   ·
    exact hks x hx
   ·
    exact rfl
  ·
   simp only [Array.toList_push, List.map_append, List.map_singleton]
   refine List.nodup_append.2 ⟨hn, by simp, ?_⟩
   intro a ha b' hb'
   simp only [List.mem_singleton] at hb'
   subst hb'
   obtain ⟨x, hx, rfl⟩ := List.mem_map.1 ha
   exact h3 x hx
  ·
   intro x u
   simp only [Array.toList_push, List.mem_append, List.mem_singleton]
   by_cases hx : x = k
   ·
    subst hx
    simp only [if_true, Option.some.injEq]
    constructor
    ·
     rintro rfl
     exact ⟨_, .inr rfl, rfl, rfl⟩
    ·
     rintro ⟨e, he | rfl, hek, hev⟩
     ·
      exact absurd hek (h3 e he)
     ·
      exact hev
   ·
    simp only [hx, if_false]
    rw [hf]
    constructor
    ·
     rintro ⟨e, he, h⟩
     exact ⟨e, .inl he, h⟩
    ·
     rintro ⟨e, he | rfl, hek, hev⟩
     ·
      exact ⟨e, he, hek, hev⟩
     ·
      exact absurd (key_ne.1 hek).symm hx
 ·
  have hj : es[j]? = some e := by simpa using h2
  have hjl : j < es.toList.length := (List.getElem?_eq_some_iff.1 h2).1
  refine ⟨es.modify j fun e => { e with key := .int .i64 k, val := v }, c, by simp [Instr.mapUpdate, run_underlying ht, MapKept.run_getObj_map hb, hck, run_findKey hk h1, hj, h3, run_keyThatStays (d := .int .i64) (k := .int .i64 k) (show IsKey (.int .i64) (.int .i64 k) from rfl), MapKept.run_setObj_map _ hb, Result.andThen, setBlock], ?_⟩
  have hlist : (es.modify j (fun e' => { e' with key := .int .i64 k, val := v })).toList = es.toList.set j { e with key := .int .i64 k, val := v } := by rw [Array.toList_modify, ChangeMaps.modify_eq_set _ _ _ _ h2]
  have hkeys : (es.toList.set j { e with key := .int .i64 k, val := v }).map (·.key) = es.toList.map (·.key) := by
   rw [List.map_set]
   show (es.toList.map (·.key)).set j (.int .i64 k) = _
   rw [← h3]
   apply List.ext_getElem?
   intro i
   rw [List.getElem?_set]
   split
   ·
    rename_i hij
    subst hij
    simp [hj]
    exact (aL hj)
   ·
    rfl
  refine ⟨_, _, heap_setBlock_same hb _, ?_, ?_, ?_⟩
  ·
   rw [hlist]
   intro x hx
   have : x.key ∈ (es.toList.set j { e with key := .int .i64 k, val := v }).map (·.key) := List.mem_map.2 ⟨x, hx, rfl⟩
   rw [hkeys] at this
   obtain ⟨y, hy, he⟩ := List.mem_map.1 this
   rw [← he]
   exact hks y hy
  ·
   rw [hlist, hkeys]
   exact hn
  ·
   intro x u
   rw [hlist]
   have who : ∀ a, a ∈ es.toList.set j { e with key := .int .i64 k, val := v } ↔ a = { e with key := .int .i64 k, val := v } ∨ (a ∈ es.toList ∧ a.key ≠ .int .i64 k) := by
    intro a
    constructor
    ·
     intro ha
     obtain ⟨i, hi⟩ := List.mem_iff_getElem?.1 ha
     rw [List.getElem?_set] at hi
     split at hi
     ·
      first | exact .inl (Option.some.inj hi).symm | (rw [if_pos (by assumption)] at hi; exact .inl (Option.some.inj hi).symm)
     ·
      rename_i hij
      refine .inr ⟨List.mem_of_getElem? hi, fun hak => hij ?_⟩
      have hai := MapIs.one hn h2 h3 hi hak
      exact hai.symm
    ·
     rintro (rfl | ⟨ha, hak⟩)
     ·
      exact List.mem_set hjl _
     ·
      obtain ⟨i, hi⟩ := List.mem_iff_getElem?.1 ha
      refine List.mem_iff_getElem?.2 ⟨i, ?_⟩
      rw [List.getElem?_set, if_neg]
      ·
       exact hi
      ·
       rintro rfl
       rw [h2] at hi
       cases hi
       exact hak h3
   by_cases hx : x = k
   ·
    subst hx
    simp only [if_true, Option.some.injEq]
    constructor
    ·
     rintro rfl
     exact ⟨_, (who _).2 (.inl rfl), rfl, rfl⟩
    ·
     rintro ⟨a, ha, hak, hav⟩
     rcases (who a).1 ha with rfl | ⟨_, h⟩
     ·
      exact hav
     ·
      exact absurd hak h
   ·
    simp only [hx, if_false]
    rw [hf]
    constructor
    ·
     rintro ⟨a, ha, hak, hav⟩
     exact ⟨a, (who a).2 (.inr ⟨ha, fun h => hx (key_ne.1 (hak.symm.trans h))⟩), hak, hav⟩
    ·
     rintro ⟨a, ha, hak, hav⟩
     rcases (who a).1 ha with rfl | ⟨h, _⟩
     ·
      exact absurd (key_ne.1 hak).symm hx
     ·
      exact ⟨a, h, hak, hav⟩
theorem MapIs.drop (h : MapIs w b f) (ht : P.underlying t = some (.map kt et)) (hk : P.underlying kt = some (.int .i64)) (k : Int) (t' ty : TypeId) :
  ∃ es c, (Builtin.delete_ #[t, t'] ty #[.map (some b), .int .i64 k]).run P w = .ok (.tuple #[]) (setBlock w b (.map es c)) ∧ MapIs (setBlock w b (.map es c)) b fun x => if x = k then none else f x := by
 obtain ⟨es, c, hb, hks, hn, hf⟩ := h
 have hck : ∀ e, (Instr.checkKey e 10000 kt (.int .i64 k)).run P w = .ok () w := fun e => run_checkKey (d := .int .i64) (k := .int .i64 k) hk (show IsKey (.int .i64) (.int .i64 k) from rfl) e 9999
 rcases MapIs.find hb hks hf k with ⟨h1, h2, h3⟩ | ⟨j, e, h1, h2, h3, h4⟩
 ·
  refine ⟨es, c, by simp [Builtin.delete_, run_underlying ht, MapKept.run_getObj_map hb, hck, run_findKey hk h1, MapKept.run_setObj_map _ hb, Result.andThen, setBlock], es, c, heap_setBlock_same hb _, hks, hn, fun x u => ?_⟩
  by_cases hx : x = k
  ·
   subst hx
   simp only [if_true, reduceCtorEq, false_iff]
   rintro ⟨a, ha, hak, _⟩
   exact h3 a ha hak
  ·
   simp only [hx, if_false]
   exact hf x u
 ·
  have hjl : j < es.toList.length := (List.getElem?_eq_some_iff.1 h2).1
  refine ⟨es.eraseIdxIfInBounds j, c, by simp [Builtin.delete_, run_underlying ht, MapKept.run_getObj_map hb, hck, run_findKey hk h1, MapKept.run_setObj_map _ hb, Result.andThen, setBlock], ?_⟩
  have hl : (es.eraseIdxIfInBounds j).toList = es.toList.eraseIdx j := by
   unfold Array.eraseIdxIfInBounds
   rw [dif_pos (by simpa using hjl), Array.toList_eraseIdx]
  have hsub : (es.toList.eraseIdx j).Sublist es.toList := List.eraseIdx_sublist _ _
  refine ⟨_, _, heap_setBlock_same hb _, ?_, ?_, ?_⟩
  ·
   rw [hl]
   exact fun x hx => hks x (hsub.subset hx)
  ·
   rw [hl]
   exact (hsub.map _).nodup hn
  ·
   intro x u
   rw [hl]
   have who : ∀ a, a ∈ es.toList.eraseIdx j ↔ a ∈ es.toList ∧ a.key ≠ .int .i64 k := by
    intro a
    rw [List.mem_eraseIdx_iff_getElem?]
    constructor
    ·
     rintro ⟨i, hij, hi⟩
     exact ⟨List.mem_of_getElem? hi, fun hak => hij (MapIs.one hn h2 h3 hi hak)⟩
    ·
     rintro ⟨ha, hak⟩
     obtain ⟨i, hi⟩ := List.mem_iff_getElem?.1 ha
     refine ⟨i, ?_, hi⟩
     rintro rfl
     rw [h2] at hi
     cases hi
     exact hak h3
   by_cases hx : x = k
   ·
    subst hx
    simp only [if_true, reduceCtorEq, false_iff]
    rintro ⟨a, ha, hak, _⟩
    exact ((who a).1 ha).2 hak
   ·
    simp only [hx, if_false]
    rw [hf]
    constructor
    ·
     rintro ⟨a, ha, hak, hav⟩
     exact ⟨a, (who a).2 ⟨ha, fun h => hx (key_ne.1 (hak.symm.trans h))⟩, hak, hav⟩
    ·
     rintro ⟨a, ha, hak, hav⟩
     exact ⟨a, ((who a).1 ha).1, hak, hav⟩
end
theorem setBlock_grown {w : World} {b : Nat} {o o' : Obj} (hb : w.heap[b]? = some o') : w.grownBy (setBlock w b o) (some b) :=
 ⟨rfl, rfl, rfl, by simp [setBlock], fun i _ hi => (heap_set (w := w) (o' := o) hb).2 i fun e => hi (by rw [e])⟩
section
variable {P : Program} {w : World} {ops : Array Oper} {rest : List Oper} {o : Oper} {a : Act} {Q : Exit → Act → World → Prop} {b : Nat} {f : Int → Option Value}
theorem map_look (hg : o.guard = none) (m x : Operand) (t kt et : TypeId) (ok : Bool) (hop : o.op = Op.lookup t m x ok) (ht : P.underlying t = some (.map kt et)) (hk : P.underlying kt = some (.int .i64))
  {z : Value} (hz : (zeroValue et).run P w = .ok z w) (hm : a.eval m = .map (some b)) (h : MapIs w b f) {k : Int} (hx : a.eval x = .int .i64 k)
  (hK : wpList P ops Q rest (a.put o.dst (if ok then .tuple #[(f k).getD z, .bool (f k).isSome] else (f k).getD z)) w) : wpList P ops Q (o :: rest) a w := by
 refine wpList_plain hg fun K' hK' => ?_
 have hrun := h.look ht hk k ok hz
 unfold Oper.wp
 simp [execOp, hop, hm, hx, hrun, Result.andThen]
 exact hK' _ _ hK
theorem map_store (hg : o.guard = none) (m x v : Operand) (t kt et : TypeId) (hop : o.op = Op.mapUpdate t m x v) (ht : P.underlying t = some (.map kt et)) (hk : P.underlying kt = some (.int .i64))
  (hm : a.eval m = .map (some b)) (h : MapIs w b f) {k : Int} (hx : a.eval x = .int .i64 k) {u : Value} (hv : a.eval v = u)
  (hK : ∀ w', MapIs w' b (fun x => if x = k then some u else f x) → w.grownBy w' (some b) → wpList P ops Q rest (a.put o.dst undef) w') : wpList P ops Q (o :: rest) a w := by
 refine wpList_plain hg fun K' hK' => ?_
 obtain ⟨es, c, hrun, h1⟩ := h.store ht hk k u
 obtain ⟨_, _, hb, _⟩ := h
 unfold Oper.wp
 simp [execOp, hop, hm, hx, hv, hrun, Result.andThen]
 exact hK' _ _ (hK _ h1 (setBlock_grown hb))
theorem map_drop (hg : o.guard = none) (m x : Operand) (t kt et t' : TypeId) (hop : o.op = Op.call { callee := Callee.builtin Builtin.delete, args := #[m, x], argTypes := #[t, t'] }) (ht : P.underlying t = some (.map kt et)) (hk : P.underlying kt = some (.int .i64))
  (hm : a.eval m = .map (some b)) (h : MapIs w b f) {k : Int} (hx : a.eval x = .int .i64 k)
  (hK : ∀ w', MapIs w' b (fun x => if x = k then none else f x) → w.grownBy w' (some b) → wpList P ops Q rest (a.put o.dst (.tuple #[])) w') : wpList P ops Q (o :: rest) a w := by
 refine wpList_plain hg fun K' hK' => ?_
 obtain ⟨es, c, hrun, h1⟩ := h.drop ht hk k t' o.type
 obtain ⟨_, _, hb, _⟩ := h
 unfold Oper.wp
 simp [execOp, hop, resolve, invoke, builtin, hm, hx, hrun, Result.andThen]
 exact hK' _ _ (hK _ h1 (setBlock_grown hb))
end
end Go.Proofs.YtbbgdbnjmonbgaaGreatDoor

set_option linter.unusedVariables false
set_option maxRecDepth 100000
namespace Go.Proofs.YtbbgdbnjmonbgaaGreatDoor
structure Wr where
 k : Int
 l : List UInt8
structure SD where
 size : Int
 lasts : Int → List UInt8
 waits : List Wr
 left : Int
 ops : Int
def zeros (n : Nat) : List UInt8 := List.replicate n 0
def pad (l : List UInt8) : List UInt8 := l ++ zeros (512 - l.length)
def over (l m : List UInt8) : List UInt8 := m ++ l.drop m.length
def putAt {α : Type} (f : Int → α) (k : Int) (v : α) : Int → α := fun x => if x = k then v else f x
def found (ws : List Wr) : Int → Option (List UInt8) := ws.foldl (fun f x => putAt f x.k (some x.l)) fun _ => none
def flushed (f : Int → List UInt8) (ws : List Wr) : Int → List UInt8 := ws.foldl (fun f x => putAt f x.k x.l) f
def keepOne (f : Int → List UInt8) (x : Wr) (n : Int) : Int → List UInt8 := if n < 1 then f else putAt f x.k (over (f x.k) (x.l.take (min n 512).toNat))
def kept (f : Int → List UInt8) (l : List (Wr × Int)) : Int → List UInt8 := l.foldl (fun f p => keepOne f p.1 p.2) f
theorem zeros_length (n : Nat) : (zeros n).length = n := by simp [zeros]
theorem pad_length {l : List UInt8} (h : l.length ≤ 512) : (pad l).length = 512 := by simp [pad, zeros]; omega
theorem over_length {l m : List UInt8} (h : m.length ≤ l.length) : (over l m).length = l.length := by simp [over]; omega
theorem zeros_drop (n k : Nat) : (zeros n).drop k = zeros (n - k) := by unfold zeros; rw [List.drop_replicate]
theorem pad_over (l : List UInt8) : pad l = over (zeros 512) l := by unfold pad over; rw [zeros_drop]
theorem found_snoc (ws : List Wr) (x : Wr) : found (ws ++ [x]) = putAt (found ws) x.k (some x.l) := by simp [found, List.foldl_append]
theorem flushed_snoc (f : Int → List UInt8) (ws : List Wr) (x : Wr) : flushed f (ws ++ [x]) = putAt (flushed f ws) x.k x.l := by simp [flushed, List.foldl_append]
def SD.read (S : SD) (k : Int) : List UInt8 := (found S.waits k).getD (S.lasts k)
theorem read_flush (f : Int → List UInt8) (ws : List Wr) (k : Int) : flushed f ws k = (found ws k).getD (f k) := by
 have : ∀ ws : List Wr, ∀ k, flushed f ws.reverse k = (found ws.reverse k).getD (f k) := by
  intro ws
  induction ws with
  | nil => intro k; rfl
  | cons x ws ih =>
   intro k
   rw [List.reverse_cons, found_snoc, flushed_snoc]
   unfold putAt
   split
   ·
    rfl
   ·
    exact ih k
 have h := this ws.reverse k
 rwa [List.reverse_reverse] at h
structure SD.Ok (S : SD) : Prop where
 s1 : 1 ≤ S.size
 s2 : S.size ≤ 4096
 l : ∀ k, (S.lasts k).length = 512
 w : ∀ x ∈ S.waits, x.l.length = 512 ∧ 0 ≤ x.k ∧ x.k < S.size
 n : S.waits.length ≤ S.ops
 o1 : 0 ≤ S.ops
def SD.new (n : Int) : SD := ⟨n, fun _ => zeros 512, [], -1, 0⟩
def SD.tick (S : SD) : SD := { S with left := if 0 < S.left then S.left - 1 else S.left, ops := S.ops + 1 }
def SD.write (S : SD) (k : Int) (b : List UInt8) : SD := { S.tick with waits := S.waits ++ [⟨k, pad b⟩] }
def SD.flush (S : SD) : SD := { S.tick with lasts := flushed S.lasts S.waits, waits := [] }
end Go.Proofs.YtbbgdbnjmonbgaaGreatDoor

set_option linter.unusedVariables false
set_option maxRecDepth 100000
namespace Go.Proofs.YtbbgdbnjmonbgaaGreatDoor
open Go.RowKit
def Sec (w : World) (g : Nat) (l : List UInt8) : Prop := w.heap[g]? = some (.cells (u8s l).toArray 5 (0, 0))
theorem Sec.lt {w : World} {g : Nat} {l : List UInt8} (h : Sec w g l) : g < w.heap.size := (aL h)
theorem Sec.below {w w' : World} {g : Nat} {l : List UInt8} (h : Sec w g l) (hb : Below w.heap.size w w') : Sec w' g l := by
 unfold Sec
 rw [hb.block g h.lt]
 exact h
theorem Sec.bs {w : World} {g : Nat} {l : List UInt8} (h : Sec w g l) : Bs w (some ⟨g, 0, none⟩) l := Bs.of_block h rfl
theorem madeCells_u8 (n : Nat) : madeCells #[Value.int .u8 0] n = (u8s (zeros n)).toArray := by
 apply Array.ext
 ·
  simp [madeCells, u8s, zeros]
 ·
  intro i h1 h2
  simp [madeCells, u8s, zeros, Nat.mod_one]
theorem make_u8 {w : World} {ops : Array Oper} {rest : List Oper} {o : Oper} {a : Act} {Q : Exit → Act → World → Prop} (hg : o.guard = none) (l c : Operand) (hop : o.op = Op.makeSlice 33 l c)
  (hl : a.eval l = .int .i64 512) (hc : a.eval c = .int .i64 512)
  (hK : ∀ w', Sec w' w.heap.size (zeros 512) → Below w.heap.size w w' → wpList Tryz.prog ops Q rest (a.put o.dst (.slice (some ⟨w.heap.size, 0, none⟩) 512 512)) w') :
  wpList Tryz.prog ops Q (o :: rest) a w := by
 obtain ⟨i, hi, hz0, hz1, hz2⟩ := info_parts info_u8
 refine wpList_make_row w hg l c _ hop 5 i (.int .u8 0) Tryz.underlying33 hi hz0 hz1 rfl .i64 .i64 512 hl hc (by rw [hz2]; decide) (by decide) ?_
 refine hK _ ?_ ((Below.refl _ _).alloc (Nat.le_refl _) _)
 rw [madeCells_u8]
 exact heap_alloc_new w _
theorem splice_u8 (l m : List UInt8) : splice (u8s l) 0 (u8s m) = u8s (over l m) := by
 simp [splice, u8s, over]
theorem copy_u8 {w w0 : World} {ops : Array Oper} {rest : List Oper} {o : Oper} {a : Act} {Q : Exit → Act → World → Prop} (hgd : o.guard = none) (d s : Operand)
  (ho : o.op = .call { callee := .builtin .copy, args := #[d, s], argTypes := #[33, 33] })
  {g n c : Nat} {l : List UInt8} (hd : a.eval d = .slice (some ⟨g, 0, none⟩) n c) (hg : Sec w g l) (hn : n = l.length)
  {p : Option Addr} {k k' : Nat} {m : List UInt8} (hs : a.eval s = .slice p k k') (hm : Bs w p m) (hk : k = m.length) (hml : m.length ≤ l.length) {B : Nat} (hb : Below B w0 w) (hB : B ≤ g)
  (h : ∀ w', Sec w' g (over l m) → Below B w0 w' → wpList Tryz.prog ops Q rest (a.put o.dst (goInt m.length)) w') : wpList Tryz.prog ops Q (o :: rest) a w := by
 subst hn hk
 obtain ⟨i, hi, hz0, hz1, hz2⟩ := info_parts info_u8
 refine wpList_copy_splice hgd d s _ _ ho 5 Tryz.underlying33 (by rw [hi]; simp [hz1]) _ _ _ _ _ _ hd hs g 0 (u8s l) 5 hg (u8s m) (by rw [u8s_length]; show _ = min _ _; omega) ?_ (by rw [u8s_length, u8s_length]; omega) (u8s_oneCell m) B w0 hb hB ?_
 ·
  intro h0
  rw [u8s_length] at h0
  obtain ⟨b, o, rfl, _, hc⟩ := hm.at h0
  refine ⟨rfl, _, rfl, fun j v hj => ?_⟩
  obtain ⟨u, hu, rfl⟩ := u8s_get hj
  rw [Addr.add_lit]
  obtain ⟨hj', rfl⟩ := List.getElem?_eq_some_iff.1 hu
  exact hc j hj'
 ·
  intro w' h1 h2
  rw [u8s_length]
  refine h w' ?_ h2
  have h3 := h1.out
  rw [splice_u8] at h3
  exact h3
def LaidPost (w : World) (l : List UInt8) (e : Ending) (w' : World) : Prop :=
 ∃ g, e = .returned (.slice (some ⟨g, 0, none⟩) 512 512) ∧ w.heap.size ≤ g ∧ Sec w' g l ∧ Below w.heap.size w w'
set_option maxHeartbeats 800000 in
theorem laid_any {w : World} {p q : Option Addr} {l m : List UInt8} {n c k d : Nat} (hl : Bs w p l) (hn : n = l.length) (h1 : l.length ≤ 512) (hm : Bs w q m) (hk : k = m.length) (h2 : m.length ≤ 512) :
  Calls Tryz.prog 77 #[.slice p n c, .slice q k d] w (LaidPost w (over (pad l) m)) := by
 have HL := Hq hl
 have HM := Hq hm
 have HN := Hq hn
 have HK := Hq hk
 have H1 := Hq h1
 have H2 := Hq h2
 clear hl hm hn hk h1 h2
 go_enter Tryz.func77, Tryz.ntmps77
 have hz : l.length ≤ (zeros 512).length := by rw [zeros_length]; exact H1.out
 have HZ := Hq hz
 have hz2 : m.length ≤ (over (zeros 512) l).length := by rw [over_length hz, zeros_length]; exact H2.out
 have HZ2 := Hq hz2
 have HZ3 := Hq (pad_over l)
 have hz4 : 512 = (zeros 512).length := (zeros_length 512).symm
 have hz5 : 512 = (over (zeros 512) l).length := by rw [over_length hz, zeros_length]
 have HZ4 := Hq hz4
 have HZ5 := Hq hz5
 clear hz hz2 hz4 hz5
 go_wp2_with (first | (at_make; refine make_u8 rfl _ _ rfl rfl rfl ?_; intro w1 h1 hb1; have H1 := Hq h1; have HB1 := Hq hb1; clear h1 hb1) | (refine copy_u8 rfl (.tmp 7) (.tmp 8) rfl rfl H1.out HZ4.out rfl (HL.out.below HB1.out) HN.out HZ.out HB1.out (Nat.le_refl _) ?_; intro w2 h2 hb2; have H2 := Hq h2; have HB2 := Hq hb2; clear h2 hb2) | (refine copy_u8 rfl (.tmp 10) (.tmp 11) rfl rfl H2.out HZ5.out rfl (HM.out.below HB2.out) HK.out HZ2.out HB2.out (Nat.le_refl _) ?_; intro w3 h3 hb3; have H3 := Hq h3; have HB3 := Hq hb3; clear h3 hb3))
 go_ret
 exact ⟨_, rfl, Nat.le_refl _, by rw [HZ3.out]; exact H3.out, HB3.out⟩
end Go.Proofs.YtbbgdbnjmonbgaaGreatDoor

set_option linter.unusedVariables false
set_option maxRecDepth 100000
namespace Go.Proofs.YtbbgdbnjmonbgaaGreatDoor
open Go.RowKit
def ofDisk (lm fm : Nat) : Nat → Obj → Bool
 | i, .map _ _ => i == lm || i == fm
 | _, .cells _ t _ => t == 78 || t == 140
 | _, _ => false
structure Keeps (K : Nat → Obj → Bool) (w w' : World) : Prop where
 size : w.heap.size ≤ w'.heap.size
 stay : ∀ {i : Nat} {o : Obj}, w.heap[i]? = some o → K i o = false → w'.heap[i]? = some o
theorem Keeps.refl (K : Nat → Obj → Bool) (w : World) : Keeps K w w := ⟨Nat.le_refl _, fun h _ => h⟩
theorem Keeps.trans {K : Nat → Obj → Bool} {w w1 w2 : World} (h : Keeps K w w1) (h' : Keeps K w1 w2) : Keeps K w w2 := ⟨Nat.le_trans h.size h'.size, fun h1 h2 => h'.stay (h.stay h1 h2) h2⟩
theorem Keeps.below {K : Nat → Obj → Bool} {w w' : World} (h : Below w.heap.size w w') : Keeps K w w' :=
 ⟨h.size, fun {i o} h1 _ => by rw [h.block i (aL h1)]; exact h1⟩
theorem Keeps.grown {K : Nat → Obj → Bool} {w w' : World} {row : Option Nat} (h : w.grownBy w' row) (hk : ∀ b o, row = some b → w.heap[b]? = some o → K b o = true) : Keeps K w w' :=
 ⟨h.size, fun {i o} h1 h2 => by
  by_cases hi : row = some i
  ·
   rw [hk i o hi h1] at h2
   cases h2
  ·
   rw [h.block i (aL h1) (fun e => hi e.symm)]
   exact h1⟩
theorem Keeps.bs {K : Nat → Obj → Bool} {w w' : World} (h : Keeps K w w') {p : Option Addr} {l : List UInt8} (hb : Bs w p l) (hK : ∀ b o fr c t, p = some ⟨b, o, none⟩ → w.heap[b]? = some (.cells c t fr) → K b (.cells c t fr) = false) : Bs w' p l := by
 intro hne
 obtain ⟨b, o, hp, hc⟩ := hb hne
 refine ⟨b, o, hp, fun i u hi => ?_⟩
 have h1 := hc i u hi
 have h2 := World.block_lt_of_cell? _ _ h1
 obtain ⟨ob, hob⟩ : ∃ ob, w.heap[b]? = some ob := ⟨_, Array.getElem?_eq_getElem h2⟩
 have hk : K b ob = false := by
  cases ob with
  | cells c t fr => exact hK b o fr c t hp hob
  | _ => simp [World.cell?, hob] at h1
 have h3 := h.stay hob hk
 simp only [World.cell?, hob, h3] at h1 ⊢
 exact h1
theorem ofDisk_u8 {lm fm i : Nat} (c : Array Value) (f : Nat × Nat) : ofDisk lm fm i (.cells c 5 f) = false := by
 show ((5 : TypeId) == 78 || (5 : TypeId) == 140) = false
 decide
def wcells (ms : List (Wr × Nat)) : List Value := ms.flatMap fun x => [.int .i64 x.1.k, .slice (some ⟨x.2, 0, none⟩) 512 512]
def sl (g : Nat) : Value := .slice (some ⟨g, 0, none⟩) 512 512
structure DiskIs (w : World) (B p lm fm : Nat) (v : Value) (ms : List (Wr × Nat)) (fl ff : Int → Option Value) (S : SD) : Prop where
 blk : w.heap[p]? = some (.cells #[.int .i64 S.size, .map (some lm), v, .map (some fm), .int .i64 S.left, .int .i64 S.ops] 78 (0, 0))
 hp : B ≤ p
 lb : B ≤ lm
 fb : B ≤ fm
 ne : lm ≠ fm
 ws : S.waits = ms.map (·.1)
 own : w.ownsRow B 140 2 v ms.length (wcells ms)
 sec : ∀ x ∈ ms, Sec w x.2 x.1.l
 ml : MapIs w lm fl
 mf : MapIs w fm ff
 ll : ∀ k, (fl k = none ∧ S.lasts k = zeros 512) ∨ ∃ g, fl k = some (sl g) ∧ Sec w g (S.lasts k)
 lf : ∀ k, (ff k = none ∧ found S.waits k = none) ∨ ∃ g l, ff k = some (sl g) ∧ found S.waits k = some l ∧ Sec w g l
 ok : S.Ok
def DiskAt (w : World) (B p lm fm : Nat) (S : SD) : Prop := ∃ v ms fl ff, DiskIs w B p lm fm v ms fl ff S
theorem DiskIs.below {w w' : World} {B p lm fm : Nat} {v : Value} {ms : List (Wr × Nat)} {fl ff : Int → Option Value} {S : SD} (h : DiskIs w B p lm fm v ms fl ff S) (hb : Below w.heap.size w w') : DiskIs w' B p lm fm v ms fl ff S := by
 obtain ⟨h1, h2, h3, h4, h5, h6, h7, h8, h9, h10, h11, h12, h13⟩ := h
 refine ⟨by rw [hb.block _ (aL h1)]; exact h1, h2, h3, h4, h5, h6, ?_, fun x hx => (h8 x hx).below hb, h9.block (hb.block _ h9.lt), h10.block (hb.block _ h10.lt), ?_, ?_, h13⟩
 ·
  refine ⟨h7.1, ?_⟩
  rcases h7.2 with h0 | ⟨g, cap, cur, hv, r1, hg, r2⟩
  ·
   exact .inl h0
  ·
   exact .inr ⟨g, cap, cur, hv, r1, by rw [hb.block g (aL hg)]; exact hg, r2⟩
 ·
  intro k
  rcases h11 k with h | ⟨g, h, hs⟩
  ·
   exact .inl h
  ·
   exact .inr ⟨g, h, hs.below hb⟩
 ·
  intro k
  rcases h12 k with h | ⟨g, l, h, h', hs⟩
  ·
   exact .inl h
  ·
   exact .inr ⟨g, l, h, h', hs.below hb⟩
theorem DiskAt.below {w w' : World} {B p lm fm : Nat} {S : SD} (h : DiskAt w B p lm fm S) (hb : Below w.heap.size w w') : DiskAt w' B p lm fm S := by
 obtain ⟨v, ms, fl, ff, h⟩ := h
 exact ⟨v, ms, fl, ff, h.below hb⟩
theorem DiskAt.ok {w : World} {B p lm fm : Nat} {S : SD} (h : DiskAt w B p lm fm S) : S.Ok := by
 obtain ⟨v, ms, fl, ff, h⟩ := h
 exact h.ok
structure DiskStep (w w' : World) (B p lm fm : Nat) (S : SD) : Prop where
 disk : DiskAt w' B p lm fm S
 below : Below B w w'
 keeps : Keeps (ofDisk lm fm) w w'
end Go.Proofs.YtbbgdbnjmonbgaaGreatDoor

set_option linter.unusedVariables false
set_option maxRecDepth 100000
namespace Go.Proofs.YtbbgdbnjmonbgaaGreatDoor
open Go.RowKit
set_option maxHeartbeats 400000 in
theorem made_yes {w : World} {p : Nat} {n : Int} (h : w.cell? ⟨p, 0, none⟩ = some (.int .i64 n)) (hn : 0 < n) :
  Calls Tryz.prog 71 #[.pointer (some ⟨p, 0, none⟩)] w fun e w' => e = .returned (.bool true) ∧ w = w' := by
 have hd : decide (0 < n) = true := decide_eq_true hn
 go_enter Tryz.func71, Tryz.ntmps71
 go_wp2
 all_goals first
  | (go_ret; exact ⟨rfl, rfl⟩)
  | trace_state
set_option maxHeartbeats 400000 in
theorem has_any {w : World} {p : Nat} {n k : Int} (h : w.cell? ⟨p, 0, none⟩ = some (.int .i64 n)) :
  Calls Tryz.prog 76 #[.pointer (some ⟨p, 0, none⟩), .int .i64 k] w fun e w' => e = .returned (.bool (decide (0 ≤ k) && decide (k < n))) ∧ w = w' := by
 by_cases h0 : 0 ≤ k
 ·
  have h1 : decide (0 ≤ k) = true := decide_eq_true h0
  go_enter Tryz.func76, Tryz.ntmps76
  go_wp2
  all_goals (go_ret; exact ⟨by simp_all, rfl⟩)
 ·
  have h1 : decide (0 ≤ k) = false := decide_eq_false h0
  go_enter Tryz.func76, Tryz.ntmps76
  go_wp2
  all_goals (go_ret; exact ⟨by simp_all, rfl⟩)
end Go.Proofs.YtbbgdbnjmonbgaaGreatDoor

set_option linter.unusedVariables false
set_option maxRecDepth 100000
namespace Go.Proofs.YtbbgdbnjmonbgaaGreatDoor
open Go.RowKit
theorem sbox1 (w : World) (o : Obj) : Below w.heap.size w (w.alloc o) := (Below.refl _ _).alloc (Nat.le_refl _) _
theorem sbox2 (w : World) (o o' : Obj) : Below w.heap.size w ((w.alloc o).alloc o') := (sbox1 w o).alloc (by simp) _
theorem sbox3 (w : World) (o o' o2 : Obj) : Below w.heap.size w (((w.alloc o).alloc o').alloc o2) := (sbox2 w o o').alloc (by simp; omega) _
theorem sbox3_heap (w : World) (o o' o2 : Obj) : (((w.alloc o).alloc o').alloc o2).heap[w.heap.size]? = some o ∧ (((w.alloc o).alloc o').alloc o2).heap[w.heap.size + 1]? = some o' ∧ (((w.alloc o).alloc o').alloc o2).heap[w.heap.size + 2]? = some o2 ∧ (((w.alloc o).alloc o').alloc o2).heap.size = w.heap.size + 3 := by
 have e1 : (w.alloc o).heap.size = w.heap.size + 1 := by simp
 have e2 : ((w.alloc o).alloc o').heap.size = w.heap.size + 2 := by simp
 refine ⟨?_, ?_, ?_, by simp⟩
 ·
  rw [Below.heap_alloc _ _ _ (by omega), Below.heap_alloc _ _ _ (by omega)]
  exact heap_alloc_new w _
 ·
  rw [Below.heap_alloc _ _ _ (by omega)]
  have := heap_alloc_new (w.alloc o) o'
  rw [e1] at this
  exact this
 ·
  have := heap_alloc_new ((w.alloc o).alloc o') o2
  rw [e2] at this
  exact this
end Go.Proofs.YtbbgdbnjmonbgaaGreatDoor

set_option linter.unusedVariables false
set_option maxRecDepth 100000
namespace Go.Proofs.YtbbgdbnjmonbgaaGreatDoor
open Go.RowKit
theorem cell_set {w : World} {p i : Nat} {cs : Array Value} {t : TypeId} {v : Value} (h : w.heap[p]? = some (.cells cs t (0, 0))) :
  (w.setCell ⟨p, i, none⟩ v).heap[p]? = some (.cells (cs.setIfInBounds i v) t (0, 0)) ∧ w.grownBy (w.setCell ⟨p, i, none⟩ v) (some p) := by
 rw [setCell_eq_setRow w p i cs t (0, 0) v h]
 exact ⟨setRow_heap w p cs _ t _ h, ⟨rfl, rfl, rfl, by simp [World.setRow], fun k _ hk => setRow_other w p k _ (fun e => hk (by rw [e]))⟩⟩
theorem grown_at {w w' : World} {b i : Nat} {o : Obj} (hg : w.grownBy w' (some b)) (h : w.heap[i]? = some o) (hne : i ≠ b) : w'.heap[i]? = some o := by
 rw [hg.block i (aL h) (fun e => hne (Option.some.inj e))]
 exact h
theorem obj_ne {w : World} {i b : Nat} {o o' : Obj} (h : w.heap[i]? = some o) (h' : w.heap[b]? = some o') (hne : o ≠ o') : i ≠ b := by
 rintro rfl
 rw [h] at h'
 exact hne (Option.some.inj h')
theorem ofDisk_own {lm fm i : Nat} (c : Array Value) (f : Nat × Nat) : ofDisk lm fm i (.cells c 78 f) = true := by
 show ((78 : TypeId) == 78 || (78 : TypeId) == 140) = true
 decide
theorem ofDisk_write {lm fm i : Nat} (c : Array Value) (f : Nat × Nat) : ofDisk lm fm i (.cells c 140 f) = true := by
 show ((140 : TypeId) == 78 || (140 : TypeId) == 140) = true
 decide
structure DiskRest (w : World) (b : Nat) (B p lm fm : Nat) (v : Value) (ms : List (Wr × Nat)) (fl ff : Int → Option Value) (S : SD) : Prop where
 blk : p ≠ b → w.heap[p]? = some (.cells #[.int .i64 S.size, .map (some lm), v, .map (some fm), .int .i64 S.left, .int .i64 S.ops] 78 (0, 0))
 own : v.ownBlock ≠ some b → w.ownsRow B 140 2 v ms.length (wcells ms)
 sec : ∀ x ∈ ms, Sec w x.2 x.1.l
 ml : lm ≠ b → MapIs w lm fl
 mf : fm ≠ b → MapIs w fm ff
 ll : ∀ k, (fl k = none ∧ S.lasts k = zeros 512) ∨ ∃ g, fl k = some (sl g) ∧ Sec w g (S.lasts k)
 lf : ∀ k, (ff k = none ∧ found S.waits k = none) ∨ ∃ g l, ff k = some (sl g) ∧ found S.waits k = some l ∧ Sec w g l
theorem DiskIs.rest {w w' : World} {b B p lm fm : Nat} {v : Value} {ms : List (Wr × Nat)} {fl ff : Int → Option Value} {S : SD} (h : DiskIs w B p lm fm v ms fl ff S) (hg : w.grownBy w' (some b))
  {o : Obj} (hb : w.heap[b]? = some o) (ho : ofDisk lm fm b o = true) : DiskRest w' b B p lm fm v ms fl ff S := by
 have hs : ∀ {g : Nat} {l : List UInt8}, Sec w g l → Sec w' g l := fun {g l} hs => grown_at hg hs (obj_ne hs hb (by rintro rfl; rw [ofDisk_u8] at ho; cases ho))
 have hm : ∀ {m : Nat} {f : Int → Option Value}, MapIs w m f → m ≠ b → MapIs w' m f := fun {m f} hm hne => hm.block (hg.block m hm.lt (fun e => hne (Option.some.inj e)))
 refine ⟨fun hne => grown_at hg h.blk hne, fun hne => World.ownsRow.kept h.own hg (.inr hne), fun x hx => hs (h.sec x hx), hm h.ml, hm h.mf, fun k => ?_, fun k => ?_⟩
 ·
  rcases h.ll k with h | ⟨g, h, h'⟩
  ·
   exact .inl h
  ·
   exact .inr ⟨g, h, hs h'⟩
 ·
  rcases h.lf k with h | ⟨g, l, h, h1, h'⟩
  ·
   exact .inl h
  ·
   exact .inr ⟨g, l, h, h1, hs h'⟩
theorem DiskIs.lm_ne {w : World} {B p lm fm : Nat} {v : Value} {ms : List (Wr × Nat)} {fl ff : Int → Option Value} {S : SD} (h : DiskIs w B p lm fm v ms fl ff S) : lm ≠ p ∧ fm ≠ p ∧ v.ownBlock ≠ some p ∧ v.ownBlock ≠ some lm ∧ v.ownBlock ≠ some fm := by
 obtain ⟨_, _, hl, _⟩ := h.ml
 obtain ⟨_, _, hf, _⟩ := h.mf
 refine ⟨obj_ne hl h.blk (by simp), obj_ne hf h.blk (by simp), ?_⟩
 rcases h.own.2 with ⟨rfl, _⟩ | ⟨g, cap, cur, rfl, _, hg, _⟩
 ·
  exact ⟨by simp [Value.ownBlock], by simp [Value.ownBlock], by simp [Value.ownBlock]⟩
 ·
  refine ⟨fun e => obj_ne hg h.blk ?_ (Option.some.inj e), fun e => obj_ne hg hl (by simp) (Option.some.inj e), fun e => obj_ne hg hf (by simp) (Option.some.inj e)⟩
  intro e
  simp at e
theorem DiskIs.count {w w' : World} {B p lm fm : Nat} {v : Value} {ms : List (Wr × Nat)} {fl ff : Int → Option Value} {S : SD} (h : DiskIs w B p lm fm v ms fl ff S) (hg : w.grownBy w' (some p)) {l o : Int}
  (hb : w'.heap[p]? = some (.cells #[.int .i64 S.size, .map (some lm), v, .map (some fm), .int .i64 l, .int .i64 o] 78 (0, 0))) (ho : S.ops ≤ o) :
  DiskIs w' B p lm fm v ms fl ff { S with left := l, ops := o } := by
 obtain ⟨r1, r2, r3, r4, r5, r6, r7⟩ := h.rest hg h.blk (ofDisk_own _ _)
 obtain ⟨n1, n2, n3, _⟩ := h.lm_ne
 obtain ⟨k1, k2, k3, k4, k5, k6⟩ := h.ok
 exact ⟨hb, h.hp, h.lb, h.fb, h.ne, h.ws, r2 n3, r3, r4 n1, r5 n2, r6, r7, ⟨k1, k2, k3, k4, by show ((S.waits.length : Nat) : Int) ≤ o; omega, by show 0 ≤ o; omega⟩⟩
theorem disk_step {w w' : World} {B b lm fm : Nat} (hg : w.grownBy w' (some b)) {o : Obj} (hb : w.heap[b]? = some o) (ho : ofDisk lm fm b o = true) (hB : B ≤ b) (hBw : B ≤ w.heap.size) :
  Below B w w' ∧ Keeps (ofDisk lm fm) w w' :=
 ⟨(Below.refl B w).grown hg hBw fun k hk => by cases hk; exact hB, Keeps.grown hg fun i o' hi h => by cases hi; rw [hb] at h; cases h; exact ho⟩
theorem DiskIs.begun {w' : World} {B p lm fm : Nat} {fl : Int → Option Value} {L : Int → List UInt8} {n : Int} (hp : w'.heap[p]? = some (.cells #[.int .i64 n, .map (some lm), .slice none 0 0, .map (some fm), .int .i64 (-1), .int .i64 0] 78 (0, 0)))
  (h1 : B ≤ p) (h2 : B ≤ lm) (h3 : B ≤ fm) (h4 : lm ≠ fm) (hm : MapIs w' lm fl) (hf : w'.heap[fm]? = some (.map #[] 0)) (hl : ∀ k, (fl k = none ∧ L k = zeros 512) ∨ ∃ g, fl k = some (sl g) ∧ Sec w' g (L k))
  (n1 : 1 ≤ n) (n2 : n ≤ 4096) (hL : ∀ k, (L k).length = 512) : DiskIs w' B p lm fm (.slice none 0 0) [] fl (fun _ => none) ⟨n, L, [], -1, 0⟩ :=
 ⟨hp, h1, h2, h3, h4, rfl, World.ownsRow_nil w' B _ _, by simp, hm, MapIs.new hf, hl, fun k => .inl ⟨rfl, rfl⟩, ⟨n1, n2, hL, by simp, by simp, by simp⟩⟩
def NewPost (w : World) (B lm : Nat) (S : SD) (e : Ending) (w' : World) : Prop := ∃ p fm, e = .returned (.pointer (some ⟨p, 0, none⟩)) ∧ DiskAt w' B p lm fm S ∧ Below w.heap.size w w' ∧ w.heap.size ≤ p
set_option maxHeartbeats 800000 in
theorem begin_any {w : World} {B lm : Nat} {fl : Int → Option Value} {L : Int → List UInt8} {n : Int} (hm : MapIs w lm fl) (hB : B ≤ lm) (hl : ∀ k, (fl k = none ∧ L k = zeros 512) ∨ ∃ g, fl k = some (sl g) ∧ Sec w g (L k)) (n1 : 1 ≤ n) (n2 : n ≤ 4096) (hL : ∀ k, (L k).length = 512) :
  Calls Tryz.prog 16 #[.int .i64 n, .map (some lm)] w (NewPost w B lm ⟨n, L, [], -1, 0⟩) := by
 have hfin : ∀ w', w' = ((w.alloc (.map #[] 0)).alloc (.cells #[.int .i64 n, .map (some lm), .slice none 0 0, .map (some w.heap.size), .int .i64 (-1), .int .i64 0] 78)) → DiskAt w' B (w.heap.size + 1) lm w.heap.size ⟨n, L, [], -1, 0⟩ ∧ Below w.heap.size w w' := by
  rintro w' rfl
  have hb := sbox2 w (.map #[] 0) (.cells #[.int .i64 n, .map (some lm), .slice none 0 0, .map (some w.heap.size), .int .i64 (-1), .int .i64 0] 78)
  have hlt := hm.lt
  have e1 : (w.alloc (.map #[] 0)).heap.size = w.heap.size + 1 := by simp
  refine ⟨⟨_, [], fl, _, DiskIs.begun ?_ (by omega) hB (by omega) (by omega) (hm.block (hb.block _ hlt)) ?_ ?_ n1 n2 hL⟩, hb⟩
  ·
   have := heap_alloc_new (w.alloc (.map #[] 0)) (.cells #[.int .i64 n, .map (some lm), .slice none 0 0, .map (some w.heap.size), .int .i64 (-1), .int .i64 0] 78)
   rw [e1] at this
   exact this
  ·
   rw [Below.heap_alloc _ _ _ (by omega)]
   exact heap_alloc_new w _
  ·
   intro k
   rcases hl k with h | ⟨g, h, h'⟩
   ·
    exact .inl h
   ·
    exact .inr ⟨g, h, h'.below hb⟩
 have HF := Hq hfin
 clear hfin hm hl
 have hmm := @run_makeMap Tryz.prog
 go_enter Tryz.func16, Tryz.ntmps16
 go_wp2
 go_ret
 exact ⟨_, w.heap.size, rfl, (HF.out _ rfl).1, (HF.out _ rfl).2, by simp⟩
def NewPost2 (w : World) (n : Int) (e : Ending) (w' : World) : Prop := ∃ p lm fm, e = .returned (.tuple #[.pointer (some ⟨p, 0, none⟩), .int .i64 0]) ∧ DiskAt w' w.heap.size p lm fm (SD.new n) ∧ Below w.heap.size w w' ∧ w.heap.size ≤ p
set_option maxHeartbeats 800000 in
theorem new_yes {w : World} {n : Int} (n1 : 1 ≤ n) (n2 : n ≤ 4096) : Calls Tryz.prog 4 #[.int .i64 n] w (NewPost2 w n) := by
 have HB : Hid (Calls Tryz.prog 16 #[.int .i64 n, .map (some w.heap.size)] (w.alloc (.map #[] 0)) (NewPost (w.alloc (.map #[] 0)) w.heap.size w.heap.size (SD.new n))) :=
  Hq (begin_any (MapIs.new (heap_alloc_new w _)) (Nat.le_refl _) (fun k => .inl ⟨rfl, rfl⟩) n1 n2 (fun k => zeros_length 512))
 have hmm := @run_makeMap Tryz.prog
 go_enter Tryz.func4, Tryz.ntmps4
 go_wp2_with fail
 refine HB.out.mono ?_; rintro e w1 ⟨p, fm, rfl, hd, hb, hp⟩
 have HD := Hq hd
 have HB1 := Hq ((sbox1 w _).trans (hb.mono (sbox1 w _).size))
 have HP := Hq hp
 clear hd hb hp
 go_wp2
 go_ret2
 exact ⟨p, w.heap.size, fm, rfl, HD.out, HB1.out, by have := HP.out; simp at this; omega⟩
end Go.Proofs.YtbbgdbnjmonbgaaGreatDoor

