/-
  Small facts that the texts share.
  A map keyed by whole numbers, of whatever elements, that a call has made: what each key has (MapIs); look-up, store, delete, clone.
-/
import Derived.Test.YtmlnpgbnbchbkaaDoorProg
import Derived.WalkKit
import Derived.Laws.AppendOwnNone
import Derived.Deep.Draws
import Derived.MapKept
import Derived.ChangeMaps5
import Derived.Maps.Own
import Derived.Maps.OwnOps
import Derived.Maps.OwnSet
set_option linter.unusedVariables false
set_option maxRecDepth 100000
namespace Go.Proofs.YtmlnpgbnbchbkaaDoor
open Go.RowKit

theorem ret_int {k : IntKind} {a b : Int} (h : a = b) : Ending.returned (.int k a) = .returned (.int k b) := by rw [h]
theorem ret_bool {a b : Bool} (h : a = b) : Ending.returned (.bool a) = .returned (.bool b) := by rw [h]
theorem belowN {B : Nat} {a w : World} (h : Below B a w) (n : Nat) : Below B a (w.drewN n) := h.trans ⟨rfl, rfl, rfl, Nat.le_refl _, fun _ _ => rfl⟩
theorem drop_get {α : Type} {l : List α} {j : Nat} {a : α} (h : l[j]? = some a) : l.drop j = a :: l.drop (j + 1) := by
  obtain ⟨hj, rfl⟩ := List.getElem?_eq_some_iff.1 h
  exact List.drop_eq_getElem_cons hj

end Go.Proofs.YtmlnpgbnbchbkaaDoor

set_option linter.unusedVariables false
set_option maxRecDepth 100000
namespace Go.Proofs.YtmlnpgbnbchbkaaDoor
open Go.RowKit Go.MapKept
open Go.ChangeMaps (setBlock heap_setBlock_same heap_setBlock_other)

/-- Block b is a map; f tells what each key has. -/
def MapIs (w : World) (b : Nat) (f : Int → Option Value) : Prop :=
  ∃ es clock, w.heap[b]? = some (.map es clock) ∧ (∀ x ∈ es.toList, IsKey (.int .i64) x.key) ∧ (es.toList.map (·.key)).Nodup ∧
    ∀ k v, f k = some v ↔ ∃ e ∈ es.toList, e.key = .int .i64 k ∧ e.val = v

theorem MapIs.lt {w : World} {b : Nat} {f : Int → Option Value} (h : MapIs w b f) : b < w.heap.size := by
  obtain ⟨es, c, hb, _⟩ := h
  exact (Array.getElem?_eq_some_iff.1 hb).1

theorem MapIs.block {w w' : World} {b b' : Nat} {f : Int → Option Value} (h : MapIs w b f) (hb : w'.heap[b']? = w.heap[b]?) : MapIs w' b' f := by
  obtain ⟨es, c, h1, h2⟩ := h
  exact ⟨es, c, by rw [hb]; exact h1, h2⟩

theorem MapIs.new {w : World} {b : Nat} (hb : w.heap[b]? = some (.map #[] 0)) : MapIs w b fun _ => none :=
  ⟨#[], 0, hb, by simp, by simp, by simp⟩

theorem key_ne {a b : Int} : (Value.int .i64 a = Value.int .i64 b) ↔ a = b := by simp

theorem MapIs.find {w : World} {b : Nat} {f : Int → Option Value} {es : Array MapEntry} {c : Nat} (hb : w.heap[b]? = some (.map es c)) (hk : ∀ x ∈ es.toList, IsKey (.int .i64) x.key)
    (hf : ∀ k v, f k = some v ↔ ∃ e ∈ es.toList, e.key = .int .i64 k ∧ e.val = v) (k : Int) :
    (Instr.findNow (.int .i64) (.int .i64 k) es.toList 0 = some none ∧ f k = none ∧ ∀ x ∈ es.toList, x.key ≠ .int .i64 k) ∨
    ∃ j e, Instr.findNow (.int .i64) (.int .i64 k) es.toList 0 = some (some (j, e.val)) ∧ es.toList[j]? = some e ∧ e.key = .int .i64 k ∧ f k = some e.val := by
  rcases findNow_spec (d := .int .i64) (k := .int .i64 k) (show IsKey (.int .i64) (.int .i64 k) from rfl) es.toList 0 hk with ⟨h1, h2⟩ | ⟨j, e, h1, h2, h3⟩
  · refine .inl ⟨h1, ?_, h2⟩
    cases hv : f k with
    | none => rfl
    | some v =>
      obtain ⟨e, he, hek, _⟩ := (hf k v).1 hv
      exact absurd hek (h2 e he)
  · exact .inr ⟨j, e, by simpa using h1, h2, h3, (hf k e.val).2 ⟨e, List.mem_of_getElem? h2, h3, rfl⟩⟩

theorem MapIs.one {l : List MapEntry} {i j : Nat} {e a : MapEntry} {k : Value} (hn : (l.map (·.key)).Nodup) (hj : l[j]? = some e) (hjk : e.key = k) (hi : l[i]? = some a) (hik : a.key = k) : i = j := by
  have e1 : (l.map (·.key))[i]? = some k := by simp only [List.getElem?_map, hi, Option.map_some, hik]
  have e2 : (l.map (·.key))[j]? = some k := by simp only [List.getElem?_map, hj, Option.map_some, hjk]
  have hil : i < (l.map (·.key)).length := (List.getElem?_eq_some_iff.1 e1).1
  exact (List.getElem?_inj hil hn).1 (e1.trans e2.symm)

section
variable {P : Program} {w : World} {b : Nat} {f : Int → Option Value} {t kt et : TypeId}

theorem MapIs.look (h : MapIs w b f) (ht : P.underlying t = some (.map kt et)) (hk : P.underlying kt = some (.int .i64)) (k : Int) (ok : Bool) {z : Value} (hz : (zeroValue et).run P w = .ok z w) :
    (Instr.lookup t (.map (some b)) (.int .i64 k) ok).run P w = .ok (if ok then .tuple #[(f k).getD z, .bool (f k).isSome] else (f k).getD z) w := by
  obtain ⟨es, c, hb, hks, _, hf⟩ := h
  have hck : ∀ e, (Instr.checkKey e 10000 kt (.int .i64 k)).run P w = .ok () w := fun e => run_checkKey (d := .int .i64) (k := .int .i64 k) hk (show IsKey (.int .i64) (.int .i64 k) from rfl) e 9999
  rcases MapIs.find hb hks hf k with ⟨h1, h2, _⟩ | ⟨j, e, h1, _, _, h2⟩
  · simp [Instr.lookup, run_underlying ht, MapKept.run_getObj_map hb, hck, run_findKey hk h1, hz, h2, Result.andThen]
  · simp [Instr.lookup, run_underlying ht, MapKept.run_getObj_map hb, hck, run_findKey hk h1, h2, Result.andThen]

theorem MapIs.store (h : MapIs w b f) (ht : P.underlying t = some (.map kt et)) (hk : P.underlying kt = some (.int .i64)) (k : Int) (v : Value) :
    ∃ es c, (Instr.mapUpdate t (.map (some b)) (.int .i64 k) v).run P w = .ok () (setBlock w b (.map es c)) ∧ MapIs (setBlock w b (.map es c)) b fun x => if x = k then some v else f x := by
  obtain ⟨es, c, hb, hks, hn, hf⟩ := h
  have hck : ∀ e, (Instr.checkKey e 10000 kt (.int .i64 k)).run P w = .ok () w := fun e => run_checkKey (d := .int .i64) (k := .int .i64 k) hk (show IsKey (.int .i64) (.int .i64 k) from rfl) e 9999
  rcases MapIs.find hb hks hf k with ⟨h1, h2, h3⟩ | ⟨j, e, h1, h2, h3, h4⟩
  · refine ⟨es.push ⟨.int .i64 k, v, c⟩, c + 1, by simp [Instr.mapUpdate, run_underlying ht, MapKept.run_getObj_map hb, hck, run_findKey hk h1, MapKept.run_setObj_map _ hb, Result.andThen, setBlock], ?_⟩
    refine ⟨_, _, heap_setBlock_same hb _, ?_, ?_, ?_⟩
    · intro x hx
      simp only [Array.toList_push, List.mem_append, List.mem_singleton] at hx
      rcases hx with hx | rfl
      · exact hks x hx
      · exact rfl
    · simp only [Array.toList_push, List.map_append, List.map_singleton]
      refine List.nodup_append.2 ⟨hn, by simp, ?_⟩
      intro a ha b' hb'
      simp only [List.mem_singleton] at hb'
      subst hb'
      obtain ⟨x, hx, rfl⟩ := List.mem_map.1 ha
      exact h3 x hx
    · intro x u
      simp only [Array.toList_push, List.mem_append, List.mem_singleton]
      by_cases hx : x = k
      · subst hx
        simp only [if_true, Option.some.injEq]
        constructor
        · rintro rfl
          exact ⟨_, .inr rfl, rfl, rfl⟩
        · rintro ⟨e, he | rfl, hek, hev⟩
          · exact absurd hek (h3 e he)
          · exact hev
      · simp only [hx, if_false]
        rw [hf]
        constructor
        · rintro ⟨e, he, h⟩
          exact ⟨e, .inl he, h⟩
        · rintro ⟨e, he | rfl, hek, hev⟩
          · exact ⟨e, he, hek, hev⟩
          · exact absurd (key_ne.1 hek).symm hx
  · have hj : es[j]? = some e := by simpa using h2
    have hjl : j < es.toList.length := (List.getElem?_eq_some_iff.1 h2).1
    refine ⟨es.modify j fun e => { e with key := .int .i64 k, val := v }, c, by simp [Instr.mapUpdate, run_underlying ht, MapKept.run_getObj_map hb, hck, run_findKey hk h1, hj, h3, run_keyThatStays (d := .int .i64) (k := .int .i64 k) (show IsKey (.int .i64) (.int .i64 k) from rfl), MapKept.run_setObj_map _ hb, Result.andThen, setBlock], ?_⟩
    have hlist : (es.modify j (fun e' => { e' with key := .int .i64 k, val := v })).toList = es.toList.set j { e with key := .int .i64 k, val := v } := by rw [Array.toList_modify, ChangeMaps.modify_eq_set _ _ _ _ h2]
    have hkeys : (es.toList.set j { e with key := .int .i64 k, val := v }).map (·.key) = es.toList.map (·.key) := by
      rw [List.map_set]
      show (es.toList.map (·.key)).set j (.int .i64 k) = _
      rw [← h3]
      apply List.ext_getElem?
      intro i
      rw [List.getElem?_set]
      split
      · rename_i hij
        subst hij
        simp [hj]
        exact (Array.getElem?_eq_some_iff.1 hj).1
      · rfl
    refine ⟨_, _, heap_setBlock_same hb _, ?_, ?_, ?_⟩
    · rw [hlist]
      intro x hx
      have : x.key ∈ (es.toList.set j { e with key := .int .i64 k, val := v }).map (·.key) := List.mem_map.2 ⟨x, hx, rfl⟩
      rw [hkeys] at this
      obtain ⟨y, hy, he⟩ := List.mem_map.1 this
      rw [← he]
      exact hks y hy
    · rw [hlist, hkeys]
      exact hn
    · intro x u
      rw [hlist]
      have who : ∀ a, a ∈ es.toList.set j { e with key := .int .i64 k, val := v } ↔ a = { e with key := .int .i64 k, val := v } ∨ (a ∈ es.toList ∧ a.key ≠ .int .i64 k) := by
        intro a
        constructor
        · intro ha
          obtain ⟨i, hi⟩ := List.mem_iff_getElem?.1 ha
          rw [List.getElem?_set] at hi
          split at hi
          · first | exact .inl (Option.some.inj hi).symm | (rw [if_pos (by assumption)] at hi; exact .inl (Option.some.inj hi).symm)
          · rename_i hij
            refine .inr ⟨List.mem_of_getElem? hi, fun hak => hij ?_⟩
            have hai := MapIs.one hn h2 h3 hi hak
            exact hai.symm
        · rintro (rfl | ⟨ha, hak⟩)
          · exact List.mem_set hjl _
          · obtain ⟨i, hi⟩ := List.mem_iff_getElem?.1 ha
            refine List.mem_iff_getElem?.2 ⟨i, ?_⟩
            rw [List.getElem?_set, if_neg]
            · exact hi
            · rintro rfl
              rw [h2] at hi
              cases hi
              exact hak h3
      by_cases hx : x = k
      · subst hx
        simp only [if_true, Option.some.injEq]
        constructor
        · rintro rfl
          exact ⟨_, (who _).2 (.inl rfl), rfl, rfl⟩
        · rintro ⟨a, ha, hak, hav⟩
          rcases (who a).1 ha with rfl | ⟨_, h⟩
          · exact hav
          · exact absurd hak h
      · simp only [hx, if_false]
        rw [hf]
        constructor
        · rintro ⟨a, ha, hak, hav⟩
          exact ⟨a, (who a).2 (.inr ⟨ha, fun h => hx (key_ne.1 (hak.symm.trans h))⟩), hak, hav⟩
        · rintro ⟨a, ha, hak, hav⟩
          rcases (who a).1 ha with rfl | ⟨h, _⟩
          · exact absurd (key_ne.1 hak).symm hx
          · exact ⟨a, h, hak, hav⟩

theorem MapIs.drop (h : MapIs w b f) (ht : P.underlying t = some (.map kt et)) (hk : P.underlying kt = some (.int .i64)) (k : Int) (t' ty : TypeId) :
    ∃ es c, (Builtin.delete_ #[t, t'] ty #[.map (some b), .int .i64 k]).run P w = .ok (.tuple #[]) (setBlock w b (.map es c)) ∧ MapIs (setBlock w b (.map es c)) b fun x => if x = k then none else f x := by
  obtain ⟨es, c, hb, hks, hn, hf⟩ := h
  have hck : ∀ e, (Instr.checkKey e 10000 kt (.int .i64 k)).run P w = .ok () w := fun e => run_checkKey (d := .int .i64) (k := .int .i64 k) hk (show IsKey (.int .i64) (.int .i64 k) from rfl) e 9999
  rcases MapIs.find hb hks hf k with ⟨h1, h2, h3⟩ | ⟨j, e, h1, h2, h3, h4⟩
  · refine ⟨es, c, by simp [Builtin.delete_, run_underlying ht, MapKept.run_getObj_map hb, hck, run_findKey hk h1, MapKept.run_setObj_map _ hb, Result.andThen, setBlock], es, c, heap_setBlock_same hb _, hks, hn, fun x u => ?_⟩
    by_cases hx : x = k
    · subst hx
      simp only [if_true, reduceCtorEq, false_iff]
      rintro ⟨a, ha, hak, _⟩
      exact h3 a ha hak
    · simp only [hx, if_false]
      exact hf x u
  · have hjl : j < es.toList.length := (List.getElem?_eq_some_iff.1 h2).1
    refine ⟨es.eraseIdxIfInBounds j, c, by simp [Builtin.delete_, run_underlying ht, MapKept.run_getObj_map hb, hck, run_findKey hk h1, MapKept.run_setObj_map _ hb, Result.andThen, setBlock], ?_⟩
    have hl : (es.eraseIdxIfInBounds j).toList = es.toList.eraseIdx j := by
      unfold Array.eraseIdxIfInBounds
      rw [dif_pos (by simpa using hjl), Array.toList_eraseIdx]
    have hsub : (es.toList.eraseIdx j).Sublist es.toList := List.eraseIdx_sublist _ _
    refine ⟨_, _, heap_setBlock_same hb _, ?_, ?_, ?_⟩
    · rw [hl]
      exact fun x hx => hks x (hsub.subset hx)
    · rw [hl]
      exact (hsub.map _).nodup hn
    · intro x u
      rw [hl]
      have who : ∀ a, a ∈ es.toList.eraseIdx j ↔ a ∈ es.toList ∧ a.key ≠ .int .i64 k := by
        intro a
        rw [List.mem_eraseIdx_iff_getElem?]
        constructor
        · rintro ⟨i, hij, hi⟩
          exact ⟨List.mem_of_getElem? hi, fun hak => hij (MapIs.one hn h2 h3 hi hak)⟩
        · rintro ⟨ha, hak⟩
          obtain ⟨i, hi⟩ := List.mem_iff_getElem?.1 ha
          refine ⟨i, ?_, hi⟩
          rintro rfl
          rw [h2] at hi
          cases hi
          exact hak h3
      by_cases hx : x = k
      · subst hx
        simp only [if_true, reduceCtorEq, false_iff]
        rintro ⟨a, ha, hak, _⟩
        exact ((who a).1 ha).2 hak
      · simp only [hx, if_false]
        rw [hf]
        constructor
        · rintro ⟨a, ha, hak, hav⟩
          exact ⟨a, (who a).2 ⟨ha, fun h => hx (key_ne.1 (hak.symm.trans h))⟩, hak, hav⟩
        · rintro ⟨a, ha, hak, hav⟩
          exact ⟨a, ((who a).1 ha).1, hak, hav⟩

end

/-- A block was set: what else stands. -/
theorem setBlock_grown {w : World} {b : Nat} {o o' : Obj} (hb : w.heap[b]? = some o') : w.grownBy (setBlock w b o) (some b) :=
  ⟨rfl, rfl, rfl, by simp [setBlock], fun i _ hi => (heap_set (w := w) (o' := o) hb).2 i fun e => hi (by rw [e])⟩

section
variable {P : Program} {w : World} {ops : Array Oper} {rest : List Oper} {o : Oper} {a : Act} {Q : Exit → Act → World → Prop} {b : Nat} {f : Int → Option Value}

/-- v, ok := m[k] -/
theorem map_look (hg : o.guard = none) (m x : Operand) (t kt et : TypeId) (ok : Bool) (hop : o.op = Op.lookup t m x ok) (ht : P.underlying t = some (.map kt et)) (hk : P.underlying kt = some (.int .i64))
    {z : Value} (hz : (zeroValue et).run P w = .ok z w) (hm : a.eval m = .map (some b)) (h : MapIs w b f) {k : Int} (hx : a.eval x = .int .i64 k)
    (hK : wpList P ops Q rest (a.put o.dst (if ok then .tuple #[(f k).getD z, .bool (f k).isSome] else (f k).getD z)) w) : wpList P ops Q (o :: rest) a w := by
  refine wpList_plain hg fun K' hK' => ?_
  have hrun := h.look ht hk k ok hz
  unfold Oper.wp
  simp [execOp, hop, hm, hx, hrun, Result.andThen]
  exact hK' _ _ hK

/-- m[k] = v -/
theorem map_store (hg : o.guard = none) (m x v : Operand) (t kt et : TypeId) (hop : o.op = Op.mapUpdate t m x v) (ht : P.underlying t = some (.map kt et)) (hk : P.underlying kt = some (.int .i64))
    (hm : a.eval m = .map (some b)) (h : MapIs w b f) {k : Int} (hx : a.eval x = .int .i64 k) {u : Value} (hv : a.eval v = u)
    (hK : ∀ w', MapIs w' b (fun x => if x = k then some u else f x) → w.grownBy w' (some b) → wpList P ops Q rest (a.put o.dst undef) w') : wpList P ops Q (o :: rest) a w := by
  refine wpList_plain hg fun K' hK' => ?_
  obtain ⟨es, c, hrun, h1⟩ := h.store ht hk k u
  obtain ⟨_, _, hb, _⟩ := h
  unfold Oper.wp
  simp [execOp, hop, hm, hx, hv, hrun, Result.andThen]
  exact hK' _ _ (hK _ h1 (setBlock_grown hb))

/-- delete(m, k) -/
theorem map_drop (hg : o.guard = none) (m x : Operand) (t kt et t' : TypeId) (hop : o.op = Op.call { callee := Callee.builtin Builtin.delete, args := #[m, x], argTypes := #[t, t'] }) (ht : P.underlying t = some (.map kt et)) (hk : P.underlying kt = some (.int .i64))
    (hm : a.eval m = .map (some b)) (h : MapIs w b f) {k : Int} (hx : a.eval x = .int .i64 k)
    (hK : ∀ w', MapIs w' b (fun x => if x = k then none else f x) → w.grownBy w' (some b) → wpList P ops Q rest (a.put o.dst (.tuple #[])) w') : wpList P ops Q (o :: rest) a w := by
  refine wpList_plain hg fun K' hK' => ?_
  obtain ⟨es, c, hrun, h1⟩ := h.drop ht hk k t' o.type
  obtain ⟨_, _, hb, _⟩ := h
  unfold Oper.wp
  simp [execOp, hop, resolve, invoke, builtin, hm, hx, hrun, Result.andThen]
  exact hK' _ _ (hK _ h1 (setBlock_grown hb))

end
end Go.Proofs.YtmlnpgbnbchbkaaDoor

