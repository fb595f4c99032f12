/-
  Slices of ints.
  sector.Crash.
  sector.Crash.
  A map keyed by whole numbers t.
  free.
  free.
-/
import Derived.Test.YtbbgdbnjmonbgaaGreatDoorH00
import Derived.Test.YtbbgdbnjmonbgaaGreatDoorH03
import Derived.Test.YtbbgdbnjmonbgaaGreatDoorH01
import Derived.Deep.OwnRows
import Derived.Lib.Hide
import Derived.Laws.Externs
import Derived.Deep.QuietTactic
import Derived.BigQuiet
import Derived.Maps.RangeWalk
import Derived.WalkSpells
import Derived.WalkLawsBesides
import Derived.RegionTactic
set_option linter.unusedVariables false
set_option maxRecDepth 100000
namespace Go.Proofs.YtbbgdbnjmonbgaaGreatDoor
open Go.RowKit
def Ks (w : World) (q : Option Addr) (l : List Int) : Prop := l ≠ [] → ∃ b o, q = some ⟨b, o, none⟩ ∧ ∀ i x, l[i]? = some x → w.cell? ⟨b, o + i, none⟩ = some (.int .i64 x)
theorem Ks.nil (w : World) (q : Option Addr) : Ks w q [] := fun h => absurd rfl h
theorem Ks.below {w w' : World} {q : Option Addr} {l : List Int} (h : Ks w q l) (hb : Below w.heap.size w w') : Ks w' q l := by
 intro hne
 obtain ⟨b, o, hp, hc⟩ := h hne
 refine ⟨b, o, hp, fun i u hi => ?_⟩
 have h1 := hc i u hi
 rw [hb.cell (World.block_lt_of_cell? _ _ h1)]
 exact h1
theorem Ks.at {w : World} {q : Option Addr} {l : List Int} (h : Ks w q l) {i : Nat} {x : Int} (hx : l[i]? = some x) : ∃ b o, q = some ⟨b, o, none⟩ ∧ w.cell? ⟨b, o + i, none⟩ = some (.int .i64 x) := by
 obtain ⟨b, o, hp, hc⟩ := h (by intro e; subst e; simp at hx)
 exact ⟨b, o, hp, hc i x hx⟩
def i64s (l : List Int) : List Value := l.map fun x => .int .i64 x
def OwnI (w : World) (B : Nat) (v : Value) (l : List Int) : Prop := w.ownsRow B 3 1 v l.length (i64s l)
theorem info_int : (Tryz.prog.info? 3).map (fun i => (i.zero, i.size, i.bytes)) = some (some (.int .i64 0), 1, 8) := by kernel_rfl
theorem OwnI.nil (w : World) (B : Nat) : OwnI w B (.slice none 0 0) [] := World.ownsRow_nil w B _ _
theorem OwnI.form {w : World} {B : Nat} {v : Value} {l : List Int} (h : OwnI w B v l) : ∃ q c, v = .slice q l.length c ∧ Ks w q l := by
 rcases h.2 with ⟨rfl, h0⟩ | ⟨g, cap, cur, rfl, hb, hg, hnc, hcm, hcs, htake⟩
 ·
  obtain rfl := List.eq_nil_of_length_eq_zero h0
  exact ⟨none, 0, rfl, Ks.nil _ _⟩
 ·
  refine ⟨some ⟨g, 0, none⟩, cap, rfl, fun _ => ⟨g, 0, rfl, fun i x hi => ?_⟩⟩
  have := h.cells (g := g) rfl i (.int .i64 x) (by simp [i64s, hi])
  simpa [Addr.add_lit] using this
theorem OwnI.kept {w w' : World} {B : Nat} {v : Value} {l : List Int} {row : Option Nat} (h : OwnI w B v l) (hg : w.grownBy w' row) (hr : v.ownBlock = none ∨ v.ownBlock ≠ row) : OwnI w' B v l := World.ownsRow.kept h hg hr
theorem OwnI.below {w w' : World} {B : Nat} {v : Value} {l : List Int} (h : OwnI w B v l) (hb : Below w.heap.size w w') : OwnI w' B v l :=
 h.kept (row := none) ⟨hb.os, hb.tape, hb.output, hb.size, fun k hk _ => hb.block k hk⟩ (by cases h0 : v.ownBlock with | none => exact .inl rfl | some b => exact .inr (by simp))
theorem app_ints {w : World} {ops : Array Oper} {rest : List Oper} {o : Oper} {a : Act} {Q : Exit → Act → World → Prop} (hgd : o.guard = none) (s x : Operand)
  (ho : o.op = .call { callee := .builtin .append, args := #[s, x], argTypes := #[22, 22] })
  {B : Nat} {v : Value} {l : List Int} (hs : a.eval s = v) (hown : OwnI w B v l) {b c : Nat} {y : Int} (hx : a.eval x = .slice (some ⟨b, 0, none⟩) 1 c) (h0 : w.cell? ⟨b, 0, none⟩ = some (.int .i64 y)) (hlen : l.length ≤ 1000000000) (hB : B ≤ w.heap.size)
  (h : ∀ v' w', OwnI w' B v' (l ++ [y]) → w.grownBy w' v.ownBlock → wpList Tryz.prog ops Q rest (a.put o.dst v') w') : wpList Tryz.prog ops Q (o :: rest) a w := by
 obtain ⟨i, hi, hz0, hz1, hz2⟩ := info_parts info_int
 refine wpList_append_own w hgd s x _ ho B 3 i (.int .i64 0) 1 8 Tryz.underlying22 hi hz0 hz1 hz2 rfl (by decide) v l.length (i64s l) hs hown ⟨b, 0, none⟩ 1 c [.int .i64 y] hx rfl
  (fun j u hj => by
   rw [Addr.add_lit, Nat.zero_add]
   match j, hj with
   | 0, hj => cases hj; exact h0
   | j + 1, hj => simp at hj) (fun u hu => by obtain rfl := List.mem_singleton.1 hu; rfl) (by simp only [maxLen]; omega) (by omega) hB ?_
 intro v' w' h1 h2 _
 refine h v' w' ?_ h2
 unfold OwnI
 rw [List.length_append]
 simpa [i64s] using h1
theorem OwnI.other {w : World} {B : Nat} {v : Value} {l : List Int} (h : OwnI w B v l) {i : Nat} {o : Obj} (hi : w.heap[i]? = some o) (ho : ∀ c f, o ≠ .cells c 3 f) : v.ownBlock ≠ some i := by
 rcases h.2 with ⟨rfl, _⟩ | ⟨g, cap, cur, rfl, _, hg, _⟩
 ·
  simp [Value.ownBlock]
 ·
  intro e
  simp only [Value.ownBlock, Option.some.injEq] at e
  subst e
  rw [hg] at hi
  exact ho _ _ (Option.some.inj hi).symm
end Go.Proofs.YtbbgdbnjmonbgaaGreatDoor

set_option linter.unusedVariables false
set_option maxRecDepth 100000
namespace Go.Proofs.YtbbgdbnjmonbgaaGreatDoor
open Go.RowKit
section
variable {P : Program} (w : World)
end
section
variable {w : World} {ops : Array Oper} {o : Oper} {a : Act} {K : Act → World → Prop} {Q : Exit → Act → World → Prop} {E : Prop} {b : Nat} {f : Int → Option Value}
end
end Go.Proofs.YtbbgdbnjmonbgaaGreatDoor

set_option linter.unusedVariables false
set_option maxRecDepth 100000
namespace Go.Proofs.YtbbgdbnjmonbgaaGreatDoor
open Go.RowKit
end Go.Proofs.YtbbgdbnjmonbgaaGreatDoor

set_option linter.unusedVariables false
set_option linter.unusedSimpArgs false
set_option maxRecDepth 100000
namespace Go.Proofs.YtbbgdbnjmonbgaaGreatDoor
open Go.RowKit Go.MapKept
open Go.ChangeMaps (setBlock heap_setBlock_same heap_setBlock_other)
def Stamps (w : World) (b : Nat) : Prop := ∃ es clock, w.heap[b]? = some (.map es clock) ∧ (es.toList.map (·.born)).Nodup ∧ ∀ x ∈ es.toList, x.born < clock
structure MapSt (w : World) (b : Nat) (f : Int → Option Value) : Prop where
 is : MapIs w b f
 st : Stamps w b
theorem MapSt.lt {w : World} {b : Nat} {f : Int → Option Value} (h : MapSt w b f) : b < w.heap.size := h.is.lt
theorem Stamps.block {w w' : World} {b b' : Nat} (h : Stamps w b) (hb : w'.heap[b']? = w.heap[b]?) : Stamps w' b' := by
 obtain ⟨es, c, h1, h2⟩ := h
 exact ⟨es, c, by rw [hb]; exact h1, h2⟩
theorem MapSt.block {w w' : World} {b b' : Nat} {f : Int → Option Value} (h : MapSt w b f) (hb : w'.heap[b']? = w.heap[b]?) : MapSt w' b' f := ⟨h.is.block hb, h.st.block hb⟩
theorem MapSt.new {w : World} {b : Nat} (hb : w.heap[b]? = some (.map #[] 0)) : MapSt w b fun _ => none := ⟨MapIs.new hb, #[], 0, hb, by simp, by simp⟩
section
variable {P : Program} {w : World} {b : Nat} {f : Int → Option Value} {t kt et : TypeId}
theorem setBlock_same {w : World} {b : Nat} {o' : Obj} (hb : w.heap[b]? = some o') (o : Obj) : (setBlock w b o).heap[b]? = some o := by
 have hlt : b < w.heap.size := (aL hb)
 simp [setBlock, hlt]
theorem setBlock_other {w : World} {b i : Nat} (o : Obj) (hi : i ≠ b) : (setBlock w b o).heap[i]? = w.heap[i]? := by
 simp [setBlock, Array.getElem?_setIfInBounds, Ne.symm hi]
theorem setBlock_inj {w : World} {b : Nat} {o o1 o2 : Obj} (hb : w.heap[b]? = some o) (h : setBlock w b o1 = setBlock w b o2) : o1 = o2 := by
 have h1 := setBlock_same hb o1
 rw [h, setBlock_same hb o2] at h1
 exact (Option.some.inj h1).symm
def keyNum : Value → Int | .int _ k => k | _ => 0
theorem key_of {es : Array MapEntry} (hks : ∀ x ∈ es.toList, IsKey (.int .i64) x.key) {x : MapEntry} (hx : x ∈ es.toList) : x.key = .int .i64 (keyNum x.key) := by
 have := hks x hx
 revert this
 cases x.key <;> simp [IsKey, keyNum]
theorem MapSt.store (h : MapSt w b f) (ht : P.underlying t = some (.map kt et)) (hk : P.underlying kt = some (.int .i64)) (k : Int) (v : Value) :
  ∃ es c, (Instr.mapUpdate t (.map (some b)) (.int .i64 k) v).run P w = .ok () (setBlock w b (.map es c)) ∧ MapSt (setBlock w b (.map es c)) b fun x => if x = k then some v else f x := by
 obtain ⟨es1, c1, hr1, hm1⟩ := h.is.store ht hk k v
 refine ⟨es1, c1, hr1, hm1, ?_⟩
 obtain ⟨⟨es, c, hb, hks, hn, hf⟩, ⟨es', c', hb', hn2, hlt⟩⟩ := h
 rw [hb] at hb'
 cases hb'
 have hck : ∀ e, (Instr.checkKey e 10000 kt (.int .i64 k)).run P w = .ok () w := fun e => run_checkKey (d := .int .i64) (k := .int .i64 k) hk (show IsKey (.int .i64) (.int .i64 k) from rfl) e 9999
 rcases MapIs.find hb hks hf k with ⟨h1, h2, h3⟩ | ⟨j, e, h1, h2, h3, h4⟩
 ·
  have hr : (Instr.mapUpdate t (.map (some b)) (.int .i64 k) v).run P w = .ok () (setBlock w b (.map (es.push ⟨.int .i64 k, v, c⟩) (c + 1))) := by simp [Instr.mapUpdate, run_underlying ht, MapKept.run_getObj_map hb, hck, run_findKey hk h1, MapKept.run_setObj_map _ hb, Result.andThen, setBlock]
  rw [hr1] at hr
  have e1 := setBlock_inj hb (Result.ok.inj hr).2
  rw [e1]
  refine ⟨_, _, heap_setBlock_same hb _, ?_, ?_⟩
  ·
   simp only [Array.toList_push, List.map_append, List.map_singleton]
   refine List.nodup_append.2 ⟨hn2, by simp, ?_⟩
   intro a ha b' hb'
   simp only [List.mem_singleton] at hb'
   subst hb'
   obtain ⟨x, hx, rfl⟩ := List.mem_map.1 ha
   have := hlt x hx
   omega
  ·
   intro x hx
   simp only [Array.toList_push, List.mem_append, List.mem_singleton] at hx
   rcases hx with hx | rfl
   ·
    have := hlt x hx
    omega
   ·
    show c < c + 1
    omega
 ·
  have hj : es[j]? = some e := by simpa using h2
  have hr : (Instr.mapUpdate t (.map (some b)) (.int .i64 k) v).run P w = .ok () (setBlock w b (.map (es.modify j fun e => { e with key := .int .i64 k, val := v }) c)) := by simp [Instr.mapUpdate, run_underlying ht, MapKept.run_getObj_map hb, hck, run_findKey hk h1, hj, h3, run_keyThatStays (d := .int .i64) (k := .int .i64 k) (show IsKey (.int .i64) (.int .i64 k) from rfl), MapKept.run_setObj_map _ hb, Result.andThen, setBlock]
  rw [hr1] at hr
  have e1 := setBlock_inj hb (Result.ok.inj hr).2
  rw [e1]
  have hlist : (es.modify j (fun e' => { e' with key := .int .i64 k, val := v })).toList = es.toList.set j { e with key := .int .i64 k, val := v } := by rw [Array.toList_modify, ChangeMaps.modify_eq_set _ _ _ _ h2]
  have hborn : (es.toList.set j { e with key := .int .i64 k, val := v }).map (·.born) = es.toList.map (·.born) := by
   rw [List.map_set]
   show (es.toList.map (·.born)).set j e.born = _
   apply List.ext_getElem?
   intro i
   rw [List.getElem?_set]
   split
   ·
    rename_i hij
    subst hij
    simp [hj]
    exact (aL hj)
   ·
    rfl
  refine ⟨_, _, heap_setBlock_same hb _, by rw [hlist, hborn]; exact hn2, ?_⟩
  intro x hx
  rw [hlist] at hx
  have hxb : x.born ∈ (es.toList.set j { e with key := .int .i64 k, val := v }).map (·.born) := List.mem_map.2 ⟨x, hx, rfl⟩
  rw [hborn] at hxb
  obtain ⟨y, hy, he⟩ := List.mem_map.1 hxb
  rw [← he]
  exact hlt y hy
theorem map_dropped (hb : ∃ es c, w.heap[b]? = some (.map es c) ∧ ∀ x ∈ es.toList, IsKey (.int .i64) x.key) (hn : ∀ es c, w.heap[b]? = some (.map es c) → (es.toList.map (·.key)).Nodup) (ht : P.underlying t = some (.map kt et)) (hk : P.underlying kt = some (.int .i64)) (k : Int) (t' ty : TypeId) :
  ∃ es es' c, w.heap[b]? = some (.map es c) ∧ (Builtin.delete_ #[t, t'] ty #[.map (some b), .int .i64 k]).run P w = .ok (.tuple #[]) (setBlock w b (.map es' c)) ∧ es'.toList.Sublist es.toList ∧ ∀ x, x ∈ es'.toList ↔ (x ∈ es.toList ∧ x.key ≠ .int .i64 k) := by
 obtain ⟨es, c, hb, hks⟩ := hb
 have hn := hn es c hb
 have hck : ∀ e, (Instr.checkKey e 10000 kt (.int .i64 k)).run P w = .ok () w := fun e => run_checkKey (d := .int .i64) (k := .int .i64 k) hk (show IsKey (.int .i64) (.int .i64 k) from rfl) e 9999
 rcases findNow_spec (d := .int .i64) (k := .int .i64 k) (show IsKey (.int .i64) (.int .i64 k) from rfl) es.toList 0 hks with ⟨h1, h2⟩ | ⟨j, e, h1, h2, h3⟩
 ·
  exact ⟨es, es, c, hb, by simp [Builtin.delete_, run_underlying ht, MapKept.run_getObj_map hb, hck, run_findKey hk h1, MapKept.run_setObj_map _ hb, Result.andThen, setBlock], List.Sublist.refl _, fun x => ⟨fun hx => ⟨hx, h2 x hx⟩, fun hx => hx.1⟩⟩
 ·
  have hjl : j < es.toList.length := (List.getElem?_eq_some_iff.1 h2).1
  have hl : (es.eraseIdxIfInBounds j).toList = es.toList.eraseIdx j := by
   unfold Array.eraseIdxIfInBounds
   rw [dif_pos (by simpa using hjl), Array.toList_eraseIdx]
  refine ⟨es, es.eraseIdxIfInBounds j, c, hb, by simp [Builtin.delete_, run_underlying ht, MapKept.run_getObj_map hb, hck, run_findKey hk h1, MapKept.run_setObj_map _ hb, Result.andThen, setBlock], by rw [hl]; exact List.eraseIdx_sublist _ _, fun a => ?_⟩
  rw [hl, List.mem_eraseIdx_iff_getElem?]
  constructor
  ·
   rintro ⟨i, hij, hi⟩
   exact ⟨List.mem_of_getElem? hi, fun hak => hij (MapIs.one hn h2 h3 hi hak)⟩
  ·
   rintro ⟨ha, hak⟩
   obtain ⟨i, hi⟩ := List.mem_iff_getElem?.1 ha
   refine ⟨i, ?_, hi⟩
   rintro rfl
   rw [h2] at hi
   cases hi
   exact hak h3
theorem MapIs.ent (h : MapIs w b f) : (∃ es c, w.heap[b]? = some (.map es c) ∧ ∀ x ∈ es.toList, IsKey (.int .i64) x.key) ∧ (∀ es c, w.heap[b]? = some (.map es c) → (es.toList.map (·.key)).Nodup) := by
 obtain ⟨es, c, hb, hks, hn, hf⟩ := h
 refine ⟨⟨es, c, hb, hks⟩, fun es' c' hb' => ?_⟩
 rw [hb] at hb'
 cases hb'
 exact hn
theorem MapSt.drop (h : MapSt w b f) (ht : P.underlying t = some (.map kt et)) (hk : P.underlying kt = some (.int .i64)) (k : Int) (t' ty : TypeId) :
  ∃ es c, (Builtin.delete_ #[t, t'] ty #[.map (some b), .int .i64 k]).run P w = .ok (.tuple #[]) (setBlock w b (.map es c)) ∧ MapSt (setBlock w b (.map es c)) b fun x => if x = k then none else f x := by
 obtain ⟨es1, c1, hr1, hm1⟩ := h.is.drop ht hk k t' ty
 refine ⟨es1, c1, hr1, hm1, ?_⟩
 obtain ⟨es, es', c, hb, hr, hsub, _⟩ := map_dropped h.is.ent.1 h.is.ent.2 ht hk k t' ty
 obtain ⟨_, ⟨es0, c0, hb0, hn2, hlt⟩⟩ := h
 rw [hb] at hb0
 cases hb0
 rw [hr1] at hr
 have e1 := setBlock_inj hb (Result.ok.inj hr).2
 rw [e1]
 exact ⟨_, _, heap_setBlock_same hb _, (hsub.map _).nodup hn2, fun x hx => hlt x (hsub.subset hx)⟩
def KeysOf (f : Int → Option Value) (ks : List Int) : Prop := ks.Nodup ∧ ∀ k, k ∈ ks ↔ (f k).isSome = true
theorem MapIs.keys (h : MapIs w b f) : ∃ es c, w.heap[b]? = some (.map es c) ∧ KeysOf f (es.toList.map fun x => keyNum x.key) := by
 obtain ⟨es, c, hb, hks, hn, hf⟩ := h
 refine ⟨es, c, hb, ?_, fun k => ?_⟩
 ·
  have e : es.toList.map (·.key) = (es.toList.map fun x => keyNum x.key).map (Value.int .i64) := by
   rw [List.map_map]
   exact List.map_congr_left fun x hx => key_of hks hx
  rw [e] at hn
  exact (List.pairwise_map.1 hn).imp fun h e => h (by rw [e])
 ·
  rw [List.mem_map, Option.isSome_iff_exists]
  constructor
  ·
   rintro ⟨x, hx, rfl⟩
   exact ⟨x.val, (hf _ _).2 ⟨x, hx, key_of hks hx, rfl⟩⟩
  ·
   rintro ⟨v, hv⟩
   obtain ⟨e, he, hk, _⟩ := (hf k v).1 hv
   exact ⟨e, he, by rw [hk]; rfl⟩
theorem KeysOf.length_eq {f : Int → Option Value} {ks ks' : List Int} (h : KeysOf f ks) (h' : KeysOf f ks') : ks.length = ks'.length :=
 ((List.perm_ext_iff_of_nodup h.1 h'.1).2 fun k => by rw [h.2, h'.2]).length_eq
theorem MapIs.len (h : MapIs w b f) {ks : List Int} (hks : KeysOf f ks) (ht : P.underlying t = some (.map kt et)) (ty : TypeId) : (Builtin.len_ #[t] ty #[.map (some b)]).run P w = .ok (.int .i64 ks.length) w := by
 obtain ⟨es, c, hb, hk⟩ := h.keys
 have e1 : (es.size : Int) = ks.length := by
  have := hk.length_eq hks
  simp at this
  omega
 simp [Builtin.len_, run_underlying ht, MapKept.run_getObj_map hb, goInt, Result.andThen, e1]
end
def Rng (w : World) (b r : Nat) (f : Int → Option Value) (left : Int → Bool) : Prop :=
 ∃ es clock since seen c0, w.heap[b]? = some (.map es clock) ∧ w.heap[r]? = some (.mapIter (some b) since seen c0) ∧ (∀ x ∈ es.toList, x.born < since) ∧ since ≤ c0 ∧ since ≤ clock ∧
  (∀ x ∈ es.toList, left (keyNum x.key) = !seen.contains x.born) ∧ (∀ k, left k = true → (f k).isSome = true) ∧ MapIs w b f ∧ (es.toList.map (·.born)).Nodup
theorem Rng.mst {w : World} {b r : Nat} {f : Int → Option Value} {left : Int → Bool} (h : Rng w b r f left) : MapSt w b f := by
 obtain ⟨es, c, since, seen, c0, h1, h2, h3, h4, h5, h6, h7, h8, h9⟩ := h
 exact ⟨h8, es, c, h1, h9, fun x hx => by have := h3 x hx; omega⟩
theorem Rng.ne {w : World} {b r : Nat} {f : Int → Option Value} {left : Int → Bool} (h : Rng w b r f left) : r ≠ b := by
 obtain ⟨es, c, since, seen, c0, h1, h2, _⟩ := h
 rintro rfl
 rw [h1] at h2
 cases h2
theorem Rng.rlt {w : World} {b r : Nat} {f : Int → Option Value} {left : Int → Bool} (h : Rng w b r f left) : r < w.heap.size := by
 obtain ⟨es, c, since, seen, c0, h1, h2, _⟩ := h
 exact (aL h2)
theorem Rng.kept {w w' : World} {b r : Nat} {f : Int → Option Value} {left : Int → Bool} {row : Option Nat} (h : Rng w b r f left) (hg : w.grownBy w' row) (hb : row ≠ some b) (hr : row ≠ some r) : Rng w' b r f left := by
 have q1 := h.mst.lt
 have q2 := h.rlt
 obtain ⟨es, c, since, seen, c0, h1, h2, h3, h4, h5, h6, h7, h8, h9⟩ := h
 have e1 := hg.block b q1 (fun e => hb e.symm)
 exact ⟨es, c, since, seen, c0, e1.trans h1, (hg.block r q2 (fun e => hr e.symm)).trans h2, h3, h4, h5, h6, h7, h8.block e1, h9⟩
theorem Rng.below {w w' : World} {b r : Nat} {f : Int → Option Value} {left : Int → Bool} (h : Rng w b r f left) (hb : Below w.heap.size w w') : Rng w' b r f left := by
 have q1 := h.mst.lt
 have q2 := h.rlt
 obtain ⟨es, c, since, seen, c0, h1, h2, h3, h4, h5, h6, h7, h8, h9⟩ := h
 exact ⟨es, c, since, seen, c0, (hb.block b q1).trans h1, (hb.block r q2).trans h2, h3, h4, h5, h6, h7, h8.block (hb.block b q1), h9⟩
section
variable {P : Program} {w : World} {b r : Nat} {f : Int → Option Value} {left : Int → Bool} {t kt et : TypeId}
theorem MapSt.range (h : MapSt w b f) (ht : P.underlying t = some (.map kt et)) :
  ∃ w', (Instr.range t (.map (some b))).run P w = .ok (.pointer (some ⟨w.heap.size, 0, none⟩)) w' ∧ Rng w' b w.heap.size f (fun k => (f k).isSome) ∧ Below w.heap.size w w' ∧ w'.heap.size = w.heap.size + 1 := by
 have hlt := h.lt
 obtain ⟨h0, ⟨es, clock, hb, hn, hst⟩⟩ := h
 have hbl : Below w.heap.size w (w.alloc (.mapIter (some b) clock #[] clock)) := (Below.refl _ _).alloc (Nat.le_refl _) _
 refine ⟨_, run_range_map w t kt et b es clock ht hb, ⟨es, clock, clock, #[], clock, (hbl.block b hlt).trans hb, (MapKept.heap_alloc w _).1, hst, Nat.le_refl _, Nat.le_refl _, ?_, fun k hk => hk, h0.block (hbl.block b hlt), hn⟩, hbl, by simp⟩
 intro x hx
 obtain ⟨es', c', hb', hks, _, hf⟩ := h0
 rw [hb] at hb'
 cases hb'
 have : f (keyNum x.key) = some x.val := (hf _ _).2 ⟨x, hx, key_of hks hx, rfl⟩
 simp [this]
theorem Rng.next (h : Rng w b r f left) (ty : TypeId) :
  ((∀ k, left k = false) ∧ (Instr.next (.pointer (some ⟨r, 0, none⟩)) false ty).run P w = .ok (.tuple #[.bool false]) w) ∨
  ∃ k v w', left k = true ∧ f k = some v ∧ (Instr.next (.pointer (some ⟨r, 0, none⟩)) false ty).run P w = .ok (.tuple #[.bool true, .int .i64 k, v]) w' ∧
   Rng w' b r f (fun x => left x && !(x == k)) ∧ w'.rangeLeft b r < w.rangeLeft b r ∧ w.grownBy w' (some r) ∧ w'.heap.size = w.heap.size ∧ (Instr.entry (.pointer (some ⟨r, 0, none⟩))).run P w' = .ok (.tuple #[.int .i64 k, v]) w' := by
 have hne := h.ne
 obtain ⟨es, clock, since, seen, c0, hb, hr, hold, hsc, hsk, hl1, hl2, hm, hn⟩ := h
 have hm0 := hm
 obtain ⟨es', c', hb', hks, hkn, hf⟩ := hm
 rw [hb] at hb'
 cases hb'
 rcases run_next_at (P := P) w ty r b since c0 seen es clock hr hb hold hsc with ⟨h0, hrun⟩ | ⟨e, he, w1, hal, hrun⟩
 ·
  refine .inl ⟨fun k => ?_, hrun⟩
  cases hk : left k
  ·
   rfl
  ·
   have hs := hl2 k hk
   obtain ⟨v, hv⟩ := Option.isSome_iff_exists.1 hs
   obtain ⟨x, hx, hxk, _⟩ := (hf k v).1 hv
   have h1 := hl1 x hx
   rw [all_seen es seen h0 x hx] at h1
   rw [hxk] at h1
   have h2 : left k = false := by simpa [keyNum] using h1
   rw [h2] at hk
   cases hk
 ·
  have he1 : e ∈ es.toList ∧ seen.contains e.born = false := by simpa [leftOf] using he
  have hkey := key_of hks he1.1
  have hr1 : w1.heap[r]? = some (.mapIter (some b) since seen c0) := by rcases hal with rfl | rfl <;> exact hr
  have hb1 : w1.heap[b]? = some (.map es clock) := by rcases hal with rfl | rfl <;> exact hb
  have hb2 : (setBlock w1 r (.mapIter (some b) since (seen.push e.born) clock)).heap[b]? = some (.map es clock) := (setBlock_other _ (Ne.symm hne)).trans hb1
  have hr2 : (setBlock w1 r (.mapIter (some b) since (seen.push e.born) clock)).heap[r]? = some (.mapIter (some b) since (seen.push e.born) clock) := setBlock_same hr1 _
  have hg1 : w1.grownBy (setBlock w1 r (.mapIter (some b) since (seen.push e.born) clock)) (some r) := ⟨rfl, rfl, rfl, by simp [setBlock], fun i _ hi => setBlock_other _ fun e => hi (by rw [e])⟩
  have hg : w.grownBy (setBlock w1 r (.mapIter (some b) since (seen.push e.born) clock)) (some r) := by
   rcases hal with rfl | rfl
   ·
    exact hg1
   ·
    exact ⟨hg1.os, hg1.tape, hg1.output, hg1.size, hg1.block⟩
  refine .inr ⟨keyNum e.key, e.val, _, ?_, (hf _ _).2 ⟨e, he1.1, hkey, rfl⟩, by rw [← hkey]; exact hrun, ⟨es, clock, since, seen.push e.born, clock, hb2, hr2, hold, hsk, hsk, ?_, ?_, hm0.block (hb2.trans hb.symm), hn⟩, ?_, hg, ?_, ?_⟩
  ·
   rw [hl1 e he1.1, he1.2]
   rfl
  ·
   intro x hx
   show (left (keyNum x.key) && !(keyNum x.key == keyNum e.key)) = _
   rw [hl1 x hx]
   by_cases hxe : x.born = e.born
   ·
    have hxe' : x = e := born_inj hn hx he1.1 hxe
    subst hxe'
    simp
   ·
    have hkk : keyNum x.key ≠ keyNum e.key := by
     intro hc
     refine hxe (congrArg MapEntry.born ?_)
     obtain ⟨i, hi⟩ := List.mem_iff_getElem?.1 hx
     obtain ⟨j, hj⟩ := List.mem_iff_getElem?.1 he1.1
     have := MapIs.one hkn hj hkey hi (by rw [key_of hks hx, hc])
     subst this
     rw [hi] at hj
     exact Option.some.inj hj
    have h1 : (keyNum x.key == keyNum e.key) = false := by simpa using hkk
    rw [h1]
    simp [hxe]
  ·
   intro k hk
   simp only [Bool.and_eq_true] at hk
   exact hl2 k hk.1
  ·
   simp only [World.rangeLeft, hb, hr, hb2, hr2]
   have e1 : ∀ s : Array Nat, (leftOf es s).size = (es.toList.filter fun e => !s.contains e.born).length := fun s => by
    unfold leftOf
    rw [← Array.toList_filter, Array.length_toList]
   rw [e1, e1]
   refine filter_lt _ _ ?_ e ?_ ?_ _ he1.1
   ·
    intro x hx
    simp at hx ⊢
    exact hx.1
   ·
    simp [he1.2]
    simpa using he1.2
   ·
    simp
  ·
   rcases hal with rfl | rfl <;> simp [setBlock]
  ·
   rw [← hkey]
   exact run_entry_at _ r b since seen es clock e hr2 hb2 he1.1 hn
theorem Rng.drop (h : Rng w b r f left) (ht : P.underlying t = some (.map kt et)) (hk : P.underlying kt = some (.int .i64)) (k : Int) (hl : left k = false) (t' ty : TypeId) :
  ∃ w', (Builtin.delete_ #[t, t'] ty #[.map (some b), .int .i64 k]).run P w = .ok (.tuple #[]) w' ∧ Rng w' b r (fun x => if x = k then none else f x) left ∧ w'.rangeLeft b r ≤ w.rangeLeft b r ∧ w.grownBy w' (some b) := by
 have hne := h.ne
 have hmst := h.mst
 obtain ⟨es, clock, since, seen, c0, hb, hr, hold, hsc, hsk, hl1, hl2, hm, hn⟩ := h
 obtain ⟨es1, c1, hr1, hm1⟩ := hm.drop ht hk k t' ty
 obtain ⟨es0, es', c, hb0, hrun, hsub, hwho⟩ := map_dropped hm.ent.1 hm.ent.2 ht hk k t' ty
 rw [hb] at hb0
 cases hb0
 rw [hr1] at hrun
 have e1 := setBlock_inj hb (Result.ok.inj hrun).2
 rw [e1] at hr1 hm1
 have hr2 : (setBlock w b (.map es' clock)).heap[r]? = some (.mapIter (some b) since seen c0) := (setBlock_other _ hne).trans hr
 refine ⟨_, hr1, ⟨es', clock, since, seen, c0, heap_setBlock_same hb _, hr2, fun x hx => hold x (hsub.subset hx), hsc, hsk, fun x hx => hl1 x (hsub.subset hx), ?_, hm1, (hsub.map _).nodup hn⟩, ?_, setBlock_grown hb⟩
 ·
  intro x hx
  by_cases hxk : x = k
  ·
   rw [hxk, hl] at hx
   cases hx
  ·
   simp only [hxk, if_false]
   exact hl2 x hx
 ·
  simp only [World.rangeLeft, hb, hr, hr2, heap_setBlock_same hb]
  have e1 : ∀ a : Array MapEntry, (leftOf a seen).size = (a.toList.filter fun e => !seen.contains e.born).length := fun a => by
   unfold leftOf
   rw [← Array.toList_filter, Array.length_toList]
  rw [e1, e1]
  exact (hsub.filter _).length_le
end
section
variable {P : Program} {w : World} {ops : Array Oper} {rest : List Oper} {o : Oper} {a : Act} {Q : Exit → Act → World → Prop} {b r : Nat} {f : Int → Option Value} {left : Int → Bool}
theorem st_store (hg : o.guard = none) (m x v : Operand) (t kt et : TypeId) (hop : o.op = Op.mapUpdate t m x v) (ht : P.underlying t = some (.map kt et)) (hk : P.underlying kt = some (.int .i64))
  (hm : a.eval m = .map (some b)) (h : MapSt w b f) {k : Int} (hx : a.eval x = .int .i64 k) {u : Value} (hv : a.eval v = u)
  (hK : ∀ w', MapSt w' b (fun x => if x = k then some u else f x) → w.grownBy w' (some b) → wpList P ops Q rest (a.put o.dst undef) w') : wpList P ops Q (o :: rest) a w := by
 refine wpList_plain hg fun K' hK' => ?_
 obtain ⟨es, c, hrun, h1⟩ := h.store ht hk k u
 obtain ⟨⟨_, _, hb, _⟩, _⟩ := h
 unfold Oper.wp
 simp [execOp, hop, hm, hx, hv, hrun, Result.andThen]
 exact hK' _ _ (hK _ h1 (setBlock_grown hb))
theorem st_drop (hg : o.guard = none) (m x : Operand) (t kt et t' : TypeId) (hop : o.op = Op.call { callee := Callee.builtin Builtin.delete, args := #[m, x], argTypes := #[t, t'] }) (ht : P.underlying t = some (.map kt et)) (hk : P.underlying kt = some (.int .i64))
  (hm : a.eval m = .map (some b)) (h : MapSt w b f) {k : Int} (hx : a.eval x = .int .i64 k)
  (hK : ∀ w', MapSt w' b (fun x => if x = k then none else f x) → w.grownBy w' (some b) → wpList P ops Q rest (a.put o.dst (.tuple #[])) w') : wpList P ops Q (o :: rest) a w := by
 refine wpList_plain hg fun K' hK' => ?_
 obtain ⟨es, c, hrun, h1⟩ := h.drop ht hk k t' o.type
 obtain ⟨⟨_, _, hb, _⟩, _⟩ := h
 unfold Oper.wp
 simp [execOp, hop, resolve, invoke, builtin, hm, hx, hrun, Result.andThen]
 exact hK' _ _ (hK _ h1 (setBlock_grown hb))
theorem st_len (hg : o.guard = none) (m : Operand) (t kt et : TypeId) (hop : o.op = Op.call { callee := Callee.builtin Builtin.len, args := #[m], argTypes := #[t] }) (ht : P.underlying t = some (.map kt et))
  (hm : a.eval m = .map (some b)) (h : MapIs w b f) {ks : List Int} (hks : KeysOf f ks)
  (hK : wpList P ops Q rest (a.put o.dst (.int .i64 ks.length)) w) : wpList P ops Q (o :: rest) a w := by
 refine wpList_plain hg fun K' hK' => ?_
 unfold Oper.wp
 simp [execOp, hop, resolve, invoke, builtin, hm, h.len hks ht o.type, Result.andThen]
 exact hK' _ _ hK
theorem st_range (hg : o.guard = none) (m : Operand) (t kt et : TypeId) (hop : o.op = Op.range t m) (ht : P.underlying t = some (.map kt et)) (hm : a.eval m = .map (some b)) (h : MapSt w b f)
  (hK : ∀ w', Rng w' b w.heap.size f (fun k => (f k).isSome) → Below w.heap.size w w' → w'.heap.size = w.heap.size + 1 → wpList P ops Q rest (a.put o.dst (.pointer (some ⟨w.heap.size, 0, none⟩))) w') : wpList P ops Q (o :: rest) a w := by
 refine wpList_plain hg fun K' hK' => ?_
 obtain ⟨w', hrun, r1, r2, r3⟩ := h.range ht
 unfold Oper.wp
 simp [execOp, hop, hm, hrun, Result.andThen]
 exact hK' _ _ (hK w' r1 r2 r3)
theorem st_next (hg : o.guard = none) (it : Operand) (hop : o.op = Op.next it false) (hit : a.eval it = .pointer (some ⟨r, 0, none⟩)) (h : Rng w b r f left) (hf : ∀ k v, f k = some v → ∃ n, v = .int .i64 n)
  (hDone : (∀ k, left k = false) → wpList P ops Q rest (a.put o.dst (.tuple #[.bool false])) w)
  (hMore : ∀ (k c : Int) (w' : World), left k = true → f k = some (.int .i64 c) → Rng w' b r f (fun x => left x && !(x == k)) → w'.rangeLeft b r < w.rangeLeft b r → w.grownBy w' (some r) → w'.heap.size = w.heap.size →
   (Instr.entry (.pointer (some ⟨r, 0, none⟩))).run P w' = .ok (.tuple #[.int .i64 k, .int .i64 c]) w' → wpList P ops Q rest (a.put o.dst (.tuple #[.bool true, .int .i64 k, .int .i64 c])) w') :
  wpList P ops Q (o :: rest) a w := by
 refine wpList_plain hg fun K' hK' => ?_
 unfold Oper.wp
 rcases h.next (P := P) o.type with ⟨hl, hrun⟩ | ⟨k, v, w', hl, hfk, hrun, hrg, hlt, hgr, hsz, hen⟩
 ·
  simp [execOp, hop, hit, hrun, Result.andThen]
  exact hK' _ _ (hDone hl)
 ·
  obtain ⟨c, rfl⟩ := hf k v hfk
  simp [execOp, hop, hit, hrun, Result.andThen]
  exact hK' _ _ (hMore k c w' hl hfk hrg hlt hgr hsz hen)
theorem rng_drop (hg : o.guard = none) (m x : Operand) (t kt et t' : TypeId) (hop : o.op = Op.call { callee := Callee.builtin Builtin.delete, args := #[m, x], argTypes := #[t, t'] }) (ht : P.underlying t = some (.map kt et)) (hk : P.underlying kt = some (.int .i64))
  (hm : a.eval m = .map (some b)) (h : Rng w b r f left) {k : Int} (hx : a.eval x = .int .i64 k) (hl : left k = false)
  (hK : ∀ w', Rng w' b r (fun x => if x = k then none else f x) left → w'.rangeLeft b r ≤ w.rangeLeft b r → w.grownBy w' (some b) → wpList P ops Q rest (a.put o.dst (.tuple #[])) w') : wpList P ops Q (o :: rest) a w := by
 refine wpList_plain hg fun K' hK' => ?_
 obtain ⟨w', hrun, h1, h2, h3⟩ := h.drop ht hk k hl t' o.type
 unfold Oper.wp
 simp [execOp, hop, resolve, invoke, builtin, hm, hx, hrun, Result.andThen]
 exact hK' _ _ (hK _ h1 h2 h3)
end
end Go.Proofs.YtbbgdbnjmonbgaaGreatDoor

set_option linter.unusedVariables false
set_option maxRecDepth 100000
namespace Go.Proofs.YtbbgdbnjmonbgaaGreatDoor
open Go.RowKit
structure Only (bs : List Nat) (w w' : World) : Prop where
 os : w'.os = w.os
 tape : w'.tape = w.tape
 output : w'.output = w.output
 size : w.heap.size ≤ w'.heap.size
 block : ∀ {k : Nat}, k < w.heap.size → k ∉ bs → w'.heap[k]? = w.heap[k]?
theorem Only.refl (bs : List Nat) (w : World) : Only bs w w := ⟨rfl, rfl, rfl, Nat.le_refl _, fun _ _ => rfl⟩
theorem Only.trans {bs : List Nat} {a b c : World} (h : Only bs a b) (k : Only bs b c) : Only bs a c :=
 ⟨k.os.trans h.os, k.tape.trans h.tape, k.output.trans h.output, Nat.le_trans h.size k.size, fun hi hn => (k.block (Nat.lt_of_lt_of_le hi h.size) hn).trans (h.block hi hn)⟩
theorem Only.mono {bs cs : List Nat} {w w' : World} (h : Only bs w w') (hs : ∀ b ∈ bs, b ∈ cs) : Only cs w w' := ⟨h.os, h.tape, h.output, h.size, fun hi hn => h.block hi fun hb => hn (hs _ hb)⟩
theorem Only.of_below {bs : List Nat} {w w' : World} (h : Below w.heap.size w w') : Only bs w w' := ⟨h.os, h.tape, h.output, h.size, fun hi _ => h.block _ hi⟩
theorem Only.of_grown {w w' : World} {b : Nat} (h : w.grownBy w' (some b)) : Only [b] w w' := ⟨h.os, h.tape, h.output, h.size, fun hi hn => h.block _ hi fun e => hn (by cases e; simp)⟩
theorem Only.below {bs : List Nat} {w w' : World} (h : Only bs w w') {B : Nat} (hB : B ≤ w.heap.size) (hb : ∀ b ∈ bs, B ≤ b) : Below B w w' :=
 ⟨h.os, h.tape, h.output, h.size, fun k hk => h.block (Nat.lt_of_lt_of_le hk hB) fun hm => by have := hb k hm; omega⟩
theorem Only.andThen {bs cs : List Nat} {a b c : World} (h : Only bs a b) (k : Only cs b c) (hc : ∀ x ∈ cs, a.heap.size ≤ x ∨ x ∈ bs) : Only bs a c :=
 ⟨k.os.trans h.os, k.tape.trans h.tape, k.output.trans h.output, Nat.le_trans h.size k.size, fun {i} hi hn => (k.block (Nat.lt_of_lt_of_le hi h.size) fun hm => by rcases hc i hm with h1 | h1; omega; exact hn h1).trans (h.block hi hn)⟩
theorem Only.cell {bs : List Nat} {w w' : World} (h : Only bs w w') {a : Addr} (ha : a.block < w.heap.size) (hn : a.block ∉ bs) : w'.cell? a = w.cell? a := World.cell?_of_block (h.block ha hn)
structure FL where
 lo : Int
 hi : Int
 used : Int → Bool
 waits : Int → Option Int
structure FL.Ok (F : FL) : Prop where
 h0 : 0 ≤ F.lo
 h1 : F.lo ≤ F.hi
 h2 : F.hi ≤ 4096
 hu : ∀ {k}, F.used k = true → F.lo ≤ k ∧ k < F.hi
 hw : ∀ {k}, (F.waits k).isSome = true → F.lo ≤ k ∧ k < F.hi
 ha : ∀ {k}, F.used k = true → F.waits k = Option.none
def FL.has (F : FL) (k : Int) : Bool := decide (F.lo ≤ k) && decide (k < F.hi)
def FL.st (F : FL) (k : Int) : Int := if F.has k then (if F.used k then 2 else if (F.waits k).isSome then 3 else 1) else 0
def FL.new (lo hi : Int) : FL := ⟨lo, hi, fun _ => false, fun _ => Option.none⟩
def FL.take (F : FL) (k : Int) : FL := { F with used := fun x => if x = k then true else F.used x }
def FL.drop (F : FL) (k : Int) : FL := { F with used := fun x => if x = k then false else F.used x }
def FL.late (F : FL) (k g : Int) : FL := { F.drop k with waits := fun x => if x = k then some g else F.waits x }
def FL.leave (F : FL) (such : Int → Bool) : FL := { F with waits := fun x => match F.waits x with | some g => if such g then Option.none else some g | Option.none => Option.none }
def FL.pages (F : FL) : List Int := (List.range (F.hi - F.lo).toNat).map fun (i : Nat) => F.lo + (i : Int)
def FL.nUsed (F : FL) : Nat := F.pages.countP F.used
def FL.nWaits (F : FL) : Nat := F.pages.countP fun k => (F.waits k).isSome
def FL.nSuch (F : FL) (such : Int → Bool) : Nat := F.pages.countP fun k => match F.waits k with | some g => such g | Option.none => false
theorem FL.mem_pages {F : FL} {k : Int} : k ∈ F.pages ↔ F.lo ≤ k ∧ k < F.hi := by
 simp only [FL.pages, List.mem_map, List.mem_range]
 constructor
 ·
  rintro ⟨i, hi, rfl⟩
  omega
 ·
  rintro ⟨h1, h2⟩
  exact ⟨(k - F.lo).toNat, by omega, by omega⟩
theorem FL.pages_nodup (F : FL) : F.pages.Nodup := by
 refine List.pairwise_map.2 ?_
 refine List.Pairwise.imp ?_ List.nodup_range
 intro a b h e
 omega
theorem FL.Ok.new {lo hi : Int} (h0 : 0 ≤ lo) (h1 : lo ≤ hi) (h2 : hi ≤ 4096) : (FL.new lo hi).Ok := ⟨h0, h1, h2, by simp [FL.new], by simp [FL.new], by simp [FL.new]⟩
theorem FL.has_iff {F : FL} {k : Int} : F.has k = true ↔ F.lo ≤ k ∧ k < F.hi := by simp [FL.has]
theorem FL.Ok.take {F : FL} (h : F.Ok) {k : Int} (hs : F.st k = 1) : (F.take k).Ok := by
 have hk : F.has k = true := by
  cases hh : F.has k
  ·
   simp [FL.st, hh] at hs
  ·
   rfl
 have hu : F.used k = false := by
  cases hh : F.used k
  ·
   rfl
  ·
   simp [FL.st, hk, hh] at hs
 have hw : F.waits k = Option.none := by
  cases hh : F.waits k
  ·
   rfl
  ·
   simp [FL.st, hk, hu, hh] at hs
 refine ⟨h.h0, h.h1, h.h2, fun {x} hx => ?_, h.hw, fun {x} hx => ?_⟩
 ·
  simp only [FL.take] at hx
  by_cases e : x = k
  ·
   rw [e]; exact FL.has_iff.1 hk
  ·
   simp only [e, if_false] at hx; exact h.hu hx
 ·
  simp only [FL.take] at hx
  by_cases e : x = k
  ·
   rw [e]; exact hw
  ·
   simp only [e, if_false] at hx; exact h.ha hx
theorem FL.st_two {F : FL} {k : Int} : F.st k = 2 ↔ F.has k = true ∧ F.used k = true := by
 unfold FL.st
 cases F.has k <;> cases F.used k <;> cases (F.waits k).isSome <;> simp
theorem FL.Ok.drop {F : FL} (h : F.Ok) (k : Int) : (F.drop k).Ok := by
 refine ⟨h.h0, h.h1, h.h2, fun {x} hx => ?_, h.hw, fun {x} hx => ?_⟩
 ·
  simp only [FL.drop] at hx
  by_cases e : x = k
  ·
   simp [e] at hx
  ·
   simp only [e, if_false] at hx; exact h.hu hx
 ·
  simp only [FL.drop] at hx
  by_cases e : x = k
  ·
   simp [e] at hx
  ·
   simp only [e, if_false] at hx; exact h.ha hx
theorem FL.Ok.late {F : FL} (h : F.Ok) {k : Int} (g : Int) (hk : F.has k = true) : (F.late k g).Ok := by
 have h' := h.drop k
 refine ⟨h.h0, h.h1, h.h2, h'.hu, fun {x} hx => ?_, fun {x} hx => ?_⟩
 ·
  simp only [FL.late] at hx
  by_cases e : x = k
  ·
   rw [e]; exact FL.has_iff.1 hk
  ·
   simp only [e, if_false] at hx; exact h.hw hx
 ·
  simp only [FL.late, FL.drop] at hx ⊢
  by_cases e : x = k
  ·
   simp [e] at hx
  ·
   simp only [e, if_false] at hx ⊢; exact h.ha hx
theorem FL.leave_none {F : FL} {such : Int → Bool} {k : Int} (h : ((F.leave such).waits k).isSome = true) : (F.waits k).isSome = true := by
 simp only [FL.leave] at h
 cases hw : F.waits k
 ·
  rw [hw] at h; cases h
 ·
  rfl
theorem FL.Ok.leave {F : FL} (h : F.Ok) (such : Int → Bool) : (F.leave such).Ok := by
 refine ⟨h.h0, h.h1, h.h2, h.hu, fun {x} hx => h.hw (FL.leave_none hx), fun {x} hx => ?_⟩
 have := h.ha (k := x) hx
 simp [FL.leave, this]
structure FrIs (w : World) (p um wm : Nat) (F : FL) : Prop where
 blk : w.heap[p]? = some (.cells #[.int .i64 F.lo, .int .i64 F.hi, .map (some um), .map (some wm)] 149 (0, 0))
 mu : MapSt w um fun k => if F.used k = true then some (.agg #[]) else Option.none
 mw : MapSt w wm fun k => (F.waits k).map (Value.int .i64)
 ne : um ≠ wm
 ok : F.Ok
theorem FrIs.below {w w' : World} {p um wm : Nat} {F : FL} (h : FrIs w p um wm F) (hb : Below w.heap.size w w') : FrIs w' p um wm F :=
 ⟨by rw [hb.block _ (aL h.blk)]; exact h.blk, h.mu.block (hb.block _ h.mu.lt), h.mw.block (hb.block _ h.mw.lt), h.ne, h.ok⟩
theorem FrIs.pne {w : World} {p um wm : Nat} {F : FL} (h : FrIs w p um wm F) : p ≠ um ∧ p ≠ wm := by
 obtain ⟨⟨_, _, hu, _⟩, _⟩ := h.mu
 obtain ⟨⟨_, _, hw, _⟩, _⟩ := h.mw
 constructor <;> rintro rfl
 ·
  rw [h.blk] at hu; cases hu
 ·
  rw [h.blk] at hw; cases hw
theorem FL.keys_used {F : FL} (h : F.Ok) : KeysOf (fun k => if F.used k = true then some (Value.agg #[]) else Option.none) (F.pages.filter F.used) := by
 refine ⟨F.pages_nodup.filter _, fun k => ?_⟩
 rw [List.mem_filter, FL.mem_pages]
 by_cases hu : F.used k = true
 ·
  simp [hu, h.hu hu]
 ·
  simp [hu]
theorem FL.keys_waits {F : FL} (h : F.Ok) : KeysOf (fun k => (F.waits k).map (Value.int .i64)) (F.pages.filter fun k => (F.waits k).isSome) := by
 refine ⟨F.pages_nodup.filter _, fun k => ?_⟩
 rw [List.mem_filter, FL.mem_pages, Option.isSome_map]
 constructor
 ·
  rintro ⟨_, h1⟩; exact h1
 ·
  intro h1; exact ⟨h.hw h1, h1⟩
end Go.Proofs.YtbbgdbnjmonbgaaGreatDoor

set_option linter.unusedVariables false
set_option maxRecDepth 100000
namespace Go.Proofs.YtbbgdbnjmonbgaaGreatDoor
open Go.RowKit
theorem frNeq_yes (w : World) (b : Nat) : (binOp BinOp.neq 87 (.map (some b)) (.map none)).run Tryz.prog w = .ok (.bool true) w := by kernel_rfl
set_option maxHeartbeats 400000 in
theorem frMade_yes {w : World} {p b : Nat} (hc : w.cell? ⟨p, 2, none⟩ = some (.map (some b))) :
  Calls Tryz.prog 89 #[.pointer (some ⟨p, 0, none⟩)] w fun e w' => e = .returned (.bool true) ∧ w = w' := by
 have hne := frNeq_yes
 go_enter Tryz.func89, Tryz.ntmps89
 go_wp2
 go_ret
 exact ⟨rfl, rfl⟩
end Go.Proofs.YtbbgdbnjmonbgaaGreatDoor

