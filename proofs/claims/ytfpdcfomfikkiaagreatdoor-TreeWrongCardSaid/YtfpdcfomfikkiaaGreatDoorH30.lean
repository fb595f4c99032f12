/-
  A range over a function, for the walks: the statement, a round, the way out; in plain form.
  slices.Sorted(maps.Keys(m)) of a map without keys.
  tree.Put of the empty tree: drop of no pages, lay, layNode of a leaf.
  tree.Put of the empty tree: layNode of a leaf whose values are all laid, or in it.
-/
import Derived.Test.YtfpdcfomfikkiaaGreatDoorH29
import Derived.Test.YtfpdcfomfikkiaaGreatDoorH17
import Derived.Test.YtfpdcfomfikkiaaGreatDoorH22
import Derived.RangeFuncFrom
set_option linter.unusedVariables false
set_option linter.unusedSimpArgs false
set_option maxRecDepth 100000
namespace Go.Proofs.YtfpdcfomfikkiaaGreatDoor
open Go.RowKit Go.Shelf

/-- The record of a loop. -/
def recOf (fn : FuncId) (a : Act) (ps : Array Tmp) (assign body : Code) (w : World) (st : LoopState) (pe : Option Code) : Loop := { state := st, pending := pe, fn, tmps := a.tmps, params := ps, assign, body, defers := w.heap.size }

/-- A loop's record as it is when the loop begins. -/
structure RecIs (r : Loop) (a : Act) (ps : Array Tmp) (assign body : Code) : Prop where
  st : r.state = .ready
  pe : r.pending = none
  tm : r.tmps = a.tmps
  pa : r.params = ps
  ass : r.assign = assign
  bo : r.body = body

/-- The statement: the one call of the function that is ranged over, at yield. -/
theorem wp_range {P : Program} {g : Operand} {ps : Array Tmp} {assign body : Code} {Q : Exit → Act → World → Prop} {a : Act} {w : World} {gf : Nat} {lb : Array Value}
    (hg : a.eval g = .func (.func gf) #[] lb) (eg : ∀ args w, (callFunc gf args).run P w = .ok (.enter gf args) w)
    (h : ∀ r W, RecIs r a ps assign body → W.heap[w.heap.size + 1]? = some (.loop r) → W.heap[w.heap.size]? = some (.deferred (some [])) → Below w.heap.size w W →
      Calls P gf (#[.func (.yield (w.heap.size + 1)) #[] #[]] ++ lb) W (rangePost Fence.wide 3 P (w.heap.size + 1) Q { a with defers := { target := .collected w.heap.size, args := #[] } :: a.defers })) :
    (Code.rangeFunc g ps assign body).wp P Q a w := by
  refine (wpIn_wide (n := 3)).1 (wpIn_rangeFunc ?_)
  intro fn hfn
  obtain ⟨W1, hW1⟩ : ∃ W1, W1 = (w.alloc (.deferred (some []))).alloc (.loop (recOf fn a ps assign body w .ready none)) := ⟨_, rfl⟩
  have hL1 : W1.heap[w.heap.size + 1]? = some (.loop (recOf fn a ps assign body w .ready none)) := by
    rw [hW1]; have := World.alloc_heap_new (w.alloc (.deferred (some []))) (.loop (recOf fn a ps assign body w .ready none)); rwa [World.size_alloc] at this
  have hK1 : W1.heap[w.heap.size]? = some (.deferred (some [])) := by
    rw [hW1]; exact (Below.heap_alloc _ _ _ (by simp)).trans (World.alloc_heap_new w _)
  have hb1 : Below w.heap.size w W1 := by
    rw [hW1]; exact sbox2 _ _ _
  refine ⟨w.heap.size + 1, [{ target := .collected w.heap.size, args := #[] }], W1, { target := .fn (.func gf) lb, args := #[.func (.yield (w.heap.size + 1)) #[] #[]] }, W1, gf,
    #[.func (.yield (w.heap.size + 1)) #[] #[]] ++ lb, W1, ?_, ?_, ?_, ?_, (fun _ => by decide), ?_⟩
  · rw [hW1]; exact run_enterLoop_outer _ _ _ _ _
  · simp only [resolve, hg]
    simp [go_sem]
  · intro f' hf'; trivial
  · simp [invoke, go_sem, eg]
  · exact callsIn_wide.2 (h _ W1 ⟨rfl, rfl, rfl, rfl, rfl, rfl⟩ hL1 hK1 hb1)

/-- A round. -/
theorem yield_round {P : Program} {l : Nat} {r : Loop} {args : Array Value} {W : World} {R : Ending → World → Prop} (hl : W.heap[l]? = some (.loop r)) (hs : args.size = r.params.size)
    (h : r.assign.wpIn (Fence.wide.inRound l) 2 P (Exit.then (fun a₁ w₁ => ∃ w₂, (Instr.beginRound l).run P w₁ = .ok () w₂ ∧ r.body.wpIn (Fence.wide.inRound l) 2 P (roundPost P l R) a₁ w₂) (fun _ _ _ => False))
      { tmps := (r.params.zip args).foldl (fun tmps (t, a) => tmps.setIfInBounds t a) r.tmps, defers := [] } W) : YieldAt Fence.wide 2 P l args W R :=
  ⟨_, _, _, _, run_yield hl hs, roundIn_of_wpIn trivial h⟩

/-- The way out of a function behind such a loop. -/
theorem leaves_mark {P : Program} {fn : Func} {tmps : Array Value} {R : Ending → World → Prop} {D : Nat} {w : World} (hD : w.heap[D]? = some (.deferred (some [])))
    (h : LeavesIn Fence.wide 3 P fn tmps R [] .returning (w.putObj D (.deferred none))) : LeavesInM Fence.wide 3 P fn tmps R [{ target := .collected D, args := #[] }] .returning w :=
  ⟨by simp, .inl ⟨D, _, rfl, run_takeDeferred hD, h⟩⟩

theorem putObj_below {w : World} {B l : Nat} (hB : B ≤ l) (o : Obj) : Below B w (w.putObj l o) := ⟨rfl, rfl, rfl, by simp, fun k hk => World.putObj_heap_other (by omega)⟩

/-- Two results in boxes are stored; the mark is come to. -/
theorem out_two {w : World} {B D a b : Nat} {x0 y0 x y : Value} {t1 t2 : TypeId} (h1 : w.heap[a]? = some (.cells #[x0] t1 (0, 0))) (h2 : w.heap[b]? = some (.cells #[y0] t2 (0, 0))) (hD : w.heap[D]? = some (.deferred (some []))) (hab : a ≠ b) (ha : B ≤ a) (hb : B ≤ b) (hd : B ≤ D) :
    ((w.setCell ⟨a, 0, none⟩ x).setCell ⟨b, 0, none⟩ y).heap[D]? = some (.deferred (some [])) ∧
    (((w.setCell ⟨a, 0, none⟩ x).setCell ⟨b, 0, none⟩ y).putObj D (.deferred none)).cell? ⟨a, 0, none⟩ = some x ∧
    (((w.setCell ⟨a, 0, none⟩ x).setCell ⟨b, 0, none⟩ y).putObj D (.deferred none)).cell? ⟨b, 0, none⟩ = some y ∧
    Below B w (((w.setCell ⟨a, 0, none⟩ x).setCell ⟨b, 0, none⟩ y).putObj D (.deferred none)) := by
  have nda : D ≠ a := fun e => by rw [e] at hD; rw [h1] at hD; cases hD
  have ndb : D ≠ b := fun e => by rw [e] at hD; rw [h2] at hD; cases hD
  have s1 : (w.setCell ⟨a, 0, none⟩ x).heap[a]? = some (.cells #[x] t1 (0, 0)) := by rw [heap_setCell_same w a 0 _ _ _ h1]; rfl
  have s2 : (w.setCell ⟨a, 0, none⟩ x).heap[b]? = some (.cells #[y0] t2 (0, 0)) := (Below.heap_setCell w ⟨a, 0, none⟩ x b (Ne.symm hab)).trans h2
  have u1 : ((w.setCell ⟨a, 0, none⟩ x).setCell ⟨b, 0, none⟩ y).heap[a]? = some (.cells #[x] t1 (0, 0)) := (Below.heap_setCell _ ⟨b, 0, none⟩ y a hab).trans s1
  have u2 : ((w.setCell ⟨a, 0, none⟩ x).setCell ⟨b, 0, none⟩ y).heap[b]? = some (.cells #[y] t2 (0, 0)) := by rw [heap_setCell_same _ b 0 _ _ _ s2]; rfl
  have v1 : (((w.setCell ⟨a, 0, none⟩ x).setCell ⟨b, 0, none⟩ y).putObj D (.deferred none)).heap[a]? = some (.cells #[x] t1 (0, 0)) := (World.putObj_heap_other (Ne.symm nda)).trans u1
  have v2 : (((w.setCell ⟨a, 0, none⟩ x).setCell ⟨b, 0, none⟩ y).putObj D (.deferred none)).heap[b]? = some (.cells #[y] t2 (0, 0)) := (World.putObj_heap_other (Ne.symm ndb)).trans u2
  refine ⟨(Below.heap_setCell _ ⟨b, 0, none⟩ y D ndb).trans ((Below.heap_setCell w ⟨a, 0, none⟩ x D nda).trans hD), (Joins.cell_of_block v1 0).trans rfl, (Joins.cell_of_block v2 0).trans rfl, ?_⟩
  exact (((Below.refl B w).setCell (p := ⟨a, 0, none⟩) ha x).setCell (p := ⟨b, 0, none⟩) hb y).trans (putObj_below hd _)

/-- In a round two results in boxes are stored, and it is left. -/
theorem round_two {w : World} {B D a b : Nat} {x0 y0 x y : Value} {t1 t2 : TypeId} {r r' : Loop} (h1 : w.heap[a]? = some (.cells #[x0] t1 (0, 0))) (h2 : w.heap[b]? = some (.cells #[y0] t2 (0, 0))) (hD : w.heap[D]? = some (.loop r)) (hab : a ≠ b) (ha : B ≤ a) (hb : B ≤ b) (hd : B ≤ D) :
    ((w.setCell ⟨a, 0, none⟩ x).setCell ⟨b, 0, none⟩ y).heap[D]? = some (.loop r) ∧
    (((w.setCell ⟨a, 0, none⟩ x).setCell ⟨b, 0, none⟩ y).putObj D (.loop r')).heap[a]? = some (.cells #[x] t1 (0, 0)) ∧
    (((w.setCell ⟨a, 0, none⟩ x).setCell ⟨b, 0, none⟩ y).putObj D (.loop r')).heap[b]? = some (.cells #[y] t2 (0, 0)) ∧
    (((w.setCell ⟨a, 0, none⟩ x).setCell ⟨b, 0, none⟩ y).putObj D (.loop r')).heap[D]? = some (.loop r') ∧
    (∀ i, i ≠ a → i ≠ b → i ≠ D → (((w.setCell ⟨a, 0, none⟩ x).setCell ⟨b, 0, none⟩ y).putObj D (.loop r')).heap[i]? = w.heap[i]?) ∧
    Below B w (((w.setCell ⟨a, 0, none⟩ x).setCell ⟨b, 0, none⟩ y).putObj D (.loop r')) := by
  have nda : D ≠ a := fun e => by rw [e] at hD; rw [h1] at hD; cases hD
  have ndb : D ≠ b := fun e => by rw [e] at hD; rw [h2] at hD; cases hD
  have s1 : (w.setCell ⟨a, 0, none⟩ x).heap[a]? = some (.cells #[x] t1 (0, 0)) := by rw [heap_setCell_same w a 0 _ _ _ h1]; rfl
  have s2 : (w.setCell ⟨a, 0, none⟩ x).heap[b]? = some (.cells #[y0] t2 (0, 0)) := (Below.heap_setCell w ⟨a, 0, none⟩ x b (Ne.symm hab)).trans h2
  have u1 : ((w.setCell ⟨a, 0, none⟩ x).setCell ⟨b, 0, none⟩ y).heap[a]? = some (.cells #[x] t1 (0, 0)) := (Below.heap_setCell _ ⟨b, 0, none⟩ y a hab).trans s1
  have u2 : ((w.setCell ⟨a, 0, none⟩ x).setCell ⟨b, 0, none⟩ y).heap[b]? = some (.cells #[y] t2 (0, 0)) := by rw [heap_setCell_same _ b 0 _ _ _ s2]; rfl
  have u3 : ((w.setCell ⟨a, 0, none⟩ x).setCell ⟨b, 0, none⟩ y).heap[D]? = some (.loop r) := (Below.heap_setCell _ ⟨b, 0, none⟩ y D ndb).trans ((Below.heap_setCell w ⟨a, 0, none⟩ x D nda).trans hD)
  refine ⟨u3, (World.putObj_heap_other (Ne.symm nda)).trans u1, (World.putObj_heap_other (Ne.symm ndb)).trans u2, World.putObj_heap_same (Array.getElem?_eq_some_iff.1 u3).1, fun i i1 i2 i3 => (World.putObj_heap_other i3).trans ((Below.heap_setCell _ ⟨b, 0, none⟩ y i i2).trans (Below.heap_setCell w ⟨a, 0, none⟩ x i i1)), ?_⟩
  exact (((Below.refl B w).setCell (p := ⟨a, 0, none⟩) ha x).setCell (p := ⟨b, 0, none⟩) hb y).trans (putObj_below hd _)
theorem NCap.same {w w' : World} {P sm br bl bn : Nat} {root : Int} {nv : Value} (h : NCap w P sm br bl bn root nv) (hs : ∀ i o, i = br ∨ i = bl ∨ i = bn → w.heap[i]? = some o → w'.heap[i]? = some o) : NCap w' P sm br bl bn root nv := by
  obtain ⟨⟨t1, h1⟩, ⟨t2, h2⟩, ⟨t3, h3⟩⟩ := h
  exact ⟨⟨t1, hs _ _ (.inl rfl) h1⟩, ⟨t2, hs _ _ (.inr (.inl rfl)) h2⟩, ⟨t3, hs _ _ (.inr (.inr rfl)) h3⟩⟩
theorem NCap.ne {w : World} {P sm br bl bn : Nat} {root : Int} {nv : Value} (h : NCap w P sm br bl bn root nv) {D : Nat} {r : Loop} (hD : w.heap[D]? = some (.loop r)) : br ≠ D ∧ bl ≠ D ∧ bn ≠ D := by
  obtain ⟨⟨t1, h1⟩, ⟨t2, h2⟩, ⟨t3, h3⟩⟩ := h
  exact ⟨(fun e => by rw [e, hD] at h1; cases h1), (fun e => by rw [e, hD] at h2; cases h2), (fun e => by rw [e, hD] at h3; cases h3)⟩

/-- A round has left the function: the loop's record is done, the mark is come to. -/
theorem out_left {w : World} {B D a b : Nat} {x y : Value} {t1 t2 : TypeId} {r : Loop} {o : Obj} (h1 : w.heap[a]? = some (.cells #[x] t1 (0, 0))) (h2 : w.heap[b]? = some (.cells #[y] t2 (0, 0))) (hL : w.heap[D + 1]? = some (.loop r)) (hD : w.heap[D]? = some (.deferred (some []))) (hd : B ≤ D) :
    (w.putObj (D + 1) o).heap[D]? = some (.deferred (some [])) ∧
    ((w.putObj (D + 1) o).putObj D (.deferred none)).cell? ⟨a, 0, none⟩ = some x ∧
    ((w.putObj (D + 1) o).putObj D (.deferred none)).cell? ⟨b, 0, none⟩ = some y ∧
    Below B w ((w.putObj (D + 1) o).putObj D (.deferred none)) := by
  have nda : a ≠ D := fun e => by rw [e] at h1; rw [h1] at hD; cases hD
  have ndb : b ≠ D := fun e => by rw [e] at h2; rw [h2] at hD; cases hD
  have nla : a ≠ D + 1 := fun e => by rw [e] at h1; rw [h1] at hL; cases hL
  have nlb : b ≠ D + 1 := fun e => by rw [e] at h2; rw [h2] at hL; cases hL
  have v1 : ((w.putObj (D + 1) o).putObj D (.deferred none)).heap[a]? = some (.cells #[x] t1 (0, 0)) := (World.putObj_heap_other nda).trans ((World.putObj_heap_other nla).trans h1)
  have v2 : ((w.putObj (D + 1) o).putObj D (.deferred none)).heap[b]? = some (.cells #[y] t2 (0, 0)) := (World.putObj_heap_other ndb).trans ((World.putObj_heap_other nlb).trans h2)
  exact ⟨(World.putObj_heap_other (by omega)).trans hD, (Joins.cell_of_block v1 0).trans rfl, (Joins.cell_of_block v2 0).trans rfl, (putObj_below (by omega) _).trans (putObj_below hd _)⟩

end Go.Proofs.YtfpdcfomfikkiaaGreatDoor

set_option linter.unusedVariables false
set_option linter.unusedSimpArgs false
set_option maxRecDepth 100000
namespace Go.Proofs.YtfpdcfomfikkiaaGreatDoor
open Go.RowKit Go.Shelf

section
variable {P : Program} {w w' : World} {ops : Array Oper} {rest : List Oper} {o : Oper} {a : Act} {Q : Exit → Act → World → Prop} {b r : Nat} {f : Int → Option Value} {left : Int → Bool}
/-- The step, for a map without keys. -/
theorem tr_nextz (hg : o.guard = none) (it : Operand) (hop : o.op = Op.next it false) (hit : a.eval it = .pointer (some ⟨r, 0, none⟩)) (h : Rng w b r f left) (hf : ∀ k, f k = none)
    (hDone : wpList P ops Q rest (a.put o.dst (.tuple #[.bool false])) w) :
    wpList P ops Q (o :: rest) a w := by
  refine wpList_plain hg fun K' hK' => ?_
  unfold Oper.wp
  rcases h.next (P := P) o.type with ⟨hl, hrun⟩ | ⟨k, v, w', hl, hfk, hrun, hrg, hlt, hgr, hsz, hen⟩
  · simp [execOp, hop, hit, hrun, Result.andThen]
    exact hK' _ _ hDone
  · rw [hf k] at hfk; cases hfk
end

section
variable {w : World}

set_option maxHeartbeats 1600000 in
theorem keys1Z_any {bm sm : Nat} {t : TypeId} {fr : Nat × Nat} (hb : w.heap[bm]? = some (.cells #[.map (some sm)] t fr)) (hm : MapSt w sm (setOf fun _ => false)) (l : Nat) :
    Calls Tryz.prog 69 #[.func (.yield l) #[] #[], .pointer (some ⟨bm, 0, none⟩)] w fun e w' => (∃ v, e = .returned v) ∧ Below w.heap.size w w' := by
  have c0 : w.cell? ⟨bm, 0, none⟩ = some (.map (some sm)) := (Joins.cell_of_block hb 0).trans rfl
  have HM := Lib.hid hm
  clear hb hm
  go_enter Tryz.func69, Tryz.ntmps69
  go_wp2_with (at_range; refine st_range rfl _ _ 3 67 rfl Tryz.underlying58 rfl HM.out ?_; intro w0 hr0 hb0 hs0)
  have HR := Lib.hid hr0
  have HB := Lib.hid hb0
  clear hr0 hb0 hs0
  go_frame
  go_loopw [3] (fun _ wr => wr = w0) (fun _ _ => 0)
  case atStart => rfl
  case round =>
    subst hrel
    go_wp2_with (at_next; refine tr_nextz rfl _ rfl rfl HR.out (fun k => by simp [setOf]) ?_)
    go_wp2
    go_end0
    exact ⟨⟨_, rfl⟩, HB.out⟩

theorem keys_any (m : Option Nat) : Calls Tryz.prog 35 #[.map m] w fun e w' => e = .returned (.func (.func 69) #[] #[.pointer (some ⟨w.heap.size, 0, none⟩)]) ∧ w' = w.alloc (.cells #[.map m] 58) := by
  go_enter Tryz.func35, Tryz.ntmps35
  go_wp2
  go_ret
  exact ⟨rfl, rfl⟩

set_option maxHeartbeats 1600000 in
theorem appendSeqZ_any {bm sm : Nat} {t : TypeId} {fr : Nat × Nat} (hb : w.heap[bm]? = some (.cells #[.map (some sm)] t fr)) (hm : MapSt w sm (setOf fun _ => false)) :
    Calls Tryz.prog 90 #[.slice none 0 0, .func (.func 69) #[] #[.pointer (some ⟨bm, 0, none⟩)]] w fun e w' => e = .returned (.slice none 0 0) ∧ Below w.heap.size w w' := by
  have hbw := sbox1 w (.cells #[.slice none 0 0] 33)
  have hnew := heap_alloc_new w (.cells #[.slice none 0 0] 33)
  have hs1 : (w.alloc (.cells #[.slice none 0 0] 33)).heap.size = w.heap.size + 1 := by simp
  refine (callsIn_wide (n := 3)).1 (callsIn_of_wp_marks Tryz.func90 rfl trivial (wpIn_wide.2 ?_))
  simp only [Tryz.ntmps90, List.size_toArray, List.length_cons, List.length_nil, Nat.reduceAdd, Nat.reduceSub, Array.replicate_succ, Array.replicate_zero, List.push_toArray, List.append_toArray, List.nil_append, List.cons_append]
  go_wp2_with fail
  generalize w.alloc (.cells #[.slice none 0 0] 33) = W at hbw hnew hs1 ⊢
  refine wp_range rfl (enters_of Tryz.func69 (by kernel_rfl) rfl) ?_
  intro r W7 hri hrec hdef hb7
  have HRI := Lib.hid hri
  have h7 : Below w.heap.size w W7 := hbw.trans (hb7.mono hbw.size)
  refine (keys1Z_any (w := W7) (bm := bm) (sm := sm) (by rw [h7.block _ (Array.getElem?_eq_some_iff.1 hb).1]; exact hb) (hm.block (h7.block _ hm.lt)) _).mono ?_
  rintro e w8 ⟨⟨v, rfl⟩, hb8⟩
  have lt : ∀ {i : Nat} {o : Obj}, W7.heap[i]? = some o → w8.heap[i]? = some o := fun {i o} h => by rw [hb8.block i (Array.getElem?_eq_some_iff.1 h).1]; exact h
  refine ⟨r.pending, _, run_endLoop (lt hrec) (by rw [HRI.out.st]; intro h; cases h), ?_⟩
  obtain ⟨w9, hw9⟩ : ∃ w9, w9 = w8.putObj (W.heap.size + 1) (.loop { r with state := .exhausted }) := ⟨_, rfl⟩
  rw [← hw9, HRI.out.pe]
  have hq : w9.heap[w.heap.size]? = some (.cells #[.slice none 0 0] 33 (0, 0)) := by
    rw [hw9, World.putObj_heap_other (by omega)]
    exact lt (by rw [hb7.block _ (by omega)]; exact hnew)
  have hd : w9.heap[W.heap.size]? = some (.deferred (some [])) := by
    rw [hw9, World.putObj_heap_other (by omega)]
    exact lt hdef
  have h9 : Below w.heap.size w w9 := by rw [hw9]; exact h7.trans ((hb8.mono h7.size).trans (putObj_below (by omega) _))
  have c1 : w9.cell? ⟨w.heap.size, 0, none⟩ = some (.slice none 0 0) := (Joins.cell_of_block hq 0).trans rfl
  have HD := Lib.hid hd
  have H9 := Lib.hid (h9.trans (putObj_below (w := w9) (l := W.heap.size) (by omega) (.deferred none)))
  clear hri hrec hdef hb7 h7 hb8 lt hw9 hq hd h9 hb hm hbw hnew hs1
  dsimp only
  go_wp2
  exact leaves_mark HD.out ⟨_, results_tmp rfl _ _ _, rfl, H9.out⟩

theorem collectZ_any {bm sm : Nat} {t : TypeId} {fr : Nat × Nat} (hb : w.heap[bm]? = some (.cells #[.map (some sm)] t fr)) (hm : MapSt w sm (setOf fun _ => false)) :
    Calls Tryz.prog 67 #[.func (.func 69) #[] #[.pointer (some ⟨bm, 0, none⟩)]] w fun e w' => e = .returned (.slice none 0 0) ∧ Below w.heap.size w w' := by
  have HA := Lib.hid (appendSeqZ_any hb hm)
  clear hb hm
  go_enter Tryz.func67, Tryz.ntmps67
  go_wp2_with fail
  refine HA.out.mono ?_; rintro e w1 ⟨rfl, hb⟩
  go_wp2
  go_ret
  exact ⟨rfl, hb⟩

theorem len64Z : Calls Tryz.prog 121 #[.int .u64 0] w fun e w' => e = .returned (.int .i64 0) ∧ w = w' := by
  go_enter Tryz.func121, Tryz.ntmps121
  go_wp2
  go_ret
  exact ⟨ret_int (by decide +kernel), rfl⟩

theorem lenZ : Calls Tryz.prog 92 #[.int .u64 0] w fun e w' => e = .returned (.int .i64 0) ∧ w = w' := by
  have HL := Lib.hid (fun w => len64Z (w := w))
  go_enter Tryz.func92, Tryz.ntmps92
  go_wp2_with fail
  refine (HL.out _).mono ?_; rintro e w1 ⟨rfl, rfl⟩
  go_wp2
  go_ret
  exact ⟨rfl, rfl⟩

set_option maxHeartbeats 1600000 in
theorem insertZ : Calls Tryz.prog 111 #[.slice none 0 0, .int .i64 0, .int .i64 0] w fun e w' => (∃ v, e = .returned v) ∧ w = w' := by
  go_enter Tryz.func111, Tryz.ntmps111
  go_wp2
  go_loopw [6] (fun i wr => i = .int .i64 1 ∧ wr = w) (fun _ _ => 0)
  case atStart => exact ⟨rfl, rfl⟩
  case round =>
    obtain ⟨rfl, rfl⟩ := hrel
    go_wp2
    go_end0
    exact ⟨⟨_, rfl⟩, rfl⟩

set_option maxHeartbeats 1600000 in
theorem pdqZ : Calls Tryz.prog 91 #[.slice none 0 0, .int .i64 0, .int .i64 0, .int .i64 0] w fun e w' => (∃ v, e = .returned v) ∧ w = w' := by
  have HI := Lib.hid (fun w => insertZ (w := w))
  go_enter Tryz.func91, Tryz.ntmps91
  go_wp2
  go_loopw [1, 2] (fun a b wr => a = .int .i64 0 ∧ b = .int .i64 0 ∧ wr = w) (fun _ _ _ => 0)
  case atStart => exact ⟨rfl, rfl, rfl⟩
  case round =>
    obtain ⟨rfl, rfl, rfl⟩ := hrel
    go_wp2_with fail
    refine (HI.out _).mono ?_; rintro e w1 ⟨⟨v, rfl⟩, rfl⟩
    go_wp2
    refine bodyPost_ret (results_none rfl _ _ _) rfl ?_
    exact ⟨⟨_, rfl⟩, rfl⟩

theorem sortZ : Calls Tryz.prog 68 #[.slice none 0 0] w fun e w' => (∃ v, e = .returned v) ∧ w = w' := by
  have HL := Lib.hid (fun w => lenZ (w := w))
  have HP := Lib.hid (fun w => pdqZ (w := w))
  go_enter Tryz.func68, Tryz.ntmps68
  go_wp2_with fail
  refine (HL.out _).mono ?_; rintro e w1 ⟨rfl, rfl⟩
  go_wp2_with fail
  refine (HP.out _).mono ?_; rintro e w1 ⟨⟨v, rfl⟩, rfl⟩
  go_wp2
  go_end0
  exact ⟨⟨_, rfl⟩, rfl⟩

theorem sortedZ_any {bm sm : Nat} {t : TypeId} {fr : Nat × Nat} (hb : w.heap[bm]? = some (.cells #[.map (some sm)] t fr)) (hm : MapSt w sm (setOf fun _ => false)) :
    Calls Tryz.prog 34 #[.func (.func 69) #[] #[.pointer (some ⟨bm, 0, none⟩)]] w fun e w' => e = .returned (.slice none 0 0) ∧ Below w.heap.size w w' := by
  have HC := Lib.hid (collectZ_any hb hm)
  have HS := Lib.hid (fun w => sortZ (w := w))
  clear hb hm
  go_enter Tryz.func34, Tryz.ntmps34
  go_wp2_with fail
  refine HC.out.mono ?_; rintro e w1 ⟨rfl, hb⟩
  have HB := Lib.hid hb
  clear hb
  go_wp2_with fail
  refine (HS.out _).mono ?_; rintro e w2 ⟨⟨v, rfl⟩, rfl⟩
  go_wp2
  go_ret
  exact ⟨rfl, HB.out⟩

end

end Go.Proofs.YtfpdcfomfikkiaaGreatDoor

set_option linter.unusedVariables false
set_option linter.unusedSimpArgs false
set_option maxRecDepth 100000
namespace Go.Proofs.YtfpdcfomfikkiaaGreatDoor
open Go.RowKit

section
variable {w w' : World} {B P pd sm cb : Nat} {X : PG} {seen : Int → Bool} {val : Kb} {fv lv : Value}

theorem dropZ : Calls Tryz.prog 102 #[.pointer (some ⟨cb, 0, none⟩), .slice none 0 0] w fun e w' => e = .returned (.int .i64 0) ∧ w = w' := by
  go_enter Tryz.func102, Tryz.ntmps102
  go_wp2
  go_loopw [10] (fun i wr => i = .int .i64 0 ∧ wr = w) (fun _ _ => 0)
  case atStart => exact ⟨rfl, rfl⟩
  case round =>
    obtain ⟨rfl, rfl⟩ := hrel
    go_wp2
    go_ret
    exact ⟨rfl, rfl⟩

/-- What a pager is that a page can be laid in. -/
structure Lays (X : PG) (k : Nat) : Prop where
  f : X.failed = false
  l : X.F.least = some (k : Int)
  h0 : X.S.left ≠ 0
  h1 : -1 ≤ X.S.left
  h2 : X.S.left ≤ 9223372036854775807
  o : X.S.ops ≤ 999999999
  g : X.g + 1 ≤ 1152921504606846976

theorem CBx.keeps (h : CBx w cb P sm val fv lv) (hk : Keeps (ofGrX sm) w w') : CBx w' cb P sm val fv lv := hk.stay h (by simp [ofGrX, ofGr])
theorem CBx.low (h : CBx w cb P sm val fv lv) (hb : Below w.heap.size w w') : CBx w' cb P sm val fv lv := by
  unfold CBx at *
  rw [hb.block _ (Array.getElem?_eq_some_iff.1 h).1]; exact h

theorem LookAt.grownI {v : Value} {l : List Int} (h : LookAt w B P pd sm X seen) (ho : OwnI w B v l) (hg : w.grownBy w' v.ownBlock) : LookAt w' B P pd sm X seen := by
  rcases ho.2 with ⟨rfl, h0⟩ | ⟨g, cap, cur, rfl, hb, hgc, _⟩
  · exact h.below ((Below.refl _ _).grown hg (Nat.le_refl _) (fun k hk => by cases hk))
  · exact h.off hgc hg hb (by decide)
theorem OwnI.keepsX {v : Value} {l : List Int} (h : OwnI w B v l) (hk : Keeps (ofGrX sm) w w') : OwnI w' B v l := by
  refine ⟨h.1, ?_⟩
  rcases h.2 with h0 | ⟨g, cap, cur, hv, h1, hg, h2⟩
  · exact .inl h0
  · exact .inr ⟨g, cap, cur, hv, h1, hk.stay hg (by simp [ofGrX, ofGr]), h2⟩
theorem OwnI.notcb {v : Value} {l : List Int} (h : OwnI w B v l) (hc : CBx w cb P sm val fv lv) : v.ownBlock ≠ some cb := h.other hc (fun c f e => by simp only [Obj.cells.injEq] at e; exact absurd e.2.1 (by decide))

set_option maxHeartbeats 1600000 in
theorem trLay_ok (h : LookAt w B P pd sm X seen) (hBw : B ≤ w.heap.size) {lq : Option Addr} {ln lc : Nat} {ls : List Int} (hcb : CBx w cb P sm val fv (.slice lq ln lc)) (hlo : OwnI w B (.slice lq ln lc) ls) (hll : ls.length ≤ 1000000) (hB : B ≤ cb) {k : Nat} (hX : Lays X k) (kind : UInt8) {q : Option Addr} {n c : Nat} {l : List UInt8} (hl : GBytes w B q l) (hn : n = l.length) (hnc : n ≤ c) (hc : c ≤ 9223372036854775807) (h493 : n ≤ 493) :
    Calls Tryz.prog 131 #[.pointer (some ⟨cb, 0, none⟩), .int .u8 (kind.toNat : Int), .slice q n c] w fun e w' => e = .returned (.tuple #[.int .i64 (k : Int), .int .i64 0]) ∧
      (∃ q' n' c', CBx w' cb P sm val fv (.slice q' n' c') ∧ OwnI w' B (.slice q' n' c') (ls ++ [(k : Int)])) ∧ LookAt w' B P pd sm (X.lay k (pageB kind k (X.g + 1) l)) seen ∧ Below B w w' := by
  have HL := Lib.hid (lookLay_ok h hX.f hX.l hX.h0 hX.h1 hX.h2 hX.o hX.g kind hl hn hnc hc h493)
  have y0 : w.cell? ⟨cb, 0, none⟩ = some (.pointer (some ⟨P, 0, none⟩)) := (Joins.cell_of_block hcb 0).trans rfl
  have HCB := Lib.hid hcb
  have HBB := Lib.hid hB
  have HBW := Lib.hid hBw
  have HLO := Lib.hid hlo
  have HLL := Lib.hid hll
  clear h hBw hcb hB hX hl hn hnc hc h493 hlo hll
  generalize X.lay k (pageB kind k (X.g + 1) l) = Y at *
  generalize (k : Int) = kk at *
  go_enter Tryz.func131, Tryz.ntmps131
  go_wp2_with fail
  refine HL.out.mono ?_
  rintro e w1 ⟨rfl, hla, hb1, hk1⟩
  have hc1 := HCB.out.keeps hk1
  have hb2 : Below w1.heap.size w1 (w1.alloc (.cells #[.int .i64 kk] 3)) := sbox1 _ _
  have hc2 := hc1.low hb2
  have y4 : w1.cell? ⟨cb, 4, none⟩ = some (.slice lq ln lc) := (Joins.cell_of_block hc1 4).trans rfl
  have n2 := heap_alloc_new w1 (.cells #[.int .i64 kk] 3)
  have HLA := Lib.hid (hla.below hb2)
  have HLB : Hid (B ≤ w1.heap.size) := Lib.hid (Nat.le_trans HBW.out hb1.size)
  have HB2 : Hid (Below B w (w1.alloc (.cells #[.int .i64 kk] 3))) := Lib.hid (hb1.trans (hb2.mono HLB.out))
  have HC2 := Lib.hid hc2
  have HN0 : Hid ((w1.alloc (.cells #[.int .i64 kk] 3)).cell? ⟨w1.heap.size, 0, none⟩ = some (.int .i64 kk)) := Lib.hid ((Joins.cell_of_block n2 0).trans rfl)
  have HLL2 : Hid (ls.length ≤ 1000000000) := Lib.hid (by have := HLL.out; omega)
  have HO2 := Lib.hid ((HLO.out.keepsX hk1).below hb2)
  have HSZ : Hid (B ≤ (w1.alloc (.cells #[.int .i64 kk] 3)).heap.size) := Lib.hid (Nat.le_trans HLB.out hb2.size)
  clear hla hb1 hk1 hc1 hb2 hc2 n2 HL y0
  have HST : Hid (∀ v3 w3, OwnI w3 B v3 (ls ++ [kk]) → (w1.alloc (.cells #[.int .i64 kk] 3)).grownBy w3 (Value.slice lq ln lc).ownBlock → CBx w3 cb P sm val fv (.slice lq ln lc) ∧ LookAt w3 B P pd sm Y seen ∧ Below B w w3) := Lib.hid fun v3 w3 ho3 hg3 => by
    refine ⟨?_, HLA.out.grownI HO2.out hg3, HB2.out.trans ((Below.refl _ _).grown hg3 HSZ.out (fun k hk => (World.ownsRow.lt HO2.out k hk).1))⟩
    have hx := HC2.out
    unfold CBx at hx ⊢
    rw [hg3.block cb (Array.getElem?_eq_some_iff.1 hx).1 (fun e => HO2.out.notcb HC2.out e.symm)]
    exact hx
  go_wp2_with (at_builtin; refine app_ints rfl (.tmp 27) (.tmp 29) rfl rfl HO2.out rfl HN0.out HLL2.out HSZ.out ?_; intro v3 w3 ho3 hg3; obtain ⟨hc3, hla3, hb3⟩ := HST.out _ _ ho3 hg3; obtain ⟨q3, c3, hv3, _⟩ := ho3.form; obtain ⟨n3, hn3⟩ : ∃ n, n = (ls ++ [kk]).length := ⟨_, rfl⟩; rw [← hn3] at hv3; subst hv3; have z4 : w3.cell? ⟨cb, 4, none⟩ = some (.slice lq ln lc) := (Joins.cell_of_block hc3 4).trans rfl; have f4 : w3.frozen? ⟨cb, 4, none⟩ = false := Joins.unfrozen_of_block hc3 4; have HC3 := Lib.hid hc3; have HLA3 := Lib.hid hla3; have HB3 := Lib.hid hb3; have HO3 := Lib.hid ho3; clear ho3 hg3 hb3 hc3 hla3 hn3)
  go_ret2
  have hg : w3.grownBy (w3.setCell ⟨cb, 4, none⟩ (.slice q3 n3 c3)) (some cb) := gb_set (gb_refl w3 cb) 4 _
  refine ⟨rfl, ⟨q3, n3, c3, ?_, ?_⟩, HLA3.out.off HC3.out hg HBB.out (by decide), HB3.out.setCell (p := ⟨cb, 4, none⟩) HBB.out _⟩
  · unfold CBx
    rw [heap_setCell_same w3 cb 4 _ _ _ HC3.out]
    rfl
  · exact HO3.out.kept hg (.inr (HO3.out.notcb HC3.out))
end

end Go.Proofs.YtfpdcfomfikkiaaGreatDoor

set_option linter.unusedVariables false
set_option linter.unusedSimpArgs false
set_option maxRecDepth 100000
namespace Go.Proofs.YtfpdcfomfikkiaaGreatDoor
open Go.RowKit

section
variable {w w' : World} {B P pd sm cb : Nat} {X : PG} {seen : Int → Bool} {val : Kb} {fv lv : Value}

theorem GBytes.own {B' : Nat} {p : Option Addr} {n c : Nat} {l : List UInt8} (h : Own w B' (.slice p n c) l) (hn : n = l.length) : GBytes w B p l := by
  intro w' _ hk
  have h' : Own w' B' (.slice p n c) l := by
    refine ⟨h.1, ?_⟩
    rcases h.2 with h0 | ⟨g, cap, cur, hv, h1, hg, h2⟩
    · exact .inl h0
    · exact .inr ⟨g, cap, cur, hv, h1, hk.stay hg (ofGr_u8 _ _ _), h2⟩
  obtain ⟨p', c', hv', _, _, h3', _⟩ := h'.form hn
  cases hv'
  exact h3'

/-- What a write has done: a page laid more. -/
structure LaidP (w w' : World) (B P pd sm cb : Nat) (X Y : PG) (seen : Int → Bool) (val : Kb) (fv : Value) (ls : List Int) : Prop where
  cb : ∃ q' n' c', CBx w' cb P sm val fv (.slice q' n' c') ∧ OwnI w' B (.slice q' n' c') ls
  la : LookAt w' B P pd sm Y seen
  low : Below B w w'

set_option maxHeartbeats 3200000 in
theorem layLeaf_ok (h : LookAt w B P pd sm X seen) (hBw : B ≤ w.heap.size) {lq : Option Addr} {ln lc : Nat} {ls : List Int} (hcb : CBx w cb P sm val fv (.slice lq ln lc)) (hlo : OwnI w B (.slice lq ln lc) ls) (hll : ls.length ≤ 1000000) (hB : B ≤ cb) {k : Nat} (hX : Lays X k) {n : Nd} (ho : n.Ok w) (hlf : n.leaf = true) (hik : n.is = []) (hp : ∀ v ∈ n.vs, v.p ≠ -1) (hr : n.s.Right) (hc : n.s.count ≤ 100000) (hpl : n.s.put.length ≤ 493) :
    Calls Tryz.prog 101 #[.pointer (some ⟨cb, 0, none⟩), n.cell] w fun e w' => e = .returned (.tuple #[.int .i64 (k : Int), .int .i64 0]) ∧ LaidP w w' B P pd sm cb X (X.lay k (pageB 2 k (X.g + 1) n.s.put)) seen val fv (ls ++ [(k : Int)]) := by
  obtain ⟨W, hW, hbw, hws, hcc⟩ := nd_box w n
  have HOK := Lib.hid (ho.below hbw)
  have HC := Lib.hid hcc
  have HBW := Lib.hid hbw
  have HWS := Lib.hid hws
  have HP := Lib.hid hp
  have HR := Lib.hid hr
  have HCNT := Lib.hid hc
  have HPL := Lib.hid hpl
  have HLA : Hid (∀ w', Below W.heap.size W w' → LookAt w' B P pd sm X seen ∧ CBx w' cb P sm val fv (.slice lq ln lc) ∧ OwnI w' B (.slice lq ln lc) ls ∧ Below w.heap.size w w') := Lib.hid fun w' hb => by
    have hbb : Below w.heap.size w w' := hbw.trans (hb.mono hbw.size)
    exact ⟨h.below hbb, hcb.low hbb, hlo.below hbb, hbb⟩
  have HBB := Lib.hid hBw
  have HLL := Lib.hid hll
  have HB := Lib.hid hB
  have HX := Lib.hid hX
  have hvm : n.vs.length ≤ 100000 := by
    have : n.s.vs.length ≤ n.s.count := by unfold NdS.count; omega
    have e : n.s.vs.length = n.vs.length := by show (n.vs.map Vl.s).length = _; rw [List.length_map]
    omega
  have hil : n.is.length = 0 := by rw [hik]; rfl
  obtain ⟨_, c0, c1, c2, c3⟩ := HC.out W (Below.refl _ _)
  have hcell : n.cell = .agg #[.bool n.leaf, .slice n.kq n.ks.length n.kc, .slice n.vq n.vs.length n.vc, .slice n.iq n.is.length n.ic] := rfl
  have HPUT : Hid (∀ w', Below W.heap.size W w' → Calls Tryz.prog 110 #[.agg #[.bool n.leaf, .slice n.kq n.ks.length n.kc, .slice n.vq n.vs.length n.vc, .slice n.iq n.is.length n.ic]] w' (PutN w' n.s)) := Lib.hid fun w' hb => ndPut_any (HOK.out.below hb) hc
  rw [hcell]
  rw [hlf, hil] at HPUT HC hW ⊢
  rw [hlf] at c0
  rw [hil] at c3
  obtain ⟨vm, hvm2⟩ : ∃ m, m = n.vs.length := ⟨_, rfl⟩
  have HVM := Lib.hid hvm2
  obtain ⟨km, hkm⟩ : ∃ m, m = n.ks.length := ⟨_, rfl⟩
  rw [← hvm2, ← hkm] at HPUT HC hW ⊢
  rw [← hkm] at c1
  rw [← hvm2] at c2 hvm
  clear h hBw hcb hlo hll hB hX ho hlf hik hp hr hc hpl hbw hws hcc hcell hil hvm2 hkm
  go_enter Tryz.func101, Tryz.ntmps101
  go_wp2_with fail
  rw [← hW]
  replace hW := Lib.hid hW
  go_loopw [6, 15] (fun e i wr => e = .int .i64 0 ∧ i = .int .i64 0 ∧ W = wr) (fun _ _ _ => 0)
  case atStart => exact ⟨rfl, rfl, rfl⟩
  case round =>
    obtain ⟨rfl, rfl, rfl⟩ := hrel
    go_wp2
    go_loopw [6, 46] (fun e i wr => e = .int .i64 0 ∧ ∃ j : Nat, i = .int .i64 j ∧ j ≤ vm ∧ Below W.heap.size W wr) (fun _ i _ => vm - (intOf i).toNat)
    case atStart => exact ⟨rfl, 0, rfl, by omega, Below.refl _ _⟩
    case round =>
      obtain ⟨rfl, j, rfl, hj, hb⟩ := hrel
      have HBR := Lib.hid hb
      obtain ⟨_, c0, c1, c2, c3⟩ := HC.out _ hb
      have HOR := Lib.hid (HOK.out.below hb)
      clear hb
      by_cases hlt : j < vm
      · obtain ⟨x, hx⟩ : ∃ x, n.vs[j]? = some x := ⟨_, List.getElem?_eq_getElem (by have := HVM.out; omega)⟩
        obtain ⟨b, o, hq, hbl, v0, v1, v2⟩ := HOR.out.vl.at hx
        have hpx : ¬ x.p = -1 := HP.out x (List.mem_of_getElem? hx)
        have v1' := HOR.out.v1
        have v2' := HOR.out.v2
        have hpb : (x.p == -1) = false := by rw [beq_eq_false_iff_ne]; exact hpx
        have HB2 : Hid (Below W.heap.size W (wr.alloc (.cells #[.slice x.q x.l.length x.c, .int .i64 x.g, .int .i64 x.p] 89))) := Lib.hid (HBR.out.trans ((sbox1 _ _).mono HBR.out.size))
        have hj2 : (j : Int) < (vm : Int) := by omega
        rw [hq] at c2
        clear hx hpx v1' v2'
        go_wp2
        exact ⟨⟨rfl, j + 1, by go_num, by omega, HB2.out⟩, by simp [intOf]; omega⟩
      · have HPU := Lib.hid (HPUT.out _ HBR.out)
        go_wp2_with fail
        refine HPU.out.mono ?_
        rintro e w5 (⟨hnr, _⟩ | ⟨_, g, kk, cc, rfl, hkk, hown, hb5⟩)
        · exact absurd HR.out hnr
        obtain ⟨_, c0, c1, c2, c3⟩ := HC.out _ (HBR.out.trans (hb5.mono HBR.out.size))
        obtain ⟨l1, l2, l3, l4⟩ := HLA.out _ (HBR.out.trans (hb5.mono HBR.out.size))
        obtain ⟨_, _, hv, hkc, hcm, _, _⟩ := hown.form hkk
        cases hv
        have HLY := Lib.hid (trLay_ok l1 (Nat.le_trans HBB.out l4.size) l2 l3 HLL.out HB.out HX.out 2 (GBytes.own hown hkk) hkk hkc hcm (by have := HPL.out; omega))
        have HL4 := Lib.hid (l4.mono HBB.out)
        clear hown hb5 l1 l2 l3 l4 hkk hkc hcm
        go_wp2_with fail
        refine HLY.out.mono ?_
        rintro e w6 ⟨rfl, hcb6, hla6, hb6⟩
        go_wp2
        go_ret2
        exact ⟨rfl, hcb6, hla6, HL4.out.trans hb6⟩
end

end Go.Proofs.YtfpdcfomfikkiaaGreatDoor

