/-
  tree: the nodes of a tree whose first node is none; of the empty tree.
  A range over a function, for the walks: the statement, a round, the way out; in plain form.
  slices.Sorted(maps.Keys(m)) of a map without keys.
-/
import Derived.Test.YtngnmakeaniapaaGreatDoorH28
import Derived.Deep.RegionHeld3
import Derived.RangeFuncFrom
set_option linter.unusedVariables false
set_option linter.unusedSimpArgs false
set_option maxRecDepth 100000
namespace Go.Proofs.YtngnmakeaniapaaGreatDoor
open Go.RowKit Go.Shelf

section
variable {w : World} {B P pd sm : Nat} {X : PG} {seen : Int → Bool}

/-- What nodes has captured. -/
structure NCap (w : World) (P sm br bl bn : Nat) (root : Int) (nv : Value) : Prop where
  r : ∃ t, w.heap[br]? = some (.cells #[.int .i64 root] t (0, 0))
  l : ∃ t, w.heap[bl]? = some (.cells #[.pointer (some ⟨P, 0, none⟩), .map (some sm)] t (0, 0))
  n : ∃ t, w.heap[bn]? = some (.cells #[nv] t (0, 0))
theorem NCap.low {w w' : World} {P sm br bl bn : Nat} {root : Int} {nv : Value} (h : NCap w P sm br bl bn root nv) (hb : Below w.heap.size w w') : NCap w' P sm br bl bn root nv := by
  obtain ⟨⟨t1, h1⟩, ⟨t2, h2⟩, ⟨t3, h3⟩⟩ := h
  exact ⟨⟨t1, by rw [hb.block _ (Array.getElem?_eq_some_iff.1 h1).1]; exact h1⟩, ⟨t2, by rw [hb.block _ (Array.getElem?_eq_some_iff.1 h2).1]; exact h2⟩, ⟨t3, by rw [hb.block _ (Array.getElem?_eq_some_iff.1 h3).1]; exact h3⟩⟩
theorem NCap.cells {w : World} {P sm br bl bn : Nat} {root : Int} {nv : Value} (h : NCap w P sm br bl bn root nv) :
    w.cell? ⟨br, 0, none⟩ = some (.int .i64 root) ∧ w.cell? ⟨bl, 0, none⟩ = some (.pointer (some ⟨P, 0, none⟩)) ∧ w.cell? ⟨bl, 1, none⟩ = some (.map (some sm)) ∧ w.cell? ⟨bn, 0, none⟩ = some nv := by
  obtain ⟨⟨t1, h1⟩, ⟨t2, h2⟩, ⟨t3, h3⟩⟩ := h
  exact ⟨(Joins.cell_of_block h1 0).trans rfl, (Joins.cell_of_block h2 0).trans rfl, (Joins.cell_of_block h2 1).trans rfl, (Joins.cell_of_block h3 0).trans rfl⟩

set_option maxHeartbeats 1600000 in
/-- The empty tree has no nodes. -/
theorem nodes1Z_any {br bl bn : Nat} {nv : Value} (hc : NCap w P sm br bl bn 0 nv) (l : Nat) :
    Calls Tryz.prog 122 #[.func (.yield l) #[] #[], .pointer (some ⟨br, 0, none⟩), .pointer (some ⟨bl, 0, none⟩), .pointer (some ⟨bn, 0, none⟩)] w fun e w' => (∃ v, e = .returned v) ∧ Below w.heap.size w w' := by
  have hb := sbox2 w (.cells #[.func (.yield l) #[] #[]] 201) (.cells #[.int .i64 0] 3)
  obtain ⟨y1, y2, y3, y4⟩ := (hc.low hb).cells
  have HB := Lib.hid hb
  clear hc hb
  go_enter Tryz.func122, Tryz.ntmps122
  go_wp2
  go_end0
  exact ⟨⟨_, rfl⟩, HB.out⟩

set_option maxHeartbeats 3200000 in
theorem nodes1W_any (h : LookAt w B P pd sm X seen) (hBw : B ≤ w.heap.size) {root : Int} (h0 : root ≠ 0) (hno : ∀ s, ¬ NodeAt X seen root 1 Sp.zero.s s) {br bl bn l : Nat} {nv : Value} (hc : NCap w P sm br bl bn root nv) {K : World → Prop} (hKc : ∀ w', K w' → NCap w' P sm br bl bn root nv)
    (hR : ∀ W seen', LookAt W B P pd sm X seen' → LStep sm w W → YieldAt Fence.wide 2 Tryz.prog l #[Nd.zero.cell, .int .i64 18] W fun e W' => e = .returned (.bool false) ∧ K W') :
    Calls Tryz.prog 122 #[.func (.yield l) #[] #[], .pointer (some ⟨br, 0, none⟩), .pointer (some ⟨bl, 0, none⟩), .pointer (some ⟨bn, 0, none⟩)] w fun e w' => (∃ v, e = .returned v) ∧ K w' := by
  obtain ⟨W, hW⟩ : ∃ W, W = (w.alloc (.cells #[.func (.yield l) #[] #[]] 201)).alloc (.cells #[.int .i64 0] 3) := ⟨_, rfl⟩
  have hbw : Below w.heap.size w W := by rw [hW]; exact sbox2 _ _ _
  obtain ⟨b0, b1, _, hws⟩ := boxes w #[.func (.yield l) #[] #[]] #[.int .i64 0] 201 3
  rw [← hW] at b0 b1 hws
  have HKN : Hid (∀ w', Below W.heap.size W w' → w'.cell? ⟨br, 0, none⟩ = some (.int .i64 root) ∧ w'.cell? ⟨bl, 0, none⟩ = some (.pointer (some ⟨P, 0, none⟩)) ∧ w'.cell? ⟨bl, 1, none⟩ = some (.map (some sm)) ∧ w'.cell? ⟨bn, 0, none⟩ = some nv) := Lib.hid fun w' hb => (((hc.low hbw).low hb).cells)
  have HBL : Hid (∀ w', Below W.heap.size W w' → Calls Tryz.prog 124 #[.agg #[.pointer (some ⟨P, 0, none⟩), .map (some sm)], .agg #[.int .i64 root, .int .i64 1, .slice none 0 0, .slice none 0 0, .bool false], nv, .func (.func 123) #[] #[.pointer (some ⟨w.heap.size + 1, 0, none⟩), .pointer (some ⟨w.heap.size, 0, none⟩)]] w' fun e w'' => e = .returned (.bool false) ∧ K w'') := Lib.hid fun w' hb => by
    have hbb : Below w.heap.size w w' := hbw.trans (hb.mono hbw.size)
    exact belowW_any (pc := ⟨root, 1, Sp.zero⟩) (h.below hbb) (Nat.le_trans hBw hbb.size) (Sp.zero_ok w') hno nv ((hb.block _ (by omega)).trans b0) (fun W3 seen' h3 hs3 => hR W3 seen' h3 ((h.step hbb).trans hs3))
  have HKC := Lib.hid hKc
  have HTOP := Lib.hid (fun w => top_any (w := w) root)
  have hrb : (root == 0) = false := by rw [beq_eq_false_iff_ne]; exact h0
  obtain ⟨y1, y2, y3, y4⟩ := HKN.out W (Below.refl _ _)
  clear h hBw h0 hno hc hR hbw b0 b1 hws hKc
  go_enter Tryz.func122, Tryz.ntmps122
  rw [hW] at y1 y2 y3 y4
  go_wp2_with fail
  rw [← hW]
  rw [← hW] at y1 y2 y3 y4
  replace hW := Lib.hid hW
  go_region_held3 (fun w' => w'.cell? ⟨br, 0, none⟩ = some (.int .i64 root) ∧ w'.cell? ⟨bl, 0, none⟩ = some (.pointer (some ⟨P, 0, none⟩)) ∧ w'.cell? ⟨bl, 1, none⟩ = some (.map (some sm)) ∧ w'.cell? ⟨bn, 0, none⟩ = some nv)
    (first | exact HKN.out _ (Below.refl W.heap.size W).drew | exact HKN.out _ HB1.out | exact (HKC.out _ hK).cells)
    (first
      | (go_at_call 125; refine (HTOP.out _).mono ?_; rintro e w1 ⟨rfl, hb⟩; have HB1 : Hid (Below W.heap.size W w1) := Lib.hid ((Below.refl W.heap.size W).drew.trans hb); clear hb)
      | (go_at_call 124; refine (HBL.out _ HB1.out).mono ?_; rintro e w2 ⟨rfl, hK⟩))
  go_wp2
  go_end0
  exact ⟨⟨_, rfl⟩, hK⟩

/-- nodes hands a function over that has captured a root, a look and what is needed. -/
theorem nodes_any (root : Int) (nf : Fn) (ns nr : Array Value) :
    Calls Tryz.prog 81 #[.agg #[.pointer (some ⟨P, 0, none⟩), .map (some sm)],   .int .i64 root, .func nf ns nr] w fun e w' =>
      e = .returned (.func (.func 122) #[] #[.pointer (some ⟨w.heap.size + 1, 0, none⟩), .pointer (some ⟨w.heap.size, 0, none⟩), .pointer (some ⟨w.heap.size + 2, 0, none⟩)]) ∧ NCap w' P sm (w.heap.size + 1) w.heap.size (w.heap.size + 2) root (.func nf ns nr) ∧ Below w.heap.size w w' := by
  obtain ⟨b0, b1, b2, hb, _⟩ := boxes3 w #[.pointer (some ⟨P, 0, none⟩), .map (some sm)] #[.int .i64 root] #[.func nf ns nr] 143 3 150
  have HB := Lib.hid hb
  have HC : Hid (NCap _ P sm (w.heap.size + 1) w.heap.size (w.heap.size + 2) root (.func nf ns nr)) := Lib.hid ⟨⟨_, b1⟩, ⟨_, b0⟩, ⟨_, b2⟩⟩
  clear b0 b1 b2 hb
  go_enter Tryz.func81, Tryz.ntmps81
  go_wp2
  go_ret
  exact ⟨rfl, HC.out, HB.out⟩
end

end Go.Proofs.YtngnmakeaniapaaGreatDoor

set_option linter.unusedVariables false
set_option linter.unusedSimpArgs false
set_option maxRecDepth 100000
namespace Go.Proofs.YtngnmakeaniapaaGreatDoor
open Go.RowKit Go.Shelf

/-- The record of a loop. -/
def recOf (fn : FuncId) (a : Act) (ps : Array Tmp) (assign body : Code) (w : World) (st : LoopState) (pe : Option Code) : Loop := { state := st, pending := pe, fn, tmps := a.tmps, params := ps, assign, body, defers := w.heap.size }

/-- A loop's record as it is when the loop begins. -/
structure RecIs (r : Loop) (a : Act) (ps : Array Tmp) (assign body : Code) : Prop where
  st : r.state = .ready
  pe : r.pending = none
  tm : r.tmps = a.tmps
  pa : r.params = ps
  ass : r.assign = assign
  bo : r.body = body

/-- The statement: the one call of the function that is ranged over, at yield. -/
theorem wp_range {P : Program} {g : Operand} {ps : Array Tmp} {assign body : Code} {Q : Exit → Act → World → Prop} {a : Act} {w : World} {gf : Nat} {lb : Array Value}
    (hg : a.eval g = .func (.func gf) #[] lb) (eg : ∀ args w, (callFunc gf args).run P w = .ok (.enter gf args) w)
    (h : ∀ r W, RecIs r a ps assign body → W.heap[w.heap.size + 1]? = some (.loop r) → W.heap[w.heap.size]? = some (.deferred (some [])) → Below w.heap.size w W →
      Calls P gf (#[.func (.yield (w.heap.size + 1)) #[] #[]] ++ lb) W (rangePost Fence.wide 3 P (w.heap.size + 1) Q { a with defers := { target := .collected w.heap.size, args := #[] } :: a.defers })) :
    (Code.rangeFunc g ps assign body).wp P Q a w := by
  refine (wpIn_wide (n := 3)).1 (wpIn_rangeFunc ?_)
  intro fn hfn
  obtain ⟨W1, hW1⟩ : ∃ W1, W1 = (w.alloc (.deferred (some []))).alloc (.loop (recOf fn a ps assign body w .ready none)) := ⟨_, rfl⟩
  have hL1 : W1.heap[w.heap.size + 1]? = some (.loop (recOf fn a ps assign body w .ready none)) := by
    rw [hW1]; have := World.alloc_heap_new (w.alloc (.deferred (some []))) (.loop (recOf fn a ps assign body w .ready none)); rwa [World.size_alloc] at this
  have hK1 : W1.heap[w.heap.size]? = some (.deferred (some [])) := by
    rw [hW1]; exact (Below.heap_alloc _ _ _ (by simp)).trans (World.alloc_heap_new w _)
  have hb1 : Below w.heap.size w W1 := by
    rw [hW1]; exact sbox2 _ _ _
  refine ⟨w.heap.size + 1, [{ target := .collected w.heap.size, args := #[] }], W1, { target := .fn (.func gf) lb, args := #[.func (.yield (w.heap.size + 1)) #[] #[]] }, W1, gf,
    #[.func (.yield (w.heap.size + 1)) #[] #[]] ++ lb, W1, ?_, ?_, ?_, ?_, (fun _ => by decide), ?_⟩
  · rw [hW1]; exact run_enterLoop_outer _ _ _ _ _
  · simp only [resolve, hg]
    simp [go_sem]
  · intro f' hf'; trivial
  · simp [invoke, go_sem, eg]
  · exact callsIn_wide.2 (h _ W1 ⟨rfl, rfl, rfl, rfl, rfl, rfl⟩ hL1 hK1 hb1)

/-- A round. -/
theorem yield_round {P : Program} {l : Nat} {r : Loop} {args : Array Value} {W : World} {R : Ending → World → Prop} (hl : W.heap[l]? = some (.loop r)) (hs : args.size = r.params.size)
    (h : r.assign.wpIn (Fence.wide.inRound l) 2 P (Exit.then (fun a₁ w₁ => ∃ w₂, (Instr.beginRound l).run P w₁ = .ok () w₂ ∧ r.body.wpIn (Fence.wide.inRound l) 2 P (roundPost P l R) a₁ w₂) (fun _ _ _ => False))
      { tmps := (r.params.zip args).foldl (fun tmps (t, a) => tmps.setIfInBounds t a) r.tmps, defers := [] } W) : YieldAt Fence.wide 2 P l args W R :=
  ⟨_, _, _, _, run_yield hl hs, roundIn_of_wpIn trivial h⟩

/-- The way out of a function behind such a loop. -/
theorem leaves_mark {P : Program} {fn : Func} {tmps : Array Value} {R : Ending → World → Prop} {D : Nat} {w : World} (hD : w.heap[D]? = some (.deferred (some [])))
    (h : LeavesIn Fence.wide 3 P fn tmps R [] .returning (w.putObj D (.deferred none))) : LeavesInM Fence.wide 3 P fn tmps R [{ target := .collected D, args := #[] }] .returning w :=
  ⟨by simp, .inl ⟨D, _, rfl, run_takeDeferred hD, h⟩⟩

theorem putObj_below {w : World} {B l : Nat} (hB : B ≤ l) (o : Obj) : Below B w (w.putObj l o) := ⟨rfl, rfl, rfl, by simp, fun k hk => World.putObj_heap_other (by omega)⟩

/-- Two results in boxes are stored; the mark is come to. -/
theorem out_two {w : World} {B D a b : Nat} {x0 y0 x y : Value} {t1 t2 : TypeId} (h1 : w.heap[a]? = some (.cells #[x0] t1 (0, 0))) (h2 : w.heap[b]? = some (.cells #[y0] t2 (0, 0))) (hD : w.heap[D]? = some (.deferred (some []))) (hab : a ≠ b) (ha : B ≤ a) (hb : B ≤ b) (hd : B ≤ D) :
    ((w.setCell ⟨a, 0, none⟩ x).setCell ⟨b, 0, none⟩ y).heap[D]? = some (.deferred (some [])) ∧
    (((w.setCell ⟨a, 0, none⟩ x).setCell ⟨b, 0, none⟩ y).putObj D (.deferred none)).cell? ⟨a, 0, none⟩ = some x ∧
    (((w.setCell ⟨a, 0, none⟩ x).setCell ⟨b, 0, none⟩ y).putObj D (.deferred none)).cell? ⟨b, 0, none⟩ = some y ∧
    Below B w (((w.setCell ⟨a, 0, none⟩ x).setCell ⟨b, 0, none⟩ y).putObj D (.deferred none)) := by
  have nda : D ≠ a := fun e => by rw [e] at hD; rw [h1] at hD; cases hD
  have ndb : D ≠ b := fun e => by rw [e] at hD; rw [h2] at hD; cases hD
  have s1 : (w.setCell ⟨a, 0, none⟩ x).heap[a]? = some (.cells #[x] t1 (0, 0)) := by rw [heap_setCell_same w a 0 _ _ _ h1]; rfl
  have s2 : (w.setCell ⟨a, 0, none⟩ x).heap[b]? = some (.cells #[y0] t2 (0, 0)) := (Below.heap_setCell w ⟨a, 0, none⟩ x b (Ne.symm hab)).trans h2
  have u1 : ((w.setCell ⟨a, 0, none⟩ x).setCell ⟨b, 0, none⟩ y).heap[a]? = some (.cells #[x] t1 (0, 0)) := (Below.heap_setCell _ ⟨b, 0, none⟩ y a hab).trans s1
  have u2 : ((w.setCell ⟨a, 0, none⟩ x).setCell ⟨b, 0, none⟩ y).heap[b]? = some (.cells #[y] t2 (0, 0)) := by rw [heap_setCell_same _ b 0 _ _ _ s2]; rfl
  have v1 : (((w.setCell ⟨a, 0, none⟩ x).setCell ⟨b, 0, none⟩ y).putObj D (.deferred none)).heap[a]? = some (.cells #[x] t1 (0, 0)) := (World.putObj_heap_other (Ne.symm nda)).trans u1
  have v2 : (((w.setCell ⟨a, 0, none⟩ x).setCell ⟨b, 0, none⟩ y).putObj D (.deferred none)).heap[b]? = some (.cells #[y] t2 (0, 0)) := (World.putObj_heap_other (Ne.symm ndb)).trans u2
  refine ⟨(Below.heap_setCell _ ⟨b, 0, none⟩ y D ndb).trans ((Below.heap_setCell w ⟨a, 0, none⟩ x D nda).trans hD), (Joins.cell_of_block v1 0).trans rfl, (Joins.cell_of_block v2 0).trans rfl, ?_⟩
  exact (((Below.refl B w).setCell (p := ⟨a, 0, none⟩) ha x).setCell (p := ⟨b, 0, none⟩) hb y).trans (putObj_below hd _)

/-- In a round two results in boxes are stored, and it is left. -/
theorem round_two {w : World} {B D a b : Nat} {x0 y0 x y : Value} {t1 t2 : TypeId} {r r' : Loop} (h1 : w.heap[a]? = some (.cells #[x0] t1 (0, 0))) (h2 : w.heap[b]? = some (.cells #[y0] t2 (0, 0))) (hD : w.heap[D]? = some (.loop r)) (hab : a ≠ b) (ha : B ≤ a) (hb : B ≤ b) (hd : B ≤ D) :
    ((w.setCell ⟨a, 0, none⟩ x).setCell ⟨b, 0, none⟩ y).heap[D]? = some (.loop r) ∧
    (((w.setCell ⟨a, 0, none⟩ x).setCell ⟨b, 0, none⟩ y).putObj D (.loop r')).heap[a]? = some (.cells #[x] t1 (0, 0)) ∧
    (((w.setCell ⟨a, 0, none⟩ x).setCell ⟨b, 0, none⟩ y).putObj D (.loop r')).heap[b]? = some (.cells #[y] t2 (0, 0)) ∧
    (((w.setCell ⟨a, 0, none⟩ x).setCell ⟨b, 0, none⟩ y).putObj D (.loop r')).heap[D]? = some (.loop r') ∧
    (∀ i, i ≠ a → i ≠ b → i ≠ D → (((w.setCell ⟨a, 0, none⟩ x).setCell ⟨b, 0, none⟩ y).putObj D (.loop r')).heap[i]? = w.heap[i]?) ∧
    Below B w (((w.setCell ⟨a, 0, none⟩ x).setCell ⟨b, 0, none⟩ y).putObj D (.loop r')) := by
  have nda : D ≠ a := fun e => by rw [e] at hD; rw [h1] at hD; cases hD
  have ndb : D ≠ b := fun e => by rw [e] at hD; rw [h2] at hD; cases hD
  have s1 : (w.setCell ⟨a, 0, none⟩ x).heap[a]? = some (.cells #[x] t1 (0, 0)) := by rw [heap_setCell_same w a 0 _ _ _ h1]; rfl
  have s2 : (w.setCell ⟨a, 0, none⟩ x).heap[b]? = some (.cells #[y0] t2 (0, 0)) := (Below.heap_setCell w ⟨a, 0, none⟩ x b (Ne.symm hab)).trans h2
  have u1 : ((w.setCell ⟨a, 0, none⟩ x).setCell ⟨b, 0, none⟩ y).heap[a]? = some (.cells #[x] t1 (0, 0)) := (Below.heap_setCell _ ⟨b, 0, none⟩ y a hab).trans s1
  have u2 : ((w.setCell ⟨a, 0, none⟩ x).setCell ⟨b, 0, none⟩ y).heap[b]? = some (.cells #[y] t2 (0, 0)) := by rw [heap_setCell_same _ b 0 _ _ _ s2]; rfl
  have u3 : ((w.setCell ⟨a, 0, none⟩ x).setCell ⟨b, 0, none⟩ y).heap[D]? = some (.loop r) := (Below.heap_setCell _ ⟨b, 0, none⟩ y D ndb).trans ((Below.heap_setCell w ⟨a, 0, none⟩ x D nda).trans hD)
  refine ⟨u3, (World.putObj_heap_other (Ne.symm nda)).trans u1, (World.putObj_heap_other (Ne.symm ndb)).trans u2, World.putObj_heap_same (Array.getElem?_eq_some_iff.1 u3).1, fun i i1 i2 i3 => (World.putObj_heap_other i3).trans ((Below.heap_setCell _ ⟨b, 0, none⟩ y i i2).trans (Below.heap_setCell w ⟨a, 0, none⟩ x i i1)), ?_⟩
  exact (((Below.refl B w).setCell (p := ⟨a, 0, none⟩) ha x).setCell (p := ⟨b, 0, none⟩) hb y).trans (putObj_below hd _)
theorem NCap.same {w w' : World} {P sm br bl bn : Nat} {root : Int} {nv : Value} (h : NCap w P sm br bl bn root nv) (hs : ∀ i o, i = br ∨ i = bl ∨ i = bn → w.heap[i]? = some o → w'.heap[i]? = some o) : NCap w' P sm br bl bn root nv := by
  obtain ⟨⟨t1, h1⟩, ⟨t2, h2⟩, ⟨t3, h3⟩⟩ := h
  exact ⟨⟨t1, hs _ _ (.inl rfl) h1⟩, ⟨t2, hs _ _ (.inr (.inl rfl)) h2⟩, ⟨t3, hs _ _ (.inr (.inr rfl)) h3⟩⟩
theorem NCap.ne {w : World} {P sm br bl bn : Nat} {root : Int} {nv : Value} (h : NCap w P sm br bl bn root nv) {D : Nat} {r : Loop} (hD : w.heap[D]? = some (.loop r)) : br ≠ D ∧ bl ≠ D ∧ bn ≠ D := by
  obtain ⟨⟨t1, h1⟩, ⟨t2, h2⟩, ⟨t3, h3⟩⟩ := h
  exact ⟨(fun e => by rw [e, hD] at h1; cases h1), (fun e => by rw [e, hD] at h2; cases h2), (fun e => by rw [e, hD] at h3; cases h3)⟩

/-- A round has left the function: the loop's record is done, the mark is come to. -/
theorem out_left {w : World} {B D a b : Nat} {x y : Value} {t1 t2 : TypeId} {r : Loop} {o : Obj} (h1 : w.heap[a]? = some (.cells #[x] t1 (0, 0))) (h2 : w.heap[b]? = some (.cells #[y] t2 (0, 0))) (hL : w.heap[D + 1]? = some (.loop r)) (hD : w.heap[D]? = some (.deferred (some []))) (hd : B ≤ D) :
    (w.putObj (D + 1) o).heap[D]? = some (.deferred (some [])) ∧
    ((w.putObj (D + 1) o).putObj D (.deferred none)).cell? ⟨a, 0, none⟩ = some x ∧
    ((w.putObj (D + 1) o).putObj D (.deferred none)).cell? ⟨b, 0, none⟩ = some y ∧
    Below B w ((w.putObj (D + 1) o).putObj D (.deferred none)) := by
  have nda : a ≠ D := fun e => by rw [e] at h1; rw [h1] at hD; cases hD
  have ndb : b ≠ D := fun e => by rw [e] at h2; rw [h2] at hD; cases hD
  have nla : a ≠ D + 1 := fun e => by rw [e] at h1; rw [h1] at hL; cases hL
  have nlb : b ≠ D + 1 := fun e => by rw [e] at h2; rw [h2] at hL; cases hL
  have v1 : ((w.putObj (D + 1) o).putObj D (.deferred none)).heap[a]? = some (.cells #[x] t1 (0, 0)) := (World.putObj_heap_other nda).trans ((World.putObj_heap_other nla).trans h1)
  have v2 : ((w.putObj (D + 1) o).putObj D (.deferred none)).heap[b]? = some (.cells #[y] t2 (0, 0)) := (World.putObj_heap_other ndb).trans ((World.putObj_heap_other nlb).trans h2)
  exact ⟨(World.putObj_heap_other (by omega)).trans hD, (Joins.cell_of_block v1 0).trans rfl, (Joins.cell_of_block v2 0).trans rfl, (putObj_below (by omega) _).trans (putObj_below hd _)⟩

end Go.Proofs.YtngnmakeaniapaaGreatDoor

set_option linter.unusedVariables false
set_option linter.unusedSimpArgs false
set_option maxRecDepth 100000
namespace Go.Proofs.YtngnmakeaniapaaGreatDoor
open Go.RowKit Go.Shelf

section
variable {P : Program} {w w' : World} {ops : Array Oper} {rest : List Oper} {o : Oper} {a : Act} {Q : Exit → Act → World → Prop} {b r : Nat} {f : Int → Option Value} {left : Int → Bool}
/-- The step, for a map without keys. -/
theorem tr_nextz (hg : o.guard = none) (it : Operand) (hop : o.op = Op.next it false) (hit : a.eval it = .pointer (some ⟨r, 0, none⟩)) (h : Rng w b r f left) (hf : ∀ k, f k = none)
    (hDone : wpList P ops Q rest (a.put o.dst (.tuple #[.bool false])) w) :
    wpList P ops Q (o :: rest) a w := by
  refine wpList_plain hg fun K' hK' => ?_
  unfold Oper.wp
  rcases h.next (P := P) o.type with ⟨hl, hrun⟩ | ⟨k, v, w', hl, hfk, hrun, hrg, hlt, hgr, hsz, hen⟩
  · simp [execOp, hop, hit, hrun, Result.andThen]
    exact hK' _ _ hDone
  · rw [hf k] at hfk; cases hfk
end

section
variable {w : World}

set_option maxHeartbeats 1600000 in
theorem keys1Z_any {bm sm : Nat} {t : TypeId} {fr : Nat × Nat} (hb : w.heap[bm]? = some (.cells #[.map (some sm)] t fr)) (hm : MapSt w sm (setOf fun _ => false)) (l : Nat) :
    Calls Tryz.prog 129 #[.func (.yield l) #[] #[], .pointer (some ⟨bm, 0, none⟩)] w fun e w' => (∃ v, e = .returned v) ∧ Below w.heap.size w w' := by
  have c0 : w.cell? ⟨bm, 0, none⟩ = some (.map (some sm)) := (Joins.cell_of_block hb 0).trans rfl
  have HM := Lib.hid hm
  clear hb hm
  go_enter Tryz.func129, Tryz.ntmps129
  go_wp2_with (at_range; refine st_range rfl _ _ 3 162 rfl Tryz.underlying135 rfl HM.out ?_; intro w0 hr0 hb0 hs0)
  have HR := Lib.hid hr0
  have HB := Lib.hid hb0
  clear hr0 hb0 hs0
  go_frame
  go_loopw [3] (fun _ wr => wr = w0) (fun _ _ => 0)
  case atStart => rfl
  case round =>
    subst hrel
    go_wp2_with (at_next; refine tr_nextz rfl _ rfl rfl HR.out (fun k => by simp [setOf]) ?_)
    go_wp2
    go_end0
    exact ⟨⟨_, rfl⟩, HB.out⟩

theorem keys_any (m : Option Nat) : Calls Tryz.prog 85 #[.map m] w fun e w' => e = .returned (.func (.func 129) #[] #[.pointer (some ⟨w.heap.size, 0, none⟩)]) ∧ w' = w.alloc (.cells #[.map m] 135) := by
  go_enter Tryz.func85, Tryz.ntmps85
  go_wp2
  go_ret
  exact ⟨rfl, rfl⟩

set_option maxHeartbeats 1600000 in
theorem appendSeqZ_any {bm sm : Nat} {t : TypeId} {fr : Nat × Nat} (hb : w.heap[bm]? = some (.cells #[.map (some sm)] t fr)) (hm : MapSt w sm (setOf fun _ => false)) :
    Calls Tryz.prog 155 #[.slice none 0 0, .func (.func 129) #[] #[.pointer (some ⟨bm, 0, none⟩)]] w fun e w' => e = .returned (.slice none 0 0) ∧ Below w.heap.size w w' := by
  have hbw := sbox1 w (.cells #[.slice none 0 0] 38)
  have hnew := heap_alloc_new w (.cells #[.slice none 0 0] 38)
  have hs1 : (w.alloc (.cells #[.slice none 0 0] 38)).heap.size = w.heap.size + 1 := by simp
  refine (callsIn_wide (n := 3)).1 (callsIn_of_wp_marks Tryz.func155 rfl trivial (wpIn_wide.2 ?_))
  simp only [Tryz.ntmps155, List.size_toArray, List.length_cons, List.length_nil, Nat.reduceAdd, Nat.reduceSub, Array.replicate_succ, Array.replicate_zero, List.push_toArray, List.append_toArray, List.nil_append, List.cons_append]
  go_wp2_with fail
  generalize w.alloc (.cells #[.slice none 0 0] 38) = W at hbw hnew hs1 ⊢
  refine wp_range rfl (enters_of Tryz.func129 (by kernel_rfl) rfl) ?_
  intro r W7 hri hrec hdef hb7
  have HRI := Lib.hid hri
  have h7 : Below w.heap.size w W7 := hbw.trans (hb7.mono hbw.size)
  refine (keys1Z_any (w := W7) (bm := bm) (sm := sm) (by rw [h7.block _ (Array.getElem?_eq_some_iff.1 hb).1]; exact hb) (hm.block (h7.block _ hm.lt)) _).mono ?_
  rintro e w8 ⟨⟨v, rfl⟩, hb8⟩
  have lt : ∀ {i : Nat} {o : Obj}, W7.heap[i]? = some o → w8.heap[i]? = some o := fun {i o} h => by rw [hb8.block i (Array.getElem?_eq_some_iff.1 h).1]; exact h
  refine ⟨r.pending, _, run_endLoop (lt hrec) (by rw [HRI.out.st]; intro h; cases h), ?_⟩
  obtain ⟨w9, hw9⟩ : ∃ w9, w9 = w8.putObj (W.heap.size + 1) (.loop { r with state := .exhausted }) := ⟨_, rfl⟩
  rw [← hw9, HRI.out.pe]
  have hq : w9.heap[w.heap.size]? = some (.cells #[.slice none 0 0] 38 (0, 0)) := by
    rw [hw9, World.putObj_heap_other (by omega)]
    exact lt (by rw [hb7.block _ (by omega)]; exact hnew)
  have hd : w9.heap[W.heap.size]? = some (.deferred (some [])) := by
    rw [hw9, World.putObj_heap_other (by omega)]
    exact lt hdef
  have h9 : Below w.heap.size w w9 := by rw [hw9]; exact h7.trans ((hb8.mono h7.size).trans (putObj_below (by omega) _))
  have c1 : w9.cell? ⟨w.heap.size, 0, none⟩ = some (.slice none 0 0) := (Joins.cell_of_block hq 0).trans rfl
  have HD := Lib.hid hd
  have H9 := Lib.hid (h9.trans (putObj_below (w := w9) (l := W.heap.size) (by omega) (.deferred none)))
  clear hri hrec hdef hb7 h7 hb8 lt hw9 hq hd h9 hb hm hbw hnew hs1
  dsimp only
  go_wp2
  exact leaves_mark HD.out ⟨_, results_tmp rfl _ _ _, rfl, H9.out⟩

theorem collectZ_any {bm sm : Nat} {t : TypeId} {fr : Nat × Nat} (hb : w.heap[bm]? = some (.cells #[.map (some sm)] t fr)) (hm : MapSt w sm (setOf fun _ => false)) :
    Calls Tryz.prog 127 #[.func (.func 129) #[] #[.pointer (some ⟨bm, 0, none⟩)]] w fun e w' => e = .returned (.slice none 0 0) ∧ Below w.heap.size w w' := by
  have HA := Lib.hid (appendSeqZ_any hb hm)
  clear hb hm
  go_enter Tryz.func127, Tryz.ntmps127
  go_wp2_with fail
  refine HA.out.mono ?_; rintro e w1 ⟨rfl, hb⟩
  go_wp2
  go_ret
  exact ⟨rfl, hb⟩

theorem len64Z : Calls Tryz.prog 183 #[.int .u64 0] w fun e w' => e = .returned (.int .i64 0) ∧ w = w' := by
  go_enter Tryz.func183, Tryz.ntmps183
  go_wp2
  go_ret
  exact ⟨ret_int (by decide +kernel), rfl⟩

theorem lenZ : Calls Tryz.prog 157 #[.int .u64 0] w fun e w' => e = .returned (.int .i64 0) ∧ w = w' := by
  have HL := Lib.hid (fun w => len64Z (w := w))
  go_enter Tryz.func157, Tryz.ntmps157
  go_wp2_with fail
  refine (HL.out _).mono ?_; rintro e w1 ⟨rfl, rfl⟩
  go_wp2
  go_ret
  exact ⟨rfl, rfl⟩

set_option maxHeartbeats 1600000 in
theorem insertZ : Calls Tryz.prog 173 #[.slice none 0 0, .int .i64 0, .int .i64 0] w fun e w' => (∃ v, e = .returned v) ∧ w = w' := by
  go_enter Tryz.func173, Tryz.ntmps173
  go_wp2
  go_loopw [6] (fun i wr => i = .int .i64 1 ∧ wr = w) (fun _ _ => 0)
  case atStart => exact ⟨rfl, rfl⟩
  case round =>
    obtain ⟨rfl, rfl⟩ := hrel
    go_wp2
    go_end0
    exact ⟨⟨_, rfl⟩, rfl⟩

set_option maxHeartbeats 1600000 in
theorem pdqZ : Calls Tryz.prog 156 #[.slice none 0 0, .int .i64 0, .int .i64 0, .int .i64 0] w fun e w' => (∃ v, e = .returned v) ∧ w = w' := by
  have HI := Lib.hid (fun w => insertZ (w := w))
  go_enter Tryz.func156, Tryz.ntmps156
  go_wp2
  go_loopw [1, 2] (fun a b wr => a = .int .i64 0 ∧ b = .int .i64 0 ∧ wr = w) (fun _ _ _ => 0)
  case atStart => exact ⟨rfl, rfl, rfl⟩
  case round =>
    obtain ⟨rfl, rfl, rfl⟩ := hrel
    go_wp2_with fail
    refine (HI.out _).mono ?_; rintro e w1 ⟨⟨v, rfl⟩, rfl⟩
    go_wp2
    refine bodyPost_ret (results_none rfl _ _ _) rfl ?_
    exact ⟨⟨_, rfl⟩, rfl⟩

theorem sortZ : Calls Tryz.prog 128 #[.slice none 0 0] w fun e w' => (∃ v, e = .returned v) ∧ w = w' := by
  have HL := Lib.hid (fun w => lenZ (w := w))
  have HP := Lib.hid (fun w => pdqZ (w := w))
  go_enter Tryz.func128, Tryz.ntmps128
  go_wp2_with fail
  refine (HL.out _).mono ?_; rintro e w1 ⟨rfl, rfl⟩
  go_wp2_with fail
  refine (HP.out _).mono ?_; rintro e w1 ⟨⟨v, rfl⟩, rfl⟩
  go_wp2
  go_end0
  exact ⟨⟨_, rfl⟩, rfl⟩

theorem sortedZ_any {bm sm : Nat} {t : TypeId} {fr : Nat × Nat} (hb : w.heap[bm]? = some (.cells #[.map (some sm)] t fr)) (hm : MapSt w sm (setOf fun _ => false)) :
    Calls Tryz.prog 84 #[.func (.func 129) #[] #[.pointer (some ⟨bm, 0, none⟩)]] w fun e w' => e = .returned (.slice none 0 0) ∧ Below w.heap.size w w' := by
  have HC := Lib.hid (collectZ_any hb hm)
  have HS := Lib.hid (fun w => sortZ (w := w))
  clear hb hm
  go_enter Tryz.func84, Tryz.ntmps84
  go_wp2_with fail
  refine HC.out.mono ?_; rintro e w1 ⟨rfl, hb⟩
  have HB := Lib.hid hb
  clear hb
  go_wp2_with fail
  refine (HS.out _).mono ?_; rintro e w2 ⟨⟨v, rfl⟩, rfl⟩
  go_wp2
  go_ret
  exact ⟨rfl, HB.out⟩

end

end Go.Proofs.YtngnmakeaniapaaGreatDoor

