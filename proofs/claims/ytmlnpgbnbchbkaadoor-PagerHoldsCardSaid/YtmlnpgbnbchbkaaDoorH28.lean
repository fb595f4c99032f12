/-
  cobweblaw10: a state's copy.
  The parts of a meta; what stays of a pager that no call made.
-/
import Derived.Test.YtmlnpgbnbchbkaaDoorH27
import Derived.Test.YtmlnpgbnbchbkaaDoorH17
import Derived.Deep.RegionHeld3
import Derived.LoopTactic
set_option linter.unusedVariables false
set_option maxRecDepth 100000
namespace Go.Proofs.YtmlnpgbnbchbkaaDoor
open Go.RowKit

/-- A store of a row, as a step of a region that draws its order. -/
theorem step_store_row {P : Program} {ops : Array Oper} {o : Oper} {a : Act} {w : World} {K : Act → World → Prop} {Q : Exit → Act → World → Prop} {E : Prop} (hgd : o.guard = none) (ty : TypeId) (x y : Operand) (ho : o.op = .store ty x y)
    (g : Nat) (cells : Array Value) (hx : a.eval x = .pointer (some ⟨g, 0, none⟩)) (hy : a.eval y = .agg cells)
    (t : TypeId) (old : Array Value) (hg : w.heap[g]? = some (.cells old t (0, 0))) (hi : (P.info? ty).map (·.size) = some cells.size)
    (hold : old.size = cells.size) (h1 : cells.all (·.oneCell') = true)
    (h : K (a.put o.dst undef) (w.setRow g cells)) : if Region.wanted o (yielded ops a.tmps) = true then Oper.wp P o a w K Q else E := by
  have hw : Region.wanted o (yielded ops a.tmps) = true := by simp [Region.wanted, hgd]
  rw [if_pos hw]
  exact wp_store_row ty x y ho g cells hx hy t old hg hi hold h1 h

theorem copy_leaf {w W cur : World} {v1 v2 : Value} {l : List Int} {m : List ByteArray} (hB : Below w.heap.size w W) (hS : W.heap.size = w.heap.size + 2) (hb : Below W.heap.size W cur) {old cs : Array Value} {ty : TypeId} (hy : cur.heap[w.heap.size + 1]? = some (.cells old ty (0, 0)))
    (h1 : OwnI cur W.heap.size v1 l) (h2 : OwnS cur W.heap.size v2 m) :
    Below w.heap.size w (cur.setRow (w.heap.size + 1) cs) ∧ OwnI (cur.setRow (w.heap.size + 1) cs) w.heap.size v1 l ∧ OwnS (cur.setRow (w.heap.size + 1) cs) w.heap.size v2 m ∧
      (cur.setRow (w.heap.size + 1) cs).heap[w.heap.size + 1]? = some (.cells cs ty (0, 0)) ∧ ∀ j : Nat, (cur.setRow (w.heap.size + 1) cs).cell? ⟨w.heap.size, j, none⟩ = cur.cell? ⟨w.heap.size, j, none⟩ := by
  have hg : cur.grownBy (cur.setRow (w.heap.size + 1) cs) (some (w.heap.size + 1)) := ⟨rfl, rfl, rfl, by simp, fun k _ hk => setRow_other _ _ _ _ fun e => hk (by rw [e])⟩
  have hne : ∀ {v : Value}, (∀ k, v.ownBlock = some k → W.heap.size ≤ k) → v.ownBlock = none ∨ v.ownBlock ≠ some (w.heap.size + 1) := fun {v} hv => by
    cases h0 : v.ownBlock with
    | none => exact .inl rfl
    | some k => exact .inr fun e => by have := hv k h0; have : k = w.heap.size + 1 := Option.some.inj e; omega
  have k1 : OwnI (cur.setRow (w.heap.size + 1) cs) W.heap.size v1 l := h1.kept hg (hne fun k hk => (World.ownsRow.lt h1 k hk).1)
  have k2 : OwnS (cur.setRow (w.heap.size + 1) cs) W.heap.size v2 m := h2.kept hg (hne fun k hk => (World.ownsRow.lt h2 k hk).1)
  refine ⟨below_setRow (hB.trans (hb.mono hB.size)) (by omega) _, World.ownsRow.mono k1 hB.size, World.ownsRow.mono k2 hB.size, setRow_heap _ _ _ _ _ _ hy, fun j => cell_setRow_other _ _ _ _ (by show w.heap.size ≠ w.heap.size + 1; omega)⟩

set_option maxHeartbeats 3200000 in
theorem copy_any {w : World} {C : Nat} {q1 q2 : Option Addr} {n1 c1 n2 c2 : Nat} {l : List Int} {m : List ByteArray} (h1 : Lie C w (.slice q1 n1 c1) l) (h2 : LieS C w (.slice q2 n2 c2) m) (hl : l.length ≤ 1000000) (hm : m.length ≤ 1000000) (rt : Int) :
    Calls Tryd.prog 12 #[.agg #[.slice q1 n1 c1, .slice q2 n2 c2, .int .i64 rt]] w fun e w' => ∃ v1 v2, e = .returned (.agg #[v1, v2, .int .i64 rt]) ∧ OwnI w' w.heap.size v1 l ∧ OwnS w' w.heap.size v2 m ∧ Below w.heap.size w w' := by
  obtain ⟨W, hW⟩ : ∃ W, W = (w.alloc (.cells #[.slice q1 n1 c1, .slice q2 n2 c2, .int .i64 rt] 35)).alloc (.cells #[.slice none 0 0, .slice none 0 0, .int .i64 0] 35) := ⟨_, rfl⟩
  have hb : Below w.heap.size w W := by rw [hW]; exact sbox2 w _ _
  have hs : W.heap.size = w.heap.size + 2 := by rw [hW]; simp
  have hx : W.heap[w.heap.size]? = some (.cells #[.slice q1 n1 c1, .slice q2 n2 c2, .int .i64 rt] 35 (0, 0)) := by rw [hW]; exact ((sbox1 _ _).block _ (by simp)).trans (heap_alloc_new w _)
  have HBX : Hid (∀ w', Below W.heap.size W w' → w'.cell? ⟨w.heap.size, 0, none⟩ = some (.slice q1 n1 c1) ∧ w'.cell? ⟨w.heap.size, 1, none⟩ = some (.slice q2 n2 c2) ∧ w'.cell? ⟨w.heap.size, 2, none⟩ = some (.int .i64 rt)) := Lib.hid fun w' hb' => by
    have hx' : w'.heap[w.heap.size]? = _ := (hb'.block _ (Array.getElem?_eq_some_iff.1 hx).1).trans hx
    exact ⟨(Joins.cell_of_block hx' 0).trans rfl, (Joins.cell_of_block hx' 1).trans rfl, (Joins.cell_of_block hx' 2).trans rfl⟩
  have HY : Hid (∀ w', Below W.heap.size W w' → w'.heap[w.heap.size + 1]? = some (.cells #[.slice none 0 0, .slice none 0 0, .int .i64 0] 35 (0, 0))) := Lib.hid fun w' hb' => by
    have hx' : W.heap[w.heap.size + 1]? = some (.cells #[.slice none 0 0, .slice none 0 0, .int .i64 0] 35 (0, 0)) := by rw [hW]; simpa using heap_alloc_new (w.alloc (.cells #[.slice q1 n1 c1, .slice q2 n2 c2, .int .i64 rt] 35)) (.cells #[.slice none 0 0, .slice none 0 0, .int .i64 0] 35)
    exact (hb'.block _ (Array.getElem?_eq_some_iff.1 hx').1).trans hx'
  have HB := Lib.hid hb
  have HS := Lib.hid hs
  have HL1 := Lib.hid (h1.stay (Stay.below hb))
  have HL2 := Lib.hid (h2.stay (Stay.below hb))
  have HLL := Lib.hid hl
  have HLM := Lib.hid hm
  clear h1 h2 hx hb hs hl hm
  go_enter Tryd.func12, Tryd.ntmps12
  go_wp2_with fail
  rw [← hW]
  clear hW
  refine wp_region_held_drew (S := fun w' => w'.cell? ⟨w.heap.size, 0, none⟩ = some (.slice q1 n1 c1) ∧ w'.cell? ⟨w.heap.size, 1, none⟩ = some (.slice q2 n2 c2) ∧ w'.cell? ⟨w.heap.size, 2, none⟩ = some (.int .i64 rt)) (by kernel_rfl) (HBX.out _ (Below.drew (Below.refl _ _))) (fun hHeld => ?_)
  refine wpAnyH_take (i := 1) (v := ?_) rfl (by kernel_rfl) (by kernel_rfl) (by kernel_rfl) (fun _ _ _ h => h) (Or.inl ⟨by rfl, ?_⟩) (by assumption) ?_
  rotate_left
  · intro w hSw; (try dsimp only at hSw); go_simp; try with_reducible rfl
  simp only [Act.put, List.getElem_toArray, List.getElem_cons_zero, List.getElem_cons_succ, List.setIfInBounds_toArray, List.set_cons_zero, List.set_cons_succ]
  refine wpAnyH_take (i := 2) (v := ?_) rfl (by kernel_rfl) (by kernel_rfl) (by kernel_rfl) (fun _ _ _ h => h) (Or.inl ⟨by rfl, ?_⟩) (by assumption) ?_
  rotate_left
  · intro w hSw; (try dsimp only at hSw); go_simp; try with_reducible rfl
  simp only [Act.put, List.getElem_toArray, List.getElem_cons_zero, List.getElem_cons_succ, List.setIfInBounds_toArray, List.set_cons_zero, List.set_cons_succ]
  refine wpAnyH_take (i := 5) (v := ?_) rfl (by kernel_rfl) (by kernel_rfl) (by kernel_rfl) (fun _ _ _ h => h) (Or.inl ⟨by rfl, ?_⟩) (by assumption) ?_
  rotate_left
  · intro w hSw; (try dsimp only at hSw); go_simp; try with_reducible rfl
  simp only [Act.put, List.getElem_toArray, List.getElem_cons_zero, List.getElem_cons_succ, List.setIfInBounds_toArray, List.set_cons_zero, List.set_cons_succ]
  refine wpAnyH_take (i := 6) (v := ?_) rfl (by kernel_rfl) (by kernel_rfl) (by kernel_rfl) (fun _ _ _ h => h) (Or.inl ⟨by rfl, ?_⟩) (by assumption) ?_
  rotate_left
  · intro w hSw; (try dsimp only at hSw); go_simp; try with_reducible rfl
  simp only [Act.put, List.getElem_toArray, List.getElem_cons_zero, List.getElem_cons_succ, List.setIfInBounds_toArray, List.set_cons_zero, List.set_cons_succ]
  refine wpAnyH_take (i := 8) (v := ?_) rfl (by kernel_rfl) (by kernel_rfl) (by kernel_rfl) (fun _ _ _ h => h) (Or.inl ⟨by rfl, ?_⟩) (by assumption) ?_
  rotate_left
  · intro w hSw; (try dsimp only at hSw); go_simp; try with_reducible rfl
  simp only [Act.put, List.getElem_toArray, List.getElem_cons_zero, List.getElem_cons_succ, List.setIfInBounds_toArray, List.set_cons_zero, List.set_cons_succ]
  refine wpAnyH_take (i := 9) (v := ?_) rfl (by kernel_rfl) (by kernel_rfl) (by kernel_rfl) (fun _ _ _ h => h) (Or.inl ⟨by rfl, ?_⟩) (by assumption) ?_
  rotate_left
  · intro w hSw; (try dsimp only at hSw); go_simp; try with_reducible rfl
  simp only [Act.put, List.getElem_toArray, List.getElem_cons_zero, List.getElem_cons_succ, List.setIfInBounds_toArray, List.set_cons_zero, List.set_cons_succ]
  obtain ⟨u, hu⟩ : ∃ u, u = W.drew := ⟨_, rfl⟩
  have HU : Hid (Below W.heap.size W u) := Lib.hid (by rw [hu]; exact Below.drew (Below.refl _ _))
  rw [← hu] at hHeld ⊢
  clear hu
  refine wpAnyH_ready (rs := [0, 4]) (by kernel_rfl) (by simp) ?_
  refine AllReadyH.cons rfl (fun K hK => ?_) (AllReadyH.cons rfl (fun K hK => ?_) AllReadyH.nil)
  · skip
    go_simp
    try dsimp only
    obtain ⟨u1, hu1⟩ : ∃ u1, u1 = u.alloc (.cells #[] 3) := ⟨_, rfl⟩
    rw [← hu1]
    have HU1 : Hid (Below W.heap.size W u1) := Lib.hid (by rw [hu1]; exact HU.out.alloc HU.out.size _)
    have HO1 : Hid (OwnI u1 W.heap.size (.slice (some ⟨u.heap.size, 0, none⟩) 0 0) []) := Lib.hid (by rw [hu1]; exact OwnI.made HU.out.size)
    clear hu1
    refine hK.out _ _ (HBX.out _ HU1.out) (fun hHeld => ?_)
    clear hK K
    try simp only [Act.put, List.getElem_toArray, List.getElem_cons_zero, List.getElem_cons_succ, List.setIfInBounds_toArray, List.set_cons_zero, List.set_cons_succ]
    refine wpAnyH_ready (rs := [3, 4]) (by kernel_rfl) (by simp) ?_
    refine AllReadyH.cons rfl (fun K hK => ?_) (AllReadyH.cons rfl (fun K hK => ?_) AllReadyH.nil)
    · skip
      refine step_appI (B := W.heap.size) (C := C) (v := (.slice (some ⟨u.heap.size, 0, none⟩) 0 0)) (l := []) (m := l) (q := q1) (n := n1) (c := c1) rfl (.tmp 3) (.tmp 5) rfl (by kernel_rfl) HO1.out (by kernel_rfl) (HL1.out.stay (Stay.below HU1.out)) (by have := HLL.out; rw [List.length_nil]; omega) HU1.out.size ?_
      intro v2 u2 ho hg
      rw [List.nil_append] at ho
      have HU2 : Hid (Below W.heap.size W u2) := Lib.hid (HU1.out.grown hg HU1.out.size fun k hk => (HO1.out.lt k hk).1)
      have HO2 := Lib.hid ho
      clear ho hg
      refine hK.out _ _ (HBX.out _ HU2.out) (fun hHeld => ?_)
      clear hK K
      try simp only [Act.put, List.getElem_toArray, List.getElem_cons_zero, List.getElem_cons_succ, List.setIfInBounds_toArray, List.set_cons_zero, List.set_cons_succ]
      refine wpAnyH_ready (rs := [4]) (by kernel_rfl) (by simp) ?_
      refine AllReadyH.cons rfl (fun K hK => ?_) AllReadyH.nil
      go_simp
      try dsimp only
      obtain ⟨u3, hu3⟩ : ∃ u3, u3 = u2.alloc (.cells #[] 9) := ⟨_, rfl⟩
      rw [← hu3]
      have HU3 : Hid (Below W.heap.size W u3) := Lib.hid (by rw [hu3]; exact HU2.out.alloc HU2.out.size _)
      have HO3 : Hid (OwnS u3 W.heap.size (.slice (some ⟨u2.heap.size, 0, none⟩) 0 0) []) := Lib.hid (by rw [hu3]; exact OwnS.made HU2.out.size)
      have HP3 : Hid (OwnI u3 W.heap.size v2 l) := Lib.hid (by rw [hu3]; exact HO2.out.below (sbox1 _ _))
      clear hu3
      refine hK.out _ _ (HBX.out _ HU3.out) (fun hHeld => ?_)
      clear hK K
      try simp only [Act.put, List.getElem_toArray, List.getElem_cons_zero, List.getElem_cons_succ, List.setIfInBounds_toArray, List.set_cons_zero, List.set_cons_succ]
      refine wpAnyH_ready (rs := [7]) (by kernel_rfl) (by simp) ?_
      refine AllReadyH.cons rfl (fun K hK => ?_) AllReadyH.nil
      refine step_appS (B := W.heap.size) (C := C) (v := (.slice (some ⟨u2.heap.size, 0, none⟩) 0 0)) (l := []) (m := m) (q := q2) (n := n2) (c := c2) rfl (.tmp 7) (.tmp 9) rfl (by kernel_rfl) HO3.out (by kernel_rfl) (HL2.out.stay (Stay.below HU3.out)) (by have := HLM.out; rw [List.length_nil]; omega) HU3.out.size ?_
      intro v4 u4 ho hg
      rw [List.nil_append] at ho
      have HU4 : Hid (Below W.heap.size W u4) := Lib.hid (HU3.out.grown hg HU3.out.size fun k hk => (HO3.out.lt k hk).1)
      have HO4 := Lib.hid ho
      have HP4 : Hid (OwnI u4 W.heap.size v2 l) := Lib.hid (HP3.out.kept hg (own_apart HP3.out HO3.out (by decide)))
      clear ho hg
      refine hK.out _ _ (HBX.out _ HU4.out) (fun hHeld => ?_)
      clear hK K
      try simp only [Act.put, List.getElem_toArray, List.getElem_cons_zero, List.getElem_cons_succ, List.setIfInBounds_toArray, List.set_cons_zero, List.set_cons_succ]
      obtain ⟨p1, d1, rfl, _⟩ := HP4.out.lie
      obtain ⟨p2, d2, rfl, _⟩ := HO4.out.lie
      refine wpAnyH_take (i := 10) (v := ?_) rfl (by kernel_rfl) (by kernel_rfl) (by kernel_rfl) (fun _ _ _ h => h) (Or.inl ⟨by rfl, ?_⟩) (by assumption) ?_
      rotate_left
      · intro w hSw; (try dsimp only at hSw); go_simp; try with_reducible rfl
      simp only [Act.put, List.getElem_toArray, List.getElem_cons_zero, List.getElem_cons_succ, List.setIfInBounds_toArray, List.set_cons_zero, List.set_cons_succ]
      refine wpAnyH_ready (rs := [11]) (by kernel_rfl) (by simp) ?_
      refine AllReadyH.cons rfl (fun K hK => ?_) AllReadyH.nil
      refine step_store_row rfl 35 (.tmp 2) (.tmp 13) rfl (w.heap.size + 1) #[.slice p1 l.length d1, .slice p2 m.length d2, .int .i64 rt] (by kernel_rfl) (by kernel_rfl) 35 _ (HY.out _ HU4.out) (by kernel_rfl) (by rfl) (by simp [Value.oneCell']) ?_
      have HF := Lib.hid (copy_leaf (cs := #[.slice p1 l.length d1, .slice p2 m.length d2, .int .i64 rt]) HB.out HS.out HU4.out (HY.out _ HU4.out) HP4.out HO4.out)
      obtain ⟨x, hx⟩ : ∃ x, x = u4.setRow (w.heap.size + 1) #[.slice p1 l.length d1, .slice p2 m.length d2, .int .i64 rt] := ⟨_, rfl⟩
      rw [← hx] at HF ⊢
      clear hx
      refine hK.out _ _ (by rw [HF.out.2.2.2.2 0, HF.out.2.2.2.2 1, HF.out.2.2.2.2 2]; exact HBX.out _ HU4.out) (fun hHeld => ?_)
      clear hK K
      try simp only [Act.put, List.getElem_toArray, List.getElem_cons_zero, List.getElem_cons_succ]
      refine wpAnyH_done (by kernel_rfl) ?_ _
      obtain ⟨y1, y2, y3, y4, _⟩ := HF.out
      go_wp2
      try simp only [Exit.inBlock, Exit.then]
      refine bodyPost_ret (results_cell_row rfl _ _ (w.heap.size + 1) 35 _ (0, 0) _ (by kernel_rfl) y4 Tryd.underlying35 rfl (by kernel_rfl)) rfl ?_
      exact ⟨_, _, rfl, y2, y3, y1⟩
    · skip
      go_simp
      try dsimp only
      obtain ⟨u5, hu5⟩ : ∃ u5, u5 = u1.alloc (.cells #[] 9) := ⟨_, rfl⟩
      rw [← hu5]
      have HU5 : Hid (Below W.heap.size W u5) := Lib.hid (by rw [hu5]; exact HU1.out.alloc HU1.out.size _)
      have HO5 : Hid (OwnS u5 W.heap.size (.slice (some ⟨u1.heap.size, 0, none⟩) 0 0) []) := Lib.hid (by rw [hu5]; exact OwnS.made HU1.out.size)
      have HP5 : Hid (OwnI u5 W.heap.size (.slice (some ⟨u.heap.size, 0, none⟩) 0 0) []) := Lib.hid (by rw [hu5]; exact HO1.out.below (sbox1 _ _))
      clear hu5
      refine hK.out _ _ (HBX.out _ HU5.out) (fun hHeld => ?_)
      clear hK K
      try simp only [Act.put, List.getElem_toArray, List.getElem_cons_zero, List.getElem_cons_succ, List.setIfInBounds_toArray, List.set_cons_zero, List.set_cons_succ]
      refine wpAnyH_ready (rs := [3]) (by kernel_rfl) (by simp) ?_
      refine AllReadyH.cons rfl (fun K hK => ?_) AllReadyH.nil
      refine step_appI (B := W.heap.size) (C := C) (v := (.slice (some ⟨u.heap.size, 0, none⟩) 0 0)) (l := []) (m := l) (q := q1) (n := n1) (c := c1) rfl (.tmp 3) (.tmp 5) rfl (by kernel_rfl) HP5.out (by kernel_rfl) (HL1.out.stay (Stay.below HU5.out)) (by have := HLL.out; rw [List.length_nil]; omega) HU5.out.size ?_
      intro v6 u6 ho hg
      rw [List.nil_append] at ho
      have HU6 : Hid (Below W.heap.size W u6) := Lib.hid (HU5.out.grown hg HU5.out.size fun k hk => (HP5.out.lt k hk).1)
      have HO6 := Lib.hid ho
      have HP6 : Hid (OwnS u6 W.heap.size (.slice (some ⟨u1.heap.size, 0, none⟩) 0 0) []) := Lib.hid (HO5.out.kept hg (own_apart HO5.out HP5.out (by decide)))
      clear ho hg
      refine hK.out _ _ (HBX.out _ HU6.out) (fun hHeld => ?_)
      clear hK K
      try simp only [Act.put, List.getElem_toArray, List.getElem_cons_zero, List.getElem_cons_succ, List.setIfInBounds_toArray, List.set_cons_zero, List.set_cons_succ]
      refine wpAnyH_ready (rs := [7]) (by kernel_rfl) (by simp) ?_
      refine AllReadyH.cons rfl (fun K hK => ?_) AllReadyH.nil
      refine step_appS (B := W.heap.size) (C := C) (v := (.slice (some ⟨u1.heap.size, 0, none⟩) 0 0)) (l := []) (m := m) (q := q2) (n := n2) (c := c2) rfl (.tmp 7) (.tmp 9) rfl (by kernel_rfl) HP6.out (by kernel_rfl) (HL2.out.stay (Stay.below HU6.out)) (by have := HLM.out; rw [List.length_nil]; omega) HU6.out.size ?_
      intro v7 u7 ho hg
      rw [List.nil_append] at ho
      have HU7 : Hid (Below W.heap.size W u7) := Lib.hid (HU6.out.grown hg HU6.out.size fun k hk => (HP6.out.lt k hk).1)
      have HO7 := Lib.hid ho
      have HP7 : Hid (OwnI u7 W.heap.size v6 l) := Lib.hid (HO6.out.kept hg (own_apart HO6.out HP6.out (by decide)))
      clear ho hg
      refine hK.out _ _ (HBX.out _ HU7.out) (fun hHeld => ?_)
      clear hK K
      try simp only [Act.put, List.getElem_toArray, List.getElem_cons_zero, List.getElem_cons_succ, List.setIfInBounds_toArray, List.set_cons_zero, List.set_cons_succ]
      obtain ⟨p1, d1, rfl, _⟩ := HP7.out.lie
      obtain ⟨p2, d2, rfl, _⟩ := HO7.out.lie
      refine wpAnyH_take (i := 10) (v := ?_) rfl (by kernel_rfl) (by kernel_rfl) (by kernel_rfl) (fun _ _ _ h => h) (Or.inl ⟨by rfl, ?_⟩) (by assumption) ?_
      rotate_left
      · intro w hSw; (try dsimp only at hSw); go_simp; try with_reducible rfl
      simp only [Act.put, List.getElem_toArray, List.getElem_cons_zero, List.getElem_cons_succ, List.setIfInBounds_toArray, List.set_cons_zero, List.set_cons_succ]
      refine wpAnyH_ready (rs := [11]) (by kernel_rfl) (by simp) ?_
      refine AllReadyH.cons rfl (fun K hK => ?_) AllReadyH.nil
      refine step_store_row rfl 35 (.tmp 2) (.tmp 13) rfl (w.heap.size + 1) #[.slice p1 l.length d1, .slice p2 m.length d2, .int .i64 rt] (by kernel_rfl) (by kernel_rfl) 35 _ (HY.out _ HU7.out) (by kernel_rfl) (by rfl) (by simp [Value.oneCell']) ?_
      have HF := Lib.hid (copy_leaf (cs := #[.slice p1 l.length d1, .slice p2 m.length d2, .int .i64 rt]) HB.out HS.out HU7.out (HY.out _ HU7.out) HP7.out HO7.out)
      obtain ⟨x, hx⟩ : ∃ x, x = u7.setRow (w.heap.size + 1) #[.slice p1 l.length d1, .slice p2 m.length d2, .int .i64 rt] := ⟨_, rfl⟩
      rw [← hx] at HF ⊢
      clear hx
      refine hK.out _ _ (by rw [HF.out.2.2.2.2 0, HF.out.2.2.2.2 1, HF.out.2.2.2.2 2]; exact HBX.out _ HU7.out) (fun hHeld => ?_)
      clear hK K
      try simp only [Act.put, List.getElem_toArray, List.getElem_cons_zero, List.getElem_cons_succ]
      refine wpAnyH_done (by kernel_rfl) ?_ _
      obtain ⟨y1, y2, y3, y4, _⟩ := HF.out
      go_wp2
      try simp only [Exit.inBlock, Exit.then]
      refine bodyPost_ret (results_cell_row rfl _ _ (w.heap.size + 1) 35 _ (0, 0) _ (by kernel_rfl) y4 Tryd.underlying35 rfl (by kernel_rfl)) rfl ?_
      exact ⟨_, _, rfl, y2, y3, y1⟩
  · skip
    go_simp
    try dsimp only
    obtain ⟨u8, hu8⟩ : ∃ u8, u8 = u.alloc (.cells #[] 9) := ⟨_, rfl⟩
    rw [← hu8]
    have HU8 : Hid (Below W.heap.size W u8) := Lib.hid (by rw [hu8]; exact HU.out.alloc HU.out.size _)
    have HO8 : Hid (OwnS u8 W.heap.size (.slice (some ⟨u.heap.size, 0, none⟩) 0 0) []) := Lib.hid (by rw [hu8]; exact OwnS.made HU.out.size)
    clear hu8
    refine hK.out _ _ (HBX.out _ HU8.out) (fun hHeld => ?_)
    clear hK K
    try simp only [Act.put, List.getElem_toArray, List.getElem_cons_zero, List.getElem_cons_succ, List.setIfInBounds_toArray, List.set_cons_zero, List.set_cons_succ]
    refine wpAnyH_ready (rs := [0]) (by kernel_rfl) (by simp) ?_
    refine AllReadyH.cons rfl (fun K hK => ?_) AllReadyH.nil
    go_simp
    try dsimp only
    obtain ⟨u9, hu9⟩ : ∃ u9, u9 = u8.alloc (.cells #[] 3) := ⟨_, rfl⟩
    rw [← hu9]
    have HU9 : Hid (Below W.heap.size W u9) := Lib.hid (by rw [hu9]; exact HU8.out.alloc HU8.out.size _)
    have HO9 : Hid (OwnI u9 W.heap.size (.slice (some ⟨u8.heap.size, 0, none⟩) 0 0) []) := Lib.hid (by rw [hu9]; exact OwnI.made HU8.out.size)
    have HP9 : Hid (OwnS u9 W.heap.size (.slice (some ⟨u.heap.size, 0, none⟩) 0 0) []) := Lib.hid (by rw [hu9]; exact HO8.out.below (sbox1 _ _))
    clear hu9
    refine hK.out _ _ (HBX.out _ HU9.out) (fun hHeld => ?_)
    clear hK K
    try simp only [Act.put, List.getElem_toArray, List.getElem_cons_zero, List.getElem_cons_succ, List.setIfInBounds_toArray, List.set_cons_zero, List.set_cons_succ]
    refine wpAnyH_ready (rs := [3]) (by kernel_rfl) (by simp) ?_
    refine AllReadyH.cons rfl (fun K hK => ?_) AllReadyH.nil
    refine step_appI (B := W.heap.size) (C := C) (v := (.slice (some ⟨u8.heap.size, 0, none⟩) 0 0)) (l := []) (m := l) (q := q1) (n := n1) (c := c1) rfl (.tmp 3) (.tmp 5) rfl (by kernel_rfl) HO9.out (by kernel_rfl) (HL1.out.stay (Stay.below HU9.out)) (by have := HLL.out; rw [List.length_nil]; omega) HU9.out.size ?_
    intro v10 u10 ho hg
    rw [List.nil_append] at ho
    have HU10 : Hid (Below W.heap.size W u10) := Lib.hid (HU9.out.grown hg HU9.out.size fun k hk => (HO9.out.lt k hk).1)
    have HO10 := Lib.hid ho
    have HP10 : Hid (OwnS u10 W.heap.size (.slice (some ⟨u.heap.size, 0, none⟩) 0 0) []) := Lib.hid (HP9.out.kept hg (own_apart HP9.out HO9.out (by decide)))
    clear ho hg
    refine hK.out _ _ (HBX.out _ HU10.out) (fun hHeld => ?_)
    clear hK K
    try simp only [Act.put, List.getElem_toArray, List.getElem_cons_zero, List.getElem_cons_succ, List.setIfInBounds_toArray, List.set_cons_zero, List.set_cons_succ]
    refine wpAnyH_ready (rs := [7]) (by kernel_rfl) (by simp) ?_
    refine AllReadyH.cons rfl (fun K hK => ?_) AllReadyH.nil
    refine step_appS (B := W.heap.size) (C := C) (v := (.slice (some ⟨u.heap.size, 0, none⟩) 0 0)) (l := []) (m := m) (q := q2) (n := n2) (c := c2) rfl (.tmp 7) (.tmp 9) rfl (by kernel_rfl) HP10.out (by kernel_rfl) (HL2.out.stay (Stay.below HU10.out)) (by have := HLM.out; rw [List.length_nil]; omega) HU10.out.size ?_
    intro v11 u11 ho hg
    rw [List.nil_append] at ho
    have HU11 : Hid (Below W.heap.size W u11) := Lib.hid (HU10.out.grown hg HU10.out.size fun k hk => (HP10.out.lt k hk).1)
    have HO11 := Lib.hid ho
    have HP11 : Hid (OwnI u11 W.heap.size v10 l) := Lib.hid (HO10.out.kept hg (own_apart HO10.out HP10.out (by decide)))
    clear ho hg
    refine hK.out _ _ (HBX.out _ HU11.out) (fun hHeld => ?_)
    clear hK K
    try simp only [Act.put, List.getElem_toArray, List.getElem_cons_zero, List.getElem_cons_succ, List.setIfInBounds_toArray, List.set_cons_zero, List.set_cons_succ]
    obtain ⟨p1, d1, rfl, _⟩ := HP11.out.lie
    obtain ⟨p2, d2, rfl, _⟩ := HO11.out.lie
    refine wpAnyH_take (i := 10) (v := ?_) rfl (by kernel_rfl) (by kernel_rfl) (by kernel_rfl) (fun _ _ _ h => h) (Or.inl ⟨by rfl, ?_⟩) (by assumption) ?_
    rotate_left
    · intro w hSw; (try dsimp only at hSw); go_simp; try with_reducible rfl
    simp only [Act.put, List.getElem_toArray, List.getElem_cons_zero, List.getElem_cons_succ, List.setIfInBounds_toArray, List.set_cons_zero, List.set_cons_succ]
    refine wpAnyH_ready (rs := [11]) (by kernel_rfl) (by simp) ?_
    refine AllReadyH.cons rfl (fun K hK => ?_) AllReadyH.nil
    refine step_store_row rfl 35 (.tmp 2) (.tmp 13) rfl (w.heap.size + 1) #[.slice p1 l.length d1, .slice p2 m.length d2, .int .i64 rt] (by kernel_rfl) (by kernel_rfl) 35 _ (HY.out _ HU11.out) (by kernel_rfl) (by rfl) (by simp [Value.oneCell']) ?_
    have HF := Lib.hid (copy_leaf (cs := #[.slice p1 l.length d1, .slice p2 m.length d2, .int .i64 rt]) HB.out HS.out HU11.out (HY.out _ HU11.out) HP11.out HO11.out)
    obtain ⟨x, hx⟩ : ∃ x, x = u11.setRow (w.heap.size + 1) #[.slice p1 l.length d1, .slice p2 m.length d2, .int .i64 rt] := ⟨_, rfl⟩
    rw [← hx] at HF ⊢
    clear hx
    refine hK.out _ _ (by rw [HF.out.2.2.2.2 0, HF.out.2.2.2.2 1, HF.out.2.2.2.2 2]; exact HBX.out _ HU11.out) (fun hHeld => ?_)
    clear hK K
    try simp only [Act.put, List.getElem_toArray, List.getElem_cons_zero, List.getElem_cons_succ]
    refine wpAnyH_done (by kernel_rfl) ?_ _
    obtain ⟨y1, y2, y3, y4, _⟩ := HF.out
    go_wp2
    try simp only [Exit.inBlock, Exit.then]
    refine bodyPost_ret (results_cell_row rfl _ _ (w.heap.size + 1) 35 _ (0, 0) _ (by kernel_rfl) y4 Tryd.underlying35 rfl (by kernel_rfl)) rfl ?_
    exact ⟨_, _, rfl, y2, y3, y1⟩

end Go.Proofs.YtmlnpgbnbchbkaaDoor

set_option linter.unusedVariables false
set_option maxRecDepth 100000
namespace Go.Proofs.YtmlnpgbnbchbkaaDoor
open Go.RowKit

/-- A Meta's Gen, Root. -/
theorem meta_gen (w : World) (g r n d : Int) : (Instr.field 49 (.agg #[.int .i64 g, .int .i64 r, .int .i64 n, .int .i64 d]) 0).run Tryd.prog w = .ok (.int .i64 g) w := by kernel_rfl
theorem meta_root (w : World) (g r n d : Int) : (Instr.field 49 (.agg #[.int .i64 g, .int .i64 r, .int .i64 n, .int .i64 d]) 1).run Tryd.prog w = .ok (.int .i64 r) w := by kernel_rfl

/-- The law's own memory: what no call made, and the two that are asked; A is the world ahead. -/
structure GrMem (A wr : World) (z : Value) : Prop where
  z : wr.cell? ⟨A.heap.size, 0, none⟩ = some z
  a : wr.cell? ⟨A.heap.size + 1, 0, none⟩ = some (.pointer none)
  b : wr.cell? ⟨A.heap.size + 1, 1, none⟩ = some (.pointer (some ⟨A.heap.size, 0, none⟩))
  below : Below A.heap.size A wr

theorem GrMem.on {w wr w' : World} {z : Value} (h : GrMem w wr z) (hb : Below wr.heap.size wr w') : GrMem w w' z := by
  obtain ⟨h1, h2, h3, h4⟩ := h
  have q1 := World.block_lt_of_cell? _ _ h1
  have q2 := World.block_lt_of_cell? _ _ h2
  exact ⟨by rw [hb.cell (p := ⟨w.heap.size, 0, none⟩) q1]; exact h1, by rw [hb.cell (p := ⟨w.heap.size + 1, 0, none⟩) q2]; exact h2, by rw [hb.cell (p := ⟨w.heap.size + 1, 1, none⟩) q2]; exact h3, h4.trans (hb.mono h4.size)⟩

theorem GrMem.start (w : World) (cs : Array Value) (t t' : TypeId) {z : Value} (h : cs[0]? = some z) : GrMem w ((w.alloc (.cells cs t)).alloc (.cells #[.pointer none, .pointer (some ⟨w.heap.size, 0, none⟩)] t')) z := by
  have e1 : (w.alloc (.cells cs t)).heap.size = w.heap.size + 1 := by simp
  have b0 : ((w.alloc (.cells cs t)).alloc (.cells #[.pointer none, .pointer (some ⟨w.heap.size, 0, none⟩)] t')).heap[w.heap.size]? = some (.cells cs t (0, 0)) := by
    rw [Below.heap_alloc _ _ _ (by omega)]
    exact heap_alloc_new w _
  have b1 : ((w.alloc (.cells cs t)).alloc (.cells #[.pointer none, .pointer (some ⟨w.heap.size, 0, none⟩)] t')).heap[w.heap.size + 1]? = some (.cells #[.pointer none, .pointer (some ⟨w.heap.size, 0, none⟩)] t' (0, 0)) := by
    have := heap_alloc_new (w.alloc (.cells cs t)) (.cells #[.pointer none, .pointer (some ⟨w.heap.size, 0, none⟩)] t')
    rw [e1] at this
    exact this
  exact ⟨by rw [Joins.cell_of_block b0]; exact h, by rw [Joins.cell_of_block b1]; rfl, by rw [Joins.cell_of_block b1]; rfl, sbox2 _ _ _⟩

end Go.Proofs.YtmlnpgbnbchbkaaDoor

