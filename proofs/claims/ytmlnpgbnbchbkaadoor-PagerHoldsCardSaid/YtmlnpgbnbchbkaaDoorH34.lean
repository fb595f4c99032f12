/-
  PagerHolds: a state more among the pins, a generation more: what the law's memory holds behind it.
  PagerHolds: the codes of the switch and of what stands behind it, taken out of the function.
  A region that draws its order, under a condition that holds as long as the last operations have not come up: for regions that read cells first and store into the same cells at their end.
  A region that draws its order, under two conditions: S as long as none of L has come up, T always.
-/
import Derived.Test.YtmlnpgbnbchbkaaDoorH33
import Derived.LoopTactic
import Derived.Deep.LoopGhost
import Derived.Deep.CutBlock
import Derived.Deep.CutRange
import Derived.Deep.RegionHeld3
import Derived.Deep.RegionLaw
import Derived.Deep.RegionHeld
set_option linter.unusedVariables false
set_option maxRecDepth 100000
namespace Go.Proofs.YtmlnpgbnbchbkaaDoor
open Go.RowKit

theorem row_apart3 {w : World} {B B' s s' : Nat} {e e' : TypeId} {v v' : Value} {n n' : Nat} {xs xs' : List Value} (h : w.ownsRow B e s v n xs) (h' : w.ownsRow B' e' s' v' n' xs') (hne : e ≠ e') : v.ownBlock = none ∨ v.ownBlock ≠ v'.ownBlock := by
  rcases h.2 with ⟨rfl, _⟩ | ⟨g, cap, cur, rfl, _, hg, _⟩
  · exact .inl rfl
  · rcases h'.2 with ⟨rfl, _⟩ | ⟨g', cap', cur', rfl, _, hg', _⟩
    · exact .inr (by intro e; cases e)
    · refine .inr fun e => ?_
      have e2 : g = g' := Option.some.inj e
      subst e2
      rw [hg] at hg'
      cases hg'
      exact hne rfl
theorem HC.row {w wr w' : World} {P p : Nat} {N : Int} {i : Nat} {X : PG} {done now : List Page} {pins : List (List Page)} {gens : List Int} {rd : Int} {T : TypeId} (h : HC w wr P p N i X done now pins gens rd) (hT : T ∉ grTypes) {B s n : Nat} {v : Value} {xs : List Value} (ho : wr.ownsRow B T s v n xs) (hB : w.heap.size ≤ B) (hg : wr.grownBy w' v.ownBlock) : HC w w' P p N i X done now pins gens rd := by
  obtain ⟨lm, fm, pl, um, wm, la, vv, hI⟩ := h.m.at_
  have hk : Keeps (isTy T) wr w' := Keeps.grown hg fun b' o hb' ho' => by
    rcases ho.2 with ⟨rfl, _⟩ | ⟨g, cap, cur, rfl, _, hgg, _⟩
    · cases hb'
    · obtain rfl : g = b' := Option.some.inj hb'
      rw [hgg] at ho'
      cases ho'
      simp [isTy]
  exact ⟨⟨⟨lm, fm, pl, um, wm, la, vv, hI.types hk (isTy_off hT) (fun _ _ _ => rfl)⟩, h.m.below.grown hg h.m.below.size fun k hk' => by have := (World.ownsRow.lt ho k hk').1; omega⟩, h.v, h.b, h.r, h.z⟩

section
variable {w w' : World} {B bd bn : Nat} {done now : HS} {qs : List HS} {vp vg : Value} {gens : List Int}
/-- The row of the pins has become another one. -/
theorem HM.newPins (h : HM w B bd bn done now qs vp vg gens) {qs' : List HS} {vp' : Value} (ho : w'.ownsRow B 35 3 vp' qs'.length (qs'.flatMap HS.cells)) {u : Value} {un us : Nat} {xs : List Value} (hu : w.ownsRow B 35 us u un xs) (hg : w.grownBy w' u.ownBlock) (hq : ∀ q ∈ qs', q.At w B ∧ Off q.v1 now.v1 ∧ Off q.v2 now.v2 ∧ Off q.v1 vg) : HM w' B bd bn done now qs' vp' vg gens := by
  obtain ⟨l1, l2, l3, l4⟩ := h.lt
  have hlow : ∀ k, k < B → w.heap[k]? = w'.heap[k]? := fun k hk => (hg.block k (by omega) (fun e => by have := (World.ownsRow.lt hu k e.symm).1; omega)).symm
  have hat : ∀ s : HS, s.At w B → s.At w' B := fun s hs => hs.kept hg (row_apart3 hs.1 hu (by decide)) (row_apart3 hs.2 hu (by decide))
  exact ⟨⟨l1, l2, l3, Nat.le_trans l4 hg.size⟩, (hlow _ l1).symm.trans h.hd, (hlow _ l2).symm.trans h.hn, hat _ h.ad, hat _ h.an, fun q hq' => hat _ (hq q hq').1, ho, h.ig.kept hg (row_apart3 h.ig hu (by decide)), h.od, fun q hq' => (hq q hq').2, h.on, h.og⟩
/-- The row of the generations has become another one. -/
theorem HM.newGens (h : HM w B bd bn done now qs vp vg gens) {gens' : List Int} {vg' : Value} (ho : OwnI w' B vg' gens') {u : Value} {ul : List Int} (hu : OwnI w B u ul) (hg : w.grownBy w' u.ownBlock)
    (h1 : ∀ s : HS, (s = done ∨ s = now ∨ s ∈ qs) → Off s.v1 u ∧ Off s.v1 vg') (h2 : Off vg' now.v1) : HM w' B bd bn done now qs vp vg' gens' := by
  obtain ⟨l1, l2, l3, l4⟩ := h.lt
  have hlow : ∀ k, k < B → w.heap[k]? = w'.heap[k]? := fun k hk => (hg.block k (by omega) (fun e => by have := (World.ownsRow.lt hu k e.symm).1; omega)).symm
  have hat : ∀ s : HS, (s = done ∨ s = now ∨ s ∈ qs) → s.At w B → s.At w' B := fun s hm hs => hs.kept hg (h1 s hm).1 (row_apart3 hs.2 hu (by decide))
  exact ⟨⟨l1, l2, l3, Nat.le_trans l4 hg.size⟩, (hlow _ l1).symm.trans h.hd, (hlow _ l2).symm.trans h.hn, hat _ (.inl rfl) h.ad, hat _ (.inr (.inl rfl)) h.an, fun q hq' => hat q (.inr (.inr hq')) (h.aq q hq'), h.ip.kept hg (row_apart3 h.ip hu (by decide)), ho, ⟨h.od.1, h.od.2.1, (h1 done (.inl rfl)).2⟩, fun q hq' => ⟨(h.oq q hq').1, (h.oq q hq').2.1, (h1 q (.inr (.inr hq'))).2⟩, (h1 now (.inr (.inl rfl))).2, h2⟩
end

theorem info_state : (Tryd.prog.info? 35).map (fun i => (i.zero, i.size, i.bytes)) = some (some (.agg #[.slice none 0 0, .slice none 0 0, .int .i64 0]), 3, 56) := by kernel_rfl
theorem flat_app (qs : List HS) (s : HS) : (qs ++ [s]).flatMap HS.cells = qs.flatMap HS.cells ++ [s.v1, s.v2, .int .i64 s.r] := by simp [HS.cells]

/-- append(pins, one state). -/
theorem app_state {w : World} {ops : Array Oper} {rest : List Oper} {o : Oper} {a : Act} {Q : Exit → Act → World → Prop} (hgd : o.guard = none) (s x : Operand)
    (ho : o.op = .call { callee := .builtin .append, args := #[s, x], argTypes := #[36, 36] })
    {B : Nat} {v : Value} {qs : List HS} (st : HS) (hs : a.eval s = v) (hown : w.ownsRow B 35 3 v qs.length (qs.flatMap HS.cells)) {b c : Nat} (hx : a.eval x = .slice (some ⟨b, 0, none⟩) 1 c) {fr : Nat × Nat} {t : TypeId} (h0 : w.heap[b]? = some (.cells #[st.v1, st.v2, .int .i64 st.r] t fr)) (hone : st.v1.oneCell' = true ∧ st.v2.oneCell' = true) (hlen : qs.length ≤ 1000000) (hB : B ≤ w.heap.size)
    (h : ∀ v' w', w'.ownsRow B 35 3 v' (qs ++ [st]).length ((qs ++ [st]).flatMap HS.cells) → w.grownBy w' v.ownBlock → wpList Tryd.prog ops Q rest (a.put o.dst v') w') : wpList Tryd.prog ops Q (o :: rest) a w := by
  obtain ⟨i, hi, hz0, hz1, hz2⟩ := info_parts info_state
  refine wpList_append_own w hgd s x _ ho B 35 i _ 3 56 Tryd.underlying36 hi hz0 hz1 hz2 rfl (by decide) v qs.length (qs.flatMap HS.cells) hs hown ⟨b, 0, none⟩ 1 c [st.v1, st.v2, .int .i64 st.r] hx rfl
    (fun j y hj => by
      rw [Addr.add_lit, Nat.zero_add, Joins.cell_of_block h0]
      match j, hj with
      | 0, hj => cases hj; rfl
      | 1, hj => cases hj; rfl
      | 2, hj => cases hj; rfl
      | j + 3, hj => simp at hj) (fun y hy => by simp at hy; rcases hy with rfl | rfl | rfl; exact hone.1; exact hone.2; rfl) (by simp only [maxLen]; omega) (by omega) hB ?_
  intro v' w' h1 h2 _
  refine h v' w' ?_ h2
  rw [flat_app, List.length_append]
  exact h1
/-- append(generations, one): and where the row lies behind it. -/
theorem app_gen {w : World} {ops : Array Oper} {rest : List Oper} {o : Oper} {a : Act} {Q : Exit → Act → World → Prop} (hgd : o.guard = none) (s x : Operand)
    (ho : o.op = .call { callee := .builtin .append, args := #[s, x], argTypes := #[23, 23] })
    {B : Nat} {v : Value} {l : List Int} (hs : a.eval s = v) (hown : OwnI w B v l) {b c : Nat} {y : Int} (hx : a.eval x = .slice (some ⟨b, 0, none⟩) 1 c) (h0 : w.cell? ⟨b, 0, none⟩ = some (.int .i64 y)) (hlen : l.length ≤ 1000000000) (hB : B ≤ w.heap.size)
    (h : ∀ v' w', OwnI w' B v' (l ++ [y]) → w.grownBy w' v.ownBlock → (v'.ownBlock = v.ownBlock ∨ v'.ownBlock = some w.heap.size) → wpList Tryd.prog ops Q rest (a.put o.dst v') w') : wpList Tryd.prog ops Q (o :: rest) a w := by
  obtain ⟨i, hi, hz0, hz1, hz2⟩ := info_parts info_int
  have hcl : ∀ (j : Nat) u, ([.int .i64 y] : List Value)[j]? = some u → w.cell? ((⟨b, 0, none⟩ : Addr).add j) = some u := fun j u hj => by
    rw [Addr.add_lit, Nat.zero_add]
    match j, hj with
    | 0, hj => cases hj; exact h0
    | j + 1, hj => simp at hj
  have hone : ∀ u ∈ ([.int .i64 y] : List Value), u.oneCell' = true := fun u hu => by obtain rfl := List.mem_singleton.1 hu; rfl
  obtain ⟨v', w', hr, h1, h2, _⟩ := run_append_own (P := Tryd.prog) w B 23 o.type 3 i (.int .i64 0) 1 8 Tryd.underlying23 hi hz0 hz1 hz2 rfl (by decide) v l.length (i64s l) hown ⟨b, 0, none⟩ 1 c [.int .i64 y] rfl hcl hone (by simp only [maxLen]; omega) (by omega) hB
  have hw := run_app_where (P := Tryd.prog) w B 23 o.type 3 i (.int .i64 0) 1 8 Tryd.underlying23 hi hz0 hz1 hz2 rfl (by decide) v l.length (i64s l) hown ⟨b, 0, none⟩ 1 c [.int .i64 y] rfl hcl hone (by simp only [maxLen]; omega) (by omega) hr
  have h1' : OwnI w' B v' (l ++ [y]) := by
    unfold OwnI
    rw [List.length_append]
    simpa [i64s] using h1
  refine wpList_plain hgd fun _ hK => ?_
  exact Lib.wp_append_run w s x 23 23 ho v _ hs hx v' w' hr (hK _ _ (h v' w' h1' h2 hw))

end Go.Proofs.YtmlnpgbnbchbkaaDoor

set_option linter.unusedVariables false
set_option maxRecDepth 100000
namespace Go.Proofs.YtmlnpgbnbchbkaaDoor
open Go.RowKit

/-- The first loop of a code: its body. -/
def firstLoop : Code → Option Code
  | .loop c => some c
  | .seq a b => match firstLoop a with
    | some c => some c
    | none => firstLoop b
  | .block _ c => firstLoop c
  | .scope c => firstLoop c
  | .cond _ a b => match firstLoop a with
    | some c => some c
    | none => firstLoop b
  | _ => none
def go1 : Code → Code
  | .seq a _ => a
  | .block _ c => c
  | .cond _ a _ => a
  | c => c
def go2 : Code → Code
  | .seq _ b => b
  | .cond _ _ b => b
  | c => c
/-- The loop's body; of it the switch, and what stands behind it. -/
noncomputable def loopC : Code := (Tryd.f3.body.bind firstLoop).getD .skip
noncomputable def swRest : Code := go2 (go2 (go1 (go1 (go2 loopC))))
noncomputable def swC : Code := go2 (go1 swRest)
noncomputable def restC : Code := go2 swRest

end Go.Proofs.YtmlnpgbnbchbkaaDoor

set_option linter.unusedVariables false
namespace Go.Proofs.YtmlnpgbnbchbkaaDoor

variable {P : Program} {ops : Array Oper} {Q : Exit → Act → World → Prop} {md : Region.Mode} {S : World → Prop} {L : List Nat}

/-- As 'wpAnyH', but behind an operation of L nothing is asked of S. -/
def wpAnyL (P : Program) (md : Region.Mode) (ops : Array Oper) (Q : Exit → Act → World → Prop) (S : World → Prop) (L : List Nat) : Nat → Array Bool → Act → World → Prop
  | 0, listed, a, w => Region.ready md ops listed = [] ∧ Q .normal a w
  | fuel + 1, listed, a, w => (Region.ready md ops listed = [] → Q .normal a w) ∧ ∀ i ∈ Region.ready md ops listed, wpOp P ops Q i (fun a' w' => (L.contains i = false → S w') ∧ wpAnyL P md ops Q S L fuel (listed.setIfInBounds i true) a' w') a w

theorem wpAny_of_last : ∀ (fuel : Nat) (listed : Array Bool) (a : Act) (w : World), wpAnyL P md ops Q S L fuel listed a w → wpAny P md ops Q fuel listed a w
  | 0, _, _, _, h => h
  | fuel + 1, _, _, _, h => ⟨h.1, fun i hi => wpOp_mono (fun a' w' h' => wpAny_of_last fuel _ a' w' h'.2) (h.2 i hi)⟩

/-- All of L wait for i. -/
def waitFor (md : Region.Mode) (ops : Array Oper) (L : List Nat) (i : Nat) : Bool := L.all fun l => match ops[l]? with
  | some o => o.after.any fun e => Region.binds md e && e.on == i
  | none => true

theorem wpAnyL_first {i : Nat} {oi : Oper} {v : Value} (hi : ops[i]? = some oi) (hsel : ∀ (j : Nat) (o : Oper) cs b, ops[j]? = some o → o.op ≠ .select cs b)
    (hQ : ∀ c a w, Q (.panic c) (a.put oi.dst v) w → Q (.panic c) a w) (hL : waitFor md ops L i = true) :
    ∀ (fuel : Nat) (listed : Array Bool) (a : Act) (w : World),
      (∀ j oj, ops[j]? = some oj → j ≠ i → listed.getD j true = false → (∀ e ∈ oj.after, Region.binds md e = true → e.on ≠ i) → oi.apart ops oj = true) →
      i ∈ Region.ready md ops listed → YieldsIf P ops S oi v a → S w →
      wpAnyL P md ops Q S L fuel (listed.setIfInBounds i true) (a.put oi.dst v) w → wpAnyL P md ops Q S L (fuel + 1) listed a w := by
  intro fuel
  induction fuel with
  | zero =>
    intro listed a w _ hr hy hS H
    refine ⟨fun h => (by rw [h] at hr; cases hr), fun j hj => ?_⟩
    by_cases hji : j = i
    · subst hji
      exact hy.wpOp hi hS ⟨fun _ => hS, H⟩
    · have h := ready_mono hj hji
      rw [H.1] at h
      cases h
  | succ fuel ih =>
    intro listed a w hfree hr hy hS H
    refine ⟨fun h => (by rw [h] at hr; cases hr), fun j hj => ?_⟩
    by_cases hji : j = i
    · subst hji
      exact hy.wpOp hi hS ⟨fun _ => hS, H⟩
    · have hgo := H.2 j (ready_mono hj hji)
      obtain ⟨hju, oj, hoj, hall⟩ := mem_ready.1 hj
      have hnot : ∀ e ∈ oj.after, Region.binds md e = true → e.on ≠ i := fun e he hb heq => by
        have h1 := hall e he hb
        have h0 := (mem_ready.1 hr).1
        rw [heq] at h1
        rw [Array.getD_eq_getD_getElem?] at h0 h1
        cases hc : listed[i]? with
        | none => rw [hc] at h1; cases h1
        | some b => rw [hc] at h0 h1; simp only [Option.getD_some] at h0 h1; rw [h0] at h1; cases h1
      have hjL : L.contains j = false := by
        cases hc : L.contains j with
        | false => rfl
        | true =>
          exfalso
          have hm : j ∈ L := by simpa using hc
          have h2 := List.all_eq_true.1 hL j hm
          rw [hoj] at h2
          obtain ⟨e, he, h3⟩ := Array.any_eq_true'.1 h2
          rw [Bool.and_eq_true] at h3
          exact hnot e he h3.1 (by simpa using h3.2)
      have h2 := wpOp_putIf hoj (hfree j oj hoj hji hju hnot) (fun cs b => hsel i oi cs b hi) (fun cs b => hsel j oj cs b hoj) hQ hy hgo
      refine wpOp_mono (fun a' w' h3 => ⟨h3.2.1, ih (listed.setIfInBounds j true) a' w' ?_ (ready_mono hr (Ne.symm hji)) h3.1 (h3.2.1 hjL) ?_⟩) h2
      · intro k ok hk hki hun hno
        refine hfree k ok hk hki ?_ hno
        by_cases hjk : j = k
        · subst hjk; exact hju
        · rw [getD_set_ne true hjk] at hun; exact hun
      · rw [Array.setIfInBounds_comm _ _ hji]
        exact h3.2.2

theorem wpAnyL_take {i : Nat} {oi : Oper} {v : Value} {fuel : Nat} {listed : Array Bool} {a : Act} {w : World} (hi : ops[i]? = some oi)
    (hs : Region.noSelect ops = true) (hf : Region.free md ops listed i = true) (hr : (Region.ready md ops listed).contains i = true) (hL : waitFor md ops L i = true)
    (hQ : ∀ c a w, Q (.panic c) (a.put oi.dst v) w → Q (.panic c) a w) (hy : YieldsIf P ops S oi v a) (hS : S w)
    (h : wpAnyL P md ops Q S L fuel (listed.setIfInBounds i true) (a.put oi.dst v) w) : wpAnyL P md ops Q S L (fuel + 1) listed a w :=
  wpAnyL_first hi (Region.noSelect_spec hs) hQ hL fuel listed a w (Region.free_spec hi hf) (by simpa using hr) hy hS h

def AllReadyL (P : Program) (md : Region.Mode) (ops : Array Oper) (Q : Exit → Act → World → Prop) (S : World → Prop) (L : List Nat) (fuel : Nat) (listed : Array Bool) (a : Act) (w : World) (rs : List Nat) : Prop :=
  ∀ i ∈ rs, wpOp P ops Q i (fun a' w' => (L.contains i = false → S w') ∧ wpAnyL P md ops Q S L fuel (listed.setIfInBounds i true) a' w') a w
theorem AllReadyL.nil {fuel : Nat} {listed : Array Bool} {a : Act} {w : World} : AllReadyL P md ops Q S L fuel listed a w [] := fun _ h => by cases h
theorem AllReadyL.cons {fuel : Nat} {listed : Array Bool} {a : Act} {w : World} {i : Nat} {o : Oper} {rs : List Nat} (ho : ops[i]? = some o)
    (h : ∀ K' : Act → World → Prop, Shut (∀ a w, (L.contains i = false → S w) → ((L.contains i = false → S w) → wpAnyL P md ops Q S L fuel (listed.setIfInBounds i true) a w) → K' a w) → if Region.wanted o (yielded ops a.tmps) = true then Oper.wp P o a w K' Q else K' (a.put o.dst undef) w)
    (hs : AllReadyL P md ops Q S L fuel listed a w rs) : AllReadyL P md ops Q S L fuel listed a w (i :: rs) := fun j hj => by
  rcases List.mem_cons.1 hj with rfl | hj
  · exact wpOp_step ho (fun K' hK => h K' (fun a w hS hW => hK a w ⟨hS, hW hS⟩))
  · exact hs j hj
theorem wpAnyL_ready {rs : List Nat} {fuel : Nat} {listed : Array Bool} {a : Act} {w : World} (hr : Region.ready md ops listed = rs) (hne : rs ≠ [])
    (h : AllReadyL P md ops Q S L fuel listed a w rs) : wpAnyL P md ops Q S L (fuel + 1) listed a w := ⟨fun h0 => absurd (hr ▸ h0) hne, hr ▸ h⟩
theorem wpAnyL_done {listed : Array Bool} {a : Act} {w : World} (hr : Region.ready md ops listed = []) (h : Q .normal a w) : ∀ fuel, wpAnyL P md ops Q S L fuel listed a w
  | 0 => ⟨hr, h⟩
  | _ + 1 => ⟨fun _ => h, by rw [hr]; simp⟩
theorem wp_region_last_drew {id : Nat} {a : Act} {w : World} (L : List Nat) (hm : P.follows .mixedOrders = true) (hS : S w.drew)
    (h : S w.drew → wpAnyL P .any ops Q S L ops.size (Array.replicate ops.size false) a w.drew) : (Code.region id ops true).wp P Q a w :=
  wp_region_any hm (wpAny_of_last _ _ _ _ (h hS))

end Go.Proofs.YtmlnpgbnbchbkaaDoor

set_option linter.unusedVariables false
namespace Go.Proofs.YtmlnpgbnbchbkaaDoor

variable {P : Program} {ops : Array Oper} {Q : Exit → Act → World → Prop} {md : Region.Mode} {S T : World → Prop} {L : List Nat}

/-- As 'wpAnyL', and T is asked behind each operation. -/
def wpAnyM (P : Program) (md : Region.Mode) (ops : Array Oper) (Q : Exit → Act → World → Prop) (S T : World → Prop) (L : List Nat) : Nat → Array Bool → Act → World → Prop
  | 0, listed, a, w => Region.ready md ops listed = [] ∧ Q .normal a w
  | fuel + 1, listed, a, w => (Region.ready md ops listed = [] → Q .normal a w) ∧ ∀ i ∈ Region.ready md ops listed, wpOp P ops Q i (fun a' w' => ((L.contains i = false → S w') ∧ T w') ∧ wpAnyM P md ops Q S T L fuel (listed.setIfInBounds i true) a' w') a w

theorem wpAny_of_lastM : ∀ (fuel : Nat) (listed : Array Bool) (a : Act) (w : World), wpAnyM P md ops Q S T L fuel listed a w → wpAny P md ops Q fuel listed a w
  | 0, _, _, _, h => h
  | fuel + 1, _, _, _, h => ⟨h.1, fun i hi => wpOp_mono (fun a' w' h' => wpAny_of_lastM fuel _ a' w' h'.2) (h.2 i hi)⟩

/-- All of L have come up, or wait for i. -/
def waitForM (md : Region.Mode) (ops : Array Oper) (L : List Nat) (listed : Array Bool) (i : Nat) : Bool := L.all fun l => listed.getD l false || match ops[l]? with
  | some o => o.after.any fun e => Region.binds md e && e.on == i
  | none => true
theorem waitForM_set {listed : Array Bool} {i j : Nat} (h : waitForM md ops L listed i = true) : waitForM md ops L (listed.setIfInBounds j true) i = true := by
  unfold waitForM at *
  rw [List.all_eq_true] at *
  intro l hl
  have := h l hl
  rw [Bool.or_eq_true] at *
  exact this.imp (fun h => getD_set_true h) id

theorem wpAnyM_first {i : Nat} {oi : Oper} {v : Value} (U : World → Prop) (hi : ops[i]? = some oi) (hsel : ∀ (j : Nat) (o : Oper) cs b, ops[j]? = some o → o.op ≠ .select cs b)
    (hQ : ∀ c a w, Q (.panic c) (a.put oi.dst v) w → Q (.panic c) a w) :
    ∀ (fuel : Nat) (listed : Array Bool) (a : Act) (w : World),
      ((waitForM md ops L listed i = true ∧ ∀ w, S w → U w) ∨ (L.contains i = true ∧ ∀ w, T w → U w)) →
      (∀ j oj, ops[j]? = some oj → j ≠ i → listed.getD j true = false → (∀ e ∈ oj.after, Region.binds md e = true → e.on ≠ i) → oi.apart ops oj = true) →
      i ∈ Region.ready md ops listed → YieldsIf P ops U oi v a → (L.contains i = false → S w) → T w → U w →
      wpAnyM P md ops Q S T L fuel (listed.setIfInBounds i true) (a.put oi.dst v) w → wpAnyM P md ops Q S T L (fuel + 1) listed a w := by
  intro fuel
  induction fuel with
  | zero =>
    intro listed a w hc _ hr hy hS hT hU H
    refine ⟨fun h => (by rw [h] at hr; cases hr), fun j hj => ?_⟩
    by_cases hji : j = i
    · subst hji
      exact hy.wpOp hi hU ⟨⟨hS, hT⟩, H⟩
    · have h := ready_mono hj hji
      rw [H.1] at h
      cases h
  | succ fuel ih =>
    intro listed a w hc hfree hr hy hS hT hU H
    refine ⟨fun h => (by rw [h] at hr; cases hr), fun j hj => ?_⟩
    by_cases hji : j = i
    · subst hji
      exact hy.wpOp hi hU ⟨⟨hS, hT⟩, H⟩
    · have hgo := H.2 j (ready_mono hj hji)
      obtain ⟨hju, oj, hoj, hall⟩ := mem_ready.1 hj
      have hnot : ∀ e ∈ oj.after, Region.binds md e = true → e.on ≠ i := fun e he hb heq => by
        have h1 := hall e he hb
        have h0 := (mem_ready.1 hr).1
        rw [heq] at h1
        rw [Array.getD_eq_getD_getElem?] at h0 h1
        cases hc : listed[i]? with
        | none => rw [hc] at h1; cases h1
        | some b => rw [hc] at h0 h1; simp only [Option.getD_some] at h0 h1; rw [h0] at h1; cases h1
      have hjL : waitForM md ops L listed i = true → L.contains j = false := fun hL => by
        cases hc : L.contains j with
        | false => rfl
        | true =>
          exfalso
          have hm : j ∈ L := by simpa using hc
          have h2 := List.all_eq_true.1 hL j hm
          rw [hoj, Bool.or_eq_true] at h2
          rcases h2 with h2 | h2
          · rw [Array.getD_eq_getD_getElem?] at hju h2
            cases hc : listed[j]? with
            | none => rw [hc] at h2; cases h2
            | some b => rw [hc] at hju h2; simp only [Option.getD_some] at hju h2; rw [hju] at h2; cases h2
          · obtain ⟨e, he, h3⟩ := Array.any_eq_true'.1 h2
            rw [Bool.and_eq_true] at h3
            exact hnot e he h3.1 (by simpa using h3.2)
      have h2 := wpOp_putIf hoj (hfree j oj hoj hji hju hnot) (fun cs b => hsel i oi cs b hi) (fun cs b => hsel j oj cs b hoj) hQ hy hgo
      refine wpOp_mono (fun a' w' h3 => ⟨h3.2.1, ih (listed.setIfInBounds j true) a' w' (hc.imp (fun h => ⟨waitForM_set h.1, h.2⟩) id) ?_ (ready_mono hr (Ne.symm hji)) h3.1 ?_ h3.2.1.2 ?_ ?_⟩) h2
      · intro k ok hk hki hun hno
        refine hfree k ok hk hki ?_ hno
        by_cases hjk : j = k
        · subst hjk; exact hju
        · rw [getD_set_ne true hjk] at hun; exact hun
      · intro hci
        rcases hc with hc | hc
        · exact h3.2.1.1 (hjL hc.1)
        · rw [hc.1] at hci; cases hci
      · rcases hc with hc | hc
        · exact hc.2 _ (h3.2.1.1 (hjL hc.1))
        · exact hc.2 _ h3.2.1.2
      · rw [Array.setIfInBounds_comm _ _ hji]
        exact h3.2.2

/-- Taken first under S: all of L wait for it, or have come up. -/
theorem wpAnyM_take {i : Nat} {oi : Oper} {v : Value} {fuel : Nat} {listed : Array Bool} {a : Act} {w : World} (hi : ops[i]? = some oi)
    (hs : Region.noSelect ops = true) (hf : Region.free md ops listed i = true) (hr : (Region.ready md ops listed).contains i = true) (hL : waitForM md ops L listed i = true)
    (hQ : ∀ c a w, Q (.panic c) (a.put oi.dst v) w → Q (.panic c) a w) (hy : YieldsIf P ops S oi v a) (hS : S w ∧ T w)
    (h : wpAnyM P md ops Q S T L fuel (listed.setIfInBounds i true) (a.put oi.dst v) w) : wpAnyM P md ops Q S T L (fuel + 1) listed a w :=
  wpAnyM_first S hi (Region.noSelect_spec hs) hQ fuel listed a w (.inl ⟨hL, fun _ h => h⟩) (Region.free_spec hi hf) (by simpa using hr) hy (fun _ => hS.1) hS.2 hS.1 h
/-- Taken first under T, for i of L. -/
theorem wpAnyM_takeT {i : Nat} {oi : Oper} {v : Value} {fuel : Nat} {listed : Array Bool} {a : Act} {w : World} (hi : ops[i]? = some oi)
    (hs : Region.noSelect ops = true) (hf : Region.free md ops listed i = true) (hr : (Region.ready md ops listed).contains i = true) (hL : L.contains i = true)
    (hQ : ∀ c a w, Q (.panic c) (a.put oi.dst v) w → Q (.panic c) a w) (hy : YieldsIf P ops T oi v a) (hS : T w)
    (h : wpAnyM P md ops Q S T L fuel (listed.setIfInBounds i true) (a.put oi.dst v) w) : wpAnyM P md ops Q S T L (fuel + 1) listed a w :=
  wpAnyM_first T hi (Region.noSelect_spec hs) hQ fuel listed a w (.inr ⟨hL, fun _ h => h⟩) (Region.free_spec hi hf) (by simpa using hr) hy (fun h => by rw [hL] at h; cases h) hS hS h
theorem wpAnyM_ready {rs : List Nat} {fuel : Nat} {listed : Array Bool} {a : Act} {w : World} (hr : Region.ready md ops listed = rs) (hne : rs ≠ [])
    (h : ∀ i ∈ rs, wpOp P ops Q i (fun a' w' => ((L.contains i = false → S w') ∧ T w') ∧ wpAnyM P md ops Q S T L fuel (listed.setIfInBounds i true) a' w') a w) : wpAnyM P md ops Q S T L (fuel + 1) listed a w := ⟨fun h0 => absurd (hr ▸ h0) hne, hr ▸ h⟩
def AllReadyM (P : Program) (md : Region.Mode) (ops : Array Oper) (Q : Exit → Act → World → Prop) (S T : World → Prop) (L : List Nat) (fuel : Nat) (listed : Array Bool) (a : Act) (w : World) (rs : List Nat) : Prop :=
  ∀ i ∈ rs, wpOp P ops Q i (fun a' w' => ((L.contains i = false → S w') ∧ T w') ∧ wpAnyM P md ops Q S T L fuel (listed.setIfInBounds i true) a' w') a w
theorem AllReadyM.nil {fuel : Nat} {listed : Array Bool} {a : Act} {w : World} : AllReadyM P md ops Q S T L fuel listed a w [] := fun _ h => by cases h
theorem AllReadyM.cons {fuel : Nat} {listed : Array Bool} {a : Act} {w : World} {i : Nat} {o : Oper} {rs : List Nat} (ho : ops[i]? = some o)
    (h : ∀ K' : Act → World → Prop, Shut (∀ a w, ((L.contains i = false → S w) ∧ T w) → ((L.contains i = false → S w) → T w → wpAnyM P md ops Q S T L fuel (listed.setIfInBounds i true) a w) → K' a w) → if Region.wanted o (yielded ops a.tmps) = true then Oper.wp P o a w K' Q else K' (a.put o.dst undef) w)
    (hs : AllReadyM P md ops Q S T L fuel listed a w rs) : AllReadyM P md ops Q S T L fuel listed a w (i :: rs) := fun j hj => by
  rcases List.mem_cons.1 hj with rfl | hj
  · exact wpOp_step ho (fun K' hK => h K' (fun a w hS hW => hK a w ⟨hS, hW hS.1 hS.2⟩))
  · exact hs j hj
theorem wpAnyM_done {listed : Array Bool} {a : Act} {w : World} (hr : Region.ready md ops listed = []) (h : Q .normal a w) : ∀ fuel, wpAnyM P md ops Q S T L fuel listed a w
  | 0 => ⟨hr, h⟩
  | _ + 1 => ⟨fun _ => h, by rw [hr]; simp⟩
theorem wp_region_lastM_drew {id : Nat} {a : Act} {w : World} (L : List Nat) (hm : P.follows .mixedOrders = true) (hS : S w.drew ∧ T w.drew)
    (h : (S w.drew ∧ T w.drew) → wpAnyM P .any ops Q S T L ops.size (Array.replicate ops.size false) a w.drew) : (Code.region id ops true).wp P Q a w :=
  wp_region_any hm (wpAny_of_lastM _ _ _ _ (h hS))

end Go.Proofs.YtmlnpgbnbchbkaaDoor

