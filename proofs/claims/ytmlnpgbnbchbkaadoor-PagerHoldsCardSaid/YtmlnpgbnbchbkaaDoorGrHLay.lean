/-
  PagerHolds: a page more in the state of now: both rows grow, its box is written at the end.
-/
import Derived.Test.YtmlnpgbnbchbkaaDoorH34
set_option linter.unusedVariables false
set_option maxRecDepth 100000
namespace Go.Proofs.YtmlnpgbnbchbkaaDoor
open Go.RowKit

/-- Between the appends: the new rows beside the box's old ones. -/
structure HA (w wr : World) (N : Int) (P p B bd bn i : Nat) (X : PG) (done now : HS) (qs : List HS) (vp vg : Value) (gens : List Int) (nps : List Page) (a1 a2 : Value) (l1 : List Int) (l2 : List ByteArray) : Prop where
  c : HC w wr P p N i X done.ps nps (qs.map HS.ps) gens done.r
  b : w.heap.size ≤ B ∧ w.heap.size ≤ bd ∧ w.heap.size ≤ bn
  lt : bd < B ∧ bn < B ∧ bd ≠ bn ∧ B ≤ wr.heap.size
  hd : wr.heap[bd]? = some (.cells done.cells.toArray 35 (0, 0))
  hn : wr.heap[bn]? = some (.cells now.cells.toArray 35 (0, 0))
  ad : done.At wr B
  aq : ∀ q ∈ qs, q.At wr B
  ip : wr.ownsRow B 35 3 vp qs.length (qs.flatMap HS.cells)
  ig : OwnI wr B vg gens
  i1 : OwnI wr B a1 l1
  i2 : OwnS wr B a2 l2
  od : Off done.v1 a1 ∧ Off done.v2 a2 ∧ Off done.v1 vg
  oq : ∀ q ∈ qs, Off q.v1 a1 ∧ Off q.v2 a2 ∧ Off q.v1 vg
  on : Off a1 vg
  og : Off vg a1

section
variable {w wr w' : World} {N : Int} {P p B bd bn i : Nat} {X : PG} {done now : HS} {qs : List HS} {vp vg : Value} {gens : List Int} {nps : List Page} {a1 a2 : Value} {l1 : List Int} {l2 : List ByteArray}
theorem HA.of (hb : w.heap.size ≤ B ∧ w.heap.size ≤ bd ∧ w.heap.size ≤ bn) (hc : HC w wr P p N i X done.ps nps (qs.map HS.ps) gens done.r) (h : HM wr B bd bn done now qs vp vg gens) : HA w wr N P p B bd bn i X done now qs vp vg gens nps now.v1 now.v2 (pnos now.ps) (pstr now.ps) :=
  ⟨hc, hb, h.lt, h.hd, h.hn, h.ad, h.aq, h.ip, h.ig, h.an.1, h.an.2, h.od, h.oq, h.on, h.og⟩
theorem HA.below (h : HA w wr N P p B bd bn i X done now qs vp vg gens nps a1 a2 l1 l2) (hb : Below wr.heap.size wr w') : HA w w' N P p B bd bn i X done now qs vp vg gens nps a1 a2 l1 l2 := by
  obtain ⟨k1, k2, k3, k4⟩ := h.lt
  exact ⟨h.c.on hb, h.b, ⟨k1, k2, k3, Nat.le_trans k4 hb.size⟩, (hb.block _ (by omega)).trans h.hd, (hb.block _ (by omega)).trans h.hn, h.ad.below hb, fun q hq => (h.aq q hq).below hb, h.ip.kept (grown_of_below hb) (not_none _), h.ig.below hb, h.i1.below hb, h.i2.below hb, h.od, h.oq, h.on, h.og⟩
theorem HA.app1 (h : HA w wr N P p B bd bn i X done now qs vp vg gens nps a1 a2 l1 l2) {v' : Value} {l' : List Int} (ho : OwnI w' B v' l') (hg : wr.grownBy w' a1.ownBlock) (hw : v'.ownBlock = a1.ownBlock ∨ v'.ownBlock = some wr.heap.size) : HA w w' N P p B bd bn i X done now qs vp vg gens nps v' a2 l' l2 := by
  obtain ⟨k1, k2, k3, k4⟩ := h.lt
  have hlow : ∀ k, k < B → wr.heap[k]? = w'.heap[k]? := fun k hk => (hg.block k (by omega) (fun e => by have := (World.ownsRow.lt h.i1 k e.symm).1; omega)).symm
  exact ⟨h.c.row (T := 3) (by decide) h.i1 h.b.1 hg, h.b, ⟨k1, k2, k3, Nat.le_trans k4 hg.size⟩, (hlow _ k1).symm.trans h.hd, (hlow _ k2).symm.trans h.hn, h.ad.kept hg h.od.1 (row_apart3 h.ad.2 h.i1 (by decide)), fun q hq => (h.aq q hq).kept hg (h.oq q hq).1 (row_apart3 (h.aq q hq).2 h.i1 (by decide)), h.ip.kept hg (row_apart3 h.ip h.i1 (by decide)), h.ig.kept hg h.og, ho, h.i2.kept hg (row_apart3 h.i2 h.i1 (by decide)),
    ⟨off_app h.ad.1 h.od.1 hw, h.od.2⟩, fun q hq => ⟨off_app (h.aq q hq).1 (h.oq q hq).1 hw, (h.oq q hq).2⟩, off_app' h.ig h.on hw, off_app h.ig h.og hw⟩
theorem HA.app2 (h : HA w wr N P p B bd bn i X done now qs vp vg gens nps a1 a2 l1 l2) {v' : Value} {l' : List ByteArray} (ho : OwnS w' B v' l') (hg : wr.grownBy w' a2.ownBlock) (hw : v'.ownBlock = a2.ownBlock ∨ v'.ownBlock = some wr.heap.size) : HA w w' N P p B bd bn i X done now qs vp vg gens nps a1 v' l1 l' := by
  obtain ⟨k1, k2, k3, k4⟩ := h.lt
  have hlow : ∀ k, k < B → wr.heap[k]? = w'.heap[k]? := fun k hk => (hg.block k (by omega) (fun e => by have := (World.ownsRow.lt h.i2 k e.symm).1; omega)).symm
  exact ⟨h.c.row str_off h.i2 h.b.1 hg, h.b, ⟨k1, k2, k3, Nat.le_trans k4 hg.size⟩, (hlow _ k1).symm.trans h.hd, (hlow _ k2).symm.trans h.hn, h.ad.kept hg (row_apart3 h.ad.1 h.i2 (by decide)) h.od.2.1, fun q hq => (h.aq q hq).kept hg (row_apart3 (h.aq q hq).1 h.i2 (by decide)) (h.oq q hq).2.1, h.ip.kept hg (row_apart3 h.ip h.i2 (by decide)), h.ig.kept hg (row_apart3 h.ig h.i2 (by decide)), h.i1.kept hg (row_apart3 h.i1 h.i2 (by decide)), ho,
    ⟨h.od.1, off_app h.ad.2 h.od.2.1 hw, h.od.2.2⟩, fun q hq => ⟨(h.oq q hq).1, off_app (h.aq q hq).2 (h.oq q hq).2.1 hw, (h.oq q hq).2.2⟩, h.on, h.og⟩
theorem HA.done_ (h : HA w wr N P p B bd bn i X done now qs vp vg gens nps a1 a2 (pnos nps) (pstr nps)) (r : Int) (hl : nps.length ≤ i ∧ done.ps.length ≤ i ∧ gens.length ≤ i) : PH w (wr.setRow bn #[a1, a2, .int .i64 r]) N P p B bd bn i X done ⟨a1, a2, r, nps⟩ qs vp vg gens := by
  obtain ⟨k1, k2, k3, k4⟩ := h.lt
  exact ⟨h.c.box h.hn h.b.2.2 _, ⟨⟨k1, k2, k3, by simpa using k4⟩, (setRow_other _ _ _ _ k3).trans h.hd, setRow_heap _ _ _ _ _ _ h.hn, h.ad.box k2 _, HS.At.box (s := ⟨a1, a2, r, nps⟩) ⟨h.i1, h.i2⟩ k2 _, fun q hq => (h.aq q hq).box k2 _, h.ip.kept (grown_setRow _ _ _) (off_box (fun k hk => (World.ownsRow.lt h.ip k hk).1) k2), h.ig.kept (grown_setRow _ _ _) (off_box (fun k hk => (World.ownsRow.lt h.ig k hk).1) k2), h.od, h.oq, h.on, h.og⟩, h.b, hl⟩
end

/-- append(ints, one), as a step of a region that draws its order: and where the row lies behind it. -/
theorem step_oneI {w : World} {ops : Array Oper} {o : Oper} {a : Act} {K : Act → World → Prop} {Q : Exit → Act → World → Prop} {E : Prop} (hgd : o.guard = none) (s x : Operand)
    (ho : o.op = .call { callee := .builtin .append, args := #[s, x], argTypes := #[23, 23] })
    {B : Nat} {v : Value} {l : List Int} (hs : a.eval s = v) (hown : OwnI w B v l) {b c : Nat} {y : Int} (hx : a.eval x = .slice (some ⟨b, 0, none⟩) 1 c) (h0 : w.cell? ⟨b, 0, none⟩ = some (.int .i64 y)) (hlen : l.length ≤ 1000000) (hB : B ≤ w.heap.size)
    (h : ∀ v' w', OwnI w' B v' (l ++ [y]) → w.grownBy w' v.ownBlock → (v'.ownBlock = v.ownBlock ∨ v'.ownBlock = some w.heap.size) → K (a.put o.dst v') w') : if Region.wanted o (yielded ops a.tmps) = true then Oper.wp Tryd.prog o a w K Q else E := by
  have hw : Region.wanted o (yielded ops a.tmps) = true := by simp [Region.wanted, hgd]
  rw [if_pos hw]
  obtain ⟨i, hi, hz0, hz1, hz2⟩ := info_parts info_int
  have hcl : ∀ (j : Nat) u, ([.int .i64 y] : List Value)[j]? = some u → w.cell? ((⟨b, 0, none⟩ : Addr).add j) = some u := fun j u hj => by
    rw [Addr.add_lit, Nat.zero_add]
    match j, hj with
    | 0, hj => cases hj; exact h0
    | j + 1, hj => simp at hj
  have hone : ∀ u ∈ ([.int .i64 y] : List Value), u.oneCell' = true := fun u hu => by obtain rfl := List.mem_singleton.1 hu; rfl
  obtain ⟨v', w', hr, h1, h2, _⟩ := run_append_own (P := Tryd.prog) w B 23 o.type 3 i (.int .i64 0) 1 8 Tryd.underlying23 hi hz0 hz1 hz2 rfl (by decide) v l.length (i64s l) hown ⟨b, 0, none⟩ 1 c [.int .i64 y] rfl hcl hone (by simp only [maxLen]; omega) (by omega) hB
  have hwh := run_app_where (P := Tryd.prog) w B 23 o.type 3 i (.int .i64 0) 1 8 Tryd.underlying23 hi hz0 hz1 hz2 rfl (by decide) v l.length (i64s l) hown ⟨b, 0, none⟩ 1 c [.int .i64 y] rfl hcl hone (by simp only [maxLen]; omega) (by omega) hr
  refine Lib.wp_append_run w s x 23 23 ho v _ hs hx v' w' hr (h v' w' ?_ h2 hwh)
  unfold OwnI
  rw [List.length_append]
  simpa [i64s] using h1
theorem step_oneS {w : World} {ops : Array Oper} {o : Oper} {a : Act} {K : Act → World → Prop} {Q : Exit → Act → World → Prop} {E : Prop} (hgd : o.guard = none) (s x : Operand)
    (ho : o.op = .call { callee := .builtin .append, args := #[s, x], argTypes := #[33, 33] })
    {B : Nat} {v : Value} {l : List ByteArray} (hs : a.eval s = v) (hown : OwnS w B v l) {b c : Nat} {y : ByteArray} (hx : a.eval x = .slice (some ⟨b, 0, none⟩) 1 c) (h0 : w.cell? ⟨b, 0, none⟩ = some (.string y)) (hlen : l.length ≤ 1000000) (hB : B ≤ w.heap.size)
    (h : ∀ v' w', OwnS w' B v' (l ++ [y]) → w.grownBy w' v.ownBlock → (v'.ownBlock = v.ownBlock ∨ v'.ownBlock = some w.heap.size) → K (a.put o.dst v') w') : if Region.wanted o (yielded ops a.tmps) = true then Oper.wp Tryd.prog o a w K Q else E := by
  have hw : Region.wanted o (yielded ops a.tmps) = true := by simp [Region.wanted, hgd]
  rw [if_pos hw]
  obtain ⟨i, hi, hz0, hz1, hz2⟩ := info_parts info_str
  have hcl : ∀ (j : Nat) u, ([.string y] : List Value)[j]? = some u → w.cell? ((⟨b, 0, none⟩ : Addr).add j) = some u := fun j u hj => by
    rw [Addr.add_lit, Nat.zero_add]
    match j, hj with
    | 0, hj => cases hj; exact h0
    | j + 1, hj => simp at hj
  have hone : ∀ u ∈ ([.string y] : List Value), u.oneCell' = true := fun u hu => by obtain rfl := List.mem_singleton.1 hu; rfl
  obtain ⟨v', w', hr, h1, h2, _⟩ := run_append_own (P := Tryd.prog) w B 33 o.type 9 i (.string ⟨#[]⟩) 1 16 Tryd.underlying33 hi hz0 hz1 hz2 rfl (by decide) v l.length (strs l) hown ⟨b, 0, none⟩ 1 c [.string y] rfl hcl hone (by simp only [maxLen]; omega) (by omega) hB
  have hwh := run_app_where (P := Tryd.prog) w B 33 o.type 9 i (.string ⟨#[]⟩) 1 16 Tryd.underlying33 hi hz0 hz1 hz2 rfl (by decide) v l.length (strs l) hown ⟨b, 0, none⟩ 1 c [.string y] rfl hcl hone (by simp only [maxLen]; omega) (by omega) hr
  refine Lib.wp_append_run w s x 33 33 ho v _ hs hx v' w' hr (h v' w' ?_ h2 hwh)
  unfold OwnS
  rw [List.length_append]
  simpa [strs] using h1

theorem box_kept {w w' : World} {b B s n : Nat} {t e : TypeId} {cs : Array Value} {fr : Nat × Nat} {v : Value} {xs : List Value} (hb : w.heap[b]? = some (.cells cs t fr)) (h : w.ownsRow B e s v n xs) (hne : e ≠ t) (hg : w.grownBy w' v.ownBlock) : w'.heap[b]? = some (.cells cs t fr) := by
  refine (hg.block b (Array.getElem?_eq_some_iff.1 hb).1 fun e1 => ?_).trans hb
  rcases h.2 with ⟨rfl, _⟩ | ⟨g, cap, cur, rfl, _, hgg, _⟩
  · cases e1
  · have e2 : b = g := Option.some.inj e1
    subst e2
    rw [hgg] at hb
    cases hb
    exact hne rfl
theorem set0_row {w : World} {g : Nat} {a b c z : Value} {t : TypeId} (h : w.heap[g]? = some (.cells #[a, b, c] t (0, 0))) : w.setCell ⟨g, 0, none⟩ z = w.setRow g #[z, b, c] := by
  unfold World.setCell World.setRow
  dsimp only
  congr 1
  apply Array.ext_getElem?
  intro k
  by_cases hk : g = k
  · subst hk
    simp [Array.getElem?_modify, h]
  · simp [Array.getElem?_modify, hk]
theorem set01_row {w : World} {g : Nat} {a b c z : Value} {t : TypeId} (h : w.heap[g]? = some (.cells #[a, b, c] t (0, 0))) : w.setCell ⟨g, 1, none⟩ z = w.setRow g #[a, z, c] := by
  unfold World.setCell World.setRow
  dsimp only
  congr 1
  apply Array.ext_getElem?
  intro k
  by_cases hk : g = k
  · subst hk
    simp [Array.getElem?_modify, h]
  · simp [Array.getElem?_modify, hk]
theorem setRow_twice (w : World) (g : Nat) (a b : Array Value) : (w.setRow g a).setRow g b = w.setRow g b := by
  unfold World.setRow
  dsimp only
  congr 1
  apply Array.ext_getElem?
  intro k
  by_cases hk : g = k
  · subst hk
    simp [Array.getElem?_modify]
    cases w.heap[g]? with
    | none => rfl
    | some o => cases o <;> rfl
  · simp [Array.getElem?_modify, hk]

end Go.Proofs.YtmlnpgbnbchbkaaDoor
