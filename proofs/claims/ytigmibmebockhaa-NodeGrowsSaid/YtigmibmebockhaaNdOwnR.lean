/-
  The laws' own: a node for the reference: its contract.
-/
import Derived.Test.YtigmibmebockhaaNdSt
import Derived.Test.YtigmibmebockhaaNdRight
import Derived.Deep.CutBlock
import Derived.Deep.CutRange
set_option linter.unusedVariables false
set_option linter.unusedSimpArgs false
set_option maxRecDepth 100000
namespace Go.Proofs.Ytigmibmebockhaa
open Go.RowKit

theorem info_valR : (Try.prog.info? 65).map (fun i => (i.zero, i.size, i.bytes)) = some (some (.agg #[.slice none 0 0, .int .i64 0, .int .i64 0]), 3, 40) := by kernel_rfl
def VOwnR (w : World) (B : Nat) (v : Value) (l : List Vl) : Prop := w.ownsRow B 65 3 v l.length (vCells l)
theorem vownR_lie {w : World} {B : Nat} {q : Option Addr} {n c : Nat} {l : List Vl} (h : VOwnR w B (.slice q n c) l) : Vls w q l := by
  intro hne
  rcases h.2 with ⟨_, h0⟩ | ⟨g, cap, cur, hv, hb, hg, _⟩
  · exact absurd (List.eq_nil_of_length_eq_zero h0) hne
  · cases hv
    refine ⟨g, 0, rfl, fun i x hi => ?_⟩
    obtain ⟨c0, c1, c2⟩ := vCells_get hi
    have r0 := h.cells (g := g) rfl _ _ c0
    have r1 := h.cells (g := g) rfl _ _ c1
    have r2 := h.cells (g := g) rfl _ _ c2
    rw [Addr.add_lit] at r0 r1 r2
    rw [Nat.zero_add] at r0 r1 r2 ⊢
    exact ⟨r0, r1, r2⟩
theorem step_appVR {w : World} {ops : Array Oper} {o : Oper} {a : Act} {K : Act → World → Prop} {Q : Exit → Act → World → Prop} {E : Prop} (hgd : o.guard = none) (s x : Operand)
    (ho : o.op = .call { callee := .builtin .append, args := #[s, x], argTypes := #[31, 31] })
    {B : Nat} {v : Value} {l : List Vl} (u : Vl) (hs : a.eval s = v) (hown : VOwnR w B v l) {b c : Nat} (hx : a.eval x = .slice (some ⟨b, 0, none⟩) 1 c) {fr : Nat × Nat} {t : TypeId} (h0 : w.heap[b]? = some (.cells #[.slice u.q u.l.length u.c, .int .i64 u.g, .int .i64 u.p] t fr)) (hlen : l.length ≤ 1000000) (hB : B ≤ w.heap.size)
    (h : ∀ q n c' w', n = (l ++ [u]).length → VOwnR w' B (.slice q n c') (l ++ [u]) → w.grownBy w' v.ownBlock → K (a.put o.dst (.slice q n c')) w') : if Region.wanted o (yielded ops a.tmps) = true then Oper.wp Try.prog o a w K Q else E := by
  have hw : Region.wanted o (yielded ops a.tmps) = true := by simp [Region.wanted, hgd]
  rw [if_pos hw]
  obtain ⟨i, hi, hz0, hz1, hz2⟩ := info_parts info_valR
  obtain ⟨v', w', hr, h1, h2⟩ := run_app1 (w := w) o.type 31 65 i _ 3 40 Try.underlying31 hi hz0 hz1 hz2 rfl (by decide) (by decide) hown (ad := ⟨b, 0, none⟩) (c := c) (news := vCells [u]) rfl (fun j y hj => by
    rw [Addr.add_lit, Nat.zero_add, Joins.cell_of_block h0]
    simpa [vCells] using hj) (fun y hy => by simp only [vCells, List.mem_cons, List.not_mem_nil, or_false] at hy; rcases hy with rfl | rfl | rfl <;> rfl) hlen hB
  have h1' : VOwnR w' B v' (l ++ [u]) := by
    unfold VOwnR
    rw [List.length_append, ← vCells_append]
    exact h1
  obtain ⟨q, c', rfl, _⟩ := row_form h1'
  exact Lib.wp_append_run w s x 31 31 ho v _ hs hx _ w' hr (h q _ c' w' rfl h1' h2)

/-- The same node. -/
def OwnPost (w : World) (s : NdS) (e : Ending) (w' : World) : Prop := ∃ m : Nd, e = .returned m.cell ∧ m.s = s ∧ m.Ok w' ∧ Below w.heap.size w w'

/-- What stands while its values are laid: j of them are. -/
structure OSt (w0 : World) (wr : World) (n : Nd) (j : Nat) (q : Option Addr) (c : Nat) : Prop where
  box : wr.heap[w0.heap.size + 2]? = some (.cells #[.bool n.leaf, .slice n.kq n.ks.length n.kc, .slice q j c, .slice n.iq n.is.length n.ic] 33 (0, 0))
  res : wr.heap[w0.heap.size + 1]? = some (.cells #[.bool false, .slice none 0 0, .slice none 0 0, .slice none 0 0] 33 (0, 0))
  arg : wr.heap[w0.heap.size]? = some (.cells #[.bool n.leaf, .slice n.kq n.ks.length n.kc, .slice n.vq n.vs.length n.vc, .slice n.iq n.is.length n.ic] 27 (0, 0))
  vo : VOwnR wr (w0.heap.size + 3) (.slice q j c) (n.vs.take j)
  below : Below w0.heap.size w0 wr
  size : w0.heap.size + 3 ≤ wr.heap.size
theorem OSt.next {w0 w w2 : World} {n : Nd} {j : Nat} {q : Option Addr} {c : Nat} (h : OSt w0 w n j q c) {o : Obj} {q' : Option Addr} {m c' : Nat} {x : Vl} (hx : n.vs[j]? = some x) (hm : m = (n.vs.take j ++ [x]).length) (ho : VOwnR w2 (w0.heap.size + 3) (.slice q' m c') (n.vs.take j ++ [x])) (hg : (w.alloc o).grownBy w2 (Value.slice q j c).ownBlock) :
    OSt w0 (w2.setCell ⟨w0.heap.size + 2, 2, none⟩ (.slice q' m c')) n (j + 1) q' c' ∧ w2.heap[w0.heap.size + 2]? = some (.cells #[.bool n.leaf, .slice n.kq n.ks.length n.kc, .slice q j c, .slice n.iq n.is.length n.ic] 33 (0, 0)) := by
  have hgw := gr_pre ((Below.refl w.heap.size w).alloc (Nat.le_refl _) o) hg
  have hlow : ∀ k, (Value.slice q j c).ownBlock = some k → w0.heap.size + 3 ≤ k := fun k hk => (World.ownsRow.lt h.vo k hk).1
  have hne : ∀ i, i < w0.heap.size + 3 → (some i : Option Nat) ≠ (Value.slice q j c).ownBlock := fun i hi e => by have := hlow i e.symm; omega
  have hsz := h.size
  have hbox := (hgw.block (w0.heap.size + 2) (by omega) (hne _ (by omega))).trans h.box
  have hres := (hgw.block (w0.heap.size + 1) (by omega) (hne _ (by omega))).trans h.res
  have harg := (hgw.block w0.heap.size (by omega) (hne _ (by omega))).trans h.arg
  have hs := gr_set w2 (w0.heap.size + 2) 2 (.slice q' m c')
  have htk : n.vs.take (j + 1) = n.vs.take j ++ [x] := by rw [List.take_add_one, hx]; rfl
  have hj : j < n.vs.length := (List.getElem?_eq_some_iff.1 hx).1
  have hm2 : m = j + 1 := by rw [hm, List.length_append, List.length_take, Nat.min_eq_left (by omega)]; rfl
  subst hm2
  refine ⟨⟨by simp [World.setCell, Array.getElem?_modify, hbox], by rw [set_ne (by omega)]; exact hres, by rw [set_ne (by omega)]; exact harg, by rw [htk]; exact World.ownsRow.kept ho hs (.inr (row_other ho hbox (by decide))), ?_, by have := hgw.size; simp; omega⟩, hbox⟩
  exact (h.below.trans (gr_low hgw (by omega) (fun k hk => by have := hlow k hk; omega))).setCell (p := ⟨w0.heap.size + 2, 2, none⟩) (by show _ ≤ _ + 2; omega) _

theorem own_done {w wr w' : World} {n : Nd} {j : Nat} {q : Option Addr} {c : Nat} (h : n.Ok w) (hst : OSt w wr n j q c) (hj : j = n.vs.length) (hg : wr.grownBy w' (some (w.heap.size + 1))) : Nd.Ok w' { n with vq := q, vc := c } ∧ Below w.heap.size w w' := by
  have hsz := hst.size
  have hb : Below w.heap.size w w' := hst.below.trans (gr_low hg (by omega) (fun k hk => by have := Option.some.inj hk; omega))
  have ho : VOwnR w' (w.heap.size + 3) (.slice q j c) (n.vs.take j) := World.ownsRow.kept hst.vo hg (.inr (row_other hst.vo hst.res (by decide)))
  rw [List.take_of_length_le (by omega)] at ho
  have h' := h.below hb
  obtain ⟨q2, c2, e2, b1, b2, b3, _⟩ := row_form ho
  cases e2
  exact ⟨⟨h'.k1, h'.k2, h'.kz, h'.kl, h'.ko, b1, b2, b3, vownR_lie ho, h'.vo, h'.i1, h'.i2, h'.iz, h'.il, h'.io⟩, hb⟩

set_option maxHeartbeats 3200000 in
theorem own_any {w : World} {n : Nd} (h : n.Ok w) (hc : n.s.count ≤ 100000) :
    Calls Try.prog 12 #[n.cell] w (OwnPost w n.s) := by
  obtain ⟨f1, f2, f3, _⟩ := Nd.few hc
  have HOK := Lib.hid h
  have hcell : n.cell = .agg #[.bool n.leaf, .slice n.kq n.ks.length n.kc, .slice n.vq n.vs.length n.vc, .slice n.iq n.is.length n.ic] := rfl
  have v1 := h.v1
  have v2 := h.v2
  have HB3 := Lib.hid (boxes3 w #[.bool n.leaf, .slice n.kq n.ks.length n.kc, .slice n.vq n.vs.length n.vc, .slice n.iq n.is.length n.ic] #[.bool false, .slice none 0 0, .slice none 0 0, .slice none 0 0] #[.bool n.leaf, .slice n.kq n.ks.length n.kc, .slice none 0 0, .slice n.iq n.is.length n.ic] 27 33 33)
  obtain ⟨W, hW⟩ : ∃ W, W = (((w.alloc (.cells #[.bool n.leaf, .slice n.kq n.ks.length n.kc, .slice n.vq n.vs.length n.vc, .slice n.iq n.is.length n.ic] 27)).alloc (.cells #[.bool false, .slice none 0 0, .slice none 0 0, .slice none 0 0] 33)).alloc (.cells #[.bool n.leaf, .slice n.kq n.ks.length n.kc, .slice none 0 0, .slice n.iq n.is.length n.ic] 33)) := ⟨_, rfl⟩
  have HST0 : Hid (OSt w W n 0 none 0) := Lib.hid (by
    rw [hW]
    exact ⟨HB3.out.2.2.1, HB3.out.2.1, HB3.out.1, World.ownsRow_nil _ _ _ _, HB3.out.2.2.2.1, by rw [HB3.out.2.2.2.2]; omega⟩)
  clear HB3
  rw [hcell]
  clear h hc hcell
  go_enter Try.func12, Try.ntmps12
  go_wp2_with fail
  rw [show w.heap.size + 1 + 1 = w.heap.size + 2 from rfl]
  rw [← hW]
  replace hW := Lib.hid hW
  obtain ⟨vm, hvm⟩ : ∃ m, m = n.vs.length := ⟨_, rfl⟩
  have HVM := Lib.hid hvm
  go_loopw [4] (fun i wr => ∃ (j c : Nat) (q : Option Addr), i = .int .i64 (j : Int) ∧ j ≤ vm ∧ OSt w wr n j q c) (fun i _ => vm - (intOf i).toNat)
  case atStart => exact ⟨0, 0, none, rfl, by omega, HST0.out⟩
  case round =>
    clear HST0
    obtain ⟨j, c, q, rfl, hj, hst⟩ := hrel
    have HST := Lib.hid hst
    have a2 : wr.cell? ⟨w.heap.size, 2, none⟩ = some (.slice n.vq n.vs.length n.vc) := Joins.cell_of_block hst.arg 2
    have b0 : wr.cell? ⟨w.heap.size + 2, 0, none⟩ = some (.bool n.leaf) := Joins.cell_of_block hst.box 0
    have b1 : wr.cell? ⟨w.heap.size + 2, 1, none⟩ = some (.slice n.kq n.ks.length n.kc) := Joins.cell_of_block hst.box 1
    have b2 : wr.cell? ⟨w.heap.size + 2, 2, none⟩ = some (.slice q j c) := Joins.cell_of_block hst.box 2
    have b3 : wr.cell? ⟨w.heap.size + 2, 3, none⟩ = some (.slice n.iq n.is.length n.ic) := Joins.cell_of_block hst.box 3
    have hsz := hst.size
    have hs0 : w.heap.size < wr.heap.size := by omega
    have hs1 : w.heap.size + 1 < wr.heap.size := by omega
    have hs2 : w.heap.size + 2 < wr.heap.size := by omega
    rw [← hvm] at a2 v1 f2
    clear hst
    by_cases hlt : j < vm
    · obtain ⟨x, hx⟩ : ∃ x, n.vs[j]? = some x := ⟨_, List.getElem?_eq_getElem (by have := HVM.out; omega)⟩
      have HX := Lib.hid hx
      obtain ⟨b, o, hq, hblt, x0, x1, x2⟩ := ((HOK.out.below HST.out.below).vl).at hx
      have hblt2 : b < w.heap.size := by
        obtain ⟨b', o', hq', hb', _⟩ := (HOK.out.vl).at hx
        rw [hq] at hq'
        cases hq'
        exact hb'
      rw [hq] at a2
      clear hx hvm
      have hji : (j : Int) < vm := by omega
      go_wp2_with fail
      go_region_law (first
        | (refine step_appVR rfl (.tmp 20) (.tmp 26) rfl (l := n.vs.take j) x rfl (World.ownsRow.alloc HST.out.vo (.cells #[.slice x.q x.l.length x.c, .int .i64 x.g, .int .i64 x.p] 65)) rfl (heap_alloc_new wr _) (by rw [List.length_take]; omega) (by simp; omega) ?_; intro q4 n4 c4' w4 hn4 ho4 hg4; obtain ⟨hst4, hb4⟩ := HST.out.next HX.out hn4 ho4 ⟨hg4.os, hg4.tape, hg4.output, hg4.size, hg4.block⟩; have HST4 := Lib.hid hst4; have z2 := (Joins.cell_of_block hb4 2).trans rfl; have y2 := Joins.unfrozen_of_block hb4 2; have hA4 := (Array.getElem?_eq_some_iff.1 hb4).1; clear hn4 ho4 hg4 hst4 hb4)
        | fail)
      all_goals
        generalize (w4.setCell ⟨w.heap.size + 2, 2, none⟩ (.slice q4 n4 c4')) = w5 at *
        go_wp2_with fail
        rw [← hq]
        go_roundw
        case rel => exact ⟨j + 1, c4', q4, by go_num, by omega, HST4.out⟩
        case measure => simp [intOf]; omega
    · have r0 : wr.cell? ⟨w.heap.size + 1, 0, none⟩ = some (.bool false) := Joins.cell_of_block HST.out.res 0
      have r1 : wr.cell? ⟨w.heap.size + 1, 1, none⟩ = some (.slice none 0 0) := Joins.cell_of_block HST.out.res 1
      have r2 : wr.cell? ⟨w.heap.size + 1, 2, none⟩ = some (.slice none 0 0) := Joins.cell_of_block HST.out.res 2
      have r3 : wr.cell? ⟨w.heap.size + 1, 3, none⟩ = some (.slice none 0 0) := Joins.cell_of_block HST.out.res 3
      have u0 := Joins.unfrozen_of_block HST.out.res 0
      have u1 := Joins.unfrozen_of_block HST.out.res 1
      have u2 := Joins.unfrozen_of_block HST.out.res 2
      have u3 := Joins.unfrozen_of_block HST.out.res 3
      have hjv : j = n.vs.length := by omega
      have HJV := Lib.hid hjv
      clear hvm hjv
      go_wp2
      refine bodyPost_ret (results_cell_row rfl _ _ (w.heap.size + 1) 33 _ (0, 0) _ (by kernel_rfl) (set4 HST.out.res) Try.underlying33 rfl (by kernel_rfl)) rfl ?_
      obtain ⟨h1, h2⟩ := own_done HOK.out HST.out HJV.out (gb4 wr (w.heap.size + 1) (.bool n.leaf) (.slice n.kq n.ks.length n.kc) (.slice q j c) (.slice n.iq n.is.length n.ic))
      refine ⟨{ n with vq := q, vc := c }, ?_, rfl, h1, h2⟩
      unfold Nd.cell
      rw [HJV.out]

end Go.Proofs.Ytigmibmebockhaa
