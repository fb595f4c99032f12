/-
  node's rest: leaf: its contract.
-/
import Derived.Test.YtigmibmebockhaaNdSt
import Derived.Deep.CutBlock
import Derived.Deep.CutRange
import Derived.Laws.MakeOwn
set_option linter.unusedVariables false
set_option linter.unusedSimpArgs false
set_option maxRecDepth 100000
namespace Go.Proofs.Ytigmibmebockhaa
open Go.RowKit

/-- The entries that are read. -/
def rdL : Nat → List UInt8 → List (List UInt8 × VlS)
  | 0, _ => []
  | m + 1, l => if l.isEmpty then [] else ((textR l).1, (valR (textR l).2).1) :: rdL m (valR (textR l).2).2
def leafS (l : List UInt8) : NdS := ⟨true, (rdL (leN (l.take 1)) (l.drop 1)).map Prod.fst, (rdL (leN (l.take 1)) (l.drop 1)).map Prod.snd, []⟩

theorem makeK (m : Nat) (hm : m ≤ 255) : ∃ Z : Array Value, (∀ w : World, (Instr.makeSlice 23 (.int .i64 0) (.int .i64 (m : Int))).run Try.prog w = .ok (.slice (some ⟨w.heap.size, 0, none⟩) 0 m) (w.alloc (.cells Z 22))) ∧
    ∀ (w : World) (k B : Nat), B ≤ k → w.heap[k]? = some (.cells Z 22 (0, 0)) → KOwn w B (.slice (some ⟨k, 0, none⟩) 0 m) [] := by
  obtain ⟨i, hi, hz0, hz1, hz2⟩ := info_parts info_key
  refine ⟨_, fun w => (run_makeSlice (P := Try.prog) (w := w) 23 22 i _ Try.underlying23 hi hz0 .i64 .i64 0 (m : Int) (by omega) (by omega) (by rw [hz1]; omega) (by rw [hz2]; omega) (by omega)).trans rfl, fun w k B hB hk => ?_⟩
  refine ⟨rfl, .inr ⟨k, m, _, rfl, hB, hk, Nat.zero_le _, by unfold maxLen; omega, ?_, rfl⟩⟩
  rw [hz1]
  simp [madeCells, Value.cells]
theorem makeV (m : Nat) (hm : m ≤ 255) : ∃ Z : Array Value, (∀ w : World, (Instr.makeSlice 24 (.int .i64 0) (.int .i64 (m : Int))).run Try.prog w = .ok (.slice (some ⟨w.heap.size, 0, none⟩) 0 m) (w.alloc (.cells Z 42))) ∧
    ∀ (w : World) (k B : Nat), B ≤ k → w.heap[k]? = some (.cells Z 42 (0, 0)) → VOwn w B (.slice (some ⟨k, 0, none⟩) 0 m) [] := by
  obtain ⟨i, hi, hz0, hz1, hz2⟩ := info_parts info_val
  refine ⟨_, fun w => (run_makeSlice (P := Try.prog) (w := w) 24 42 i _ Try.underlying24 hi hz0 .i64 .i64 0 (m : Int) (by omega) (by omega) (by rw [hz1]; omega) (by rw [hz2]; omega) (by omega)).trans rfl, fun w k B hB hk => ?_⟩
  refine ⟨rfl, .inr ⟨k, m, _, rfl, hB, hk, Nat.zero_le _, by unfold maxLen; omega, ?_, rfl⟩⟩
  rw [hz1]
  simp [madeCells, Value.cells]
theorem makeI (m : Nat) (hm : m ≤ 256) : ∃ Z : Array Value, (∀ w : World, (Instr.makeSlice 25 (.int .i64 0) (.int .i64 (m : Int))).run Try.prog w = .ok (.slice (some ⟨w.heap.size, 0, none⟩) 0 m) (w.alloc (.cells Z 3))) ∧
    ∀ (w : World) (k B : Nat), B ≤ k → w.heap[k]? = some (.cells Z 3 (0, 0)) → OwnI w B (.slice (some ⟨k, 0, none⟩) 0 m) [] := by
  obtain ⟨i, hi, hz0, hz1, hz2⟩ := info_parts info_int
  refine ⟨_, fun w => (run_makeSlice (P := Try.prog) (w := w) 25 3 i _ Try.underlying25 hi hz0 .i64 .i64 0 (m : Int) (by omega) (by omega) (by rw [hz1]; omega) (by rw [hz2]; omega) (by omega)).trans rfl, fun w k B hB hk => ?_⟩
  refine ⟨rfl, .inr ⟨k, m, _, rfl, hB, hk, Nat.zero_le _, by unfold maxLen; omega, ?_, rfl⟩⟩
  rw [hz1]
  simp [madeCells, Value.cells]

/-- How many keys the box at A has. -/
def lenAt (w : World) (A : Nat) : Nat := match w.cell? ⟨A, 1, none⟩ with | some (.slice _ n _) => n | _ => 0

theorem NSt.start {w0 w w' : World} {g A : Nat} {n : Nd} {l : List UInt8} (hs : w0.heap.size < w.heap.size) (hb : Below w.heap.size w w') (hR : w.heap[w0.heap.size]? = some (.cells #[.bool false, .slice none 0 0, .slice none 0 0, .slice none 0 0] 27 (0, 0))) (hr : Rs w g l) (hg : w0.grownBy w (some g)) (hgl : g < w0.heap.size)
    (hA : w.heap.size ≤ A) (hbox : w'.heap[A]? = some (.cells #[.bool n.leaf, .slice n.kq n.ks.length n.kc, .slice n.vq n.vs.length n.vc, .slice n.iq n.is.length n.ic] 27 (0, 0)))
    (hk : KOwn w' w0.heap.size (.slice n.kq n.ks.length n.kc) n.ks) (hv : VOwn w' w0.heap.size (.slice n.vq n.vs.length n.vc) n.vs) (hi : OwnI w' w0.heap.size (.slice n.iq n.is.length n.ic) n.is) (h1 : n.ks = []) (h2 : n.vs = []) (h3 : n.is = []) : NSt w0 w' g A n l :=
  ⟨hbox, (hb.block _ hs).trans hR, hk, hv, hi, by rw [h1]; simp, by rw [h2]; simp, by rw [h3]; simp, hr.below hb, gb_gr hg (gr_pre hb ⟨rfl, rfl, rfl, Nat.le_refl _, fun _ _ _ => rfl⟩ : w.grownBy w' none) (fun k hk => by cases hk), hgl, by omega⟩

structure LfInv (m : Nat) (d : List UInt8) (n : Nd) (l : List UInt8) : Prop where
  leaf : n.leaf = true
  is : n.is = []
  le : n.ks.length ≤ m
  vk : n.vs.length = n.ks.length
  ks : n.ks.map Kb.l ++ (rdL (m - n.ks.length) l).map Prod.fst = (rdL m d).map Prod.fst
  vs : n.vs.map Vl.s ++ (rdL (m - n.ks.length) l).map Prod.snd = (rdL m d).map Prod.snd
  len : l.length ≤ 100000
theorem rdL_more {m j : Nat} {l : List UInt8} (hj : j < m) (hl : l ≠ []) : rdL (m - j) l = ((textR l).1, (valR (textR l).2).1) :: rdL (m - (j + 1)) (valR (textR l).2).2 := by
  rw [show m - j = (m - (j + 1)) + 1 by omega, rdL, if_neg (by simpa using hl)]
theorem rdL_end {m j : Nat} {l : List UInt8} (h : m ≤ j ∨ l = []) : rdL (m - j) l = [] := by
  rcases h with h | h
  · rw [show m - j = 0 by omega]; rfl
  · subst h
    cases m - j <;> rfl
theorem textR_len (l : List UInt8) : (textR l).2.length ≤ l.length := by unfold textR; simp only [List.length_drop]; omega
theorem valR_len (l : List UInt8) : (valR l).2.length ≤ l.length := by unfold valR; split <;> simp only [List.length_drop] <;> omega

theorem LfInv.step {m : Nat} {d l : List UInt8} {n n2 : Nd} (h : LfInv m d n l) (hj : n.ks.length < m) (hl : 0 < l.length) {x : Kb} {y : Vl} (h1 : n2.leaf = n.leaf) (h2 : n2.is = n.is) (h3 : n2.ks = n.ks ++ [x]) (h4 : n2.vs = n.vs ++ [y]) (hx : x.l = (textR l).1) (hy : y.s = (valR (textR l).2).1) : LfInv m d n2 (valR (textR l).2).2 := by
  have hm := rdL_more (l := l) hj (fun e => by subst e; simp at hl)
  have hks := h.ks
  have hvs := h.vs
  rw [hm] at hks hvs
  refine ⟨h1.trans h.leaf, h2.trans h.is, by rw [h3, List.length_append]; simp only [List.length_singleton]; omega, by rw [h3, h4, List.length_append, List.length_append, h.vk]; rfl, ?_, ?_, Nat.le_trans (valR_len _) (Nat.le_trans (textR_len _) h.len)⟩
  · rw [h3, ← hks, List.map_append, List.length_append]
    simp [hx]
  · rw [h3, h4, ← hvs, List.map_append, List.length_append]
    simp [hy]

theorem leaf_end {m : Nat} {d l : List UInt8} {n : Nd} (h : LfInv m d n l) (hE : rdL (m - n.ks.length) l = []) : n.s = ⟨true, (rdL m d).map Prod.fst, (rdL m d).map Prod.snd, []⟩ := by
  have h1 := h.ks
  have h2 := h.vs
  rw [hE] at h1 h2
  simp only [List.map_nil, List.append_nil] at h1 h2
  unfold Nd.s
  rw [h.leaf, h.is, h1, h2]

/-- The node that was read. -/
def NodePost (w : World) (g : Nat) (s : NdS) (e : Ending) (w' : World) : Prop := ∃ n : Nd, e = .returned n.cell ∧ n.s = s ∧ NOwn w' n ∧ w.grownBy w' (some g)

theorem NSt.boxAt {w0 w w1 w2 : World} {g A size m : Nat} {n : Nd} {l : List UInt8} (h : NSt w0 w g A n l) (hb : Below w.heap.size w w1) {e : TypeId} {v : Value} {xs : List Value} (ho : w.ownsRow w0.heap.size e size v m xs) (h1 : 27 ≠ e) (h2 : 76 ≠ e) (hg : w1.grownBy w2 v.ownBlock) :
    w2.heap[A]? = some (.cells #[.bool n.leaf, .slice n.kq n.ks.length n.kc, .slice n.vq n.vs.length n.vc, .slice n.iq n.is.length n.ic] 27 (0, 0)) :=
  ((gr_pre hb hg).block A h.lt (h.ne ho h1 h2).1.symm).trans h.box

set_option maxHeartbeats 3200000 in
theorem leaf_any {w : World} {g : Nat} {l : List UInt8} (h : Rs w g l) (hl : l.length ≤ 100000) :
    Calls Try.prog 38 #[.pointer (some ⟨g, 0, none⟩)] w (NodePost w g (leafS l)) := by
  have hlt := h.lt
  obtain ⟨W, hW⟩ : ∃ W, W = w.alloc (.cells #[.bool false, .slice none 0 0, .slice none 0 0, .slice none 0 0] 27) := ⟨_, rfl⟩
  have HBW : Hid (Below w.heap.size w W) := Lib.hid (by rw [hW]; exact (Below.refl _ _).alloc (Nat.le_refl _) _)
  have HRES : Hid (W.heap[w.heap.size]? = some (.cells #[.bool false, .slice none 0 0, .slice none 0 0, .slice none 0 0] 27 (0, 0))) := Lib.hid (by rw [hW]; exact heap_alloc_new w _)
  have HR0 := Lib.hid (h.below HBW.out)
  have HN := Lib.hid (number_any HR0.out hl 1 (by omega))
  have h255 := leN_one l
  unfold leafS
  have hd : (l.drop 1).length ≤ 100000 := by rw [List.length_drop]; omega
  generalize leN (l.take 1) = m at *
  generalize l.drop 1 = d at *
  clear h hl
  obtain ⟨Z1, hm1, ho1⟩ := makeK m (by omega)
  obtain ⟨Z2, hm2, ho2⟩ := makeV m (by omega)
  have HO1 := Lib.hid ho1
  have HO2 := Lib.hid ho2
  clear ho1 ho2
  go_enter Try.func38, Try.ntmps38
  go_wp2_with fail
  rw [← hW]
  replace hW := Lib.hid hW
  refine HN.out.mono ?_
  rintro e w1 ⟨rfl, hr, hg⟩
  have HR1 := Lib.hid hr
  have HG1 := Lib.hid (gb_trans (gb_below HBW.out) hg)
  have HRES1 : Hid (w1.heap[w.heap.size]? = some (.cells #[.bool false, .slice none 0 0, .slice none 0 0, .slice none 0 0] 27 (0, 0))) := Lib.hid ((hg.block _ (Array.getElem?_eq_some_iff.1 HRES.out).1 (fun e => by have := Option.some.inj e; omega)).trans HRES.out)
  clear hr hg HN
  go_wp2_with fail
  have hs1 : w.heap.size < w1.heap.size := (Array.getElem?_eq_some_iff.1 HRES1.out).1
  have HS1 := Lib.hid hs1
  go_cut [4] from 7 to 11 (fun x4 wx => ∃ (A k1 k2 : Nat), x4 = .pointer (some ⟨A, 0, none⟩) ∧ NSt w wx g A ⟨true, some ⟨k1, 0, none⟩, m, [], some ⟨k2, 0, none⟩, m, [], none, 0, []⟩ d)
  case first =>
    have HST : Hid (∀ (w' : World) (A k1 k2 : Nat), Below w1.heap.size w1 w' → w1.heap.size ≤ A → w1.heap.size ≤ k1 → w1.heap.size ≤ k2 → w'.heap[k1]? = some (.cells Z1 22 (0, 0)) → w'.heap[k2]? = some (.cells Z2 42 (0, 0)) →
        w'.heap[A]? = some (.cells #[.bool true, .slice (some ⟨k1, 0, none⟩) 0 m, .slice (some ⟨k2, 0, none⟩) 0 m, .slice none 0 0] 27 (0, 0)) → NSt w w'.drew g A ⟨true, some ⟨k1, 0, none⟩, m, [], some ⟨k2, 0, none⟩, m, [], none, 0, []⟩ d) := Lib.hid fun w' A k1 k2 hb hA hk1 hk2 h1 h2 h3 =>
      NSt.start hs1 hb.drew HRES1.out HR1.out HG1.out hlt hA h3 (HO1.out w'.drew k1 _ (by omega) h1) (HO2.out w'.drew k2 _ (by omega) h2) (OwnI.nil _ _) rfl rfl rfl
    go_region
    all_goals
      go_wp2_with fail
      go_meet
      first
        | exact ⟨_, _, _, rfl, HST.out _ _ _ _ (boxes3 w1 _ _ _ _ _ _).2.2.2.1 (by omega) (by omega) (by omega) (boxes3 w1 _ _ _ _ _ _).1 (boxes3 w1 _ _ _ _ _ _).2.1 (boxes3 w1 _ _ _ _ _ _).2.2.1⟩
        | exact ⟨_, _, _, rfl, HST.out _ _ _ _ (boxes3 w1 _ _ _ _ _ _).2.2.2.1 (by omega) (by omega) (by omega) (boxes3 w1 _ _ _ _ _ _).1 (boxes3 w1 _ _ _ _ _ _).2.2.1 (boxes3 w1 _ _ _ _ _ _).2.1⟩
        | exact ⟨_, _, _, rfl, HST.out _ _ _ _ (boxes3 w1 _ _ _ _ _ _).2.2.2.1 (by omega) (by omega) (by omega) (boxes3 w1 _ _ _ _ _ _).2.1 (boxes3 w1 _ _ _ _ _ _).1 (boxes3 w1 _ _ _ _ _ _).2.2.1⟩
        | exact ⟨_, _, _, rfl, HST.out _ _ _ _ (boxes3 w1 _ _ _ _ _ _).2.2.2.1 (by omega) (by omega) (by omega) (boxes3 w1 _ _ _ _ _ _).2.1 (boxes3 w1 _ _ _ _ _ _).2.2.1 (boxes3 w1 _ _ _ _ _ _).1⟩
        | exact ⟨_, _, _, rfl, HST.out _ _ _ _ (boxes3 w1 _ _ _ _ _ _).2.2.2.1 (by omega) (by omega) (by omega) (boxes3 w1 _ _ _ _ _ _).2.2.1 (boxes3 w1 _ _ _ _ _ _).1 (boxes3 w1 _ _ _ _ _ _).2.1⟩
        | exact ⟨_, _, _, rfl, HST.out _ _ _ _ (boxes3 w1 _ _ _ _ _ _).2.2.2.1 (by omega) (by omega) (by omega) (boxes3 w1 _ _ _ _ _ _).2.2.1 (boxes3 w1 _ _ _ _ _ _).2.1 (boxes3 w1 _ _ _ _ _ _).1⟩
        | fail
  case rest =>
    obtain ⟨A, k1, k2, rfl, hst⟩ := hcut
    have HST := Lib.hid hst
    clear hst hm1 hm2 HO1 HO2
    have HLI : Hid (LfInv m d ⟨true, some ⟨k1, 0, none⟩, m, [], some ⟨k2, 0, none⟩, m, [], none, 0, []⟩ d) := Lib.hid ⟨rfl, rfl, Nat.zero_le _, rfl, rfl, rfl, hd⟩
    go_wp2_with fail
    go_loopw [12] (fun _ wr => ∃ n l', NSt w wr g A n l' ∧ LfInv m d n l') (fun _ wr => m - lenAt wr A)
    case atStart => exact ⟨_, _, HST.out, HLI.out⟩
    case round =>
      clear HST HLI
      obtain ⟨n, l', hst, hli⟩ := hrel
      have HST := Lib.hid hst
      have HLI := Lib.hid hli
      obtain ⟨⟨c0, c1, c2, c3⟩, fz⟩ := hst.cells
      have hA := hst.lt
      have HLA : Hid (lenAt wr A = n.ks.length) := Lib.hid (by unfold lenAt; rw [c1])
      obtain ⟨rp, rn, rc, rb, rbs, rhn, rh1, rh2, rhz, _⟩ := hst.rs
      have d0 : wr.cell? ⟨g, 0, none⟩ = some (.slice rp rn rc) := Joins.cell_of_block rb 0
      have hgw := hst.rs.lt
      have HRN := Lib.hid rhn
      have hkf := row_form hst.ko
      have hle := hli.le
      have hvk := hli.vk
      obtain ⟨_, _, hke, hk1, hk2, _⟩ := hkf
      cases hke
      obtain ⟨j, hj⟩ : ∃ j, j = n.ks.length := ⟨_, rfl⟩
      have HJ := Lib.hid hj
      rw [← hj] at c1 hk1 hle hvk
      rw [hvk] at c2
      clear hst hli rb rbs rhn hvk hj
      by_cases hjm : j < m
      · by_cases hrn : 0 < rn
        · have HTX := Lib.hid (text_any (w := wr.drew) (HST.out.below (Below.refl _ _).drew).rs HLI.out.len)
          have HLT2 := Lib.hid (textR_len l')
          go_wp2_with fail
          go_cut [25] from 26 to 31 (fun _ wx => ∃ (x : Kb) (n2 : Nd), x.l = (textR l').1 ∧ n2.ks = n.ks ++ [x] ∧ n2.vs = n.vs ∧ n2.is = n.is ∧ n2.leaf = n.leaf ∧ NSt w wx g A n2 (textR l').2)
          case first =>
            go_region_law (first
              | (go_simp; go_at_call 49; (with_reducible refine HTX.out.mono ?_); rintro e w2 ⟨x, rfl, hxl, hki, hr2, hg2⟩; have HXL := Lib.hid hxl; have HKI := Lib.hid hki; have HST2 := Lib.hid ((HST.out.below (Below.refl _ _).drew).read hg2 hr2); have c1b := HST2.out.cells.1.2.1; rw [← HJ.out] at c1b; have hA2 := HST2.out.lt; have HKO : Hid (KOwn w2 w.heap.size (.slice n.kq j n.kc) n.ks) := Lib.hid (by rw [HJ.out]; exact HST2.out.ko); clear hxl hki hr2 hg2)
              | (refine step_appK rfl (.tmp 26) (.tmp 29) rfl x rfl (World.ownsRow.alloc HKO.out _) rfl ((Joins.cell_of_block (heap_alloc_new w2 _) 0).trans rfl) (by rw [← HJ.out]; omega) (by have := HST2.out.gb.size; simp; omega) ?_; intro q3 n3 c3' w3 hn3 ho3 hg3; have HST3 := Lib.hid (HST2.out.setK ((Below.refl _ _).alloc (Nat.le_refl _) _) hn3 ho3 (by rw [← HJ.out]; exact hg3) HKI.out); have hb3 := HST2.out.boxAt ((Below.refl _ _).alloc (Nat.le_refl _) _) HKO.out (by decide) (by decide) hg3; have z1 := (Joins.cell_of_block hb3 1).trans rfl; have y1 := Joins.unfrozen_of_block hb3 1; have hA3 := (Array.getElem?_eq_some_iff.1 hb3).1; clear hn3 ho3 hg3 hb3)
              | fail)
            all_goals
              go_wp2_with fail
              go_meet
              exact ⟨x, { n with kq := q3, kc := c3', ks := n.ks ++ [x] }, HXL.out, rfl, rfl, rfl, rfl, HST3.out⟩
          case rest =>
            obtain ⟨x, n2, hxl, hn1, hn2, hn3, hn4, hst⟩ := hcut
            have HXL := Lib.hid hxl
            have HN1 := Lib.hid hn1
            have HN2 := Lib.hid hn2
            have HN3 := Lib.hid hn3
            have HN4 := Lib.hid hn4
            have HST2 := Lib.hid hst
            obtain ⟨⟨e0, e1, e2, e3⟩, fz2⟩ := hst.cells
            have hA2 := hst.lt
            obtain ⟨i, hi⟩ : ∃ i, i = n2.vs.length := ⟨_, rfl⟩
            have HI := Lib.hid hi
            have hi255 : i ≤ 255 := by rw [hi, hn2]; have := HLI.out.vk; have := HJ.out; omega
            rw [← hi] at e2
            have HVL := Lib.hid (rval_any (w := wc.drew) (HST2.out.below (Below.refl _ _).drew).rs (Nat.le_trans HLT2.out HLI.out.len))
            clear hst hxl hn1 hn2 hn3 hn4 hi HTX c0 c1 c2 c3 fz hA d0
            go_wp2_with fail
            go_region_law (first
              | (go_simp; go_at_call 50; (with_reducible refine HVL.out.mono ?_); rintro e w3 ⟨⟨yq, yc, yl, yg, yp⟩, rfl, hys, hvi, hr3, hg3⟩; dsimp only [Vl.cell]; have HYS := Lib.hid hys; have HVI := Lib.hid hvi; have HST3 := Lib.hid ((HST2.out.below (Below.refl _ _).drew).read hg3 hr3); have e2b := HST3.out.cells.1.2.2.1; rw [← HI.out] at e2b; have hA3 := HST3.out.lt; have HVO : Hid (VOwn w3 w.heap.size (.slice n2.vq i n2.vc) n2.vs) := Lib.hid (by rw [HI.out]; exact HST3.out.vo); clear hys hvi hr3 hg3)
              | (refine step_appV rfl (.tmp 33) (.tmp 36) rfl ⟨yq, yc, yl, yg, yp⟩ rfl (World.ownsRow.alloc HVO.out _) rfl (heap_alloc_new w3 _) (by rw [← HI.out]; omega) (by have := HST3.out.gb.size; simp; omega) ?_; intro q4 n4 c4' w4 hn4 ho4 hg4; have HST4 := Lib.hid (HST3.out.setV ((Below.refl _ _).alloc (Nat.le_refl _) _) hn4 ho4 (by rw [← HI.out]; exact hg4) HVI.out); have hb4 := HST3.out.boxAt ((Below.refl _ _).alloc (Nat.le_refl _) _) HVO.out (by decide) (by decide) hg4; have z2 := (Joins.cell_of_block hb4 2).trans rfl; have y2 := Joins.unfrozen_of_block hb4 2; have hA4 := (Array.getElem?_eq_some_iff.1 hb4).1; clear hn4 ho4 hg4 hb4)
              | fail)
            all_goals
              have HLI4 := Lib.hid (HLI.out.step (n2 := { n2 with vq := q4, vc := c4', vs := n2.vs ++ [⟨yq, yc, yl, yg, yp⟩] }) (x := x) (y := ⟨yq, yc, yl, yg, yp⟩) (by rw [← HJ.out]; exact hjm) (by rw [← HRN.out]; exact hrn) HN4.out HN3.out HN1.out (by rw [← HN2.out]) HXL.out HYS.out)
              have HLB : Hid (lenAt (w4.setCell ⟨A, 2, none⟩ (.slice q4 n4 c4')) A = j + 1) := Lib.hid (by
                unfold lenAt
                rw [HST4.out.cells.1.2.1]
                dsimp only
                rw [HN1.out, List.length_append, HJ.out]
                rfl)
              generalize (w4.setCell ⟨A, 2, none⟩ (.slice q4 n4 c4')) = w5 at *
              go_wp2_with fail
              go_roundw
              case rel =>
                (repeat apply Exists.intro)
                exact ⟨HST4.out, HLI4.out⟩
              case measure =>
                rw [HLA.out, HLB.out, ← HJ.out]
                omega
        · have HE : Hid (rdL (m - n.ks.length) l' = []) := Lib.hid (rdL_end (.inr (List.eq_nil_of_length_eq_zero (by have := HRN.out; omega))))
          obtain rfl : rn = 0 := by omega
          obtain ⟨⟨r0, r1, r2, r3⟩, ⟨v0, v1, v2, v3⟩, hrl⟩ := HST.out.resCells
          go_wp2
          refine bodyPost_ret (results_cell_row rfl _ _ w.heap.size 27 _ (0, 0) _ (by kernel_rfl) (set4 HST.out.res) Try.underlying27 rfl (by kernel_rfl)) rfl ?_
          obtain ⟨hok, hgb, _⟩ := HST.out.done (gb4 wr w.heap.size (.bool n.leaf) (.slice n.kq j n.kc) (.slice n.vq j n.vc) (.slice n.iq n.is.length n.ic))
          refine ⟨n, ?_, leaf_end HLI.out HE.out, hok, hgb⟩
          unfold Nd.cell
          rw [HLI.out.vk, ← HJ.out]
      · have HE : Hid (rdL (m - n.ks.length) l' = []) := Lib.hid (rdL_end (.inl (by rw [← HJ.out]; omega)))
        obtain ⟨⟨r0, r1, r2, r3⟩, ⟨v0, v1, v2, v3⟩, hrl⟩ := HST.out.resCells
        go_wp2
        refine bodyPost_ret (results_cell_row rfl _ _ w.heap.size 27 _ (0, 0) _ (by kernel_rfl) (set4 HST.out.res) Try.underlying27 rfl (by kernel_rfl)) rfl ?_
        obtain ⟨hok, hgb, _⟩ := HST.out.done (gb4 wr w.heap.size (.bool n.leaf) (.slice n.kq j n.kc) (.slice n.vq j n.vc) (.slice n.iq n.is.length n.ic))
        refine ⟨n, ?_, leaf_end HLI.out HE.out, hok, hgb⟩
        unfold Nd.cell
        rw [HLI.out.vk, ← HJ.out]

end Go.Proofs.Ytigmibmebockhaa
