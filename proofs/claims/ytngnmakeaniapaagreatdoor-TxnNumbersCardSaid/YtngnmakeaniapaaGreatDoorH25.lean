/-
  node's rest: branch: its contract.
  append(b[:len(b):len(b)], bytes...), as a run and as a step of a region that draws its order.
  append onto a slice of the call's own whose block is known: which block the result has, and that other slices of the call's own stay.
-/
import Derived.Test.YtngnmakeaniapaaGreatDoorH24
import Derived.Test.YtngnmakeaniapaaGreatDoorH00
import Derived.ArgAppend
import Derived.Laws.OwnMore
set_option linter.unusedVariables false
set_option linter.unusedSimpArgs false
set_option maxRecDepth 100000
namespace Go.Proofs.YtngnmakeaniapaaGreatDoor
open Go.RowKit

def num2 (l : List UInt8) : Int := (leN (l.take 2) : Nat)
/-- The keys and kids that are read. -/
def rdB : Nat → List UInt8 → List (List UInt8 × Int)
  | 0, _ => []
  | m + 1, l => if l.isEmpty then [] else ((textR l).1, num2 (textR l).2) :: rdB m ((textR l).2.drop 2)
def branchS (l : List UInt8) : NdS := ⟨false, (rdB (leN (l.take 1)) ((l.drop 1).drop 2)).map Prod.fst, [], num2 (l.drop 1) :: (rdB (leN (l.take 1)) ((l.drop 1).drop 2)).map Prod.snd⟩

theorem num2_any {w : World} {g : Nat} {l : List UInt8} (h : Rs w g l) (hl : l.length ≤ 100000) : Calls Tryz.prog 214 #[.pointer (some ⟨g, 0, none⟩), .int .i64 2] w (NumPost w g (leN (l.take 2)) (l.drop 2)) := number_any h hl 2 (by omega)

structure BrInv (m : Nat) (i0 : Int) (d : List UInt8) (n : Nd) (l : List UInt8) : Prop where
  leaf : n.leaf = false
  vs : n.vs = []
  le : n.ks.length ≤ m
  ik : n.is.length = n.ks.length + 1
  ks : n.ks.map Kb.l ++ (rdB (m - n.ks.length) l).map Prod.fst = (rdB m d).map Prod.fst
  is : n.is ++ (rdB (m - n.ks.length) l).map Prod.snd = i0 :: (rdB m d).map Prod.snd
  len : l.length ≤ 100000
theorem rdB_more {m j : Nat} {l : List UInt8} (hj : j < m) (hl : l ≠ []) : rdB (m - j) l = ((textR l).1, num2 (textR l).2) :: rdB (m - (j + 1)) ((textR l).2.drop 2) := by
  rw [show m - j = (m - (j + 1)) + 1 by omega, rdB, if_neg (by simpa using hl)]
theorem rdB_end {m j : Nat} {l : List UInt8} (h : m ≤ j ∨ l = []) : rdB (m - j) l = [] := by
  rcases h with h | h
  · rw [show m - j = 0 by omega]; rfl
  · subst h
    cases m - j <;> rfl
theorem BrInv.step {m : Nat} {i0 : Int} {d l : List UInt8} {n n2 : Nd} (h : BrInv m i0 d n l) (hj : n.ks.length < m) (hl : 0 < l.length) {x : Kb} {y : Int} (h1 : n2.leaf = n.leaf) (h2 : n2.vs = n.vs) (h3 : n2.ks = n.ks ++ [x]) (h4 : n2.is = n.is ++ [y]) (hx : x.l = (textR l).1) (hy : y = num2 (textR l).2) : BrInv m i0 d n2 ((textR l).2.drop 2) := by
  have hm := rdB_more (l := l) hj (fun e => by subst e; simp at hl)
  have hks := h.ks
  have his := h.is
  rw [hm] at hks his
  have hlen := textR_len l
  have hlen2 := h.len
  refine ⟨h1.trans h.leaf, h2.trans h.vs, by rw [h3, List.length_append]; simp only [List.length_singleton]; omega, by rw [h3, h4, List.length_append, List.length_append, h.ik]; rfl, ?_, ?_, by rw [List.length_drop]; omega⟩
  · rw [h3, ← hks, List.map_append, List.length_append]
    simp [hx]
  · rw [h3, h4, ← his, List.length_append]
    simp [hy]
theorem branch_end {m : Nat} {i0 : Int} {d l : List UInt8} {n : Nd} (h : BrInv m i0 d n l) (hE : rdB (m - n.ks.length) l = []) : n.s = ⟨false, (rdB m d).map Prod.fst, [], i0 :: (rdB m d).map Prod.snd⟩ := by
  have h1 := h.ks
  have h2 := h.is
  rw [hE] at h1 h2
  simp only [List.map_nil, List.append_nil] at h1 h2
  unfold Nd.s
  rw [h.leaf, h.vs, h1, h2]
  rfl

set_option maxHeartbeats 3200000 in
theorem branch_any {w : World} {g : Nat} {l : List UInt8} (h : Rs w g l) (hl : l.length ≤ 100000) :
    Calls Tryz.prog 197 #[.pointer (some ⟨g, 0, none⟩)] w (NodePost w g (branchS l)) := by
  have hlt := h.lt
  obtain ⟨W, hW⟩ : ∃ W, W = w.alloc (.cells #[.bool false, .slice none 0 0, .slice none 0 0, .slice none 0 0] 154) := ⟨_, rfl⟩
  have HBW : Hid (Below w.heap.size w W) := Lib.hid (by rw [hW]; exact (Below.refl _ _).alloc (Nat.le_refl _) _)
  have HRES : Hid (W.heap[w.heap.size]? = some (.cells #[.bool false, .slice none 0 0, .slice none 0 0, .slice none 0 0] 154 (0, 0))) := Lib.hid (by rw [hW]; exact heap_alloc_new w _)
  have HR0 := Lib.hid (h.below HBW.out)
  have HN := Lib.hid (number_any HR0.out hl 1 (by omega))
  have h255 := leN_one l
  unfold branchS
  have hd : (l.drop 1).length ≤ 100000 := by rw [List.length_drop]; omega
  generalize leN (l.take 1) = m at *
  generalize l.drop 1 = d at *
  have hd2 : (d.drop 2).length ≤ 100000 := by rw [List.length_drop]; omega
  obtain ⟨d2, hdd⟩ : ∃ d2, d2 = d.drop 2 := ⟨_, rfl⟩
  rw [← hdd] at hd2 ⊢
  have HDD := Lib.hid hdd
  obtain ⟨i0, hi0⟩ : ∃ i0, i0 = num2 d := ⟨_, rfl⟩
  rw [← hi0]
  have HI0 : Hid (((leN (d.take 2) : Nat) : Int) = i0) := Lib.hid hi0.symm
  clear h hl hdd hi0
  obtain ⟨Z1, hm1, ho1⟩ := makeK m (by omega)
  obtain ⟨Z2, hm2', ho2⟩ := makeI (m + 1) (by omega)
  have hm2 : ∀ w : World, (Instr.makeSlice 38 (.int .i64 0) (.int .i64 (1 + (m : Int)))).run Tryz.prog w = .ok (.slice (some ⟨w.heap.size, 0, none⟩) 0 (m + 1)) (w.alloc (.cells Z2 3)) := fun w => by
    rw [show (1 + (m : Int)) = ((m + 1 : Nat) : Int) by omega]
    exact hm2' w
  clear hm2'
  have HO1 := Lib.hid ho1
  have HO2 := Lib.hid ho2
  clear ho1 ho2
  go_enter Tryz.func197, Tryz.ntmps197
  go_wp2_with fail
  rw [← hW]
  replace hW := Lib.hid hW
  refine HN.out.mono ?_
  rintro e w1 ⟨rfl, hr, hg⟩
  have HR1 := Lib.hid hr
  have HG1 := Lib.hid (gb_trans (gb_below HBW.out) hg)
  have HRES1 : Hid (w1.heap[w.heap.size]? = some (.cells #[.bool false, .slice none 0 0, .slice none 0 0, .slice none 0 0] 154 (0, 0))) := Lib.hid ((hg.block _ (Array.getElem?_eq_some_iff.1 HRES.out).1 (fun e => by have := Option.some.inj e; omega)).trans HRES.out)
  clear hr hg HN
  go_wp2_with fail
  have hs1 : w.heap.size < w1.heap.size := (Array.getElem?_eq_some_iff.1 HRES1.out).1
  have HS1 := Lib.hid hs1
  go_cut [4] from 7 to 12 (fun x4 wx => ∃ (A k1 k2 : Nat), x4 = .pointer (some ⟨A, 0, none⟩) ∧ NSt w wx g A ⟨false, some ⟨k1, 0, none⟩, m, [], none, 0, [], some ⟨k2, 0, none⟩, m + 1, []⟩ d)
  case first =>
    have HST : Hid (∀ (w' : World) (A k1 k2 : Nat), Below w1.heap.size w1 w' → w1.heap.size ≤ A → w1.heap.size ≤ k1 → w1.heap.size ≤ k2 → w'.heap[k1]? = some (.cells Z1 41 (0, 0)) → w'.heap[k2]? = some (.cells Z2 3 (0, 0)) →
        w'.heap[A]? = some (.cells #[.bool false, .slice (some ⟨k1, 0, none⟩) 0 m, .slice none 0 0, .slice (some ⟨k2, 0, none⟩) 0 (m + 1)] 154 (0, 0)) → NSt w w'.drew g A ⟨false, some ⟨k1, 0, none⟩, m, [], none, 0, [], some ⟨k2, 0, none⟩, m + 1, []⟩ d) := Lib.hid fun w' A k1 k2 hb hA hk1 hk2 h1 h2 h3 =>
      NSt.start hs1 hb.drew HRES1.out HR1.out HG1.out hlt hA h3 (HO1.out w'.drew k1 _ (by omega) h1) (World.ownsRow_nil _ _ _ _) (HO2.out w'.drew k2 _ (by omega) h2) rfl rfl rfl
    go_region
    all_goals
      go_wp2_with fail
      go_meet
      first
        | exact ⟨_, _, _, rfl, HST.out _ _ _ _ (boxes3 w1 _ _ _ _ _ _).2.2.2.1 (by omega) (by omega) (by omega) (boxes3 w1 _ _ _ _ _ _).1 (boxes3 w1 _ _ _ _ _ _).2.1 (boxes3 w1 _ _ _ _ _ _).2.2.1⟩
        | exact ⟨_, _, _, rfl, HST.out _ _ _ _ (boxes3 w1 _ _ _ _ _ _).2.2.2.1 (by omega) (by omega) (by omega) (boxes3 w1 _ _ _ _ _ _).1 (boxes3 w1 _ _ _ _ _ _).2.2.1 (boxes3 w1 _ _ _ _ _ _).2.1⟩
        | exact ⟨_, _, _, rfl, HST.out _ _ _ _ (boxes3 w1 _ _ _ _ _ _).2.2.2.1 (by omega) (by omega) (by omega) (boxes3 w1 _ _ _ _ _ _).2.1 (boxes3 w1 _ _ _ _ _ _).1 (boxes3 w1 _ _ _ _ _ _).2.2.1⟩
        | exact ⟨_, _, _, rfl, HST.out _ _ _ _ (boxes3 w1 _ _ _ _ _ _).2.2.2.1 (by omega) (by omega) (by omega) (boxes3 w1 _ _ _ _ _ _).2.1 (boxes3 w1 _ _ _ _ _ _).2.2.1 (boxes3 w1 _ _ _ _ _ _).1⟩
        | exact ⟨_, _, _, rfl, HST.out _ _ _ _ (boxes3 w1 _ _ _ _ _ _).2.2.2.1 (by omega) (by omega) (by omega) (boxes3 w1 _ _ _ _ _ _).2.2.1 (boxes3 w1 _ _ _ _ _ _).1 (boxes3 w1 _ _ _ _ _ _).2.1⟩
        | exact ⟨_, _, _, rfl, HST.out _ _ _ _ (boxes3 w1 _ _ _ _ _ _).2.2.2.1 (by omega) (by omega) (by omega) (boxes3 w1 _ _ _ _ _ _).2.2.1 (boxes3 w1 _ _ _ _ _ _).2.1 (boxes3 w1 _ _ _ _ _ _).1⟩
        | fail
  case rest =>
    obtain ⟨A, k1, k2, rfl, hst⟩ := hcut
    have HST := Lib.hid hst
    clear hst hm1 hm2 HO1 HO2
    obtain ⟨n0, hlf, hks, hvs, his, hst0⟩ : ∃ n0 : Nd, n0.leaf = false ∧ n0.ks = [] ∧ n0.vs = [] ∧ n0.is = [] ∧ NSt w wc g A n0 d := ⟨_, rfl, rfl, rfl, rfl, HST.out⟩
    clear HST
    have HLF := Lib.hid hlf
    have HKS := Lib.hid hks
    have HVS := Lib.hid hvs
    have HIS := Lib.hid his
    have HST := Lib.hid hst0
    obtain ⟨⟨c0, c1, c2, c3⟩, fz⟩ := hst0.cells
    have hA := hst0.lt
    obtain ⟨i, hi⟩ : ∃ i, i = n0.is.length := ⟨_, rfl⟩
    have HI := Lib.hid hi
    have hi255 : i ≤ 256 := by rw [hi, his]; exact Nat.zero_le _
    rw [← hi] at c3
    have HNX := Lib.hid (num2_any (w := wc.drew) (HST.out.below (Below.refl _ _).drew).rs hd)
    have HN16 : Hid ((0 : Int) ≤ (leN (d.take 2) : Nat) ∧ ((leN (d.take 2) : Nat) : Int) ≤ 65535) := Lib.hid (by have := leN_two d; omega)
    clear hlf hks hvs his hst0 hi
    go_wp2_with fail
    go_cut [13] from 14 to 19 (fun _ wx => ∃ n2 : Nd, n2.is = [(leN (d.take 2) : Int)] ∧ n2.ks = [] ∧ n2.vs = [] ∧ n2.leaf = false ∧ NSt w wx g A n2 (d.drop 2))
    case first =>
      go_region_law (first
        | (go_simp; go_at_call 214; (with_reducible refine HNX.out.mono ?_); rintro e w3 ⟨rfl, hr3, hg3⟩; have HST3 := Lib.hid ((HST.out.below (Below.refl _ _).drew).read hg3 hr3); have e3b := HST3.out.cells.1.2.2.2; rw [← HI.out] at e3b; have hA3 := HST3.out.lt; have HIO : Hid (OwnI w3 w.heap.size (.slice n0.iq i n0.ic) n0.is) := Lib.hid (by rw [HI.out]; exact HST3.out.io); clear hr3 hg3)
        | (refine step_appI1 rfl (.tmp 14) (.tmp 17) rfl (leN (d.take 2) : Nat) rfl (World.ownsRow.alloc HIO.out _) rfl ((Joins.cell_of_block (heap_alloc_new w3 _) 0).trans rfl) (by rw [← HI.out]; omega) (by have := HST3.out.gb.size; simp; omega) ?_; intro q4 n4 c4' w4 hn4 ho4 hg4; have HST4 := Lib.hid (HST3.out.setI ((Below.refl _ _).alloc (Nat.le_refl _) _) hn4 ho4 (by rw [← HI.out]; exact hg4) HN16.out); have hb4 := HST3.out.boxAt ((Below.refl _ _).alloc (Nat.le_refl _) _) HIO.out (by decide) (by decide) hg4; have z3 := (Joins.cell_of_block hb4 3).trans rfl; have y3 := Joins.unfrozen_of_block hb4 3; have hA4 := (Array.getElem?_eq_some_iff.1 hb4).1; clear hn4 ho4 hg4 hb4)
        | fail)
      all_goals
        go_wp2_with fail
        go_meet
        exact ⟨{ n0 with iq := q4, ic := c4', is := n0.is ++ [(leN (d.take 2) : Int)] }, by dsimp only; rw [HIS.out]; rfl, HKS.out, HVS.out, HLF.out, HST4.out⟩
    case rest =>
      obtain ⟨n1, his, hks, hvs, hlf, hst⟩ := hcut
      obtain ⟨wd, hwd⟩ : ∃ wd, wd = wc := ⟨_, rfl⟩
      rw [← hwd] at hst ⊢
      have HST1 := Lib.hid hst
      rw [HI0.out] at his
      rw [← HDD.out] at HST1
      have HLI : Hid (BrInv m i0 d2 n1 d2) := Lib.hid ⟨hlf, hvs, by rw [hks]; exact Nat.zero_le _, by rw [his, hks]; rfl, by rw [hks]; rfl, by rw [his, hks]; rfl, hd2⟩
      clear his hks hvs hlf hst hwd HST HNX HN16 HLF HKS HVS HIS HI c0 c1 c2 c3 fz hA
      go_wp2_with fail
      go_loopw [20] (fun _ wr => ∃ n l', NSt w wr g A n l' ∧ BrInv m i0 d2 n l') (fun _ wr => m - lenAt wr A)
      case atStart => exact ⟨_, _, HST1.out, HLI.out⟩
      case round =>
        clear HST1 HLI
        obtain ⟨n, l', hst, hli⟩ := hrel
        have HST := Lib.hid hst
        have HLI := Lib.hid hli
        obtain ⟨⟨c0, c1, c2, c3⟩, fz⟩ := hst.cells
        have hA := hst.lt
        have HLA : Hid (lenAt wr A = n.ks.length) := Lib.hid (by unfold lenAt; rw [c1])
        obtain ⟨rp, rn, rc, rb, rbs, rhn, rh1, rh2, rhz, _⟩ := hst.rs
        have d0 : wr.cell? ⟨g, 0, none⟩ = some (.slice rp rn rc) := Joins.cell_of_block rb 0
        have hgw := hst.rs.lt
        have HRN := Lib.hid rhn
        have hkf := row_form hst.ko
        have hle := hli.le
        obtain ⟨_, _, hke, hk1, hk2, _⟩ := hkf
        cases hke
        obtain ⟨j, hj⟩ : ∃ j, j = n.ks.length := ⟨_, rfl⟩
        have HJ := Lib.hid hj
        have HIK := Lib.hid hli.ik
        rw [← hj] at c1 hk1 hle
        rw [hli.vs] at c2
        clear hst hli rb rbs rhn hj
        by_cases hjm : j < m
        · by_cases hrn : 0 < rn
          · have HTX := Lib.hid (text_any (w := wr.drew) (HST.out.below (Below.refl _ _).drew).rs HLI.out.len)
            have HLT2 := Lib.hid (textR_len l')
            go_wp2_with fail
            go_cut [33] from 34 to 39 (fun _ wx => ∃ (x : Kb) (n2 : Nd), x.l = (textR l').1 ∧ n2.ks = n.ks ++ [x] ∧ n2.vs = n.vs ∧ n2.is = n.is ∧ n2.leaf = n.leaf ∧ NSt w wx g A n2 (textR l').2)
            case first =>
              go_region_law (first
                | (go_simp; go_at_call 215; (with_reducible refine HTX.out.mono ?_); rintro e w2 ⟨x, rfl, hxl, hki, hr2, hg2⟩; have HXL := Lib.hid hxl; have HKI := Lib.hid hki; have HST2 := Lib.hid ((HST.out.below (Below.refl _ _).drew).read hg2 hr2); have c1b := HST2.out.cells.1.2.1; rw [← HJ.out] at c1b; have hA2 := HST2.out.lt; have HKO : Hid (KOwn w2 w.heap.size (.slice n.kq j n.kc) n.ks) := Lib.hid (by rw [HJ.out]; exact HST2.out.ko); clear hxl hki hr2 hg2)
                | (refine step_appK rfl (.tmp 34) (.tmp 37) rfl x rfl (World.ownsRow.alloc HKO.out _) rfl ((Joins.cell_of_block (heap_alloc_new w2 _) 0).trans rfl) (by rw [← HJ.out]; omega) (by have := HST2.out.gb.size; simp; omega) ?_; intro q3 n3 c3' w3 hn3 ho3 hg3; have HST3 := Lib.hid (HST2.out.setK ((Below.refl _ _).alloc (Nat.le_refl _) _) hn3 ho3 (by rw [← HJ.out]; exact hg3) HKI.out); have hb3 := HST2.out.boxAt ((Below.refl _ _).alloc (Nat.le_refl _) _) HKO.out (by decide) (by decide) hg3; have z1 := (Joins.cell_of_block hb3 1).trans rfl; have y1 := Joins.unfrozen_of_block hb3 1; have hA3 := (Array.getElem?_eq_some_iff.1 hb3).1; clear hn3 ho3 hg3 hb3)
                | fail)
              all_goals
                go_wp2_with fail
                go_meet
                exact ⟨x, { n with kq := q3, kc := c3', ks := n.ks ++ [x] }, HXL.out, rfl, rfl, rfl, rfl, HST3.out⟩
            case rest =>
              obtain ⟨x, n2, hxl, hn1, hn2, hn3, hn4, hst⟩ := hcut
              have HXL := Lib.hid hxl
              have HN1 := Lib.hid hn1
              have HN2 := Lib.hid hn2
              have HN3 := Lib.hid hn3
              have HN4 := Lib.hid hn4
              have HST2 := Lib.hid hst
              obtain ⟨⟨e0, e1, e2, e3⟩, fz2⟩ := hst.cells
              have hA2 := hst.lt
              obtain ⟨i, hi⟩ : ∃ i, i = n2.is.length := ⟨_, rfl⟩
              have HI := Lib.hid hi
              have hi255 : i ≤ 256 := by rw [hi, hn3]; have := HIK.out; have := HJ.out; omega
              rw [← hi] at e3
              have HNX := Lib.hid (num2_any (w := wc.drew) (HST2.out.below (Below.refl _ _).drew).rs (Nat.le_trans HLT2.out HLI.out.len))
              obtain ⟨T2, hT2⟩ : ∃ T, T = (textR l').2 := ⟨_, rfl⟩
              have HT2 := Lib.hid hT2
              rw [← hT2] at HNX HST2
              have HN16 : Hid ((0 : Int) ≤ (leN (T2.take 2) : Nat) ∧ ((leN (T2.take 2) : Nat) : Int) ≤ 65535) := Lib.hid (by have := leN_two T2; omega)
              clear hst hxl hn1 hn2 hn3 hn4 hi HTX c0 c1 c2 c3 fz hA d0 hT2
              go_wp2_with fail
              go_region_law (first
                | (go_simp; go_at_call 214; (with_reducible refine HNX.out.mono ?_); rintro e w3 ⟨rfl, hr3, hg3⟩; have HST3 := Lib.hid ((HST2.out.below (Below.refl _ _).drew).read hg3 hr3); have e3b := HST3.out.cells.1.2.2.2; rw [← HI.out] at e3b; have hA3 := HST3.out.lt; have HIO : Hid (OwnI w3 w.heap.size (.slice n2.iq i n2.ic) n2.is) := Lib.hid (by rw [HI.out]; exact HST3.out.io); clear hr3 hg3)
                | (refine step_appI1 rfl (.tmp 41) (.tmp 44) rfl (leN (T2.take 2) : Nat) rfl (World.ownsRow.alloc HIO.out _) rfl ((Joins.cell_of_block (heap_alloc_new w3 _) 0).trans rfl) (by rw [← HI.out]; omega) (by have := HST3.out.gb.size; simp; omega) ?_; intro q4 n4 c4' w4 hn4 ho4 hg4; have HST4 := Lib.hid (HST3.out.setI ((Below.refl _ _).alloc (Nat.le_refl _) _) hn4 ho4 (by rw [← HI.out]; exact hg4) HN16.out); have hb4 := HST3.out.boxAt ((Below.refl _ _).alloc (Nat.le_refl _) _) HIO.out (by decide) (by decide) hg4; have z3 := (Joins.cell_of_block hb4 3).trans rfl; have y3 := Joins.unfrozen_of_block hb4 3; have hA4 := (Array.getElem?_eq_some_iff.1 hb4).1; clear hn4 ho4 hg4 hb4)
                | fail)
              all_goals
                have HLI4 := Lib.hid (HLI.out.step (n2 := { n2 with iq := q4, ic := c4', is := n2.is ++ [(leN (T2.take 2) : Int)] }) (x := x) (y := (leN (T2.take 2) : Nat)) (by rw [← HJ.out]; exact hjm) (by rw [← HRN.out]; exact hrn) HN4.out HN2.out HN1.out (by rw [← HN3.out]) HXL.out (by rw [← HT2.out]; rfl))
                rw [← HT2.out] at HLI4
                have HLB : Hid (lenAt (w4.setCell ⟨A, 3, none⟩ (.slice q4 n4 c4')) A = j + 1) := Lib.hid (by
                  unfold lenAt
                  rw [HST4.out.cells.1.2.1]
                  dsimp only
                  rw [HN1.out, List.length_append, HJ.out]
                  rfl)
                generalize (w4.setCell ⟨A, 3, none⟩ (.slice q4 n4 c4')) = w5 at *
                go_wp2_with fail
                go_roundw
                case rel =>
                  (repeat apply Exists.intro)
                  exact ⟨HST4.out, HLI4.out⟩
                case measure =>
                  rw [HLA.out, HLB.out, ← HJ.out]
                  omega
          · have HE : Hid (rdB (m - n.ks.length) l' = []) := Lib.hid (rdB_end (.inr (List.eq_nil_of_length_eq_zero (by have := HRN.out; omega))))
            obtain rfl : rn = 0 := by omega
            obtain ⟨⟨r0, r1, r2, r3⟩, ⟨v0, v1, v2, v3⟩, hrl⟩ := HST.out.resCells
            go_wp2
            refine bodyPost_ret (results_cell_row rfl _ _ w.heap.size 154 _ (0, 0) _ (by kernel_rfl) (ndSet4 HST.out.res) Tryz.underlying154 rfl (by kernel_rfl)) rfl ?_
            obtain ⟨hok, hgb, _⟩ := HST.out.done (gb4 wr w.heap.size (.bool n.leaf) (.slice n.kq j n.kc) (.slice n.vq 0 n.vc) (.slice n.iq n.is.length n.ic))
            refine ⟨n, ?_, branch_end HLI.out HE.out, hok, hgb⟩
            unfold Nd.cell
            rw [HLI.out.vs, ← HJ.out]
            rfl
        · have HE : Hid (rdB (m - n.ks.length) l' = []) := Lib.hid (rdB_end (.inl (by rw [← HJ.out]; omega)))
          obtain ⟨⟨r0, r1, r2, r3⟩, ⟨v0, v1, v2, v3⟩, hrl⟩ := HST.out.resCells
          go_wp2
          refine bodyPost_ret (results_cell_row rfl _ _ w.heap.size 154 _ (0, 0) _ (by kernel_rfl) (ndSet4 HST.out.res) Tryz.underlying154 rfl (by kernel_rfl)) rfl ?_
          obtain ⟨hok, hgb, _⟩ := HST.out.done (gb4 wr w.heap.size (.bool n.leaf) (.slice n.kq j n.kc) (.slice n.vq 0 n.vc) (.slice n.iq n.is.length n.ic))
          refine ⟨n, ?_, branch_end HLI.out HE.out, hok, hgb⟩
          unfold Nd.cell
          rw [HLI.out.vs, ← HJ.out]
          rfl

end Go.Proofs.YtngnmakeaniapaaGreatDoor

set_option linter.unusedVariables false
set_option maxRecDepth 100000
namespace Go.Proofs.YtngnmakeaniapaaGreatDoor
open Go.RowKit

theorem run_full {w : World} (ty : TypeId) {l m : List UInt8} {q : Option Addr} {k k' : Nat} (hk : k = l.length) (hk' : k' = l.length) (hold : Bs w q l)
    {p : Option Addr} {n c : Nat} (hn : n = m.length) (hsrc : Bs w p m) (hm : 0 < m.length) (hlen : l.length + m.length ≤ 140737488355328) :
    ∃ v' w', (Builtin.append_ #[41, 41] ty #[.slice q k k', .slice p n c]).run Tryz.prog w = .ok v' w' ∧ Own w' w.heap.size v' (l ++ m) ∧ Below w.heap.size w w' := by
  subst hn hk hk'
  obtain ⟨i, hi, hz0, hz1, hz2⟩ := info_parts info_u8
  have src : ∀ {r : List UInt8} {d : Addr}, Bs w (some d) r → ∀ j u, (u8s r)[j]? = some u → w.cell? (d.add j) = some u := by
    intro r d hr j u hj
    obtain ⟨y, hy, rfl⟩ := u8s_get hj
    obtain ⟨b, o, hp, hc⟩ := hr (by intro e; subst e; simp at hy)
    obtain rfl := Option.some.inj hp
    rw [Addr.add_lit]
    exact hc j y hy
  have fin : ∀ {v' : Value} {w' : World}, w'.ownsRow w.heap.size 5 1 v' (l.length + m.length) (u8s l ++ u8s m) → Own w' w.heap.size v' (l ++ m) := by
    intro v' w' h1
    unfold Own
    rw [← u8s_append, List.length_append]
    exact h1
  obtain ⟨b0, o0, rfl, _, _⟩ := hsrc.at hm
  cases q with
  | some b =>
    obtain ⟨v', w', hrun, r1, r2⟩ := run_append_arg_grows (P := Tryz.prog) w 41 ty 5 i (.int .u8 0) 1 1 Tryz.underlying41 hi hz0 hz1 hz2 rfl (by decide) b l.length l.length (u8s l) (by simp [u8s]) (src hold) ⟨b0, o0, none⟩ m.length c (u8s m) (by simp [u8s]) (src hsrc) (by omega) (by simp only [maxLen]; omega) (by omega)
    exact ⟨v', w', hrun, fin r1, (Below.refl _ _).grown r2 (Nat.le_refl _) (fun k hk => by cases hk)⟩
  | none =>
    obtain rfl : l = [] := by
      rcases l with _ | ⟨u, l⟩
      · rfl
      · obtain ⟨b, o, hp, _⟩ := hold (by simp)
        cases hp
    obtain ⟨v', w', hr, h1, h2⟩ := run_app (w := w) ty (B := w.heap.size) (v := .slice none 0 0) (l := []) (Own.nil _ _) rfl hsrc (fun h => by cases h) (c := c) hlen (Nat.le_refl _)
    exact ⟨v', w', hr, h1, h2⟩

theorem step_full {w : World} {ops : Array Oper} {o : Oper} {a : Act} {K : Act → World → Prop} {Q : Exit → Act → World → Prop} {E : Prop} (hg : o.guard = none) (s x : Operand)
    (ho : o.op = .call { callee := .builtin .append, args := #[s, x], argTypes := #[41, 41] })
    {l m : List UInt8} {q : Option Addr} {k k' : Nat} (hk : k = l.length) (hk' : k' = l.length) (hs : a.eval s = .slice q k k') (hold : Bs w q l)
    {p : Option Addr} {n c : Nat} (hn : n = m.length) (hx : a.eval x = .slice p n c) (hsrc : Bs w p m) (hm : 0 < m.length) (hlen : l.length + m.length ≤ 140737488355328)
    (h : ∀ v' w', Own w' w.heap.size v' (l ++ m) → Below w.heap.size w w' → K (a.put o.dst v') w') : if Region.wanted o (yielded ops a.tmps) = true then Oper.wp Tryz.prog o a w K Q else E := by
  have hw : Region.wanted o (yielded ops a.tmps) = true := by simp [Region.wanted, hg]
  rw [if_pos hw]
  obtain ⟨v', w', hr, h1, h2⟩ := run_full o.type hk hk' hold hn hsrc hm hlen
  exact Lib.wp_append_run w s x 41 41 ho _ _ hs hx v' w' hr (h v' w' h1 h2)

end Go.Proofs.YtngnmakeaniapaaGreatDoor

set_option linter.unusedVariables false
set_option maxRecDepth 100000
namespace Go.Proofs.YtngnmakeaniapaaGreatDoor
open Go.RowKit

theorem run_at {w : World} (ty : TypeId) {B g n cap : Nat} {l m : List UInt8} (hown : Own w B (.slice (some ⟨g, 0, none⟩) n cap) l) (hn : n = l.length) {p : Option Addr} {k c : Nat} (hk : k = m.length) (hsrc : Bs w p m) (hp : p = none → c = 0)
    (hlen : l.length + m.length ≤ 140737488355328) (hB : B ≤ w.heap.size) :
    ∃ v' w', (Builtin.append_ #[41, 41] ty #[.slice (some ⟨g, 0, none⟩) n cap, .slice p k c]).run Tryz.prog w = .ok v' w' ∧ Own w' B v' (l ++ m) ∧ w.grownBy w' (some g) ∧ (v'.ownBlock = some g ∨ Own w' w.heap.size v' (l ++ m)) := by
  subst hn hk
  obtain ⟨i, hi, hz0, hz1, hz2⟩ := info_parts info_u8
  have fin : ∀ {D : Nat} {v' : Value} {w' : World}, w'.ownsRow D 5 1 v' (l.length + m.length) (u8s l ++ u8s m) → Own w' D v' (l ++ m) := by
    intro D v' w' h1
    unfold Own
    rw [← u8s_append, List.length_append]
    exact h1
  cases p with
  | none =>
    obtain rfl : m = [] := by
      rcases m with _ | ⟨u, m⟩
      · rfl
      · obtain ⟨b, o, hp, _⟩ := hsrc (by simp)
        cases hp
    obtain rfl := hp rfl
    have hrun := run_append_owned_none (P := Tryz.prog) (w := w) B 41 ty 5 i 1 Tryz.underlying41 hi _ l.length (u8s l) hown
    exact ⟨_, w, hrun, by simpa using hown, ⟨rfl, rfl, rfl, Nat.le_refl _, fun _ _ _ => rfl⟩, .inl rfl⟩
  | some ad =>
    have src : ∀ {r : List UInt8} {d : Addr}, Bs w (some d) r → ∀ j u, (u8s r)[j]? = some u → w.cell? (d.add j) = some u := by
      intro r d hr j u hj
      obtain ⟨y, hy, rfl⟩ := u8s_get hj
      obtain ⟨b, o, hp, hc⟩ := hr (by intro e; subst e; simp at hy)
      obtain rfl := Option.some.inj hp
      rw [Addr.add_lit]
      exact hc j y hy
    rcases Nat.lt_or_ge cap (l.length + m.length) with hc | hc
    · obtain ⟨_, _, hf, _, _, hbs, _⟩ := hown.form rfl
      simp only [Value.slice.injEq] at hf
      obtain ⟨hf, _, _⟩ := hf
      subst hf
      obtain ⟨v', w', hrun, r1, r2⟩ := run_append_arg_grows (P := Tryz.prog) w 41 ty 5 i (.int .u8 0) 1 1 Tryz.underlying41 hi hz0 hz1 hz2 rfl (by decide) ⟨g, 0, none⟩ l.length cap (u8s l) (by simp [u8s]) (src hbs) ad m.length c (u8s m) (by simp [u8s]) (src hsrc) hc (by simp only [maxLen]; omega) (by omega)
      exact ⟨v', w', hrun, (fin r1).le hB, ⟨r2.os, r2.tape, r2.output, r2.size, fun k hk _ => r2.block k hk (by simp)⟩, .inr (fin r1)⟩
    · obtain ⟨w', hrun, r1, r2⟩ := run_append_fits (P := Tryz.prog) (w := w) B 41 ty 5 i 1 Tryz.underlying41 hi hz1 g l.length cap (u8s l) hown ad m.length c (u8s m) (by simp [u8s]) (src hsrc) (u8s_oneCell m) hc
      exact ⟨_, w', hrun, fin r1, r2, .inl rfl⟩

/-- Another slice of the call's own stays. -/
theorem Own.kept {w w' : World} {B g : Nat} {v : Value} {l : List UInt8} (h : Own w B v l) (hg : w.grownBy w' (Option.some g)) (hne : v.ownBlock ≠ Option.some g) : Own w' B v l := World.ownsRow.kept h hg (.inr hne)
theorem Own.below_at {w w' : World} {B g n cap : Nat} {l : List UInt8} (h : Own w B (.slice (Option.some ⟨g, 0, Option.none⟩) n cap) l) {C : Nat} (hC : C ≤ B) (hB : B ≤ w.heap.size) (hg : w.grownBy w' (Option.some g)) : Below C w w' :=
  (Below.refl C w).grown hg (by omega) fun k hk => by have := (World.ownsRow.lt h g rfl).1; cases hk; omega

theorem block_ne {w' : World} {C g g' : Nat} {v' : Value} {l : List UInt8} (hd : v'.ownBlock = some g ∨ Own w' C v' l) (hne : g' ≠ g) (h : g' < C) : v'.ownBlock ≠ some g' := by
  rcases hd with h1 | h1
  · rw [h1]
    intro h2
    exact hne (Option.some.inj h2).symm
  · intro h2
    have := (World.ownsRow.lt h1 g' h2).1
    omega

/-- As a step of a region that draws its order. -/
theorem step_at {w : World} {ops : Array Oper} {o : Oper} {a : Act} {K : Act → World → Prop} {Q : Exit → Act → World → Prop} {E : Prop} (hgd : Region.wanted o (yielded ops a.tmps) = true) (s x : Operand)
    (ho : o.op = .call { callee := .builtin .append, args := #[s, x], argTypes := #[41, 41] })
    {B g n cap : Nat} {l m : List UInt8} (hs : a.eval s = .slice (some ⟨g, 0, none⟩) n cap) (hown : Own w B (.slice (some ⟨g, 0, none⟩) n cap) l) (hn : n = l.length) {p : Option Addr} {k c : Nat} (hk : k = m.length) (hx : a.eval x = .slice p k c) (hsrc : Bs w p m) (hp : p = none → c = 0)
    (hlen : l.length + m.length ≤ 140737488355328) (hB : B ≤ w.heap.size)
    (h : ∀ v' w', Own w' B v' (l ++ m) → w.grownBy w' (some g) → (v'.ownBlock = some g ∨ Own w' w.heap.size v' (l ++ m)) → K (a.put o.dst v') w') : if Region.wanted o (yielded ops a.tmps) = true then Oper.wp Tryz.prog o a w K Q else E := by
  rw [if_pos hgd]
  obtain ⟨v', w', hr, h1, h2, h3⟩ := run_at o.type hown hn hk hsrc hp hlen hB
  exact Lib.wp_append_run w s x 41 41 ho _ _ hs hx v' w' hr (h v' w' h1 h2 h3)

end Go.Proofs.YtngnmakeaniapaaGreatDoor

