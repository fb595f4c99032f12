/-
  node's rest.
  append(b[.
  node.putNumber.
-/
import Derived.Test.YtbbgdbnjmonbgaaGreatDoorH00
import Derived.Test.YtbbgdbnjmonbgaaGreatDoorH17
import Derived.Test.YtbbgdbnjmonbgaaGreatDoorH16
import Derived.ArgAppend
import Derived.Laws.OwnMore
import Derived.Deep.RegionHeld3
set_option linter.unusedVariables false
set_option linter.unusedSimpArgs false
set_option maxRecDepth 100000
namespace Go.Proofs.YtbbgdbnjmonbgaaGreatDoor
open Go.RowKit
def num2 (l : List UInt8) : Int := (leN (l.take 2) : Nat)
def rdB : Nat → List UInt8 → List (List UInt8 × Int)
 | 0, _ => []
 | m + 1, l => if l.isEmpty then [] else ((textR l).1, num2 (textR l).2) :: rdB m ((textR l).2.drop 2)
def branchS (l : List UInt8) : NdS := ⟨false, (rdB (leN (l.take 1)) ((l.drop 1).drop 2)).map Prod.fst, [], num2 (l.drop 1) :: (rdB (leN (l.take 1)) ((l.drop 1).drop 2)).map Prod.snd⟩
theorem num2_any {w : World} {g : Nat} {l : List UInt8} (h : Rs w g l) (hl : l.length ≤ 100000) : Calls Tryz.prog 185 #[.pointer (some ⟨g, 0, none⟩), .int .i64 2] w (NumPost w g (leN (l.take 2)) (l.drop 2)) := number_any h hl 2 (by omega)
structure BrInv (m : Nat) (i0 : Int) (d : List UInt8) (n : Nd) (l : List UInt8) : Prop where
 leaf : n.leaf = false
 vs : n.vs = []
 le : n.ks.length ≤ m
 ik : n.is.length = n.ks.length + 1
 ks : n.ks.map Kb.l ++ (rdB (m - n.ks.length) l).map Prod.fst = (rdB m d).map Prod.fst
 is : n.is ++ (rdB (m - n.ks.length) l).map Prod.snd = i0 :: (rdB m d).map Prod.snd
 len : l.length ≤ 100000
theorem rdB_more {m j : Nat} {l : List UInt8} (hj : j < m) (hl : l ≠ []) : rdB (m - j) l = ((textR l).1, num2 (textR l).2) :: rdB (m - (j + 1)) ((textR l).2.drop 2) := by
 rw [show m - j = (m - (j + 1)) + 1 by omega, rdB, if_neg (by simpa using hl)]
theorem rdB_end {m j : Nat} {l : List UInt8} (h : m ≤ j ∨ l = []) : rdB (m - j) l = [] := by
 rcases h with h | h
 ·
  rw [show m - j = 0 by omega]; rfl
 ·
  subst h
  cases m - j <;> rfl
theorem BrInv.step {m : Nat} {i0 : Int} {d l : List UInt8} {n n2 : Nd} (h : BrInv m i0 d n l) (hj : n.ks.length < m) (hl : 0 < l.length) {x : Kb} {y : Int} (h1 : n2.leaf = n.leaf) (h2 : n2.vs = n.vs) (h3 : n2.ks = n.ks ++ [x]) (h4 : n2.is = n.is ++ [y]) (hx : x.l = (textR l).1) (hy : y = num2 (textR l).2) : BrInv m i0 d n2 ((textR l).2.drop 2) := by
 have hm := rdB_more (l := l) hj (fun e => by subst e; simp at hl)
 have hks := h.ks
 have his := h.is
 rw [hm] at hks his
 have hlen := textR_len l
 have hlen2 := h.len
 refine ⟨h1.trans h.leaf, h2.trans h.vs, by rw [h3, List.length_append]; simp only [List.length_singleton]; omega, by rw [h3, h4, List.length_append, List.length_append, h.ik]; rfl, ?_, ?_, by rw [List.length_drop]; omega⟩
 ·
  rw [h3, ← hks, List.map_append, List.length_append]
  simp [hx]
 ·
  rw [h3, h4, ← his, List.length_append]
  simp [hy]
theorem branch_end {m : Nat} {i0 : Int} {d l : List UInt8} {n : Nd} (h : BrInv m i0 d n l) (hE : rdB (m - n.ks.length) l = []) : n.s = ⟨false, (rdB m d).map Prod.fst, [], i0 :: (rdB m d).map Prod.snd⟩ := by
 have h1 := h.ks
 have h2 := h.is
 rw [hE] at h1 h2
 simp only [List.map_nil, List.append_nil] at h1 h2
 unfold Nd.s
 rw [h.leaf, h.vs, h1, h2]
 rfl
set_option maxHeartbeats 3200000 in
theorem branch_any {w : World} {g : Nat} {l : List UInt8} (h : Rs w g l) (hl : l.length ≤ 100000) :
  Calls Tryz.prog 167 #[.pointer (some ⟨g, 0, none⟩)] w (NodePost w g (branchS l)) := by
 have hlt := h.lt
 obtain ⟨W, hW⟩ : ∃ W, W = w.alloc (.cells #[.bool false, .slice none 0 0, .slice none 0 0, .slice none 0 0] 106) := ⟨_, rfl⟩
 have HBW : Hid (Below w.heap.size w W) := Hq (by rw [hW]; exact (Below.refl _ _).alloc (Nat.le_refl _) _)
 have HRES : Hid (W.heap[w.heap.size]? = some (.cells #[.bool false, .slice none 0 0, .slice none 0 0, .slice none 0 0] 106 (0, 0))) := Hq (by rw [hW]; exact heap_alloc_new w _)
 have HR0 := Hq (h.below HBW.out)
 have HN := Hq (number_any HR0.out hl 1 (by omega))
 have h255 := leN_one l
 unfold branchS
 have hd : (l.drop 1).length ≤ 100000 := by rw [List.length_drop]; omega
 generalize leN (l.take 1) = m at *
 generalize l.drop 1 = d at *
 have hd2 : (d.drop 2).length ≤ 100000 := by rw [List.length_drop]; omega
 obtain ⟨d2, hdd⟩ : ∃ d2, d2 = d.drop 2 := ⟨_, rfl⟩
 rw [← hdd] at hd2 ⊢
 have HDD := Hq hdd
 obtain ⟨i0, hi0⟩ : ∃ i0, i0 = num2 d := ⟨_, rfl⟩
 rw [← hi0]
 have HI0 : Hid (((leN (d.take 2) : Nat) : Int) = i0) := Hq hi0.symm
 clear h hl hdd hi0
 obtain ⟨Z1, hm1, ho1⟩ := makeK m (by omega)
 obtain ⟨Z2, hm2', ho2⟩ := makeI (m + 1) (by omega)
 have hm2 : ∀ w : World, (Instr.makeSlice 22 (.int .i64 0) (.int .i64 (1 + (m : Int)))).run Tryz.prog w = .ok (.slice (some ⟨w.heap.size, 0, none⟩) 0 (m + 1)) (w.alloc (.cells Z2 3)) := fun w => by
  rw [show (1 + (m : Int)) = ((m + 1 : Nat) : Int) by omega]
  exact hm2' w
 clear hm2'
 have HO1 := Hq ho1
 have HO2 := Hq ho2
 clear ho1 ho2
 go_enter Tryz.func167, Tryz.ntmps167
 go_wp2_with fail
 rw [← hW]
 replace hW := Hq hW
 refine HN.out.mono ?_
 rintro e w1 ⟨rfl, hr, hg⟩
 have HR1 := Hq hr
 have HG1 := Hq (gb_trans (gb_below HBW.out) hg)
 have HRES1 : Hid (w1.heap[w.heap.size]? = some (.cells #[.bool false, .slice none 0 0, .slice none 0 0, .slice none 0 0] 106 (0, 0))) := Hq ((hg.block _ (aL HRES.out) (fun e => by have := Option.some.inj e; omega)).trans HRES.out)
 clear hr hg HN
 go_wp2_with fail
 have hs1 : w.heap.size < w1.heap.size := (aL HRES1.out)
 have HS1 := Hq hs1
 go_cut [4] from 7 to 12 (fun x4 wx => ∃ (A k1 k2 : Nat), x4 = .pointer (some ⟨A, 0, none⟩) ∧ NSt w wx g A ⟨false, some ⟨k1, 0, none⟩, m, [], none, 0, [], some ⟨k2, 0, none⟩, m + 1, []⟩ d)
 case first =>
  have HST : Hid (∀ (w' : World) (A k1 k2 : Nat), Below w1.heap.size w1 w' → w1.heap.size ≤ A → w1.heap.size ≤ k1 → w1.heap.size ≤ k2 → w'.heap[k1]? = some (.cells Z1 33 (0, 0)) → w'.heap[k2]? = some (.cells Z2 3 (0, 0)) →
    w'.heap[A]? = some (.cells #[.bool false, .slice (some ⟨k1, 0, none⟩) 0 m, .slice none 0 0, .slice (some ⟨k2, 0, none⟩) 0 (m + 1)] 106 (0, 0)) → NSt w w'.drew g A ⟨false, some ⟨k1, 0, none⟩, m, [], none, 0, [], some ⟨k2, 0, none⟩, m + 1, []⟩ d) := Hq fun w' A k1 k2 hb hA hk1 hk2 h1 h2 h3 =>
   NSt.start hs1 hb.drew HRES1.out HR1.out HG1.out hlt hA h3 (HO1.out w'.drew k1 _ (by omega) h1) (World.ownsRow_nil _ _ _ _) (HO2.out w'.drew k2 _ (by omega) h2) rfl rfl rfl
  go_region
  all_goals
   go_wp2_with fail
   go_meet
   first
    | exact ⟨_, _, _, rfl, HST.out _ _ _ _ (boxes3 w1 _ _ _ _ _ _).2.2.2.1 (by omega) (by omega) (by omega) (boxes3 w1 _ _ _ _ _ _).1 (boxes3 w1 _ _ _ _ _ _).2.1 (boxes3 w1 _ _ _ _ _ _).2.2.1⟩
    | exact ⟨_, _, _, rfl, HST.out _ _ _ _ (boxes3 w1 _ _ _ _ _ _).2.2.2.1 (by omega) (by omega) (by omega) (boxes3 w1 _ _ _ _ _ _).1 (boxes3 w1 _ _ _ _ _ _).2.2.1 (boxes3 w1 _ _ _ _ _ _).2.1⟩
    | exact ⟨_, _, _, rfl, HST.out _ _ _ _ (boxes3 w1 _ _ _ _ _ _).2.2.2.1 (by omega) (by omega) (by omega) (boxes3 w1 _ _ _ _ _ _).2.1 (boxes3 w1 _ _ _ _ _ _).1 (boxes3 w1 _ _ _ _ _ _).2.2.1⟩
    | exact ⟨_, _, _, rfl, HST.out _ _ _ _ (boxes3 w1 _ _ _ _ _ _).2.2.2.1 (by omega) (by omega) (by omega) (boxes3 w1 _ _ _ _ _ _).2.1 (boxes3 w1 _ _ _ _ _ _).2.2.1 (boxes3 w1 _ _ _ _ _ _).1⟩
    | exact ⟨_, _, _, rfl, HST.out _ _ _ _ (boxes3 w1 _ _ _ _ _ _).2.2.2.1 (by omega) (by omega) (by omega) (boxes3 w1 _ _ _ _ _ _).2.2.1 (boxes3 w1 _ _ _ _ _ _).1 (boxes3 w1 _ _ _ _ _ _).2.1⟩
    | exact ⟨_, _, _, rfl, HST.out _ _ _ _ (boxes3 w1 _ _ _ _ _ _).2.2.2.1 (by omega) (by omega) (by omega) (boxes3 w1 _ _ _ _ _ _).2.2.1 (boxes3 w1 _ _ _ _ _ _).2.1 (boxes3 w1 _ _ _ _ _ _).1⟩
    | fail
 case rest =>
  obtain ⟨A, k1, k2, rfl, hst⟩ := hcut
  have HST := Hq hst
  clear hst hm1 hm2 HO1 HO2
  obtain ⟨n0, hlf, hks, hvs, his, hst0⟩ : ∃ n0 : Nd, n0.leaf = false ∧ n0.ks = [] ∧ n0.vs = [] ∧ n0.is = [] ∧ NSt w wc g A n0 d := ⟨_, rfl, rfl, rfl, rfl, HST.out⟩
  clear HST
  have HLF := Hq hlf
  have HKS := Hq hks
  have HVS := Hq hvs
  have HIS := Hq his
  have HST := Hq hst0
  obtain ⟨⟨c0, c1, c2, c3⟩, fz⟩ := hst0.cells
  have hA := hst0.lt
  obtain ⟨i, hi⟩ : ∃ i, i = n0.is.length := ⟨_, rfl⟩
  have HI := Hq hi
  have hi255 : i ≤ 256 := by rw [hi, his]; exact Nat.zero_le _
  rw [← hi] at c3
  have HNX := Hq (num2_any (w := wc.drew) (HST.out.below (Below.refl _ _).drew).rs hd)
  have HN16 : Hid ((0 : Int) ≤ (leN (d.take 2) : Nat) ∧ ((leN (d.take 2) : Nat) : Int) ≤ 65535) := Hq (by have := leN_two d; omega)
  clear hlf hks hvs his hst0 hi
  go_wp2_with fail
  go_cut [13] from 14 to 19 (fun _ wx => ∃ n2 : Nd, n2.is = [(leN (d.take 2) : Int)] ∧ n2.ks = [] ∧ n2.vs = [] ∧ n2.leaf = false ∧ NSt w wx g A n2 (d.drop 2))
  case first =>
   go_region_law (first
    | (go_simp; go_at_call 185; (with_reducible refine HNX.out.mono ?_); rintro e w3 ⟨rfl, hr3, hg3⟩; have HST3 := Hq ((HST.out.below (Below.refl _ _).drew).read hg3 hr3); have e3b := HST3.out.cells.1.2.2.2; rw [← HI.out] at e3b; have hA3 := HST3.out.lt; have HIO : Hid (OwnI w3 w.heap.size (.slice n0.iq i n0.ic) n0.is) := Hq (by rw [HI.out]; exact HST3.out.io); clear hr3 hg3)
    | (refine step_appI1 rfl (.tmp 14) (.tmp 17) rfl (leN (d.take 2) : Nat) rfl (World.ownsRow.alloc HIO.out _) rfl ((jC (heap_alloc_new w3 _) 0).trans rfl) (by rw [← HI.out]; omega) (by have := HST3.out.gb.size; simp; omega) ?_; intro q4 n4 c4' w4 hn4 ho4 hg4; have HST4 := Hq (HST3.out.setI ((Below.refl _ _).alloc (Nat.le_refl _) _) hn4 ho4 (by rw [← HI.out]; exact hg4) HN16.out); have hb4 := HST3.out.boxAt ((Below.refl _ _).alloc (Nat.le_refl _) _) HIO.out (by decide) (by decide) hg4; have z3 := (jC hb4 3).trans rfl; have y3 := jU hb4 3; have hA4 := (aL hb4); clear hn4 ho4 hg4 hb4)
    | fail)
   all_goals
    go_wp2_with fail
    go_meet
    exact ⟨{ n0 with iq := q4, ic := c4', is := n0.is ++ [(leN (d.take 2) : Int)] }, by dsimp only; rw [HIS.out]; rfl, HKS.out, HVS.out, HLF.out, HST4.out⟩
  case rest =>
   obtain ⟨n1, his, hks, hvs, hlf, hst⟩ := hcut
   obtain ⟨wd, hwd⟩ : ∃ wd, wd = wc := ⟨_, rfl⟩
   rw [← hwd] at hst ⊢
   have HST1 := Hq hst
   rw [HI0.out] at his
   rw [← HDD.out] at HST1
   have HLI : Hid (BrInv m i0 d2 n1 d2) := Hq ⟨hlf, hvs, by rw [hks]; exact Nat.zero_le _, by rw [his, hks]; rfl, by rw [hks]; rfl, by rw [his, hks]; rfl, hd2⟩
   clear his hks hvs hlf hst hwd HST HNX HN16 HLF HKS HVS HIS HI c0 c1 c2 c3 fz hA
   go_wp2_with fail
   go_loopw [20] (fun _ wr => ∃ n l', NSt w wr g A n l' ∧ BrInv m i0 d2 n l') (fun _ wr => m - lenAt wr A)
   case atStart => exact ⟨_, _, HST1.out, HLI.out⟩
   case round =>
    clear HST1 HLI
    obtain ⟨n, l', hst, hli⟩ := hrel
    have HST := Hq hst
    have HLI := Hq hli
    obtain ⟨⟨c0, c1, c2, c3⟩, fz⟩ := hst.cells
    have hA := hst.lt
    have HLA : Hid (lenAt wr A = n.ks.length) := Hq (by unfold lenAt; rw [c1])
    obtain ⟨rp, rn, rc, rb, rbs, rhn, rh1, rh2, rhz, _⟩ := hst.rs
    have d0 : wr.cell? ⟨g, 0, none⟩ = some (.slice rp rn rc) := jC rb 0
    have hgw := hst.rs.lt
    have HRN := Hq rhn
    have hkf := row_form hst.ko
    have hle := hli.le
    obtain ⟨_, _, hke, hk1, hk2, _⟩ := hkf
    cases hke
    obtain ⟨j, hj⟩ : ∃ j, j = n.ks.length := ⟨_, rfl⟩
    have HJ := Hq hj
    have HIK := Hq hli.ik
    rw [← hj] at c1 hk1 hle
    rw [hli.vs] at c2
    clear hst hli rb rbs rhn hj
    by_cases hjm : j < m
    ·
     by_cases hrn : 0 < rn
     ·
      have HTX := Hq (text_any (w := wr.drew) (HST.out.below (Below.refl _ _).drew).rs HLI.out.len)
      have HLT2 := Hq (textR_len l')
      go_wp2_with fail
      go_cut [33] from 34 to 39 (fun _ wx => ∃ (x : Kb) (n2 : Nd), x.l = (textR l').1 ∧ n2.ks = n.ks ++ [x] ∧ n2.vs = n.vs ∧ n2.is = n.is ∧ n2.leaf = n.leaf ∧ NSt w wx g A n2 (textR l').2)
      case first =>
       go_region_law (first
        | (go_simp; go_at_call 186; (with_reducible refine HTX.out.mono ?_); rintro e w2 ⟨x, rfl, hxl, hki, hr2, hg2⟩; have HXL := Hq hxl; have HKI := Hq hki; have HST2 := Hq ((HST.out.below (Below.refl _ _).drew).read hg2 hr2); have c1b := HST2.out.cells.1.2.1; rw [← HJ.out] at c1b; have hA2 := HST2.out.lt; have HKO : Hid (KOwn w2 w.heap.size (.slice n.kq j n.kc) n.ks) := Hq (by rw [HJ.out]; exact HST2.out.ko); clear hxl hki hr2 hg2)
        | (refine step_appK rfl (.tmp 34) (.tmp 37) rfl x rfl (World.ownsRow.alloc HKO.out _) rfl ((jC (heap_alloc_new w2 _) 0).trans rfl) (by rw [← HJ.out]; omega) (by have := HST2.out.gb.size; simp; omega) ?_; intro q3 n3 c3' w3 hn3 ho3 hg3; have HST3 := Hq (HST2.out.setK ((Below.refl _ _).alloc (Nat.le_refl _) _) hn3 ho3 (by rw [← HJ.out]; exact hg3) HKI.out); have hb3 := HST2.out.boxAt ((Below.refl _ _).alloc (Nat.le_refl _) _) HKO.out (by decide) (by decide) hg3; have z1 := (jC hb3 1).trans rfl; have y1 := jU hb3 1; have hA3 := (aL hb3); clear hn3 ho3 hg3 hb3)
        | fail)
       all_goals
        go_wp2_with fail
        go_meet
        exact ⟨x, { n with kq := q3, kc := c3', ks := n.ks ++ [x] }, HXL.out, rfl, rfl, rfl, rfl, HST3.out⟩
      case rest =>
       obtain ⟨x, n2, hxl, hn1, hn2, hn3, hn4, hst⟩ := hcut
       have HXL := Hq hxl
       have HN1 := Hq hn1
       have HN2 := Hq hn2
       have HN3 := Hq hn3
       have HN4 := Hq hn4
       have HST2 := Hq hst
       obtain ⟨⟨e0, e1, e2, e3⟩, fz2⟩ := hst.cells
       have hA2 := hst.lt
       obtain ⟨i, hi⟩ : ∃ i, i = n2.is.length := ⟨_, rfl⟩
       have HI := Hq hi
       have hi255 : i ≤ 256 := by rw [hi, hn3]; have := HIK.out; have := HJ.out; omega
       rw [← hi] at e3
       have HNX := Hq (num2_any (w := wc.drew) (HST2.out.below (Below.refl _ _).drew).rs (Nat.le_trans HLT2.out HLI.out.len))
       obtain ⟨T2, hT2⟩ : ∃ T, T = (textR l').2 := ⟨_, rfl⟩
       have HT2 := Hq hT2
       rw [← hT2] at HNX HST2
       have HN16 : Hid ((0 : Int) ≤ (leN (T2.take 2) : Nat) ∧ ((leN (T2.take 2) : Nat) : Int) ≤ 65535) := Hq (by have := leN_two T2; omega)
       clear hst hxl hn1 hn2 hn3 hn4 hi HTX c0 c1 c2 c3 fz hA d0 hT2
       go_wp2_with fail
       go_region_law (first
        | (go_simp; go_at_call 185; (with_reducible refine HNX.out.mono ?_); rintro e w3 ⟨rfl, hr3, hg3⟩; have HST3 := Hq ((HST2.out.below (Below.refl _ _).drew).read hg3 hr3); have e3b := HST3.out.cells.1.2.2.2; rw [← HI.out] at e3b; have hA3 := HST3.out.lt; have HIO : Hid (OwnI w3 w.heap.size (.slice n2.iq i n2.ic) n2.is) := Hq (by rw [HI.out]; exact HST3.out.io); clear hr3 hg3)
        | (refine step_appI1 rfl (.tmp 41) (.tmp 44) rfl (leN (T2.take 2) : Nat) rfl (World.ownsRow.alloc HIO.out _) rfl ((jC (heap_alloc_new w3 _) 0).trans rfl) (by rw [← HI.out]; omega) (by have := HST3.out.gb.size; simp; omega) ?_; intro q4 n4 c4' w4 hn4 ho4 hg4; have HST4 := Hq (HST3.out.setI ((Below.refl _ _).alloc (Nat.le_refl _) _) hn4 ho4 (by rw [← HI.out]; exact hg4) HN16.out); have hb4 := HST3.out.boxAt ((Below.refl _ _).alloc (Nat.le_refl _) _) HIO.out (by decide) (by decide) hg4; have z3 := (jC hb4 3).trans rfl; have y3 := jU hb4 3; have hA4 := (aL hb4); clear hn4 ho4 hg4 hb4)
        | fail)
       all_goals
        have HLI4 := Hq (HLI.out.step (n2 := { n2 with iq := q4, ic := c4', is := n2.is ++ [(leN (T2.take 2) : Int)] }) (x := x) (y := (leN (T2.take 2) : Nat)) (by rw [← HJ.out]; exact hjm) (by rw [← HRN.out]; exact hrn) HN4.out HN2.out HN1.out (by rw [← HN3.out]) HXL.out (by rw [← HT2.out]; rfl))
        rw [← HT2.out] at HLI4
        have HLB : Hid (lenAt (w4.setCell ⟨A, 3, none⟩ (.slice q4 n4 c4')) A = j + 1) := Hq (by
         unfold lenAt
         rw [HST4.out.cells.1.2.1]
         dsimp only
         rw [HN1.out, List.length_append, HJ.out]
         rfl)
        generalize (w4.setCell ⟨A, 3, none⟩ (.slice q4 n4 c4')) = w5 at *
        go_wp2_with fail
        go_roundw
        case rel =>
         (repeat apply Exists.intro)
         exact ⟨HST4.out, HLI4.out⟩
        case measure =>
         rw [HLA.out, HLB.out, ← HJ.out]
         omega
     ·
      have HE : Hid (rdB (m - n.ks.length) l' = []) := Hq (rdB_end (.inr (List.eq_nil_of_length_eq_zero (by have := HRN.out; omega))))
      obtain rfl : rn = 0 := by omega
      obtain ⟨⟨r0, r1, r2, r3⟩, ⟨v0, v1, v2, v3⟩, hrl⟩ := HST.out.resCells
      go_wp2
      refine bodyPost_ret (results_cell_row rfl _ _ w.heap.size 106 _ (0, 0) _ (by kernel_rfl) (ndSet4 HST.out.res) Tryz.underlying106 rfl (by kernel_rfl)) rfl ?_
      obtain ⟨hok, hgb, _⟩ := HST.out.done (gb4 wr w.heap.size (.bool n.leaf) (.slice n.kq j n.kc) (.slice n.vq 0 n.vc) (.slice n.iq n.is.length n.ic))
      refine ⟨n, ?_, branch_end HLI.out HE.out, hok, hgb⟩
      unfold Nd.cell
      rw [HLI.out.vs, ← HJ.out]
      rfl
    ·
     have HE : Hid (rdB (m - n.ks.length) l' = []) := Hq (rdB_end (.inl (by rw [← HJ.out]; omega)))
     obtain ⟨⟨r0, r1, r2, r3⟩, ⟨v0, v1, v2, v3⟩, hrl⟩ := HST.out.resCells
     go_wp2
     refine bodyPost_ret (results_cell_row rfl _ _ w.heap.size 106 _ (0, 0) _ (by kernel_rfl) (ndSet4 HST.out.res) Tryz.underlying106 rfl (by kernel_rfl)) rfl ?_
     obtain ⟨hok, hgb, _⟩ := HST.out.done (gb4 wr w.heap.size (.bool n.leaf) (.slice n.kq j n.kc) (.slice n.vq 0 n.vc) (.slice n.iq n.is.length n.ic))
     refine ⟨n, ?_, branch_end HLI.out HE.out, hok, hgb⟩
     unfold Nd.cell
     rw [HLI.out.vs, ← HJ.out]
     rfl
end Go.Proofs.YtbbgdbnjmonbgaaGreatDoor

set_option linter.unusedVariables false
set_option maxRecDepth 100000
namespace Go.Proofs.YtbbgdbnjmonbgaaGreatDoor
open Go.RowKit
end Go.Proofs.YtbbgdbnjmonbgaaGreatDoor
set_option linter.unusedVariables false
set_option maxRecDepth 100000
namespace Go.Proofs.YtbbgdbnjmonbgaaGreatDoor
open Go.RowKit
theorem run_at {w : World} (ty : TypeId) {B g n cap : Nat} {l m : List UInt8} (hown : Own w B (.slice (some ⟨g, 0, none⟩) n cap) l) (hn : n = l.length) {p : Option Addr} {k c : Nat} (hk : k = m.length) (hsrc : Bs w p m) (hp : p = none → c = 0)
  (hlen : l.length + m.length ≤ 140737488355328) (hB : B ≤ w.heap.size) :
  ∃ v' w', (Builtin.append_ #[33, 33] ty #[.slice (some ⟨g, 0, none⟩) n cap, .slice p k c]).run Tryz.prog w = .ok v' w' ∧ Own w' B v' (l ++ m) ∧ w.grownBy w' (some g) ∧ (v'.ownBlock = some g ∨ Own w' w.heap.size v' (l ++ m)) := by
 subst hn hk
 obtain ⟨i, hi, hz0, hz1, hz2⟩ := info_parts info_u8
 have fin : ∀ {D : Nat} {v' : Value} {w' : World}, w'.ownsRow D 5 1 v' (l.length + m.length) (u8s l ++ u8s m) → Own w' D v' (l ++ m) := by
  intro D v' w' h1
  unfold Own
  rw [← u8s_append, List.length_append]
  exact h1
 cases p with
 | none =>
  obtain rfl : m = [] := by
   rcases m with _ | ⟨u, m⟩
   ·
    rfl
   ·
    obtain ⟨b, o, hp, _⟩ := hsrc (by simp)
    cases hp
  obtain rfl := hp rfl
  have hrun := run_append_owned_none (P := Tryz.prog) (w := w) B 33 ty 5 i 1 Tryz.underlying33 hi _ l.length (u8s l) hown
  exact ⟨_, w, hrun, by simpa using hown, ⟨rfl, rfl, rfl, Nat.le_refl _, fun _ _ _ => rfl⟩, .inl rfl⟩
 | some ad =>
  have src : ∀ {r : List UInt8} {d : Addr}, Bs w (some d) r → ∀ j u, (u8s r)[j]? = some u → w.cell? (d.add j) = some u := by
   intro r d hr j u hj
   obtain ⟨y, hy, rfl⟩ := u8s_get hj
   obtain ⟨b, o, hp, hc⟩ := hr (by intro e; subst e; simp at hy)
   obtain rfl := Option.some.inj hp
   rw [Addr.add_lit]
   exact hc j y hy
  rcases Nat.lt_or_ge cap (l.length + m.length) with hc | hc
  ·
   obtain ⟨_, _, hf, _, _, hbs, _⟩ := hown.form rfl
   simp only [Value.slice.injEq] at hf
   obtain ⟨hf, _, _⟩ := hf
   subst hf
   obtain ⟨v', w', hrun, r1, r2⟩ := run_append_arg_grows (P := Tryz.prog) w 33 ty 5 i (.int .u8 0) 1 1 Tryz.underlying33 hi hz0 hz1 hz2 rfl (by decide) ⟨g, 0, none⟩ l.length cap (u8s l) (by simp [u8s]) (src hbs) ad m.length c (u8s m) (by simp [u8s]) (src hsrc) hc (by simp only [maxLen]; omega) (by omega)
   exact ⟨v', w', hrun, (fin r1).le hB, ⟨r2.os, r2.tape, r2.output, r2.size, fun k hk _ => r2.block k hk (by simp)⟩, .inr (fin r1)⟩
  ·
   obtain ⟨w', hrun, r1, r2⟩ := run_append_fits (P := Tryz.prog) (w := w) B 33 ty 5 i 1 Tryz.underlying33 hi hz1 g l.length cap (u8s l) hown ad m.length c (u8s m) (by simp [u8s]) (src hsrc) (u8s_oneCell m) hc
   exact ⟨_, w', hrun, fin r1, r2, .inl rfl⟩
end Go.Proofs.YtbbgdbnjmonbgaaGreatDoor

set_option linter.unusedVariables false
set_option maxRecDepth 100000
namespace Go.Proofs.YtbbgdbnjmonbgaaGreatDoor
open Go.RowKit
structure AppTo (w : World) (B g : Nat) (l : List UInt8) (g' n c : Nat) (w' : World) : Prop where
 len : n = l.length
 own : Own w' B (.slice (some ⟨g', 0, none⟩) n c) l
 gb : w.grownBy w' (some g)
 new : g' = g ∨ w.heap.size ≤ g'
def AppAt (w : World) (B g : Nat) (l : List UInt8) (e : Ending) (w' : World) : Prop := ∃ g' n c, e = .returned (.slice (some ⟨g', 0, none⟩) n c) ∧ AppTo w B g l g' n c w'
theorem AppTo.of_run {w w' : World} {B g : Nat} {v' : Value} {l : List UInt8} (hl : 0 < l.length) (h1 : Own w' B v' l) (h2 : w.grownBy w' (some g)) (h3 : v'.ownBlock = some g ∨ Own w' w.heap.size v' l) : ∃ g' n c, v' = .slice (some ⟨g', 0, none⟩) n c ∧ AppTo w B g l g' n c w' := by
 obtain ⟨g', c, rfl, _⟩ := h1.some rfl hl
 refine ⟨g', _, c, rfl, rfl, h1, h2, ?_⟩
 rcases h3 with h | h
 ·
  exact .inl (Option.some.inj h)
 ·
  exact .inr (World.ownsRow.lt h g' rfl).1
theorem AppTo.trans {w w1 w2 : World} {B g g1 g2 n1 n2 c1 c2 : Nat} {l m : List UInt8} (h : AppTo w B g l g1 n1 c1 w1) (h' : AppTo w1 B g1 m g2 n2 c2 w2) : AppTo w B g m g2 n2 c2 w2 :=
 ⟨h'.len, h'.own, ⟨h'.gb.os.trans h.gb.os, h'.gb.tape.trans h.gb.tape, h'.gb.output.trans h.gb.output, Nat.le_trans h.gb.size h'.gb.size, fun k hk hne => (h'.gb.block k (Nat.lt_of_lt_of_le hk h.gb.size) (fun e => by
  cases e
  rcases h.new with h1 | h1
  ·
   exact hne (by rw [h1])
  ·
   omega)).trans (h.gb.block k hk hne)⟩, by
  rcases h'.new with h1 | h1
  ·
   rw [h1]; exact h.new
  ·
   exact .inr (Nat.le_trans h.gb.size h1)⟩
theorem AppTo.pre {w w1 w2 : World} {B g g2 n2 c2 : Nat} {m : List UInt8} (h : Below w.heap.size w w1) (h' : AppTo w1 B g m g2 n2 c2 w2) : AppTo w B g m g2 n2 c2 w2 :=
 ⟨h'.len, h'.own, gb_trans (gb_below h) h'.gb, by
  rcases h'.new with h1 | h1
  ·
   exact .inl h1
  ·
   exact .inr (Nat.le_trans h.size h1)⟩
theorem AppTo.below {w w' : World} {B g g' n' c n c0 : Nat} {l k : List UInt8} (h : AppTo w B g l g' n' c w') (ho : Own w B (.slice (some ⟨g, 0, none⟩) n c0) k) (hB : B ≤ w.heap.size) : Below B w w' :=
 (Below.refl B w).grown h.gb hB fun i hi => by have := (World.ownsRow.lt ho g rfl).1; cases hi; exact this
theorem app_at {w : World} {ops : Array Oper} {rest : List Oper} {o : Oper} {a : Act} {Q : Exit → Act → World → Prop} (hgd : o.guard = none) (s x : Operand)
  (ho : o.op = .call { callee := .builtin .append, args := #[s, x], argTypes := #[33, 33] })
  {B g n cap : Nat} {l m : List UInt8} (hs : a.eval s = .slice (some ⟨g, 0, none⟩) n cap) (hown : Own w B (.slice (some ⟨g, 0, none⟩) n cap) l) (hn : n = l.length) {p : Option Addr} {k c : Nat} (hk : k = m.length) (hx : a.eval x = .slice p k c) (hsrc : Bs w p m) (hp : p = none → c = 0)
  (hl : 0 < (l ++ m).length) (hlen : l.length + m.length ≤ 140737488355328) (hB : B ≤ w.heap.size)
  (h : ∀ g' n' c' w', AppTo w B g (l ++ m) g' n' c' w' → wpList Tryz.prog ops Q rest (a.put o.dst (.slice (some ⟨g', 0, none⟩) n' c')) w') : wpList Tryz.prog ops Q (o :: rest) a w := by
 obtain ⟨v', w', hr, h1, h2, h3⟩ := run_at o.type hown hn hk hsrc hp hlen hB
 obtain ⟨g', n', c', rfl, ht⟩ := AppTo.of_run hl h1 h2 h3
 exact Lib.wpList_append_run w hgd s x _ _ ho _ _ hs hx _ w' hr (h g' n' c' w' ht)
theorem step_appAt {w : World} {ops : Array Oper} {o : Oper} {a : Act} {K : Act → World → Prop} {Q : Exit → Act → World → Prop} {E : Prop} (hgd : o.guard = none) (s x : Operand)
  (ho : o.op = .call { callee := .builtin .append, args := #[s, x], argTypes := #[33, 33] })
  {B g n cap : Nat} {l m : List UInt8} (hs : a.eval s = .slice (some ⟨g, 0, none⟩) n cap) (hown : Own w B (.slice (some ⟨g, 0, none⟩) n cap) l) (hn : n = l.length) {p : Option Addr} {k c : Nat} (hk : k = m.length) (hx : a.eval x = .slice p k c) (hsrc : Bs w p m) (hp : p = none → c = 0)
  (hl : 0 < (l ++ m).length) (hlen : l.length + m.length ≤ 140737488355328) (hB : B ≤ w.heap.size)
  (h : ∀ g' n' c' w', AppTo w B g (l ++ m) g' n' c' w' → K (a.put o.dst (.slice (some ⟨g', 0, none⟩) n' c')) w') : if Region.wanted o (yielded ops a.tmps) = true then Oper.wp Tryz.prog o a w K Q else E := by
 have hw : Region.wanted o (yielded ops a.tmps) = true := by simp [Region.wanted, hgd]
 rw [if_pos hw]
 obtain ⟨v', w', hr, h1, h2, h3⟩ := run_at o.type hown hn hk hsrc hp hlen hB
 obtain ⟨g', n', c', rfl, ht⟩ := AppTo.of_run hl h1 h2 h3
 exact Lib.wp_append_run w s x 33 33 ho _ _ hs hx _ w' hr (h g' n' c' w' ht)
theorem two_cells {n : Nat} (hn : n < 65536) : #[Value.int .u8 ((n : Int) % 256), .int .u8 ((n : Int) / 256)] = (u8s (two n)).toArray := by
 have e1 : ((UInt8.ofNat n).toNat : Int) = (n : Int) % 256 := by rw [UInt8.toNat_ofNat']; omega
 have e2 : ((UInt8.ofNat (n / 256)).toNat : Int) = (n : Int) / 256 := by rw [UInt8.toNat_ofNat']; omega
 simp only [u8s, two, List.map_cons, List.map_nil, e1, e2]
theorem one_cell {n : Nat} (hn : n < 256) : #[Value.int .u8 (n : Int)] = (u8s [UInt8.ofNat n]).toArray := by
 have e1 : ((UInt8.ofNat n).toNat : Int) = (n : Int) := by rw [UInt8.toNat_ofNat']; omega
 simp only [u8s, List.map_cons, List.map_nil, e1]
set_option maxHeartbeats 800000 in
theorem putNum_any {w : World} {B g m c : Nat} {l : List UInt8} (hown : Own w B (.slice (some ⟨g, 0, none⟩) m c) l) (hm : m = l.length) (hl : m ≤ 1000000) (hB : B ≤ w.heap.size) (n : Nat) (hn : n < 65536) :
  Calls Tryz.prog 170 #[.slice (some ⟨g, 0, none⟩) m c, .int .i64 (n : Int)] w (AppAt w B g (l ++ two n)) := by
 have HO := Hq hown
 have HM := Hq hm
 have HT := Hq (two_cells hn)
 obtain ⟨_, _, hv, h1, h2, _, _⟩ := hown.form hm
 cases hv
 clear hown hm
 go_enter Tryz.func170, Tryz.ntmps170
 go_wp2_with (at_builtin; refine app_at rfl (.tmp 5) (.tmp 11) rfl rfl (HO.out.alloc _) HM.out (m := two n) rfl rfl (Bs.new _ _ _ _ rfl HT.out) (fun h => by cases h) (by simp [two]) (by rw [← HM.out]; simp [two]; omega) (by simp; omega) ?_; intro g2 n2 c2 w2 ha; have HA := Hq (AppTo.pre ((Below.refl w.heap.size w).alloc (Nat.le_refl _) _) ha); clear ha)
 go_ret
 exact ⟨_, _, _, rfl, HA.out⟩
set_option maxHeartbeats 800000 in
theorem putText_any {w : World} {B g m c : Nat} {l : List UInt8} (hown : Own w B (.slice (some ⟨g, 0, none⟩) m c) l) (hm : m = l.length) (hl : m ≤ 1000000) (hB : B ≤ w.heap.size) {q : Option Addr} {tn k : Nat} {t : List UInt8} (ht : ∀ w', Below B w w' → Bs w' q t) (htn : tn = t.length) (htl : tn ≤ 255) (hz : q = none → k = 0) (hk : tn ≤ k) (hk2 : k ≤ 9223372036854775807) :
  Calls Tryz.prog 171 #[.slice (some ⟨g, 0, none⟩) m c, .slice q tn k] w (AppAt w B g (l ++ txtB t)) := by
 have HO := Hq hown
 have HM := Hq hm
 have HTN := Hq htn
 have HT := Hq (one_cell (n := tn) (by omega))
 have HBT := Hq ht
 have HZ := Hq hz
 have HX : Hid (l ++ [UInt8.ofNat tn] ++ t = l ++ txtB t) := Hq (by rw [HTN.out]; simp [txtB])
 have HBW : Hid (∀ {g' n' c' w'}, AppTo w B g (l ++ [UInt8.ofNat tn]) g' n' c' w' → Below B w w') := Hq fun h => h.below hown hB
 obtain ⟨_, _, hv, h1, h2, _, _⟩ := hown.form hm
 cases hv
 clear hown hm htn ht hz
 go_enter Tryz.func171, Tryz.ntmps171
 go_wp2_with (first
  | (at_builtin; refine app_at rfl (.tmp 10) (.tmp 11) rfl rfl HA.out.own HA.out.len (m := t) HTN.out rfl (HBT.out _ (HBW.out HA.out)) HZ.out (by simp; omega) (by rw [← HTN.out]; simp; have := HM.out; omega) (Nat.le_trans hB (HBW.out HA.out).size) ?_; intro g3 n3 c3 w3 ha; have HA3 := Hq (HA.out.trans ha); clear ha)
  | (at_builtin; refine app_at rfl (.tmp 5) (.tmp 9) rfl rfl (HO.out.alloc _) HM.out (m := [UInt8.ofNat tn]) rfl rfl (Bs.new _ _ _ _ rfl HT.out) (fun h => by cases h) (by simp) (by rw [← HM.out]; simp; omega) (by simp; omega) ?_; intro g2 n2 c2 w2 ha; have HA := Hq (AppTo.pre ((Below.refl w.heap.size w).alloc (Nat.le_refl _) _) ha); clear ha))
 go_ret
 exact ⟨_, _, _, rfl, by rw [← HX.out]; exact HA3.out⟩
set_option maxHeartbeats 1600000 in
theorem putVal_any {w : World} {B g m c : Nat} {l : List UInt8} (hown : Own w B (.slice (some ⟨g, 0, none⟩) m c) l) (hm : m = l.length) (hl : m ≤ 900000) (hB : B ≤ w.heap.size) {x : Vl} (hx : ∀ w', Below B w w' → Bs w' x.q x.l) (hok : x.Ok w) (hr : x.s.Right) :
  Calls Tryz.prog 172 #[.slice (some ⟨g, 0, none⟩) m c, x.cell] w (AppAt w B g (l ++ valB x.s)) := by
 obtain ⟨q, k, t, n, p⟩ := x
 have h1 := hok.h1
 have h2 := hok.h2
 have hz := hok.z
 unfold Vl.cell Vl.s valB
 unfold Vl.s VlS.Right at hr
 dsimp only at hx hr h1 h2 hz ⊢
 obtain ⟨tn, htn⟩ : ∃ y, y = t.length := ⟨_, rfl⟩
 have HTN := Hq htn
 rw [← htn] at hr h1 ⊢
 obtain ⟨W, hW⟩ : ∃ W, W = w.alloc (.cells #[.slice q tn k, .int .i64 n, .int .i64 p] 108) := ⟨_, rfl⟩
 have HWS : Hid (W.heap.size = w.heap.size + 1) := Hq (by rw [hW]; simp)
 have HWB : Hid (Below w.heap.size w W) := Hq (by rw [hW]; exact (Below.refl _ _).alloc (Nat.le_refl _) _)
 have HO : Hid (Own W B (.slice (some ⟨g, 0, none⟩) m c) l) := Hq (by rw [hW]; exact hown.alloc _)
 have HBS : Hid (B ≤ W.heap.size) := Hq (by have := HWS.out; omega)
 have hblk : W.heap[w.heap.size]? = some (.cells #[.slice q tn k, .int .i64 n, .int .i64 p] 108 (0, 0)) := by rw [hW]; exact heap_alloc_new w _
 have HM := Hq hm
 have HG : Hid (g < w.heap.size) := Hq (World.ownsRow.lt hown g rfl).2
 rcases hr with ⟨rfl, rfl, h64⟩ | ⟨⟨hp1, hp2⟩, hg1, hg2, ht0⟩
 ·
  rw [if_pos rfl]
  have HC := Hq (putText_any (k := k) (t := t) HO.out hm (by omega) HBS.out (fun w' hb => hx w' ((HWB.out.mono hB).trans hb)) htn (by omega) hz h1 h2)
  have c0 : W.cell? ⟨w.heap.size, 0, none⟩ = some (.slice q tn k) := jC hblk 0
  have c2 : W.cell? ⟨w.heap.size, 2, none⟩ = some (.int .i64 0) := jC hblk 2
  clear hown hx hok hblk hm htn
  go_enter Tryz.func172, Tryz.ntmps172
  go_wp2_with fail
  rw [← hW]
  replace hW := Hq hW
  go_wp2_with fail
  refine HC.out.mono ?_
  rintro e w2 ⟨g2, n2, c2, rfl, ha⟩
  have HA := Hq (AppTo.pre HWB.out ha)
  clear ha
  go_wp2
  go_ret
  exact ⟨_, _, _, rfl, HA.out⟩
 ·
  rw [if_neg (by omega)]
  obtain ⟨gn, rfl⟩ := Int.eq_ofNat_of_zero_le (show 0 ≤ n by omega)
  obtain ⟨pn, rfl⟩ := Int.eq_ofNat_of_zero_le (show 0 ≤ p by omega)
  rw [Int.toNat_natCast, Int.toNat_natCast]
  have hpb : ((pn : Int) == 0) = false := by rw [beq_eq_false_iff_ne]; omega
  have hpb2 : (pn == 0) = false := by rw [beq_eq_false_iff_ne]; omega
  have HC : Hid (∀ w' : World, w'.heap[w.heap.size]? = W.heap[w.heap.size]? → w'.cell? ⟨w.heap.size, 1, none⟩ = some (.int .i64 gn) ∧ w'.cell? ⟨w.heap.size, 2, none⟩ = some (.int .i64 pn)) := Hq fun w' hb => by
   have h1 := hb.trans hblk
   exact ⟨jC h1 1, jC h1 2⟩
  have HGN : Hid (gn < 65536) := Hq (by omega)
  have HPN : Hid (pn < 65536) := Hq (by omega)
  have HX : Hid (l ++ [255] ++ two gn ++ two pn = l ++ 255 :: (two gn ++ two pn)) := Hq (by simp)
  have HLW : Hid (w.heap.size < W.heap.size) := Hq (by have := HWS.out; omega)
  have HK : Hid (∀ {k g' n' c'} {w' : World}, AppTo W B g k g' n' c' w' → w'.heap[w.heap.size]? = W.heap[w.heap.size]?) := Hq fun h => h.gb.block _ HLW.out (fun e => by have := Option.some.inj e; have := HG.out; omega)
  have HBA : Hid (∀ {k g' n' c'} {w' : World}, AppTo W B g k g' n' c' w' → B ≤ w'.heap.size) := Hq fun h => Nat.le_trans HBS.out h.gb.size
  clear hblk ht0 hx hok hown hg1 hg2 hp1 hp2 hm htn
  obtain ⟨c1, c2⟩ := HC.out W rfl
  go_enter Tryz.func172, Tryz.ntmps172
  go_wp2_with fail
  rw [← hW]
  replace hW := Hq hW
  go_wp2_with fail
  have HAL : Hid (∀ o : Obj, Below W.heap.size W (W.drew.alloc o)) := Hq fun o => (Below.refl _ _).drew.alloc (Nat.le_refl _) _
  go_region_held3 (fun w' => w'.cell? ⟨w.heap.size, 1, none⟩ = some (.int .i64 gn) ∧ w'.cell? ⟨w.heap.size, 2, none⟩ = some (.int .i64 pn))
   (first | exact HC.out _ rfl | exact HC.out _ ((HAL.out _).block _ HLW.out) | exact HC.out _ (HK.out HA4.out) | exact HC.out _ (HK.out HA3.out) | exact HC.out _ (HK.out HA2.out))
   (first
    | (go_at_call 170; (with_reducible refine (putNum_any HA3.out.own HA3.out.len (by rw [HA3.out.len]; simp [two]; have := HM.out; omega) (HBA.out HA3.out) pn HPN.out).mono ?_); rintro e w4 ⟨g4, n4, d4, rfl, ha⟩; have HA4 := Hq (HA3.out.trans ha); clear ha)
    | (go_at_call 170; (with_reducible refine (putNum_any HA2.out.own HA2.out.len (by rw [HA2.out.len]; simp; have := HM.out; omega) (HBA.out HA2.out) gn HGN.out).mono ?_); rintro e w3 ⟨g3, n3, d3, rfl, ha⟩; have HA3 := Hq (HA2.out.trans ha); clear ha)
    | (refine step_appAt rfl (.tmp 12) (.tmp 13) rfl rfl (HO.out.drew.alloc _) HM.out (m := [255]) rfl rfl (Bs.new _ _ _ _ rfl rfl) (fun h => by cases h) (by simp) (by have := HM.out; simp; omega) (by have := HBS.out; simp; omega) ?_; intro g2 n2 d2 w2 ha; have HA2 := Hq (AppTo.pre (HAL.out _) ha); clear ha))
  all_goals
   go_wp2
   go_ret
   exact ⟨_, _, _, rfl, by rw [← HX.out]; exact AppTo.pre HWB.out HA4.out⟩
end Go.Proofs.YtbbgdbnjmonbgaaGreatDoor

