/-
  node.Child, Entry, val, Size: contracts.
-/
import Derived.Test.YtigmibmebockhaaNdMem
import Derived.Deep.QuietTactic
import Derived.BigQuiet
set_option linter.unusedVariables false
set_option maxRecDepth 100000
namespace Go.Proofs.Ytigmibmebockhaa
open Go.RowKit

theorem child_any {w : World} {q : Option Addr} {n c : Nat} (hn : n ≤ 1000000) :
    Calls Try.prog 14 #[.slice q n c] w fun e w' => e = .returned (.int .i64 ((n + 3 : Nat) : Int)) ∧ w' = w := by
  go_enter Try.func14, Try.ntmps14
  go_wp2
  go_ret
  exact ⟨ret_int (by omega), rfl⟩

theorem entry_any {w : World} {q : Option Addr} {n c : Nat} (hn : n ≤ 1000000) (q' : Option Addr) (c' : Nat) (l : List UInt8) (g p : Int) (hl : l.length ≤ 1000000) (k : List UInt8) (hk : n = k.length) :
    Calls Try.prog 15 #[.slice q n c, .agg #[.slice q' l.length c', .int .i64 g, .int .i64 p]] w fun e w' => e = .returned (.int .i64 (entS k ⟨l, g, p⟩ : Nat)) ∧ Below w.heap.size w w' := by
  obtain ⟨m, hm⟩ : ∃ m, m = l.length := ⟨_, rfl⟩
  have HK := Lib.hid hk
  have HM := Lib.hid hm
  rw [← hm] at hl ⊢
  clear hk hm
  by_cases hp : p = 0
  · subst hp
    go_enter Try.func15, Try.ntmps15
    go_wp2
    go_ret
    refine ⟨ret_int ?_, ((Below.refl _ _).alloc (Nat.le_refl _) _)⟩
    unfold entS
    rw [if_pos rfl, ← HK.out, ← HM.out]
    omega
  · have hpb : (p != 0) = true := by simpa using hp
    have HP := Lib.hid hp
    clear hp
    go_enter Try.func15, Try.ntmps15
    go_wp2
    go_ret
    refine ⟨ret_int ?_, ((Below.refl _ _).alloc (Nat.le_refl _) _)⟩
    unfold entS
    rw [if_neg HP.out, ← HK.out]
    omega

/-- The value of an entry, or none. -/
def Nd.val (n : Nd) (i : Nat) : Vl := n.vs[i]?.getD ⟨none, 0, [], 0, 0⟩
theorem Nd.val_s (n : Nd) (i : Nat) : (n.val i).s = ((n.s).vs[i]?).getD .zero := by
  unfold Nd.val Nd.s
  simp only [List.getElem?_map]
  cases n.vs[i]? <;> rfl
theorem Nd.val_len (n : Nd) (i : Nat) : (n.val i).l.length ≤ lens Vl.l n.vs := by
  unfold Nd.val
  cases h : n.vs[i]? with
  | none => exact Nat.zero_le _
  | some v => exact lens_mem (f := Vl.l) (List.mem_of_getElem? h)

set_option maxHeartbeats 1600000 in
theorem val_any {w : World} {n : Nd} (h : n.Ok w) (i : Nat) (hi : i ≤ 1000000) :
    Calls Try.prog 31 #[n.cell, .int .i64 (i : Int)] w fun e w' => e = .returned (n.val i).cell ∧ Below w.heap.size w w' := by
  obtain ⟨lf, kq, kc, ks, vq, vc, vs, iq, ic, is⟩ := n
  have h1 := h.v1
  have h2 := h.v2
  have HV := Lib.hid h.vl
  dsimp only at h1 h2
  obtain ⟨m, hm⟩ : ∃ m, m = vs.length := ⟨_, rfl⟩
  have HM := Lib.hid hm
  obtain ⟨mk, hmk⟩ : ∃ m, m = ks.length := ⟨_, rfl⟩
  obtain ⟨mi, hmi⟩ : ∃ m, m = is.length := ⟨_, rfl⟩
  unfold Nd.cell
  dsimp only
  rw [← hm] at h1 ⊢
  rw [← hmk, ← hmi]
  clear h hm hmk hmi
  by_cases hlt : i < m
  · obtain ⟨v, hv⟩ : ∃ v, vs[i]? = some v := ⟨_, List.getElem?_eq_getElem (by have := HM.out; omega)⟩
    obtain ⟨b, o, rfl, hb, c0, c1, c2⟩ := (show Vls w vq vs from HV.out).at hv
    have HE : Hid ((Nd.val ⟨lf, kq, kc, ks, some ⟨b, o, none⟩, vc, vs, iq, ic, is⟩ i) = v) := Lib.hid (by unfold Nd.val; rw [hv]; rfl)
    generalize Nd.val ⟨lf, kq, kc, ks, some ⟨b, o, none⟩, vc, vs, iq, ic, is⟩ i = x at *
    clear hv HV HM
    go_enter Try.func31, Try.ntmps31
    go_wp2
    refine bodyPost_ret (results_cell_row rfl _ _ (w.heap.size + 1) 42 _ (0, 0) _ (by kernel_rfl) (boxes w _ _ _ _).2.1 Try.underlying42 rfl (by kernel_rfl)) rfl ?_
    refine ⟨?_, (boxes w _ _ _ _).2.2.1⟩
    rw [HE.out]
    rfl
  · have HE : Hid ((Nd.val ⟨lf, kq, kc, ks, vq, vc, vs, iq, ic, is⟩ i) = ⟨none, 0, [], 0, 0⟩) := Lib.hid (by unfold Nd.val; rw [List.getElem?_eq_none (show vs.length ≤ i by have := HM.out; omega)]; rfl)
    generalize Nd.val ⟨lf, kq, kc, ks, vq, vc, vs, iq, ic, is⟩ i = x at *
    clear HV HM
    go_enter Try.func31, Try.ntmps31
    go_wp2
    refine bodyPost_ret (results_cell_row rfl _ _ (w.heap.size + 1) 42 _ (0, 0) _ (by kernel_rfl) (boxes w _ _ _ _).2.1 Try.underlying42 rfl (by kernel_rfl)) rfl ?_
    refine ⟨?_, (boxes w _ _ _ _).2.2.1⟩
    rw [HE.out]
    rfl

theorem Nd.s_ks (n : Nd) : (n.s).ks = n.ks.map Kb.l := rfl
theorem Nd.few {n : Nd} (hc : n.s.count ≤ 100000) : n.ks.length ≤ 100000 ∧ n.vs.length ≤ 100000 ∧ n.is.length ≤ 100000 ∧ (∀ x ∈ n.ks, x.l.length ≤ 100000) ∧ lens Vl.l n.vs ≤ 100000 := by
  unfold NdS.count Nd.s at hc
  dsimp only at hc
  rw [List.length_map, List.length_map] at hc
  have e1 : lens VlS.l (n.vs.map Vl.s) = lens Vl.l n.vs := by
    induction n.vs with
    | nil => rfl
    | cons a l ih => simp only [List.map_cons, lens, ih]; rfl
  refine ⟨by omega, by omega, by omega, fun x hx => ?_, by omega⟩
  have := lens_mem (f := id) (l := n.ks.map Kb.l) (List.mem_map_of_mem hx)
  simp only [id] at this
  omega

set_option maxHeartbeats 1600000 in
/-- Size, of any node that is not too great to be counted. -/
theorem size_any {w : World} {n : Nd} (h : n.Ok w) (hc : n.s.count ≤ 100000) :
    Calls Try.prog 16 #[n.cell] w fun e w' => e = .returned (.int .i64 (n.s.size : Nat)) ∧ Below w.heap.size w w' := by
  obtain ⟨f1, f2, f3, f4, f5⟩ := Nd.few hc
  have hsz : n.s.size ≤ 600003 := Nat.le_trans n.s.size_le (by omega)
  have hk1 := h.k1
  have hk2 := h.k2
  have HOK := Lib.hid h
  have HF4 := Lib.hid f4
  have HF5 := Lib.hid f5
  obtain ⟨m, hm⟩ : ∃ m, m = n.ks.length := ⟨_, rfl⟩
  have HM := Lib.hid hm
  rw [← hm] at hk1 f1
  have hcell : n.cell = .agg #[.bool n.leaf, .slice n.kq m n.kc, .slice n.vq n.vs.length n.vc, .slice n.iq n.is.length n.ic] := by rw [hm]; rfl
  obtain ⟨W, hW⟩ : ∃ W, W = w.alloc (.cells #[.bool n.leaf, .slice n.kq m n.kc, .slice n.vq n.vs.length n.vc, .slice n.iq n.is.length n.ic] 27) := ⟨_, rfl⟩
  have HBW : Hid (Below w.heap.size w W) := Lib.hid (by rw [hW]; exact (Below.refl _ _).alloc (Nat.le_refl _) _)
  have hblk : W.heap[w.heap.size]? = some (.cells #[.bool n.leaf, .slice n.kq m n.kc, .slice n.vq n.vs.length n.vc, .slice n.iq n.is.length n.ic] 27 (0, 0)) := by rw [hW]; exact heap_alloc_new w _
  have HWS : Hid (W.heap.size = w.heap.size + 1) := Lib.hid (by rw [hW]; simp)
  have HC : Hid (∀ w', Below W.heap.size W w' → w'.cell? ⟨w.heap.size, 0, none⟩ = some (.bool n.leaf) ∧ w'.cell? ⟨w.heap.size, 1, none⟩ = some (.slice n.kq m n.kc) ∧ w'.cell? ⟨w.heap.size, 2, none⟩ = some (.slice n.vq n.vs.length n.vc) ∧ w'.cell? ⟨w.heap.size, 3, none⟩ = some (.slice n.iq n.is.length n.ic)) := Lib.hid fun w' hb => by
    have h1 := (hb.block w.heap.size (by rw [HWS.out]; omega)).trans hblk
    exact ⟨Joins.cell_of_block h1 0, Joins.cell_of_block h1 1, Joins.cell_of_block h1 2, Joins.cell_of_block h1 3⟩
  rw [hcell]
  have HCE := Lib.hid hcell
  clear hblk hm hcell h f4 f5 hc
  cases hl : n.leaf
  · have HL := Lib.hid hl
    rw [hl] at HC hW
    have HS : Hid (n.s.size = 3 + sizeB n.s.ks) := Lib.hid (by unfold NdS.size; rw [show n.s.leaf = n.leaf from rfl, HL.out]; rfl)
    have hs3 : 3 + sizeB n.s.ks ≤ 600003 := by rw [← HS.out]; exact hsz
    clear hl hsz
    obtain ⟨c0, c1, c2, c3⟩ := HC.out W (Below.refl _ _)
    go_enter Try.func16, Try.ntmps16
    go_wp2_with fail
    rw [← hW]
    replace hW := Lib.hid hW
    go_wp2
    go_loopw [3, 14] (fun x i wr => ∃ (j z : Nat), i = .int .i64 (j : Int) ∧ x = .int .i64 (z : Int) ∧ j ≤ m ∧ Below W.heap.size W wr ∧ z + sizeB (n.s.ks.drop j) = 3 + sizeB n.s.ks) (fun _ i _ => m - (intOf i).toNat)
    case atStart => exact ⟨0, 3, rfl, rfl, by omega, Below.refl _ _, rfl⟩
    case round =>
      clear c0 c1 c2 c3
      obtain ⟨j, z, rfl, rfl, hj, hb, hz⟩ := hrel
      have HB := Lib.hid hb
      have HZ := Lib.hid hz
      have hz2 : z ≤ 600003 := by omega
      obtain ⟨c0, c1, c2, c3⟩ := HC.out _ hb
      clear hb hz
      by_cases hlt : j < m
      · obtain ⟨x, hx⟩ : ∃ x, n.ks[j]? = some x := ⟨_, List.getElem?_eq_getElem (by have := HM.out; omega)⟩
        have hm2 := List.mem_of_getElem? hx
        obtain ⟨b, o, hq, hblt, hkc⟩ := (((HOK.out.below HBW.out).below HB.out).kl).at hx
        have hx2 := (HOK.out.ko x hm2).h2
        have hx3 := HF4.out x hm2
        have hx1 := (HOK.out.ko x hm2).h1
        rw [hq] at c1 ⊢
        obtain ⟨kl, hkl⟩ : ∃ k, k = x.l.length := ⟨_, rfl⟩
        have HKL := Lib.hid hkl
        rw [← hkl] at hkc hx3 hx1
        have HD : Hid (sizeB (n.s.ks.drop j) = kl + 3 + sizeB (n.s.ks.drop (j + 1))) := Lib.hid (by rw [HKL.out]; exact sizeB_drop (by rw [Nd.s_ks, List.getElem?_map, hx]; rfl))
        have HCH := Lib.hid (fun w => child_any (w := w) (q := x.q) (n := kl) (c := x.c) (by omega))
        clear hx hm2 hkl hq
        go_wp2_with fail
        refine (HCH.out _).mono ?_
        rintro e w1 ⟨rfl, rfl⟩
        go_wp2
        go_roundw
        case rel => exact ⟨j + 1, z + (kl + 3), by go_num, by go_num, by omega, HB.out, by have := HD.out; have := HZ.out; omega⟩
        case measure => simp [intOf]; omega
      · go_wp2
        go_ret
        refine ⟨ret_int ?_, HBW.out.trans (HB.out.mono (by rw [HWS.out]; omega))⟩
        have h1 := HZ.out
        rw [List.drop_eq_nil_of_le (by rw [Nd.s_ks, List.length_map]; have := HM.out; omega)] at h1
        rw [HS.out]
        simp only [sizeB] at h1
        omega
  · have HL := Lib.hid hl
    rw [hl] at HC hW
    have HS : Hid (n.s.size = 1 + sizeL n.s.ks n.s.vs) := Lib.hid (by unfold NdS.size; rw [show n.s.leaf = n.leaf from rfl, HL.out]; rfl)
    have hs3 : 1 + sizeL n.s.ks n.s.vs ≤ 600003 := by rw [← HS.out]; exact hsz
    clear hl hsz
    obtain ⟨c0, c1, c2, c3⟩ := HC.out W (Below.refl _ _)
    go_enter Try.func16, Try.ntmps16
    go_wp2_with fail
    rw [← hW]
    replace hW := Lib.hid hW
    go_wp2
    go_loopw [3, 14] (fun x i wr => ∃ (j z : Nat), i = .int .i64 (j : Int) ∧ x = .int .i64 (z : Int) ∧ j ≤ m ∧ Below W.heap.size W wr ∧ z + sizeL (n.s.ks.drop j) (n.s.vs.drop j) = 1 + sizeL n.s.ks n.s.vs) (fun _ i _ => m - (intOf i).toNat)
    case atStart => exact ⟨0, 1, rfl, rfl, by omega, Below.refl _ _, rfl⟩
    case round =>
      clear c0 c1 c2 c3
      obtain ⟨j, z, rfl, rfl, hj, hb, hz⟩ := hrel
      have HB := Lib.hid hb
      have HZ := Lib.hid hz
      have hz2 : z ≤ 600003 := by omega
      obtain ⟨c0, c1, c2, c3⟩ := HC.out _ hb
      clear hb hz
      by_cases hlt : j < m
      · obtain ⟨x, hx⟩ : ∃ x, n.ks[j]? = some x := ⟨_, List.getElem?_eq_getElem (by have := HM.out; omega)⟩
        have hm2 := List.mem_of_getElem? hx
        obtain ⟨b, o, hq, hblt, hkc⟩ := (((HOK.out.below HBW.out).below HB.out).kl).at hx
        have hx2 := (HOK.out.ko x hm2).h2
        have hx3 := HF4.out x hm2
        have hx1 := (HOK.out.ko x hm2).h1
        rw [hq] at c1 ⊢
        obtain ⟨kl, hkl⟩ : ∃ k, k = x.l.length := ⟨_, rfl⟩
        have HKL := Lib.hid hkl
        rw [← hkl] at hkc hx3 hx1
        have HD : Hid (sizeL (n.s.ks.drop j) (n.s.vs.drop j) = entS x.l (n.val j).s + sizeL (n.s.ks.drop (j + 1)) (n.s.vs.drop (j + 1))) := Lib.hid (by rw [Nd.val_s]; exact sizeL_drop (by rw [Nd.s_ks, List.getElem?_map, hx]; rfl))
        have HVL := Lib.hid (Nat.le_trans (n.val_len j) HF5.out)
        have HCV := Lib.hid (val_any ((HOK.out.below HBW.out).below HB.out) j (by omega))
        rw [HCE.out, hq, HL.out] at HCV
        clear hx hm2 hkl hq
        go_wp2_with fail

        with_reducible refine HCV.out.mono ?_
        rintro e w1 ⟨rfl, hb1⟩
        have HB1 := Lib.hid (HB.out.trans (hb1.mono HB.out.size))
        clear hb1
        generalize n.val j = y at *
        obtain ⟨yq, yc, yl, yg, yp⟩ := y
        have HCH := Lib.hid (fun w => entry_any (w := w) (q := x.q) (n := kl) (c := x.c) (by omega) yq yc yl yg yp (Nat.le_trans HVL.out (by omega)) x.l HKL.out)
        obtain ⟨es, hes⟩ : ∃ s, s = entS x.l ⟨yl, yg, yp⟩ := ⟨_, rfl⟩
        have HES := Lib.hid hes
        have hes2 : es ≤ 200006 := by
          rw [hes]
          have h1 := HVL.out
          have h2 := HKL.out
          unfold entS
          dsimp only at h1 ⊢
          split <;> omega
        rw [← hes] at HCH
        clear hes
        go_wp2_with fail
        refine (HCH.out _).mono ?_
        rintro e w2 ⟨rfl, hb2⟩
        have HB2 := Lib.hid (HB1.out.trans (hb2.mono HB1.out.size))
        clear hb2
        go_wp2
        go_roundw
        case rel => exact ⟨j + 1, z + es, by go_num, by go_num, by omega, HB2.out, by have h1 := HD.out; have := HZ.out; have h3 := HES.out; dsimp only [Vl.s] at h1; rw [← h3] at h1; omega⟩
        case measure => simp [intOf]; omega
      · go_wp2
        go_ret
        refine ⟨ret_int ?_, HBW.out.trans (HB.out.mono (by rw [HWS.out]; omega))⟩
        have h1 := HZ.out
        rw [(List.drop_eq_nil_of_le (by rw [Nd.s_ks, List.length_map]; have := HM.out; omega) : n.s.ks.drop j = [])] at h1
        rw [HS.out]
        simp only [sizeL] at h1
        omega

end Go.Proofs.Ytigmibmebockhaa
