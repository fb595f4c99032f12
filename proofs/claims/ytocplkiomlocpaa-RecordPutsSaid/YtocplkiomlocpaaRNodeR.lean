/-
  The reference's NodeRight, EdgeRight: contracts for the walks.
-/
import Derived.Test.YtocplkiomlocpaaRRightR
set_option linter.unusedVariables false
set_option maxRecDepth 100000
namespace Go.Proofs.Ytocplkiomlocpaa
open Go.RowKit

set_option maxHeartbeats 8000000 in
theorem refNodeRight_any {w : World} (n : Nd) (h : n.Ok w) :
    Calls Try.prog 15 #[n.cell] w fun e w' => e = .returned (.bool (nodeR n.id n.ls (n.ps.map Pr.c))) ∧ Below w.heap.size w w' := by
  have hst := store_flt
  obtain ⟨id, q, m, c, ls, q', m', c', ps⟩ := n
  obtain ⟨i1, i2, hl, hp⟩ := h
  dsimp only [Nd.cell] at *
  have HC : Hid (∀ w', Below w.heap.size w w' → _) := Lib.hid fun w' hb => refProps_any (hp.below hb)
  have HNM := Lib.hid (fun s hs w => refName_any (w := w) s hs)
  obtain ⟨g, hg⟩ : ∃ g, riseG (aheadS ls 0) (ls.drop 0) = g := ⟨_, rfl⟩
  have hg0 : riseF str0 ls = g := by rw [← riseG_none]; exact hg
  have HE : Hid (nodeR id ls (ps.map Pr.c) = (decide (0 < id) && (decide (m ≤ 8) && (g && propsR (ps.map Pr.c))))) := Lib.hid (by unfold nodeR; rw [hl.hn, hg0])
  have HLS := Lib.hid hl
  have h1 := hl.h1
  have h2 := hl.h2
  have h1' := hp.h1
  have h2' := hp.h2
  have HG := Lib.hid hg
  clear hl hp hg hg0
  generalize nodeR id ls (ps.map Pr.c) = r at *
  generalize propsR (ps.map Pr.c) = y at *
  obtain ⟨W, hW⟩ : ∃ W, W = w.alloc (.cells #[.int .i64 id, .slice q m c, .slice q' m' c'] 25) := ⟨_, rfl⟩
  have hk : ∀ N, W.drewN N = W.drewN N := fun _ => rfl
  have HK : Hid (∀ w', Below W.heap.size W w' → w'.cell? ⟨w.heap.size, 0, none⟩ = some (.int .i64 id) ∧ w'.cell? ⟨w.heap.size, 1, none⟩ = some (.slice q m c) ∧ w'.cell? ⟨w.heap.size, 2, none⟩ = some (.slice q' m' c')) := by
    refine Lib.hid fun w' hb => ?_
    rw [hW] at hb
    have h1 := box_all hb
    exact ⟨h1 0, h1 1, h1 2⟩
  have HWB : Hid (∀ w', Below W.heap.size W w' → Below w.heap.size w w') := by
    refine Lib.hid fun w' hb => ?_
    rw [hW] at hb
    exact box_below hb
  have HWs : Hid (W.heap.size = w.heap.size + 1) := Lib.hid (by rw [hW]; simp)
  clear hk
  go_enter Try.func15, Try.ntmps15
  go_wp2_with fail
  go_loopw [3] (fun i wr => ∃ j : Nat, i = .int .i64 j ∧ j ≤ m ∧ riseG (aheadS ls j) (ls.drop j) = g ∧ Below W.heap.size W wr) (fun i _ => m - (intOf i).toNat)
  case atStart => exact ⟨0, rfl, by omega, HG.out, by rw [hW]; exact Below.refl _ _⟩
  case round =>
    replace hW := Lib.hid hW
    obtain ⟨j, rfl, hj, hgj, hb⟩ := hrel
    have HJ := Lib.hid hgj
    have HB := Lib.hid hb
    obtain ⟨k0, k1, k2⟩ := HK.out _ hb
    have hw1 : w.heap.size < wr.heap.size := by have := HWs.out; have := hb.size; omega
    clear hgj hb HG
    by_cases hlt : j < m
    · have hjl : j < ls.length := by have := HLS.out.hn; omega
      obtain ⟨s, hs⟩ : ∃ s, ls[j]? = some s := ⟨_, List.getElem?_eq_getElem hjl⟩
      obtain ⟨b, o, rfl, hblt, c0⟩ := (HLS.out.hl.below (HWB.out _ HB.out)).at hs
      have HNS : Hid (∀ w, Calls Try.prog 24 #[.string s] w fun e w' => e = .returned (.bool (nameOk s)) ∧ w' = w) := Lib.hid fun w => (HNM.out s (HLS.out.ok s (List.mem_of_getElem? hs)) w).mono fun e w' h => ⟨h.1, h.2.symm⟩
      rcases Nat.eq_zero_or_pos j with h0 | h0
      · subst h0
        have HST : Hid ((nameOk s && riseG (aheadS ls 1) (ls.drop 1)) = g) := Lib.hid (by rw [← HJ.out, riseG_first hs])
        clear hs hjl HJ
        have c0' : wr.cell? ⟨b, o, none⟩ = some (.string s) := c0
        generalize nameOk s = x at *
        have hj0 : decide ((0 : Int) < ((0 : Nat) : Int)) = false := rfl
        have hj0' : decide ((0 : Int) < 0) = false := rfl
        cases x
        · have HX : Hid (g = false) := Lib.hid HST.out.symm
          clear HST
          go_wp2
          go_quiet ((go_at_call 24; exact Calls.quiet_of_same (HNS.out _)))
          go_wp2
          go_ret
          exact ⟨ret_bool (by rw [HE.out, HX.out]; simp), HWB.out _ (belowN HB.out _)⟩
        · have HX : Hid (riseG (aheadS ls 1) (ls.drop 1) = g) := Lib.hid HST.out
          clear HST
          go_wp2
          go_quiet ((go_at_call 24; exact Calls.quiet_of_same (HNS.out _)))
          go_wp2
          go_roundw
          case rel => exact ⟨1, by go_num, by omega, HX.out, belowN HB.out _⟩
          case measure => simp [intOf]; omega
      · obtain ⟨i, hji⟩ : ∃ i, j = i + 1 := ⟨j - 1, by omega⟩
        obtain ⟨t, ht⟩ : ∃ t, ls[i]? = some t := ⟨_, List.getElem?_eq_getElem (by omega)⟩
        obtain ⟨b', o', hbo, _, d0⟩ := (HLS.out.hl.below (HWB.out _ HB.out)).at ht
        simp only [Option.some.injEq, Addr.mk.injEq, and_true] at hbo
        obtain ⟨rfl, rfl⟩ := hbo
        have HST : Hid ((nameOk s && (!leS s t && riseG (aheadS ls (j + 1)) (ls.drop (j + 1)))) = g) := Lib.hid (by
          have h := HJ.out
          rw [hji] at hs h ⊢
          rw [← h, riseG_next hs ht])
        have hle : (Op.bytesLess s.toList t.toList || s.toList == t.toList) = leS s t := rfl
        have hi1 : (j : Int) - 1 = (i : Int) := by omega
        have hi2 : decide ((0 : Int) < (j : Int)) = true := decide_eq_true (by omega)
        have hi3 : decide (0 < j) = true := decide_eq_true (by omega)
        have hi4 : i < m := by omega
        have hi5 : IntKind.i64.wrap (i : Int) = (i : Int) := IntWalk.i64_in _ (by omega)
        clear hs hjl HJ ht hji h0
        generalize nameOk s = x at *
        generalize leS s t = le at *
        cases x
        · have HX : Hid (g = false) := Lib.hid HST.out.symm
          clear HST
          go_wp2
          go_quiet ((go_at_call 24; exact Calls.quiet_of_same (HNS.out _)))
          go_wp2
          go_ret
          exact ⟨ret_bool (by rw [HE.out, HX.out]; simp), HWB.out _ (belowN HB.out _)⟩
        · cases le
          · have HX : Hid (riseG (aheadS ls (j + 1)) (ls.drop (j + 1)) = g) := Lib.hid HST.out
            clear HST
            go_wp2
            go_quiet ((go_at_call 24; exact Calls.quiet_of_same (HNS.out _)))
            go_wp2
            go_roundw
            case rel => exact ⟨j + 1, by go_num, by omega, HX.out, belowN HB.out _⟩
            case measure => simp [intOf]; omega
          · have HX : Hid (g = false) := Lib.hid HST.out.symm
            clear HST
            go_wp2
            go_quiet ((go_at_call 24; exact Calls.quiet_of_same (HNS.out _)))
            go_wp2
            go_ret
            exact ⟨ret_bool (by rw [HE.out, HX.out]; simp), HWB.out _ (belowN HB.out _)⟩
    · have HX : Hid (g = true) := Lib.hid (by
        have h := HJ.out
        rw [List.drop_eq_nil_of_le (by have := HLS.out.hn; omega)] at h
        rw [← h]
        cases aheadS ls j <;> rfl)
      rw [HX.out] at HE
      by_cases h0 : 0 < id
      · rw [decide_eq_true h0] at HE
        by_cases h8 : m ≤ 8
        · rw [decide_eq_true h8] at HE
          go_wp2_with fail
          refine (HC.out _ (HWB.out _ HB.out)).mono ?_; rintro e w2 ⟨rfl, hb2⟩
          have HB2 := Lib.hid ((HWB.out _ HB.out).trans (hb2.mono (HWB.out _ HB.out).size))
          clear hb2
          go_wp2
          go_ret
          exact ⟨ret_bool HE.out.symm, HB2.out⟩
        · rw [decide_eq_false h8] at HE
          go_wp2
          go_ret
          exact ⟨ret_bool HE.out.symm, HWB.out _ HB.out⟩
      · rw [decide_eq_false h0] at HE
        go_wp2
        go_ret
        exact ⟨ret_bool HE.out.symm, HWB.out _ HB.out⟩

set_option maxHeartbeats 1600000 in
theorem refEdgeRight_any {w : World} (n : Ed) (h : n.Ok w) :
    Calls Try.prog 17 #[n.cell] w fun e w' => e = .returned (.bool (edgeR n.id n.fr n.to n.t (n.ps.map Pr.c))) ∧ Below w.heap.size w w' := by
  obtain ⟨id, t, fr, to, q, m, c, ps⟩ := n
  obtain ⟨i1, i2, ht, f1, f2, t1, t2, hp⟩ := h
  dsimp only at *
  have HN : Hid (∀ w', _) := Lib.hid fun w' => refName_any (w := w') t ht
  have HC : Hid (∀ w', Below w.heap.size w w' → _) := Lib.hid fun w' hb => refProps_any (hp.below hb)
  have HE : Hid (edgeR id fr to t (ps.map Pr.c) = (decide (0 < id) && (decide (0 < fr) && (decide (0 < to) && (nameOk t && propsR (ps.map Pr.c)))))) := Lib.hid rfl
  have h1' := hp.h1
  have h2' := hp.h2
  clear hp
  show Calls Try.prog _ #[.agg #[.int .i64 id, .string t, .int .i64 fr, .int .i64 to, .slice q m c]] w _
  generalize edgeR id fr to t (ps.map Pr.c) = r at *
  generalize nameOk t = x at *
  generalize propsR (ps.map Pr.c) = y at *
  by_cases h0 : 0 < id
  · rw [decide_eq_true h0] at HE
    by_cases h3 : 0 < fr
    · rw [decide_eq_true h3] at HE
      by_cases h4 : 0 < to
      · rw [decide_eq_true h4] at HE
        cases x
        · go_enter Try.func17, Try.ntmps17
          go_wp2_with fail
          refine (HN.out _).mono ?_; rintro e w1 ⟨rfl, rfl⟩
          go_wp2
          go_ret
          exact ⟨ret_bool HE.out.symm, box_below (Below.refl _ _)⟩
        · go_enter Try.func17, Try.ntmps17
          go_wp2_with fail
          refine (HN.out _).mono ?_; rintro e w1 ⟨rfl, rfl⟩
          go_wp2_with fail
          refine (HC.out _ (box_below (Below.refl _ _))).mono ?_; rintro e w2 ⟨rfl, hb2⟩
          have HB2 := Lib.hid (box_below hb2)
          clear hb2
          go_wp2
          go_ret
          exact ⟨ret_bool HE.out.symm, HB2.out⟩
      · rw [decide_eq_false h4] at HE
        go_enter Try.func17, Try.ntmps17
        go_wp2
        go_ret
        exact ⟨ret_bool HE.out.symm, box_below (Below.refl _ _)⟩
    · rw [decide_eq_false h3] at HE
      go_enter Try.func17, Try.ntmps17
      go_wp2
      go_ret
      exact ⟨ret_bool HE.out.symm, box_below (Below.refl _ _)⟩
  · rw [decide_eq_false h0] at HE
    go_enter Try.func17, Try.ntmps17
    go_wp2
    go_ret
    exact ⟨ret_bool HE.out.symm, box_below (Below.refl _ _)⟩

end Go.Proofs.Ytocplkiomlocpaa
