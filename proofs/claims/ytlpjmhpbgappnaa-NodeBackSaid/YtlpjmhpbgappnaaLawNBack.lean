/-
  NodeBack: the walk of the law.
-/
import Derived.Test.YtlpjmhpbgappnaaLawNOne
import Derived.Test.YtlpjmhpbgappnaaNdParse
import Derived.Test.YtlpjmhpbgappnaaNdFew
import Derived.Test.YtlpjmhpbgappnaaNdOwnR
import Derived.Test.YtlpjmhpbgappnaaNdSame
set_option linter.unusedVariables false
set_option linter.unusedSimpArgs false
set_option maxRecDepth 100000
namespace Go.Proofs.Ytlpjmhpbgappnaa
open Go.RowKit

theorem readYes_any {w : World} {k : Nat} {p : Option Addr} {l : List UInt8} (hl : Bs w p l) {n c : Nat} (hn : n = l.length) (hnc : n ≤ c) (hc : c ≤ 9223372036854775807) (hz : p = none → c = 0) {s : NdS} (hs : readS k l s) :
    Calls Try.prog 20 #[.int .u8 (k : Int), .slice p n c] w fun e w' => ∃ m : Nd, e = .returned (.tuple #[m.cell, .int .i64 0]) ∧ m.s = s ∧ m.Ok w' ∧ Below w.heap.size w w' := by
  refine (read_any k hl hn hnc hc hz).mono ?_
  rintro e w' (⟨m, rfl, h1, h2, h3⟩ | ⟨rfl, h1, _⟩)
  · exact ⟨m, rfl, readS_one h1 hs, h2, h3⟩
  · exact absurd hs (h1 s)
theorem readNo_any {w : World} {k : Nat} {p : Option Addr} {l : List UInt8} (hl : Bs w p l) {n c : Nat} (hn : n = l.length) (hnc : n ≤ c) (hc : c ≤ 9223372036854775807) (hz : p = none → c = 0) (hs : ∀ s, ¬ readS k l s) :
    Calls Try.prog 20 #[.int .u8 (k : Int), .slice p n c] w fun e w' => e = .returned (.tuple #[.agg #[.bool false, .slice none 0 0, .slice none 0 0, .slice none 0 0], .int .i64 11]) ∧ Below w.heap.size w w' := by
  refine (read_any k hl hn hnc hc hz).mono ?_
  rintro e w' (⟨m, rfl, h1, h2, h3⟩ | ⟨rfl, h1, h2⟩)
  · exact absurd h1 (hs _)
  · exact ⟨rfl, h2⟩
theorem rightNo_any {w : World} {n : Nd} (h : n.Ok w) (hc : n.s.count ≤ 100000) (hr : ¬ n.s.Right) : Calls Try.prog 12 #[n.cell] w fun e w' => e = .returned (.bool false) ∧ Below w.heap.size w w' := by
  refine (right_any h hc).mono ?_
  rintro e w' ⟨b, rfl, h1, h2⟩
  cases b
  · exact ⟨rfl, h2⟩
  · exact absurd (h1.1 rfl) hr

set_option maxHeartbeats 6400000 in
theorem nodeBack_law {w : World} {n : Nd} (h : n.Ok w) (hs : n.Small) :
    Calls Try.prog 5 #[n.cell] w (LawPost w) := by
  obtain ⟨W, hW, hbw, hws, hcc⟩ := nd_box w n
  have HOK := Lib.hid h
  have HC := Lib.hid hcc
  have HBW := Lib.hid hbw
  have HBZ : Hid (∀ w', Below W.heap.size W w' → Below w.heap.size w w') := Lib.hid fun w' hb => (hcc w' hb).1
  have HFW := Lib.hid (few_any (h.below hbw) hs)
  have hcell : n.cell = .agg #[.bool n.leaf, .slice n.kq n.ks.length n.kc, .slice n.vq n.vs.length n.vc, .slice n.iq n.is.length n.ic] := rfl
  rw [hcell] at HFW
  rw [hcell]
  clear h hs hbw hws hcc hcell
  obtain ⟨_, c0, c1, c2, c3⟩ := HC.out W (Below.refl _ _)
  go_enter Try.func5, Try.ntmps5
  go_wp2_with fail
  rw [← hW]
  replace hW := Lib.hid hW
  go_wp2_with fail
  refine HFW.out.mono ?_
  rintro e w1 ⟨b1, rfl, hfew, hb⟩
  have HB1 := Lib.hid hb
  have HF := Lib.hid hfew
  clear c0 c1 c2 c3 hb hfew HFW
  obtain ⟨_, c0, c1, c2, c3⟩ := HC.out _ HB1.out
  cases b1
  · go_wp2
    go_ret
    exact ⟨rfl, HBZ.out _ HB1.out⟩
  · have HCT : Hid (n.s.count ≤ 100000) := Lib.hid (Nat.le_trans (HF.out (by trivial)) (by omega))
    have HPT := Lib.hid (put_any ((HOK.out.below HBW.out).below HB1.out) HCT.out)
    unfold Nd.cell at HPT
    go_wp2_with fail
    with_reducible refine HPT.out.mono ?_
    clear HPT
    rintro e w2 (⟨hnr, rfl, hb⟩ | ⟨hri, g, k, c, rfl, hk, ho, hb⟩)
    · have HB2 := Lib.hid (HB1.out.trans (hb.mono HB1.out.size))
      have HPB := Lib.hid (putBare_any w2)
      have HRN := Lib.hid (fun w' hb' => rightNo_any (w := w') ((HOK.out.below HBW.out).below hb') HCT.out hnr)
      unfold Nd.cell at HRN
      clear hb hnr c0 c1 c2 c3
      go_wp2_with fail
      refine HPB.out.mono ?_
      rintro e w3 ⟨g, cc, rfl, hcc, hb⟩
      have HB3 := Lib.hid (HB2.out.trans (hb.mono HB2.out.size))
      obtain ⟨_, c0, c1, c2, c3⟩ := HC.out _ HB3.out
      clear hb
      go_wp2_with fail
      with_reducible refine (HRN.out _ HB3.out).mono ?_
      rintro e w4 ⟨rfl, hb⟩
      have HB4 := Lib.hid (HB3.out.trans (hb.mono HB3.out.size))
      clear hb
      go_wp2
      go_ret
      exact ⟨rfl, HBZ.out _ HB4.out⟩
    · have HB2 := Lib.hid (HB1.out.trans (hb.mono HB1.out.size))
      have HRI := Lib.hid hri
      obtain ⟨_, _, hv, hkc, hc63, hbs, _⟩ := ho.form hk
      cases hv
      have HBS := Lib.hid hbs
      have HKL := Lib.hid hk
      have HKS : Hid (k = n.s.size) := Lib.hid (by rw [hk]; exact hri.length)
      have hk1 : 1 ≤ k := by rw [HKS.out]; unfold NdS.size; split <;> omega
      have hk493 : k ≤ 493 := by rw [HKS.out]; exact hri.size
      obtain ⟨k1, hkk⟩ : ∃ k1, k1 + 1 = k := ⟨k - 1, by omega⟩
      have hki : (k : Int) - 1 = (k1 : Int) := by omega
      have hkb : ((k : Int) == 0) = false := by rw [beq_eq_false_iff_ne]; omega
      have hkb2 : (k == 0) = false := by rw [beq_eq_false_iff_ne]; omega
      have hk1c : k1 ≤ c := by omega
      have hd1 : decide ((k : Int) ≤ 493) = true := by simp; omega
      have hd2 : decide (k ≤ 493) = true := by simp; omega
      have HLF := Lib.hid (rfl : n.leaf = n.leaf)
      clear hb hri ho hbs hk
      cases hl : n.leaf
      · rw [hl] at HLF
        replace HLF : Hid (n.leaf = false) := Lib.hid hl
        have HK : Hid (n.s.kind = 3) := Lib.hid (by unfold NdS.kind; rw [show n.s.leaf = n.leaf from rfl, hl]; rfl)
        have HY1 : Hid (∀ w', Below w2.heap.size w2 w' → Calls Try.prog 20 #[.int .u8 3, .slice (some ⟨g, 0, none⟩) k c] w' fun e w'' => ∃ m : Nd, e = .returned (.tuple #[m.cell, .int .i64 0]) ∧ m.s = n.s ∧ m.Ok w'' ∧ Below w'.heap.size w' w'') := Lib.hid fun w' hb' => readYes_any (k := 3) (HBS.out.below hb') HKL.out hkc hc63 (fun h => by cases h) (by have := readS_put HRI.out; rw [HK.out] at this; exact this)
        have HY2 : Hid (∀ w', Below w2.heap.size w2 w' → Calls Try.prog 20 #[.int .u8 3, .slice (some ⟨g, 0, none⟩) k1 c] w' fun e w'' => e = .returned (.tuple #[.agg #[.bool false, .slice none 0 0, .slice none 0 0, .slice none 0 0], .int .i64 11]) ∧ Below w'.heap.size w' w'') := Lib.hid fun w' hb' => readNo_any (k := 3) ((HBS.out.take k1).below hb') (by rw [List.length_take, ← HKL.out]; omega) (by omega) hc63 (fun h => by cases h) (fun s hs => readS_less HRI.out (b := n.s.put.take k1) (x := n.s.put.drop k1) (List.take_append_drop _ _) (fun e => by have h1 := congrArg List.length e; rw [List.length_drop, ← HKL.out] at h1; simp at h1; omega) (by rw [HK.out]; exact hs))
        have HY3 : Hid (∀ w', Below w2.heap.size w2 w' → Calls Try.prog 20 #[.int .u8 4, .slice (some ⟨g, 0, none⟩) k c] w' fun e w'' => e = .returned (.tuple #[.agg #[.bool false, .slice none 0 0, .slice none 0 0, .slice none 0 0], .int .i64 11]) ∧ Below w'.heap.size w' w'') := Lib.hid fun w' hb' => readNo_any (k := 4) (HBS.out.below hb') HKL.out hkc hc63 (fun h => by cases h) (fun s hs => readS_four hs)
        rw [hl] at HC
        clear c0 c1 c2 c3
        obtain ⟨_, c0, c1, c2, c3⟩ := HC.out _ HB2.out
        clear hl
        go_wp2_with fail
        with_reducible refine (HY1.out _ (Below.refl _ _)).mono ?_
        rintro e w3 ⟨m, rfl, hms, hmo, hb⟩
        obtain ⟨W3, hW3⟩ : ∃ W3, W3 = w3.alloc (.cells #[.bool m.leaf, .slice m.kq m.ks.length m.kc, .slice m.vq m.vs.length m.vc, .slice m.iq m.is.length m.ic] 26) := ⟨_, rfl⟩
        have HB3 : Hid (Below w2.heap.size w2 W3) := Lib.hid (by rw [hW3]; exact hb.alloc hb.size _)
        have HBX : Hid (W3.heap[w3.heap.size]? = some (.cells #[.bool m.leaf, .slice m.kq m.ks.length m.kc, .slice m.vq m.vs.length m.vc, .slice m.iq m.is.length m.ic] 26 (0, 0))) := Lib.hid (by rw [hW3]; exact heap_alloc_new w3 _)
        have HMO : Hid (m.Ok W3) := Lib.hid (by rw [hW3]; exact hmo.below ((Below.refl _ _).alloc (Nat.le_refl _) _))
        have HMS := Lib.hid hms
        clear hms hmo hb HY1
        dsimp only [Nd.cell]
        go_wp2_with fail
        rw [← hW3]
        replace hW3 := Lib.hid hW3
        with_reducible refine (HY2.out _ HB3.out).mono ?_
        rintro e w4 ⟨rfl, hb⟩
        obtain ⟨W4, hW4⟩ : ∃ W4, W4 = w4.alloc (.cells #[.bool false, .slice none 0 0, .slice none 0 0, .slice none 0 0] 26) := ⟨_, rfl⟩
        have HB4 : Hid (Below W3.heap.size W3 W4) := Lib.hid (by rw [hW4]; exact hb.alloc hb.size _)
        clear hb HY2
        go_wp2_with fail
        rw [← hW4]
        replace hW4 := Lib.hid hW4
        with_reducible refine (HY3.out _ (HB3.out.trans (HB4.out.mono HB3.out.size))).mono ?_
        rintro e w5 ⟨rfl, hb⟩
        obtain ⟨W5, hW5⟩ : ∃ W5, W5 = w5.alloc (.cells #[.bool false, .slice none 0 0, .slice none 0 0, .slice none 0 0] 26) := ⟨_, rfl⟩
        have HB5 : Hid (Below W3.heap.size W3 W5) := Lib.hid (by rw [hW5]; exact HB4.out.trans ((hb.alloc hb.size _).mono HB4.out.size))
        clear hb HY3
        go_wp2_with fail
        rw [← hW5]
        replace hW5 := Lib.hid hW5
        have HBA : Hid (Below W.heap.size W W5) := Lib.hid (HB2.out.trans ((HB3.out.trans (HB5.out.mono HB3.out.size)).mono HB2.out.size))
        have HCX : Hid (∀ w', Below W5.heap.size W5 w' → w'.cell? ⟨w3.heap.size, 0, none⟩ = some (.bool m.leaf) ∧ w'.cell? ⟨w3.heap.size, 1, none⟩ = some (.slice m.kq m.ks.length m.kc) ∧ w'.cell? ⟨w3.heap.size, 2, none⟩ = some (.slice m.vq m.vs.length m.vc) ∧ w'.cell? ⟨w3.heap.size, 3, none⟩ = some (.slice m.iq m.is.length m.ic) ∧
            w'.cell? ⟨w.heap.size, 0, none⟩ = some (.bool false) ∧ w'.cell? ⟨w.heap.size, 1, none⟩ = some (.slice n.kq n.ks.length n.kc) ∧ w'.cell? ⟨w.heap.size, 2, none⟩ = some (.slice n.vq n.vs.length n.vc) ∧ w'.cell? ⟨w.heap.size, 3, none⟩ = some (.slice n.iq n.is.length n.ic)) := Lib.hid fun w' hb' => by
          have hx := (HB5.out.trans (hb'.mono HB5.out.size)).block _ (Array.getElem?_eq_some_iff.1 HBX.out).1 |>.trans HBX.out
          obtain ⟨_, e0, e1, e2, e3⟩ := HC.out _ (HBA.out.trans (hb'.mono HBA.out.size))
          exact ⟨Joins.cell_of_block hx 0, Joins.cell_of_block hx 1, Joins.cell_of_block hx 2, Joins.cell_of_block hx 3, e0, e1, e2, e3⟩
        have HOM : Hid (∀ w', Below W5.heap.size W5 w' → Calls Try.prog 11 #[.agg #[.bool m.leaf, .slice m.kq m.ks.length m.kc, .slice m.vq m.vs.length m.vc, .slice m.iq m.is.length m.ic]] w' (OwnPost w' n.s)) := Lib.hid fun w' hb' => by
          have := own_any (HMO.out.below (HB5.out.trans (hb'.mono HB5.out.size))) (by rw [HMS.out]; exact HCT.out)
          rw [HMS.out] at this
          exact this
        have HON : Hid (∀ w', Below W5.heap.size W5 w' → Calls Try.prog 11 #[.agg #[.bool false, .slice n.kq n.ks.length n.kc, .slice n.vq n.vs.length n.vc, .slice n.iq n.is.length n.ic]] w' (OwnPost w' n.s)) := Lib.hid fun w' hb' => by
          rw [← HLF.out]
          exact own_any ((HOK.out.below HBW.out).below (HBA.out.trans (hb'.mono HBA.out.size))) HCT.out
        have HSZ : Hid (∀ w', Below W5.heap.size W5 w' → Calls Try.prog 14 #[.agg #[.bool false, .slice n.kq n.ks.length n.kc, .slice n.vq n.vs.length n.vc, .slice n.iq n.is.length n.ic]] w' fun e w'' => e = .returned (.int .i64 (k : Int)) ∧ Below w'.heap.size w' w'') := Lib.hid fun w' hb' => by
          rw [← HLF.out, HKS.out]
          exact size_any ((HOK.out.below HBW.out).below (HBA.out.trans (hb'.mono HBA.out.size))) HCT.out
        clear c0 c1 c2 c3
        obtain ⟨x0, x1, x2, x3, c0, c1, c2, c3⟩ := HCX.out _ (Below.refl _ _)
        go_wp2_with fail
        go_region_held3 (fun w' => w'.cell? ⟨w3.heap.size, 0, none⟩ = some (.bool m.leaf) ∧ w'.cell? ⟨w3.heap.size, 1, none⟩ = some (.slice m.kq m.ks.length m.kc) ∧ w'.cell? ⟨w3.heap.size, 2, none⟩ = some (.slice m.vq m.vs.length m.vc) ∧ w'.cell? ⟨w3.heap.size, 3, none⟩ = some (.slice m.iq m.is.length m.ic) ∧
            w'.cell? ⟨w.heap.size, 0, none⟩ = some (.bool false) ∧ w'.cell? ⟨w.heap.size, 1, none⟩ = some (.slice n.kq n.ks.length n.kc) ∧ w'.cell? ⟨w.heap.size, 2, none⟩ = some (.slice n.vq n.vs.length n.vc) ∧ w'.cell? ⟨w.heap.size, 3, none⟩ = some (.slice n.iq n.is.length n.ic))
          (first | exact HCX.out _ (Below.refl _ _).drew | exact HCX.out _ (Below.refl _ _) | exact HCX.out _ HE4.out | exact HCX.out _ HE3.out | exact HCX.out _ HE2.out | exact HCX.out _ HE1.out)
          (first
            | (go_at_call 14; (with_reducible refine (HSZ.out _ HE3.out).mono ?_); rintro e w9 ⟨rfl, hb⟩; have HE4 := Lib.hid (HE3.out.trans (hb.mono HE3.out.size)); clear hb)
            | (go_at_call 22; (with_reducible refine (HSA.out).mono ?_); rintro e w8 ⟨rfl, hb⟩; have HE3 := Lib.hid (HE2.out.trans (hb.mono HE2.out.size)); clear hb)
            | (go_at_call 11; (with_reducible refine (HON.out _ HE1.out).mono ?_); rintro e w7 ⟨n7, rfl, hs7, ho7, hb⟩; dsimp only [Nd.cell]; have HE2 := Lib.hid (HE1.out.trans (hb.mono HE1.out.size)); have HSA := Lib.hid (same_any (HO6.out.below hb) ho7 (HS6.out.trans hs7.symm) (by rw [HS6.out]; exact HCT.out)); dsimp only [Nd.cell] at HSA; clear hb hs7 ho7)
            | (go_at_call 11; (with_reducible refine (HOM.out _ (Below.refl _ _).drew).mono ?_); rintro e w6 ⟨n6, rfl, hs6, ho6, hb⟩; dsimp only [Nd.cell]; have HE1 := Lib.hid ((Below.refl W5.heap.size W5).drew.trans hb); have HO6 := Lib.hid ho6; have HS6 := Lib.hid hs6; clear hb hs6 ho6)
            | fail)
        all_goals
          go_wp2
          go_ret
          exact ⟨rfl, HBZ.out _ (HBA.out.trans (HE4.out.mono HBA.out.size))⟩
      · replace HLF : Hid (n.leaf = true) := Lib.hid hl
        have HK : Hid (n.s.kind = 2) := Lib.hid (by unfold NdS.kind; rw [show n.s.leaf = n.leaf from rfl, hl]; rfl)
        have HY1 : Hid (∀ w', Below w2.heap.size w2 w' → Calls Try.prog 20 #[.int .u8 2, .slice (some ⟨g, 0, none⟩) k c] w' fun e w'' => ∃ m : Nd, e = .returned (.tuple #[m.cell, .int .i64 0]) ∧ m.s = n.s ∧ m.Ok w'' ∧ Below w'.heap.size w' w'') := Lib.hid fun w' hb' => readYes_any (k := 2) (HBS.out.below hb') HKL.out hkc hc63 (fun h => by cases h) (by have := readS_put HRI.out; rw [HK.out] at this; exact this)
        have HY2 : Hid (∀ w', Below w2.heap.size w2 w' → Calls Try.prog 20 #[.int .u8 2, .slice (some ⟨g, 0, none⟩) k1 c] w' fun e w'' => e = .returned (.tuple #[.agg #[.bool false, .slice none 0 0, .slice none 0 0, .slice none 0 0], .int .i64 11]) ∧ Below w'.heap.size w' w'') := Lib.hid fun w' hb' => readNo_any (k := 2) ((HBS.out.take k1).below hb') (by rw [List.length_take, ← HKL.out]; omega) (by omega) hc63 (fun h => by cases h) (fun s hs => readS_less HRI.out (b := n.s.put.take k1) (x := n.s.put.drop k1) (List.take_append_drop _ _) (fun e => by have h1 := congrArg List.length e; rw [List.length_drop, ← HKL.out] at h1; simp at h1; omega) (by rw [HK.out]; exact hs))
        have HY3 : Hid (∀ w', Below w2.heap.size w2 w' → Calls Try.prog 20 #[.int .u8 4, .slice (some ⟨g, 0, none⟩) k c] w' fun e w'' => e = .returned (.tuple #[.agg #[.bool false, .slice none 0 0, .slice none 0 0, .slice none 0 0], .int .i64 11]) ∧ Below w'.heap.size w' w'') := Lib.hid fun w' hb' => readNo_any (k := 4) (HBS.out.below hb') HKL.out hkc hc63 (fun h => by cases h) (fun s hs => readS_four hs)
        rw [hl] at HC
        clear c0 c1 c2 c3
        obtain ⟨_, c0, c1, c2, c3⟩ := HC.out _ HB2.out
        clear hl
        go_wp2_with fail
        with_reducible refine (HY1.out _ (Below.refl _ _)).mono ?_
        rintro e w3 ⟨m, rfl, hms, hmo, hb⟩
        obtain ⟨W3, hW3⟩ : ∃ W3, W3 = w3.alloc (.cells #[.bool m.leaf, .slice m.kq m.ks.length m.kc, .slice m.vq m.vs.length m.vc, .slice m.iq m.is.length m.ic] 26) := ⟨_, rfl⟩
        have HB3 : Hid (Below w2.heap.size w2 W3) := Lib.hid (by rw [hW3]; exact hb.alloc hb.size _)
        have HBX : Hid (W3.heap[w3.heap.size]? = some (.cells #[.bool m.leaf, .slice m.kq m.ks.length m.kc, .slice m.vq m.vs.length m.vc, .slice m.iq m.is.length m.ic] 26 (0, 0))) := Lib.hid (by rw [hW3]; exact heap_alloc_new w3 _)
        have HMO : Hid (m.Ok W3) := Lib.hid (by rw [hW3]; exact hmo.below ((Below.refl _ _).alloc (Nat.le_refl _) _))
        have HMS := Lib.hid hms
        clear hms hmo hb HY1
        dsimp only [Nd.cell]
        go_wp2_with fail
        rw [← hW3]
        replace hW3 := Lib.hid hW3
        with_reducible refine (HY2.out _ HB3.out).mono ?_
        rintro e w4 ⟨rfl, hb⟩
        obtain ⟨W4, hW4⟩ : ∃ W4, W4 = w4.alloc (.cells #[.bool false, .slice none 0 0, .slice none 0 0, .slice none 0 0] 26) := ⟨_, rfl⟩
        have HB4 : Hid (Below W3.heap.size W3 W4) := Lib.hid (by rw [hW4]; exact hb.alloc hb.size _)
        clear hb HY2
        go_wp2_with fail
        rw [← hW4]
        replace hW4 := Lib.hid hW4
        with_reducible refine (HY3.out _ (HB3.out.trans (HB4.out.mono HB3.out.size))).mono ?_
        rintro e w5 ⟨rfl, hb⟩
        obtain ⟨W5, hW5⟩ : ∃ W5, W5 = w5.alloc (.cells #[.bool false, .slice none 0 0, .slice none 0 0, .slice none 0 0] 26) := ⟨_, rfl⟩
        have HB5 : Hid (Below W3.heap.size W3 W5) := Lib.hid (by rw [hW5]; exact HB4.out.trans ((hb.alloc hb.size _).mono HB4.out.size))
        clear hb HY3
        go_wp2_with fail
        rw [← hW5]
        replace hW5 := Lib.hid hW5
        have HBA : Hid (Below W.heap.size W W5) := Lib.hid (HB2.out.trans ((HB3.out.trans (HB5.out.mono HB3.out.size)).mono HB2.out.size))
        have HCX : Hid (∀ w', Below W5.heap.size W5 w' → w'.cell? ⟨w3.heap.size, 0, none⟩ = some (.bool m.leaf) ∧ w'.cell? ⟨w3.heap.size, 1, none⟩ = some (.slice m.kq m.ks.length m.kc) ∧ w'.cell? ⟨w3.heap.size, 2, none⟩ = some (.slice m.vq m.vs.length m.vc) ∧ w'.cell? ⟨w3.heap.size, 3, none⟩ = some (.slice m.iq m.is.length m.ic) ∧
            w'.cell? ⟨w.heap.size, 0, none⟩ = some (.bool true) ∧ w'.cell? ⟨w.heap.size, 1, none⟩ = some (.slice n.kq n.ks.length n.kc) ∧ w'.cell? ⟨w.heap.size, 2, none⟩ = some (.slice n.vq n.vs.length n.vc) ∧ w'.cell? ⟨w.heap.size, 3, none⟩ = some (.slice n.iq n.is.length n.ic)) := Lib.hid fun w' hb' => by
          have hx := (HB5.out.trans (hb'.mono HB5.out.size)).block _ (Array.getElem?_eq_some_iff.1 HBX.out).1 |>.trans HBX.out
          obtain ⟨_, e0, e1, e2, e3⟩ := HC.out _ (HBA.out.trans (hb'.mono HBA.out.size))
          exact ⟨Joins.cell_of_block hx 0, Joins.cell_of_block hx 1, Joins.cell_of_block hx 2, Joins.cell_of_block hx 3, e0, e1, e2, e3⟩
        have HOM : Hid (∀ w', Below W5.heap.size W5 w' → Calls Try.prog 11 #[.agg #[.bool m.leaf, .slice m.kq m.ks.length m.kc, .slice m.vq m.vs.length m.vc, .slice m.iq m.is.length m.ic]] w' (OwnPost w' n.s)) := Lib.hid fun w' hb' => by
          have := own_any (HMO.out.below (HB5.out.trans (hb'.mono HB5.out.size))) (by rw [HMS.out]; exact HCT.out)
          rw [HMS.out] at this
          exact this
        have HON : Hid (∀ w', Below W5.heap.size W5 w' → Calls Try.prog 11 #[.agg #[.bool true, .slice n.kq n.ks.length n.kc, .slice n.vq n.vs.length n.vc, .slice n.iq n.is.length n.ic]] w' (OwnPost w' n.s)) := Lib.hid fun w' hb' => by
          rw [← HLF.out]
          exact own_any ((HOK.out.below HBW.out).below (HBA.out.trans (hb'.mono HBA.out.size))) HCT.out
        have HSZ : Hid (∀ w', Below W5.heap.size W5 w' → Calls Try.prog 14 #[.agg #[.bool true, .slice n.kq n.ks.length n.kc, .slice n.vq n.vs.length n.vc, .slice n.iq n.is.length n.ic]] w' fun e w'' => e = .returned (.int .i64 (k : Int)) ∧ Below w'.heap.size w' w'') := Lib.hid fun w' hb' => by
          rw [← HLF.out, HKS.out]
          exact size_any ((HOK.out.below HBW.out).below (HBA.out.trans (hb'.mono HBA.out.size))) HCT.out
        clear c0 c1 c2 c3
        obtain ⟨x0, x1, x2, x3, c0, c1, c2, c3⟩ := HCX.out _ (Below.refl _ _)
        go_wp2_with fail
        go_region_held3 (fun w' => w'.cell? ⟨w3.heap.size, 0, none⟩ = some (.bool m.leaf) ∧ w'.cell? ⟨w3.heap.size, 1, none⟩ = some (.slice m.kq m.ks.length m.kc) ∧ w'.cell? ⟨w3.heap.size, 2, none⟩ = some (.slice m.vq m.vs.length m.vc) ∧ w'.cell? ⟨w3.heap.size, 3, none⟩ = some (.slice m.iq m.is.length m.ic) ∧
            w'.cell? ⟨w.heap.size, 0, none⟩ = some (.bool true) ∧ w'.cell? ⟨w.heap.size, 1, none⟩ = some (.slice n.kq n.ks.length n.kc) ∧ w'.cell? ⟨w.heap.size, 2, none⟩ = some (.slice n.vq n.vs.length n.vc) ∧ w'.cell? ⟨w.heap.size, 3, none⟩ = some (.slice n.iq n.is.length n.ic))
          (first | exact HCX.out _ (Below.refl _ _).drew | exact HCX.out _ (Below.refl _ _) | exact HCX.out _ HE4.out | exact HCX.out _ HE3.out | exact HCX.out _ HE2.out | exact HCX.out _ HE1.out)
          (first
            | (go_at_call 14; (with_reducible refine (HSZ.out _ HE3.out).mono ?_); rintro e w9 ⟨rfl, hb⟩; have HE4 := Lib.hid (HE3.out.trans (hb.mono HE3.out.size)); clear hb)
            | (go_at_call 22; (with_reducible refine (HSA.out).mono ?_); rintro e w8 ⟨rfl, hb⟩; have HE3 := Lib.hid (HE2.out.trans (hb.mono HE2.out.size)); clear hb)
            | (go_at_call 11; (with_reducible refine (HON.out _ HE1.out).mono ?_); rintro e w7 ⟨n7, rfl, hs7, ho7, hb⟩; dsimp only [Nd.cell]; have HE2 := Lib.hid (HE1.out.trans (hb.mono HE1.out.size)); have HSA := Lib.hid (same_any (HO6.out.below hb) ho7 (HS6.out.trans hs7.symm) (by rw [HS6.out]; exact HCT.out)); dsimp only [Nd.cell] at HSA; clear hb hs7 ho7)
            | (go_at_call 11; (with_reducible refine (HOM.out _ (Below.refl _ _).drew).mono ?_); rintro e w6 ⟨n6, rfl, hs6, ho6, hb⟩; dsimp only [Nd.cell]; have HE1 := Lib.hid ((Below.refl W5.heap.size W5).drew.trans hb); have HO6 := Lib.hid ho6; have HS6 := Lib.hid hs6; clear hb hs6 ho6)
            | fail)
        all_goals
          go_wp2
          go_ret
          exact ⟨rfl, HBZ.out _ (HBA.out.trans (HE4.out.mono HBA.out.size))⟩

end Go.Proofs.Ytlpjmhpbgappnaa
