/-
  The law RecordPuts returns true: the walk.
-/
import Derived.Test.YtocplkiomlocpaaRPutR
import Derived.Test.YtocplkiomlocpaaRFew
set_option linter.unusedVariables false
set_option maxRecDepth 100000
namespace Go.Proofs.Ytocplkiomlocpaa
open Go.RowKit

theorem ss_one {w : World} {g : Nat} (hg : g = w.heap.size) (t : TypeId) (s : ByteArray) (hs : s.size ≤ 9223372036854775807) : SsOk (w.alloc (.cells #[.string s] t)) (some ⟨g, 0, none⟩) 1 1 [s] := by
  subst hg
  refine ⟨rfl, Nat.le_refl _, by omega, fun _ => ⟨w.heap.size, 0, rfl, fun i x hi => ?_⟩, fun x hx => by obtain rfl := List.mem_singleton.1 hx; exact hs⟩
  match i, hi with
  | 0, hi =>
    obtain rfl : s = x := by simpa using hi
    exact Joins.cell_of_block (heap_alloc_new w _) 0
  | i + 1, hi => simp at hi
def sA : ByteArray := ⟨#[65]⟩
theorem oneN : putN 1 [sA] [] = ([1, 65, 0, 1, 0], 0) := by
  have hr : riseF str0 [sA] = true := by
    rw [riseF_cons, leS_cmp]
    decide
  have h : nodeR 1 [sA] [] = true := by
    unfold nodeR
    rw [hr]
    rfl
  unfold putN
  rw [if_pos h]
  rfl

set_option maxHeartbeats 8000000 in
theorem lawRPuts_any {w : World} (n : Nd) (hn : n.Ok w) (x : Ed) (hx : x.Ok w) :
    Calls Try.prog 3 #[n.cell, x.cell] w fun e w' => e = .returned (.bool true) ∧ Below w.heap.size w w' := by
  have hst := store_flt
  have HF1 : Hid (∀ w', Below w.heap.size w w' → Calls Try.prog 9 #[.slice n.q n.m n.c, .slice n.q' n.m' n.c'] w' (SomeBool5 w')) := Lib.hid fun w' hb => few_any (hn.ls.below hb) (hn.ps.below hb)
  have HF2 : Hid (∀ w' g, SsOk w' (some ⟨g, 0, none⟩) 1 1 [x.t] → Below w.heap.size w w' → Calls Try.prog 9 #[.slice (some ⟨g, 0, none⟩) 1 1, .slice x.q x.m x.c] w' (SomeBool5 w')) := Lib.hid fun w' g hs hb => few_any hs (hx.ps.below hb)
  have HN1 : Hid (∀ w', Below w.heap.size w w' → Calls Try.prog 10 #[n.cell] w' (BPost w' (putN n.id n.ls (n.ps.map Pr.c)))) := Lib.hid fun w' hb => putNode_any n (hn.below hb)
  have HN2 : Hid (∀ w', Below w.heap.size w w' → Calls Try.prog 11 #[n.cell] w' (BPost w' (putN n.id n.ls (n.ps.map Pr.c)))) := Lib.hid fun w' hb => refPutNode_any n (hn.below hb)
  have HE1 : Hid (∀ w', Below w.heap.size w w' → Calls Try.prog 12 #[x.cell] w' (BPost w' (putE x.id x.fr x.to x.t (x.ps.map Pr.c)))) := Lib.hid fun w' hb => putEdge_any x (hx.below hb)
  have HE2 : Hid (∀ w', Below w.heap.size w w' → Calls Try.prog 13 #[x.cell] w' (BPost w' (putE x.id x.fr x.to x.t (x.ps.map Pr.c)))) := Lib.hid fun w' hb => refPutEdge_any x (hx.below hb)
  have HR1 : Hid (∀ w' D, Below w.heap.size w w' → Below D.heap.size D w' → Calls Try.prog 14 #[n.cell] w' fun e w'' => e = .returned (.bool (nodeR n.id n.ls (n.ps.map Pr.c))) ∧ Below D.heap.size D w'') := Lib.hid fun w' D hb hd => (nodeRight_any n (hn.below hb)).mono fun e w'' h => ⟨h.1, hd.trans (h.2.mono hd.size)⟩
  have HR2 : Hid (∀ w' D, Below w.heap.size w w' → Below D.heap.size D w' → Calls Try.prog 15 #[n.cell] w' fun e w'' => e = .returned (.bool (nodeR n.id n.ls (n.ps.map Pr.c))) ∧ Below D.heap.size D w'') := Lib.hid fun w' D hb hd => (refNodeRight_any n (hn.below hb)).mono fun e w'' h => ⟨h.1, hd.trans (h.2.mono hd.size)⟩
  have HR3 : Hid (∀ w' D, Below w.heap.size w w' → Below D.heap.size D w' → Calls Try.prog 16 #[x.cell] w' fun e w'' => e = .returned (.bool (edgeR x.id x.fr x.to x.t (x.ps.map Pr.c))) ∧ Below D.heap.size D w'') := Lib.hid fun w' D hb hd => (edgeRight_any x (hx.below hb)).mono fun e w'' h => ⟨h.1, hd.trans (h.2.mono hd.size)⟩
  have HR4 : Hid (∀ w' D, Below w.heap.size w w' → Below D.heap.size D w' → Calls Try.prog 17 #[x.cell] w' fun e w'' => e = .returned (.bool (edgeR x.id x.fr x.to x.t (x.ps.map Pr.c))) ∧ Below D.heap.size D w'') := Lib.hid fun w' D hb hd => (refEdgeRight_any x (hx.below hb)).mono fun e w'' h => ⟨h.1, hd.trans (h.2.mono hd.size)⟩
  have HONE : Hid (∀ w' g, SsOk w' (some ⟨g, 0, none⟩) 1 1 [sA] → Calls Try.prog 10 #[.agg #[.int .i64 1, .slice (some ⟨g, 0, none⟩) 1 1, .slice none 0 0]] w' (BPost w' (putN 1 [sA] []))) := Lib.hid fun w' g hs => putNode_any ⟨1, some ⟨g, 0, none⟩, 1, 1, [sA], none, 0, 0, []⟩ ⟨by dsimp only; omega, by dsimp only; omega, hs, ⟨rfl, Nat.le_refl _, by dsimp only; omega, fun _ => rfl, Ps.nil _ _⟩⟩
  rw [oneN] at HONE
  have hts := hx.t
  obtain ⟨id, q, m, c, ls, q', m', c', ps⟩ := n
  obtain ⟨ie, t, fr, to, qe, me, ce, pe⟩ := x
  dsimp only [Nd.cell, Ed.cell] at *
  clear hn hx
  generalize putN id ls (ps.map Pr.c) = xn at *
  generalize putE ie fr to t (pe.map Pr.c) = xe at *
  generalize nodeR id ls (ps.map Pr.c) = rn at *
  generalize edgeR ie fr to t (pe.map Pr.c) = re at *
  obtain ⟨ln, en⟩ := xn
  obtain ⟨le, ee⟩ := xe
  obtain ⟨W, hW⟩ : ∃ W, W = (w.alloc (.cells #[.int .i64 id, .slice q m c, .slice q' m' c'] 25)).alloc (.cells #[.int .i64 ie, .string t, .int .i64 fr, .int .i64 to, .slice qe me ce] 27) := ⟨_, rfl⟩
  have HK : Hid (∀ w', Below W.heap.size W w' → (w'.cell? ⟨w.heap.size, 0, none⟩ = some (.int .i64 id) ∧ w'.cell? ⟨w.heap.size, 1, none⟩ = some (.slice q m c) ∧ w'.cell? ⟨w.heap.size, 2, none⟩ = some (.slice q' m' c')) ∧
      w'.cell? ⟨w.heap.size + 1, 0, none⟩ = some (.int .i64 ie) ∧ w'.cell? ⟨w.heap.size + 1, 1, none⟩ = some (.string t) ∧ w'.cell? ⟨w.heap.size + 1, 2, none⟩ = some (.int .i64 fr) ∧ w'.cell? ⟨w.heap.size + 1, 3, none⟩ = some (.int .i64 to) ∧ w'.cell? ⟨w.heap.size + 1, 4, none⟩ = some (.slice qe me ce)) := by
    refine Lib.hid fun w' hb => ?_
    rw [hW] at hb
    have h1 := fun i => (box2_cell hb i).1
    have h2 := fun i => (box2_cell hb i).2
    exact ⟨⟨h1 0, h1 1, h1 2⟩, h2 0, h2 1, h2 2, h2 3, h2 4⟩
  have HWB : Hid (∀ w', Below W.heap.size W w' → Below w.heap.size w w') := by
    refine Lib.hid fun w' hb => ?_
    rw [hW] at hb
    exact box2_below hb
  have HWs : Hid (W.heap.size = w.heap.size + 2) := Lib.hid (by rw [hW]; simp)
  go_enter Try.func3, Try.ntmps3
  go_wp2_with fail
  rw [← hW]
  replace hW := Lib.hid hW
  refine (HF1.out _ (HWB.out _ (Below.refl _ _))).mono ?_
  rintro e w1 ⟨b1, rfl, hb1⟩
  have HB1 := Lib.hid hb1
  obtain ⟨⟨k0, k1, k2⟩, k3, k4, k5, k6, k7⟩ := HK.out _ hb1
  have hw1 : w.heap.size + 1 < w1.heap.size := by have := HWs.out; have := hb1.size; omega
  clear hb1
  cases b1
  · go_wp2
    go_ret
    exact ⟨rfl, HWB.out _ HB1.out⟩
  go_wp2_with fail
  refine (HF2.out _ _ (ss_one rfl _ t hts) (HWB.out _ (HB1.out.alloc HB1.out.size _))).mono ?_
  rintro e w2 ⟨b2, rfl, hb2⟩
  have HB2 : Hid (Below W.heap.size W w2) := Lib.hid ((HB1.out.alloc HB1.out.size _).trans (hb2.mono (HB1.out.alloc HB1.out.size _).size))
  clear hb2 k0 k1 k2 k3 k4 k5 k6 k7 hw1
  obtain ⟨⟨k0, k1, k2⟩, k3, k4, k5, k6, k7⟩ := HK.out _ HB2.out
  have hw2 : w.heap.size + 1 < w2.heap.size := by have := HWs.out; have := HB2.out.size; omega
  cases b2
  · go_wp2
    go_ret
    exact ⟨rfl, HWB.out _ HB2.out⟩
  obtain ⟨nn, hnn⟩ : ∃ y, y = ln.length := ⟨_, rfl⟩
  obtain ⟨ne, hne⟩ : ∃ y, y = le.length := ⟨_, rfl⟩
  have HNN := Lib.hid hnn
  have HNE := Lib.hid hne
  clear hnn hne
  go_wp2_with fail
  refine (HN1.out _ (HWB.out _ HB2.out)).mono ?_
  rintro e w3 ⟨v3, rfl, ho3, hb3⟩
  have HB3 : Hid (Below W.heap.size W w3) := Lib.hid (HB2.out.trans (hb3.mono HB2.out.size))
  obtain ⟨p3, c3, rfl, _, _, hs3, _⟩ := ho3.form HNN.out
  have HS3 := Lib.hid hs3
  clear hb3 ho3 hs3 k0 k1 k2 k3 k4 k5 k6 k7 hw2
  obtain ⟨⟨k0, k1, k2⟩, k3, k4, k5, k6, k7⟩ := HK.out _ HB3.out
  have hw3 : w.heap.size + 1 < w3.heap.size := by have := HWs.out; have := HB3.out.size; omega
  go_wp2_with fail
  refine (HN2.out _ (HWB.out _ HB3.out)).mono ?_
  rintro e w4 ⟨v4, rfl, ho4, hb4⟩
  have HB4 : Hid (Below W.heap.size W w4) := Lib.hid (HB3.out.trans (hb4.mono HB3.out.size))
  obtain ⟨p4, c4, rfl, _, _, hs4, _⟩ := ho4.form HNN.out
  have HS4 := Lib.hid hs4
  replace HS3 := Lib.hid (HS3.out.below hb4)
  clear hb4 ho4 hs4 k0 k1 k2 k3 k4 k5 k6 k7 hw3
  obtain ⟨⟨k0, k1, k2⟩, k3, k4, k5, k6, k7⟩ := HK.out _ HB4.out
  have hw4 : w.heap.size + 1 < w4.heap.size := by have := HWs.out; have := HB4.out.size; omega
  go_wp2_with fail
  refine (HE1.out _ (HWB.out _ HB4.out)).mono ?_
  rintro e w5 ⟨v5, rfl, ho5, hb5⟩
  have HB5 : Hid (Below W.heap.size W w5) := Lib.hid (HB4.out.trans (hb5.mono HB4.out.size))
  obtain ⟨p5, c5, rfl, _, _, hs5, _⟩ := ho5.form HNE.out
  have HS5 := Lib.hid hs5
  replace HS3 := Lib.hid (HS3.out.below hb5)
  replace HS4 := Lib.hid (HS4.out.below hb5)
  clear hb5 ho5 hs5 k0 k1 k2 k3 k4 k5 k6 k7 hw4
  obtain ⟨⟨k0, k1, k2⟩, k3, k4, k5, k6, k7⟩ := HK.out _ HB5.out
  have hw5 : w.heap.size + 1 < w5.heap.size := by have := HWs.out; have := HB5.out.size; omega
  go_wp2_with fail
  refine (HE2.out _ (HWB.out _ HB5.out)).mono ?_
  rintro e w6 ⟨v6, rfl, ho6, hb6⟩
  have HB6 : Hid (Below W.heap.size W w6) := Lib.hid (HB5.out.trans (hb6.mono HB5.out.size))
  obtain ⟨p6, c6, rfl, _, _, hs6, _⟩ := ho6.form HNE.out
  have HS6 := Lib.hid hs6
  replace HS3 := Lib.hid (HS3.out.below hb6)
  replace HS4 := Lib.hid (HS4.out.below hb6)
  replace HS5 := Lib.hid (HS5.out.below hb6)
  clear hb6 ho6 hs6 k0 k1 k2 k3 k4 k5 k6 k7 hw5
  go_wp2_with fail
  refine (HONE.out _ _ (ss_one rfl _ sA (by decide))).mono ?_
  rintro e w7 ⟨v7, rfl, ho7, hb7⟩
  have hb67 := ((Below.refl w6.heap.size w6).alloc (Nat.le_refl _) (.cells #[.string sA] 9)).trans (hb7.mono (by simp))
  have HB7 : Hid (Below W.heap.size W w7) := Lib.hid (HB6.out.trans (hb67.mono HB6.out.size))
  obtain ⟨p7, c7, rfl, hc7, _, _, _⟩ := ho7.form (n := 5) rfl
  have HCV : Hid (∀ w', Below w7.heap.size w7 w' → ((w'.cell? ⟨w.heap.size, 0, none⟩ = some (.int .i64 id) ∧ w'.cell? ⟨w.heap.size, 1, none⟩ = some (.slice q m c) ∧ w'.cell? ⟨w.heap.size, 2, none⟩ = some (.slice q' m' c')) ∧
      w'.cell? ⟨w.heap.size + 1, 0, none⟩ = some (.int .i64 ie) ∧ w'.cell? ⟨w.heap.size + 1, 1, none⟩ = some (.string t) ∧ w'.cell? ⟨w.heap.size + 1, 2, none⟩ = some (.int .i64 fr) ∧ w'.cell? ⟨w.heap.size + 1, 3, none⟩ = some (.int .i64 to) ∧ w'.cell? ⟨w.heap.size + 1, 4, none⟩ = some (.slice qe me ce)) ∧
      (convert 29 9 (.slice p3 nn c3)).run Try.prog w' = .ok (.string ⟨ln.toArray⟩) w' ∧ (convert 29 9 (.slice p4 nn c4)).run Try.prog w' = .ok (.string ⟨ln.toArray⟩) w' ∧
      (convert 29 9 (.slice p5 ne c5)).run Try.prog w' = .ok (.string ⟨le.toArray⟩) w' ∧ (convert 29 9 (.slice p6 ne c6)).run Try.prog w' = .ok (.string ⟨le.toArray⟩) w') := Lib.hid fun w' hb =>
    ⟨HK.out _ (HB7.out.trans (hb.mono HB7.out.size)), str_of ((HS3.out.below hb67).below hb) HNN.out, str_of ((HS4.out.below hb67).below hb) HNN.out, str_of ((HS5.out.below hb67).below hb) HNE.out, str_of ((HS6.out.below hb67).below hb) HNE.out⟩
  have HD : Hid (∀ w', Below w7.heap.size w7 w' → Below w.heap.size w w') := Lib.hid fun w' hb => HWB.out _ (HB7.out.trans (hb.mono HB7.out.size))
  have HBD : Hid (Below w7.heap.size w7 w7.drew) := Lib.hid (Below.refl _ _).drew
  have hw7 : w.heap.size + 1 < w7.heap.size := by have := HWs.out; have := HB7.out.size; omega
  clear hb7 ho7 hb67 HS3 HS4 HS5 HS6 HK HN1 HN2 HE1 HE2 HONE HF1 HF2
  go_wp2_with fail
  go_region_held3 (fun w' => ((w'.cell? ⟨w.heap.size, 0, none⟩ = some (.int .i64 id) ∧ w'.cell? ⟨w.heap.size, 1, none⟩ = some (.slice q m c) ∧ w'.cell? ⟨w.heap.size, 2, none⟩ = some (.slice q' m' c')) ∧ w'.cell? ⟨w.heap.size + 1, 0, none⟩ = some (.int .i64 ie) ∧ w'.cell? ⟨w.heap.size + 1, 1, none⟩ = some (.string t) ∧ w'.cell? ⟨w.heap.size + 1, 2, none⟩ = some (.int .i64 fr) ∧ w'.cell? ⟨w.heap.size + 1, 3, none⟩ = some (.int .i64 to) ∧ w'.cell? ⟨w.heap.size + 1, 4, none⟩ = some (.slice qe me ce)) ∧ (convert 29 9 (.slice p3 nn c3)).run Try.prog w' = .ok (.string ⟨ln.toArray⟩) w' ∧ (convert 29 9 (.slice p4 nn c4)).run Try.prog w' = .ok (.string ⟨ln.toArray⟩) w' ∧ (convert 29 9 (.slice p5 ne c5)).run Try.prog w' = .ok (.string ⟨le.toArray⟩) w' ∧ (convert 29 9 (.slice p6 ne c6)).run Try.prog w' = .ok (.string ⟨le.toArray⟩) w')
    (first | exact HCV.out _ HB14.out | exact HCV.out _ HB13.out | exact HCV.out _ HB12.out | exact HCV.out _ HB11.out | exact HCV.out _ HBD.out)
    (first
      | (go_at_call 14; refine (HR1.out _ w7 (HD.out _ (by first | exact HB14.out | exact HB13.out | exact HB12.out | exact HB11.out | exact HBD.out)) (by first | exact HB14.out | exact HB13.out | exact HB12.out | exact HB11.out | exact HBD.out)).mono ?_; rintro e uHB11 ⟨rfl, hbx⟩; have HB11 := Lib.hid hbx; clear hbx)
      | (go_at_call 15; refine (HR2.out _ w7 (HD.out _ (by first | exact HB14.out | exact HB13.out | exact HB12.out | exact HB11.out | exact HBD.out)) (by first | exact HB14.out | exact HB13.out | exact HB12.out | exact HB11.out | exact HBD.out)).mono ?_; rintro e uHB12 ⟨rfl, hbx⟩; have HB12 := Lib.hid hbx; clear hbx)
      | (go_at_call 16; refine (HR3.out _ w7 (HD.out _ (by first | exact HB14.out | exact HB13.out | exact HB12.out | exact HB11.out | exact HBD.out)) (by first | exact HB14.out | exact HB13.out | exact HB12.out | exact HB11.out | exact HBD.out)).mono ?_; rintro e uHB13 ⟨rfl, hbx⟩; have HB13 := Lib.hid hbx; clear hbx)
      | (go_at_call 17; refine (HR4.out _ w7 (HD.out _ (by first | exact HB14.out | exact HB13.out | exact HB12.out | exact HB11.out | exact HBD.out)) (by first | exact HB14.out | exact HB13.out | exact HB12.out | exact HB11.out | exact HBD.out)).mono ?_; rintro e uHB14 ⟨rfl, hbx⟩; have HB14 := Lib.hid hbx; clear hbx))
  all_goals
    go_wp2
    go_ret
    exact ⟨rfl, HD.out _ (by first | exact HB14.out | exact HB13.out | exact HB12.out | exact HB11.out)⟩

end Go.Proofs.Ytocplkiomlocpaa
