/-
  NodePuts: the walk of the law.
-/
import Derived.Test.YtlpjmhpbgappnaaNdRefP
import Derived.Test.YtlpjmhpbgappnaaLawNOne
import Derived.Test.YtlpjmhpbgappnaaNdFew
import Derived.Test.YtlpjmhpbgappnaaNdOwnR
set_option linter.unusedVariables false
set_option linter.unusedSimpArgs false
set_option maxRecDepth 100000
namespace Go.Proofs.Ytlpjmhpbgappnaa
open Go.RowKit

/-- What both sides answer of a node, said once. -/
theorem outs (s : NdS) : ∃ (lx : List UInt8) (k : Nat) (ec : Int) (rb : Bool), k = lx.length ∧
    (∀ w e w', PutN w s e w' → ∃ p c, e = .returned (.tuple #[.slice p k c, .int .i64 ec]) ∧ Bs w' p lx ∧ Below w.heap.size w w') ∧
    (∀ w e w', TellsB s.Right w e w' → e = .returned (.bool rb) ∧ Below w.heap.size w w') := by
  by_cases hr : s.Right
  · refine ⟨s.put, _, 0, true, rfl, ?_, ?_⟩
    · rintro w e w' (⟨h, _⟩ | ⟨_, g, k, c, rfl, hk, ho, hb⟩)
      · exact absurd hr h
      · subst hk
        obtain ⟨_, _, hv, h1, h2, hbs, _⟩ := ho.form rfl
        cases hv
        exact ⟨_, _, rfl, hbs, hb⟩
    · rintro w e w' ⟨b, rfl, h1, h2⟩
      cases b
      · exact absurd (h1.2 hr) (fun h => by cases h)
      · exact ⟨rfl, h2⟩
  · refine ⟨[], 0, 2, false, rfl, ?_, ?_⟩
    · rintro w e w' (⟨_, rfl, hb⟩ | ⟨h, _⟩)
      · exact ⟨none, 0, rfl, Bs.nil _ _, hb⟩
      · exact absurd h hr
    · rintro w e w' ⟨b, rfl, h1, h2⟩
      cases b
      · exact ⟨rfl, h2⟩
      · exact absurd (h1.1 rfl) hr

/-- The law's own node of one key. -/
theorem putLit_any {w : World} {a b c d : Nat} (ha : Bs w (some ⟨a, 0, none⟩) [97]) (hb : w.cell? ⟨b, 0, none⟩ = some (.slice (some ⟨a, 0, none⟩) 1 1)) (hc : Bs w (some ⟨c, 0, none⟩) [120]) (hd : w.cell? ⟨d, 0, none⟩ = some (.slice (some ⟨c, 0, none⟩) 1 1) ∧ w.cell? ⟨d, 1, none⟩ = some (.int .i64 0) ∧ w.cell? ⟨d, 2, none⟩ = some (.int .i64 0)) :
    Calls Try.prog 9 #[.agg #[.bool true, .slice (some ⟨b, 0, none⟩) 1 1, .slice (some ⟨d, 0, none⟩) 1 1, .slice none 0 0]] w fun e w' => ∃ p k, e = .returned (.tuple #[.slice p 5 k, .int .i64 0]) ∧ Bs w' p [1, 1, 97, 1, 120] ∧ Below w.heap.size w w' := by
  have hok : Nd.Ok w ⟨true, some ⟨b, 0, none⟩, 1, [⟨some ⟨a, 0, none⟩, 1, [97]⟩], some ⟨d, 0, none⟩, 1, [⟨some ⟨c, 0, none⟩, 1, [120], 0, 0⟩], none, 0, []⟩ := by
    refine ⟨Nat.le_refl _, (by show 1 ≤ _; omega), fun h => (by cases h), fun _ => ⟨b, 0, rfl, fun i x hx => ?_⟩, fun x hx => ?_, Nat.le_refl _, (by show 1 ≤ _; omega), fun h => (by cases h), fun _ => ⟨d, 0, rfl, fun i x hx => ?_⟩, fun x hx => ?_, Nat.le_refl _, (by show 0 ≤ _; omega), fun _ => rfl, fun h => absurd rfl h, fun x hx => (by cases hx)⟩
    · rcases i with _ | i
      · cases hx
        exact hb
      · simp at hx
    · obtain rfl : x = ⟨some ⟨a, 0, none⟩, 1, [97]⟩ := List.mem_singleton.1 hx
      exact ⟨ha, Nat.le_refl _, (by show 1 ≤ _; omega), fun h => (by cases h)⟩
    · rcases i with _ | i
      · cases hx
        exact hd
      · simp at hx
    · obtain rfl : x = ⟨some ⟨c, 0, none⟩, 1, [120], 0, 0⟩ := List.mem_singleton.1 hx
      exact ⟨hc, Nat.le_refl _, (by show 1 ≤ _; omega), fun h => (by cases h), (by show _ ≤ (0 : Int); omega), (by show (0 : Int) ≤ _; omega), (by show _ ≤ (0 : Int); omega), (by show (0 : Int) ≤ _; omega)⟩
  refine (put_any hok (by show (4 : Nat) ≤ 100000; omega)).mono ?_
  rintro e w' (⟨h, _⟩ | ⟨_, g, k, cc, rfl, hk, ho, hbw⟩)
  · refine absurd ⟨(by show (1 : Nat) ≤ 250; omega), fun i k h => ?_, fun _ => ⟨rfl, rfl, fun v hv => ?_⟩, fun h => (by cases h), (by show (5 : Nat) ≤ 493; omega)⟩ h
    · rcases i with _ | i
      · cases h
        exact ⟨(by show (1 : Nat) ≤ 72; omega), fun _ h0 => absurd h0 (by omega)⟩
      · simp [Nd.s] at h
    · obtain rfl : v = ⟨[120], 0, 0⟩ := List.mem_singleton.1 hv
      exact .inl ⟨rfl, rfl, by decide⟩
  · obtain rfl : k = 5 := hk
    obtain ⟨_, _, hv, h1, h2, hbs, _⟩ := ho.form rfl
    cases hv
    exact ⟨_, _, rfl, hbs, hbw⟩

/-- The four rows that the law lays for it. -/
def litW (w : World) : World := (((w.alloc (.cells #[.int .u8 97] 5)).alloc (.cells #[.slice (some ⟨w.heap.size, 0, none⟩) 1 1] 27)).alloc (.cells #[.int .u8 120] 5 (1, 2))).alloc (.cells #[.slice (some ⟨w.heap.size + 1 + 1, 0, none⟩) 1 1, .int .i64 0, .int .i64 0] 39)
theorem litW_facts (w : World) : Below w.heap.size w (litW w) ∧ Bs (litW w) (some ⟨w.heap.size, 0, none⟩) [97] ∧ (litW w).cell? ⟨w.heap.size + 1, 0, none⟩ = some (.slice (some ⟨w.heap.size, 0, none⟩) 1 1) ∧ Bs (litW w) (some ⟨w.heap.size + 1 + 1, 0, none⟩) [120] ∧
    (litW w).cell? ⟨w.heap.size + 1 + 1 + 1, 0, none⟩ = some (.slice (some ⟨w.heap.size + 1 + 1, 0, none⟩) 1 1) ∧ (litW w).cell? ⟨w.heap.size + 1 + 1 + 1, 1, none⟩ = some (.int .i64 0) ∧ (litW w).cell? ⟨w.heap.size + 1 + 1 + 1, 2, none⟩ = some (.int .i64 0) := by
  unfold litW
  refine ⟨(((Below.refl _ _).alloc (Nat.le_refl _) _).alloc (by simp) _).alloc (by simp; omega) _ |>.alloc (by simp; omega) _, ?_, ?_, ?_, ?_, ?_, ?_⟩
  · exact (((Bs.new w 5 (0, 0) #[.int .u8 97] rfl rfl).alloc _).alloc _).alloc _
  · obtain ⟨X, hX⟩ : ∃ X, X = (w.alloc (.cells #[.int .u8 97] 5)).alloc (.cells #[.slice (some ⟨w.heap.size, 0, none⟩) 1 1] 27) := ⟨_, rfl⟩
    have h1 : X.heap[w.heap.size + 1]? = some (.cells #[.slice (some ⟨w.heap.size, 0, none⟩) 1 1] 27 (0, 0)) := by
      have h2 := heap_alloc_new (w.alloc (.cells #[.int .u8 97] 5)) (.cells #[.slice (some ⟨w.heap.size, 0, none⟩) 1 1] 27)
      rwa [show (w.alloc (.cells #[.int .u8 97] 5)).heap.size = w.heap.size + 1 by simp, ← hX] at h2
    have hs : X.heap.size = w.heap.size + 2 := by rw [hX]; simp
    rw [← hX]
    exact Joins.cell_of_block (((((Below.refl X.heap.size X).alloc (Nat.le_refl _) (.cells #[.int .u8 120] 5 (1, 2))).alloc (by simp) (.cells #[.slice (some ⟨w.heap.size + 1 + 1, 0, none⟩) 1 1, .int .i64 0, .int .i64 0] 39)).block (w.heap.size + 1) (by omega)).trans h1) 0
  · exact (Bs.new _ 5 (1, 2) #[.int .u8 120] (by simp) rfl).alloc _
  · exact Joins.cell_alloc_mark_at _ _ _ _ _ _ (by simp)
  · exact Joins.cell_alloc_mark_at _ _ _ _ _ _ (by simp)
  · exact Joins.cell_alloc_mark_at _ _ _ _ _ _ (by simp)

set_option maxHeartbeats 6400000 in
theorem nodePuts_law {w : World} {n : Nd} (h : n.Ok w) (hs : n.Small) {q : Option Addr} {m c : Nat} {l : List UInt8} (hm : m = l.length) (hmc : m ≤ c) (hc63 : c ≤ 9223372036854775807) :
    Calls Try.prog 3 #[n.cell, .slice q m c] w (LawPost w) := by
  obtain ⟨W, hW, hbw, hws, hcc⟩ := nd_box w n
  have HOK := Lib.hid h
  have HC := Lib.hid hcc
  have HBW := Lib.hid hbw
  have HBZ : Hid (∀ w', Below W.heap.size W w' → Below w.heap.size w w') := Lib.hid fun w' hb => (hcc w' hb).1
  have HFW := Lib.hid (few_any (h.below hbw) hs)
  have HML := Lib.hid hm
  have hcell : n.cell = .agg #[.bool n.leaf, .slice n.kq n.ks.length n.kc, .slice n.vq n.vs.length n.vc, .slice n.iq n.is.length n.ic] := rfl
  rw [hcell] at HFW
  rw [hcell]
  clear h hs hbw hws hcc hcell hm
  obtain ⟨_, c0, c1, c2, c3⟩ := HC.out W (Below.refl _ _)
  go_enter Try.func3, Try.ntmps3
  go_wp2_with fail
  rw [← hW]
  replace hW := Lib.hid hW
  go_wp2_with fail
  refine HFW.out.mono ?_
  rintro e w1 ⟨b1, rfl, hfew, hb⟩
  have HB1 := Lib.hid hb
  have HF := Lib.hid hfew
  clear c0 c1 c2 c3 hb hfew HFW
  obtain ⟨_, c0, c1, c2, c3⟩ := HC.out _ HB1.out
  cases b1
  · go_wp2
    go_ret
    exact ⟨rfl, HBZ.out _ HB1.out⟩
  · by_cases h500 : 500 < m
    · have hd : decide (500 < (m : Int)) = true := by simp; omega
      go_wp2
      go_ret
      exact ⟨rfl, HBZ.out _ HB1.out⟩
    · have hd : decide (500 < (m : Int)) = false := by simp; omega
      have HCT : Hid (n.s.count ≤ 100000) := Lib.hid (Nat.le_trans (HF.out (by trivial)) (by omega))
      obtain ⟨lx, k, ec, rb, hk, hout, hrb⟩ := outs n.s
      have HK := Lib.hid hk
      have HO := Lib.hid hout
      have HRB := Lib.hid hrb
      have HPT := Lib.hid (put_any ((HOK.out.below HBW.out).below HB1.out) HCT.out)
      have HOWN := Lib.hid (fun w' (hb : Below W.heap.size W w') => own_any ((HOK.out.below HBW.out).below hb) HCT.out)
      have HRT := Lib.hid (fun w' (hb : Below W.heap.size W w') => right_any ((HOK.out.below HBW.out).below hb) HCT.out)
      have HSZ := Lib.hid (fun w' (hb : Below W.heap.size W w') => size_any ((HOK.out.below HBW.out).below hb) HCT.out)
      obtain ⟨sz, hsz⟩ : ∃ z, z = n.s.size := ⟨_, rfl⟩
      have HSS := Lib.hid hsz
      rw [← hsz] at HSZ
      unfold Nd.cell at HPT HOWN HRT HSZ
      obtain ⟨en, hen⟩ : ∃ z, z = entS l ⟨l, 0, 0⟩ := ⟨_, rfl⟩
      have HEN : Hid (∀ w', Calls Try.prog 18 #[.slice q m c, .agg #[.slice q m c, .int .i64 0, .int .i64 0]] w' fun e w'' => e = .returned (.int .i64 (en : Nat)) ∧ Below w'.heap.size w' w'') := Lib.hid fun w' => by
        have h1 := entry_any (w := w') (q := q) (n := m) (c := c) (by omega) q c l 0 0 (by have := HML.out; omega) l HML.out
        rw [← HML.out, ← hen] at h1
        exact h1
      have HER : Hid (∀ w', Calls Try.prog 19 #[.slice q m c, .agg #[.slice q m c, .int .i64 0, .int .i64 0]] w' fun e w'' => e = .returned (.int .i64 (en : Nat)) ∧ Below w'.heap.size w' w'') := Lib.hid fun w' => by
        have h1 := rentry_any (w := w') (q := q) (n := m) (c := c) (by omega) q c l 0 0 (by have := HML.out; omega) l HML.out
        rw [← HML.out, ← hen] at h1
        exact h1
      have HCH : Hid (∀ w', Calls Try.prog 16 #[.slice q m c] w' fun e w'' => e = .returned (.int .i64 ((m + 3 : Nat) : Int)) ∧ w'' = w') := Lib.hid fun w' => child_any (by omega)
      have HCR : Hid (∀ w', Calls Try.prog 17 #[.slice q m c] w' fun e w'' => e = .returned (.int .i64 ((m + 3 : Nat) : Int)) ∧ w'' = w') := Lib.hid fun w' => rchild_any (by omega)
      clear hk hout hrb hsz hen HF
      go_wp2_with fail
      with_reducible refine HPT.out.mono ?_
      rintro e w2 hp
      obtain ⟨px, cx, rfl, hbx, hb⟩ := HO.out _ _ _ hp
      have HB2 := Lib.hid (HB1.out.trans (hb.mono HB1.out.size))
      have HX2 := Lib.hid hbx
      clear hp hbx hb HPT c0 c1 c2 c3
      obtain ⟨_, c0, c1, c2, c3⟩ := HC.out _ HB2.out
      go_wp2_with fail
      with_reducible refine (HOWN.out _ HB2.out).mono ?_
      rintro e w3 ⟨m3, rfl, hms, hmo, hb⟩
      have HB3 : Hid (Below w2.heap.size w2 w3) := Lib.hid hb
      have HPR := Lib.hid (rput_any hmo (by rw [hms]; exact HCT.out))
      rw [hms] at HPR
      unfold Nd.cell at HPR
      dsimp only [Nd.cell]
      clear hms hmo hb
      go_wp2_with fail
      with_reducible refine HPR.out.mono ?_
      rintro e w4 hp
      obtain ⟨py, cy, rfl, hby, hb⟩ := HO.out _ _ _ hp
      have HB4 : Hid (Below w2.heap.size w2 w4) := Lib.hid (HB3.out.trans (hb.mono HB3.out.size))
      have HY4 := Lib.hid hby
      clear hp hby hb HPR HB3 c0 c1 c2 c3
      have hcv := Joins.run_convert_bytes_const_at (P := Try.prog) ((w4.alloc (.cells #[.int .u8 97] 5)).alloc (.cells #[.slice (some ⟨w4.heap.size, 0, none⟩) 1 1] 27)) 27 5 #[.int .u8 120] 1 1 (w4.heap.size + 1 + 1) (by simp) Try.underlying27 Try.underlying5
      go_wp2_with fail
      obtain ⟨l0, l1, l2, l3, l4, l5, l6⟩ := litW_facts w4
      rw [show (((w4.alloc (.cells #[.int .u8 97] 5)).alloc (.cells #[.slice (some ⟨w4.heap.size, 0, none⟩) 1 1] 27)).alloc (.cells #[.int .u8 120] 5 (1, 2))).alloc (.cells #[.slice (some ⟨w4.heap.size + 1 + 1, 0, none⟩) 1 1, .int .i64 0, .int .i64 0] 39) = litW w4 from rfl]
      with_reducible refine (putLit_any l1 l2 l3 ⟨l4, l5, l6⟩).mono ?_
      rintro e w6 ⟨p1, k1, rfl, hs6, hb⟩
      have HB6 : Hid (Below w4.heap.size w4 w6) := Lib.hid (l0.trans (hb.mono l0.size))
      have HB26 : Hid (Below w2.heap.size w2 w6) := Lib.hid (HB4.out.trans (HB6.out.mono HB4.out.size))
      have HBW6 : Hid (Below W.heap.size W w6) := Lib.hid (HB2.out.trans (HB26.out.mono HB2.out.size))
      have HS6 := Lib.hid hs6
      have HCV : Hid (∀ w', Below w6.heap.size w6 w' → (w'.cell? ⟨w.heap.size, 0, none⟩ = some (.bool n.leaf) ∧ w'.cell? ⟨w.heap.size, 1, none⟩ = some (.slice n.kq n.ks.length n.kc) ∧ w'.cell? ⟨w.heap.size, 2, none⟩ = some (.slice n.vq n.vs.length n.vc) ∧ w'.cell? ⟨w.heap.size, 3, none⟩ = some (.slice n.iq n.is.length n.ic)) ∧
          (convert 27 9 (.slice px k cx)).run Try.prog w' = .ok (.string ⟨lx.toArray⟩) w' ∧ (convert 27 9 (.slice py k cy)).run Try.prog w' = .ok (.string ⟨lx.toArray⟩) w' ∧ (convert 27 9 (.slice p1 5 k1)).run Try.prog w' = .ok (.string ⟨#[1, 1, 97, 1, 120]⟩) w') := Lib.hid fun w' hb => by
        refine ⟨(HC.out _ (HBW6.out.trans (hb.mono HBW6.out.size))).2, str_of (HX2.out.below (HB26.out.trans (hb.mono HB26.out.size))) HK.out, str_of (HY4.out.below (HB6.out.trans (hb.mono HB6.out.size))) HK.out, ?_⟩
        exact str_of (HS6.out.below hb) (n := 5) rfl
      have HD : Hid (∀ w', Below w6.heap.size w6 w' → Below W.heap.size W w') := Lib.hid fun w' hb => HBW6.out.trans (hb.mono HBW6.out.size)
      have HBD : Hid (Below w6.heap.size w6 w6.drew) := Lib.hid (Below.refl _ _).drew
      clear hcv l0 l1 l2 l3 l4 l5 l6 hs6 hb
      go_wp2_with fail
      go_region_held3 (fun w' => (w'.cell? ⟨w.heap.size, 0, none⟩ = some (.bool n.leaf) ∧ w'.cell? ⟨w.heap.size, 1, none⟩ = some (.slice n.kq n.ks.length n.kc) ∧ w'.cell? ⟨w.heap.size, 2, none⟩ = some (.slice n.vq n.vs.length n.vc) ∧ w'.cell? ⟨w.heap.size, 3, none⟩ = some (.slice n.iq n.is.length n.ic)) ∧
          (convert 27 9 (.slice px k cx)).run Try.prog w' = .ok (.string ⟨lx.toArray⟩) w' ∧ (convert 27 9 (.slice py k cy)).run Try.prog w' = .ok (.string ⟨lx.toArray⟩) w' ∧ (convert 27 9 (.slice p1 5 k1)).run Try.prog w' = .ok (.string ⟨#[1, 1, 97, 1, 120]⟩) w')
        (first | exact HCV.out _ HB82.out | exact HCV.out _ HB78.out | exact HCV.out _ HB52.out | exact HCV.out _ HB51.out | exact HCV.out _ HB49.out | exact HCV.out _ HB45.out | exact HCV.out _ HB44.out | exact HCV.out _ HB42.out | exact HCV.out _ HBD.out)
        (first
          | (go_at_call 19; (with_reducible refine (HER.out _).mono ?_); rintro e w82 ⟨rfl, hb⟩; have HB82 := Lib.hid (HB78.out.trans (hb.mono HB78.out.size)); clear hb)
          | (go_at_call 18; (with_reducible refine (HEN.out _).mono ?_); rintro e w78 ⟨rfl, hb⟩; have HB78 := Lib.hid (HB52.out.trans (hb.mono HB52.out.size)); clear hb)
          | (go_at_call 17; (with_reducible refine (HCR.out _).mono ?_); rintro e w71 ⟨rfl, rfl⟩)
          | (go_at_call 16; (with_reducible refine (HCH.out _).mono ?_); rintro e w69 ⟨rfl, rfl⟩)
          | (go_at_call 15; (with_reducible refine HRS.out.mono ?_); rintro e w52 ⟨rfl, hb⟩; have HB52 := Lib.hid (HB51.out.trans (hb.mono HB51.out.size)); clear hb)
          | (go_at_call 11; (with_reducible refine (HOWN.out _ (HD.out _ HB49.out)).mono ?_); rintro e w51 ⟨m51, rfl, hms, hmo, hb⟩; dsimp only [Nd.cell]; have HB51 := Lib.hid (HB49.out.trans (hb.mono HB49.out.size)); have HRS := Lib.hid (rsize_any hmo (by rw [hms]; exact HCT.out)); rw [hms, ← HSS.out] at HRS; dsimp only [Nd.cell] at HRS; clear hb hms hmo)
          | (go_at_call 14; (with_reducible refine (HSZ.out _ (HD.out _ HB45.out)).mono ?_); rintro e w49 ⟨rfl, hb⟩; have HB49 := Lib.hid (HB45.out.trans (hb.mono HB45.out.size)); clear hb)
          | (go_at_call 13; (with_reducible refine HRR.out.mono ?_); rintro e w45 hp; obtain ⟨rfl, hb⟩ := HRB.out _ _ _ hp; have HB45 := Lib.hid (HB44.out.trans (hb.mono HB44.out.size)); clear hb hp)
          | (go_at_call 11; (with_reducible refine (HOWN.out _ (HD.out _ HB42.out)).mono ?_); rintro e w44 ⟨m44, rfl, hms, hmo, hb⟩; dsimp only [Nd.cell]; have HB44 := Lib.hid (HB42.out.trans (hb.mono HB42.out.size)); have HRR := Lib.hid (rright_any hmo (by rw [hms]; exact HCT.out)); rw [hms] at HRR; dsimp only [Nd.cell] at HRR; clear hb hms hmo)
          | (go_at_call 12; (with_reducible refine (HRT.out _ (HD.out _ HBD.out)).mono ?_); rintro e w42 hp; obtain ⟨rfl, hb⟩ := HRB.out _ _ _ hp; have HB42 := Lib.hid (HBD.out.trans (hb.mono HBD.out.size)); clear hb hp)
          | fail)
      all_goals
        go_wp2
        go_ret
        exact ⟨rfl, HBZ.out _ (HD.out _ HB82.out)⟩

end Go.Proofs.Ytlpjmhpbgappnaa
