/-
  tree.Pages of the empty tree.
  pager.
  txn.
  txn.Open of a disk whose commi.
-/
import Derived.Test.YtbbgdbnjmonbgaaGreatDoorH00
import Derived.Test.YtbbgdbnjmonbgaaGreatDoorH23
import Derived.Test.YtbbgdbnjmonbgaaGreatDoorH11
import Derived.Test.YtbbgdbnjmonbgaaGreatDoorH12
import Derived.Test.YtbbgdbnjmonbgaaGreatDoorH31
set_option linter.unusedVariables false
set_option linter.unusedSimpArgs false
set_option maxRecDepth 100000
namespace Go.Proofs.YtbbgdbnjmonbgaaGreatDoor
open Go.RowKit Go.Shelf
attribute [local go_sem] Oper.semAt_some
section
variable {w : World} {B P pd sm : Nat} {X : PG} {seen : Int → Bool}
set_option maxHeartbeats 6400000 in
theorem pagesZ_any (hT : Tab w) (h : GrAt w B P pd X) (hz : X.F.hi = X.S.size) (ht : 1 < B) (root : Int) (hno : root ≠ 0 → ∀ s, ¬ NodeIs X root s) :
  Calls Tryz.prog 19 #[.pointer (some ⟨P, 0, none⟩), .int .i64 root] w fun e w' => e = .returned (.tuple #[.slice none 0 0, .int .i64 (if root = 0 then 0 else 18)]) ∧ Below w.heap.size w w' := by
 have hB := h.base
 have HMD : Hid (∀ w', Below w.heap.size w w' → Calls Tryz.prog 43 #[.pointer (some ⟨P, 0, none⟩)] w' fun e w'' => e = .returned (.bool true) ∧ Below w'.heap.size w' w'') := Hq fun w' hb => by
  obtain ⟨lm, fm, pl, um, wm, la, v, hg⟩ := h.below hb
  exact trMade_yes (hT.below hT.lt hb) hg hz
 have HLA : Hid (∀ w', Below w.heap.size w w' → Calls Tryz.prog 44 #[.pointer (some ⟨P, 0, none⟩)] w' (LookPost w' B P pd X)) := Hq fun w' hb => lookAt_any (hT.below hT.lt hb) (h.below hb) hz ht
 have HB := Hq hB
 clear h hT hz hB
 refine (callsIn_wide (n := 3)).1 (callsIn_of_wp_marks Tryz.func19 rfl trivial (wpIn_wide.2 ?_))
 simp only [Tryz.ntmps19, List.size_toArray, List.length_cons, List.length_nil, Nat.reduceAdd, Nat.reduceSub, Array.replicate_succ, Array.replicate_zero, List.push_toArray, List.append_toArray, List.nil_append, List.cons_append]
 go_wp2_with fail
 obtain ⟨a0, a1, ha, has⟩ := boxes w #[.slice none 0 0] #[.int .i64 0] 22 24
 generalize (w.alloc (.cells #[.slice none 0 0] 22)).alloc (.cells #[.int .i64 0] 24) = W0 at a0 a1 ha has ⊢
 have HA := Hq ha
 have HM0 : Hid (∀ w', Below W0.heap.size W0 w' → w'.heap[w.heap.size]? = some (.cells #[.slice none 0 0] 22 (0, 0)) ∧ w'.heap[w.heap.size + 1]? = some (.cells #[.int .i64 0] 24 (0, 0))) := Hq fun w' hb =>
  ⟨by rw [hb.block _ (by omega)]; exact a0, by rw [hb.block _ (by omega)]; exact a1⟩
 have HAS := Hq has
 clear a0 a1 ha has
 refine (HMD.out _ HA.out).mono ?_
 rintro e w1 ⟨rfl, hb1⟩
 have HB1 := Hq hb1
 clear hb1 HMD
 go_wp2_with fail
 refine (HLA.out _ (HA.out.trans (HB1.out.mono HA.out.size))).mono ?_
 clear HLA
 rintro e w2 ⟨sm, rfl, hsm, hla, hb2⟩
 have HB2 := Hq (HB1.out.trans (hb2.mono HB1.out.size))
 have HSM : Hid (W0.heap.size ≤ sm) := Hq (Nat.le_trans HB1.out.size hsm)
 obtain ⟨c0, c1, hc, hcs⟩ := boxes w2 #[.pointer (some ⟨P, 0, none⟩), .map (some sm)] #[.int .i64 0] 95 3
 have y0 := (jC c0 0).trans rfl
 have y1 := (jC c0 1).trans rfl
 go_wp2_with fail
 generalize (w2.alloc (.cells #[.pointer (some ⟨P, 0, none⟩), .map (some sm)] 95)).alloc (.cells #[.int .i64 0] 3) = W5 at c0 c1 hc hcs y0 y1 ⊢
 have HB5 := Hq (HB2.out.trans (hc.mono HB2.out.size))
 have HLA5 := Hq (hla.below hc)
 obtain ⟨L, hL⟩ : ∃ L, L = w2.heap.size := ⟨_, rfl⟩
 rw [← hL] at c0 c1 hcs ⊢
 have HC : Hid (∀ w', Below W5.heap.size W5 w' → w'.heap[L]? = some (.cells #[.pointer (some ⟨P, 0, none⟩), .map (some sm)] 95 (0, 0))) := Hq fun w' hb => by
  rw [hb.block _ (by omega)]; exact c0
 have HLL : Hid (w.heap.size + 2 ≤ L ∧ L < W5.heap.size) := Hq ⟨by have := HAS.out; have := HB2.out.size; omega, by omega⟩
 clear c0 c1 hc hcs y0 y1 hb2 hla hsm hL
 refine (nodes_any (P := P) (sm := sm) root _ _ _).mono ?_
 rintro e w6 ⟨rfl, hcap, hb6⟩
 have HCAP := Hq hcap
 have HB56 := Hq hb6
 have HB6 := Hq (HB5.out.trans (hb6.mono HB5.out.size))
 have HLA6 := Hq (HLA5.out.below hb6)
 clear hb6 hcap
 go_wp2_with fail
 refine wp_range rfl (enters_of Tryz.func81 (by kernel_rfl) rfl) ?_
 intro r W7 hri hrec hdef hb7
 have HRI := Hq hri
 clear hri
 have HREC := Hq hrec
 have HDEF := Hq hdef
 have HB67 := Hq hb7
 have HB7 := Hq (HB6.out.trans (hb7.mono HB6.out.size))
 obtain ⟨nv, HC7⟩ : ∃ nv, Hid (NCap W7 P sm (W5.heap.size + 1) W5.heap.size (W5.heap.size + 2) root nv) := ⟨_, Hq (HCAP.out.low hb7)⟩
 have HL7 := Hq (HLA6.out.below hb7)
 have HQ7 := Hq (HC.out _ (HB56.out.trans (hb7.mono HB56.out.size)))
 obtain ⟨hn1, hn2⟩ := HM0.out _ HB7.out
 have HN1 := Hq hn1
 have HN2 := Hq hn2
 have HBW : Hid (Below w.heap.size w W7) := Hq (HA.out.trans (HB7.out.mono HA.out.size))
 have HLT : Hid (w.heap.size + 2 ≤ W7.heap.size) := Hq (by have := HAS.out; have := HB7.out.size; omega)
 have HDL : Hid (w.heap.size + 2 ≤ w6.heap.size) := Hq (by have := HAS.out; have := HB6.out.size; omega)
 have HQL : Hid (w.heap.size + 2 ≤ L ∧ L < w6.heap.size) := Hq ⟨HLL.out.1, by have := HLL.out.2; have := HB56.out.size; omega⟩
 clear hrec hdef hb7 hn1 hn2 HM0 HC
 generalize w6.heap.size = D at *
 by_cases hr0 : root = 0
 ·
  subst hr0
  refine (nodes1Z_any HC7.out (D + 1)).mono ?_
  rintro e w8 ⟨⟨v, rfl⟩, hb8⟩
  have lt : ∀ {i : Nat} {o : Obj}, W7.heap[i]? = some o → w8.heap[i]? = some o := fun {i o} h => by rw [hb8.block i (aL h)]; exact h
  have lt2 : ∀ {i : Nat} {o : Obj}, i ≠ D + 1 → W7.heap[i]? = some o → ∀ o', (w8.putObj (D + 1) o').heap[i]? = some o := fun {i o} hi h o' => by rw [World.putObj_heap_other hi]; exact lt h
  have hq := HQL.out
  have hd := HDL.out
  refine ⟨r.pending, _, run_endLoop (lt HREC.out) (by rw [HRI.out.st]; intro h; cases h), ?_⟩
  obtain ⟨w9, hw9⟩ : ∃ w9, w9 = w8.putObj (D + 1) (.loop { r with state := .exhausted }) := ⟨_, rfl⟩
  rw [← hw9, HRI.out.pe]
  have hb9 : Below w.heap.size w w9 := by rw [hw9]; exact HBW.out.trans ((hb8.mono HBW.out.size).trans (putObj_below (by omega) _))
  have lt9 : ∀ {i : Nat} {o : Obj}, i ≠ D + 1 → W7.heap[i]? = some o → w9.heap[i]? = some o := fun {i o} hi h => by rw [hw9]; exact lt2 hi h _
  have q1 := lt9 (by omega) HN1.out
  have q2 := lt9 (by omega) HN2.out
  have q3 := lt9 (by omega) HQ7.out
  have q4 := lt9 (by omega) HDEF.out
  have hm9 : MapSt w9 sm (setOf fun _ => false) := by
   obtain ⟨es, c, hx, _⟩ := HL7.out.m.st
   have hne : sm ≠ D + 1 := fun e => by rw [e, HREC.out] at hx; cases hx
   exact HL7.out.m.block (by rw [lt9 hne hx, hx])
  have c4 : w9.cell? ⟨L, 1, none⟩ = some (.map (some sm)) := (jC q3 1).trans rfl
  have HD9 := Hq q4
  have H9 := Hq hb9
  have Q1 := Hq q1
  have Q2 := Hq q2
  have HM9 := Hq hm9
  clear lt lt2 lt9 q1 q2 q3 q4 hb9 hb8 hq hd hm9 hw9
  show Exit.inBlock 0 _ _ _ _
  dsimp only
  go_wp2_with fail
  refine (keys_any _).mono ?_
  rintro e w10 ⟨rfl, hw10⟩
  have hb10 : Below w9.heap.size w9 w10 := by rw [hw10]; exact sbox1 _ _
  have HSO := Hq (sortedZ_any (w := w10) (bm := w9.heap.size) (sm := sm) (by rw [hw10]; exact heap_alloc_new _ _) (HM9.out.block (hb10.block _ HM9.out.lt)))
  have HB10 := Hq hb10
  clear hw10 hb10
  go_wp2_with fail
  refine HSO.out.mono ?_
  rintro e w11 ⟨rfl, hb11⟩
  have hb9 : Below w9.heap.size w9 w11 := HB10.out.trans (hb11.mono HB10.out.size)
  have up : ∀ {i : Nat} {o : Obj}, w9.heap[i]? = some o → w11.heap[i]? = some o := fun {i o} h => by rw [hb9.block i (aL h)]; exact h
  have q1 := up Q1.out
  have q2 := up Q2.out
  have q4 := up HD9.out
  have c1 : w11.cell? ⟨w.heap.size, 0, none⟩ = some (.slice none 0 0) := (jC q1 0).trans rfl
  have f1 : w11.frozen? ⟨w.heap.size, 0, none⟩ = false := jU q1 0
  have c2 : w11.cell? ⟨w.heap.size + 1, 0, none⟩ = some (.int .i64 0) := (jC q2 0).trans rfl
  have f2 : w11.frozen? ⟨w.heap.size + 1, 0, none⟩ = false := jU q2 0
  have Q1 := Hq q1
  have Q2 := Hq q2
  have HD9 := Hq q4
  have H11 := Hq (H9.out.trans (hb9.mono H9.out.size))
  clear up q1 q2 q4 hb9 hb11
  go_wp2
  obtain ⟨g0, g1, g2, g3⟩ := out_two (x := .slice none 0 0) (y := .int .i64 0) Q1.out Q2.out HD9.out (B := w.heap.size) (by omega) (by omega) (by omega) (by have := HDL.out; omega)
  exact leaves_mark g0 ⟨_, by simp [results, Tryz.results19, go_sem, g1, g2], rfl, H11.out.trans g3⟩
 ·
  obtain ⟨rd, hrd⟩ : ∃ rd, rd = ({ r with state := .done, pending := some .ret } : Loop) := ⟨_, rfl⟩
  have HRD := Hq hrd
  clear hrd
  have HNO : Hid (∀ s, ¬ NodeAt X (fun _ => false) root 1 Sp.zero.s s) := Hq fun s hs => hno hr0 s hs.2.2.1
  have HW5 : Hid (w.heap.size + 2 ≤ W5.heap.size) := Hq (by have := HAS.out; have := HB5.out.size; omega)
  have HRA : ∀ W seen', LookAt W B P pd sm X seen' → LStep sm W7 W → YieldAt Fence.wide 2 Tryz.prog (D + 1) #[Nd.zero.cell, .int .i64 18] W fun e W' => e = .returned (.bool false) ∧
    (Below w.heap.size w W' ∧ NCap W' P sm (W5.heap.size + 1) W5.heap.size (W5.heap.size + 2) root nv ∧ W'.heap[w.heap.size]? = some (.cells #[.slice none 0 0] 22 (0, 0)) ∧ W'.heap[w.heap.size + 1]? = some (.cells #[.int .i64 18] 24 (0, 0)) ∧
     W'.heap[D + 1]? = some (.loop rd) ∧ W'.heap[D]? = some (.deferred (some []))) := by
   intro W seen' hla hst
   have HS := Hq hst
   have HSC : Hid (∀ {i : Nat} {c : Array Value} {t : TypeId} {f : Nat × Nat}, W7.heap[i]? = some (.cells c t f) → W.heap[i]? = some (.cells c t f)) := Hq fun h => hst.keeps.stay h rfl
   have r1 := hst.keeps.stay HREC.out rfl
   have r2 := hst.keeps.stay HN1.out rfl
   have r3 := hst.keeps.stay HN2.out rfl
   have r4 := hst.keeps.stay HDEF.out rfl
   have R1 := Hq r1
   have R2 := Hq r2
   have R3 := Hq r3
   have R4 := Hq r4
   refine yield_round r1 (by rw [HRI.out.pa]; rfl) ?_
   rw [HRI.out.ass, HRI.out.bo, HRI.out.pa, HRI.out.tm]
   clear r1 r2 r3 r4 hst hla hno
   unfold Nd.cell Nd.zero
   dsimp only [List.length_nil]
   gi_wp2
   have hba : Below W.heap.size W (W.alloc (.cells #[.bool false, .slice none 0 0, .slice none 0 0, .slice none 0 0] 106)) := sbox1 _ _
   have lta : ∀ {i : Nat} {o : Obj}, W.heap[i]? = some o → (W.alloc (.cells #[.bool false, .slice none 0 0, .slice none 0 0, .slice none 0 0] 106)).heap[i]? = some o := fun {i o} h => by rw [hba.block i (aL h)]; exact h
   refine ⟨_, run_beginRound (lta R1.out) HRI.out.st, ?_⟩
   obtain ⟨Wb, hWb⟩ : ∃ Wb, Wb = (W.alloc (.cells #[.bool false, .slice none 0 0, .slice none 0 0, .slice none 0 0] 106)).putObj (D + 1) (.loop { r with state := .busy }) := ⟨_, rfl⟩
   rw [← hWb]
   have hdd := HDL.out
   have hll := HLT.out
   have ltb : ∀ {i : Nat} {o : Obj}, i ≠ D + 1 → W.heap[i]? = some o → Wb.heap[i]? = some o := fun {i o} hi h => by rw [hWb, World.putObj_heap_other hi]; exact lta h
   have q1 := ltb (by omega) R2.out
   have q2 := ltb (by omega) R3.out
   have q4 := ltb (by omega) R4.out
   have q5 : Wb.heap[D + 1]? = some (.loop { r with state := .busy }) := by rw [hWb]; exact World.putObj_heap_same (aL (lta R1.out))
   have hbb : Below w.heap.size w Wb := by
    rw [hWb]
    have h1 : w.heap.size ≤ W.heap.size := Nat.le_trans (by omega) HS.out.size
    exact HBW.out.trans ((HS.out.below.mono (by have := HSM.out; have := HAS.out; omega)).trans ((hba.mono h1).trans (putObj_below (by omega) _)))
   have hcb : NCap Wb P sm (W5.heap.size + 1) W5.heap.size (W5.heap.size + 2) root nv := by
    obtain ⟨n1, n2, n3⟩ := HC7.out.ne HREC.out
    obtain ⟨⟨t1, h1⟩, ⟨t2, h2⟩, ⟨t3, h3⟩⟩ := HC7.out
    exact ⟨⟨t1, ltb n1 (HSC.out h1)⟩, ⟨t2, ltb n2 (HSC.out h2)⟩, ⟨t3, ltb n3 (HSC.out h3)⟩⟩
   have c1 : Wb.cell? ⟨w.heap.size, 0, none⟩ = some (.slice none 0 0) := (jC q1 0).trans rfl
   have f1 : Wb.frozen? ⟨w.heap.size, 0, none⟩ = false := jU q1 0
   have c2 : Wb.cell? ⟨w.heap.size + 1, 0, none⟩ = some (.int .i64 0) := (jC q2 0).trans rfl
   have f2 : Wb.frozen? ⟨w.heap.size + 1, 0, none⟩ = false := jU q2 0
   have G := round_two (x := .slice none 0 0) (y := .int .i64 18) (r' := rd) q1 q2 q5 (B := w.heap.size) (by omega) (by omega) (by omega) (by omega)
   obtain ⟨n1, n2, n3⟩ := HC7.out.ne HREC.out
   have hw5 := HW5.out
   have HG : Hid (∃ W', W' = ((Wb.setCell ⟨w.heap.size, 0, none⟩ (.slice none 0 0)).setCell ⟨w.heap.size + 1, 0, none⟩ (.int .i64 18)).putObj (D + 1) (.loop rd) ∧
    (Below w.heap.size w W' ∧ NCap W' P sm (W5.heap.size + 1) W5.heap.size (W5.heap.size + 2) root nv ∧ W'.heap[w.heap.size]? = some (.cells #[.slice none 0 0] 22 (0, 0)) ∧ W'.heap[w.heap.size + 1]? = some (.cells #[.int .i64 18] 24 (0, 0)) ∧
     W'.heap[D + 1]? = some (.loop rd) ∧ W'.heap[D]? = some (.deferred (some [])))) := Hq (by
    obtain ⟨g0, g1, g2, g3, g4, g5⟩ := G
    refine ⟨_, rfl, hbb.trans g5, hcb.same fun i o hi ho => (g4 i ?_ ?_ ?_).trans ho, g1, g2, g3, (g4 D (by omega) (by omega) (by omega)).trans q4⟩
    ·
     rcases hi with rfl | rfl | rfl <;> omega
    ·
     rcases hi with rfl | rfl | rfl <;> omega
    ·
     rcases hi with rfl | rfl | rfl <;> assumption)
   have HG0 := Hq G.1
   clear G q1 q2 q4 q5 hbb hcb lta ltb hba hWb hdd hll n1 n2 n3 hw5
   gi_wp2
   obtain ⟨W', hW', hK⟩ := HG.out
   have he := run_endRound (P := Tryz.prog) (some .ret) HG0.out
   have he2 : (Instr.endRound (D + 1) (some .ret)).run Tryz.prog ((Wb.setCell ⟨w.heap.size, 0, none⟩ (.slice none 0 0)).setCell ⟨w.heap.size + 1, 0, none⟩ (.int .i64 18)) = .ok (.bool false) W' := by rw [he, hW', HRD.out]; rfl
   exact ⟨.bool false, W', he2, rfl, hK⟩
  have hbw7 : B ≤ W7.heap.size := Nat.le_trans HB.out HBW.out.size
  refine (nodes1W_any HL7.out hbw7 hr0 HNO.out HC7.out (fun w' h => h.2.1) HRA).mono ?_
  rintro e w8 ⟨⟨v, rfl⟩, hb8, hn8, k1, k2, k3, k4⟩
  refine ⟨rd.pending, _, run_endLoop k3 (by rw [HRD.out]; intro h; cases h), ?_⟩
  obtain ⟨g0, g1, g2, g3⟩ := out_left (o := .loop { rd with state := .exhausted }) (b := w.heap.size + 1) k1 k2 k3 k4 (B := w.heap.size) (by have := HDL.out; omega)
  obtain ⟨w9, hw9⟩ : ∃ w9, w9 = w8.putObj (D + 1) (.loop { rd with state := .exhausted }) := ⟨_, rfl⟩
  rw [← hw9] at g0 g1 g2 g3 ⊢
  rw [show rd.pending = some .ret from by rw [HRD.out]]
  have HE : Hid ((if root = 0 then (0 : Int) else 18) = 18) := Hq (if_neg hr0)
  have HG0 := Hq g0
  have HG1 := Hq g1
  have HG2 := Hq g2
  have HG3 := Hq (hb8.trans g3)
  clear hb8 hn8 k1 k2 k3 k4 g0 g1 g2 g3 HRA hno hbw7 hw9
  show Code.wpIn _ _ _ _ _ _ _
  refine wpIn_wide.2 ?_
  go_wp2
  have g1 := HG1.out
  have g2 := HG2.out
  exact leaves_mark HG0.out ⟨.tuple #[.slice none 0 0, .int .i64 18], by simp [results, Tryz.results19, go_sem, g1, g2], rfl, HG3.out⟩
end
end Go.Proofs.YtbbgdbnjmonbgaaGreatDoor

set_option linter.unusedVariables false
set_option linter.unusedSimpArgs false
set_option maxRecDepth 100000
namespace Go.Proofs.YtbbgdbnjmonbgaaGreatDoor
open Go.RowKit
section
variable {w w' : World} {B P pd lm fm pl um wm la : Nat} {v : Value} {X : PG}
set_option maxHeartbeats 3200000 in
theorem grKeepNil (h : GrIs w B P pd lm fm pl um wm la v X) (hk : X.kept = false) (hl : X.laid = false) :
  Calls Tryz.prog 21 #[.pointer (some ⟨P, 0, none⟩), .slice none 0 0] w fun e w' => e = .returned (.int .i64 0) ∧ GrStep w w' B P pd { X with kept := true } := by
 have HM := Hq h.made
 have c8 := h.c8
 have c9 := h.c9
 rw [hk] at c8
 rw [hl] at c9
 have uf := h.soft
 have H0 : Hid (∀ w0, w0 = w.setCell ⟨P, 8, none⟩ (.bool true) → GrStep w w0 B P pd { X with kept := true }) := Hq (by
  rintro w0 rfl
  obtain ⟨b1, g1⟩ := cell_set (i := 8) (v := .bool true) h.blk
  obtain ⟨q1, q2, q3⟩ := h.onOwn (Y := { X with kept := true }) (v' := v) (by simpa [grCells] using b1) g1 h.pins rfl rfl rfl h.g0
  exact ⟨⟨_, _, _, _, _, _, _, q1⟩, q2, q3.mono isPager_ofGrP⟩)
 clear h
 go_enter Tryz.func21, Tryz.ntmps21
 go_wp2_with fail
 refine HM.out.mono ?_; rintro e w1 ⟨rfl, rfl⟩
 have HG0 := Hq (H0.out _ rfl)
 go_wp2
 obtain ⟨W0, hW0⟩ : ∃ W0, W0 = w.setCell ⟨P, 8, none⟩ (.bool true) := ⟨_, rfl⟩
 rw [← hW0] at HG0 ⊢
 clear hW0
 go_loopw [23] (fun i wr => i = .int .i64 0 ∧ GrStep w wr B P pd { X with kept := true }) (fun i _ => 0)
 case atStart => exact ⟨rfl, HG0.out⟩
 case round =>
  obtain ⟨rfl, hI⟩ := hrel
  have HI := Hq hI
  clear hI
  go_wp2
  go_ret
  exact ⟨rfl, HI.out⟩
end
end Go.Proofs.YtbbgdbnjmonbgaaGreatDoor

set_option linter.unusedVariables false
set_option linter.unusedSimpArgs false
set_option maxRecDepth 100000
namespace Go.Proofs.YtbbgdbnjmonbgaaGreatDoor
open Go.RowKit
section
variable {w w' : World} {B P pd : Nat} {X : PG}
set_option maxHeartbeats 400000 in
theorem txCreate_any {Q : Ending → World → Prop} {v : Value} (h : Calls Tryz.prog 17 #[v] w fun e w' => e = .returned (.int .i64 0) ∧ Q e w') :
  Calls Tryz.prog 5 #[v] w fun e w' => e = .returned (.int .i64 0) ∧ Q e w' := by
 have H := Hq h
 clear h
 go_enter Tryz.func5, Tryz.ntmps5
 go_wp2_with fail
 refine H.out.mono ?_; rintro e w1 ⟨rfl, hq⟩
 have HQ := Hq hq
 clear hq
 go_wp2
 go_ret
 exact ⟨rfl, HQ.out⟩
end
end Go.Proofs.YtbbgdbnjmonbgaaGreatDoor

set_option linter.unusedVariables false
set_option linter.unusedSimpArgs false
set_option maxRecDepth 100000
namespace Go.Proofs.YtbbgdbnjmonbgaaGreatDoor
open Go.RowKit
section
variable {w w' : World} {B P pd : Nat} {X : PG}
def TxOpenedP (w : World) (B pd : Nat) (X : PG) (e : Ending) (w' : World) : Prop :=
 ∃ s P pm, e = .returned (.tuple #[.pointer (some ⟨s, 0, none⟩), .int .i64 0]) ∧ TxBox w' s P (.pointer none) pm false ∧ GrAt w' B P pd { X with kept := true } ∧ Below B w w' ∧ Keeps ofGr w w' ∧ w.heap.size ≤ s ∧ PM w' P pm (fun _ => none) ∧ w.heap.size ≤ pm
set_option maxHeartbeats 1600000 in
theorem txOpenP_ok (hT : Tab w) (hB : B ≤ w.heap.size) (ht : 1 < B) (hO : Calls Tryz.prog 18 #[.pointer (some ⟨pd, 0, none⟩)] w (OpenedPost w B pd X)) (hr : X.r = 0) (hk : X.kept = false) (hl : X.laid = false) (hz : X.F.hi = X.S.size) :
  Calls Tryz.prog 6 #[.pointer (some ⟨pd, 0, none⟩)] w (TxOpenedP w B pd X) := by
 have H := Hq hO
 have HT := Hq hT
 have HBB := Hq hB
 have hmr := fun (u : World) => meta_root u (X.g : Int) 0 (X.n : Int) (X.d : Int)
 have hmm := @run_makeMap Tryz.prog
 clear hO hT hB
 go_enter Tryz.func6, Tryz.ntmps6
 go_wp2_with fail
 refine H.out.mono ?_; rintro e w1 ⟨P, rfl, hs⟩
 have HB1 := Hq hs.below
 have HK1 := Hq hs.keeps
 have HG1 := Hq hs.at_
 have HM : Hid (Calls Tryz.prog 20 #[.pointer (some ⟨P, 0, none⟩)] w1 fun e w' => e = .returned (.agg #[.int .i64 X.g, .int .i64 0, .int .i64 X.n, .int .i64 X.d]) ∧ Below w1.heap.size w1 w') := Hq (by
  obtain ⟨lm, fm, pl, um, wm, la, v, hg⟩ := hs.at_
  have := grMeta hg
  rw [hr] at this
  exact this)
 clear hs
 go_wp2_with fail
 refine HM.out.mono ?_; rintro e w2 ⟨rfl, hb2⟩
 have HB2 := Hq (HB1.out.trans (hb2.mono HG1.out.base))
 have HK2 := Hq (HK1.out.trans (Keeps.below (K := ofGr) hb2))
 have HG2 := Hq (HG1.out.below hb2)
 have HPG : Hid (Calls Tryz.prog 19 #[.pointer (some ⟨P, 0, none⟩), .int .i64 0] w2 fun e w' => e = .returned (.tuple #[.slice none 0 0, .int .i64 0]) ∧ Below w2.heap.size w2 w') := Hq ((pagesZ_any (HT.out.below ht HB2.out) HG2.out hz ht 0 (fun h => absurd rfl h)).mono fun e w' ⟨h1, h2⟩ => ⟨by rw [h1, if_pos rfl], h2⟩)
 clear hb2
 go_wp2_with fail
 refine HPG.out.mono ?_; rintro e w3 ⟨rfl, hb3⟩
 have HB3 := Hq (HB2.out.trans (hb3.mono HG2.out.base))
 have HK3 := Hq (HK2.out.trans (Keeps.below (K := ofGr) hb3))
 have HG3 := Hq (HG2.out.below hb3)
 have HKN : Hid (Calls Tryz.prog 21 #[.pointer (some ⟨P, 0, none⟩), .slice none 0 0] w3 fun e w' => e = .returned (.int .i64 0) ∧ GrStep w3 w' B P pd { X with kept := true }) := Hq (by
  obtain ⟨lm, fm, pl, um, wm, la, v, hg⟩ := HG3.out
  exact grKeepNil hg hk hl)
 clear hb3
 go_wp2_with fail
 refine HKN.out.mono ?_; rintro e w4 ⟨rfl, hs4⟩
 have HB4 := Hq (HB3.out.trans hs4.below)
 have HK4 := Hq (HK3.out.trans hs4.keeps)
 have HG4 := Hq hs4.at_
 clear hs4
 go_wp2
 go_ret2
 have hb := sbox2 w4 (.map #[] 0) (.cells #[.pointer (some ⟨P, 0, none⟩), .pointer none, .map (some w4.heap.size), .bool false] 55)
 have hn := heap_alloc_new (w4.alloc (.map #[] 0)) (.cells #[.pointer (some ⟨P, 0, none⟩), .pointer none, .map (some w4.heap.size), .bool false] 55)
 have e1 : (w4.alloc (.map #[] 0)).heap.size = w4.heap.size + 1 := by simp
 rw [e1] at hn
 refine ⟨w4.heap.size + 1, P, w4.heap.size, rfl, hn, HG4.out.below hb, HB4.out.trans (hb.mono HG4.out.base), HK4.out.trans (Keeps.below hb), ?_, ⟨?_, ?_⟩, ?_⟩
 ·
  have := HK4.out.size
  omega
 ·
  have hm := (sbox1 (w4.alloc (.map #[] 0)) (.cells #[.pointer (some ⟨P, 0, none⟩), .pointer none, .map (some w4.heap.size), .bool false] 55)).block w4.heap.size (by simp)
  have := MapSt.new (b := w4.heap.size) (hm.trans (heap_alloc_new w4 _))
  exact this
 ·
  obtain ⟨lm, fm, pl, um, wm, la, v, hg⟩ := HG4.out
  exact (aL hg.blk)
 ·
  exact HK4.out.size
end
end Go.Proofs.YtbbgdbnjmonbgaaGreatDoor

