/-
  tree.Pages of the empty tree, and of a root that is no node.
  pager: Keep of no pages.
  Plain facts on pagers: the least free page, counts, what a disk's sectors have behind a commit.
  What PagerAborts says of a pager, plain.
  What stays of a pager while a law calls it: each call in the form that the laws want.
-/
import Derived.Test.YtngnmakeaniapaaGreatDoorH29
import Derived.Test.YtngnmakeaniapaaGreatDoorH16
import Derived.Test.YtngnmakeaniapaaGreatDoorH18
import Derived.Test.YtngnmakeaniapaaGreatDoorH17
import Derived.Test.YtngnmakeaniapaaGreatDoorH20
import Derived.Test.YtngnmakeaniapaaGreatDoorH05
import Derived.LoopTactic
set_option linter.unusedVariables false
set_option linter.unusedSimpArgs false
set_option maxRecDepth 100000
namespace Go.Proofs.YtngnmakeaniapaaGreatDoor
open Go.RowKit Go.Shelf

attribute [local go_sem] Oper.semAt_some

section
variable {w : World} {B P pd sm : Nat} {X : PG} {seen : Int → Bool}

set_option maxHeartbeats 6400000 in
theorem pagesZ_any (hT : Tab w) (h : GrAt w B P pd X) (hz : X.F.hi = X.S.size) (ht : 1 < B) (root : Int) (hno : root ≠ 0 → ∀ s, ¬ NodeIs X root s) :
    Calls Tryz.prog 45 #[.pointer (some ⟨P, 0, none⟩), .int .i64 root] w fun e w' => e = .returned (.tuple #[.slice none 0 0, .int .i64 (if root = 0 then 0 else 18)]) ∧ Below w.heap.size w w' := by
  have hB := h.base
  have HMD : Hid (∀ w', Below w.heap.size w w' → Calls Tryz.prog 79 #[.pointer (some ⟨P, 0, none⟩)] w' fun e w'' => e = .returned (.bool true) ∧ Below w'.heap.size w' w'') := Lib.hid fun w' hb => by
    obtain ⟨lm, fm, pl, um, wm, la, v, hg⟩ := h.below hb
    exact trMade_yes (hT.below hT.lt hb) hg hz
  have HLA : Hid (∀ w', Below w.heap.size w w' → Calls Tryz.prog 80 #[.pointer (some ⟨P, 0, none⟩)] w' (LookPost w' B P pd X)) := Lib.hid fun w' hb => lookAt_any (hT.below hT.lt hb) (h.below hb) hz ht
  have HB := Lib.hid hB
  clear h hT hz hB
  refine (callsIn_wide (n := 3)).1 (callsIn_of_wp_marks Tryz.func45 rfl trivial (wpIn_wide.2 ?_))
  simp only [Tryz.ntmps45, List.size_toArray, List.length_cons, List.length_nil, Nat.reduceAdd, Nat.reduceSub, Array.replicate_succ, Array.replicate_zero, List.push_toArray, List.append_toArray, List.nil_append, List.cons_append]
  go_wp2_with fail
  obtain ⟨a0, a1, ha, has⟩ := boxes w #[.slice none 0 0] #[.int .i64 0] 38 25
  generalize (w.alloc (.cells #[.slice none 0 0] 38)).alloc (.cells #[.int .i64 0] 25) = W0 at a0 a1 ha has ⊢
  have HA := Lib.hid ha
  have HM0 : Hid (∀ w', Below W0.heap.size W0 w' → w'.heap[w.heap.size]? = some (.cells #[.slice none 0 0] 38 (0, 0)) ∧ w'.heap[w.heap.size + 1]? = some (.cells #[.int .i64 0] 25 (0, 0))) := Lib.hid fun w' hb =>
    ⟨by rw [hb.block _ (by omega)]; exact a0, by rw [hb.block _ (by omega)]; exact a1⟩
  have HAS := Lib.hid has
  clear a0 a1 ha has
  refine (HMD.out _ HA.out).mono ?_
  rintro e w1 ⟨rfl, hb1⟩
  have HB1 := Lib.hid hb1
  clear hb1 HMD
  go_wp2_with fail
  refine (HLA.out _ (HA.out.trans (HB1.out.mono HA.out.size))).mono ?_
  clear HLA
  rintro e w2 ⟨sm, rfl, hsm, hla, hb2⟩
  have HB2 := Lib.hid (HB1.out.trans (hb2.mono HB1.out.size))
  have HSM : Hid (W0.heap.size ≤ sm) := Lib.hid (Nat.le_trans HB1.out.size hsm)
  obtain ⟨c0, c1, hc, hcs⟩ := boxes w2 #[.pointer (some ⟨P, 0, none⟩), .map (some sm)] #[.int .i64 0] 143 3
  have y0 := (Joins.cell_of_block c0 0).trans rfl
  have y1 := (Joins.cell_of_block c0 1).trans rfl
  go_wp2_with fail
  generalize (w2.alloc (.cells #[.pointer (some ⟨P, 0, none⟩), .map (some sm)] 143)).alloc (.cells #[.int .i64 0] 3) = W5 at c0 c1 hc hcs y0 y1 ⊢
  have HB5 := Lib.hid (HB2.out.trans (hc.mono HB2.out.size))
  have HLA5 := Lib.hid (hla.below hc)
  obtain ⟨L, hL⟩ : ∃ L, L = w2.heap.size := ⟨_, rfl⟩
  rw [← hL] at c0 c1 hcs ⊢
  have HC : Hid (∀ w', Below W5.heap.size W5 w' → w'.heap[L]? = some (.cells #[.pointer (some ⟨P, 0, none⟩), .map (some sm)] 143 (0, 0))) := Lib.hid fun w' hb => by
    rw [hb.block _ (by omega)]; exact c0
  have HLL : Hid (w.heap.size + 2 ≤ L ∧ L < W5.heap.size) := Lib.hid ⟨by have := HAS.out; have := HB2.out.size; omega, by omega⟩
  clear c0 c1 hc hcs y0 y1 hb2 hla hsm hL
  refine (nodes_any (P := P) (sm := sm) root _ _ _).mono ?_
  rintro e w6 ⟨rfl, hcap, hb6⟩
  have HCAP := Lib.hid hcap
  have HB56 := Lib.hid hb6
  have HB6 := Lib.hid (HB5.out.trans (hb6.mono HB5.out.size))
  have HLA6 := Lib.hid (HLA5.out.below hb6)
  clear hb6 hcap
  go_wp2_with fail
  refine wp_range rfl (enters_of Tryz.func122 (by kernel_rfl) rfl) ?_
  intro r W7 hri hrec hdef hb7
  have HRI := Lib.hid hri
  clear hri
  have HREC := Lib.hid hrec
  have HDEF := Lib.hid hdef
  have HB67 := Lib.hid hb7
  have HB7 := Lib.hid (HB6.out.trans (hb7.mono HB6.out.size))
  obtain ⟨nv, HC7⟩ : ∃ nv, Hid (NCap W7 P sm (W5.heap.size + 1) W5.heap.size (W5.heap.size + 2) root nv) := ⟨_, Lib.hid (HCAP.out.low hb7)⟩
  have HL7 := Lib.hid (HLA6.out.below hb7)
  have HQ7 := Lib.hid (HC.out _ (HB56.out.trans (hb7.mono HB56.out.size)))
  obtain ⟨hn1, hn2⟩ := HM0.out _ HB7.out
  have HN1 := Lib.hid hn1
  have HN2 := Lib.hid hn2
  have HBW : Hid (Below w.heap.size w W7) := Lib.hid (HA.out.trans (HB7.out.mono HA.out.size))
  have HLT : Hid (w.heap.size + 2 ≤ W7.heap.size) := Lib.hid (by have := HAS.out; have := HB7.out.size; omega)
  have HDL : Hid (w.heap.size + 2 ≤ w6.heap.size) := Lib.hid (by have := HAS.out; have := HB6.out.size; omega)
  have HQL : Hid (w.heap.size + 2 ≤ L ∧ L < w6.heap.size) := Lib.hid ⟨HLL.out.1, by have := HLL.out.2; have := HB56.out.size; omega⟩
  clear hrec hdef hb7 hn1 hn2 HM0 HC
  generalize w6.heap.size = D at *
  by_cases hr0 : root = 0
  · subst hr0
    refine (nodes1Z_any HC7.out (D + 1)).mono ?_
    rintro e w8 ⟨⟨v, rfl⟩, hb8⟩
    have lt : ∀ {i : Nat} {o : Obj}, W7.heap[i]? = some o → w8.heap[i]? = some o := fun {i o} h => by rw [hb8.block i (Array.getElem?_eq_some_iff.1 h).1]; exact h
    have lt2 : ∀ {i : Nat} {o : Obj}, i ≠ D + 1 → W7.heap[i]? = some o → ∀ o', (w8.putObj (D + 1) o').heap[i]? = some o := fun {i o} hi h o' => by rw [World.putObj_heap_other hi]; exact lt h
    have hq := HQL.out
    have hd := HDL.out
    refine ⟨r.pending, _, run_endLoop (lt HREC.out) (by rw [HRI.out.st]; intro h; cases h), ?_⟩
    obtain ⟨w9, hw9⟩ : ∃ w9, w9 = w8.putObj (D + 1) (.loop { r with state := .exhausted }) := ⟨_, rfl⟩
    rw [← hw9, HRI.out.pe]
    have hb9 : Below w.heap.size w w9 := by rw [hw9]; exact HBW.out.trans ((hb8.mono HBW.out.size).trans (putObj_below (by omega) _))
    have lt9 : ∀ {i : Nat} {o : Obj}, i ≠ D + 1 → W7.heap[i]? = some o → w9.heap[i]? = some o := fun {i o} hi h => by rw [hw9]; exact lt2 hi h _
    have q1 := lt9 (by omega) HN1.out
    have q2 := lt9 (by omega) HN2.out
    have q3 := lt9 (by omega) HQ7.out
    have q4 := lt9 (by omega) HDEF.out
    have hm9 : MapSt w9 sm (setOf fun _ => false) := by
      obtain ⟨es, c, hx, _⟩ := HL7.out.m.st
      have hne : sm ≠ D + 1 := fun e => by rw [e, HREC.out] at hx; cases hx
      exact HL7.out.m.block (by rw [lt9 hne hx, hx])
    have c4 : w9.cell? ⟨L, 1, none⟩ = some (.map (some sm)) := (Joins.cell_of_block q3 1).trans rfl
    have HD9 := Lib.hid q4
    have H9 := Lib.hid hb9
    have Q1 := Lib.hid q1
    have Q2 := Lib.hid q2
    have HM9 := Lib.hid hm9
    clear lt lt2 lt9 q1 q2 q3 q4 hb9 hb8 hq hd hm9 hw9
    show Exit.inBlock 0 _ _ _ _
    dsimp only
    go_wp2_with fail
    refine (keys_any _).mono ?_
    rintro e w10 ⟨rfl, hw10⟩
    have hb10 : Below w9.heap.size w9 w10 := by rw [hw10]; exact sbox1 _ _
    have HSO := Lib.hid (sortedZ_any (w := w10) (bm := w9.heap.size) (sm := sm) (by rw [hw10]; exact heap_alloc_new _ _) (HM9.out.block (hb10.block _ HM9.out.lt)))
    have HB10 := Lib.hid hb10
    clear hw10 hb10
    go_wp2_with fail
    refine HSO.out.mono ?_
    rintro e w11 ⟨rfl, hb11⟩
    have hb9 : Below w9.heap.size w9 w11 := HB10.out.trans (hb11.mono HB10.out.size)
    have up : ∀ {i : Nat} {o : Obj}, w9.heap[i]? = some o → w11.heap[i]? = some o := fun {i o} h => by rw [hb9.block i (Array.getElem?_eq_some_iff.1 h).1]; exact h
    have q1 := up Q1.out
    have q2 := up Q2.out
    have q4 := up HD9.out
    have c1 : w11.cell? ⟨w.heap.size, 0, none⟩ = some (.slice none 0 0) := (Joins.cell_of_block q1 0).trans rfl
    have f1 : w11.frozen? ⟨w.heap.size, 0, none⟩ = false := Joins.unfrozen_of_block q1 0
    have c2 : w11.cell? ⟨w.heap.size + 1, 0, none⟩ = some (.int .i64 0) := (Joins.cell_of_block q2 0).trans rfl
    have f2 : w11.frozen? ⟨w.heap.size + 1, 0, none⟩ = false := Joins.unfrozen_of_block q2 0
    have Q1 := Lib.hid q1
    have Q2 := Lib.hid q2
    have HD9 := Lib.hid q4
    have H11 := Lib.hid (H9.out.trans (hb9.mono H9.out.size))
    clear up q1 q2 q4 hb9 hb11
    go_wp2
    obtain ⟨g0, g1, g2, g3⟩ := out_two (x := .slice none 0 0) (y := .int .i64 0) Q1.out Q2.out HD9.out (B := w.heap.size) (by omega) (by omega) (by omega) (by have := HDL.out; omega)
    exact leaves_mark g0 ⟨_, by simp [results, Tryz.results45, go_sem, g1, g2], rfl, H11.out.trans g3⟩
  · obtain ⟨rd, hrd⟩ : ∃ rd, rd = ({ r with state := .done, pending := some .ret } : Loop) := ⟨_, rfl⟩
    have HRD := Lib.hid hrd
    clear hrd
    have HNO : Hid (∀ s, ¬ NodeAt X (fun _ => false) root 1 Sp.zero.s s) := Lib.hid fun s hs => hno hr0 s hs.2.2.1
    have HW5 : Hid (w.heap.size + 2 ≤ W5.heap.size) := Lib.hid (by have := HAS.out; have := HB5.out.size; omega)
    have HRA : ∀ W seen', LookAt W B P pd sm X seen' → LStep sm W7 W → YieldAt Fence.wide 2 Tryz.prog (D + 1) #[Nd.zero.cell, .int .i64 18] W fun e W' => e = .returned (.bool false) ∧
        (Below w.heap.size w W' ∧ NCap W' P sm (W5.heap.size + 1) W5.heap.size (W5.heap.size + 2) root nv ∧ W'.heap[w.heap.size]? = some (.cells #[.slice none 0 0] 38 (0, 0)) ∧ W'.heap[w.heap.size + 1]? = some (.cells #[.int .i64 18] 25 (0, 0)) ∧
          W'.heap[D + 1]? = some (.loop rd) ∧ W'.heap[D]? = some (.deferred (some []))) := by
      intro W seen' hla hst
      have HS := Lib.hid hst
      have HSC : Hid (∀ {i : Nat} {c : Array Value} {t : TypeId} {f : Nat × Nat}, W7.heap[i]? = some (.cells c t f) → W.heap[i]? = some (.cells c t f)) := Lib.hid fun h => hst.keeps.stay h rfl
      have r1 := hst.keeps.stay HREC.out rfl
      have r2 := hst.keeps.stay HN1.out rfl
      have r3 := hst.keeps.stay HN2.out rfl
      have r4 := hst.keeps.stay HDEF.out rfl
      have R1 := Lib.hid r1
      have R2 := Lib.hid r2
      have R3 := Lib.hid r3
      have R4 := Lib.hid r4
      refine yield_round r1 (by rw [HRI.out.pa]; rfl) ?_
      rw [HRI.out.ass, HRI.out.bo, HRI.out.pa, HRI.out.tm]
      clear r1 r2 r3 r4 hst hla hno
      unfold Nd.cell Nd.zero
      dsimp only [List.length_nil]
      gi_wp2
      have hba : Below W.heap.size W (W.alloc (.cells #[.bool false, .slice none 0 0, .slice none 0 0, .slice none 0 0] 154)) := sbox1 _ _
      have lta : ∀ {i : Nat} {o : Obj}, W.heap[i]? = some o → (W.alloc (.cells #[.bool false, .slice none 0 0, .slice none 0 0, .slice none 0 0] 154)).heap[i]? = some o := fun {i o} h => by rw [hba.block i (Array.getElem?_eq_some_iff.1 h).1]; exact h
      refine ⟨_, run_beginRound (lta R1.out) HRI.out.st, ?_⟩
      obtain ⟨Wb, hWb⟩ : ∃ Wb, Wb = (W.alloc (.cells #[.bool false, .slice none 0 0, .slice none 0 0, .slice none 0 0] 154)).putObj (D + 1) (.loop { r with state := .busy }) := ⟨_, rfl⟩
      rw [← hWb]
      have hdd := HDL.out
      have hll := HLT.out
      have ltb : ∀ {i : Nat} {o : Obj}, i ≠ D + 1 → W.heap[i]? = some o → Wb.heap[i]? = some o := fun {i o} hi h => by rw [hWb, World.putObj_heap_other hi]; exact lta h
      have q1 := ltb (by omega) R2.out
      have q2 := ltb (by omega) R3.out
      have q4 := ltb (by omega) R4.out
      have q5 : Wb.heap[D + 1]? = some (.loop { r with state := .busy }) := by rw [hWb]; exact World.putObj_heap_same (Array.getElem?_eq_some_iff.1 (lta R1.out)).1
      have hbb : Below w.heap.size w Wb := by
        rw [hWb]
        have h1 : w.heap.size ≤ W.heap.size := Nat.le_trans (by omega) HS.out.size
        exact HBW.out.trans ((HS.out.below.mono (by have := HSM.out; have := HAS.out; omega)).trans ((hba.mono h1).trans (putObj_below (by omega) _)))
      have hcb : NCap Wb P sm (W5.heap.size + 1) W5.heap.size (W5.heap.size + 2) root nv := by
        obtain ⟨n1, n2, n3⟩ := HC7.out.ne HREC.out
        obtain ⟨⟨t1, h1⟩, ⟨t2, h2⟩, ⟨t3, h3⟩⟩ := HC7.out
        exact ⟨⟨t1, ltb n1 (HSC.out h1)⟩, ⟨t2, ltb n2 (HSC.out h2)⟩, ⟨t3, ltb n3 (HSC.out h3)⟩⟩
      have c1 : Wb.cell? ⟨w.heap.size, 0, none⟩ = some (.slice none 0 0) := (Joins.cell_of_block q1 0).trans rfl
      have f1 : Wb.frozen? ⟨w.heap.size, 0, none⟩ = false := Joins.unfrozen_of_block q1 0
      have c2 : Wb.cell? ⟨w.heap.size + 1, 0, none⟩ = some (.int .i64 0) := (Joins.cell_of_block q2 0).trans rfl
      have f2 : Wb.frozen? ⟨w.heap.size + 1, 0, none⟩ = false := Joins.unfrozen_of_block q2 0
      have G := round_two (x := .slice none 0 0) (y := .int .i64 18) (r' := rd) q1 q2 q5 (B := w.heap.size) (by omega) (by omega) (by omega) (by omega)
      obtain ⟨n1, n2, n3⟩ := HC7.out.ne HREC.out
      have hw5 := HW5.out
      have HG : Hid (∃ W', W' = ((Wb.setCell ⟨w.heap.size, 0, none⟩ (.slice none 0 0)).setCell ⟨w.heap.size + 1, 0, none⟩ (.int .i64 18)).putObj (D + 1) (.loop rd) ∧
        (Below w.heap.size w W' ∧ NCap W' P sm (W5.heap.size + 1) W5.heap.size (W5.heap.size + 2) root nv ∧ W'.heap[w.heap.size]? = some (.cells #[.slice none 0 0] 38 (0, 0)) ∧ W'.heap[w.heap.size + 1]? = some (.cells #[.int .i64 18] 25 (0, 0)) ∧
          W'.heap[D + 1]? = some (.loop rd) ∧ W'.heap[D]? = some (.deferred (some [])))) := Lib.hid (by
        obtain ⟨g0, g1, g2, g3, g4, g5⟩ := G
        refine ⟨_, rfl, hbb.trans g5, hcb.same fun i o hi ho => (g4 i ?_ ?_ ?_).trans ho, g1, g2, g3, (g4 D (by omega) (by omega) (by omega)).trans q4⟩
        · rcases hi with rfl | rfl | rfl <;> omega
        · rcases hi with rfl | rfl | rfl <;> omega
        · rcases hi with rfl | rfl | rfl <;> assumption)
      have HG0 := Lib.hid G.1
      clear G q1 q2 q4 q5 hbb hcb lta ltb hba hWb hdd hll n1 n2 n3 hw5
      gi_wp2
      obtain ⟨W', hW', hK⟩ := HG.out
      have he := run_endRound (P := Tryz.prog) (some .ret) HG0.out
      have he2 : (Instr.endRound (D + 1) (some .ret)).run Tryz.prog ((Wb.setCell ⟨w.heap.size, 0, none⟩ (.slice none 0 0)).setCell ⟨w.heap.size + 1, 0, none⟩ (.int .i64 18)) = .ok (.bool false) W' := by rw [he, hW', HRD.out]; rfl
      exact ⟨.bool false, W', he2, rfl, hK⟩
    have hbw7 : B ≤ W7.heap.size := Nat.le_trans HB.out HBW.out.size
    refine (nodes1W_any HL7.out hbw7 hr0 HNO.out HC7.out (fun w' h => h.2.1) HRA).mono ?_
    rintro e w8 ⟨⟨v, rfl⟩, hb8, hn8, k1, k2, k3, k4⟩
    refine ⟨rd.pending, _, run_endLoop k3 (by rw [HRD.out]; intro h; cases h), ?_⟩
    obtain ⟨g0, g1, g2, g3⟩ := out_left (o := .loop { rd with state := .exhausted }) (b := w.heap.size + 1) k1 k2 k3 k4 (B := w.heap.size) (by have := HDL.out; omega)
    obtain ⟨w9, hw9⟩ : ∃ w9, w9 = w8.putObj (D + 1) (.loop { rd with state := .exhausted }) := ⟨_, rfl⟩
    rw [← hw9] at g0 g1 g2 g3 ⊢
    rw [show rd.pending = some .ret from by rw [HRD.out]]
    have HE : Hid ((if root = 0 then (0 : Int) else 18) = 18) := Lib.hid (if_neg hr0)
    have HG0 := Lib.hid g0
    have HG1 := Lib.hid g1
    have HG2 := Lib.hid g2
    have HG3 := Lib.hid (hb8.trans g3)
    clear hb8 hn8 k1 k2 k3 k4 g0 g1 g2 g3 HRA hno hbw7 hw9
    show Code.wpIn _ _ _ _ _ _ _
    refine wpIn_wide.2 ?_
    go_wp2
    have g1 := HG1.out
    have g2 := HG2.out
    exact leaves_mark HG0.out ⟨.tuple #[.slice none 0 0, .int .i64 18], by simp [results, Tryz.results45, go_sem, g1, g2], rfl, HG3.out⟩
end

end Go.Proofs.YtngnmakeaniapaaGreatDoor

set_option linter.unusedVariables false
set_option linter.unusedSimpArgs false
set_option maxRecDepth 100000
namespace Go.Proofs.YtngnmakeaniapaaGreatDoor
open Go.RowKit

section
variable {w w' : World} {B P pd lm fm pl um wm la : Nat} {v : Value} {X : PG}

set_option maxHeartbeats 3200000 in
theorem grKeepNil (h : GrIs w B P pd lm fm pl um wm la v X) (hk : X.kept = false) (hl : X.laid = false) :
    Calls Tryz.prog 47 #[.pointer (some ⟨P, 0, none⟩), .slice none 0 0] w fun e w' => e = .returned (.int .i64 0) ∧ GrStep w w' B P pd { X with kept := true } := by
  have HM := Lib.hid h.made
  have c8 := h.c8
  have c9 := h.c9
  rw [hk] at c8
  rw [hl] at c9
  have uf := h.soft
  have H0 : Hid (∀ w0, w0 = w.setCell ⟨P, 8, none⟩ (.bool true) → GrStep w w0 B P pd { X with kept := true }) := Lib.hid (by
    rintro w0 rfl
    obtain ⟨b1, g1⟩ := cell_set (i := 8) (v := .bool true) h.blk
    obtain ⟨q1, q2, q3⟩ := h.onOwn (Y := { X with kept := true }) (v' := v) (by simpa [grCells] using b1) g1 h.pins rfl rfl rfl h.g0
    exact ⟨⟨_, _, _, _, _, _, _, q1⟩, q2, q3.mono isPager_ofGrP⟩)
  clear h
  go_enter Tryz.func47, Tryz.ntmps47
  go_wp2_with fail
  refine HM.out.mono ?_; rintro e w1 ⟨rfl, rfl⟩
  have HG0 := Lib.hid (H0.out _ rfl)
  go_wp2
  obtain ⟨W0, hW0⟩ : ∃ W0, W0 = w.setCell ⟨P, 8, none⟩ (.bool true) := ⟨_, rfl⟩
  rw [← hW0] at HG0 ⊢
  clear hW0
  go_loopw [23] (fun i wr => i = .int .i64 0 ∧ GrStep w wr B P pd { X with kept := true }) (fun i _ => 0)
  case atStart => exact ⟨rfl, HG0.out⟩
  case round =>
    obtain ⟨rfl, hI⟩ := hrel
    have HI := Lib.hid hI
    clear hI
    go_wp2
    go_ret
    exact ⟨rfl, HI.out⟩
end

end Go.Proofs.YtngnmakeaniapaaGreatDoor

set_option linter.unusedVariables false
set_option maxRecDepth 100000
namespace Go.Proofs.YtngnmakeaniapaaGreatDoor
open Go.RowKit

theorem FL.least_is {F : FL} {k : Int} (h : F.st k = 1) (hb : ∀ i, F.lo ≤ i → i < k → F.st i ≠ 1) : F.least = some k := by
  cases hl : F.least with
  | none => exact absurd h (FL.least_none hl k)
  | some j =>
    obtain ⟨h1, h2⟩ := FL.least_some hl
    obtain ⟨_, _, h3, _⟩ := FL.free_used h1
    obtain ⟨_, _, h4, _⟩ := FL.free_used h
    rcases Int.lt_trichotomy j k with h5 | h5 | h5
    · exact absurd h1 (hb j h3 h5)
    · rw [h5]
    · exact absurd h (h2 k h4 h5)

theorem countP_list {l m : List Int} (p : Int → Bool) (hl : l.Nodup) (hm : m.Nodup) (h : ∀ k, k ∈ m ↔ (k ∈ l ∧ p k = true)) : l.countP p = m.length := by
  rw [List.countP_eq_length_filter]
  refine List.Perm.length_eq ?_
  refine (List.perm_ext_iff_of_nodup (hl.filter _) hm).2 fun k => ?_
  rw [List.mem_filter, h]
theorem FL.Ok.used_len {F : FL} (h : F.Ok) {m : List Int} (hm : m.Nodup) (hu : ∀ k, k ∈ m ↔ F.used k = true) : F.nUsed = m.length :=
  countP_list _ F.pages_nodup hm fun k => by
    rw [hu, FL.mem_pages]
    exact ⟨fun hk => ⟨h.hu hk, hk⟩, fun hk => hk.2⟩
theorem FL.no_waits {F : FL} (h : ∀ k, F.waits k = none) : F.nWaits = 0 := by
  unfold FL.nWaits
  rw [List.countP_eq_zero]
  intro k _
  simp [h k]

/-- The whole numbers from a one on, so many. -/
def upFrom (a : Int) (n : Nat) : List Int := (List.range n).map fun (i : Nat) => a + (i : Int)
theorem upFrom_length (a : Int) (n : Nat) : (upFrom a n).length = n := by simp [upFrom]
theorem upFrom_nodup (a : Int) (n : Nat) : (upFrom a n).Nodup := by
  refine List.pairwise_map.2 (List.Pairwise.imp ?_ List.nodup_range)
  intro i j h e
  omega
theorem mem_upFrom {a : Int} {n : Nat} {k : Int} : k ∈ upFrom a n ↔ a ≤ k ∧ k < a + n := by
  simp only [upFrom, List.mem_map, List.mem_range]
  constructor
  · rintro ⟨i, hi, rfl⟩
    omega
  · rintro ⟨h1, h2⟩
    exact ⟨(k - a).toNat, by omega, by omega⟩

theorem PG.comS_read (X : PG) (r n d : Nat) {k : Int} (hk : 2 ≤ k) : (X.comS r n d).read k = X.S.read k := by
  unfold PG.comS
  rw [SD.flush_read, SD.write_read, if_neg (by omega), SD.flush_read]
theorem PG.comS_left {X : PG} (h : X.S.left = -1) (r n d : Nat) : (X.comS r n d).left = -1 :=
  SD.tick_left (S := X.S.flush.write _ _) (SD.tick_left (S := X.S.flush) (SD.tick_left h))
theorem PG.comS_ops (X : PG) (r n d : Nat) : (X.comS r n d).ops = X.S.ops + 3 := by
  show X.S.ops + 1 + 1 + 1 = _
  omega
theorem PG.comS_size (X : PG) (r n d : Nat) : (X.comS r n d).size = X.S.size := rfl
theorem PG.lay_read (X : PG) {k : Int} {pg : List UInt8} (hp : pg.length = 512) (j : Int) : (X.lay k pg).S.read j = if j = k then pg else X.S.read j := by
  show (X.S.write k pg).read j = _
  rw [SD.write_read, pad_same hp]

theorem FL.leave_of_none {F : FL} (h : ∀ k, F.waits k = none) (such : Int → Bool) : F.leave such = F := by
  obtain ⟨lo, hi, u, ws⟩ := F
  simp only [FL.leave, FL.mk.injEq, true_and]
  funext x
  have := h x
  simp only at this
  rw [this]

end Go.Proofs.YtngnmakeaniapaaGreatDoor

set_option linter.unusedVariables false
set_option maxRecDepth 100000
namespace Go.Proofs.YtngnmakeaniapaaGreatDoor
open Go.RowKit

/-- The page of a round. -/
def abPage (j : Nat) : List UInt8 := pageB 5 (2 + j) 3 [UInt8.ofNat j]
theorem abPage_length (j : Nat) : (abPage j).length = 512 := pageB_length (by simp)

/-- What stays through the law; m pages are there to be read. -/
structure AbC (X : PG) (g m : Nat) (ops : Int) : Prop where
  lo : X.F.lo = 2
  hi : X.F.hi = 60
  g : X.g = g
  n : X.n = 1
  d : X.d = 1
  fl : X.failed = false
  ps : X.pins = []
  left : X.S.left = -1
  ops : X.S.ops ≤ ops
  size : X.S.size = 60
  rd : ∀ j, j < m → X.S.read ((2 + j : Nat) : Int) = abPage j

/-- i pages are in use, none waits; all are laid, or none. -/
structure AbX (X : PG) (g i : Nat) (fl : Bool) (ops : Int) : Prop where
  c : AbC X g i ops
  us : ∀ x, X.F.used x = (decide (2 ≤ x) && decide (x < 2 + (i : Int)))
  ws : ∀ x, X.F.waits x = none
  L : ∀ x, X.L x = (fl && (decide (2 ≤ x) && decide (x < 2 + (i : Int))))

theorem AbX.least {X : PG} {g i : Nat} {fl : Bool} {ops : Int} (h : AbX X g i fl ops) (hi : i < 50) : X.F.least = some ((2 + i : Nat) : Int) := by
  refine FL.least_is ?_ fun j h1 h2 h3 => ?_
  · unfold FL.st FL.has
    rw [h.us, h.ws, h.c.lo, h.c.hi]
    have a1 : decide ((2 : Int) ≤ ((2 + i : Nat) : Int)) = true := decide_eq_true (by omega)
    have a2 : decide (((2 + i : Nat) : Int) < 60) = true := decide_eq_true (by omega)
    have a3 : decide (((2 + i : Nat) : Int) < 2 + (i : Int)) = false := decide_eq_false (by omega)
    rw [a1, a2, a3]
    rfl
  · obtain ⟨h4, _⟩ := FL.free_used h3
    rw [h.us, h.c.lo] at *
    have a1 : decide ((2 : Int) ≤ j) = true := decide_eq_true (by have := h.c.lo; omega)
    have a2 : decide (j < 2 + (i : Int)) = true := decide_eq_true (by omega)
    rw [a1, a2] at h4
    cases h4
theorem AbX.st {X : PG} {g i : Nat} {fl : Bool} {ops : Int} (h : AbX X g i fl ops) {j : Nat} (hj : j < i) (hi : i < 50) : X.F.st ((2 + j : Nat) : Int) = 2 := by
  refine FL.st_two.2 ⟨FL.has_iff.2 ?_, ?_⟩
  · rw [h.c.lo, h.c.hi]; omega
  · rw [h.us, decide_eq_true (show (2 : Int) ≤ ((2 + j : Nat) : Int) by omega), decide_eq_true (show ((2 + j : Nat) : Int) < 2 + (i : Int) by omega)]
    rfl

theorem AbX.lay {X : PG} {i : Nat} {ops : Int} (h : AbX X 2 i true ops) {pg : List UInt8} (hp : pg = abPage i) : AbX (X.lay ((2 + i : Nat) : Int) pg) 2 (i + 1) true (ops + 1) := by
  obtain ⟨⟨c1, c2, c3, c4, c5, c6, c7, c8, c9, c10, c11⟩, h2, h3, h4⟩ := h
  have hl : pg.length = 512 := by rw [hp]; exact abPage_length i
  refine ⟨⟨c1, c2, c3, c4, c5, c6, c7, SD.tick_left c8, by show X.S.ops + 1 ≤ _; omega, c10, fun j hj => ?_⟩, fun x => ?_, h3, fun x => ?_⟩
  · rw [PG.lay_read X hl]
    by_cases hji : j = i
    · rw [if_pos (by omega), hp, hji]
    · rw [if_neg (by omega)]
      exact c11 j (by omega)
  · show (if x = ((2 + i : Nat) : Int) then true else X.F.used x) = _
    rw [h2]
    by_cases hx : x = ((2 + i : Nat) : Int)
    · rw [if_pos hx, decide_eq_true (by omega), decide_eq_true (by omega)]; rfl
    · rw [if_neg hx]
      by_cases h1 : x < 2 + (i : Int)
      · rw [decide_eq_true h1, decide_eq_true (show x < 2 + ((i + 1 : Nat) : Int) by omega)]
      · rw [decide_eq_false h1, decide_eq_false (show ¬ x < 2 + ((i + 1 : Nat) : Int) by omega)]
  · show (if x = ((2 + i : Nat) : Int) then true else X.L x) = _
    rw [h4]
    by_cases hx : x = ((2 + i : Nat) : Int)
    · rw [if_pos hx, decide_eq_true (by omega), decide_eq_true (by omega)]; rfl
    · rw [if_neg hx]
      by_cases h1 : x < 2 + (i : Int)
      · rw [decide_eq_true h1, decide_eq_true (show x < 2 + ((i + 1 : Nat) : Int) by omega)]
      · rw [decide_eq_false h1, decide_eq_false (show ¬ x < 2 + ((i + 1 : Nat) : Int) by omega)]

theorem AbX.follows {X : PG} {i : Nat} {ops : Int} (h : AbX X 2 i true ops) (h1 : 1 ≤ i) (hi : i < 50) : Follows X 2 1 1 := by
  refine ⟨.inr ⟨by decide, ?_⟩, ?_, by rw [h.c.n]; decide, by rw [h.c.d]; decide⟩
  · exact h.st (j := 0) (by omega) hi
  · rw [h.c.g]
    exact MRight.mk' (by omega)

theorem AbX.commit {X : PG} {i : Nat} {ops : Int} (h : AbX X 2 i true ops) : AbX (X.commit 2 1 1) 3 i false (ops + 3) := by
  obtain ⟨⟨c1, c2, c3, c4, c5, c6, c7, c8, c9, c10, c11⟩, h2, h3, h4⟩ := h
  have e : (X.commit 2 1 1).F = X.F := FL.leave_of_none (F := X.F) h3 _
  refine ⟨⟨by rw [e]; exact c1, by rw [e]; exact c2, by show X.g + 1 = 3; omega, rfl, rfl, c6, c7, PG.comS_left c8 _ _ _, ?_, c10, fun j hj => ?_⟩, fun x => by rw [e]; exact h2 x, fun x => by rw [e]; exact h3 x, fun x => rfl⟩
  · show (X.comS 2 1 1).ops ≤ _
    rw [PG.comS_ops]
    omega
  · show (X.comS 2 1 1).read _ = _
    rw [PG.comS_read X 2 1 1 (by omega)]
    exact c11 j hj

/-- One page more was laid, and some were dropped. -/
structure AbD (X : PG) (i : Nat) (ops : Int) : Prop where
  c : AbC X 3 i ops
  L : ∀ x, X.L x = true → x = 2 + (i : Int) ∧ X.F.used x = true
  us : ∀ x, X.F.used x = true → 2 ≤ x ∧ x ≤ 2 + (i : Int) ∧ (x = 2 + (i : Int) → X.L x = true)
  al : ∀ x, 2 ≤ x → x < 2 + (i : Int) → X.F.used x = true ∨ X.F.waits x = some 4
  ws : ∀ x g, X.F.waits x = some g → g = 4 ∧ 2 ≤ x ∧ x < 2 + (i : Int)

theorem AbX.lay2 {X : PG} {i : Nat} {ops : Int} (h : AbX X 3 i false ops) {pg : List UInt8} (hl : pg.length = 512) : AbD (X.lay ((2 + i : Nat) : Int) pg) i (ops + 1) := by
  obtain ⟨⟨c1, c2, c3, c4, c5, c6, c7, c8, c9, c10, c11⟩, h2, h3, h4⟩ := h
  have hu : ∀ x, (X.lay ((2 + i : Nat) : Int) pg).F.used x = if x = ((2 + i : Nat) : Int) then true else X.F.used x := fun x => rfl
  have hL : ∀ x, (X.lay ((2 + i : Nat) : Int) pg).L x = if x = ((2 + i : Nat) : Int) then true else X.L x := fun x => rfl
  refine ⟨⟨c1, c2, c3, c4, c5, c6, c7, SD.tick_left c8, by show X.S.ops + 1 ≤ _; omega, c10, fun j hj => ?_⟩, fun x hx => ?_, fun x hx => ?_, fun x h1 h5 => ?_, fun x g hx => ?_⟩
  · rw [PG.lay_read X hl, if_neg (by omega)]
    exact c11 j hj
  · rw [hL] at hx
    by_cases e : x = ((2 + i : Nat) : Int)
    · exact ⟨by omega, by rw [hu, if_pos e]⟩
    · rw [if_neg e, h4] at hx
      cases hx
  · rw [hu] at hx
    by_cases e : x = ((2 + i : Nat) : Int)
    · exact ⟨by omega, by omega, fun _ => by rw [hL, if_pos e]⟩
    · rw [if_neg e, h2, Bool.and_eq_true, decide_eq_true_iff, decide_eq_true_iff] at hx
      exact ⟨hx.1, by omega, fun h => by omega⟩
  · left
    rw [hu]
    split
    · rfl
    · rw [h2, decide_eq_true h1, decide_eq_true h5]; rfl
  · have h6 : X.F.waits x = some g := hx
    rw [h3] at h6
    cases h6

theorem AbD.drop {X : PG} {i : Nat} {ops : Int} (h : AbD X i ops) (k : Int) : AbD (X.drop k) i ops := by
  obtain ⟨⟨c1, c2, c3, c4, c5, c6, c7, c8, c9, c10, c11⟩, h2, h3, h4, h5⟩ := h
  unfold PG.drop
  by_cases hL : X.L k = true
  · rw [if_pos hL]
    obtain ⟨hk, _⟩ := h2 k hL
    refine ⟨⟨c1, c2, c3, c4, c5, c6, c7, c8, c9, c10, c11⟩, fun x hx => ?_, fun x hx => ?_, fun x a1 a2 => ?_, h5⟩
    · simp only [FL.drop] at hx ⊢
      by_cases e : x = k
      · simp [e] at hx
      · simp only [e, if_false] at hx ⊢; exact h2 x hx
    · simp only [FL.drop] at hx ⊢
      by_cases e : x = k
      · simp [e] at hx
      · simp only [e, if_false] at hx ⊢; exact h3 x hx
    · simp only [FL.drop]
      rw [if_neg (by omega)]
      exact h4 x a1 a2
  · rw [if_neg hL]
    by_cases hs : X.F.st k = 2
    · rw [if_pos hs]
      obtain ⟨_, hu⟩ := FL.st_two.1 hs
      obtain ⟨k1, k2, k3⟩ := h3 k hu
      have hk : k < 2 + (i : Int) := by
        rcases Int.lt_or_eq_of_le k2 with h | h
        · exact h
        · exact absurd (k3 h) hL
      refine ⟨⟨c1, c2, c3, c4, c5, c6, c7, c8, c9, c10, c11⟩, fun x hx => ?_, fun x hx => ?_, fun x a1 a2 => ?_, fun x g hx => ?_⟩
      · obtain ⟨a1, a2⟩ := h2 x hx
        refine ⟨a1, ?_⟩
        simp only [FL.late, FL.drop]
        rw [if_neg (by omega)]
        exact a2
      · simp only [FL.late, FL.drop] at hx
        by_cases e : x = k
        · simp [e] at hx
        · simp only [e, if_false] at hx; exact h3 x hx
      · simp only [FL.late, FL.drop]
        by_cases e : x = k
        · right; rw [if_pos e, c3]; rfl
        · rw [if_neg e, if_neg e]; exact h4 x a1 a2
      · simp only [FL.late, FL.drop] at hx
        by_cases e : x = k
        · rw [if_pos e, c3] at hx
          cases hx
          exact ⟨rfl, by omega, by omega⟩
        · rw [if_neg e] at hx; exact h5 x g hx
    · rw [if_neg hs]
      exact ⟨⟨c1, c2, c3, c4, c5, c6, c7, c8, c9, c10, c11⟩, h2, h3, h4, h5⟩
theorem AbD.laid {X : PG} {i : Nat} {ops : Int} (h : AbD X i ops) (hi : i < 50) (k : Int) (hk : X.L k = true) : X.F.st k = 2 := by
  obtain ⟨h1, h2⟩ := h.L k hk
  exact FL.st_two.2 ⟨FL.has_iff.2 (by rw [h.c.lo, h.c.hi]; omega), h2⟩

theorem AbD.abort {X : PG} {i : Nat} {ops : Int} (h : AbD X i ops) : AbX X.abort 3 i false ops := by
  obtain ⟨⟨c1, c2, c3, c4, c5, c6, c7, c8, c9, c10, c11⟩, h2, h3, h4, h5⟩ := h
  have hg : ((X.g : Nat) : Int) + 1 = 4 := by rw [c3]; rfl
  refine ⟨⟨c1, c2, c3, c4, c5, c6, c7, c8, c9, c10, c11⟩, fun x => ?_, fun x => ?_, fun x => rfl⟩
  · show ((X.F.used x && !X.L x) || (match X.F.waits x with | some g => g == (X.g : Int) + 1 | none => false)) = _
    rw [hg]
    by_cases hx : 2 ≤ x ∧ x < 2 + (i : Int)
    · rw [decide_eq_true hx.1, decide_eq_true hx.2]
      rcases h4 x hx.1 hx.2 with h6 | h6
      · have hL : X.L x = false := by
          cases hL : X.L x
          · rfl
          · have := (h2 x hL).1; omega
        rw [h6, hL]; rfl
      · rw [h6]; simp
    · have e : (decide (2 ≤ x) && decide (x < 2 + (i : Int))) = false := by
        rw [Bool.and_eq_false_iff, decide_eq_false_iff_not, decide_eq_false_iff_not]
        omega
      rw [e]
      have hw : X.F.waits x = none := by
        cases hw : X.F.waits x with
        | none => rfl
        | some g => exact absurd (h5 x g hw).2 hx
      rw [hw]
      cases hu : X.F.used x
      · rfl
      · obtain ⟨a1, a2, a3⟩ := h3 x hu
        rw [a3 (by omega)]
        rfl
  · show (match X.F.waits x with | some g => if (g == (X.g : Int) + 1) then none else some g | none => none) = none
    rw [hg]
    cases hw : X.F.waits x with
    | none => rfl
    | some g =>
      obtain ⟨rfl, _⟩ := h5 x g hw
      rfl

theorem AbX.counts {X : PG} {g i : Nat} {fl : Bool} {ops : Int} (h : AbX X g i fl ops) (hF : X.F.Ok) : X.F.nUsed = i ∧ X.F.nWaits = 0 := by
  refine ⟨?_, FL.no_waits h.ws⟩
  rw [hF.used_len (upFrom_nodup 2 i) fun k => ?_, upFrom_length]
  rw [mem_upFrom, h.us, Bool.and_eq_true, decide_eq_true_iff, decide_eq_true_iff]

theorem AbX.new {S : SD} (hz : S.size = 60) (hl : S.left = -1) (ho : S.ops ≤ 10) : AbX (PG.new S 2 0 1 1) 2 0 true 10 := by
  refine ⟨⟨rfl, hz, rfl, rfl, rfl, rfl, rfl, hl, ho, hz, fun j hj => by omega⟩, fun x => ?_, fun x => rfl, fun x => ?_⟩
  · show false = _
    by_cases h1 : (2 : Int) ≤ x
    · rw [decide_eq_false (show ¬ x < 2 + ((0 : Nat) : Int) by omega)]; simp
    · rw [decide_eq_false h1]; rfl
  · show false = _
    by_cases h1 : (2 : Int) ≤ x
    · rw [decide_eq_false (show ¬ x < 2 + ((0 : Nat) : Int) by omega)]; simp
    · rw [decide_eq_false h1]; rfl

end Go.Proofs.YtngnmakeaniapaaGreatDoor

set_option linter.unusedVariables false
set_option maxRecDepth 100000
namespace Go.Proofs.YtngnmakeaniapaaGreatDoor
open Go.RowKit

/-- The law's own pager. -/
structure AbM (w wr : World) (P p : Nat) (X : PG) : Prop where
  at_ : GrAt wr w.heap.size P p X
  below : Below w.heap.size w wr

theorem AbM.step {w wr w' : World} {P p : Nat} {X Y : PG} (h : AbM w wr P p X) (hs : GrStep wr w' w.heap.size P p Y) : AbM w w' P p Y := ⟨hs.at_, h.below.trans hs.below⟩
theorem AbM.on {w wr w' : World} {P p : Nat} {X : PG} (h : AbM w wr P p X) (hb : Below wr.heap.size wr w') : AbM w w' P p X := ⟨h.at_.below hb, h.below.trans (hb.mono h.below.size)⟩

theorem ab_lay {w wr : World} (hT : Tab w) {P p : Nat} {X : PG} (h : AbM w wr P p X) {g i : Nat} {fl : Bool} {ops : Int} (ha : AbX X g i fl ops) (ho : ops ≤ 1000) (hg : g ≤ 3) (hi : i < 50) {q : Option Addr} {n c : Nat} {l : List UInt8} (hl : GBytes wr w.heap.size q l) (hn : n = l.length) (hnc : n ≤ c) (hc : c ≤ 9223372036854775807) (h493 : n ≤ 493) :
    Calls Tryz.prog 242 #[.pointer (some ⟨P, 0, none⟩), .int .u8 5, .slice q n c] wr fun e w' => e = .returned (.tuple #[.int .i64 (2 + (i : Int)), .int .i64 0]) ∧ AbM w w' P p (X.lay ((2 + i : Nat) : Int) (pageB 5 (2 + i) (X.g + 1) l)) := by
  obtain ⟨lm, fm, pl, um, wm, la, v, hI⟩ := h.at_
  have hh := grLay_ok (k := 2 + i) (hT.below hT.lt h.below) hT.lt hI ha.c.fl (ha.least hi) (by rw [ha.c.left]; decide) (by rw [ha.c.left]; decide) (by rw [ha.c.left]; decide) (by have := ha.c.ops; omega) (by rw [ha.c.hi, ha.c.size]) (by rw [ha.c.g]; omega) 5 hl hn hnc hc h493
  rw [show ((2 + i : Nat) : Int) = 2 + (i : Int) by omega] at hh ⊢
  exact hh.mono fun e w' ⟨he, hs⟩ => ⟨he, h.step hs⟩

theorem GBytes.block {w : World} {B g : Nat} {cs : Array Value} {fr : Nat × Nat} {l : List UInt8} (h : w.heap[g]? = some (.cells cs 5 fr)) (hc : cs = (u8s l).toArray) : GBytes w B (some ⟨g, 0, none⟩) l := fun w' _ h2 => Bs.of_block (h2.stay h (ofGr_u8 _ _ _)) hc

theorem sec_one (w : World) {j : Nat} (hj : j < 256) : Sec (w.alloc (.cells #[.int .u8 (j : Int)] 5)) w.heap.size [UInt8.ofNat j] := by
  have h := heap_alloc_new w (.cells #[.int .u8 (j : Int)] 5)
  unfold Sec
  have e : (u8s [UInt8.ofNat j]).toArray = #[.int .u8 (j : Int)] := by
    simp [u8s, UInt8.toNat_ofNat', Nat.mod_eq_of_lt hj]
  rw [e]
  exact h

theorem AbX.fit {X : PG} {g i : Nat} {fl : Bool} {ops : Int} (h : AbX X g i fl ops) (ho : ops ≤ 1000) : Fit X.S 999999990 :=
  ⟨by rw [h.c.left]; decide, by rw [h.c.left]; decide, by have := h.c.ops; omega⟩

theorem ab_commit {w wr : World} (hT : Tab w) {P p : Nat} {X : PG} (h : AbM w wr P p X) {i : Nat} {ops : Int} (ha : AbX X 2 i true ops) (ho : ops ≤ 1000) (h1 : 1 ≤ i) (hi : i < 50) :
    Calls Tryz.prog 67 #[.pointer (some ⟨P, 0, none⟩), .int .i64 2, .int .i64 1, .int .i64 1] wr fun e w' => e = .returned (.int .i64 0) ∧ AbM w w' P p (X.commit 2 1 1) := by
  obtain ⟨lm, fm, pl, um, wm, la, v, hI⟩ := h.at_
  exact (grCommit_ok (hT.below hT.lt h.below) hT.lt hI ha.c.fl (ha.fit ho) (by rw [ha.c.size]; decide) ha.c.left (ha.follows h1 hi)).mono fun e w' ⟨he, hs⟩ => ⟨he, h.step hs⟩

theorem ab_drop {w wr : World} {P p : Nat} {X : PG} (h : AbM w wr P p X) (hL : ∀ k, X.L k = true → X.F.st k = 2) (k : Int) :
    Calls Tryz.prog 232 #[.pointer (some ⟨P, 0, none⟩), .int .i64 k] wr fun e w' => e = .returned (.int .i64 (X.dropE k)) ∧ AbM w w' P p (X.drop k) := by
  obtain ⟨lm, fm, pl, um, wm, la, v, hI⟩ := h.at_
  exact (grDrop_any hI (hL k)).mono fun e w' ⟨he, hs⟩ => ⟨he, h.step hs⟩

theorem ab_abort {w wr : World} {P p : Nat} {X : PG} (h : AbM w wr P p X) (hf : X.failed = false) (hL : ∀ k, X.L k = true → X.F.st k = 2) :
    Calls Tryz.prog 68 #[.pointer (some ⟨P, 0, none⟩)] wr fun e w' => e = .returned (.int .i64 0) ∧ AbM w w' P p X.abort := by
  obtain ⟨lm, fm, pl, um, wm, la, v, hI⟩ := h.at_
  exact (grAbort hI hf hL).mono fun e w' ⟨he, hs⟩ => ⟨he, h.step hs⟩

theorem ab_counts {w wr : World} {P p : Nat} {X : PG} (h : AbM w wr P p X) {g i : Nat} {fl : Bool} {ops : Int} (ha : AbX X g i fl ops) :
    (Calls Tryz.prog 50 #[.pointer (some ⟨P, 0, none⟩)] wr fun e w' => e = .returned (.int .i64 i) ∧ wr = w') ∧ (Calls Tryz.prog 51 #[.pointer (some ⟨P, 0, none⟩)] wr fun e w' => e = .returned (.int .i64 0) ∧ wr = w') := by
  obtain ⟨lm, fm, pl, um, wm, la, v, hI⟩ := h.at_
  obtain ⟨h1, h2⟩ := ha.counts hI.list.ok
  have r1 := grUsed hI
  have r2 := grWaiting hI
  rw [h1] at r1
  rw [h2] at r2
  exact ⟨r1, r2⟩

theorem ab_read {w wr : World} (hT : Tab w) {P p : Nat} {X : PG} (h : AbM w wr P p X) {g i m : Nat} {fl : Bool} {ops : Int} (ha : AbX X g i fl ops) {j : Nat} (hj : j < i) (hi : i < 50) :
    Calls Tryz.prog 121 #[.pointer (some ⟨P, 0, none⟩), .int .i64 (2 + (j : Int))] wr (PgReadPost wr 5 [UInt8.ofNat j]) := by
  obtain ⟨lm, fm, pl, um, wm, la, v, hI⟩ := h.at_
  have hh := grRead (k := 2 + j) (kind := 5) (gen := 3) (l := [UInt8.ofNat j]) (hT.below hT.lt h.below) hI (by rw [ha.st hj hi]; decide) (by rw [ha.c.size]; omega) (ha.c.rd j hj) (by simp) (by omega)
  rw [show ((2 + j : Nat) : Int) = 2 + (j : Int) by omega] at hh
  exact hh

end Go.Proofs.YtngnmakeaniapaaGreatDoor

