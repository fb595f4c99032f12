/-
  tree.Scan of the empty tree, and of a root that is no node.
  tree.Pages of the empty tree, and of a root that is no node.
-/
import Derived.Test.YtfpdcfomfikkiaaGreatDoorH30
set_option linter.unusedVariables false
set_option linter.unusedSimpArgs false
set_option maxRecDepth 100000
namespace Go.Proofs.YtfpdcfomfikkiaaGreatDoor
open Go.RowKit Go.Shelf

attribute [local go_sem] Oper.semAt_some

section
variable {w : World} {B P pd sm : Nat} {X : PG} {seen : Int → Bool}

set_option maxHeartbeats 6400000 in
theorem scanZ_any (hT : Tab w) (h : GrAt w B P pd X) (hz : X.F.hi = X.S.size) (ht : 0 < B) (root : Int) (hno : root ≠ 0 → ∀ s, ¬ NodeIs X root s) {k : Kb} (hk : k.Ok w) (hk72 : k.l.length ≤ 72) (m : Nat) (hm : 0 < m) (hm2 : m ≤ 9223372036854775807) :
    Calls Tryz.prog 9 #[.pointer (some ⟨P, 0, none⟩), .int .i64 root, .slice k.q k.l.length k.c, .slice none 0 0, .int .i64 (m : Int)] w fun e w' => e = .returned (.tuple #[.slice none 0 0, .int .i64 (if root = 0 then 0 else 18)]) ∧ Below w.heap.size w w' := by
  have hB := h.base
  have HMD : Hid (∀ w', Below w.heap.size w w' → Calls Tryz.prog 22 #[.pointer (some ⟨P, 0, none⟩)] w' fun e w'' => e = .returned (.bool true) ∧ Below w'.heap.size w' w'') := Lib.hid fun w' hb => by
    obtain ⟨lm, fm, pl, um, wm, la, v, hg⟩ := h.below hb
    exact trMade_yes (hT.below hT.lt hb) hg hz
  have HLA : Hid (∀ w', Below w.heap.size w w' → Calls Tryz.prog 23 #[.pointer (some ⟨P, 0, none⟩)] w' (LookPost w' B P pd X)) := Lib.hid fun w' hb => lookAt_any (hT.below hT.lt hb) (h.below hb) hz ht
  have HK := Lib.hid fun w' (hb : Below w.heap.size w w') => hk.below hb
  have HB := Lib.hid hB
  have d72 : decide ((72 : Int) < (k.l.length : Int)) = false := decide_eq_false (by omega)
  have dm : decide ((m : Int) < 0) = false := decide_eq_false (by omega)
  have dm0 : ((m : Int) == 0) = false := by rw [beq_eq_false_iff_ne]; omega
  clear h hT hz hk hB
  refine (callsIn_wide (n := 3)).1 (callsIn_of_wp_marks Tryz.func9 rfl trivial (wpIn_wide.2 ?_))
  simp only [Tryz.ntmps9, List.size_toArray, List.length_cons, List.length_nil, Nat.reduceAdd, Nat.reduceSub, Array.replicate_succ, Array.replicate_zero, List.push_toArray, List.append_toArray, List.nil_append, List.cons_append]
  go_wp2_with fail
  obtain ⟨a0, a1, a2, ha, has⟩ := boxes3 w #[.int .i64 (m : Int)] #[.slice none 0 0] #[.int .i64 0] 3 30 25
  generalize ((w.alloc (.cells #[.int .i64 (m : Int)] 3)).alloc (.cells #[.slice none 0 0] 30)).alloc (.cells #[.int .i64 0] 25) = W0 at a0 a1 a2 ha has ⊢
  have HA := Lib.hid ha
  have HM0 : Hid (∀ w', Below W0.heap.size W0 w' → w'.heap[w.heap.size]? = some (.cells #[.int .i64 (m : Int)] 3 (0, 0)) ∧ w'.heap[w.heap.size + 1]? = some (.cells #[.slice none 0 0] 30 (0, 0)) ∧ w'.heap[w.heap.size + 2]? = some (.cells #[.int .i64 0] 25 (0, 0))) := Lib.hid fun w' hb =>
    ⟨by rw [hb.block _ (by omega)]; exact a0, by rw [hb.block _ (by omega)]; exact a1, by rw [hb.block _ (by omega)]; exact a2⟩
  have HAS := Lib.hid has
  clear a0 a1 a2 ha has
  refine (HMD.out _ HA.out).mono ?_
  rintro e w1 ⟨rfl, hb1⟩
  have HB1 := Lib.hid hb1
  have y1 := (Joins.cell_of_block (HM0.out _ hb1).1 0).trans rfl
  clear hb1 HMD
  go_wp2_with fail
  refine (HLA.out _ (HA.out.trans (HB1.out.mono HA.out.size))).mono ?_
  clear HLA y1
  rintro e w2 ⟨sm, rfl, hsm, hla, hb2⟩
  have HB2 := Lib.hid (HB1.out.trans (hb2.mono HB1.out.size))
  have HSM : Hid (W0.heap.size ≤ sm) := Lib.hid (Nat.le_trans HB1.out.size hsm)
  obtain ⟨c0, c1, hc, hcs⟩ := boxes w2 #[.pointer (some ⟨P, 0, none⟩), .map (some sm)] #[.slice k.q k.l.length k.c, .slice none 0 0, .bool false] 70 77
  have y3 := (Joins.cell_of_block (HM0.out _ (HB2.out.trans (hc.mono HB2.out.size))).1 0).trans rfl
  go_wp2_with fail
  generalize (w2.alloc (.cells #[.pointer (some ⟨P, 0, none⟩), .map (some sm)] 70)).alloc (.cells #[.slice k.q k.l.length k.c, .slice none 0 0, .bool false] 77) = W3 at c0 c1 hc hcs y3 ⊢
  have HB3 := Lib.hid (HB2.out.trans (hc.mono HB2.out.size))
  have HLA3 := Lib.hid (hla.below hc)
  obtain ⟨L, hL⟩ : ∃ L, L = w2.heap.size := ⟨_, rfl⟩
  rw [← hL] at c0 c1 hcs ⊢
  have HC : Hid (∀ w', Below W3.heap.size W3 w' → w'.heap[L]? = some (.cells #[.pointer (some ⟨P, 0, none⟩), .map (some sm)] 70 (0, 0)) ∧ w'.heap[L + 1]? = some (.cells #[.slice k.q k.l.length k.c, .slice none 0 0, .bool false] 77 (0, 0))) := Lib.hid fun w' hb =>
    ⟨by rw [hb.block _ (by omega)]; exact c0, by rw [hb.block _ (by omega)]; exact c1⟩
  have HSN := Lib.hid (spNone (w := W3) (s := ⟨k, Kb.zero, false⟩) ⟨HK.out _ (HA.out.trans (HB3.out.mono HA.out.size)), Kb.zero_ok _⟩)
  have hsn : (⟨k, Kb.zero, false⟩ : Sp).s.none = false := rfl
  rw [hsn] at HSN
  unfold Sp.v at HSN
  clear c0 c1 hc hcs y3 hb2 hla hsm hsn hL
  refine HSN.out.mono ?_
  rintro e w4 ⟨rfl, hb4⟩
  have HB34 := Lib.hid hb4
  have HB4 := Lib.hid (HB3.out.trans (hb4.mono HB3.out.size))
  have hb5 : Below w4.heap.size w4 (w4.alloc (.cells #[.slice none 0 0] 30)) := sbox1 _ _
  have h35 : Below W3.heap.size W3 (w4.alloc (.cells #[.slice none 0 0] 30)) := hb4.trans (hb5.mono hb4.size)
  obtain ⟨e0, e1⟩ := HC.out _ h35
  have y0 := (Joins.cell_of_block e0 0).trans rfl
  have y1 := (Joins.cell_of_block e0 1).trans rfl
  have y2 := (Joins.cell_of_block e1 0).trans rfl
  have y3 := (Joins.cell_of_block e1 1).trans rfl
  have y4 := (Joins.cell_of_block e1 2).trans rfl
  have hp5 := heap_alloc_new w4 (.cells #[.slice none 0 0] 30)
  clear hb4 e0 e1 HSN
  go_wp2_with fail
  generalize w4.alloc (.cells #[.slice none 0 0] 30) = W5 at hb5 h35 hp5 y0 y1 y2 y3 y4 ⊢
  have HB5 := Lib.hid (HB4.out.trans (hb5.mono HB4.out.size))
  have HLA5 := Lib.hid (HLA3.out.below h35)
  obtain ⟨Q, hQ⟩ : ∃ Q, Q = w4.heap.size := ⟨_, rfl⟩
  rw [← hQ] at hp5 ⊢
  have HP : Hid (∀ w', Below W5.heap.size W5 w' → w'.heap[Q]? = some (.cells #[.slice none 0 0] 30 (0, 0))) := Lib.hid fun w' hb => by
    rw [hb.block _ (Array.getElem?_eq_some_iff.1 hp5).1]; exact hp5
  have HQ0 : Hid (w.heap.size + 3 ≤ Q ∧ Q < W5.heap.size) := Lib.hid ⟨by have := HAS.out; have := HB4.out.size; omega, (Array.getElem?_eq_some_iff.1 hp5).1⟩
  clear hb5 h35 hp5 y0 y1 y2 y3 y4 hQ
  refine (nodes_any (P := P) (sm := sm) root _ _ _).mono ?_
  rintro e w6 ⟨rfl, hcap, hb6⟩
  have HCAP := Lib.hid hcap
  have HB56 := Lib.hid hb6
  have HB6 := Lib.hid (HB5.out.trans (hb6.mono HB5.out.size))
  have HLA6 := Lib.hid (HLA5.out.below hb6)
  clear hb6 hcap
  go_wp2_with fail
  refine wp_range rfl (enters_of Tryz.func64 (by kernel_rfl) rfl) ?_
  intro r W7 hri hrec hdef hb7
  have HRI := Lib.hid hri
  clear hri
  have HREC := Lib.hid hrec
  have HDEF := Lib.hid hdef
  have HB67 := Lib.hid hb7
  have HB7 := Lib.hid (HB6.out.trans (hb7.mono HB6.out.size))
  obtain ⟨nv, HC7⟩ : ∃ nv, Hid (NCap W7 P sm (W5.heap.size + 1) W5.heap.size (W5.heap.size + 2) root nv) := ⟨_, Lib.hid (HCAP.out.low hb7)⟩
  have HL7 := Lib.hid (HLA6.out.below hb7)
  have HQ7 := Lib.hid (HP.out _ (HB56.out.trans (hb7.mono HB56.out.size)))
  obtain ⟨_, hn1, hn2⟩ := HM0.out _ HB7.out
  have HN1 := Lib.hid hn1
  have HN2 := Lib.hid hn2
  have HBW : Hid (Below w.heap.size w W7) := Lib.hid (HA.out.trans (HB7.out.mono HA.out.size))
  have HLT : Hid (w.heap.size + 3 ≤ W7.heap.size) := Lib.hid (by have := HAS.out; have := HB7.out.size; omega)
  have HDL : Hid (w.heap.size + 3 ≤ w6.heap.size) := Lib.hid (by have := HAS.out; have := HB6.out.size; omega)
  have HQL : Hid (w.heap.size + 3 ≤ Q ∧ Q < w6.heap.size) := Lib.hid ⟨HQ0.out.1, by have := HQ0.out.2; have := HB56.out.size; omega⟩
  clear hrec hdef hb7 hn1 hn2 HM0 HP
  generalize w6.heap.size = D at *
  by_cases hr0 : root = 0
  · subst hr0
    refine (nodes1Z_any HC7.out (D + 1)).mono ?_
    rintro e w8 ⟨⟨v, rfl⟩, hb8⟩
    have lt : ∀ {i : Nat} {o : Obj}, W7.heap[i]? = some o → w8.heap[i]? = some o := fun {i o} h => by rw [hb8.block i (Array.getElem?_eq_some_iff.1 h).1]; exact h
    have lt2 : ∀ {i : Nat} {o : Obj}, i ≠ D + 1 → W7.heap[i]? = some o → ∀ o', (w8.putObj (D + 1) o').heap[i]? = some o := fun {i o} hi h o' => by rw [World.putObj_heap_other hi]; exact lt h
    have hq := HQL.out
    have hd := HDL.out
    refine ⟨r.pending, _, run_endLoop (lt HREC.out) (by rw [HRI.out.st]; intro h; cases h), ?_⟩
    rw [HRI.out.pe]
    obtain ⟨w9, hw9⟩ : ∃ w9, w9 = w8.putObj (D + 1) (.loop { r with state := .exhausted }) := ⟨_, rfl⟩
    have hr9 : ({ r with state := .exhausted } : Loop) = { state := .exhausted, pending := none, fn := r.fn, tmps := r.tmps, params := r.params, assign := r.assign, body := r.body, defers := r.defers } := by rw [HRI.out.pe]
    rw [← hr9, ← hw9]
    have hb9 : Below w.heap.size w w9 := by rw [hw9]; exact HBW.out.trans ((hb8.mono HBW.out.size).trans (putObj_below (by omega) _))
    have lt9 : ∀ {i : Nat} {o : Obj}, i ≠ D + 1 → W7.heap[i]? = some o → w9.heap[i]? = some o := fun {i o} hi h => by rw [hw9]; exact lt2 hi h _
    have q1 := lt9 (by omega) HN1.out
    have q2 := lt9 (by omega) HN2.out
    have q3 := lt9 (by omega) HQ7.out
    have q4 := lt9 (by omega) HDEF.out
    clear hw9 hr9
    have c1 : w9.cell? ⟨w.heap.size + 1, 0, none⟩ = some (.slice none 0 0) := (Joins.cell_of_block q1 0).trans rfl
    have f1 : w9.frozen? ⟨w.heap.size + 1, 0, none⟩ = false := Joins.unfrozen_of_block q1 0
    have c2 : w9.cell? ⟨w.heap.size + 1 + 1, 0, none⟩ = some (.int .i64 0) := (Joins.cell_of_block q2 0).trans rfl
    have f2 : w9.frozen? ⟨w.heap.size + 1 + 1, 0, none⟩ = false := Joins.unfrozen_of_block q2 0
    have c3 : w9.cell? ⟨Q, 0, none⟩ = some (.slice none 0 0) := (Joins.cell_of_block q3 0).trans rfl
    have HD9 := Lib.hid q4
    have H9 := Lib.hid hb9
    have Q1 := Lib.hid q1
    have Q2 := Lib.hid q2
    clear lt lt2 lt9 q1 q2 q3 q4 hb9 hb8 hq hd
    show Exit.inBlock 0 _ _ _ _
    dsimp only
    go_wp2
    obtain ⟨g0, g1, g2, g3⟩ := out_two (x := .slice none 0 0) (y := .int .i64 0) Q1.out Q2.out HD9.out (B := w.heap.size) (by omega) (by omega) (by omega) (by have := HDL.out; omega)
    exact leaves_mark g0 ⟨_, by simp [results, Tryz.results9, go_sem, g1, g2], rfl, H9.out.trans g3⟩
  · obtain ⟨rd, hrd⟩ : ∃ rd, rd = ({ r with state := .done, pending := some .ret } : Loop) := ⟨_, rfl⟩
    have HRD := Lib.hid hrd
    clear hrd
    have HNO : Hid (∀ s, ¬ NodeAt X (fun _ => false) root 1 Sp.zero.s s) := Lib.hid fun s hs => hno hr0 s hs.2.2.1
    have HW5 : Hid (w.heap.size + 3 ≤ W5.heap.size) := Lib.hid (by have := HAS.out; have := HB5.out.size; omega)
    have HRA : ∀ W seen', LookAt W B P pd sm X seen' → LStep sm W7 W → YieldAt Fence.wide 2 Tryz.prog (D + 1) #[Nd.zero.cell, .int .i64 18] W fun e W' => e = .returned (.bool false) ∧
        (Below w.heap.size w W' ∧ NCap W' P sm (W5.heap.size + 1) W5.heap.size (W5.heap.size + 2) root nv ∧ W'.heap[w.heap.size + 1]? = some (.cells #[.slice none 0 0] 30 (0, 0)) ∧ W'.heap[w.heap.size + 2]? = some (.cells #[.int .i64 18] 25 (0, 0)) ∧
          W'.heap[D + 1]? = some (.loop rd) ∧ W'.heap[D]? = some (.deferred (some []))) := by
      intro W seen' hla hst
      have HS := Lib.hid hst
      have HSC : Hid (∀ {i : Nat} {c : Array Value} {t : TypeId} {f : Nat × Nat}, W7.heap[i]? = some (.cells c t f) → W.heap[i]? = some (.cells c t f)) := Lib.hid fun h => hst.keeps.stay h rfl
      have r1 := hst.keeps.stay HREC.out rfl
      have r2 := hst.keeps.stay HN1.out rfl
      have r3 := hst.keeps.stay HN2.out rfl
      have r4 := hst.keeps.stay HDEF.out rfl
      have R1 := Lib.hid r1
      have R2 := Lib.hid r2
      have R3 := Lib.hid r3
      have R4 := Lib.hid r4
      refine yield_round r1 (by rw [HRI.out.pa]; rfl) ?_
      rw [HRI.out.ass, HRI.out.bo, HRI.out.pa, HRI.out.tm]
      clear r1 r2 r3 r4 hst hla hno
      unfold Nd.cell Nd.zero
      dsimp only [List.length_nil]
      gi_wp2
      have hba : Below W.heap.size W (W.alloc (.cells #[.bool false, .slice none 0 0, .slice none 0 0, .slice none 0 0] 82)) := sbox1 _ _
      have lta : ∀ {i : Nat} {o : Obj}, W.heap[i]? = some o → (W.alloc (.cells #[.bool false, .slice none 0 0, .slice none 0 0, .slice none 0 0] 82)).heap[i]? = some o := fun {i o} h => by rw [hba.block i (Array.getElem?_eq_some_iff.1 h).1]; exact h
      refine ⟨_, run_beginRound (lta R1.out) HRI.out.st, ?_⟩
      obtain ⟨Wb, hWb⟩ : ∃ Wb, Wb = (W.alloc (.cells #[.bool false, .slice none 0 0, .slice none 0 0, .slice none 0 0] 82)).putObj (D + 1) (.loop { r with state := .busy }) := ⟨_, rfl⟩
      rw [← hWb]
      have hdd := HDL.out
      have hll := HLT.out
      have ltb : ∀ {i : Nat} {o : Obj}, i ≠ D + 1 → W.heap[i]? = some o → Wb.heap[i]? = some o := fun {i o} hi h => by rw [hWb, World.putObj_heap_other hi]; exact lta h
      have q1 := ltb (by omega) R2.out
      have q2 := ltb (by omega) R3.out
      have q4 := ltb (by omega) R4.out
      have q5 : Wb.heap[D + 1]? = some (.loop { r with state := .busy }) := by rw [hWb]; exact World.putObj_heap_same (Array.getElem?_eq_some_iff.1 (lta R1.out)).1
      have hbb : Below w.heap.size w Wb := by
        rw [hWb]
        have h1 : w.heap.size ≤ W.heap.size := Nat.le_trans (by omega) HS.out.size
        exact HBW.out.trans ((HS.out.below.mono (by have := HSM.out; have := HAS.out; omega)).trans ((hba.mono h1).trans (putObj_below (by omega) _)))
      have hcb : NCap Wb P sm (W5.heap.size + 1) W5.heap.size (W5.heap.size + 2) root nv := by
        obtain ⟨n1, n2, n3⟩ := HC7.out.ne HREC.out
        obtain ⟨⟨t1, h1⟩, ⟨t2, h2⟩, ⟨t3, h3⟩⟩ := HC7.out
        exact ⟨⟨t1, ltb n1 (HSC.out h1)⟩, ⟨t2, ltb n2 (HSC.out h2)⟩, ⟨t3, ltb n3 (HSC.out h3)⟩⟩
      have c1 : Wb.cell? ⟨w.heap.size + 1, 0, none⟩ = some (.slice none 0 0) := (Joins.cell_of_block q1 0).trans rfl
      have f1 : Wb.frozen? ⟨w.heap.size + 1, 0, none⟩ = false := Joins.unfrozen_of_block q1 0
      have c2 : Wb.cell? ⟨w.heap.size + 1 + 1, 0, none⟩ = some (.int .i64 0) := (Joins.cell_of_block q2 0).trans rfl
      have f2 : Wb.frozen? ⟨w.heap.size + 1 + 1, 0, none⟩ = false := Joins.unfrozen_of_block q2 0
      have G := round_two (x := .slice none 0 0) (y := .int .i64 18) (r' := rd) q1 q2 q5 (B := w.heap.size) (by omega) (by omega) (by omega) (by omega)
      obtain ⟨n1, n2, n3⟩ := HC7.out.ne HREC.out
      have hw5 := HW5.out
      have HG : Hid (∃ W', W' = ((Wb.setCell ⟨w.heap.size + 1, 0, none⟩ (.slice none 0 0)).setCell ⟨w.heap.size + 1 + 1, 0, none⟩ (.int .i64 18)).putObj (D + 1) (.loop rd) ∧
        (Below w.heap.size w W' ∧ NCap W' P sm (W5.heap.size + 1) W5.heap.size (W5.heap.size + 2) root nv ∧ W'.heap[w.heap.size + 1]? = some (.cells #[.slice none 0 0] 30 (0, 0)) ∧ W'.heap[w.heap.size + 2]? = some (.cells #[.int .i64 18] 25 (0, 0)) ∧
          W'.heap[D + 1]? = some (.loop rd) ∧ W'.heap[D]? = some (.deferred (some [])))) := Lib.hid (by
        obtain ⟨g0, g1, g2, g3, g4, g5⟩ := G
        refine ⟨_, rfl, hbb.trans g5, hcb.same fun i o hi ho => (g4 i ?_ ?_ ?_).trans ho, g1, g2, g3, (g4 D (by omega) (by omega) (by omega)).trans q4⟩
        · rcases hi with rfl | rfl | rfl <;> omega
        · rcases hi with rfl | rfl | rfl <;> omega
        · rcases hi with rfl | rfl | rfl <;> assumption)
      have HG0 := Lib.hid G.1
      clear G q1 q2 q4 q5 hbb hcb lta ltb hba hWb hdd hll n1 n2 n3 hw5
      gi_wp2
      obtain ⟨W', hW', hK⟩ := HG.out
      have he := run_endRound (P := Tryz.prog) (some .ret) HG0.out
      have he2 : (Instr.endRound (D + 1) (some .ret)).run Tryz.prog ((Wb.setCell ⟨w.heap.size + 1, 0, none⟩ (.slice none 0 0)).setCell ⟨w.heap.size + 1 + 1, 0, none⟩ (.int .i64 18)) = .ok (.bool false) W' := by rw [he, hW', HRD.out]; rfl
      exact ⟨.bool false, W', he2, rfl, hK⟩
    have hbw7 : B ≤ W7.heap.size := Nat.le_trans HB.out HBW.out.size
    refine (nodes1W_any HL7.out hbw7 hr0 HNO.out HC7.out (fun w' h => h.2.1) HRA).mono ?_
    rintro e w8 ⟨⟨v, rfl⟩, hb8, hn8, k1, k2, k3, k4⟩
    refine ⟨rd.pending, _, run_endLoop k3 (by rw [HRD.out]; intro h; cases h), ?_⟩
    obtain ⟨g0, g1, g2, g3⟩ := out_left (o := .loop { rd with state := .exhausted }) (b := w.heap.size + 1 + 1) k1 k2 k3 k4 (B := w.heap.size) (by have := HDL.out; omega)
    obtain ⟨w9, hw9⟩ : ∃ w9, w9 = w8.putObj (D + 1) (.loop { rd with state := .exhausted }) := ⟨_, rfl⟩
    rw [← hw9] at g0 g1 g2 g3 ⊢
    rw [show rd.pending = some .ret from by rw [HRD.out]]
    have HE : Hid ((if root = 0 then (0 : Int) else 18) = 18) := Lib.hid (if_neg hr0)
    have HG0 := Lib.hid g0
    have HG1 := Lib.hid g1
    have HG2 := Lib.hid g2
    have HG3 := Lib.hid (hb8.trans g3)
    clear hb8 hn8 k1 k2 k3 k4 g0 g1 g2 g3 HRA hno hbw7 hw9
    show Code.wpIn _ _ _ _ _ _ _
    refine wpIn_wide.2 ?_
    go_wp2
    have g1 := HG1.out
    have g2 := HG2.out
    exact leaves_mark HG0.out ⟨.tuple #[.slice none 0 0, .int .i64 18], by simp [results, Tryz.results9, go_sem, g1, g2], rfl, HG3.out⟩
end

end Go.Proofs.YtfpdcfomfikkiaaGreatDoor

set_option linter.unusedVariables false
set_option linter.unusedSimpArgs false
set_option maxRecDepth 100000
namespace Go.Proofs.YtfpdcfomfikkiaaGreatDoor
open Go.RowKit Go.Shelf

attribute [local go_sem] Oper.semAt_some

section
variable {w : World} {B P pd sm : Nat} {X : PG} {seen : Int → Bool}

set_option maxHeartbeats 6400000 in
theorem pagesZ_any (hT : Tab w) (h : GrAt w B P pd X) (hz : X.F.hi = X.S.size) (ht : 0 < B) (root : Int) (hno : root ≠ 0 → ∀ s, ¬ NodeIs X root s) :
    Calls Tryz.prog 10 #[.pointer (some ⟨P, 0, none⟩), .int .i64 root] w fun e w' => e = .returned (.tuple #[.slice none 0 0, .int .i64 (if root = 0 then 0 else 18)]) ∧ Below w.heap.size w w' := by
  have hB := h.base
  have HMD : Hid (∀ w', Below w.heap.size w w' → Calls Tryz.prog 22 #[.pointer (some ⟨P, 0, none⟩)] w' fun e w'' => e = .returned (.bool true) ∧ Below w'.heap.size w' w'') := Lib.hid fun w' hb => by
    obtain ⟨lm, fm, pl, um, wm, la, v, hg⟩ := h.below hb
    exact trMade_yes (hT.below hT.lt hb) hg hz
  have HLA : Hid (∀ w', Below w.heap.size w w' → Calls Tryz.prog 23 #[.pointer (some ⟨P, 0, none⟩)] w' (LookPost w' B P pd X)) := Lib.hid fun w' hb => lookAt_any (hT.below hT.lt hb) (h.below hb) hz ht
  have HB := Lib.hid hB
  clear h hT hz hB
  refine (callsIn_wide (n := 3)).1 (callsIn_of_wp_marks Tryz.func10 rfl trivial (wpIn_wide.2 ?_))
  simp only [Tryz.ntmps10, List.size_toArray, List.length_cons, List.length_nil, Nat.reduceAdd, Nat.reduceSub, Array.replicate_succ, Array.replicate_zero, List.push_toArray, List.append_toArray, List.nil_append, List.cons_append]
  go_wp2_with fail
  obtain ⟨a0, a1, ha, has⟩ := boxes w #[.slice none 0 0] #[.int .i64 0] 33 25
  generalize (w.alloc (.cells #[.slice none 0 0] 33)).alloc (.cells #[.int .i64 0] 25) = W0 at a0 a1 ha has ⊢
  have HA := Lib.hid ha
  have HM0 : Hid (∀ w', Below W0.heap.size W0 w' → w'.heap[w.heap.size]? = some (.cells #[.slice none 0 0] 33 (0, 0)) ∧ w'.heap[w.heap.size + 1]? = some (.cells #[.int .i64 0] 25 (0, 0))) := Lib.hid fun w' hb =>
    ⟨by rw [hb.block _ (by omega)]; exact a0, by rw [hb.block _ (by omega)]; exact a1⟩
  have HAS := Lib.hid has
  clear a0 a1 ha has
  refine (HMD.out _ HA.out).mono ?_
  rintro e w1 ⟨rfl, hb1⟩
  have HB1 := Lib.hid hb1
  clear hb1 HMD
  go_wp2_with fail
  refine (HLA.out _ (HA.out.trans (HB1.out.mono HA.out.size))).mono ?_
  clear HLA
  rintro e w2 ⟨sm, rfl, hsm, hla, hb2⟩
  have HB2 := Lib.hid (HB1.out.trans (hb2.mono HB1.out.size))
  have HSM : Hid (W0.heap.size ≤ sm) := Lib.hid (Nat.le_trans HB1.out.size hsm)
  obtain ⟨c0, c1, hc, hcs⟩ := boxes w2 #[.pointer (some ⟨P, 0, none⟩), .map (some sm)] #[.int .i64 0] 70 3
  have y0 := (Joins.cell_of_block c0 0).trans rfl
  have y1 := (Joins.cell_of_block c0 1).trans rfl
  go_wp2_with fail
  generalize (w2.alloc (.cells #[.pointer (some ⟨P, 0, none⟩), .map (some sm)] 70)).alloc (.cells #[.int .i64 0] 3) = W5 at c0 c1 hc hcs y0 y1 ⊢
  have HB5 := Lib.hid (HB2.out.trans (hc.mono HB2.out.size))
  have HLA5 := Lib.hid (hla.below hc)
  obtain ⟨L, hL⟩ : ∃ L, L = w2.heap.size := ⟨_, rfl⟩
  rw [← hL] at c0 c1 hcs ⊢
  have HC : Hid (∀ w', Below W5.heap.size W5 w' → w'.heap[L]? = some (.cells #[.pointer (some ⟨P, 0, none⟩), .map (some sm)] 70 (0, 0))) := Lib.hid fun w' hb => by
    rw [hb.block _ (by omega)]; exact c0
  have HLL : Hid (w.heap.size + 2 ≤ L ∧ L < W5.heap.size) := Lib.hid ⟨by have := HAS.out; have := HB2.out.size; omega, by omega⟩
  clear c0 c1 hc hcs y0 y1 hb2 hla hsm hL
  refine (nodes_any (P := P) (sm := sm) root _ _ _).mono ?_
  rintro e w6 ⟨rfl, hcap, hb6⟩
  have HCAP := Lib.hid hcap
  have HB56 := Lib.hid hb6
  have HB6 := Lib.hid (HB5.out.trans (hb6.mono HB5.out.size))
  have HLA6 := Lib.hid (HLA5.out.below hb6)
  clear hb6 hcap
  go_wp2_with fail
  refine wp_range rfl (enters_of Tryz.func64 (by kernel_rfl) rfl) ?_
  intro r W7 hri hrec hdef hb7
  have HRI := Lib.hid hri
  clear hri
  have HREC := Lib.hid hrec
  have HDEF := Lib.hid hdef
  have HB67 := Lib.hid hb7
  have HB7 := Lib.hid (HB6.out.trans (hb7.mono HB6.out.size))
  obtain ⟨nv, HC7⟩ : ∃ nv, Hid (NCap W7 P sm (W5.heap.size + 1) W5.heap.size (W5.heap.size + 2) root nv) := ⟨_, Lib.hid (HCAP.out.low hb7)⟩
  have HL7 := Lib.hid (HLA6.out.below hb7)
  have HQ7 := Lib.hid (HC.out _ (HB56.out.trans (hb7.mono HB56.out.size)))
  obtain ⟨hn1, hn2⟩ := HM0.out _ HB7.out
  have HN1 := Lib.hid hn1
  have HN2 := Lib.hid hn2
  have HBW : Hid (Below w.heap.size w W7) := Lib.hid (HA.out.trans (HB7.out.mono HA.out.size))
  have HLT : Hid (w.heap.size + 2 ≤ W7.heap.size) := Lib.hid (by have := HAS.out; have := HB7.out.size; omega)
  have HDL : Hid (w.heap.size + 2 ≤ w6.heap.size) := Lib.hid (by have := HAS.out; have := HB6.out.size; omega)
  have HQL : Hid (w.heap.size + 2 ≤ L ∧ L < w6.heap.size) := Lib.hid ⟨HLL.out.1, by have := HLL.out.2; have := HB56.out.size; omega⟩
  clear hrec hdef hb7 hn1 hn2 HM0 HC
  generalize w6.heap.size = D at *
  by_cases hr0 : root = 0
  · subst hr0
    refine (nodes1Z_any HC7.out (D + 1)).mono ?_
    rintro e w8 ⟨⟨v, rfl⟩, hb8⟩
    have lt : ∀ {i : Nat} {o : Obj}, W7.heap[i]? = some o → w8.heap[i]? = some o := fun {i o} h => by rw [hb8.block i (Array.getElem?_eq_some_iff.1 h).1]; exact h
    have lt2 : ∀ {i : Nat} {o : Obj}, i ≠ D + 1 → W7.heap[i]? = some o → ∀ o', (w8.putObj (D + 1) o').heap[i]? = some o := fun {i o} hi h o' => by rw [World.putObj_heap_other hi]; exact lt h
    have hq := HQL.out
    have hd := HDL.out
    refine ⟨r.pending, _, run_endLoop (lt HREC.out) (by rw [HRI.out.st]; intro h; cases h), ?_⟩
    obtain ⟨w9, hw9⟩ : ∃ w9, w9 = w8.putObj (D + 1) (.loop { r with state := .exhausted }) := ⟨_, rfl⟩
    rw [← hw9, HRI.out.pe]
    have hb9 : Below w.heap.size w w9 := by rw [hw9]; exact HBW.out.trans ((hb8.mono HBW.out.size).trans (putObj_below (by omega) _))
    have lt9 : ∀ {i : Nat} {o : Obj}, i ≠ D + 1 → W7.heap[i]? = some o → w9.heap[i]? = some o := fun {i o} hi h => by rw [hw9]; exact lt2 hi h _
    have q1 := lt9 (by omega) HN1.out
    have q2 := lt9 (by omega) HN2.out
    have q3 := lt9 (by omega) HQ7.out
    have q4 := lt9 (by omega) HDEF.out
    have hm9 : MapSt w9 sm (setOf fun _ => false) := by
      obtain ⟨es, c, hx, _⟩ := HL7.out.m.st
      have hne : sm ≠ D + 1 := fun e => by rw [e, HREC.out] at hx; cases hx
      exact HL7.out.m.block (by rw [lt9 hne hx, hx])
    have c4 : w9.cell? ⟨L, 1, none⟩ = some (.map (some sm)) := (Joins.cell_of_block q3 1).trans rfl
    have HD9 := Lib.hid q4
    have H9 := Lib.hid hb9
    have Q1 := Lib.hid q1
    have Q2 := Lib.hid q2
    have HM9 := Lib.hid hm9
    clear lt lt2 lt9 q1 q2 q3 q4 hb9 hb8 hq hd hm9 hw9
    show Exit.inBlock 0 _ _ _ _
    dsimp only
    go_wp2_with fail
    refine (keys_any _).mono ?_
    rintro e w10 ⟨rfl, hw10⟩
    have hb10 : Below w9.heap.size w9 w10 := by rw [hw10]; exact sbox1 _ _
    have HSO := Lib.hid (sortedZ_any (w := w10) (bm := w9.heap.size) (sm := sm) (by rw [hw10]; exact heap_alloc_new _ _) (HM9.out.block (hb10.block _ HM9.out.lt)))
    have HB10 := Lib.hid hb10
    clear hw10 hb10
    go_wp2_with fail
    refine HSO.out.mono ?_
    rintro e w11 ⟨rfl, hb11⟩
    have hb9 : Below w9.heap.size w9 w11 := HB10.out.trans (hb11.mono HB10.out.size)
    have up : ∀ {i : Nat} {o : Obj}, w9.heap[i]? = some o → w11.heap[i]? = some o := fun {i o} h => by rw [hb9.block i (Array.getElem?_eq_some_iff.1 h).1]; exact h
    have q1 := up Q1.out
    have q2 := up Q2.out
    have q4 := up HD9.out
    have c1 : w11.cell? ⟨w.heap.size, 0, none⟩ = some (.slice none 0 0) := (Joins.cell_of_block q1 0).trans rfl
    have f1 : w11.frozen? ⟨w.heap.size, 0, none⟩ = false := Joins.unfrozen_of_block q1 0
    have c2 : w11.cell? ⟨w.heap.size + 1, 0, none⟩ = some (.int .i64 0) := (Joins.cell_of_block q2 0).trans rfl
    have f2 : w11.frozen? ⟨w.heap.size + 1, 0, none⟩ = false := Joins.unfrozen_of_block q2 0
    have Q1 := Lib.hid q1
    have Q2 := Lib.hid q2
    have HD9 := Lib.hid q4
    have H11 := Lib.hid (H9.out.trans (hb9.mono H9.out.size))
    clear up q1 q2 q4 hb9 hb11
    go_wp2
    obtain ⟨g0, g1, g2, g3⟩ := out_two (x := .slice none 0 0) (y := .int .i64 0) Q1.out Q2.out HD9.out (B := w.heap.size) (by omega) (by omega) (by omega) (by have := HDL.out; omega)
    exact leaves_mark g0 ⟨_, by simp [results, Tryz.results10, go_sem, g1, g2], rfl, H11.out.trans g3⟩
  · obtain ⟨rd, hrd⟩ : ∃ rd, rd = ({ r with state := .done, pending := some .ret } : Loop) := ⟨_, rfl⟩
    have HRD := Lib.hid hrd
    clear hrd
    have HNO : Hid (∀ s, ¬ NodeAt X (fun _ => false) root 1 Sp.zero.s s) := Lib.hid fun s hs => hno hr0 s hs.2.2.1
    have HW5 : Hid (w.heap.size + 2 ≤ W5.heap.size) := Lib.hid (by have := HAS.out; have := HB5.out.size; omega)
    have HRA : ∀ W seen', LookAt W B P pd sm X seen' → LStep sm W7 W → YieldAt Fence.wide 2 Tryz.prog (D + 1) #[Nd.zero.cell, .int .i64 18] W fun e W' => e = .returned (.bool false) ∧
        (Below w.heap.size w W' ∧ NCap W' P sm (W5.heap.size + 1) W5.heap.size (W5.heap.size + 2) root nv ∧ W'.heap[w.heap.size]? = some (.cells #[.slice none 0 0] 33 (0, 0)) ∧ W'.heap[w.heap.size + 1]? = some (.cells #[.int .i64 18] 25 (0, 0)) ∧
          W'.heap[D + 1]? = some (.loop rd) ∧ W'.heap[D]? = some (.deferred (some []))) := by
      intro W seen' hla hst
      have HS := Lib.hid hst
      have HSC : Hid (∀ {i : Nat} {c : Array Value} {t : TypeId} {f : Nat × Nat}, W7.heap[i]? = some (.cells c t f) → W.heap[i]? = some (.cells c t f)) := Lib.hid fun h => hst.keeps.stay h rfl
      have r1 := hst.keeps.stay HREC.out rfl
      have r2 := hst.keeps.stay HN1.out rfl
      have r3 := hst.keeps.stay HN2.out rfl
      have r4 := hst.keeps.stay HDEF.out rfl
      have R1 := Lib.hid r1
      have R2 := Lib.hid r2
      have R3 := Lib.hid r3
      have R4 := Lib.hid r4
      refine yield_round r1 (by rw [HRI.out.pa]; rfl) ?_
      rw [HRI.out.ass, HRI.out.bo, HRI.out.pa, HRI.out.tm]
      clear r1 r2 r3 r4 hst hla hno
      unfold Nd.cell Nd.zero
      dsimp only [List.length_nil]
      gi_wp2
      have hba : Below W.heap.size W (W.alloc (.cells #[.bool false, .slice none 0 0, .slice none 0 0, .slice none 0 0] 82)) := sbox1 _ _
      have lta : ∀ {i : Nat} {o : Obj}, W.heap[i]? = some o → (W.alloc (.cells #[.bool false, .slice none 0 0, .slice none 0 0, .slice none 0 0] 82)).heap[i]? = some o := fun {i o} h => by rw [hba.block i (Array.getElem?_eq_some_iff.1 h).1]; exact h
      refine ⟨_, run_beginRound (lta R1.out) HRI.out.st, ?_⟩
      obtain ⟨Wb, hWb⟩ : ∃ Wb, Wb = (W.alloc (.cells #[.bool false, .slice none 0 0, .slice none 0 0, .slice none 0 0] 82)).putObj (D + 1) (.loop { r with state := .busy }) := ⟨_, rfl⟩
      rw [← hWb]
      have hdd := HDL.out
      have hll := HLT.out
      have ltb : ∀ {i : Nat} {o : Obj}, i ≠ D + 1 → W.heap[i]? = some o → Wb.heap[i]? = some o := fun {i o} hi h => by rw [hWb, World.putObj_heap_other hi]; exact lta h
      have q1 := ltb (by omega) R2.out
      have q2 := ltb (by omega) R3.out
      have q4 := ltb (by omega) R4.out
      have q5 : Wb.heap[D + 1]? = some (.loop { r with state := .busy }) := by rw [hWb]; exact World.putObj_heap_same (Array.getElem?_eq_some_iff.1 (lta R1.out)).1
      have hbb : Below w.heap.size w Wb := by
        rw [hWb]
        have h1 : w.heap.size ≤ W.heap.size := Nat.le_trans (by omega) HS.out.size
        exact HBW.out.trans ((HS.out.below.mono (by have := HSM.out; have := HAS.out; omega)).trans ((hba.mono h1).trans (putObj_below (by omega) _)))
      have hcb : NCap Wb P sm (W5.heap.size + 1) W5.heap.size (W5.heap.size + 2) root nv := by
        obtain ⟨n1, n2, n3⟩ := HC7.out.ne HREC.out
        obtain ⟨⟨t1, h1⟩, ⟨t2, h2⟩, ⟨t3, h3⟩⟩ := HC7.out
        exact ⟨⟨t1, ltb n1 (HSC.out h1)⟩, ⟨t2, ltb n2 (HSC.out h2)⟩, ⟨t3, ltb n3 (HSC.out h3)⟩⟩
      have c1 : Wb.cell? ⟨w.heap.size, 0, none⟩ = some (.slice none 0 0) := (Joins.cell_of_block q1 0).trans rfl
      have f1 : Wb.frozen? ⟨w.heap.size, 0, none⟩ = false := Joins.unfrozen_of_block q1 0
      have c2 : Wb.cell? ⟨w.heap.size + 1, 0, none⟩ = some (.int .i64 0) := (Joins.cell_of_block q2 0).trans rfl
      have f2 : Wb.frozen? ⟨w.heap.size + 1, 0, none⟩ = false := Joins.unfrozen_of_block q2 0
      have G := round_two (x := .slice none 0 0) (y := .int .i64 18) (r' := rd) q1 q2 q5 (B := w.heap.size) (by omega) (by omega) (by omega) (by omega)
      obtain ⟨n1, n2, n3⟩ := HC7.out.ne HREC.out
      have hw5 := HW5.out
      have HG : Hid (∃ W', W' = ((Wb.setCell ⟨w.heap.size, 0, none⟩ (.slice none 0 0)).setCell ⟨w.heap.size + 1, 0, none⟩ (.int .i64 18)).putObj (D + 1) (.loop rd) ∧
        (Below w.heap.size w W' ∧ NCap W' P sm (W5.heap.size + 1) W5.heap.size (W5.heap.size + 2) root nv ∧ W'.heap[w.heap.size]? = some (.cells #[.slice none 0 0] 33 (0, 0)) ∧ W'.heap[w.heap.size + 1]? = some (.cells #[.int .i64 18] 25 (0, 0)) ∧
          W'.heap[D + 1]? = some (.loop rd) ∧ W'.heap[D]? = some (.deferred (some [])))) := Lib.hid (by
        obtain ⟨g0, g1, g2, g3, g4, g5⟩ := G
        refine ⟨_, rfl, hbb.trans g5, hcb.same fun i o hi ho => (g4 i ?_ ?_ ?_).trans ho, g1, g2, g3, (g4 D (by omega) (by omega) (by omega)).trans q4⟩
        · rcases hi with rfl | rfl | rfl <;> omega
        · rcases hi with rfl | rfl | rfl <;> omega
        · rcases hi with rfl | rfl | rfl <;> assumption)
      have HG0 := Lib.hid G.1
      clear G q1 q2 q4 q5 hbb hcb lta ltb hba hWb hdd hll n1 n2 n3 hw5
      gi_wp2
      obtain ⟨W', hW', hK⟩ := HG.out
      have he := run_endRound (P := Tryz.prog) (some .ret) HG0.out
      have he2 : (Instr.endRound (D + 1) (some .ret)).run Tryz.prog ((Wb.setCell ⟨w.heap.size, 0, none⟩ (.slice none 0 0)).setCell ⟨w.heap.size + 1, 0, none⟩ (.int .i64 18)) = .ok (.bool false) W' := by rw [he, hW', HRD.out]; rfl
      exact ⟨.bool false, W', he2, rfl, hK⟩
    have hbw7 : B ≤ W7.heap.size := Nat.le_trans HB.out HBW.out.size
    refine (nodes1W_any HL7.out hbw7 hr0 HNO.out HC7.out (fun w' h => h.2.1) HRA).mono ?_
    rintro e w8 ⟨⟨v, rfl⟩, hb8, hn8, k1, k2, k3, k4⟩
    refine ⟨rd.pending, _, run_endLoop k3 (by rw [HRD.out]; intro h; cases h), ?_⟩
    obtain ⟨g0, g1, g2, g3⟩ := out_left (o := .loop { rd with state := .exhausted }) (b := w.heap.size + 1) k1 k2 k3 k4 (B := w.heap.size) (by have := HDL.out; omega)
    obtain ⟨w9, hw9⟩ : ∃ w9, w9 = w8.putObj (D + 1) (.loop { rd with state := .exhausted }) := ⟨_, rfl⟩
    rw [← hw9] at g0 g1 g2 g3 ⊢
    rw [show rd.pending = some .ret from by rw [HRD.out]]
    have HE : Hid ((if root = 0 then (0 : Int) else 18) = 18) := Lib.hid (if_neg hr0)
    have HG0 := Lib.hid g0
    have HG1 := Lib.hid g1
    have HG2 := Lib.hid g2
    have HG3 := Lib.hid (hb8.trans g3)
    clear hb8 hn8 k1 k2 k3 k4 g0 g1 g2 g3 HRA hno hbw7 hw9
    show Code.wpIn _ _ _ _ _ _ _
    refine wpIn_wide.2 ?_
    go_wp2
    have g1 := HG1.out
    have g2 := HG2.out
    exact leaves_mark HG0.out ⟨.tuple #[.slice none 0 0, .int .i64 18], by simp [results, Tryz.results10, go_sem, g1, g2], rfl, HG3.out⟩
end

end Go.Proofs.YtfpdcfomfikkiaaGreatDoor

