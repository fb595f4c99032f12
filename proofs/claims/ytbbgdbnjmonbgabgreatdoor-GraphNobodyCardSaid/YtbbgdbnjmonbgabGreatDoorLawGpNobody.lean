/-
  GraphNobody: graphs that no call made, and of no store, have no nodes.
-/
import Derived.Test.YtbbgdbnjmonbgabGreatDoorGpNoC
import Derived.LoopTactic
set_option linter.unusedVariables false
set_option maxRecDepth 100000
namespace Go.Proofs.YtbbgdbnjmonbgabGreatDoor
open Go.RowKit

theorem six_heap (w : World) (a b c d e f : Obj) : ∃ W, W = (((((w.alloc a).alloc b).alloc c).alloc d).alloc e).alloc f ∧ Below w.heap.size w W ∧ W.heap[w.heap.size]? = some a ∧ W.heap[w.heap.size + 1]? = some b ∧ W.heap[w.heap.size + 1 + 1]? = some c ∧ W.heap[w.heap.size + 1 + 1 + 1]? = some d ∧ W.heap[w.heap.size + 1 + 1 + 1 + 1]? = some e ∧ W.heap[w.heap.size + 1 + 1 + 1 + 1 + 1]? = some f := by
  have n (w : World) (a : Obj) : (w.alloc a).heap.size = w.heap.size + 1 := by simp
  have old {w : World} {a o : Obj} {i : Nat} (h : w.heap[i]? = some o) : (w.alloc a).heap[i]? = some o := ((Below.alloc (Below.refl w.heap.size w) (Nat.le_refl _) a).block i (Array.getElem?_eq_some_iff.1 h).1).trans h
  have new (w : World) (a : Obj) : (w.alloc a).heap[w.heap.size]? = some a := heap_alloc_new w a
  have e1 := n w a
  have e2 := n (w.alloc a) b
  have e3 := n ((w.alloc a).alloc b) c
  have e4 := n (((w.alloc a).alloc b).alloc c) d
  have e5 := n ((((w.alloc a).alloc b).alloc c).alloc d) e
  refine ⟨_, rfl, ?_, old (old (old (old (old (new w a))))), ?_, ?_, ?_, ?_, ?_⟩
  · exact (((((Below.alloc (Below.refl _ _) (Nat.le_refl _) _).alloc (by omega) _).alloc (by omega) _).alloc (by omega) _).alloc (by omega) _).alloc (by omega) _
  · have := old (a := f) (old (a := e) (old (a := d) (old (a := c) (new (w.alloc a) b)))); rwa [e1] at this
  · have := old (a := f) (old (a := e) (old (a := d) (new ((w.alloc a).alloc b) c))); rwa [e2, e1] at this
  · have := old (a := f) (old (a := e) (new (((w.alloc a).alloc b).alloc c) d)); rwa [e3, e2, e1] at this
  · have := old (a := f) (new ((((w.alloc a).alloc b).alloc c).alloc d) e); rwa [e4, e3, e2, e1] at this
  · have := new (((((w.alloc a).alloc b).alloc c).alloc d).alloc e) f; rwa [e5, e4, e3, e2, e1] at this

set_option maxHeartbeats 6400000 in
theorem law_gpnobody {w : World} (a0 a1 a2 a3 a4 a5 a6 a7 a8 a9 a10 a11 : Value) (m : Int) (h1 : -9223372036854775808 ≤ m) (h2 : m ≤ 9223372036854775807) :
    Calls Tryz.prog 3 #[.agg #[a0, a1, a2, a3, a4, a5, a6, a7, a8, a9, a10, a11], .int .i64 m] w fun e w' => e = .returned (.bool true) ∧ Below w.heap.size w w' := by
  have H1 := Lib.hid h1
  have H2 := Lib.hid h2
  clear h1 h2
  obtain ⟨W, hW, hbW, q0, q1, q2, q3, q4, q5⟩ := six_heap w (.cells #[a0, a1, a2, a3, a4, a5, a6, a7, a8, a9, a10, a11] 31) (.cells #[.pointer none] 35) (.cells #[.pointer none] 35) (.cells #[.pointer none, .pointer none, .map none, .bool false] 41) (.cells #[.pointer (some ⟨w.heap.size + 1 + 1 + 1, 0, none⟩)] 35) (.cells #[.pointer none, .pointer (some ⟨w.heap.size + 1, 0, none⟩), .pointer (some ⟨w.heap.size + 1 + 1, 0, none⟩), .pointer (some ⟨w.heap.size + 1 + 1 + 1 + 1, 0, none⟩)] 32)
  have HOP : Hid (∀ w', Below W.heap.size W w' → w'.cell? ⟨w.heap.size, 0, none⟩ = some a0 ∧ w'.cell? ⟨w.heap.size, 1, none⟩ = some a1 ∧ w'.cell? ⟨w.heap.size, 2, none⟩ = some a2 ∧ w'.cell? ⟨w.heap.size, 3, none⟩ = some a3 ∧ w'.cell? ⟨w.heap.size, 4, none⟩ = some a4 ∧ w'.cell? ⟨w.heap.size, 5, none⟩ = some a5 ∧ w'.cell? ⟨w.heap.size, 6, none⟩ = some a6 ∧ w'.cell? ⟨w.heap.size, 7, none⟩ = some a7 ∧ w'.cell? ⟨w.heap.size, 8, none⟩ = some a8 ∧ w'.cell? ⟨w.heap.size, 9, none⟩ = some a9 ∧ w'.cell? ⟨w.heap.size, 10, none⟩ = some a10 ∧ w'.cell? ⟨w.heap.size, 11, none⟩ = some a11) := Lib.hid fun w' hb => by
    have h' := (hb.block w.heap.size (Array.getElem?_eq_some_iff.1 q0).1).trans q0
    exact ⟨(Joins.cell_of_block h' 0).trans rfl, (Joins.cell_of_block h' 1).trans rfl, (Joins.cell_of_block h' 2).trans rfl, (Joins.cell_of_block h' 3).trans rfl, (Joins.cell_of_block h' 4).trans rfl, (Joins.cell_of_block h' 5).trans rfl, (Joins.cell_of_block h' 6).trans rfl, (Joins.cell_of_block h' 7).trans rfl, (Joins.cell_of_block h' 8).trans rfl, (Joins.cell_of_block h' 9).trans rfl, (Joins.cell_of_block h' 10).trans rfl, (Joins.cell_of_block h' 11).trans rfl⟩
  have HG : Hid (∀ w', Below W.heap.size W w' → ∀ j : Nat, j < 4 → ∃ d, w'.cell? ⟨w.heap.size + 1 + 1 + 1 + 1 + 1, j, none⟩ = some (.pointer d) ∧ GpNone w' d) := Lib.hid fun w' hb j hj => by
    have k1 := (hb.block _ (Array.getElem?_eq_some_iff.1 q1).1).trans q1
    have k2 := (hb.block _ (Array.getElem?_eq_some_iff.1 q2).1).trans q2
    have k3 := (hb.block _ (Array.getElem?_eq_some_iff.1 q3).1).trans q3
    have k4 := (hb.block _ (Array.getElem?_eq_some_iff.1 q4).1).trans q4
    have k5 := (hb.block _ (Array.getElem?_eq_some_iff.1 q5).1).trans q5
    rcases (by omega : j = 0 ∨ j = 1 ∨ j = 2 ∨ j = 3) with rfl | rfl | rfl | rfl
    · exact ⟨_, (Joins.cell_of_block k5 0).trans rfl, .inl rfl⟩
    · exact ⟨_, (Joins.cell_of_block k5 1).trans rfl, .inr ⟨_, none, rfl, (Joins.cell_of_block k1 0).trans rfl, .inl rfl⟩⟩
    · exact ⟨_, (Joins.cell_of_block k5 2).trans rfl, .inr ⟨_, none, rfl, (Joins.cell_of_block k2 0).trans rfl, .inl rfl⟩⟩
    · exact ⟨_, (Joins.cell_of_block k5 3).trans rfl, .inr ⟨_, _, rfl, (Joins.cell_of_block k4 0).trans rfl, .inr ⟨_, rfl, (Joins.cell_of_block k3 0).trans rfl⟩⟩⟩
  have HBW := Lib.hid hbW
  clear q0 q1 q2 q3 q4 q5 hbW
  go_enter Tryz.func3, Tryz.ntmps3
  go_wp2_with fail
  refine (gpNew _ none).mono ?_; rintro e w1 ⟨rfl, rfl⟩
  go_wp2_with fail
  refine (gpNew _ _).mono ?_; rintro e w1 ⟨rfl, rfl⟩
  go_wp2_with fail
  rw [← hW]
  clear hW
  go_loopw [36] (fun i wr => ∃ j : Nat, i = .int .i64 j ∧ j ≤ 4 ∧ Below W.heap.size W wr) (fun i _ => 4 - (intOf i).toNat)
  case atStart => exact ⟨0, rfl, by omega, Below.refl _ _⟩
  case round =>
    obtain ⟨j, rfl, hj, hb⟩ := hrel
    have HB0 := Lib.hid hb
    clear hb
    by_cases h4 : j = 4
    · subst h4
      rw [show ((4 : Nat) : Int) = 4 from rfl]
      go_wp2
      go_ret
      exact ⟨rfl, HBW.out.trans (HB0.out.mono HBW.out.size)⟩
    · have hlt2 : j < 4 := by omega
      obtain ⟨d, hd, hn⟩ := HG.out _ HB0.out j hlt2
      have HN := Lib.hid fun w' hb => hn.below (w' := w') hb
      have hlt : (j : Int) < 4 := by omega
      obtain ⟨c0, c1, c2, c3, c4, c5, c6, c7, c8, c9, c10, c11⟩ := HOP.out _ HB0.out
      clear hn
      go_wp2_with fail
      refine (gpDo_no (HN.out _ (Below.refl _ _)) a0 a1 a2 a3 a4 a5 a6 a7 a8 a9 a10 a11).mono ?_; rintro e w1 ⟨rfl, hb1⟩
      have HC1 := Lib.hid hb1
      clear hb1 c0 c1 c2 c3 c4 c5 c6 c7 c8 c9 c10 c11
      go_wp2_with fail
      refine (gpNode_no (HN.out _ (by first | exact HC1.out | exact HC1.out.alloc HC1.out.size _)) 0 m H1.out H2.out).mono ?_; rintro e w2 ⟨rfl, hb2⟩
      have HC2 : Hid (Below wr.heap.size wr w2) := Lib.hid (by first | exact HC1.out.trans (hb2.mono HC1.out.size) | exact (HC1.out.alloc HC1.out.size _).trans (hb2.mono (HC1.out.alloc HC1.out.size _).size))
      clear hb2
      go_wp2_with fail
      refine (gpEdge_no (HN.out _ (by first | exact HC2.out | exact HC2.out.alloc HC2.out.size _)) 0 m H1.out H2.out).mono ?_; rintro e w3 ⟨rfl, hb3⟩
      have HC3 : Hid (Below wr.heap.size wr w3) := Lib.hid (by first | exact HC2.out.trans (hb3.mono HC2.out.size) | exact (HC2.out.alloc HC2.out.size _).trans (hb3.mono (HC2.out.alloc HC2.out.size _).size))
      clear hb3
      go_wp2_with fail
      refine (gpOut_no (HN.out _ (by first | exact HC3.out | exact HC3.out.alloc HC3.out.size _)) 0 m H1.out H2.out).mono ?_; rintro e w4 ⟨rfl, hb4⟩
      have HC4 : Hid (Below wr.heap.size wr w4) := Lib.hid (by first | exact HC3.out.trans (hb4.mono HC3.out.size) | exact (HC3.out.alloc HC3.out.size _).trans (hb4.mono (HC3.out.alloc HC3.out.size _).size))
      clear hb4
      go_wp2_with fail
      refine (gpIn_no (HN.out _ (by first | exact HC4.out | exact HC4.out.alloc HC4.out.size _)) 0 m H1.out H2.out).mono ?_; rintro e w5 ⟨rfl, hb5⟩
      have HC5 : Hid (Below wr.heap.size wr w5) := Lib.hid (by first | exact HC4.out.trans (hb5.mono HC4.out.size) | exact (HC4.out.alloc HC4.out.size _).trans (hb5.mono (HC4.out.alloc HC4.out.size _).size))
      clear hb5
      go_wp2_with fail
      refine (gpByLabel_no (HN.out _ (by first | exact HC5.out | exact HC5.out.alloc HC5.out.size _)) 0).mono ?_; rintro e w6 ⟨rfl, hb6⟩
      have HC6 : Hid (Below wr.heap.size wr w6) := Lib.hid (by first | exact HC5.out.trans (hb6.mono HC5.out.size) | exact (HC5.out.alloc HC5.out.size _).trans (hb6.mono (HC5.out.alloc HC5.out.size _).size))
      clear hb6
      obtain ⟨c0, c1, c2, c3, c4, c5, c6, c7, c8, c9, c10, c11⟩ := HOP.out _ (HB0.out.trans (HC6.out.mono HB0.out.size))
      go_wp2_with fail
      refine (gpByProp_no (HN.out _ (by first | exact HC6.out | exact HC6.out.alloc HC6.out.size _)) 0 a6 a7 a8 a9 a10).mono ?_; rintro e w7 ⟨rfl, hb7⟩
      have HC7 : Hid (Below wr.heap.size wr w7) := Lib.hid (by first | exact HC6.out.trans (hb7.mono HC6.out.size) | exact (HC6.out.alloc HC6.out.size _).trans (hb7.mono (HC6.out.alloc HC6.out.size _).size))
      clear hb7 c0 c1 c2 c3 c4 c5 c6 c7 c8 c9 c10 c11
      go_wp2_with fail
      refine (gpAll_no (HN.out _ (by first | exact HC7.out | exact HC7.out.alloc HC7.out.size _)) 0).mono ?_; rintro e w8 ⟨rfl, hb8⟩
      have HC8 : Hid (Below wr.heap.size wr w8) := Lib.hid (by first | exact HC7.out.trans (hb8.mono HC7.out.size) | exact (HC7.out.alloc HC7.out.size _).trans (hb8.mono (HC7.out.alloc HC7.out.size _).size))
      clear hb8
      go_wp2_with fail
      refine (gpRules_no (HN.out _ (by first | exact HC8.out | exact HC8.out.alloc HC8.out.size _)) 0).mono ?_; rintro e w9 ⟨rfl, hb9⟩
      have HC9 : Hid (Below wr.heap.size wr w9) := Lib.hid (by first | exact HC8.out.trans (hb9.mono HC8.out.size) | exact (HC8.out.alloc HC8.out.size _).trans (hb9.mono (HC8.out.alloc HC8.out.size _).size))
      have cA := (Joins.cell_of_block ((hb9.block _ (Array.getElem?_eq_some_iff.1 (heap_alloc_new w8 _)).1).trans (heap_alloc_new w8 _)) 0).trans rfl
      clear hb9
      go_wp2
      go_roundw
      case rel => exact ⟨j + 1, by go_num, by omega, HB0.out.trans ((by first | exact HC9.out | exact HC9.out.alloc HC9.out.size _ : Below wr.heap.size wr _).mono HB0.out.size)⟩
      case measure => simp [intOf]; omega

end Go.Proofs.YtbbgdbnjmonbgabGreatDoor
