/-
  TreeNobody: without a pager there are no trees.
-/
import Derived.Test.YteaieddlcgbiaaaGreatDoorTrNo
import Derived.Test.YteaieddlcgbiaaaGreatDoorGrNoM
import Derived.LoopTactic
set_option linter.unusedVariables false
set_option maxRecDepth 100000
namespace Go.Proofs.YteaieddlcgbiaaaGreatDoor
open Go.RowKit

set_option maxHeartbeats 6400000 in
theorem law_trnobody {w : World} {q : Option Addr} {n c : Nat} (k : Int) :
    Calls Tryz.prog 3 #[.int .i64 k, .slice q n c] w fun e w' => e = .returned (.bool true) ∧ Below w.heap.size w w' := by
  go_enter Tryz.func3, Tryz.ntmps3
  go_wp2
  go_loopw [25] (fun i wr => ∃ j : Nat, i = .int .i64 j ∧ j ≤ 2 ∧ GrMem w wr (.pointer none)) (fun i _ => 2 - (intOf i).toNat)
  case atStart => exact ⟨0, rfl, by omega, GrMem.start w _ _ _ rfl⟩
  case round =>
    obtain ⟨j, rfl, hj, hm⟩ := hrel
    have HM := Lib.hid hm
    by_cases h2 : j = 2
    · subst h2
      clear hm
      obtain ⟨wa, rfl⟩ : ∃ x, x = wr := ⟨_, rfl⟩
      rw [show ((2 : Nat) : Int) = 2 from rfl]
      go_wp2
      go_ret
      exact ⟨rfl, HM.out.below⟩
    · obtain ⟨d, hd, hn⟩ : ∃ d, wr.cell? ⟨w.heap.size + 1, j, none⟩ = some (.pointer d) ∧ GrNone wr d := by
        rcases (by omega : j = 0 ∨ j = 1) with rfl | rfl
        · exact ⟨_, hm.a, .inl rfl⟩
        · exact ⟨_, hm.b, .inr ⟨_, rfl, hm.z⟩⟩
      have HN := Lib.hid fun w' hb => hn.below (w' := w') hb
      have hlt : (j : Int) < 2 := by omega
      have hlt2 : j < 2 := by omega
      clear hm hn
      go_wp2_with fail
      refine (trGet_no (HN.out _ (Below.refl _ _)) k).mono ?_; rintro e w1 ⟨rfl, hb1⟩
      have HB1 := Lib.hid hb1
      clear hb1
      go_wp2_with fail
      refine (trPut_no (HN.out _ HB1.out) k _).mono ?_; rintro e w2 ⟨rfl, hb2⟩
      have HB2 := Lib.hid (HB1.out.trans (hb2.mono HB1.out.size))
      clear hb2
      go_wp2_with fail
      refine (trDel_no (HN.out _ HB2.out) k).mono ?_; rintro e w3 ⟨rfl, hb3⟩
      have HB3 := Lib.hid (HB2.out.trans (hb3.mono HB2.out.size))
      clear hb3
      go_wp2_with fail
      refine (trScan_no (HN.out _ HB3.out) k _ _ 5).mono ?_; rintro e w4 ⟨rfl, hb4⟩
      have HB4 := Lib.hid (HB3.out.trans (hb4.mono HB3.out.size))
      clear hb4
      go_wp2_with fail
      refine (trPages_no (HN.out _ HB4.out) k).mono ?_; rintro e w5 ⟨rfl, hb5⟩
      have HB5 := Lib.hid (HB4.out.trans (hb5.mono HB4.out.size))
      clear hb5
      go_wp2_with fail
      refine (trDepth_no (HN.out _ HB5.out) k).mono ?_; rintro e w6 ⟨rfl, hb6⟩
      have HB6 := Lib.hid (HB5.out.trans (hb6.mono HB5.out.size))
      clear hb6
      go_wp2
      go_roundw
      case rel => exact ⟨j + 1, by go_num, by omega, HM.out.on HB6.out⟩
      case measure => simp [intOf]; omega

end Go.Proofs.YteaieddlcgbiaaaGreatDoor
