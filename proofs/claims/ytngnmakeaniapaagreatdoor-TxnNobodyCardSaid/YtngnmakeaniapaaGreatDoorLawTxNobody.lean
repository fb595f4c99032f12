/-
  TxnNobody: stores that no call made, and of no disk, have no keys.
-/
import Derived.Test.YtngnmakeaniapaaGreatDoorTxNo
import Derived.LoopTactic
set_option linter.unusedVariables false
set_option maxRecDepth 100000
namespace Go.Proofs.YtngnmakeaniapaaGreatDoor
open Go.RowKit

set_option maxHeartbeats 6400000 in
theorem law_txnobody {w : World} {q : Option Addr} {n c : Nat} (k : Int) :
    Calls Tryz.prog 5 #[.slice q n c, .int .i64 k] w fun e w' => e = .returned (.bool true) ∧ Below w.heap.size w w' := by
  go_enter Tryz.func5, Tryz.ntmps5
  go_wp2
  go_loopw [30] (fun i wr => ∃ j : Nat, i = .int .i64 j ∧ j ≤ 2 ∧ GrMem w wr (.int .i64 0)) (fun i _ => 2 - (intOf i).toNat)
  case atStart => exact ⟨0, rfl, by omega, GrMem.start w _ _ _ rfl⟩
  case round =>
    obtain ⟨j, rfl, hj, hm⟩ := hrel
    have HM := Lib.hid hm
    by_cases h2 : j = 2
    · subst h2
      clear hm
      obtain ⟨wa, rfl⟩ : ∃ x, x = wr := ⟨_, rfl⟩
      rw [show ((2 : Nat) : Int) = 2 from rfl]
      go_wp2
      go_loopw [55] (fun i wx => ∃ j : Nat, i = .int .i64 j ∧ j ≤ 2 ∧ GrMem wa wx (.pointer none)) (fun i _ => 2 - (intOf i).toNat)
      case atStart => exact ⟨0, rfl, by omega, GrMem.start wa _ _ _ rfl⟩
      case round =>
        obtain ⟨j, rfl, hj, hm⟩ := hrel
        have HX := Lib.hid hm
        by_cases h2 : j = 2
        · subst h2
          clear hm
          go_wp2
          go_ret
          exact ⟨rfl, HM.out.below.trans (HX.out.below.mono HM.out.below.size)⟩
        · obtain ⟨d, hd, hn⟩ : ∃ d, wr.cell? ⟨wa.heap.size + 1, j, none⟩ = some (.pointer d) ∧ GrNone wr d := by
            rcases (by omega : j = 0 ∨ j = 1) with rfl | rfl
            · exact ⟨_, hm.a, .inl rfl⟩
            · exact ⟨_, hm.b, .inr ⟨_, rfl, hm.z⟩⟩
          have HN := Lib.hid fun w' hb => hn.below (w' := w') hb
          have hlt : (j : Int) < 2 := by omega
          have hlt2 : j < 2 := by omega
          clear hm hn
          go_wp2_with fail
          refine (txGet_no (HN.out _ (Below.refl _ _)) k _ _).mono ?_; rintro e w1 ⟨rfl, hb1⟩
          have HB1 := Lib.hid hb1
          clear hb1
          go_wp2_with fail
          refine (txScan_no (HN.out _ HB1.out) k _ _ _ 5).mono ?_; rintro e w2 ⟨rfl, hb2⟩
          have HB2 := Lib.hid (HB1.out.trans (hb2.mono HB1.out.size))
          clear hb2
          go_wp2_with fail
          refine (txDel_no (HN.out _ HB2.out) _ _).mono ?_; rintro e w3 ⟨rfl, hb3⟩
          have HB3 := Lib.hid (HB2.out.trans (hb3.mono HB2.out.size))
          clear hb3
          go_wp2_with fail
          refine (txSave_no (HN.out _ HB3.out) ).mono ?_; rintro e w4 ⟨rfl, hb4⟩
          have HB4 := Lib.hid (HB3.out.trans (hb4.mono HB3.out.size))
          clear hb4
          go_wp2_with fail
          refine (txPin_no (HN.out _ HB4.out) ).mono ?_; rintro e w5 ⟨rfl, hb5⟩
          have HB5 := Lib.hid (HB4.out.trans (hb5.mono HB4.out.size))
          clear hb5
          go_wp2_with fail
          refine (txNext_no (HN.out _ HB5.out) 0).mono ?_; rintro e w6 ⟨rfl, hb6⟩
          have HB6 := Lib.hid (HB5.out.trans (hb6.mono HB5.out.size))
          clear hb6
          go_wp2_with fail
          refine (txPeek_no (HN.out _ HB6.out) 0).mono ?_; rintro e w7 ⟨rfl, hb7⟩
          have HB7 := Lib.hid (HB6.out.trans (hb7.mono HB6.out.size))
          clear hb7
          go_wp2_with fail
          refine (txBegin_no (HN.out _ HB7.out) ).mono ?_; rintro e w8 ⟨rfl, hb8⟩
          have HB8 := Lib.hid (HB7.out.trans (hb8.mono HB7.out.size))
          clear hb8
          go_wp2_with fail
          refine (txCommit_no (HN.out _ HB8.out) ).mono ?_; rintro e w9 ⟨rfl, hb9⟩
          have HB9 := Lib.hid (HB8.out.trans (hb9.mono HB8.out.size))
          clear hb9
          go_wp2_with fail
          refine (txAbort_no (HN.out _ HB9.out) ).mono ?_; rintro e w10 ⟨rfl, hb10⟩
          have HB10 := Lib.hid (HB9.out.trans (hb10.mono HB9.out.size))
          clear hb10
          go_wp2_with fail
          refine (txBack_no (HN.out _ HB10.out) 0).mono ?_; rintro e w11 ⟨rfl, hb11⟩
          have HB11 := Lib.hid (HB10.out.trans (hb11.mono HB10.out.size))
          clear hb11
          go_wp2_with fail
          refine (txRelease_no (HN.out _ HB11.out) k).mono ?_; rintro e w12 ⟨rfl, hb12⟩
          have HB12 := Lib.hid (HB11.out.trans (hb12.mono HB11.out.size))
          clear hb12
          go_wp2_with fail
          refine (txPut_no (HN.out _ HB12.out) _ _ _).mono ?_; rintro e w13 ⟨rfl, hb13⟩
          have HB13 := Lib.hid (HB12.out.trans (hb13.mono HB12.out.size))
          clear hb13
          go_wp2_with fail
          refine (txActive_no (HN.out _ HB13.out) ).mono ?_; rintro e w14 ⟨rfl, hb14⟩
          have HB14 := Lib.hid (HB13.out.trans (hb14.mono HB13.out.size))
          clear hb14
          go_wp2_with fail
          refine (txGen_no (HN.out _ HB14.out) ).mono ?_; rintro e w15 ⟨rfl, hb15⟩
          have HB15 := Lib.hid (HB14.out.trans (hb15.mono HB14.out.size))
          clear hb15
          go_wp2_with fail
          refine (txUsed_no (HN.out _ HB15.out) ).mono ?_; rintro e w16 ⟨rfl, hb16⟩
          have HB16 := Lib.hid (HB15.out.trans (hb16.mono HB15.out.size))
          clear hb16
          go_wp2_with fail
          refine (txWaiting_no (HN.out _ HB16.out) ).mono ?_; rintro e w17 ⟨rfl, hb17⟩
          have HB17 := Lib.hid (HB16.out.trans (hb17.mono HB16.out.size))
          clear hb17
          go_wp2_with fail
          refine (txFree_no (HN.out _ HB17.out) ).mono ?_; rintro e w18 ⟨rfl, hb18⟩
          have HB18 := Lib.hid (HB17.out.trans (hb18.mono HB17.out.size))
          clear hb18
          go_wp2
          go_roundw
          case rel => exact ⟨j + 1, by go_num, by omega, HX.out.on HB18.out⟩
          case measure => simp [intOf]; omega
    · obtain ⟨d, hd, hn⟩ : ∃ d, wr.cell? ⟨w.heap.size + 1, j, none⟩ = some (.pointer d) ∧ Nobody wr d := by
        rcases (by omega : j = 0 ∨ j = 1) with rfl | rfl
        · exact ⟨_, hm.a, .inl rfl⟩
        · exact ⟨_, hm.b, .inr ⟨_, rfl, hm.z⟩⟩
      have HN := Lib.hid fun w' hb => hn.below (w' := w') hb
      have hlt : (j : Int) < 2 := by omega
      have hlt2 : j < 2 := by omega
      clear hm hn
      go_wp2_with fail
      refine (txOpen_no (HN.out _ (Below.refl _ _))).mono ?_; rintro e w1 ⟨rfl, hb1⟩
      have HB1 := Lib.hid hb1
      clear hb1
      go_wp2_with fail
      refine (txCreate_no (HN.out _ HB1.out)).mono ?_; rintro e w2 ⟨rfl, hb2⟩
      have HB2 := Lib.hid (HB1.out.trans (hb2.mono HB1.out.size))
      clear hb2
      go_wp2
      go_roundw
      case rel => exact ⟨j + 1, by go_num, by omega, HM.out.on HB2.out⟩
      case measure => simp [intOf]; omega

end Go.Proofs.YtngnmakeaniapaaGreatDoor
