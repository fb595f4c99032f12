/-
  FreeForgets: pages that wait, and are forgotten, are in use as they were; what was settled is not forgotten.
-/
import Derived.Test.YtfhchdoaaphfaaaFrPure
import Derived.Test.YtfhchdoaaphfaaaKsRow
import Derived.Deep.RegionWith
set_option linter.unusedVariables false
set_option maxRecDepth 100000
namespace Go.Proofs.Ytfhchdoaaphfaaa
open Go.RowKit

/-- The generations of the first i pages. -/
def gens7 (l : List Int) (i : Nat) : List Int := (l.take i).map fun x => x % 8

theorem gens7_snoc {l : List Int} {i : Nat} {x : Int} (h : l[i]? = some x) : gens7 l (i + 1) = gens7 l i ++ [x % 8] := by
  unfold gens7
  rw [List.take_add_one, h]
  simp
theorem gens7_len {l : List Int} {i : Nat} (h : i ≤ l.length) : (gens7 l i).length = i := by simp [gens7]; omega

def isSettled (A : Nat) (g : Int) : Bool := decide (g ≤ (A : Int))
def isWait (A : Nat) (g : Int) : Bool := !isSettled A g && g == 7

set_option maxHeartbeats 6400000 in
theorem lawFrForgets_any {w : World} (n at_ : Int) {q : Option Addr} {m c : Nat} {l : List Int} (hk : KsOk w q m c l) :
    Calls Try.prog 5 #[.int .i64 n, .slice q m c, .int .i64 at_] w fun e w' => e = .returned (.bool true) ∧ Below w.heap.size w w' := by
  obtain ⟨r, a15, hr⟩ : ∃ r : Nat, bits BinOp.and IntKind.i64 n 15 = (r : Int) ∧ r ≤ 15 := ⟨(n % 16).toNat, by rw [and15]; omega, by omega⟩
  obtain ⟨A, a7, hA1, hA2⟩ : ∃ A : Nat, bits BinOp.and IntKind.i64 at_ 7 = (A : Int) ∧ A ≤ 7 ∧ True := ⟨(at_ % 8).toNat, by rw [and7]; omega, by omega, trivial⟩
  obtain ⟨N, hN, hN1, hN2⟩ : ∃ N : Nat, r + 1 = N ∧ 1 ≤ N ∧ N ≤ 16 := ⟨_, rfl, by omega, by omega⟩
  obtain ⟨hm, hc1, hc2, hks⟩ := hk
  subst hm
  have HKS : Hid (∀ w', Below w.heap.size w w' → Ks w' q l) := Lib.hid fun w' hb => hks.below hb
  have HN := Lib.hid (frNew_yes (w := w) (lo := 0) (hi := (N : Int)) (Int.le_refl _) (by omega) (by omega))
  clear hks
  have wn : wrap64 (1 + (r : Int)) = (N : Int) := by rw [← hN, IntWalk.wrap64_in _ (by omega)]; omega
  have wn2 : wrap64 (1 + bits BinOp.and IntKind.i64 n 15) = (N : Int) := by rw [a15]; exact wn
  clear hN hr hN1
  go_enter Try.func5, Try.ntmps5
  go_wp2_with fail
  refine HN.out.mono ?_; rintro e w1 ⟨p, um, wm, rfl, hf, hb, hp, hu, hwm⟩
  have HF := Lib.hid hf
  have HB := Lib.hid hb
  have HP : Hid (w.heap.size ≤ p ∧ w.heap.size ≤ um ∧ w.heap.size ≤ wm) := Lib.hid ⟨hp, hu, hwm⟩
  clear hf hb hp hu hwm
  dsimp only
  rw [wn]
  clear wn wn2 a15
  go_wp2
  go_loopw [9] (fun i wr => ∃ j : Nat, i = .int .i64 j ∧ j ≤ N ∧ FrIs wr p um wm (FL.upto N j) ∧ Only [um, wm] w1 wr) (fun i _ => N - (intOf i).toNat)
  case atStart => exact ⟨0, rfl, by omega, by rw [FL.upto_zero]; exact HF.out, Only.refl _ _⟩
  case round =>
    obtain ⟨j, rfl, hj, hfj, hoj⟩ := hrel
    have HOJ := Lib.hid hoj
    by_cases hjn : j = N
    · obtain rfl : N = j := hjn.symm
      have HFJ : Hid (FrIs wr p um wm (FL.row N [])) := Lib.hid (by rw [← FL.upto_all]; exact hfj)
      clear hfj hoj
      obtain ⟨w2, hw2⟩ : ∃ w2, w2 = wr := ⟨_, rfl⟩
      rw [← hw2] at HFJ HOJ ⊢
      clear hw2
      go_wp2
      have HB2 : Hid (∀ wr, Only [um, wm] w2 wr → Below w.heap.size w wr) := Lib.hid fun wr ho => HB.out.trans ((HOJ.out.trans ho).below HB.out.size (by simpa using ⟨HP.out.2.1, HP.out.2.2⟩))
      clear hj
      go_loopw [12, 13, 14] (fun x y i wr => ∃ j : Nat, i = .int .i64 j ∧ j ≤ N ∧ j ≤ l.length ∧ x = .int .i64 (((gens7 l j).countP (isWait A) : Nat) : Int) ∧ y = .int .i64 (((gens7 l j).countP (isSettled A) : Nat) : Int) ∧ FrIs wr p um wm (FL.row N (gens7 l j)) ∧ Only [um, wm] w2 wr) (fun _ _ i _ => N - (intOf i).toNat)
      case atStart => exact ⟨0, rfl, by omega, by omega, rfl, rfl, HFJ.out, Only.refl _ _⟩
      case round =>
        obtain ⟨j, rfl, hj, hjl, rfl, rfl, hfj, hoj⟩ := hrel
        have hx1 : (gens7 l j).countP (isWait A) ≤ 16 := Nat.le_trans List.countP_le_length (by rw [gens7_len hjl]; omega)
        have hx2 : (gens7 l j).countP (isSettled A) ≤ 16 := Nat.le_trans List.countP_le_length (by rw [gens7_len hjl]; omega)
        by_cases hgo : j < l.length ∧ j < N
        · obtain ⟨hg1, hg2⟩ := hgo
          have d1 : (j : Int) < l.length := by omega
          have d2 : (j : Int) < N := by omega
          obtain ⟨y, hy⟩ : ∃ y, l[j]? = some y := ⟨_, List.getElem?_eq_getElem hg1⟩
          obtain ⟨b, o, hq, hcell⟩ := (HKS.out wr (HB2.out wr hoj)).at hy
          obtain ⟨g, hg, hg7⟩ : ∃ g : Nat, y % 8 = (g : Int) ∧ g ≤ 7 := ⟨(y % 8).toNat, by omega, by omega⟩
          have hand : bits BinOp.and IntKind.i64 y 7 = (g : Int) := by rw [and7, hg]
          have hsn := gens7_snoc hy
          rw [hg] at hsn
          have hlen := gens7_len hjl
          have hst := FL.row_st (n := N) (L := gens7 l j) (by omega)
          have HL := frLater_any hfj (k := ((gens7 l j).length : Int)) (g := (g : Int)) hst.1 (by omega)
          rw [if_pos hst.2, if_pos hst.2, FL.row_late, ← hsn, hlen] at HL
          replace HL := Lib.hid HL
          have hcw : (gens7 l (j + 1)).countP (isWait A) = (gens7 l j).countP (isWait A) + (if isWait A g then 1 else 0) := by
            rw [hsn, List.countP_append]
            simp [List.countP_cons]
          have hcs : (gens7 l (j + 1)).countP (isSettled A) = (gens7 l j).countP (isSettled A) + (if isSettled A g then 1 else 0) := by
            rw [hsn, List.countP_append]
            simp [List.countP_cons]
          have HCW := Lib.hid hcw
          have HCS := Lib.hid hcs
          have HOJ2 := Lib.hid hoj
          have hj16 : j < 16 := by omega
          subst hq
          clear hsn hst hcw hcs hfj hoj hlen hy hg
          obtain ⟨cw, hcw⟩ : ∃ cw, cw = (gens7 l j).countP (isWait A) := ⟨_, rfl⟩
          obtain ⟨cs, hcs⟩ : ∃ cs, cs = (gens7 l j).countP (isSettled A) := ⟨_, rfl⟩
          rw [← hcw] at HCW hx1 ⊢
          rw [← hcs] at HCS hx2 ⊢
          clear hcw hcs
          have tail : ∀ w3, FrIs w3 p um wm (FL.row N (gens7 l (j + 1))) → Only [um, wm] wr w3 → FrIs w3 p um wm (FL.row N (gens7 l (j + 1))) ∧ Only [um, wm] w2 w3 := fun w3 h1 h2 => ⟨h1, HOJ2.out.trans h2⟩
          have HT := Lib.hid tail
          clear tail
          by_cases hA : g ≤ A
          · have e1 : decide ((g : Int) ≤ (A : Int)) = true := decide_eq_true (by omega)
            have e2 : decide (g ≤ A) = true := decide_eq_true hA
            have hw1 : isWait A g = false := by simp [isWait, isSettled]; omega
            have hs1 : isSettled A g = true := by simp [isSettled]; omega
            rw [hw1, if_neg (by decide)] at HCW
            rw [hs1, if_pos rfl] at HCS
            clear hw1 hs1 hA
            go_wp2_with fail
            refine HL.out.mono ?_; rintro e w3 ⟨rfl, hf3, ho3⟩
            have HT3 := Lib.hid (HT.out w3 hf3 ho3)
            clear hf3 ho3
            go_wp2
            go_roundw
            case rel => exact ⟨j + 1, by go_num, by omega, by omega, by rw [HCW.out]; rfl, by rw [HCS.out]; go_num, HT3.out⟩
            case measure => simp [intOf]; omega
          · have e1 : decide ((g : Int) ≤ (A : Int)) = false := decide_eq_false (by omega)
            have e2 : decide (g ≤ A) = false := decide_eq_false hA
            have hs1 : isSettled A g = false := by simp [isSettled]; omega
            rw [hs1, if_neg (by decide)] at HCS
            by_cases h7 : g = 7
            · have hw1 : isWait A g = true := by simp [isWait, isSettled]; omega
              rw [hw1, if_pos rfl] at HCW
              have n7 : ((g : Int) == 7) = true := by simp; omega
              have n7' : (g == 7) = true := by simpa using h7
              clear hw1 hs1 hA h7
              go_wp2_with fail
              refine HL.out.mono ?_; rintro e w3 ⟨rfl, hf3, ho3⟩
              have HT3 := Lib.hid (HT.out w3 hf3 ho3)
              clear hf3 ho3
              go_wp2
              go_roundw
              case rel => exact ⟨j + 1, by go_num, by omega, by omega, by rw [HCW.out]; go_num, by rw [HCS.out]; rfl, HT3.out⟩
              case measure => simp [intOf]; omega
            · have hw1 : isWait A g = false := by
                simp only [isWait, Bool.and_eq_false_iff]
                right
                simp
                omega
              rw [hw1, if_neg (by decide)] at HCW
              have n7 : ((g : Int) == 7) = false := by simp; omega
              have n7' : (g == 7) = false := by simpa using h7
              clear hw1 hs1 hA h7
              go_wp2_with fail
              refine HL.out.mono ?_; rintro e w3 ⟨rfl, hf3, ho3⟩
              have HT3 := Lib.hid (HT.out w3 hf3 ho3)
              clear hf3 ho3
              go_wp2
              go_roundw
              case rel => exact ⟨j + 1, by go_num, by omega, by omega, by rw [HCW.out]; rfl, by rw [HCS.out]; rfl, HT3.out⟩
              case measure => simp [intOf]; omega
        · have hj2 : j = l.length ∨ j = N := by omega
          obtain ⟨L, hL⟩ : ∃ L, L = gens7 l j := ⟨_, rfl⟩
          have hlen : L.length = j := by rw [hL]; exact gens7_len hjl
          rw [← hL] at hfj hx1 hx2 ⊢
          clear hL
          have p0 := FL.row_such N (isSettled A) (show L.length ≤ N by omega)
          have p1 := FL.row_used (n := N) (show L.length ≤ N by omega)
          have p2 := FL.row_waits N (show L.length ≤ N by omega)
          have p3 := FL.leave_count (FL.row N L) (isSettled A)
          obtain ⟨F1, hF1⟩ : ∃ F1, F1 = (FL.row N L).leave (isSettled A) := ⟨_, rfl⟩
          have p4 : F1.nUsed = N - L.length := by rw [hF1, FL.leave_used, p1]
          have p5 : F1.nSuch (fun g => g == 7) = L.countP (isWait A) := by
            rw [hF1, FL.leave_such]
            rw [FL.row_such N _ (show L.length ≤ N by omega)]
            rfl
          have HS := frSettle_any hfj (A : Int)
          have es : (fun g : Int => decide (g ≤ (A : Int))) = isSettled A := rfl
          rw [es, p0, ← hF1] at HS
          replace HS := Lib.hid HS
          have hok1 : F1.Ok := by rw [hF1]; exact hfj.ok.leave _
          have p6 := FL.back_used hok1 fun g => g == 7
          have p7 := FL.leave_count F1 fun g => g == 7
          have p8 := FL.back_waits F1 fun g => g == 7
          obtain ⟨F2, hF2⟩ : ∃ F2, F2 = F1.back fun g => g == 7 := ⟨_, rfl⟩
          have hok2 : F2.Ok := by rw [hF2]; exact hok1.back _
          have p9 : F2.nSuch (fun g => g == 7) = 0 := by
            rw [hF2, FL.back_such, FL.leave_such]
            exact FL.such_none (by intro g; cases (g == 7) <;> rfl)
          have p10 := FL.back_used hok2 fun g => g == 7
          rw [← hF1] at p3
          rw [← hF2] at p6 p8
          have hlo : F2.lo = 0 := by rw [hF2, hF1]; rfl
          have hhi : F2.hi = N := by rw [hF2, hF1]; rfl
          have hfree : F2.nFree = (L.countP (isSettled A) : Nat) := by
            unfold FL.nFree
            rw [hlo, hhi]
            omega
          have husd : (((F2.back fun g => g == 7).nUsed : Nat) : Int) = ((N - j : Nat) : Int) + (L.countP (isWait A) : Nat) := by omega
          have HFR := Lib.hid hfree
          have HUS := Lib.hid husd
          have HF1 := Lib.hid hF1
          have HF2 := Lib.hid hF2
          have HP5 := Lib.hid p5
          have HP9 := Lib.hid p9
          have HOJ2 := Lib.hid hoj
          clear p0 p1 p2 p3 p4 p5 p6 p7 p8 p9 p10 hok1 hok2 hlo hhi hfree husd hfj hoj hF1 hF2 es
          obtain ⟨cw, hcw⟩ : ∃ cw, cw = L.countP (isWait A) := ⟨_, rfl⟩
          obtain ⟨cs, hcs⟩ : ∃ cs, cs = L.countP (isSettled A) := ⟨_, rfl⟩
          rw [← hcw] at HP5 HUS hx1 ⊢
          rw [← hcs] at HS HFR hx2 ⊢
          clear hcw hcs hlen
          clear hgo
          by_cases hlong : N < l.length
          · have ej : j = N := by omega
            have e0 : ((N - j : Nat) : Int) + (cw : Nat) = (cw : Nat) := by omega
            rw [e0] at HUS
            subst ej
            have d1 : decide ((j : Int) < l.length) = true := decide_eq_true (by omega)
            have d2 : decide ((j : Int) < j) = false := decide_eq_false (by omega)
            have d3 : (j : Int) < l.length := by omega
            clear hj hjl hj2 hlong
            go_wp2_with fail
            refine HS.out.mono ?_; rintro e w3 ⟨rfl, hf3, ho3⟩
            have hfo := frForget_any hf3 7
            rw [HP5.out, ← HF2.out] at hfo
            have HFO := Lib.hid hfo
            have HO3 := Lib.hid (HOJ2.out.trans ho3)
            clear hf3 ho3 hfo
            go_wp2_with fail
            refine HFO.out.mono ?_; rintro e w4 ⟨rfl, hf4, ho4⟩
            have hfr := frFree_any hf4
            rw [HFR.out] at hfr
            have HFE := Lib.hid hfr
            have HF4 := Lib.hid hf4
            have HO4 := Lib.hid (HO3.out.trans ho4)
            clear hf4 ho4 hfr
            go_wp2_with fail
            refine HFE.out.mono ?_; rintro e w5 ⟨rfl, hb5⟩
            have hf5 := HF4.out.below hb5
            have hfo := frForget_any hf5 7
            rw [HP9.out] at hfo
            have HFO2 := Lib.hid hfo
            have HO5 := Lib.hid (HO4.out.trans (Only.of_below hb5))
            clear hf5 hb5 hfo
            go_wp2_with fail
            refine HFO2.out.mono ?_; rintro e w6 ⟨rfl, hf6, ho6⟩
            have hus := frUsed_any hf6
            rw [HUS.out] at hus
            have HUE := Lib.hid hus
            have HO6 := Lib.hid (HO5.out.trans ho6)
            clear hf6 ho6 hus
            go_wp2_with fail
            refine HUE.out.mono ?_; rintro e w7 ⟨rfl, rfl⟩
            go_wp2
            go_ret
            exact ⟨by simp, HB2.out _ HO6.out⟩
          · have ej : l.length = j := by omega
            have hsub : wrap64 ((N : Int) - j) = ((N - j : Nat) : Int) := by rw [IntWalk.wrap64_in _ (by omega)]; omega
            have hadd : wrap64 (((N - j : Nat) : Int) + cw) = ((N - j : Nat) : Int) + cw := IntWalk.wrap64_in _ (by omega)
            obtain ⟨nj, hnj⟩ : ∃ nj : Nat, nj = N - j := ⟨_, rfl⟩
            rw [← hnj] at hsub HUS hadd
            have d2 : decide ((j : Int) < j) = false := decide_eq_false (by omega)
            have d3 : ¬ (N : Int) < j := by omega
            have d4 : ¬ N < j := by omega
            have HNJ : Hid ((nj : Int) = N - j) := Lib.hid (by omega)
            clear hnj hj hjl hj2 hlong
            rw [ej]
            go_wp2_with fail
            refine HS.out.mono ?_; rintro e w3 ⟨rfl, hf3, ho3⟩
            have hfo := frForget_any hf3 7
            rw [HP5.out, ← HF2.out] at hfo
            have HFO := Lib.hid hfo
            have HO3 := Lib.hid (HOJ2.out.trans ho3)
            clear hf3 ho3 hfo
            go_wp2_with fail
            refine HFO.out.mono ?_; rintro e w4 ⟨rfl, hf4, ho4⟩
            have hfr := frFree_any hf4
            rw [HFR.out] at hfr
            have HFE := Lib.hid hfr
            have HF4 := Lib.hid hf4
            have HO4 := Lib.hid (HO3.out.trans ho4)
            clear hf4 ho4 hfr
            go_wp2_with fail
            refine HFE.out.mono ?_; rintro e w5 ⟨rfl, hb5⟩
            have hf5 := HF4.out.below hb5
            have hfo := frForget_any hf5 7
            rw [HP9.out] at hfo
            have HFO2 := Lib.hid hfo
            have HO5 := Lib.hid (HO4.out.trans (Only.of_below hb5))
            clear hf5 hb5 hfo
            go_wp2_with fail
            refine HFO2.out.mono ?_; rintro e w6 ⟨rfl, hf6, ho6⟩
            have hus := frUsed_any hf6
            rw [HUS.out] at hus
            have HUE := Lib.hid hus
            have HO6 := Lib.hid (HO5.out.trans ho6)
            clear hf6 ho6 hus
            go_wp2_with fail
            refine HUE.out.mono ?_; rintro e w7 ⟨rfl, rfl⟩
            go_wp2
            go_ret
            exact ⟨by simp [HNJ.out], HB2.out _ HO6.out⟩
    · have hlt : (j : Int) < N := by omega
      have hlt2 : j < N := by omega
      have HA := frAlloc_any hfj
      rw [(FL.upto_alloc hlt2).1, (FL.upto_alloc hlt2).2] at HA
      replace HA := Lib.hid HA
      clear hfj hoj
      go_wp2_with fail
      refine HA.out.mono ?_; rintro e w2 ⟨rfl, hf2, ho2⟩
      have HF2 := Lib.hid hf2
      have HO2 := Lib.hid (HOJ.out.trans ho2)
      clear hf2 ho2
      go_wp2
      go_roundw
      case rel => exact ⟨j + 1, by go_num, by omega, HF2.out, HO2.out⟩
      case measure => simp [intOf]; omega

end Go.Proofs.Ytfhchdoaaphfaaa
