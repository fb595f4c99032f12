/-
  ShareBetter: the walk of the law.
-/
import Derived.Test.YtigmibmebockhaaShGap
import Derived.Test.YtigmibmebockhaaShFits
import Derived.Test.YtigmibmebockhaaBand
set_option linter.unusedVariables false
set_option linter.unusedSimpArgs false
set_option maxRecDepth 100000
namespace Go.Proofs.Ytigmibmebockhaa
open Go.RowKit

theorem bt16_in (a : Int) : ∃ x : Int, bits BinOp.and IntKind.i64 a 65535 = x ∧ 0 ≤ x ∧ x ≤ 65535 := by
  have h := band16 a
  have h1 := Int.emod_nonneg a (show (65536 : Int) ≠ 0 by decide)
  have h2 := Int.emod_lt_of_pos a (show (0 : Int) < 65536 by decide)
  exact ⟨_, h, h1, by omega⟩
theorem bt10_in (a : Int) : ∃ x : Int, bits BinOp.and IntKind.i64 a 1023 = x ∧ 0 ≤ x ∧ x ≤ 1023 := by
  have h := band10 a
  have h1 := Int.emod_nonneg a (show (1024 : Int) ≠ 0 by decide)
  have h2 := Int.emod_lt_of_pos a (show (0 : Int) < 1024 by decide)
  exact ⟨_, h, h1, by omega⟩

set_option maxHeartbeats 6400000 in
theorem shareBetter_law {w : World} {q : Option Addr} {m c : Nat} {l : List Int} (h : KsOk w q m c l) (most : Int) :
    Calls Try.prog 8 #[.slice q m c, .int .i64 most] w (YesPost w true) := by
  have hmf : ∀ (fn : Fn) (first cap : Array Value) (w : World), (Instr.makeFunc fn first cap).run Try.prog w = .ok (.func fn first cap) w := fun _ _ _ _ => rfl
  have eg : ∀ args (w : World), (callFunc 23 args).run Try.prog w = .ok (.enter 23 args) w := fun _ _ => rfl
  obtain ⟨z, hz, hz1, hz2⟩ := bt16_in most
  obtain ⟨rfl, hc1, hc2, hk⟩ := h
  have HK := Lib.hid hk
  have HS := Lib.hid (BtL.start w most)
  clear hk
  go_enter Try.func8, Try.ntmps8
  go_wp2
  obtain ⟨W, hW⟩ : ∃ W, W = (w.alloc (.cells #[.int .i64 most] 3)).alloc (.cells #[.slice none 0 0] 25) := ⟨_, rfl⟩
  rw [← hW] at HS ⊢
  clear hW
  go_loopw [6] (fun i wr => ∃ (j : Nat) (q' : Option Addr) (c' : Nat) (L : List Int), i = .int .i64 (j : Int) ∧ j ≤ l.length ∧ j ≤ 100 ∧ BtL w wr most q' j c' L) (fun i _ => l.length - (intOf i).toNat)
  case atStart => exact ⟨0, none, 0, [], rfl, by omega, by omega, HS.out⟩
  case round =>
    clear HS
    obtain ⟨j, q6, c6, L, rfl, hj, hj4, hv⟩ := hrel
    have HV := Lib.hid hv
    obtain ⟨⟨m0, m1⟩, f0, f1⟩ := hv.cells
    have hsz := hv.size
    have hok := hv.ok
    have HOK := Lib.hid hok
    have hc6 := hok.h2
    have hc61 := hok.h1
    clear hv hok
    by_cases h1 : j < l.length
    · have e1 : decide ((j : Int) < (l.length : Int)) = true := decide_eq_true (by omega)
      by_cases h2 : j < 100
      · have e2 : decide ((j : Int) < 100) = true := decide_eq_true (by omega)
        obtain ⟨x, hx⟩ : ∃ x, l[j]? = some x := ⟨_, List.getElem?_eq_getElem h1⟩
        obtain ⟨b, o, hq, hcell⟩ := (HK.out.below HV.out.below).at hx
        obtain ⟨n, hn, hn1, hn2⟩ := bt10_in x
        have HOW : Hid (∀ w', Below wr.heap.size wr w' → OwnI w' (w.heap.size + 2) (.slice q6 j c6) L) := Lib.hid fun w' hb => HV.out.own.below hb
        have HB1 : Hid (Below wr.heap.size wr ((wr.alloc (.cells #[.int .i64 n] 3)).drew)) := Lib.hid (((Below.refl _ _).alloc (Nat.le_refl _) _).drew)
        have HLEN : Hid (j = L.length) := Lib.hid HV.out.len
        have hA1 : w.heap.size + 1 < wr.heap.size := by omega
        have m1b := (HV.out.later ((Below.refl _ _).alloc (Nat.le_refl _) (.cells #[.int .i64 n] 3))).cells.1.2
        have hl4 : L.length ≤ 1000000 := by rw [← HLEN.out]; omega
        subst hq
        clear hx
        go_wp2_with fail
        go_region_law (first
          | (go_loud (refine bt_step rfl (.tmp 27) (.tmp 33) rfl n rfl (HOW.out _ HB1.out) rfl ((Joins.cell_of_block (heap_alloc_new wr _) 0).trans rfl) hl4 (by have := HB1.out.size; omega) ?_; intro q7 n7 c7 w7 hn7 ho7 hg7; have HV7 := Lib.hid (HV.out.app HB1.out hn7 ho7 hg7 ⟨hn1, hn2⟩); have hb7 := HV.out.mid HB1.out hg7; have z1 := (Joins.cell_of_block hb7 0).trans rfl; have y1 := Joins.unfrozen_of_block hb7 0; have hA7 := (Array.getElem?_eq_some_iff.1 hb7).1; have HN7 := Lib.hid hn7; clear hn7 ho7 hg7 hb7))
          | fail)
        all_goals
          go_wp2
          go_roundw
          case rel =>
            refine ⟨j + 1, q7, c7, L ++ [n], by go_num, by omega, by omega, ?_⟩
            have e : n7 = j + 1 := by rw [HN7.out, List.length_append, ← HLEN.out]; rfl
            rw [← e]
            exact HV7.out
          case measure => simp [intOf]; omega
      · have e2 : decide ((j : Int) < 100) = false := decide_eq_false (by omega)
        have HVM := Lib.hid (HV.out.setM z)
        have hsz2 : (wr.setCell ⟨w.heap.size, 0, none⟩ (.int .i64 z)).heap.size = wr.heap.size := by simp
        go_wp2_with fail
        obtain ⟨wm, hwm⟩ : ∃ wm, wm = wr.setCell ⟨w.heap.size, 0, none⟩ (.int .i64 z) := ⟨_, rfl⟩
        rw [← hwm] at HVM ⊢
        clear hwm hsz2 m0 m1 f0 f1
        refine (cut_any HVM.out.ok z).mono ?_
        rintro e w1 ⟨k, f, rfl, hcut, hb1⟩
        have HV1 := Lib.hid (HVM.out.later hb1)
        have HCUT := Lib.hid hcut
        clear hb1 hcut
        go_wp2_with fail
        refine (cut_any (ks_two 2 2) 2).mono ?_
        rintro e w2 ⟨k2, f2, rfl, hc2', hb2⟩
        obtain ⟨rfl, rfl⟩ := hc2'.two (by omega) (by omega) (by omega)
        have HV2 := Lib.hid (HV1.out.later (((Below.refl _ _).alloc (Nat.le_refl _) _).trans (hb2.mono (((Below.refl w1.heap.size w1).alloc (Nat.le_refl _) (.cells #[.int .i64 2, .int .i64 2] 3)).size))))
        clear hb2 hc2' HV1
        rw [show ((1 : Nat) : Int) = 1 from rfl]
        obtain ⟨⟨m0, m1⟩, _, _⟩ := HV2.out.cells
        have HLEN : Hid (j = L.length) := Lib.hid HV2.out.len
        have hbest : ∃ d, ShBest L z j k d f := by
          rw [HLEN.out]
          exact HCUT.out.1 ⟨hz1, by rw [← HLEN.out]; omega, fun x hx => by have := HV2.out.each x hx; omega⟩
        have HGAP : Hid (∀ w' (i : Nat), Below w2.heap.size w2 w' → i ≤ j → Calls Try.prog 23 #[.int .i64 (i : Int), .pointer (some ⟨w.heap.size + 1, 0, none⟩), .pointer (some ⟨w.heap.size, 0, none⟩)] w' (ApPost w' (shP L i) (shQ L i) z)) := Lib.hid fun w' i hb hi => by
          have hv' := HV2.out.later hb
          exact gap_any hv'.cells.1.2 hv'.cells.1.1 hv'.ok hv'.each hj4 i hi
        have HBW : Hid (∀ w', Below w2.heap.size w2 w' → Below w.heap.size w w') := Lib.hid fun w' hb => HV2.out.below.trans (hb.mono HV2.out.below.size)
        have HCEL : Hid (∀ w', Below w2.heap.size w2 w' → w'.cell? ⟨w.heap.size, 0, none⟩ = some (.int .i64 z) ∧ w'.cell? ⟨w.heap.size + 1, 0, none⟩ = some (.slice q6 j c6)) := Lib.hid fun w' hb => (HV2.out.later hb).cells.1
        obtain ⟨d, hbest⟩ := hbest
        have HBEST := Lib.hid hbest
        clear hbest HCUT HVM HV HOK
        cases f
        · go_wp2
          go_loopw [12] (fun i w' => ∃ ii : Nat, i = .int .i64 ((ii + 1 : Nat) : Int) ∧ Below w2.heap.size w2 w' ∧ (ii = 0 ∨ ii < j)) (fun i _ => j + 1 - (intOf i).toNat)
          case atStart => exact ⟨0, rfl, Below.refl _ _, .inl rfl⟩
          case round =>
            obtain ⟨ii, rfl, hb, hij⟩ := hrel
            rename_i wr2 _
            have HB := Lib.hid hb
            clear m0 m1
            obtain ⟨m0, m1⟩ := HCEL.out _ hb
            clear hb
            have hk1 : (((ii + 1 : Nat) : Int)) = (ii : Int) + 1 := by omega
            by_cases hi : ii + 1 < j
            · have HG := Lib.hid (HGAP.out _ (ii + 1) HB.out (by omega))
              have hno : shIn (shP L (ii + 1)) (shQ L (ii + 1)) z = false := by
                rw [Bool.eq_false_iff]
                exact fun h => (HBEST.out.no rfl).2.2 (ii + 1) (by omega) hi ((shIn_is _ _ _).1 h)
              unfold ApPost at HG
              rw [hno] at HG
              generalize shGap (shP L (ii + 1)) (shQ L (ii + 1)) = g at *
              clear hno
              go_wp2_with fail
              refine HG.out.mono ?_
              rintro e w4 ⟨rfl, hb4⟩
              have HB4 := Lib.hid (HB.out.trans (hb4.mono HB.out.size))
              clear hb4
              go_wp2
              go_roundw
              case rel => exact ⟨ii + 1, by go_num, HB4.out, .inr hi⟩
              case measure => simp [intOf]; omega
            · go_wp2
              go_ret
              exact ⟨rfl, HBW.out _ HB.out⟩
        · obtain ⟨hk1, hk2, hfit, hdg, hbb⟩ := HBEST.out.yes rfl
          have HFIT := Lib.hid hfit
          have HBB := Lib.hid hbb
          have e7 : decide ((k : Int) < 1) = false := decide_eq_false (by omega)
          have e8 : decide ((j : Int) ≤ (k : Int)) = false := decide_eq_false (by omega)
          have e8' : decide (j ≤ k) = false := decide_eq_false (by omega)
          clear hfit hbb hdg
          go_wp2
          go_loopw [12] (fun i w' => ∃ ii : Nat, i = .int .i64 ((ii + 1 : Nat) : Int) ∧ Below w2.heap.size w2 w' ∧ (ii = 0 ∨ ii < j)) (fun i _ => j + 1 - (intOf i).toNat)
          case atStart => exact ⟨0, rfl, Below.refl _ _, .inl rfl⟩
          case round =>
            obtain ⟨ii, rfl, hb, hij⟩ := hrel
            have HB := Lib.hid hb
            clear m0 m1
            obtain ⟨m0, m1⟩ := HCEL.out _ hb
            clear hb
            have hk1' : (((ii + 1 : Nat) : Int)) = (ii : Int) + 1 := by omega
            by_cases hi : ii + 1 < j
            · have HG := Lib.hid (HGAP.out _ (ii + 1) HB.out (by omega))
              have HGK : Hid (∀ w', Below w2.heap.size w2 w' → Calls Try.prog 23 #[.int .i64 (k : Int), .pointer (some ⟨w.heap.size + 1, 0, none⟩), .pointer (some ⟨w.heap.size, 0, none⟩)] w' (ApPost w' (shP L k) (shQ L k) z)) := Lib.hid fun w' hb => HGAP.out w' k hb (by omega)
              have hin : shIn (shP L k) (shQ L k) z = true := (shIn_is _ _ _).2 HFIT.out
              unfold ApPost at HG HGK
              rw [hin] at HGK
              have hcmp : Hid (shIn (shP L (ii + 1)) (shQ L (ii + 1)) z = true → shGap (shP L k) (shQ L k) ≤ shGap (shP L (ii + 1)) (shQ L (ii + 1)) ∧ (ii + 1 < k → shGap (shP L k) (shQ L k) < shGap (shP L (ii + 1)) (shQ L (ii + 1)))) := Lib.hid fun h => HBB.out (ii + 1) (by omega) hi ((shIn_is _ _ _).1 h)
              generalize shGap (shP L (ii + 1)) (shQ L (ii + 1)) = g at *
              generalize shIn (shP L (ii + 1)) (shQ L (ii + 1)) z = fi at *
              generalize shGap (shP L k) (shQ L k) = g2 at *
              clear hin
              go_wp2_with fail
              refine HG.out.mono ?_
              rintro e w4 ⟨rfl, hb4⟩
              have HB4 := Lib.hid (HB.out.trans (hb4.mono HB.out.size))
              clear hb4
              go_wp2_with fail
              refine (HGK.out _ HB4.out).mono ?_
              rintro e w5 ⟨rfl, hb5⟩
              have HB5 := Lib.hid (HB4.out.trans (hb5.mono HB4.out.size))
              clear hb5 m0 m1
              cases fi
              · go_wp2
                go_roundw
                case rel => exact ⟨ii + 1, by go_num, HB5.out, .inr hi⟩
                case measure => simp [intOf]; omega
              · obtain ⟨h1, h2⟩ := hcmp.out rfl
                have d1 : decide (g < g2) = false := decide_eq_false (by omega)
                by_cases hgg : g = g2
                · have h3 : ¬ (ii + 1 < k) := fun h => by have := h2 h; omega
                  subst hgg
                  have d2 : decide ((ii : Int) + 1 < (k : Int)) = false := decide_eq_false (by omega)
                  clear h2
                  go_wp2
                  go_roundw
                  case rel => exact ⟨ii + 1, by go_num, HB5.out, .inr hi⟩
                  case measure => simp [intOf]; omega
                · have d2 : (g == g2) = false := by simpa using hgg
                  clear h2
                  go_wp2
                  go_roundw
                  case rel => exact ⟨ii + 1, by go_num, HB5.out, .inr hi⟩
                  case measure => simp [intOf]; omega
            · go_wp2
              go_ret
              exact ⟨rfl, HBW.out _ HB.out⟩
    · have e1 : decide ((j : Int) < (l.length : Int)) = false := decide_eq_false (by omega)
      have HVM := Lib.hid (HV.out.setM z)
      have hsz2 : (wr.setCell ⟨w.heap.size, 0, none⟩ (.int .i64 z)).heap.size = wr.heap.size := by simp
      go_wp2_with fail
      obtain ⟨wm, hwm⟩ : ∃ wm, wm = wr.setCell ⟨w.heap.size, 0, none⟩ (.int .i64 z) := ⟨_, rfl⟩
      rw [← hwm] at HVM ⊢
      clear hwm hsz2 m0 m1 f0 f1
      refine (cut_any HVM.out.ok z).mono ?_
      rintro e w1 ⟨k, f, rfl, hcut, hb1⟩
      have HV1 := Lib.hid (HVM.out.later hb1)
      have HCUT := Lib.hid hcut
      clear hb1 hcut
      go_wp2_with fail
      refine (cut_any (ks_two 2 2) 2).mono ?_
      rintro e w2 ⟨k2, f2, rfl, hc2', hb2⟩
      obtain ⟨rfl, rfl⟩ := hc2'.two (by omega) (by omega) (by omega)
      have HV2 := Lib.hid (HV1.out.later (((Below.refl _ _).alloc (Nat.le_refl _) _).trans (hb2.mono (((Below.refl w1.heap.size w1).alloc (Nat.le_refl _) (.cells #[.int .i64 2, .int .i64 2] 3)).size))))
      clear hb2 hc2' HV1
      rw [show ((1 : Nat) : Int) = 1 from rfl]
      obtain ⟨⟨m0, m1⟩, _, _⟩ := HV2.out.cells
      have HLEN : Hid (j = L.length) := Lib.hid HV2.out.len
      have hbest : ∃ d, ShBest L z j k d f := by
        rw [HLEN.out]
        exact HCUT.out.1 ⟨hz1, by rw [← HLEN.out]; omega, fun x hx => by have := HV2.out.each x hx; omega⟩
      have HGAP : Hid (∀ w' (i : Nat), Below w2.heap.size w2 w' → i ≤ j → Calls Try.prog 23 #[.int .i64 (i : Int), .pointer (some ⟨w.heap.size + 1, 0, none⟩), .pointer (some ⟨w.heap.size, 0, none⟩)] w' (ApPost w' (shP L i) (shQ L i) z)) := Lib.hid fun w' i hb hi => by
        have hv' := HV2.out.later hb
        exact gap_any hv'.cells.1.2 hv'.cells.1.1 hv'.ok hv'.each hj4 i hi
      have HBW : Hid (∀ w', Below w2.heap.size w2 w' → Below w.heap.size w w') := Lib.hid fun w' hb => HV2.out.below.trans (hb.mono HV2.out.below.size)
      have HCEL : Hid (∀ w', Below w2.heap.size w2 w' → w'.cell? ⟨w.heap.size, 0, none⟩ = some (.int .i64 z) ∧ w'.cell? ⟨w.heap.size + 1, 0, none⟩ = some (.slice q6 j c6)) := Lib.hid fun w' hb => (HV2.out.later hb).cells.1
      obtain ⟨d, hbest⟩ := hbest
      have HBEST := Lib.hid hbest
      clear hbest HCUT HVM HV HOK
      cases f
      · go_wp2
        go_loopw [12] (fun i w' => ∃ ii : Nat, i = .int .i64 ((ii + 1 : Nat) : Int) ∧ Below w2.heap.size w2 w' ∧ (ii = 0 ∨ ii < j)) (fun i _ => j + 1 - (intOf i).toNat)
        case atStart => exact ⟨0, rfl, Below.refl _ _, .inl rfl⟩
        case round =>
          obtain ⟨ii, rfl, hb, hij⟩ := hrel
          rename_i wr2 _
          have HB := Lib.hid hb
          clear m0 m1
          obtain ⟨m0, m1⟩ := HCEL.out _ hb
          clear hb
          have hk1 : (((ii + 1 : Nat) : Int)) = (ii : Int) + 1 := by omega
          by_cases hi : ii + 1 < j
          · have HG := Lib.hid (HGAP.out _ (ii + 1) HB.out (by omega))
            have hno : shIn (shP L (ii + 1)) (shQ L (ii + 1)) z = false := by
              rw [Bool.eq_false_iff]
              exact fun h => (HBEST.out.no rfl).2.2 (ii + 1) (by omega) hi ((shIn_is _ _ _).1 h)
            unfold ApPost at HG
            rw [hno] at HG
            generalize shGap (shP L (ii + 1)) (shQ L (ii + 1)) = g at *
            clear hno
            go_wp2_with fail
            refine HG.out.mono ?_
            rintro e w4 ⟨rfl, hb4⟩
            have HB4 := Lib.hid (HB.out.trans (hb4.mono HB.out.size))
            clear hb4
            go_wp2
            go_roundw
            case rel => exact ⟨ii + 1, by go_num, HB4.out, .inr hi⟩
            case measure => simp [intOf]; omega
          · go_wp2
            go_ret
            exact ⟨rfl, HBW.out _ HB.out⟩
      · obtain ⟨hk1, hk2, hfit, hdg, hbb⟩ := HBEST.out.yes rfl
        have HFIT := Lib.hid hfit
        have HBB := Lib.hid hbb
        have e7 : decide ((k : Int) < 1) = false := decide_eq_false (by omega)
        have e8 : decide ((j : Int) ≤ (k : Int)) = false := decide_eq_false (by omega)
        have e8' : decide (j ≤ k) = false := decide_eq_false (by omega)
        clear hfit hbb hdg
        go_wp2
        go_loopw [12] (fun i w' => ∃ ii : Nat, i = .int .i64 ((ii + 1 : Nat) : Int) ∧ Below w2.heap.size w2 w' ∧ (ii = 0 ∨ ii < j)) (fun i _ => j + 1 - (intOf i).toNat)
        case atStart => exact ⟨0, rfl, Below.refl _ _, .inl rfl⟩
        case round =>
          obtain ⟨ii, rfl, hb, hij⟩ := hrel
          have HB := Lib.hid hb
          clear m0 m1
          obtain ⟨m0, m1⟩ := HCEL.out _ hb
          clear hb
          have hk1' : (((ii + 1 : Nat) : Int)) = (ii : Int) + 1 := by omega
          by_cases hi : ii + 1 < j
          · have HG := Lib.hid (HGAP.out _ (ii + 1) HB.out (by omega))
            have HGK : Hid (∀ w', Below w2.heap.size w2 w' → Calls Try.prog 23 #[.int .i64 (k : Int), .pointer (some ⟨w.heap.size + 1, 0, none⟩), .pointer (some ⟨w.heap.size, 0, none⟩)] w' (ApPost w' (shP L k) (shQ L k) z)) := Lib.hid fun w' hb => HGAP.out w' k hb (by omega)
            have hin : shIn (shP L k) (shQ L k) z = true := (shIn_is _ _ _).2 HFIT.out
            unfold ApPost at HG HGK
            rw [hin] at HGK
            have hcmp : Hid (shIn (shP L (ii + 1)) (shQ L (ii + 1)) z = true → shGap (shP L k) (shQ L k) ≤ shGap (shP L (ii + 1)) (shQ L (ii + 1)) ∧ (ii + 1 < k → shGap (shP L k) (shQ L k) < shGap (shP L (ii + 1)) (shQ L (ii + 1)))) := Lib.hid fun h => HBB.out (ii + 1) (by omega) hi ((shIn_is _ _ _).1 h)
            generalize shGap (shP L (ii + 1)) (shQ L (ii + 1)) = g at *
            generalize shIn (shP L (ii + 1)) (shQ L (ii + 1)) z = fi at *
            generalize shGap (shP L k) (shQ L k) = g2 at *
            clear hin
            go_wp2_with fail
            refine HG.out.mono ?_
            rintro e w4 ⟨rfl, hb4⟩
            have HB4 := Lib.hid (HB.out.trans (hb4.mono HB.out.size))
            clear hb4
            go_wp2_with fail
            refine (HGK.out _ HB4.out).mono ?_
            rintro e w5 ⟨rfl, hb5⟩
            have HB5 := Lib.hid (HB4.out.trans (hb5.mono HB4.out.size))
            clear hb5 m0 m1
            cases fi
            · go_wp2
              go_roundw
              case rel => exact ⟨ii + 1, by go_num, HB5.out, .inr hi⟩
              case measure => simp [intOf]; omega
            · obtain ⟨h1, h2⟩ := hcmp.out rfl
              have d1 : decide (g < g2) = false := decide_eq_false (by omega)
              by_cases hgg : g = g2
              · have h3 : ¬ (ii + 1 < k) := fun h => by have := h2 h; omega
                subst hgg
                have d2 : decide ((ii : Int) + 1 < (k : Int)) = false := decide_eq_false (by omega)
                clear h2
                go_wp2
                go_roundw
                case rel => exact ⟨ii + 1, by go_num, HB5.out, .inr hi⟩
                case measure => simp [intOf]; omega
              · have d2 : (g == g2) = false := by simpa using hgg
                clear h2
                go_wp2
                go_roundw
                case rel => exact ⟨ii + 1, by go_num, HB5.out, .inr hi⟩
                case measure => simp [intOf]; omega
          · go_wp2
            go_ret
            exact ⟨rfl, HBW.out _ HB.out⟩

end Go.Proofs.Ytigmibmebockhaa
