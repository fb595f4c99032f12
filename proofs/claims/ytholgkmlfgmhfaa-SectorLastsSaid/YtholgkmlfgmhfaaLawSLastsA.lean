/-
  SectorLasts: behind a crash a sector that was flushed is, byte by byte, what it was, or what was written behind that, and no other: at most 512 bytes are flushed.
-/
import Derived.Test.YtholgkmlfgmhfaaSLasts
import Derived.LoopTactic
set_option linter.unusedVariables false
set_option maxRecDepth 100000
namespace Go.Proofs.Ytholgkmlfgmhfaa
open Go.RowKit

set_option maxHeartbeats 12800000 in
theorem law_lasts_a {w : World} {q0 : Option Addr} {n0 c0 : Nat} {l0 : List UInt8} (h0 : Bs w q0 l0) (hn0 : n0 = l0.length) (hc0 : n0 ≤ c0) (hc63 : c0 ≤ 9223372036854775807) (hbig : n0 ≤ 512) {q : Option Addr} {m c : Nat} {ls : List Bl} (h : BlsOk w q m c ls)
    {qk : Option Addr} {mk ck : Nat} {keep : List Int} (hk : KsOk w qk mk ck keep) :
    Calls Try.prog 5 #[.slice q0 n0 c0, .slice q m c, .slice qk mk ck] w fun e w' => e = .returned (.bool true) ∧ Below w.heap.size w w' := by
  have H := Lib.hid h
  have HKK := Lib.hid hk
  have hm63 : m ≤ 9223372036854775807 := Nat.le_trans h.h1 h.h2
  have hmk63 : mk ≤ 9223372036854775807 := Nat.le_trans hk.h1 hk.h2
  have HN : Hid (Calls Try.prog 9 #[.int .i64 2] w (NewPost2 w 2)) := Lib.hid (new_yes (by decide) (by decide))
  have hF5 : l0.length ≤ 512 := by omega
  have hFn : n0 = l0.length := hn0
  have hFb : Bs w q0 l0 := h0
  have hb1 : decide ((512 : Int) < (n0 : Int)) = false := decide_eq_false (by omega)
  have HF5 := Lib.hid hF5
  have HFN := Lib.hid hFn
  have HFB := Lib.hid hFb
  clear h hk h0 hn0 hF5 hFn hFb
  go_enter Try.func5, Try.ntmps5
  go_wp2_with fail
  generalize l0 = F at HF5 HFN HFB
  refine HN.out.mono ?_; rintro e w1 ⟨p, rfl, hd, hb, hp⟩
  have HB1 := Lib.hid hb
  have HW : Hid (Calls Try.prog 11 #[.pointer (some ⟨p, 0, none⟩), .int .i64 0, .slice q0 n0 c0] w1 fun e w' => e = .returned (.int .i64 0) ∧ DiskStep w1 w' w.heap.size p ((SD.new 2).write 0 F)) := Lib.hid (write_any hd (by decide) (by decide) (by decide) (by decide) (by decide) (by decide) c0 (Bytes.arg HFB.out hb) HFN.out HF5.out)
  clear hd hb hp HN
  go_wp2_with fail
  refine HW.out.mono ?_; rintro e w2 ⟨rfl, hs⟩
  have HFL : Hid (Calls Try.prog 13 #[.pointer (some ⟨p, 0, none⟩)] w2 fun e w' => e = .returned (.int .i64 0) ∧ DiskStep w2 w' w.heap.size p (laW F ls 0)) := Lib.hid (flush_any hs.disk (by show (-1 : Int) ≠ 0; decide) (by show (-1 : Int) ≤ -1; decide) (by show (-1 : Int) ≤ 9223372036854775807; decide) (by show (1 : Int) ≤ 1000000000; decide))
  have HB2 := Lib.hid (HB1.out.trans hs.below)
  clear hs HW HB1
  go_wp2_with fail
  refine HFL.out.mono ?_; rintro e w3 ⟨rfl, hs⟩
  have HD3 := Lib.hid hs.disk
  have HB3 := Lib.hid (HB2.out.trans hs.below)
  clear hs HFL HB2
  go_wp2
  go_loopw [9, 10] (fun v u wr => ∃ i nw : Nat, u = .int .i64 i ∧ v = .int .i64 nw ∧ nw = (laW F ls i).waits.length ∧ i ≤ m ∧ i ≤ 10 ∧ DiskAt wr w.heap.size p (laW F ls i) ∧ Below w.heap.size w wr) (fun _ u _ => 10 - (intOf u).toNat)
  case atStart => exact ⟨0, 0, rfl, rfl, rfl, by omega, by omega, HD3.out, HB3.out⟩
  case round =>
    obtain ⟨i, nw, rfl, rfl, hnw, him, hi10, hd, hb⟩ := hrel
    have HD := Lib.hid hd
    have HB := Lib.hid hb
    have HNW := Lib.hid hnw
    have hlf := laW_facts F ls i (by have := H.out.hn; omega)
    have HLF := Lib.hid hlf
    have hnw10 : nw ≤ 10 := by rw [hnw]; have := hlf.2.2.1; omega
    clear hd hb hnw hlf HD3 HB3
    by_cases hlt : i < m ∧ i < 10
    · obtain ⟨hlt1, hlt2⟩ := hlt
      have HLT : LtN i m := ⟨hlt1⟩
      have HLT2 : LtN i 10 := ⟨hlt2⟩
      obtain ⟨x, hx⟩ : ∃ x, ls[i]? = some x := ⟨_, List.getElem?_eq_getElem (by have := H.out.hn; omega)⟩
      obtain ⟨b, o, rfl, hc⟩ := (H.out.hl.below HB.out).at hx
      have hxo := H.out.ok x (List.mem_of_getElem? hx)
      have HXO := Lib.hid hxo
      have HSX := Lib.hid (laW_succ F ls i hx)
      have hi1 : (i : Int) < (m : Int) := by omega
      have hi2 : (i : Int) < 10 := by omega
      have hi0 : (0 : Int) ≤ (i : Int) := by omega
      obtain ⟨xn, hxn⟩ : ∃ n, n = x.l.length := ⟨_, rfl⟩
      rw [← hxn] at hc
      have HXN := Lib.hid hxn
      clear hxo hx hxn
      by_cases h5 : xn ≤ 512
      · have h5' : (xn : Int) ≤ 512 := by omega
        have HSX2 : Hid (laW F ls (i + 1) = (laW F ls i).write 0 x.l) := Lib.hid (by rw [HSX.out, if_pos (by have := HXN.out; omega)])
        have HW : Hid (Calls Try.prog 11 #[.pointer (some ⟨p, 0, none⟩), .int .i64 0, .slice x.q xn x.c] wr fun e w' => e = .returned (.int .i64 0) ∧ DiskStep wr w' w.heap.size p (laW F ls (i + 1))) := Lib.hid (by
          obtain ⟨q1, q2, q3, q4, _⟩ := HLF.out
          rw [HSX2.out]
          exact write_any HD.out (by rw [q1]; decide) (by rw [q1]; decide) (by rw [q1]; decide) (by omega) (by omega) (by rw [q4]; omega) x.c (Bytes.arg HXO.out.bs HB.out) HXN.out (by have := HXN.out; omega))
        go_wp2_with fail
        refine HW.out.mono ?_; rintro e w4 ⟨rfl, hs⟩
        have HD4 := Lib.hid hs.disk
        have HB4 := Lib.hid (HB.out.trans hs.below)
        clear hs HW
        go_wp2
        go_roundw
        case rel => exact ⟨i + 1, nw + 1, by go_num, by go_num, by rw [HSX2.out]; show _ = ((laW F ls i).waits ++ [_]).length; rw [List.length_append, ← HNW.out]; rfl, by have := HLT.h; omega, by have := HLT2.h; omega, HD4.out, HB4.out⟩
        case measure => have := HLT2.h; simp [intOf]; omega
      · have h5' : decide ((xn : Int) ≤ 512) = false := decide_eq_false (by omega)
        have HSX2 : Hid (laW F ls (i + 1) = laW F ls i) := Lib.hid (by rw [HSX.out, if_neg (by have := HXN.out; omega)])
        go_wp2
        go_roundw
        case rel => exact ⟨i + 1, nw, by go_num, rfl, by rw [HSX2.out]; exact HNW.out, by have := HLT.h; omega, by have := HLT2.h; omega, by rw [HSX2.out]; exact HD.out, HB.out⟩
        case measure => have := HLT2.h; simp [intOf]; omega
    · have hge : (decide ((i : Int) < (m : Int)) = false ∧ decide (i < m) = false) ∨ (decide ((i : Int) < (m : Int)) = true ∧ decide (i < m) = true ∧ decide ((i : Int) < 10) = false) := by
        by_cases h' : i < m
        · exact .inr ⟨decide_eq_true (by omega), decide_eq_true h', decide_eq_false (by omega)⟩
        · exact .inl ⟨decide_eq_false (by omega), decide_eq_false h'⟩
      have HIM : Hid (i = min m 10) := Lib.hid (by omega)
      have HIL : Hid (i ≤ ls.length) := Lib.hid (by have := H.out.hn; omega)
      clear hlt
      revert HD HB
      generalize wr = w4
      intro HD HB
      have HWT : Hid (Calls Try.prog 19 #[.pointer (some ⟨p, 0, none⟩)] w4 fun e w' => e = .returned (.int .i64 (nw : Int)) ∧ w4 = w') := Lib.hid (by have := waiting_any HD.out; rwa [← HNW.out] at this)
      have HWT2 : Hid (∀ w', Below w4.heap.size w4 w' → Calls Try.prog 19 #[.pointer (some ⟨p, 0, none⟩)] w' fun e w2 => e = .returned (.int .i64 (nw : Int)) ∧ w' = w2) := Lib.hid (fun w' hb => by have := waiting_any (HD.out.below hb); rwa [← HNW.out] at this)
      have HCR : Hid (Calls Try.prog 16 #[.pointer (some ⟨p, 0, none⟩), .slice qk mk ck] w4 (CrashPost w4 ((laW F ls i).crash keep))) := Lib.hid (crash_any HD.out (HKK.out.hl.below HB.out) HKK.out.hn hmk63)
      clear HWT
      obtain ⟨R, hR⟩ : ∃ R, R = ((laW F ls i).crash keep).read 0 := ⟨_, rfl⟩
      have HR := Lib.hid hR
      have HRL : Hid (R.length = 512) := Lib.hid (by rw [hR]; exact read_len (S := (laW F ls i).crash keep) ⟨HD.out.ok.s1, HD.out.ok.s2, kept_len HD.out.ok.l _ (fun p hp => (HD.out.ok.w p.1 (List.of_mem_zip (show (p.1, p.2) ∈ _ from hp)).1).1), (fun x hx => by cases hx), by show (0 : Int) ≤ 0; decide, by show (0 : Int) ≤ 0; decide⟩ 0)
      clear hR
      rcases hge with ⟨hge, hgeN⟩ | ⟨hge, hgeN, hge2⟩
      · go_wp2_with fail
        refine HCR.out.mono ?_; rintro e w5 ⟨p', rfl, hc5, hb5⟩
        have HC5 := Lib.hid hc5
        have HB5 := Lib.hid (HB.out.trans (hb5.mono HB.out.size))
        have HW5 := Lib.hid (HWT2.out _ hb5)
        have HV5 : Hid (Calls Try.prog 19 #[.pointer (some ⟨p', 0, none⟩)] w5 fun e w2 => e = .returned (.int .i64 0) ∧ w5 = w2) := Lib.hid (waiting_any hc5)
        clear hc5 hb5 HCR HWT2
        go_wp2_with fail
        refine HW5.out.mono ?_; rintro e w6 ⟨rfl, rfl⟩
        go_wp2_with fail
        refine HV5.out.mono ?_; rintro e w6 ⟨rfl, rfl⟩
        have HR0 : Hid (Calls Try.prog 21 #[.pointer (some ⟨p', 0, none⟩), .int .i64 0] w5 (ReadPost w5 R)) := Lib.hid (by rw [HR.out]; exact read_any HC5.out (by decide) (by show (0 : Int) < (laW F ls i).size; rw [HLF.out.2.2.2.1]; decide))
        go_wp2_with fail
        refine HR0.out.mono ?_; rintro e w6 ⟨g1, rfl, _, hs6, hb6⟩
        have HR1 : Hid (Calls Try.prog 21 #[.pointer (some ⟨p', 0, none⟩), .int .i64 1] w6 (ReadPost w6 (zeros 512))) := Lib.hid (by
          have := read_any (HC5.out.below hb6) (k := 1) (by decide) (by show (1 : Int) < (laW F ls i).size; rw [HLF.out.2.2.2.1]; decide)
          rwa [other_at F ls HIL.out keep] at this)
        have HS6 := Lib.hid hs6
        have HB6 := Lib.hid (HB5.out.trans (hb6.mono HB5.out.size))
        clear hs6 hb6 HR0 HW5 HV5 HC5 HB5
        go_wp2_with fail
        refine HR1.out.mono ?_; rintro e w7 ⟨g2, rfl, _, hs7, hb7⟩
        have HE7 : Hid (LaEnd w w7 g1 g2 R) := Lib.hid ⟨HS6.out.below hb7, hs7, HB6.out.trans (hb7.mono HB6.out.size)⟩
        clear hs7 hb7 HR1 HS6 HB6 HD HB
        go_wp2
        go_loopw [16] (fun u wr => ∃ a : Nat, u = .int .i64 a ∧ a ≤ 512 ∧ LaEnd w wr g1 g2 R) (fun u _ => 512 - (intOf u).toNat)
        case atStart => exact ⟨0, rfl, by omega, HE7.out⟩
        case round =>
          obtain ⟨a, rfl, ha, hE⟩ := hrel
          have HE := Lib.hid hE
          by_cases ha5 : a < 512
          · have HLT : LtN a 512 := ⟨ha5⟩
            obtain ⟨bt, hbt⟩ : ∃ bt, R[a]? = some bt := ⟨_, List.getElem?_eq_getElem (by rw [HRL.out]; exact ha5)⟩
            have hcB : ∀ w', Below wr.heap.size wr w' → w'.cell? ⟨g1, a, none⟩ = some (.int .u8 (bt.toNat : Int)) ∧ w'.cell? ⟨g2, a, none⟩ = some (.int .u8 0) := fun w' hb => by
              have h' := hE.on hb
              refine ⟨by rw [Joins.cell_of_block h'.b]; simp [u8s, hbt], by rw [Joins.cell_of_block h'.o]; simpa using zeros_at ha5⟩
            have HCB := Lib.hid hcB
            have hcw := hcB wr (Below.refl _ _)
            obtain ⟨cb1, cb2⟩ := hcw
            have AT0 : Hid (∀ w', Below wr.heap.size wr w' → Calls Try.prog 23 #[.slice q0 n0 c0, .int .i64 (a : Int)] w' fun e w2 => e = .returned (.int .u8 ((atB F a).toNat : Int)) ∧ w2 = w') := Lib.hid fun w' hb => at_any ((HFB.out.below hE.below).below hb) c0 HFN.out (by have := HFN.out; have := HF5.out; omega) a
            have AT0N : Hid (∀ n, Calls Try.prog 23 #[.slice q0 n0 c0, .int .i64 (a : Int)] (wr.drewN n) fun e w2 => e = .returned (.int .u8 ((atB F a).toNat : Int)) ∧ w2 = wr.drewN n) := Lib.hid fun n => AT0.out _ (belowN (Below.refl _ _) n)
            have HEND := Lib.hid (okK_end HF5.out HIL.out keep ha5 (b := bt) (by rw [← HR.out]; exact hbt))
            have ha0 : (0 : Int) ≤ (a : Int) := by omega
            have ha1 : (a : Int) < 512 := by omega
            clear hE hbt hcB HE7
            go_wp2_with fail
            go_quiet ((go_at_call 23; with_reducible exact Calls.quiet_of_same (AT0N.out _)))
            have HB8 : Hid (Below wr.heap.size wr (wr.drewN nq)) := Lib.hid (belowN (Below.refl _ _) nq)
            generalize wr.drewN nq = w8 at HB8 ⊢
            obtain ⟨wa, hwa⟩ : ∃ x, x = wr := ⟨_, rfl⟩
            subst hwa
            clear cb1 cb2 AT0N
            go_wp2
            go_loopw [17, 18] (fun v u wr => ∃ k : Nat, u = .int .i64 k ∧ v = .bool (okK bt F ls a k) ∧ k ≤ m ∧ k ≤ 10 ∧ Below wa.heap.size wa wr) (fun _ u _ => 10 - (intOf u).toNat)
            case atStart => exact ⟨0, rfl, by simp [okK], by omega, by omega, HB8.out⟩
            case round =>
              obtain ⟨k, rfl, rfl, hkm, hk10, hbk⟩ := hrel
              have HBK := Lib.hid hbk
              obtain ⟨cb1, cb2⟩ := HCB.out _ hbk
              have HBW := Lib.hid (HE.out.below.trans (hbk.mono HE.out.below.size))
              have hk0 : (0 : Int) ≤ (k : Int) := by omega
              by_cases hkl : k < m ∧ k < 10
              · obtain ⟨hkl1, hkl2⟩ := hkl
                have KLT : LtN k m := ⟨hkl1⟩
                have KLT2 : LtN k 10 := ⟨hkl2⟩
                obtain ⟨x, hx⟩ : ∃ x, ls[k]? = some x := ⟨_, List.getElem?_eq_getElem (by have := H.out.hn; omega)⟩
                obtain ⟨b, o, rfl, hc⟩ := (H.out.hl.below HBW.out).at hx
                have HXO := Lib.hid (H.out.ok x (List.mem_of_getElem? hx))
                have HOS := Lib.hid (okK_succ (b := bt) (F := F) (i := a) hx)
                have hk1 : (k : Int) < (m : Int) := by omega
                have hk2 : (k : Int) < 10 := by omega
                obtain ⟨xn, hxn⟩ : ∃ n, n = x.l.length := ⟨_, rfl⟩
                rw [← hxn] at hc
                have HXN := Lib.hid hxn
                clear hx hxn hbk HB8
                cases hok : okK bt F ls a k
                · by_cases h5 : xn ≤ 512
                  · have h5' : (xn : Int) ≤ 512 := by omega
                    have ATX : Hid (∀ n, Calls Try.prog 23 #[.slice x.q xn x.c, .int .i64 (a : Int)] (wr.drewN n) fun e w2 => e = .returned (.int .u8 ((atB x.l a).toNat : Int)) ∧ w2 = wr.drewN n) := Lib.hid fun n => at_any ((HXO.out.bs.below HBW.out).drewN n) x.c HXN.out (by omega) a
                    have HN1 : Hid (okK bt F ls a (k + 1) = (((bt.toNat : Int)) == (((atB x.l a).toNat : Int)))) := Lib.hid (by rw [HOS.out, hok, ← HXN.out, decide_eq_true h5]; simp)
                    clear HOS hok
                    go_wp2_with fail
                    go_quiet ((go_at_call 23; with_reducible exact Calls.quiet_of_same (ATX.out _)))
                    go_wp2
                    go_roundw
                    case rel => exact ⟨k + 1, by go_num, by rw [HN1.out], by have := KLT.h; omega, by have := KLT2.h; omega, HBK.out.trans (belowN (Below.refl _ _) nq)⟩
                    case measure => have := KLT2.h; simp [intOf]; omega
                  · have h5' : decide ((xn : Int) ≤ 512) = false := decide_eq_false (by omega)
                    have HN1 : Hid (okK bt F ls a (k + 1) = false) := Lib.hid (by rw [HOS.out, hok, ← HXN.out, decide_eq_false h5]; rfl)
                    clear HOS hok
                    go_wp2_with fail
                    go_quiet (fail)
                    go_wp2
                    go_roundw
                    case rel => exact ⟨k + 1, by go_num, by rw [HN1.out], by have := KLT.h; omega, by have := KLT2.h; omega, HBK.out.trans (belowN (Below.refl _ _) nq)⟩
                    case measure => have := KLT2.h; simp [intOf]; omega
                · have HN1 : Hid (okK bt F ls a (k + 1) = true) := Lib.hid (by rw [HOS.out, hok]; rfl)
                  clear HOS hok
                  go_wp2_with fail
                  go_quiet (fail)
                  go_wp2
                  go_roundw
                  case rel => exact ⟨k + 1, by go_num, by rw [HN1.out], by have := KLT.h; omega, by have := KLT2.h; omega, HBK.out.trans (belowN (Below.refl _ _) nq)⟩
                  case measure => have := KLT2.h; simp [intOf]; omega
              · have hki : k = i := by have := HIM.out; omega
                have hok : okK bt F ls a k = true := by rw [hki]; exact HEND.out.1
                rw [hok]
                have hke : (decide ((k : Int) < (m : Int)) = false ∧ decide (k < m) = false) ∨ (decide ((k : Int) < (m : Int)) = true ∧ decide (k < m) = true ∧ decide ((k : Int) < 10) = false) := by
                  by_cases h' : k < m
                  · exact .inr ⟨decide_eq_true (by omega), decide_eq_true h', decide_eq_false (by omega)⟩
                  · exact .inl ⟨decide_eq_false (by omega), decide_eq_false h'⟩
                have AT1 : Hid (∀ n, Calls Try.prog 23 #[.slice q0 n0 c0, .int .i64 (a : Int)] (wr.drewN n) fun e w2 => e = .returned (.int .u8 ((atB F a).toNat : Int)) ∧ w2 = wr.drewN n) := Lib.hid fun n => AT0.out _ (hbk.trans (belowN (Below.refl _ _) n))
                clear hkl hki hok hbk HB8
                by_cases hmk : mk = 0
                · have hbe : bt = atB F a := HEND.out.2 (List.eq_nil_of_length_eq_zero (by rw [← HKK.out.hn]; exact hmk))
                  subst hmk
                  rw [← hbe] at AT1
                  clear hbe
                  rcases hke with ⟨hke, hkeN⟩ | ⟨hke, hkeN, hke2⟩
                  · go_wp2_with fail
                    go_quiet ((go_at_call 23; with_reducible exact Calls.quiet_of_same (AT1.out _)))
                    go_wp2
                    go_roundw
                    case rel => exact ⟨a + 1, by go_num, by have := HLT.h; omega, HE.out.on (HBK.out.trans (belowN (Below.refl _ _) nq))⟩
                    case measure => have := HLT.h; simp [intOf]; omega
                  · go_wp2_with fail
                    go_quiet ((go_at_call 23; with_reducible exact Calls.quiet_of_same (AT1.out _)))
                    go_wp2
                    go_roundw
                    case rel => exact ⟨a + 1, by go_num, by have := HLT.h; omega, HE.out.on (HBK.out.trans (belowN (Below.refl _ _) nq))⟩
                    case measure => have := HLT.h; simp [intOf]; omega
                · have hmk1 : decide ((mk : Int) = 0) = false := decide_eq_false (by omega)
                  have hmk2 : ((mk : Int) == 0) = false := by rw [beq_eq_false_iff_ne]; omega
                  have hmk3 : decide (mk = 0) = false := decide_eq_false hmk
                  rcases hke with ⟨hke, hkeN⟩ | ⟨hke, hkeN, hke2⟩
                  · go_wp2_with fail
                    go_quiet (fail)
                    go_wp2
                    go_roundw
                    case rel => exact ⟨a + 1, by go_num, by have := HLT.h; omega, HE.out.on (HBK.out.trans (belowN (Below.refl _ _) nq))⟩
                    case measure => have := HLT.h; simp [intOf]; omega
                  · go_wp2_with fail
                    go_quiet (fail)
                    go_wp2
                    go_roundw
                    case rel => exact ⟨a + 1, by go_num, by have := HLT.h; omega, HE.out.on (HBK.out.trans (belowN (Below.refl _ _) nq))⟩
                    case measure => have := HLT.h; simp [intOf]; omega
          · have ha' : a = 512 := by omega
            subst ha'
            go_wp2
            go_ret
            exact ⟨rfl, HE.out.below⟩
      · go_wp2_with fail
        refine HCR.out.mono ?_; rintro e w5 ⟨p', rfl, hc5, hb5⟩
        have HC5 := Lib.hid hc5
        have HB5 := Lib.hid (HB.out.trans (hb5.mono HB.out.size))
        have HW5 := Lib.hid (HWT2.out _ hb5)
        have HV5 : Hid (Calls Try.prog 19 #[.pointer (some ⟨p', 0, none⟩)] w5 fun e w2 => e = .returned (.int .i64 0) ∧ w5 = w2) := Lib.hid (waiting_any hc5)
        clear hc5 hb5 HCR HWT2
        go_wp2_with fail
        refine HW5.out.mono ?_; rintro e w6 ⟨rfl, rfl⟩
        go_wp2_with fail
        refine HV5.out.mono ?_; rintro e w6 ⟨rfl, rfl⟩
        have HR0 : Hid (Calls Try.prog 21 #[.pointer (some ⟨p', 0, none⟩), .int .i64 0] w5 (ReadPost w5 R)) := Lib.hid (by rw [HR.out]; exact read_any HC5.out (by decide) (by show (0 : Int) < (laW F ls i).size; rw [HLF.out.2.2.2.1]; decide))
        go_wp2_with fail
        refine HR0.out.mono ?_; rintro e w6 ⟨g1, rfl, _, hs6, hb6⟩
        have HR1 : Hid (Calls Try.prog 21 #[.pointer (some ⟨p', 0, none⟩), .int .i64 1] w6 (ReadPost w6 (zeros 512))) := Lib.hid (by
          have := read_any (HC5.out.below hb6) (k := 1) (by decide) (by show (1 : Int) < (laW F ls i).size; rw [HLF.out.2.2.2.1]; decide)
          rwa [other_at F ls HIL.out keep] at this)
        have HS6 := Lib.hid hs6
        have HB6 := Lib.hid (HB5.out.trans (hb6.mono HB5.out.size))
        clear hs6 hb6 HR0 HW5 HV5 HC5 HB5
        go_wp2_with fail
        refine HR1.out.mono ?_; rintro e w7 ⟨g2, rfl, _, hs7, hb7⟩
        have HE7 : Hid (LaEnd w w7 g1 g2 R) := Lib.hid ⟨HS6.out.below hb7, hs7, HB6.out.trans (hb7.mono HB6.out.size)⟩
        clear hs7 hb7 HR1 HS6 HB6 HD HB
        go_wp2
        go_loopw [16] (fun u wr => ∃ a : Nat, u = .int .i64 a ∧ a ≤ 512 ∧ LaEnd w wr g1 g2 R) (fun u _ => 512 - (intOf u).toNat)
        case atStart => exact ⟨0, rfl, by omega, HE7.out⟩
        case round =>
          obtain ⟨a, rfl, ha, hE⟩ := hrel
          have HE := Lib.hid hE
          by_cases ha5 : a < 512
          · have HLT : LtN a 512 := ⟨ha5⟩
            obtain ⟨bt, hbt⟩ : ∃ bt, R[a]? = some bt := ⟨_, List.getElem?_eq_getElem (by rw [HRL.out]; exact ha5)⟩
            have hcB : ∀ w', Below wr.heap.size wr w' → w'.cell? ⟨g1, a, none⟩ = some (.int .u8 (bt.toNat : Int)) ∧ w'.cell? ⟨g2, a, none⟩ = some (.int .u8 0) := fun w' hb => by
              have h' := hE.on hb
              refine ⟨by rw [Joins.cell_of_block h'.b]; simp [u8s, hbt], by rw [Joins.cell_of_block h'.o]; simpa using zeros_at ha5⟩
            have HCB := Lib.hid hcB
            have hcw := hcB wr (Below.refl _ _)
            obtain ⟨cb1, cb2⟩ := hcw
            have AT0 : Hid (∀ w', Below wr.heap.size wr w' → Calls Try.prog 23 #[.slice q0 n0 c0, .int .i64 (a : Int)] w' fun e w2 => e = .returned (.int .u8 ((atB F a).toNat : Int)) ∧ w2 = w') := Lib.hid fun w' hb => at_any ((HFB.out.below hE.below).below hb) c0 HFN.out (by have := HFN.out; have := HF5.out; omega) a
            have AT0N : Hid (∀ n, Calls Try.prog 23 #[.slice q0 n0 c0, .int .i64 (a : Int)] (wr.drewN n) fun e w2 => e = .returned (.int .u8 ((atB F a).toNat : Int)) ∧ w2 = wr.drewN n) := Lib.hid fun n => AT0.out _ (belowN (Below.refl _ _) n)
            have HEND := Lib.hid (okK_end HF5.out HIL.out keep ha5 (b := bt) (by rw [← HR.out]; exact hbt))
            have ha0 : (0 : Int) ≤ (a : Int) := by omega
            have ha1 : (a : Int) < 512 := by omega
            clear hE hbt hcB HE7
            go_wp2_with fail
            go_quiet ((go_at_call 23; with_reducible exact Calls.quiet_of_same (AT0N.out _)))
            have HB8 : Hid (Below wr.heap.size wr (wr.drewN nq)) := Lib.hid (belowN (Below.refl _ _) nq)
            generalize wr.drewN nq = w8 at HB8 ⊢
            obtain ⟨wa, hwa⟩ : ∃ x, x = wr := ⟨_, rfl⟩
            subst hwa
            clear cb1 cb2 AT0N
            go_wp2
            go_loopw [17, 18] (fun v u wr => ∃ k : Nat, u = .int .i64 k ∧ v = .bool (okK bt F ls a k) ∧ k ≤ m ∧ k ≤ 10 ∧ Below wa.heap.size wa wr) (fun _ u _ => 10 - (intOf u).toNat)
            case atStart => exact ⟨0, rfl, by simp [okK], by omega, by omega, HB8.out⟩
            case round =>
              obtain ⟨k, rfl, rfl, hkm, hk10, hbk⟩ := hrel
              have HBK := Lib.hid hbk
              obtain ⟨cb1, cb2⟩ := HCB.out _ hbk
              have HBW := Lib.hid (HE.out.below.trans (hbk.mono HE.out.below.size))
              have hk0 : (0 : Int) ≤ (k : Int) := by omega
              by_cases hkl : k < m ∧ k < 10
              · obtain ⟨hkl1, hkl2⟩ := hkl
                have KLT : LtN k m := ⟨hkl1⟩
                have KLT2 : LtN k 10 := ⟨hkl2⟩
                obtain ⟨x, hx⟩ : ∃ x, ls[k]? = some x := ⟨_, List.getElem?_eq_getElem (by have := H.out.hn; omega)⟩
                obtain ⟨b, o, rfl, hc⟩ := (H.out.hl.below HBW.out).at hx
                have HXO := Lib.hid (H.out.ok x (List.mem_of_getElem? hx))
                have HOS := Lib.hid (okK_succ (b := bt) (F := F) (i := a) hx)
                have hk1 : (k : Int) < (m : Int) := by omega
                have hk2 : (k : Int) < 10 := by omega
                obtain ⟨xn, hxn⟩ : ∃ n, n = x.l.length := ⟨_, rfl⟩
                rw [← hxn] at hc
                have HXN := Lib.hid hxn
                clear hx hxn hbk HB8
                cases hok : okK bt F ls a k
                · by_cases h5 : xn ≤ 512
                  · have h5' : (xn : Int) ≤ 512 := by omega
                    have ATX : Hid (∀ n, Calls Try.prog 23 #[.slice x.q xn x.c, .int .i64 (a : Int)] (wr.drewN n) fun e w2 => e = .returned (.int .u8 ((atB x.l a).toNat : Int)) ∧ w2 = wr.drewN n) := Lib.hid fun n => at_any ((HXO.out.bs.below HBW.out).drewN n) x.c HXN.out (by omega) a
                    have HN1 : Hid (okK bt F ls a (k + 1) = (((bt.toNat : Int)) == (((atB x.l a).toNat : Int)))) := Lib.hid (by rw [HOS.out, hok, ← HXN.out, decide_eq_true h5]; simp)
                    clear HOS hok
                    go_wp2_with fail
                    go_quiet ((go_at_call 23; with_reducible exact Calls.quiet_of_same (ATX.out _)))
                    go_wp2
                    go_roundw
                    case rel => exact ⟨k + 1, by go_num, by rw [HN1.out], by have := KLT.h; omega, by have := KLT2.h; omega, HBK.out.trans (belowN (Below.refl _ _) nq)⟩
                    case measure => have := KLT2.h; simp [intOf]; omega
                  · have h5' : decide ((xn : Int) ≤ 512) = false := decide_eq_false (by omega)
                    have HN1 : Hid (okK bt F ls a (k + 1) = false) := Lib.hid (by rw [HOS.out, hok, ← HXN.out, decide_eq_false h5]; rfl)
                    clear HOS hok
                    go_wp2_with fail
                    go_quiet (fail)
                    go_wp2
                    go_roundw
                    case rel => exact ⟨k + 1, by go_num, by rw [HN1.out], by have := KLT.h; omega, by have := KLT2.h; omega, HBK.out.trans (belowN (Below.refl _ _) nq)⟩
                    case measure => have := KLT2.h; simp [intOf]; omega
                · have HN1 : Hid (okK bt F ls a (k + 1) = true) := Lib.hid (by rw [HOS.out, hok]; rfl)
                  clear HOS hok
                  go_wp2_with fail
                  go_quiet (fail)
                  go_wp2
                  go_roundw
                  case rel => exact ⟨k + 1, by go_num, by rw [HN1.out], by have := KLT.h; omega, by have := KLT2.h; omega, HBK.out.trans (belowN (Below.refl _ _) nq)⟩
                  case measure => have := KLT2.h; simp [intOf]; omega
              · have hki : k = i := by have := HIM.out; omega
                have hok : okK bt F ls a k = true := by rw [hki]; exact HEND.out.1
                rw [hok]
                have hke : (decide ((k : Int) < (m : Int)) = false ∧ decide (k < m) = false) ∨ (decide ((k : Int) < (m : Int)) = true ∧ decide (k < m) = true ∧ decide ((k : Int) < 10) = false) := by
                  by_cases h' : k < m
                  · exact .inr ⟨decide_eq_true (by omega), decide_eq_true h', decide_eq_false (by omega)⟩
                  · exact .inl ⟨decide_eq_false (by omega), decide_eq_false h'⟩
                have AT1 : Hid (∀ n, Calls Try.prog 23 #[.slice q0 n0 c0, .int .i64 (a : Int)] (wr.drewN n) fun e w2 => e = .returned (.int .u8 ((atB F a).toNat : Int)) ∧ w2 = wr.drewN n) := Lib.hid fun n => AT0.out _ (hbk.trans (belowN (Below.refl _ _) n))
                clear hkl hki hok hbk HB8
                by_cases hmk : mk = 0
                · have hbe : bt = atB F a := HEND.out.2 (List.eq_nil_of_length_eq_zero (by rw [← HKK.out.hn]; exact hmk))
                  subst hmk
                  rw [← hbe] at AT1
                  clear hbe
                  rcases hke with ⟨hke, hkeN⟩ | ⟨hke, hkeN, hke2⟩
                  · go_wp2_with fail
                    go_quiet ((go_at_call 23; with_reducible exact Calls.quiet_of_same (AT1.out _)))
                    go_wp2
                    go_roundw
                    case rel => exact ⟨a + 1, by go_num, by have := HLT.h; omega, HE.out.on (HBK.out.trans (belowN (Below.refl _ _) nq))⟩
                    case measure => have := HLT.h; simp [intOf]; omega
                  · go_wp2_with fail
                    go_quiet ((go_at_call 23; with_reducible exact Calls.quiet_of_same (AT1.out _)))
                    go_wp2
                    go_roundw
                    case rel => exact ⟨a + 1, by go_num, by have := HLT.h; omega, HE.out.on (HBK.out.trans (belowN (Below.refl _ _) nq))⟩
                    case measure => have := HLT.h; simp [intOf]; omega
                · have hmk1 : decide ((mk : Int) = 0) = false := decide_eq_false (by omega)
                  have hmk2 : ((mk : Int) == 0) = false := by rw [beq_eq_false_iff_ne]; omega
                  have hmk3 : decide (mk = 0) = false := decide_eq_false hmk
                  rcases hke with ⟨hke, hkeN⟩ | ⟨hke, hkeN, hke2⟩
                  · go_wp2_with fail
                    go_quiet (fail)
                    go_wp2
                    go_roundw
                    case rel => exact ⟨a + 1, by go_num, by have := HLT.h; omega, HE.out.on (HBK.out.trans (belowN (Below.refl _ _) nq))⟩
                    case measure => have := HLT.h; simp [intOf]; omega
                  · go_wp2_with fail
                    go_quiet (fail)
                    go_wp2
                    go_roundw
                    case rel => exact ⟨a + 1, by go_num, by have := HLT.h; omega, HE.out.on (HBK.out.trans (belowN (Below.refl _ _) nq))⟩
                    case measure => have := HLT.h; simp [intOf]; omega
          · have ha' : a = 512 := by omega
            subst ha'
            go_wp2
            go_ret
            exact ⟨rfl, HE.out.below⟩

end Go.Proofs.Ytholgkmlfgmhfaa
