/-
  SectorFlushes: behind a Flush a crash finds all that was written, whatever is kept; without it, what is kept whole.
-/
import Derived.Test.YtholgkmlfgmhfaaSLaw
import Derived.LoopTactic
set_option linter.unusedVariables false
set_option maxRecDepth 100000
namespace Go.Proofs.Ytholgkmlfgmhfaa
open Go.RowKit

/-- The disk behind i of the writes. -/
def flW (ls : List Bl) : Nat → SD
  | 0 => SD.new 20
  | i + 1 => (flW ls i).write i (match ls[i]? with | some x => x.l | none => [])

theorem flW_succ (ls : List Bl) (i : Nat) {x : Bl} (hx : ls[i]? = some x) : flW ls (i + 1) = (flW ls i).write i x.l := by
  show (flW ls i).write i _ = _
  rw [hx]
theorem flW_facts (ls : List Bl) : ∀ i : Nat, (flW ls i).left = -1 ∧ (flW ls i).ops = i ∧ (flW ls i).waits.length = i ∧ (flW ls i).size = 20
  | 0 => ⟨rfl, rfl, rfl, rfl⟩
  | i + 1 => by
    obtain ⟨h1, h2, h3, h4⟩ := flW_facts ls i
    refine ⟨?_, ?_, ?_, h4⟩
    · show (if 0 < (flW ls i).left then (flW ls i).left - 1 else (flW ls i).left) = _
      rw [h1, if_neg (by decide)]
    · show (flW ls i).ops + 1 = _
      rw [h2]
      omega
    · show ((flW ls i).waits ++ [_]).length = _
      rw [List.length_append, h3]
      rfl

/-- Both disks tell the same. -/
structure FlEnd (wr : World) (B p p' : Nat) (w : World) (S C : SD) : Prop where
  d : DiskAt wr B p S
  c : DiskAt wr B p' C
  below : Below w.heap.size w wr
  same : ∀ k, C.read k = S.read k
  s : S.size = 20
  s' : C.size = 20
theorem FlEnd.on {wr wr' : World} {B p p' : Nat} {w : World} {S C : SD} (h : FlEnd wr B p p' w S C) (hb : Below wr.heap.size wr wr') : FlEnd wr' B p p' w S C := ⟨h.d.below hb, h.c.below hb, h.below.trans (hb.mono h.below.size), h.same, h.s, h.s'⟩

set_option maxHeartbeats 6400000 in
theorem law_flushes {w : World} {q : Option Addr} {m c : Nat} {ls : List Bl} (h : BlsOk w q m c ls) (fl : Bool) :
    Calls Try.prog 7 #[.slice q m c, .bool fl] w fun e w' => e = .returned (.bool true) ∧ Below w.heap.size w w' := by
  have H := Lib.hid h
  have hm63 : m ≤ 9223372036854775807 := Nat.le_trans h.h1 h.h2
  have HN : Hid (Calls Try.prog 9 #[.int .i64 20] w (NewPost2 w 20)) := Lib.hid (new_yes (by decide) (by decide))
  clear h
  go_enter Try.func7, Try.ntmps7
  go_wp2_with fail
  refine HN.out.mono ?_; rintro e w1 ⟨p, rfl, hd, hb, hp⟩
  have HD1 : Hid (DiskAt w1 w.heap.size p (flW ls 0)) := Lib.hid hd
  have HB1 := Lib.hid hb
  have HO1 := Lib.hid (OwnI.nil w1 w.heap.size)
  clear hd hb hp HN
  go_wp2
  go_loopw [7, 8] (fun v u wr => ∃ i : Nat, u = .int .i64 i ∧ i ≤ m ∧ i ≤ 20 ∧ DiskAt wr w.heap.size p (flW ls i) ∧ OwnI wr w.heap.size v (List.replicate i 512) ∧ Below w.heap.size w wr) (fun _ u _ => 20 - (intOf u).toNat)
  case atStart => exact ⟨0, rfl, by omega, by omega, HD1.out, HO1.out, HB1.out⟩
  case round =>
    obtain ⟨i, rfl, him, hi20, hd, hv, hb⟩ := hrel
    have HD := Lib.hid hd
    have HV := Lib.hid hv
    have HB := Lib.hid hb
    obtain ⟨kq, kc, hv', HKS⟩ := hv.form
    rw [List.length_replicate] at hv'
    subst hv'
    have HKS := Lib.hid HKS
    clear hd hv hb
    by_cases hlt : i < m ∧ i < 20
    · obtain ⟨hlt1, hlt2⟩ := hlt
      have HLT : LtN i m := ⟨hlt1⟩
      have HLT2 : LtN i 20 := ⟨hlt2⟩
      obtain ⟨x, hx⟩ : ∃ x, ls[i]? = some x := ⟨_, List.getElem?_eq_getElem (by have := H.out.hn; omega)⟩
      obtain ⟨b, o, rfl, hc⟩ := (H.out.hl.below HB.out).at hx
      have hxo := H.out.ok x (List.mem_of_getElem? hx)
      have HXO := Lib.hid hxo
      have HX := Lib.hid hx
      have hi1 : (i : Int) < (m : Int) := by omega
      have hi2 : (i : Int) < 20 := by omega
      have hi0 : (0 : Int) ≤ (i : Int) := by omega
      obtain ⟨xn, hxn⟩ : ∃ n, n = x.l.length := ⟨_, rfl⟩
      rw [← hxn] at hc
      have HXN := Lib.hid hxn
      clear hxo hx hxn
      by_cases h5 : xn ≤ 512
      · have h5' : ¬ ((512 : Int) < (xn : Int)) := by omega
        have HW : Hid (Calls Try.prog 11 #[.pointer (some ⟨p, 0, none⟩), .int .i64 (i : Int), .slice x.q xn x.c] wr fun e w' => e = .returned (.int .i64 0) ∧ DiskStep wr w' w.heap.size p (flW ls (i + 1))) := Lib.hid (by
          obtain ⟨q1, q2, q3, q4⟩ := flW_facts ls i
          rw [flW_succ ls i HX.out]
          exact write_any HD.out (by rw [q1]; decide) (by rw [q1]; decide) (by rw [q1]; decide) (by rw [q2]; omega) (by omega) (by rw [q4]; omega) x.c (Bytes.arg HXO.out.bs HB.out) HXN.out (by have := HXN.out; omega))
        go_wp2_with fail
        refine HW.out.mono ?_; rintro e w2 ⟨rfl, hs⟩
        have HD2 := Lib.hid hs.disk
        have HB2 := Lib.hid (HB.out.trans hs.below)
        have HV2 := Lib.hid (HV.out.keeps hs.keeps)
        clear hs HW
        go_wp2_with (at_builtin; refine app_int rfl (.tmp 57) (.tmp 58) rfl rfl (World.ownsRow.alloc HV2.out _) rfl ((Joins.cell_of_block (heap_alloc_new w2 _) 0).trans rfl) (by rw [List.length_replicate]; omega) (Nat.le_trans HB2.out.size (sbox1 _ _).size) ?_; intro v3 w3 ho3 hb3 hk3; have HO3 := Lib.hid ho3; have HB3 := Lib.hid (HB2.out.trans (((sbox1 w2 _).mono HB2.out.size).trans hb3)); have HD3 := Lib.hid ((HD2.out.below (sbox1 w2 _)).keeps hk3 isInt_disk isInt_u8); clear ho3 hb3 hk3)
        go_roundw
        case rel => exact ⟨i + 1, by go_num, by have := HLT.h; omega, by have := HLT2.h; omega, HD3.out, by rw [List.replicate_succ']; exact HO3.out, HB3.out⟩
        case measure => have := HLT2.h; simp [intOf]; omega
      · have h5' : (512 : Int) < (xn : Int) := by omega
        go_wp2
        go_ret
        exact ⟨rfl, HB.out⟩
    · have hx1 : ¬ ((i : Int) < (m : Int)) ∨ ¬ ((i : Int) < 20) := by omega
      have hge : (decide ((i : Int) < (m : Int)) = false ∧ decide (i < m) = false) ∨ (decide ((i : Int) < (m : Int)) = true ∧ decide (i < m) = true ∧ decide ((i : Int) < 20) = false) := by
        by_cases h' : i < m
        · exact .inr ⟨decide_eq_true (by omega), decide_eq_true h', decide_eq_false (by omega)⟩
        · exact .inl ⟨decide_eq_false (by omega), decide_eq_false h'⟩
      have HI := Lib.hid hi20
      clear hx1 hlt
      revert HD HB HV HKS
      generalize wr = w4
      intro HD HB HV HKS
      clear HD1 HB1 HO1
      cases fl
      · have HCR : Hid (Calls Try.prog 16 #[.pointer (some ⟨p, 0, none⟩), .slice kq i kc] w4 (CrashPost w4 ((flW ls i).crash (List.replicate i 512)))) := Lib.hid (crash_any HD.out HKS.out (by simp) (by omega))
        have FE : ∀ w6 p', DiskAt w6 w4.heap.size p' ((flW ls i).crash (List.replicate i 512)) → Below w4.heap.size w4 w6 → FlEnd w6 w.heap.size p p' w (flW ls i) ((flW ls i).crash (List.replicate i 512)) := fun w6 p' h1 h2 => ⟨HD.out.below h2, h1.le HB.out.size, HB.out.trans (h2.mono HB.out.size), fun k => by
          obtain ⟨q1, q2, q3, q4⟩ := flW_facts ls i
          have hk := kept_whole HD.out.ok.l (n := 512) (by decide) (flW ls i).waits (fun x hx => (HD.out.ok.w x hx).1)
          rw [q3] at hk
          show (none : Option (List UInt8)).getD (kept (flW ls i).lasts ((flW ls i).waits.zip (List.replicate i 512)) k) = _
          rw [hk]
          exact read_flush _ _ _, (flW_facts ls i).2.2.2, (flW_facts ls i).2.2.2⟩
        clear HD HV HKS
        rcases hge with ⟨hge, hgeN⟩ | ⟨hge, hgeN, hge2⟩
        · go_wp2_with fail
          refine HCR.out.mono ?_; rintro e w6 ⟨p', rfl, hc6, hb6⟩
          have HE : Hid (FlEnd w6 w.heap.size p p' w (flW ls i) ((flW ls i).crash (List.replicate i 512))) := Lib.hid (FE w6 p' hc6 hb6)
          clear hc6 hb6 HCR FE
          go_wp2
          go_loopw [10] (fun u wr => ∃ k : Nat, u = .int .i64 k ∧ k ≤ 20 ∧ FlEnd wr w.heap.size p p' w (flW ls i) ((flW ls i).crash (List.replicate i 512))) (fun u _ => 20 - (intOf u).toNat)
          case atStart => exact ⟨0, rfl, by omega, HE.out⟩
          case round =>
            obtain ⟨k, rfl, hk, hE⟩ := hrel
            have HEr := Lib.hid hE
            clear hE
            by_cases hk20 : k < 20
            · have HLT : LtN k 20 := ⟨hk20⟩
              have hk0 : (k : Int) < 20 := by omega
              have HR1 : Hid (Calls Try.prog 21 #[.pointer (some ⟨p, 0, none⟩), .int .i64 (k : Int)] wr (ReadPost wr ((flW ls i).read k))) := Lib.hid (read_any HEr.out.d (by omega) (by rw [HEr.out.s]; omega))
              have HLN := Lib.hid (read_len HEr.out.d.ok (k : Int))
              go_wp2_with fail
              refine HR1.out.mono ?_; rintro e w7 ⟨g1, rfl, _, hs7, hb7⟩
              have HE7 := Lib.hid (HEr.out.on hb7)
              have HS7 := Lib.hid hs7
              clear hs7 hb7 HR1
              have HR2 : Hid (Calls Try.prog 21 #[.pointer (some ⟨p', 0, none⟩), .int .i64 (k : Int)] w7 (ReadPost w7 ((flW ls i).read k))) := Lib.hid (by
                have := read_any HE7.out.c (k := (k : Int)) (by omega) (by rw [HE7.out.s']; omega)
                rwa [HE7.out.same] at this)
              go_wp2_with fail
              refine HR2.out.mono ?_; rintro e w8 ⟨g2, rfl, _, hs8, hb8⟩
              have HE8 := Lib.hid (HE7.out.on hb8)
              have e1 := str_of (HS7.out.below hb8).bs (n := 512) (c := 512) HLN.out.symm
              have e2 := str_of hs8.bs (n := 512) (c := 512) HLN.out.symm
              clear hs8 hb8 HR2 HS7 HLN
              generalize (flW ls i).read (k : Int) = z at e1 e2
              go_wp2
              go_roundw
              case rel => exact ⟨k + 1, by go_num, by have := HLT.h; omega, HE8.out⟩
              case measure => have := HLT.h; simp [intOf]; omega
            · have hk' : k = 20 := by omega
              subst hk'
              go_wp2
              go_ret
              exact ⟨rfl, HEr.out.below⟩
        · go_wp2_with fail
          refine HCR.out.mono ?_; rintro e w6 ⟨p', rfl, hc6, hb6⟩
          have HE : Hid (FlEnd w6 w.heap.size p p' w (flW ls i) ((flW ls i).crash (List.replicate i 512))) := Lib.hid (FE w6 p' hc6 hb6)
          clear hc6 hb6 HCR FE
          go_wp2
          go_loopw [10] (fun u wr => ∃ k : Nat, u = .int .i64 k ∧ k ≤ 20 ∧ FlEnd wr w.heap.size p p' w (flW ls i) ((flW ls i).crash (List.replicate i 512))) (fun u _ => 20 - (intOf u).toNat)
          case atStart => exact ⟨0, rfl, by omega, HE.out⟩
          case round =>
            obtain ⟨k, rfl, hk, hE⟩ := hrel
            have HEr := Lib.hid hE
            clear hE
            by_cases hk20 : k < 20
            · have HLT : LtN k 20 := ⟨hk20⟩
              have hk0 : (k : Int) < 20 := by omega
              have HR1 : Hid (Calls Try.prog 21 #[.pointer (some ⟨p, 0, none⟩), .int .i64 (k : Int)] wr (ReadPost wr ((flW ls i).read k))) := Lib.hid (read_any HEr.out.d (by omega) (by rw [HEr.out.s]; omega))
              have HLN := Lib.hid (read_len HEr.out.d.ok (k : Int))
              go_wp2_with fail
              refine HR1.out.mono ?_; rintro e w7 ⟨g1, rfl, _, hs7, hb7⟩
              have HE7 := Lib.hid (HEr.out.on hb7)
              have HS7 := Lib.hid hs7
              clear hs7 hb7 HR1
              have HR2 : Hid (Calls Try.prog 21 #[.pointer (some ⟨p', 0, none⟩), .int .i64 (k : Int)] w7 (ReadPost w7 ((flW ls i).read k))) := Lib.hid (by
                have := read_any HE7.out.c (k := (k : Int)) (by omega) (by rw [HE7.out.s']; omega)
                rwa [HE7.out.same] at this)
              go_wp2_with fail
              refine HR2.out.mono ?_; rintro e w8 ⟨g2, rfl, _, hs8, hb8⟩
              have HE8 := Lib.hid (HE7.out.on hb8)
              have e1 := str_of (HS7.out.below hb8).bs (n := 512) (c := 512) HLN.out.symm
              have e2 := str_of hs8.bs (n := 512) (c := 512) HLN.out.symm
              clear hs8 hb8 HR2 HS7 HLN
              generalize (flW ls i).read (k : Int) = z at e1 e2
              go_wp2
              go_roundw
              case rel => exact ⟨k + 1, by go_num, by have := HLT.h; omega, HE8.out⟩
              case measure => have := HLT.h; simp [intOf]; omega
            · have hk' : k = 20 := by omega
              subst hk'
              go_wp2
              go_ret
              exact ⟨rfl, HEr.out.below⟩
      · have HF : Hid (Calls Try.prog 13 #[.pointer (some ⟨p, 0, none⟩)] w4 fun e w' => e = .returned (.int .i64 0) ∧ DiskStep w4 w' w.heap.size p (flW ls i).flush) := Lib.hid (by
          obtain ⟨q1, q2, q3, q4⟩ := flW_facts ls i
          exact flush_any HD.out (by rw [q1]; decide) (by rw [q1]; decide) (by rw [q1]; decide) (by rw [q2]; omega))
        clear HD HV HKS
        rcases hge with ⟨hge, hgeN⟩ | ⟨hge, hgeN, hge2⟩
        · go_wp2_with fail
          refine HF.out.mono ?_; rintro e w5 ⟨rfl, hs5⟩
          have HD5 := Lib.hid hs5.disk
          have HB5 := Lib.hid (HB.out.trans hs5.below)
          have HCR : Hid (Calls Try.prog 16 #[.pointer (some ⟨p, 0, none⟩), .slice none 0 0] w5 (CrashPost w5 ((flW ls i).flush.crash []))) := Lib.hid (crash_any HD5.out (Ks.nil _ none) rfl (by omega))
          have FE : ∀ w6 p', DiskAt w6 w5.heap.size p' ((flW ls i).flush.crash []) → Below w5.heap.size w5 w6 → FlEnd w6 w.heap.size p p' w ((flW ls i).flush) ((flW ls i).flush.crash []) := fun w6 p' h1 h2 => ⟨HD5.out.below h2, h1.le HB5.out.size, HB5.out.trans (h2.mono HB5.out.size), fun k => rfl, (flW_facts ls i).2.2.2, (flW_facts ls i).2.2.2⟩
          clear hs5 HF HB
          go_wp2_with fail
          refine HCR.out.mono ?_; rintro e w6 ⟨p', rfl, hc6, hb6⟩
          have HE : Hid (FlEnd w6 w.heap.size p p' w ((flW ls i).flush) ((flW ls i).flush.crash [])) := Lib.hid (FE w6 p' hc6 hb6)
          clear hc6 hb6 HCR FE
          go_wp2
          go_loopw [10] (fun u wr => ∃ k : Nat, u = .int .i64 k ∧ k ≤ 20 ∧ FlEnd wr w.heap.size p p' w ((flW ls i).flush) ((flW ls i).flush.crash [])) (fun u _ => 20 - (intOf u).toNat)
          case atStart => exact ⟨0, rfl, by omega, HE.out⟩
          case round =>
            obtain ⟨k, rfl, hk, hE⟩ := hrel
            have HEr := Lib.hid hE
            clear hE
            by_cases hk20 : k < 20
            · have HLT : LtN k 20 := ⟨hk20⟩
              have hk0 : (k : Int) < 20 := by omega
              have HR1 : Hid (Calls Try.prog 21 #[.pointer (some ⟨p, 0, none⟩), .int .i64 (k : Int)] wr (ReadPost wr (((flW ls i).flush).read k))) := Lib.hid (read_any HEr.out.d (by omega) (by rw [HEr.out.s]; omega))
              have HLN := Lib.hid (read_len HEr.out.d.ok (k : Int))
              go_wp2_with fail
              refine HR1.out.mono ?_; rintro e w7 ⟨g1, rfl, _, hs7, hb7⟩
              have HE7 := Lib.hid (HEr.out.on hb7)
              have HS7 := Lib.hid hs7
              clear hs7 hb7 HR1
              have HR2 : Hid (Calls Try.prog 21 #[.pointer (some ⟨p', 0, none⟩), .int .i64 (k : Int)] w7 (ReadPost w7 (((flW ls i).flush).read k))) := Lib.hid (by
                have := read_any HE7.out.c (k := (k : Int)) (by omega) (by rw [HE7.out.s']; omega)
                rwa [HE7.out.same] at this)
              go_wp2_with fail
              refine HR2.out.mono ?_; rintro e w8 ⟨g2, rfl, _, hs8, hb8⟩
              have HE8 := Lib.hid (HE7.out.on hb8)
              have e1 := str_of (HS7.out.below hb8).bs (n := 512) (c := 512) HLN.out.symm
              have e2 := str_of hs8.bs (n := 512) (c := 512) HLN.out.symm
              clear hs8 hb8 HR2 HS7 HLN
              generalize ((flW ls i).flush).read (k : Int) = z at e1 e2
              go_wp2
              go_roundw
              case rel => exact ⟨k + 1, by go_num, by have := HLT.h; omega, HE8.out⟩
              case measure => have := HLT.h; simp [intOf]; omega
            · have hk' : k = 20 := by omega
              subst hk'
              go_wp2
              go_ret
              exact ⟨rfl, HEr.out.below⟩
        · go_wp2_with fail
          refine HF.out.mono ?_; rintro e w5 ⟨rfl, hs5⟩
          have HD5 := Lib.hid hs5.disk
          have HB5 := Lib.hid (HB.out.trans hs5.below)
          have HCR : Hid (Calls Try.prog 16 #[.pointer (some ⟨p, 0, none⟩), .slice none 0 0] w5 (CrashPost w5 ((flW ls i).flush.crash []))) := Lib.hid (crash_any HD5.out (Ks.nil _ none) rfl (by omega))
          have FE : ∀ w6 p', DiskAt w6 w5.heap.size p' ((flW ls i).flush.crash []) → Below w5.heap.size w5 w6 → FlEnd w6 w.heap.size p p' w ((flW ls i).flush) ((flW ls i).flush.crash []) := fun w6 p' h1 h2 => ⟨HD5.out.below h2, h1.le HB5.out.size, HB5.out.trans (h2.mono HB5.out.size), fun k => rfl, (flW_facts ls i).2.2.2, (flW_facts ls i).2.2.2⟩
          clear hs5 HF HB
          go_wp2_with fail
          refine HCR.out.mono ?_; rintro e w6 ⟨p', rfl, hc6, hb6⟩
          have HE : Hid (FlEnd w6 w.heap.size p p' w ((flW ls i).flush) ((flW ls i).flush.crash [])) := Lib.hid (FE w6 p' hc6 hb6)
          clear hc6 hb6 HCR FE
          go_wp2
          go_loopw [10] (fun u wr => ∃ k : Nat, u = .int .i64 k ∧ k ≤ 20 ∧ FlEnd wr w.heap.size p p' w ((flW ls i).flush) ((flW ls i).flush.crash [])) (fun u _ => 20 - (intOf u).toNat)
          case atStart => exact ⟨0, rfl, by omega, HE.out⟩
          case round =>
            obtain ⟨k, rfl, hk, hE⟩ := hrel
            have HEr := Lib.hid hE
            clear hE
            by_cases hk20 : k < 20
            · have HLT : LtN k 20 := ⟨hk20⟩
              have hk0 : (k : Int) < 20 := by omega
              have HR1 : Hid (Calls Try.prog 21 #[.pointer (some ⟨p, 0, none⟩), .int .i64 (k : Int)] wr (ReadPost wr (((flW ls i).flush).read k))) := Lib.hid (read_any HEr.out.d (by omega) (by rw [HEr.out.s]; omega))
              have HLN := Lib.hid (read_len HEr.out.d.ok (k : Int))
              go_wp2_with fail
              refine HR1.out.mono ?_; rintro e w7 ⟨g1, rfl, _, hs7, hb7⟩
              have HE7 := Lib.hid (HEr.out.on hb7)
              have HS7 := Lib.hid hs7
              clear hs7 hb7 HR1
              have HR2 : Hid (Calls Try.prog 21 #[.pointer (some ⟨p', 0, none⟩), .int .i64 (k : Int)] w7 (ReadPost w7 (((flW ls i).flush).read k))) := Lib.hid (by
                have := read_any HE7.out.c (k := (k : Int)) (by omega) (by rw [HE7.out.s']; omega)
                rwa [HE7.out.same] at this)
              go_wp2_with fail
              refine HR2.out.mono ?_; rintro e w8 ⟨g2, rfl, _, hs8, hb8⟩
              have HE8 := Lib.hid (HE7.out.on hb8)
              have e1 := str_of (HS7.out.below hb8).bs (n := 512) (c := 512) HLN.out.symm
              have e2 := str_of hs8.bs (n := 512) (c := 512) HLN.out.symm
              clear hs8 hb8 HR2 HS7 HLN
              generalize ((flW ls i).flush).read (k : Int) = z at e1 e2
              go_wp2
              go_roundw
              case rel => exact ⟨k + 1, by go_num, by have := HLT.h; omega, HE8.out⟩
              case measure => have := HLT.h; simp [intOf]; omega
            · have hk' : k = 20 := by omega
              subst hk'
              go_wp2
              go_ret
              exact ⟨rfl, HEr.out.below⟩

end Go.Proofs.Ytholgkmlfgmhfaa
