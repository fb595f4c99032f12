/-
  SectorApart: what is written to a sector changes no other one, and ahead of a Flush no crash that keeps nothing finds it.
-/
import Derived.Test.YtholgkmlfgmhfaaSLaw
import Derived.LoopTactic
set_option linter.unusedVariables false
set_option maxRecDepth 100000
namespace Go.Proofs.Ytholgkmlfgmhfaa
open Go.RowKit

theorem and_seven (x : Int) : ∃ r : Nat, bits .and .i64 x 7 = (r : Int) ∧ r ≤ 7 := by
  have hle : (BitVec.ofInt 64 x &&& BitVec.ofInt 64 7).toNat ≤ 7 := by
    rw [BitVec.toNat_and]
    exact Nat.le_trans Nat.and_le_right (by decide)
  refine ⟨(BitVec.ofInt 64 x &&& BitVec.ofInt 64 7).toNat, ?_, hle⟩
  show IntKind.i64.wrap _ = _
  rw [IntKind.wrap_i64]
  show ((((BitVec.ofInt 64 x &&& BitVec.ofInt 64 7).toNat : Nat) : Int) + 9223372036854775808) % 18446744073709551616 - 9223372036854775808 = _
  omega

/-- The disk behind i of the first writes. -/
def apW (f : List UInt8) : Nat → SD
  | 0 => SD.new 8
  | i + 1 => (apW f i).write i (UInt8.ofNat i :: f)

theorem apW_facts (f : List UInt8) : ∀ i : Nat, (apW f i).left = -1 ∧ (apW f i).ops = i ∧ (apW f i).waits.length = i ∧ (apW f i).size = 8 ∧ ∀ k : Nat, k < i → found (apW f i).waits k = some (pad (UInt8.ofNat k :: f))
  | 0 => ⟨rfl, rfl, rfl, rfl, fun k hk => absurd hk (by omega)⟩
  | i + 1 => by
    obtain ⟨h1, h2, h3, h4, h5⟩ := apW_facts f i
    refine ⟨?_, ?_, ?_, h4, ?_⟩
    · show (if 0 < (apW f i).left then (apW f i).left - 1 else (apW f i).left) = _
      rw [h1, if_neg (by decide)]
    · show (apW f i).ops + 1 = _
      rw [h2]
      omega
    · show ((apW f i).waits ++ [_]).length = _
      rw [List.length_append, h3]
      rfl
    · intro k hk
      show found ((apW f i).waits ++ [⟨(i : Int), pad (UInt8.ofNat i :: f)⟩]) k = _
      rw [found_snoc]
      unfold putAt
      by_cases hki : k = i
      · subst hki
        rw [if_pos rfl]
      · rw [if_neg (show ¬ ((k : Int) = (i : Int)) by omega)]
        exact h5 k (by omega)

/-- The disk that is asked. -/
def apS (f b : List UInt8) (k : Nat) : SD := (apW f 8).flush.write k b

theorem apS_lasts (f b : List UInt8) (k i : Nat) (hi : i < 8) : (apS f b k).lasts i = pad (UInt8.ofNat i :: f) := by
  show flushed (apW f 8).lasts (apW f 8).waits i = _
  rw [read_flush, (apW_facts f 8).2.2.2.2 i hi]
  rfl
theorem apS_read (f b : List UInt8) (k i : Nat) (hi : i < 8) : (apS f b k).read i = if i = k then pad b else pad (UInt8.ofNat i :: f) := by
  have hl := apS_lasts f b k i hi
  show (found ([] ++ [⟨(k : Int), pad b⟩]) i).getD ((apS f b k).lasts i) = _
  rw [found_snoc]
  unfold putAt
  by_cases h : i = k
  · subst h
    rw [if_pos rfl, if_pos rfl]
    rfl
  · rw [if_neg (show ¬ ((i : Int) = (k : Int)) by omega), if_neg h]
    exact hl
theorem apC_read (f b : List UInt8) (k i : Nat) (hi : i < 8) : ((apS f b k).crash []).read i = pad (UInt8.ofNat i :: f) := by
  show kept (apS f b k).lasts ((apS f b k).waits.zip []) i = _
  rw [List.zip_nil_right]
  exact apS_lasts f b k i hi

theorem Own.one {w : World} {B : Nat} (hB : B ≤ w.heap.size) (u : UInt8) {x : Int} (hx : x = (u.toNat : Int)) : Own (w.alloc (.cells #[.int .u8 x] 5)) B (.slice (Option.some ⟨w.heap.size, 0, none⟩) 1 1) [u] := by
  subst hx
  exact ⟨rfl, .inr ⟨w.heap.size, 1, #[.int .u8 (u.toNat : Int)], rfl, hB, heap_alloc_new w _, Nat.le_refl _, by decide, rfl, rfl⟩⟩

theorem Bytes.own {w : World} {D B : Nat} {v : Value} {l : List UInt8} (h : Own w D v l) : ∃ q c, v = .slice q l.length c ∧ Bytes w B q l := by
  rcases h.2 with ⟨rfl, h0⟩ | ⟨g, cap, cur, rfl, hb, hg, hnc, hcm, hcs, htake⟩
  · obtain rfl := List.eq_nil_of_length_eq_zero h0
    exact ⟨none, 0, rfl, Bytes.nil _ _ _⟩
  · refine ⟨some ⟨g, 0, none⟩, cap, rfl, fun w' _ hk _ => ⟨g, 0, rfl, fun i u hi => ?_⟩⟩
    have hg' := hk.stay hg (ofDisk_u8 _ _)
    have := h.cells (g := g) rfl i (.int .u8 (u.toNat : Int)) (by simp [u8s, hi])
    rw [Addr.add_lit, Joins.cell_of_block hg] at this
    rw [Joins.cell_of_block hg']
    exact this

/-- What the law holds while it looks. -/
structure ApEnd (w wr : World) (p p' : Nat) (f b : List UInt8) (k : Nat) : Prop where
  d : DiskAt wr w.heap.size p (apS f b k)
  c : DiskAt wr w.heap.size p' ((apS f b k).crash [])
  below : Below w.heap.size w wr
theorem ApEnd.on {w wr w' : World} {p p' : Nat} {f b : List UInt8} {k : Nat} (h : ApEnd w wr p p' f b k) (hb : Below wr.heap.size wr w') : ApEnd w w' p p' f b k := ⟨h.d.below hb, h.c.below hb, h.below.trans (hb.mono h.below.size)⟩

set_option maxHeartbeats 6400000 in
theorem law_apart {w : World} (kk : Int) {q1 : Option Addr} {n1 c1 : Nat} {b : List UInt8} (hb : Bs w q1 b) (hn1 : n1 = b.length) (hc1 : n1 ≤ c1) (hc163 : c1 ≤ 9223372036854775807)
    {q2 : Option Addr} {n2 c2 : Nat} {f0 : List UInt8} (hf : Bs w q2 f0) (hn2 : n2 = f0.length) (hc2 : n2 ≤ c2) (hc263 : c2 ≤ 9223372036854775807) (hq2 : q2 = none → c2 = 0) :
    Calls Try.prog 8 #[.int .i64 kk, .slice q1 n1 c1, .slice q2 n2 c2] w fun e w' => e = .returned (.bool true) ∧ Below w.heap.size w w' := by
  obtain ⟨k, hk, hk7⟩ := and_seven kk
  by_cases h1 : n1 ≤ 512
  · by_cases h2 : n2 ≤ 512
    · have d1 : decide ((512 : Int) < (n1 : Int)) = false := decide_eq_false (by omega)
      have d2 : decide ((512 : Int) < (n2 : Int)) = false := decide_eq_false (by omega)
      obtain ⟨mn, hmn, hmn2⟩ : ∃ mn : Nat, mn = min n2 511 ∧ (if (511 : Int) < (n2 : Int) then (511 : Int) else (n2 : Int)) = (mn : Int) := ⟨min n2 511, rfl, by split <;> omega⟩
      have hmn3 : (if 511 < n2 then (511 : Int) else (n2 : Int)) = (mn : Int) := by split <;> omega
      have hmc : mn ≤ c2 := by omega
      have hmc' : (mn : Int) ≤ (c2 : Int) := by omega
      have hm0 : (0 : Int) ≤ (mn : Int) := by omega
      obtain ⟨f, hfe⟩ : ∃ f, f = f0.take mn := ⟨_, rfl⟩
      have hfl : mn = f.length := by rw [hfe, List.length_take]; omega
      have hfb : Bs w q2 f := by rw [hfe]; exact hf.take mn
      have HFL := Lib.hid hfl
      have HFB := Lib.hid hfb
      have HBB := Lib.hid hb
      have HN1 := Lib.hid hn1
      have HM := Lib.hid hmn
      have HQ2 := Lib.hid hq2
      have HN : Hid (Calls Try.prog 9 #[.int .i64 8] w (NewPost2 w 8)) := Lib.hid (new_yes (by decide) (by decide))
      clear hfe hfl hfb hb hf hn1 hn2 hmn hq2
      go_enter Try.func8, Try.ntmps8
      go_wp2_with fail
      refine HN.out.mono ?_; rintro e w1 ⟨p, rfl, hd, hb, hp⟩
      have HD1 : Hid (DiskAt w1 w.heap.size p (apW f 0)) := Lib.hid hd
      have HB1 := Lib.hid hb
      clear hd hb hp HN
      go_wp2
      go_loopw [9] (fun u wr => ∃ i : Nat, u = .int .i64 i ∧ i ≤ 8 ∧ DiskAt wr w.heap.size p (apW f i) ∧ Below w.heap.size w wr) (fun u _ => 8 - (intOf u).toNat)
      case atStart => exact ⟨0, rfl, by omega, HD1.out, HB1.out⟩
      case round =>
        obtain ⟨i, rfl, hi, hd, hb⟩ := hrel
        have HD := Lib.hid hd
        have HB := Lib.hid hb
        clear hd hb HD1 HB1
        by_cases hlt : i < 8
        · have HLT : LtN i 8 := ⟨hlt⟩
          have hlt' : (i : Int) < 8 := by omega
          have hu : (UInt8.ofNat i).toNat = i := by rw [UInt8.toNat_ofNat']; omega
          have HO : Hid (Own (wr.alloc (.cells #[.int .u8 (i : Int)] 5)) wr.heap.size (.slice (some ⟨wr.heap.size, 0, none⟩) 1 1) [UInt8.ofNat i]) := Lib.hid (Own.one (Nat.le_refl _) _ (by rw [hu]))
          have HFW := Lib.hid ((HFB.out.below HB.out).below (sbox1 wr (.cells #[.int .u8 (i : Int)] 5)))
          have HB2 := Lib.hid (sbox1 wr (.cells #[.int .u8 (i : Int)] 5))
          have HWR : Hid (∀ w' q c, Below wr.heap.size wr w' → Bytes w' w.heap.size q (UInt8.ofNat i :: f) → Calls Try.prog 11 #[.pointer (some ⟨p, 0, none⟩), .int .i64 (i : Int), .slice q (UInt8.ofNat i :: f).length c] w' fun e w2 => e = .returned (.int .i64 0) ∧ DiskStep w' w2 w.heap.size p (apW f (i + 1))) := Lib.hid (fun w' q c hb hy => by
            obtain ⟨q1, q2, q3, q4, _⟩ := apW_facts f i
            exact write_any (HD.out.below hb) (by rw [q1]; decide) (by rw [q1]; decide) (by rw [q1]; decide) (by rw [q2]; omega) (by omega) (by rw [q4]; omega) c hy rfl (by rw [List.length_cons, ← HFL.out, HM.out]; omega))
          clear hu
          go_wp2_with (at_builtin; refine app_own rfl (.tmp 44) (.tmp 49) rfl rfl HO.out HFL.out rfl HFW.out HQ2.out (by rw [List.length_singleton, ← HFL.out, HM.out]; omega) HB2.out.size ?_; intro v2 w2 ho2 hb2; have HB3 := Lib.hid (HB2.out.trans hb2); obtain ⟨vq, vc, rfl, hvb⟩ := Bytes.own (B := w.heap.size) ho2; have HVB := Lib.hid hvb; clear ho2 hb2 hvb)
          refine (HWR.out _ _ _ HB3.out HVB.out).mono ?_; rintro e w3 ⟨rfl, hs⟩
          have HD3 := Lib.hid hs.disk
          have HB4 := Lib.hid ((HB.out.trans (HB3.out.mono HB.out.size)).trans hs.below)
          clear hs HWR HO HFW HVB HB3 HB2
          go_wp2
          go_roundw
          case rel => exact ⟨i + 1, by go_num, by have := HLT.h; omega, HD3.out, HB4.out⟩
          case measure => have := HLT.h; simp [intOf]; omega
        · have hi8 : i = 8 := by omega
          subst hi8
          obtain ⟨w4, hw4⟩ : ∃ x, x = wr := ⟨_, rfl⟩
          subst hw4
          have HF : Hid (Calls Try.prog 13 #[.pointer (some ⟨p, 0, none⟩)] w4 fun e w' => e = .returned (.int .i64 0) ∧ DiskStep w4 w' w.heap.size p (apW f 8).flush) := Lib.hid (by
            obtain ⟨q1, q2, q3, q4, _⟩ := apW_facts f 8
            exact flush_any HD.out (by rw [q1]; decide) (by rw [q1]; decide) (by rw [q1]; decide) (by rw [q2]; omega))
          go_wp2_with fail
          refine HF.out.mono ?_; rintro e w5 ⟨rfl, hs⟩
          have HB5 := Lib.hid (HB.out.trans hs.below)
          have HW : Hid (Calls Try.prog 11 #[.pointer (some ⟨p, 0, none⟩), .int .i64 (k : Int), .slice q1 n1 c1] w5 fun e w2 => e = .returned (.int .i64 0) ∧ DiskStep w5 w2 w.heap.size p (apS f b k)) := Lib.hid (by
            obtain ⟨q1, q2, q3, q4, _⟩ := apW_facts f 8
            exact write_any hs.disk (by show (if 0 < (apW f 8).left then (apW f 8).left - 1 else (apW f 8).left) ≠ 0; rw [q1]; decide) (by show -1 ≤ (if 0 < (apW f 8).left then (apW f 8).left - 1 else (apW f 8).left); rw [q1]; decide) (by show (if 0 < (apW f 8).left then (apW f 8).left - 1 else (apW f 8).left) ≤ _; rw [q1]; decide) (by show (apW f 8).ops + 1 ≤ _; rw [q2]; decide) (by omega) (by show (k : Int) < (apW f 8).size; rw [q4]; omega) c1 (Bytes.arg HBB.out HB5.out) HN1.out (by rw [← HN1.out]; exact h1))
          clear hs HF
          go_wp2_with fail
          refine HW.out.mono ?_; rintro e w6 ⟨rfl, hs⟩
          have HD6 := Lib.hid hs.disk
          have HB6 := Lib.hid (HB5.out.trans hs.below)
          have HCR : Hid (Calls Try.prog 16 #[.pointer (some ⟨p, 0, none⟩), .slice none 0 0] w6 (CrashPost w6 ((apS f b k).crash []))) := Lib.hid (crash_any hs.disk (Ks.nil _ none) rfl (by omega))
          clear hs HW
          go_wp2_with fail
          refine HCR.out.mono ?_; rintro e w7 ⟨p', rfl, hc7, hb7⟩
          have HE7 : Hid (ApEnd w w7 p p' f b k) := Lib.hid ⟨HD6.out.below hb7, hc7.le HB6.out.size, HB6.out.trans (hb7.mono HB6.out.size)⟩
          clear hc7 hb7 HCR HD6 HB6 HB5 HD HB
          go_wp2
          go_loopw [11] (fun u wr => ∃ i : Nat, u = .int .i64 i ∧ i ≤ 8 ∧ ApEnd w wr p p' f b k) (fun u _ => 8 - (intOf u).toNat)
          case atStart => exact ⟨0, rfl, by omega, HE7.out⟩
          case round =>
            obtain ⟨i, rfl, hi, hE⟩ := hrel
            have HE := Lib.hid hE
            clear hE HE7
            by_cases hi8 : i < 8
            · have HLT : LtN i 8 := ⟨hi8⟩
              have hi0 : (i : Int) < 8 := by omega
              have hsz : (apS f b k).size = 8 := (apW_facts f 8).2.2.2.1
              have HX : Hid (Calls Try.prog 21 #[.pointer (some ⟨p, 0, none⟩), .int .i64 (i : Int)] wr (ReadPost wr ((apS f b k).read i))) := Lib.hid (read_any HE.out.d (by omega) (by rw [hsz]; omega))
              have HXL := Lib.hid (read_len HE.out.d.ok (i : Int))
              have HXR := Lib.hid (apS_read f b k i hi8)
              go_wp2_with fail
              refine HX.out.mono ?_; rintro e w8 ⟨g1, rfl, _, hs8, hb8⟩
              have HE8 := Lib.hid (HE.out.on hb8)
              have HS8 := Lib.hid hs8
              have HY : Hid (Calls Try.prog 21 #[.pointer (some ⟨p', 0, none⟩), .int .i64 (i : Int)] w8 (ReadPost w8 (pad (UInt8.ofNat i :: f)))) := Lib.hid (by
                have := read_any HE8.out.c (k := (i : Int)) (by omega) (by show (i : Int) < (apS f b k).size; rw [hsz]; omega)
                rwa [apC_read f b k i hi8] at this)
              clear hs8 hb8 HX HE hsz
              go_wp2_with fail
              refine HY.out.mono ?_; rintro e w9 ⟨g2, rfl, _, hs9, hb9⟩
              have HE9 := Lib.hid (HE8.out.on hb9)
              have HX9 := Lib.hid (HS8.out.below hb9)
              have HY9 := Lib.hid hs9
              have hyl : (pad (UInt8.ofNat i :: f)).length = 512 := pad_length (by rw [List.length_cons, ← HFL.out, HM.out]; omega)
              have c9 : w9.cell? ⟨g2, 0, none⟩ = some (.int .u8 (i : Int)) := by
                have hu : (UInt8.ofNat i).toNat = i := by rw [UInt8.toNat_ofNat']; omega
                rw [Joins.cell_of_block hs9]
                simp [u8s, pad, hu]
              clear hs9 hb9 HY HS8 HE8
              by_cases hik : i = k
              · subst hik
                have HXR2 : Hid ((apS f b i).read i = pad b) := Lib.hid (by rw [HXR.out, if_pos rfl])
                have e1 : ∀ n, (convert 30 9 (.slice (some ⟨g1, 0, none⟩) n1 512)).run Try.prog (w9.drewN n) = .ok (.string ⟨b.toArray⟩) (w9.drewN n) := fun n => by
                  have hb' : Bs (w9.drewN n) (some ⟨g1, 0, none⟩) b := by
                    have h := (HX9.out.bs.drewN n).take n1
                    rw [HXR2.out] at h
                    have e : (pad b).take n1 = b := by unfold pad; rw [HN1.out]; exact List.take_left
                    rwa [e] at h
                  exact str_of hb' HN1.out
                have e2 : ∀ n, (convert 30 9 (.slice q1 n1 c1)).run Try.prog (w9.drewN n) = .ok (.string ⟨b.toArray⟩) (w9.drewN n) := fun n => str_of ((HBB.out.below HE9.out.below).drewN n) HN1.out
                have n1a : (n1 : Int) ≤ 512 := by omega
                have n1b : (0 : Int) ≤ (n1 : Int) := by omega
                go_wp2_with fail
                go_quiet (fail)
                go_wp2
                go_roundw
                case rel => exact ⟨i + 1, by go_num, by have := HLT.h; omega, HE9.out.on (belowN (Below.refl _ _) nq)⟩
                case measure => have := HLT.h; simp [intOf]; omega
              · have hik1 : decide ((i : Int) = (k : Int)) = false := decide_eq_false (by omega)
                have hik2 : decide (i = k) = false := decide_eq_false hik
                have hik3 : ((i : Int) == (k : Int)) = false := by rw [beq_eq_false_iff_ne]; omega
                have hik4 : (i == k) = false := by rw [beq_eq_false_iff_ne]; exact hik
                have hik5 : ((i : Int) != (k : Int)) = true := by rw [bne, hik3]; rfl
                have hik6 : (i != k) = true := by rw [bne, hik4]; rfl
                have HXR2 : Hid ((apS f b k).read i = pad (UInt8.ofNat i :: f)) := Lib.hid (by rw [HXR.out, if_neg hik])
                have e1 : ∀ n, (convert 30 9 (.slice (some ⟨g1, 0, none⟩) 512 512)).run Try.prog (w9.drewN n) = .ok (.string ⟨(pad (UInt8.ofNat i :: f)).toArray⟩) (w9.drewN n) := fun n => by
                  have h := HX9.out.bs.drewN n
                  rw [HXR2.out] at h
                  exact str_of h hyl.symm
                have e2 : ∀ n, (convert 30 9 (.slice (some ⟨g2, 0, none⟩) 512 512)).run Try.prog (w9.drewN n) = .ok (.string ⟨(pad (UInt8.ofNat i :: f)).toArray⟩) (w9.drewN n) := fun n => str_of (HY9.out.bs.drewN n) hyl.symm
                clear hyl
                generalize pad (UInt8.ofNat i :: f) = z at e1 e2
                go_wp2_with fail
                go_quiet (fail)
                go_wp2
                go_roundw
                case rel => exact ⟨i + 1, by go_num, by have := HLT.h; omega, HE9.out.on (belowN (Below.refl _ _) nq)⟩
                case measure => have := HLT.h; simp [intOf]; omega
            · have hi' : i = 8 := by omega
              subst hi'
              go_wp2
              go_ret
              exact ⟨rfl, HE.out.below⟩
    · have d1 : decide ((512 : Int) < (n1 : Int)) = false := decide_eq_false (by omega)
      have d2 : decide ((512 : Int) < (n2 : Int)) = true := decide_eq_true (by omega)
      clear hb hf hn1 hn2
      go_enter Try.func8, Try.ntmps8
      go_wp2
      go_ret
      exact ⟨rfl, Below.refl _ _⟩
  · have d1 : decide ((512 : Int) < (n1 : Int)) = true := decide_eq_true (by omega)
    clear hb hf hn1 hn2
    go_enter Try.func8, Try.ntmps8
    go_wp2
    go_ret
    exact ⟨rfl, Below.refl _ _⟩

end Go.Proofs.Ytholgkmlfgmhfaa
