/-
  The reference's Seal of layer 7: contracts for the walks.
-/
import Derived.Test.YtpklapgcdilghaaDoorPgSeal
set_option linter.unusedVariables false
set_option maxRecDepth 100000
namespace Go.Proofs.YtpklapgcdilghaaDoor
open Go.RowKit

set_option maxHeartbeats 800000 in
theorem sealR_bad {w : World} (k : Int) {no gen : Int} {p : Option Addr} {n c : Nat} {z : Nat} (hz : z = sealE no gen n) (hb : z ≠ 0) (hn : n ≤ 9223372036854775807) :
    Calls Tryd.prog 17 #[.int .u8 k, .int .i64 no, .int .i64 gen, .slice p n c] w (BadPost w z) := by
  by_cases h1 : no < 0
  · replace hz : z = 2 := by rw [hz]; unfold sealE; rw [if_pos (by omega)]
    subst hz
    clear hb
    go_enter Tryd.func17, Tryd.ntmps17
    go_wp2
    exact bodyPost_ret (v := .tuple #[.slice none 0 0, .int .i64 2]) (by simp [results, Tryd.results17, go_sem]) rfl ⟨rfl, rfl⟩
  by_cases h2 : 4095 < no
  · replace hz : z = 2 := by rw [hz]; unfold sealE; rw [if_pos (by omega)]
    subst hz
    clear hb
    go_enter Tryd.func17, Tryd.ntmps17
    go_wp2
    exact bodyPost_ret (v := .tuple #[.slice none 0 0, .int .i64 2]) (by simp [results, Tryd.results17, go_sem]) rfl ⟨rfl, rfl⟩
  by_cases h3 : gen < 0
  · replace hz : z = 2 := by rw [hz]; unfold sealE; rw [if_pos (by omega)]
    subst hz
    clear hb
    go_enter Tryd.func17, Tryd.ntmps17
    go_wp2
    exact bodyPost_ret (v := .tuple #[.slice none 0 0, .int .i64 2]) (by simp [results, Tryd.results17, go_sem]) rfl ⟨rfl, rfl⟩
  by_cases h4 : 1152921504606846976 < gen
  · replace hz : z = 2 := by rw [hz]; unfold sealE; rw [if_pos (by omega)]
    subst hz
    clear hb
    go_enter Tryd.func17, Tryd.ntmps17
    go_wp2
    exact bodyPost_ret (v := .tuple #[.slice none 0 0, .int .i64 2]) (by simp [results, Tryd.results17, go_sem]) rfl ⟨rfl, rfl⟩
  by_cases h5 : 493 < n
  · replace hz : z = 3 := by rw [hz]; unfold sealE; rw [if_neg (by omega), if_pos h5]
    subst hz
    clear hb
    go_enter Tryd.func17, Tryd.ntmps17
    go_wp2
    exact bodyPost_ret (v := .tuple #[.slice none 0 0, .int .i64 3]) (by simp [results, Tryd.results17, go_sem]) rfl ⟨rfl, rfl⟩
  · exact absurd (by rw [hz]; unfold sealE; rw [if_neg (by omega), if_neg h5]) hb

def SealRPost (w : World) (l : List UInt8) (e : Ending) (w' : World) : Prop := ∃ v, e = .returned (.tuple #[v, .int .i64 0]) ∧ Own w' w.heap.size v l ∧ Below w.heap.size w w'

theorem own_one (w : World) (u : UInt8) {x : Int} (hx : x = (u.toNat : Int)) : Own (w.alloc (.cells #[.int .u8 x] 5)) w.heap.size (.slice (some ⟨w.heap.size, 0, none⟩) 1 1) [u] := by
  subst hx
  exact Sec.own (l := [u]) (heap_alloc_new w _) (Nat.le_refl _) rfl (by simp)

set_option maxHeartbeats 1600000 in
theorem sealR_ok {w : World} (kind : UInt8) {no gen : Nat} (hno : no < 4096) (hg : gen ≤ 1152921504606846976) {p : Option Addr} {l : List UInt8} (hl : Bs w p l) {n c : Nat} (hn : n = l.length) (hnc : n ≤ c) (hc : c ≤ 9223372036854775807) (hp : p = none → c = 0) (h493 : n ≤ 493) :
    Calls Tryd.prog 17 #[.int .u8 (kind.toNat : Int), .int .i64 (no : Int), .int .i64 (gen : Int), .slice p n c] w (SealRPost w (pageB kind no gen l)) := by
  have HL := Lib.hid hl
  have HN := Lib.hid hn
  have HP := Lib.hid hp
  have HG : Hid (gen < 18446744073709551616) := Lib.hid (by omega)
  have g2 : ¬ (4095 : Int) < (no : Int) := by omega
  have g3 : ¬ (1152921504606846976 : Int) < (gen : Int) := by omega
  have HE : Hid ([kind] ++ leB 4 no ++ leB 8 gen ++ leB 2 n ++ l ++ List.replicate (493 - n) 0 = headB kind no gen l) := Lib.hid (by unfold headB; rw [← hn]; simp only [List.append_assoc, List.cons_append, List.nil_append])
  have HF : Hid (headB kind no gen l ++ leB 4 (sumV (headB kind no gen l)) = pageB kind no gen l) := Lib.hid rfl
  have HF5 : Hid ((headB kind no gen l).length = 508) := Lib.hid (headB_length (by omega))
  have HX := Lib.hid (sumV_lt (headB kind no gen l))
  clear hl hn hp hg
  generalize pageB kind no gen l = z at *
  generalize headB kind no gen l = h at *
  go_enter Tryd.func17, Tryd.ntmps17
  have HA : Hid (Below w.heap.size w (w.alloc (.cells #[.int .u8 (kind.toNat : Int)] 5))) := Lib.hid ((Below.refl _ _).alloc (Nat.le_refl _) _)
  have HC : Hid (Calls Tryd.prog 31 #[.slice (some ⟨w.heap.size, 0, none⟩) 1 1, .int .u64 (no : Int), .int .i64 4] (w.alloc (.cells #[.int .u8 (kind.toNat : Int)] 5)) (LitPost (w.alloc (.cells #[.int .u8 (kind.toNat : Int)] 5)) w.heap.size ([kind] ++ leB 4 no))) := Lib.hid (little_any (k := 4) (own_one w kind rfl) HA.out.size (by omega) (by omega) (by simp))
  go_wp2_with fail
  with_reducible refine HC.out.mono ?_
  rintro e w1 ⟨v1, rfl, h1, hb1⟩
  have HB1 := Lib.hid (HA.out.trans hb1)
  have HC : Hid (Calls Tryd.prog 31 #[v1, .int .u64 (gen : Int), .int .i64 8] w1 (LitPost w1 w.heap.size ([kind] ++ leB 4 no ++ leB 8 gen))) := Lib.hid (little_any (k := 8) h1 HB1.out.size HG.out (by omega) (by simp [leB_length]))
  clear h1 hb1
  go_wp2_with fail
  with_reducible refine HC.out.mono ?_
  rintro e w2 ⟨v2, rfl, h2, hb2⟩
  have HB2 := Lib.hid (HB1.out.trans hb2)
  have HC : Hid (Calls Tryd.prog 31 #[v2, .int .u64 (n : Int), .int .i64 2] w2 (LitPost w2 w.heap.size ([kind] ++ leB 4 no ++ leB 8 gen ++ leB 2 n))) := Lib.hid (little_any (k := 2) h2 HB2.out.size (by omega) (by omega) (by simp [leB_length]))
  clear h2 hb2 HB1
  go_wp2_with fail
  with_reducible refine HC.out.mono ?_
  rintro e w3 ⟨v3, rfl, h3, hb3⟩
  have HB3 := Lib.hid (HB2.out.trans hb3)
  have H3 := Lib.hid h3
  have HL3 : Hid (Bs w3 p l) := Lib.hid (HL.out.below HB3.out)
  clear h3 hb3 HB2 HC HA
  have HQ : Hid (([kind] ++ leB 4 no ++ leB 8 gen ++ leB 2 n ++ l).length = 15 + n) := Lib.hid (by simp [leB_length]; have := HN.out; omega)
  have HQ3 : Hid (([kind] ++ leB 4 no ++ leB 8 gen ++ leB 2 n).length = 15) := Lib.hid (by simp [leB_length])
  generalize [kind] ++ leB 4 no ++ leB 8 gen ++ leB 2 n = b3 at *
  go_wp2_with (at_builtin; refine app_own rfl (.tmp 41) (.tmp 42) rfl rfl H3.out HN.out rfl HL3.out HP.out (by have := HN.out; have := HQ3.out; omega) HB3.out.size ?_; intro v4 w4 h4 hb4; have H4 := Lib.hid h4; have HB4 := Lib.hid (HB3.out.trans hb4); clear h4 hb4)
  clear H3 HL3 HB3
  generalize b3 ++ l = b4 at *
  go_loopw [10] (fun v wr => ∃ j : Nat, j ≤ 493 - n ∧ Own wr w.heap.size v (b4 ++ List.replicate j 0) ∧ Below w.heap.size w wr) (fun v _ => 508 - (match v with | .slice _ n _ => n | _ => 0))
  case atStart => exact ⟨0, by omega, by rw [List.replicate_zero, List.append_nil]; exact H4.out, HB4.out⟩
  case round =>
    obtain ⟨j, hj, hown, hb⟩ := hrel
    obtain ⟨x, hx⟩ : ∃ x, x = (b4 ++ List.replicate j 0).length := ⟨_, rfl⟩
    have hx' : x = 15 + n + j := by rw [hx, List.length_append, List.length_replicate, HQ.out]
    have HX2 := Lib.hid hx
    obtain ⟨q, cq, rfl, hq1, hq2, hq3, hq4⟩ := hown.form hx
    have HO := Lib.hid hown
    have HB := Lib.hid hb
    have HS := Lib.hid hq3
    clear hown hb hx hq3 hq4
    by_cases hlt : x < 508
    · go_wp2_with (at_builtin; refine app_own rfl (.tmp 47) (.tmp 48) rfl rfl (HO.out.alloc _) (m := [0]) rfl rfl (Bs.one _ _ _ rfl rfl) (fun h => by cases h) (by rw [← HX2.out]; simp; omega) (by have := HB.out.size; simp; omega) ?_; intro v2 w2 ho2 hb2; have HO2 := Lib.hid ho2; have HB2 := Lib.hid ((HB.out.alloc HB.out.size _).trans hb2); clear ho2 hb2)
      have hx2 : x + 1 = (b4 ++ List.replicate j 0 ++ [0]).length := by rw [List.length_append, ← HX2.out]; rfl
      obtain ⟨q2, cq2, rfl, _, _, _, _⟩ := HO2.out.form hx2
      go_roundw
      case rel => exact ⟨j + 1, by omega, by rw [List.replicate_succ', ← List.append_assoc]; exact HO2.out, HB2.out⟩
      case measure => simp; omega
    · have hj2 : j = 493 - n := by omega
      subst hj2
      have HH : Hid (b4 ++ List.replicate (493 - n) 0 = h) := HE
      have hx5 : x = 508 := by omega
      subst hx5
      have HO2 : Hid (Own wr w.heap.size (.slice q 508 cq) h) := Lib.hid (by rw [← HH.out]; exact HO.out)
      have HC1 : Hid (Calls Tryd.prog 32 #[.slice q 508 cq] wr fun e w' => e = .returned (.int .u32 (sumV h : Nat)) ∧ wr = w') := Lib.hid (by
        have h1 := HS.out
        rw [HH.out] at h1
        exact sumR_any h1 HF5.out.symm (by omega))
      have HC2 : Hid (Calls Tryd.prog 31 #[.slice q 508 cq, .int .u64 (sumV h : Nat), .int .i64 4] wr (LitPost wr w.heap.size z)) := Lib.hid (by
        have h1 := little_any (k := 4) (x := sumV h) HO2.out HB.out.size (by have := HX.out; omega) (by omega) (by rw [HF5.out]; omega)
        rw [HF.out] at h1
        exact h1)
      have hx32 := HX.out
      clear HX2 HS HO HH HE hlt hx'
      generalize sumV h = sx at *
      go_wp2_with fail
      with_reducible refine HC1.out.mono ?_
      rintro e w6 ⟨rfl, rfl⟩
      go_wp2_with fail
      with_reducible refine HC2.out.mono ?_
      rintro e w7 ⟨v7, rfl, h7, hb7⟩
      have H7 := Lib.hid h7
      have HB7 := Lib.hid (HB.out.trans hb7)
      clear h7 hb7
      go_wp2
      exact bodyPost_ret (v := .tuple #[v7, .int .i64 0]) (by simp [results, Tryd.results17, go_sem]) rfl ⟨_, rfl, H7.out, HB7.out⟩

end Go.Proofs.YtpklapgcdilghaaDoor
