/-
  OrderBack's walk: what is put is read as it was, whatever stands behind; a byte less is none.
-/
import Derived.Test.YtlonbkkalnobeaaRows
import Derived.Test.YtlonbkkalnobeaaRInt
import Derived.Test.YtlonbkkalnobeaaRText
import Derived.Test.YtlonbkkalnobeaaPText
set_option linter.unusedVariables false
namespace Go.Proofs.Ytlonbkkalnobeaa
open Go.RowKit

theorem rdI_put {m : Int} (h1 : -9223372036854775808 ≤ m) (h2 : m ≤ 9223372036854775807) (r : List UInt8) : rdI (be8 (inKey m) ++ r) = (m, 8, 0) := by
  unfold rdI
  have h3 : ¬ (be8 (inKey m) ++ r).length < 8 := by rw [List.length_append, be8_length]; omega
  have h4 : (be8 (inKey m) ++ r).take 8 = be8 (inKey m) := List.take_left' (be8_length _)
  rw [if_neg h3, h4, num_be8 (inKey_lt h2), outKey_inKey h1]

set_option maxHeartbeats 1600000 in
theorem lawBack_small {w : World} (m : Int) (h1 : -9223372036854775808 ≤ m) (h2 : m ≤ 9223372036854775807) (t : List UInt8) {q : Option Addr} {l : List UInt8} (hl : Bs w q l) (k d : Nat) (hk : k = l.length) (hq : q = none → d = 0) (hsum : t.length + k ≤ 3000) :
    Calls Try.prog 6 #[.int .i64 m, .string ⟨t.toArray⟩, .slice q k d] w fun e w' => e = .returned (.bool true) ∧ Below w.heap.size w w' := by
  obtain ⟨X, hX⟩ : ∃ X, X = be8 (inKey m) ++ txt t := ⟨_, rfl⟩
  obtain ⟨L, hL⟩ : ∃ L, L = X.length := ⟨_, rfl⟩
  have hXL : L = 8 + (txt t).length := by rw [hL, hX, List.length_append, be8_length]
  have htl := txt_length t
  have hel := esc_length t
  have hge := esc_ge t
  have hL10 : 10 ≤ L := by omega
  have hLb : L ≤ 20000 := by omega
  have hdrop : X.drop 8 = txt t := by rw [hX]; exact List.drop_left' (be8_length _)
  have hri := rdI_put h1 h2 (txt t ++ l)
  rw [← List.append_assoc, ← hX] at hri
  have hrt := rdT_txt t l
  have hrc := rdT_cut t
  have HM1 := Lib.hid h1
  have HM2 := Lib.hid h2
  have HK := Lib.hid hk
  have HQ := Lib.hid hq
  have HL := Lib.hid hl
  have HX := Lib.hid hX
  have HLL := Lib.hid hL
  have HXL := Lib.hid hXL
  have HD := Lib.hid hdrop
  have HRI := Lib.hid hri
  have HRT := Lib.hid hrt
  have HRC := Lib.hid hrc
  have hadd : ((t.length : Int) + (k : Int)) ≤ 3000 := by omega
  have ht3 : t.length ≤ 3000 := by omega
  have hk3 : k ≤ 3000 := by omega
  have q1 : (8 : Int) ≤ (L : Int) - 1 := by omega
  have q2 : ((L : Int) - 1).toNat = L - 1 := by omega
  clear h1 h2 hk hq hl hX hL hXL hdrop hri hrt hrc htl hel hge
  go_enter Try.func6, Try.ntmps6
  go_wp2_with fail
  refine (putInt_any (l := []) (Bs.nil _ none) 0 0 rfl (by omega) (by omega) (by simp) m HM1.out HM2.out).mono ?_
  rintro e w1 ⟨v1, rfl, ho1, hb1⟩
  have HB1 := Lib.hid hb1
  obtain ⟨p1, c1, rfl, hc1, hc1', hs1, _⟩ := ho1.form (n := 8) (by simp [be8_length])
  rw [List.nil_append] at hs1
  have HS1 := Lib.hid hs1
  clear ho1 hb1 hs1
  go_wp2_with fail
  refine (putText_any HS1.out 8 c1 rfl hc1 hc1' (by rw [be8_length]; decide) ⟨t.toArray⟩ t rfl (by show t.length ≤ _; omega)).mono ?_
  rintro e w2 ⟨v2, rfl, ho2, hb2⟩
  rw [← HX.out] at ho2
  have HB2 := Lib.hid (HB1.out.trans (hb2.mono HB1.out.size))
  obtain ⟨g, c2, rfl, hc2, hc2', _, hg2, _, _⟩ := ho2.some HLL.out (by omega)
  obtain ⟨p2, c2', hv2, _, _, hs2, _⟩ := ho2.form HLL.out
  simp only [Value.slice.injEq] at hv2
  obtain ⟨rfl, _, rfl⟩ := hv2
  have HS2 := Lib.hid hs2
  have HS3 : Hid (Bs w2 (some ⟨g, 0 + 8, none⟩) (txt t)) := by
    have h := Bs.drop (fun i u hi => by
      obtain ⟨b, o, hp, hc⟩ := hs2 (by intro h; have := HLL.out; rw [h] at this; simp at this; omega)
      simp only [Option.some.injEq, Addr.mk.injEq, and_true] at hp
      obtain ⟨rfl, rfl⟩ := hp
      exact hc i u hi) 8
    rw [HD.out] at h
    exact h
  have q3 : 8 ≤ c2 := by omega
  have q4 : ¬ c2 = 8 := by omega
  have q5 : L - 1 ≤ c2 := by omega
  clear ho2 hb2 hs2
  go_wp2_with (first
    | (at_builtin; refine app_own rfl (.tmp 31) (.tmp 32) rfl rfl (Own.empty w2 w2.heap.size (Nat.le_refl _)) HLL.out rfl (HS2.out.alloc _) (fun h => by cases h) (by have := HLL.out; simp only [List.length_nil]; omega) (by simp) ?_; intro v3 w3 ho3 hb3; have HO3 := Lib.hid ho3; have HB3 := Lib.hid ((Below.alloc (Below.refl w2.heap.size w2) (Nat.le_refl _) _).trans hb3); clear ho3 hb3)
    | (at_builtin; refine app_own rfl (.tmp 33) (.tmp 34) rfl rfl HO3.out HK.out rfl ((HL.out.below HB2.out).below HB3.out) HQ.out (by have := HLL.out; have := HK.out; simp only [List.length_append, List.length_nil]; omega) HB3.out.size ?_; intro v4 w4 ho4 hb4; have HO4 := Lib.hid ho4; have HB4 := Lib.hid (HB3.out.trans hb4); clear ho4 hb4 HO3))
  obtain ⟨p4, c4, rfl, hc4, hc4', hs4, hp4⟩ := HO4.out.form (n := L + k) (by have := HLL.out; have := HK.out; simp; omega)
  rw [List.nil_append] at hs4
  have hri := readInt_any hs4 (L + k) c4 (by have := HLL.out; have := HK.out; simp; omega) hc4 hc4'
  rw [HRI.out] at hri
  refine hri.mono ?_
  rintro e w' ⟨rfl, rfl⟩
  have HB5 := Lib.hid (HB2.out.trans (HB4.out.mono HB2.out.size))
  clear hs4 hri hp4
  go_wp2_with (first
    | (at_builtin; refine app_own rfl (.tmp 41) (.tmp 43) rfl rfl (Own.empty w4 w4.heap.size (Nat.le_refl _)) (n := L - 8) (by have := HXL.out; omega) rfl ((HS3.out.below HB4.out).alloc _) (fun h => by cases h) (by have := HXL.out; simp only [List.length_nil]; omega) (by simp) ?_; intro v6 w6 ho6 hb6; have HO6 := Lib.hid ho6; have HB6 := Lib.hid ((Below.alloc (Below.refl w4.heap.size w4) (Nat.le_refl _) _).trans hb6); clear ho6 hb6)
    | (at_builtin; refine app_own rfl (.tmp 44) (.tmp 45) rfl rfl HO6.out HK.out rfl ((HL.out.below HB5.out).below HB6.out) HQ.out (by have := HXL.out; have := HK.out; simp only [List.length_append, List.length_nil]; omega) HB6.out.size ?_; intro v7 w7 ho7 hb7; have HO7 := Lib.hid ho7; have HB7 := Lib.hid (HB6.out.trans hb7); clear ho7 hb7 HO6))
  obtain ⟨p7, c7, rfl, hc7, hc7', hs7, hp7⟩ := HO7.out.form (n := L - 8 + k) (by have := HXL.out; have := HK.out; simp; omega)
  rw [List.nil_append] at hs7
  refine (readText_any hs7 (L - 8 + k) c7 (by have := HXL.out; have := HK.out; simp; omega) hc7 hc7' hp7 (by have := HXL.out; have := HK.out; simp; omega)).mono ?_
  intro e w8 hp8
  obtain ⟨rfl, hb8⟩ := rpost_out HRT.out hp8
  have HB8 := Lib.hid (HB5.out.trans ((HB7.out.trans (hb8.mono HB7.out.size)).mono HB5.out.size))
  have HB9 := Lib.hid (HB4.out.trans ((HB7.out.trans (hb8.mono HB7.out.size)).mono HB4.out.size))
  clear hs7 hp7 hp8 hb8
  go_wp2_with fail
  refine (readText_any (((HS3.out.below HB9.out).take ((txt t).length - 1))) (L - 1 - 8) (c2 - 8) (by have := HXL.out; rw [List.length_take]; omega) (by omega) (by omega) (fun h => by cases h) (by have := HXL.out; rw [List.length_take]; omega)).mono ?_
  intro e w9 hp9
  obtain ⟨rfl, hb9⟩ := rpost_out HRC.out hp9
  have HB10 := Lib.hid (HB8.out.trans (hb9.mono HB8.out.size))
  have hlen : (((txt t).length : Int) == (L : Int) - 8) = true := by have := HXL.out; rw [beq_iff_eq]; omega
  clear hp9 hb9
  go_wp2
  go_ret
  exact ⟨rfl, HB10.out⟩

set_option maxHeartbeats 400000 in
theorem lawBack_any {w : World} (m : Int) (h1 : -9223372036854775808 ≤ m) (h2 : m ≤ 9223372036854775807) (s : ByteArray) (hs : s.size ≤ 140737488355328) {q : Option Addr} {l : List UInt8} (hl : Bs w q l) (k d : Nat) (hk : k = l.length) (hq : q = none → d = 0) (hkd : k ≤ 140737488355328) :
    Calls Try.prog 6 #[.int .i64 m, .string s, .slice q k d] w fun e w' => e = .returned (.bool true) ∧ Below w.heap.size w w' := by
  by_cases h : s.size + k ≤ 3000
  · obtain ⟨⟨t⟩⟩ := s
    exact lawBack_small m h1 h2 t hl k d hk hq h
  · have h3 : (3000 : Int) < (s.size : Int) + (k : Int) := by omega
    clear hl hk hq h1 h2
    go_enter Try.func6, Try.ntmps6
    go_wp2
    go_ret
    exact ⟨rfl, Below.refl _ _⟩

end Go.Proofs.Ytlonbkkalnobeaa
