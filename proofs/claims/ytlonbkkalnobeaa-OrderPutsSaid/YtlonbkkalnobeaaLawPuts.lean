/-
  OrderPuts' walk: any number and text is put behind any bytes as the document says.
-/
import Derived.Test.YtlonbkkalnobeaaRows
import Derived.Test.YtlonbkkalnobeaaPInt
import Derived.Test.YtlonbkkalnobeaaPText
import Derived.Test.YtlonbkkalnobeaaPTextRef
import Derived.Deep.RegionWith
set_option linter.unusedVariables false
namespace Go.Proofs.Ytlonbkkalnobeaa
open Go.RowKit

set_option maxHeartbeats 1600000 in
theorem lawPuts_small {w : World} {p : Option Addr} {l : List UInt8} (hl : Bs w p l) (n c : Nat) (hn : n = l.length) (hnc : n ≤ c) (hc : c ≤ 9223372036854775807) (hp : p = none → c = 0) (m : Int) (h1 : -9223372036854775808 ≤ m) (h2 : m ≤ 9223372036854775807)
    (s : ByteArray) (hsum : n + s.size ≤ 3000) :
    Calls Try.prog 3 #[.slice p n c, .int .i64 m, .string s] w fun e w' => e = .returned (.bool true) ∧ Below w.heap.size w w' := by
  have HN := Lib.hid hn
  have HL := Lib.hid hl
  have HP := Lib.hid hp
  have HM1 := Lib.hid h1
  have HM2 := Lib.hid h2
  have hle : l.length ≤ 100000 := by omega
  have hse : s.size ≤ 100000 := by omega
  have HLE := Lib.hid hle
  have HSE := Lib.hid hse
  have hadd : ((n : Int) + (s.size : Int) : Int) ≤ 3000 := by omega
  obtain ⟨X, hX⟩ : ∃ X, X = l ++ be8 (inKey m) := ⟨_, rfl⟩
  obtain ⟨Y, hY⟩ : ∃ Y, Y = l ++ txt s.data.toList := ⟨_, rfl⟩
  obtain ⟨x, hx⟩ : ∃ x, x = X.length := ⟨_, rfl⟩
  obtain ⟨y, hy⟩ : ∃ y, y = Y.length := ⟨_, rfl⟩
  have HX := Lib.hid hX
  have HY := Lib.hid hY
  have Hx := Lib.hid hx
  have Hy := Lib.hid hy
  clear hn hl hp h1 h2 hle hse hX hY hx hy
  go_enter Try.func3, Try.ntmps3
  go_wp2_with fail
  go_region_with (first
    | (go_at_call 11; refine (putInt_any ?_ n c HN.out hnc hc HLE.out m HM1.out HM2.out).mono ?_; exact HL.out.drew; rintro e w1 ⟨v1, rfl, ho1, hb1⟩; rw [← HX.out] at ho1; have HO1 := Lib.hid ho1; have HB1 := Lib.hid ((Below.refl w.heap.size w).drew.trans hb1); obtain ⟨p1, c1, rfl, _, _, hs1, _⟩ := ho1.form Hx.out; have e1 := str_of hs1 (c := c1) Hx.out; clear hs1 ho1 hb1)
    | (go_at_call 12; refine (refPutInt_any ?_ n c HN.out HP.out HLE.out m HM1.out HM2.out).mono ?_; exact HL.out.below HB1.out; rintro e w2 ⟨v2, rfl, ho2, hb2⟩; rw [← HX.out] at ho2; have HB2 := Lib.hid (HB1.out.trans (hb2.mono HB1.out.size)); obtain ⟨_, _, hv1, _, _, hs1, _⟩ := (HO1.out.below hb2).form Hx.out; simp only [Value.slice.injEq] at hv1; obtain ⟨hv1, _, hv2⟩ := hv1; subst hv1 hv2; have e1' := str_of hs1 (c := c1) Hx.out; obtain ⟨p2, c2, rfl, _, _, hs2, _⟩ := ho2.form Hx.out; have e2 := str_of hs2 (c := c2) Hx.out; clear hs1 hs2 ho2 hb2)
    | (go_at_call 13; refine (putText_any ?_ n c HN.out hnc hc HLE.out s _ rfl HSE.out).mono ?_; exact HL.out.below HB2.out; rintro e w3 ⟨v3, rfl, ho3, hb3⟩; rw [← HY.out] at ho3; have HO3 := Lib.hid ho3; have HB3 := Lib.hid (HB2.out.trans (hb3.mono HB2.out.size)); obtain ⟨p3, c3, rfl, _, _, hs3, _⟩ := ho3.form Hy.out; have e3 := str_of hs3 (c := c3) Hy.out; clear hs3 ho3 hb3)
    | (go_at_call 14; refine (refPutText_any ?_ n c HN.out HP.out HLE.out s _ rfl HSE.out).mono ?_; exact HL.out.below HB3.out; rintro e w4 ⟨v4, rfl, ho4, hb4⟩; rw [← HY.out] at ho4; have HB4 := Lib.hid (HB3.out.trans (hb4.mono HB3.out.size)); obtain ⟨_, _, hv3, _, _, hs3, _⟩ := (HO3.out.below hb4).form Hy.out; simp only [Value.slice.injEq] at hv3; obtain ⟨hv3, _, hv4⟩ := hv3; subst hv3 hv4; have e3' := str_of hs3 (c := c3) Hy.out; obtain ⟨p4, c4, rfl, _, _, hs4, _⟩ := ho4.form Hy.out; have e4 := str_of hs4 (c := c4) Hy.out; clear hs3 hs4 ho4 hb4))
  all_goals go_wp2
  all_goals go_ret
  all_goals exact ⟨rfl, HB4.out⟩

set_option maxHeartbeats 400000 in
theorem lawPuts_any {w : World} {p : Option Addr} {l : List UInt8} (hl : Bs w p l) (n c : Nat) (hn : n = l.length) (hnc : n ≤ c) (hc : c ≤ 140737488355328) (hp : p = none → c = 0) (m : Int) (h1 : -9223372036854775808 ≤ m) (h2 : m ≤ 9223372036854775807)
    (s : ByteArray) (hs : s.size ≤ 140737488355328) :
    Calls Try.prog 3 #[.slice p n c, .int .i64 m, .string s] w fun e w' => e = .returned (.bool true) ∧ Below w.heap.size w w' := by
  by_cases h : n + s.size ≤ 3000
  · exact lawPuts_small hl n c hn hnc (by omega) hp m h1 h2 s h
  · have h3 : (3000 : Int) < (n : Int) + (s.size : Int) := by omega
    clear hl hn hp h1 h2
    go_enter Try.func3, Try.ntmps3
    go_wp2
    go_ret
    exact ⟨rfl, Below.refl _ _⟩

end Go.Proofs.Ytlonbkkalnobeaa
