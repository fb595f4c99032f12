/-
  KeysPuts: any value is put behind any bytes as the document says. Conditions: none.
-/
import Derived.Test.YtjimbjcfoebimaaKRefPut
import Derived.Test.YtjimbjcfoebimaaKShort
import Derived.Deep.RegionWith
import Derived.Outline
set_option linter.unusedVariables false
set_option maxRecDepth 100000
namespace Go.Proofs.Ytjimbjcfoebimaa
open Go.RowKit

theorem vaOk_null (w : World) : VaOk w ⟨0, 0, 0, ⟨#[]⟩⟩ none 0 0 [] :=
  ⟨⟨by dsimp only; omega, by dsimp only; omega, by dsimp only; omega, by dsimp only; omega, by dsimp only; omega, by show 0 ≤ _; omega⟩, rfl, by omega, by omega, As.nil _ _, fun a h => by cases h⟩
theorem putK_null : putK ⟨0, 0, 0, ⟨#[]⟩⟩ [] = [5] := by
  have h : validV ⟨0, 0, 0, ⟨#[]⟩⟩ [] = true := by
    unfold validV At.valid validA
    simp [toList_data]
  unfold putK
  rw [if_pos h]
  rfl
theorem putNull_any (w : World) : Calls Try.prog 14 #[.slice none 0 0, .agg #[.int .i64 0, .int .i64 0, .float .f64 0, .string ⟨#[]⟩, .slice none 0 0]] w (PutPost w [5]) := by
  have h := keysPut_any (w := w) (p := none) (b := []) (Bs.nil _ _) (n0 := 0) (c0 := 0) rfl (by omega) (by omega) (fun _ => rfl) (by simp) (vaOk_null w)
  rw [putK_null] at h
  exact h

set_option maxHeartbeats 4000000 in
theorem lawPuts4_any {w : World} {p : Option Addr} {b : List UInt8} (hb : Bs w p b) {n0 c0 : Nat} (hn0 : n0 = b.length) (hnc : n0 ≤ c0) (hc0 : c0 ≤ 9223372036854775807) (hp : p = none → c0 = 0)
    {k n : Int} {f : Nat} {s : ByteArray} {q : Option Addr} {m c : Nat} {l : List At} (h : VaOk w ⟨k, n, f, s⟩ q m c l) :
    Calls Try.prog 4 #[.slice p n0 c0, .agg #[.int .i64 k, .int .i64 n, .float .f64 f, .string s, .slice q m c]] w fun e w' => e = .returned (.bool true) ∧ Below w.heap.size w w' := by
  obtain ⟨W, hW⟩ : ∃ W, W = (w.alloc (.cells #[.int .i64 k, .int .i64 n, .float .f64 f, .string s, .slice q m c] 27)) := ⟨_, rfl⟩
  have HK : Hid (∀ w', Below W.heap.size W w' → (w'.cell? ⟨w.heap.size, 0, none⟩ = some (.int .i64 k) ∧ w'.cell? ⟨w.heap.size, 1, none⟩ = some (.int .i64 n) ∧ w'.cell? ⟨w.heap.size, 2, none⟩ = some (.float .f64 f) ∧ w'.cell? ⟨w.heap.size, 3, none⟩ = some (.string s) ∧ w'.cell? ⟨w.heap.size, 4, none⟩ = some (.slice q m c))) := by
    refine Lib.hid fun w' hb => ?_
    rw [hW] at hb
    have h1 := box_all hb
    exact ⟨h1 0, h1 1, h1 2, h1 3, h1 4⟩
  have HWB : Hid (∀ w', Below W.heap.size W w' → Below w.heap.size w w') := by
    refine Lib.hid fun w' hb => ?_
    rw [hW] at hb
    exact box_below hb
  have hst := store_flt
  have HQ := Lib.hid h
  have HL := Lib.hid hb
  have HN := Lib.hid hn0
  have HP := Lib.hid hp
  have HSH : Hid (∀ w', Below W.heap.size W w' → Calls Try.prog 13 #[.agg #[.int .i64 k, .int .i64 n, .float .f64 f, .string s, .slice q m c]] w' (SomeBool w')) := Lib.hid fun w' hb => short_any (HQ.out.below (HWB.out _ hb))
  clear h hb hn0 hp
  obtain ⟨X, hX⟩ : ∃ X, X = b ++ putK ⟨k, n, f, s⟩ l := ⟨_, rfl⟩
  obtain ⟨x, hx⟩ : ∃ x, x = X.length := ⟨_, rfl⟩
  have HX := Lib.hid hX
  have Hx := Lib.hid hx
  have HPN := Lib.hid putNull_any
  clear hX hx
  go_enter Try.func4, Try.ntmps4
  go_wp2_with fail
  rw [← hW]
  replace hW := Lib.hid hW
  refine (HSH.out _ (Below.refl _ _)).mono ?_; rintro e w1 ⟨sb, rfl, hb1⟩
  have HB1 := Lib.hid hb1
  clear hb1 HSH
  cases sb
  · go_wp2
    go_ret
    exact ⟨rfl, HWB.out _ HB1.out⟩
  by_cases h500 : 500 < n0
  · have h500' : (500 : Int) < (n0 : Int) := by omega
    go_wp2
    go_ret
    exact ⟨rfl, HWB.out _ HB1.out⟩
  have h500' : ¬ (500 : Int) < (n0 : Int) := by omega
  have HLE : Hid (b.length ≤ 100000) := Lib.hid (by have := HN.out; omega)
  go_wp2_with fail
  obtain ⟨c0, c1, c2, c3, c4⟩ := HK.out _ HB1.out.drew
  go_region_with (first
      | (go_at_call_of 14 (Value.slice none 0 0); refine (HPN.out _).mono ?_; rintro e w4 ⟨v4, rfl, ho4, hb4⟩; have HB4 : Hid (Below W.heap.size W w4) := Lib.hid (HB3.out.trans (hb4.mono HB3.out.size)); obtain ⟨x0, x1, x2, x3, x4⟩ := HK.out _ HB4.out; obtain ⟨p4, c4, rfl, _, _, _, _⟩ := ho4.form (n := 1) rfl; clear ho4 hb4)
      | (go_at_call 14; refine (keysPut_any (HL.out.below (HWB.out _ HB1.out.drew)) HN.out hnc hc0 HP.out HLE.out (HQ.out.below (HWB.out _ HB1.out.drew))).mono ?_; rintro e w2 ⟨v2, rfl, ho2, hb2⟩; rw [← HX.out] at ho2; have HO2 := Lib.hid ho2; have HB2 : Hid (Below W.heap.size W w2) := Lib.hid (HB1.out.drew.trans (hb2.mono HB1.out.drew.size)); obtain ⟨x0, x1, x2, x3, x4⟩ := HK.out _ HB2.out; obtain ⟨p2, c2, rfl, _, _, hs2, _⟩ := ho2.form Hx.out; have e1 := str_of hs2 (c := c2) Hx.out; clear hs2 ho2 hb2)
      | (go_at_call 15; refine (refPut_any (HL.out.below (HWB.out _ HB2.out)) HN.out HP.out HLE.out (HQ.out.below (HWB.out _ HB2.out))).mono ?_; rintro e w3 ⟨v3, rfl, ho3, hb3⟩; rw [← HX.out] at ho3; have HB3 : Hid (Below W.heap.size W w3) := Lib.hid (HB2.out.trans (hb3.mono HB2.out.size)); obtain ⟨y0, y1, y2, y3, y4⟩ := HK.out _ HB3.out; obtain ⟨_, _, hv1, _, _, hs1, _⟩ := (HO2.out.below hb3).form Hx.out; simp only [Value.slice.injEq] at hv1; obtain ⟨hv1, _, hv2⟩ := hv1; subst hv1 hv2; have e1' := str_of hs1 (c := c2) Hx.out; obtain ⟨p3, c3, rfl, _, _, hs3, _⟩ := ho3.form Hx.out; have e2 := str_of hs3 (c := c3) Hx.out; clear hs1 hs3 ho3 hb3))
  all_goals go_wp2
  all_goals go_ret
  all_goals exact ⟨rfl, HWB.out _ HB4.out⟩

end Go.Proofs.Ytjimbjcfoebimaa
