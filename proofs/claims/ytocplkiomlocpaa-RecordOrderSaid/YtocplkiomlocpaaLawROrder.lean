/-
  The law RecordOrder returns true: the walk.
-/
import Derived.Test.YtocplkiomlocpaaROrdP
import Derived.Test.YtocplkiomlocpaaRSame
import Derived.Deep.QuietTactic
import Derived.BigQuiet
import Derived.Deep.RegionHeld3
set_option linter.unusedVariables false
set_option maxRecDepth 100000
namespace Go.Proofs.Ytocplkiomlocpaa
open Go.RowKit

set_option maxHeartbeats 4000000 in
theorem lawROrder_any {w : World} {q : Option Addr} {m c : Nat} {ns : List ByteArray} (hn : SsOk w q m c ns) {q' : Option Addr} {m' c' : Nat} {vs : List Int} (hv : IsOk w q' m' c' vs) :
    Calls Try.prog 7 #[.slice q m c, .slice q' m' c'] w fun e w' => e = .returned (.bool true) ∧ Below w.heap.size w w' := by
  have hst := store_flt
  have HNS := Lib.hid hn
  have HVS := Lib.hid hv
  have h1 := hn.h1
  have h2 := hn.h2
  have h1' := hv.h1
  have h2' := hv.h2
  clear hn hv
  obtain ⟨N, hN⟩ : ∃ N, N = min (min m m') 16 := ⟨_, rfl⟩
  have hNm : N ≤ m := by omega
  have hNm' : N ≤ m' := by omega
  have hN16 : N ≤ 16 := by omega
  obtain ⟨K, hK⟩ : ∃ K, K = min m m' := ⟨_, rfl⟩
  have hin : (if (m' : Int) < (m : Int) then (m' : Int) else (m : Int)) = (K : Int) := by split <;> omega
  have hin' : (if m' < m then (m' : Int) else (m : Int)) = (K : Int) := by split <;> omega
  have hout' : (if 16 < K then (16 : Int) else (K : Int)) = (N : Int) := by split <;> omega
  have hout : (if (16 : Int) < (K : Int) then (16 : Int) else (K : Int)) = (N : Int) := by split <;> omega
  clear hK hN
  have hnot : ∀ (x : Bool) (w : World), (Op.unary .not (.bool x)).run Try.prog w = .ok (.bool (!x)) w := fun _ _ => rfl
  go_enter Try.func7, Try.ntmps7
  go_wp2
  obtain ⟨xs, hxs⟩ : ∃ xs, xs = xsOf ns vs := ⟨_, rfl⟩
  have hxl : N ≤ xs.length := by rw [hxs]; unfold xsOf; rw [List.length_map, List.length_zip, ← HNS.out.hn, ← HVS.out.hn]; omega
  have HXS := Lib.hid hxs
  have HXL := Lib.hid hxl
  clear hxs hxl hin hin' hout hout'
  go_loopw [5, 8, 9] (fun a ok i wr => ∃ (j : Nat) (okb : Bool) (qa : Option Addr) (ma ca : Nat) (la : List Pr), i = .int .i64 j ∧ ok = .bool okb ∧ a = .slice qa ma ca ∧ j ≤ N ∧ PsOk wr qa ma ca la ∧ SetsI (xs.take j) (la.map Pr.c) ∧ (okb = true ↔ Dist (xs.take j)) ∧ Below w.heap.size w wr) (fun _ _ i _ => N - (intOf i).toNat)
  case atStart => exact ⟨0, true, none, 0, 0, [], rfl, rfl, rfl, by omega, ⟨rfl, by omega, by omega, fun _ => rfl, Ps.nil _ _⟩, SetsI.nil, by simp [Dist], Below.refl _ _⟩
  case round =>
    obtain ⟨w1, hw1⟩ : ∃ x, x = wr := ⟨_, rfl⟩
    subst hw1
    obtain ⟨j, okb, qa, ma, ca, la, rfl, rfl, rfl, hj, hpa, hsi, hok, hb⟩ := hrel
    have HPA := Lib.hid hpa
    have HSI := Lib.hid hsi
    have HOK := Lib.hid hok
    have HB := Lib.hid hb
    have hma1 := hpa.h1
    have hma2 := hpa.h2
    clear hpa hsi hok hb
    by_cases hlt : j < N
    · obtain ⟨s, hs⟩ : ∃ s, ns[j]? = some s := ⟨_, List.getElem?_eq_getElem (by have := HNS.out.hn; omega)⟩
      obtain ⟨v, hv⟩ : ∃ s, vs[j]? = some s := ⟨_, List.getElem?_eq_getElem (by have := HVS.out.hn; omega)⟩
      obtain ⟨b0, o0, hq0, hblt0, _⟩ := (HNS.out.hl.below HB.out).at hs
      obtain ⟨b1, o1, hq1, hblt1, d0⟩ := (HVS.out.hl.below HB.out).at hv
      subst hq0 hq1
      have HNC : Hid (∀ i x, ns[i]? = some x → ∀ w', Below w.heap.size w w' → w'.cell? ⟨b0, o0 + i, none⟩ = some (.string x)) := Lib.hid fun i x hx w' hb => by
        obtain ⟨b', o', hp, _, hc⟩ := (HNS.out.hl.below hb).at hx
        simp only [Option.some.injEq, Addr.mk.injEq, and_true] at hp
        obtain ⟨rfl, rfl⟩ := hp
        exact hc
      have hb0w : b0 < w.heap.size := by
        obtain ⟨b', o', hp, h, _⟩ := HNS.out.hl.at hs
        simp only [Option.some.injEq, Addr.mk.injEq, and_true] at hp
        obtain ⟨rfl, rfl⟩ := hp
        exact h
      have HS := Lib.hid hs
      have hss := HNS.out.ok s (List.mem_of_getElem? hs)
      have hvb := HVS.out.ok v (List.mem_of_getElem? hv)
      have HXJ : Hid (xs[j]? = some (pcI s v)) := Lib.hid (by rw [HXS.out]; exact xsOf_at hs hv)
      have HTK : Hid (xs.take (j + 1) = xs.take j ++ [pcI s v]) := Lib.hid (take_snoc HXJ.out)
      have HTL : Hid ((xs.take j).length ≤ 15) := Lib.hid (by rw [List.length_take]; omega)
      have HSET : Hid (∀ w', Below w1.heap.size w1 w' → Calls Try.prog 20 #[.slice qa ma ca, .string s, .agg #[.int .i64 2, .int .i64 v, .float .f64 0, .string ⟨#[]⟩, .slice none 0 0]] w' (SePost w' (if nameOk s = true then (setP (la.map Pr.c) (pcI s v), 0) else ([], 2)))) := Lib.hid fun w' hb => by
        have h := set_any (w := w') (HPA.out.below hb) s hss (k := 2) (n := v) (f := 0) (s := str0) (q' := none) (m' := 0) (c' := 0) (l' := []) ⟨⟨by dsimp only; omega, by dsimp only; omega, hvb.1, hvb.2, by dsimp only; omega, by show (0 : Nat) ≤ _; omega⟩, rfl, by omega, by omega, As.nil _ _, by simp⟩ (fun _ => rfl)
        have e := setR_int HSI.out HTL.out s v
        unfold pcI at e
        rw [e] at h
        exact h
      have HNM := Lib.hid (fun w => name_any (w := w) s hss)
      clear hs hv hvb
      obtain ⟨W, hW⟩ : ∃ W, W = w1.alloc (.cells #[.int .i64 2, .int .i64 v, .float .f64 0, .string ⟨#[]⟩, .slice none 0 0] 45) := ⟨_, rfl⟩
      have HWR : Hid (Below w1.heap.size w1 W) := Lib.hid (by rw [hW]; exact (Below.refl _ _).alloc (Nat.le_refl _) _)
      have HWs : Hid (W.heap.size = w1.heap.size + 1) := Lib.hid (by rw [hW]; simp)
      have HKV : Hid (∀ w', Below W.heap.size W w' → (w'.cell? ⟨w1.heap.size, 0, none⟩ = some (.int .i64 2) ∧ w'.cell? ⟨w1.heap.size, 1, none⟩ = some (.int .i64 v) ∧ w'.cell? ⟨w1.heap.size, 2, none⟩ = some (.float .f64 0) ∧ w'.cell? ⟨w1.heap.size, 3, none⟩ = some (.string ⟨#[]⟩) ∧ w'.cell? ⟨w1.heap.size, 4, none⟩ = some (.slice none 0 0))) := by
        refine Lib.hid fun w' hb => ?_
        rw [hW] at hb
        have h1 := box_all hb
        exact ⟨h1 0, h1 1, h1 2, h1 3, h1 4⟩
      have HWW : Hid (∀ w', Below W.heap.size W w' → Below w1.heap.size w1 w' ∧ Below w.heap.size w w') := Lib.hid fun w' hb => by
        have h : Below w1.heap.size w1 w' := HWR.out.trans (hb.mono HWR.out.size)
        exact ⟨h, HB.out.trans (h.mono HB.out.size)⟩
      go_wp2_with fail
      rw [← hW]
      replace hW := Lib.hid hW
      go_loopw [8, 11] (fun ok i wr => ∃ (k : Nat) (okc : Bool), i = .int .i64 k ∧ ok = .bool okc ∧ k ≤ j ∧ (okc = true ↔ okb = true ∧ ∀ i < k, ∀ t, ns[i]? = some t → t ≠ s) ∧ Below W.heap.size W wr) (fun _ i _ => j - (intOf i).toNat)
      case atStart => exact ⟨0, okb, rfl, rfl, by omega, by simp, Below.refl _ _⟩
      case round =>
        clear d0
        obtain ⟨k, okc, rfl, rfl, hk, hok, hb⟩ := hrel
        have HOC := Lib.hid hok
        have HBX := Lib.hid hb
        clear hok hb
        by_cases hkj : k < j
        · obtain ⟨t, ht⟩ : ∃ s, ns[k]? = some s := ⟨_, List.getElem?_eq_getElem (by have := HNS.out.hn; omega)⟩
          have e0 := HNC.out k t ht wr (HWW.out _ HBX.out).2
          have e1 := HNC.out j s HS.out wr (HWW.out _ HBX.out).2
          have hbx : b0 < wr.heap.size := by have := (HWW.out _ HBX.out).2.size; omega
          have HT := Lib.hid ht
          have hne : (t.toList != s.toList) = !eqS t s := rfl
          have heq : (t.toList == s.toList) = eqS t s := rfl
          have HEQ : Hid (eqS t s = true ↔ t = s) := Lib.hid (eqS_iff t s)
          have hk0 : (0 : Int) ≤ k := by omega
          have hk1 : (k : Int) < m := by omega
          have hj0 : (0 : Int) ≤ j := by omega
          have hj1 : (j : Int) < m := by omega
          clear ht
          generalize eqS t s = z at *
          have hstep : ∀ x : Bool, (x = true ↔ okc = true ∧ t ≠ s) → (x = true ↔ okb = true ∧ ∀ i < k + 1, ∀ t, ns[i]? = some t → t ≠ s) := fun x hx => by
            rw [hx, HOC.out]
            constructor
            · rintro ⟨⟨g1, g2⟩, g3⟩
              refine ⟨g1, fun i hi u hu => ?_⟩
              rcases Nat.lt_or_ge i k with h | h
              · exact g2 i h u hu
              · obtain rfl : i = k := by omega
                rw [HT.out] at hu
                obtain rfl := Option.some.inj hu
                exact g3
            · rintro ⟨g1, g2⟩
              exact ⟨⟨g1, fun i hi u hu => g2 i (by omega) u hu⟩, g2 k (by omega) t HT.out⟩
          have HSTEP := Lib.hid hstep
          clear hstep
          cases okc
          · go_wp2
            go_quiet (fail)
            go_wp2
            go_roundw
            case rel => exact ⟨k + 1, false, by go_num, rfl, by omega, HSTEP.out false (by simp), belowN HBX.out _⟩
            case measure => simp [intOf]; omega
          · cases z
            · go_wp2
              go_quiet (fail)
              go_wp2
              go_roundw
              case rel => exact ⟨k + 1, true, by go_num, rfl, by omega, HSTEP.out true ⟨fun _ => ⟨by first | rfl | trivial, fun e => (by have h := HEQ.out.2 e; cases h)⟩, fun _ => rfl⟩, belowN HBX.out _⟩
              case measure => simp [intOf]; omega
            · go_wp2
              go_quiet (fail)
              go_wp2
              go_roundw
              case rel => exact ⟨k + 1, false, by go_num, rfl, by omega, HSTEP.out false ⟨fun h => (by cases h), fun h => absurd (HEQ.out.1 (by first | rfl | trivial)) h.2⟩, belowN HBX.out _⟩
              case measure => simp [intOf]; omega
        · have hkj' : k = j := by omega
          subst hkj'
          have HDI : Hid (okc = true ↔ Dist (xs.take (k + 1))) := Lib.hid (by
            rw [HTK.out, dist_snoc, HOC.out, HOK.out]
            constructor
            · rintro ⟨g1, g2⟩
              refine ⟨g1, fun p hp => ?_⟩
              obtain ⟨i, hi, rfl⟩ := List.mem_iff_getElem.1 hp
              rw [List.length_take] at hi
              obtain ⟨t, ht⟩ : ∃ s, ns[i]? = some s := ⟨_, List.getElem?_eq_getElem (by have := HNS.out.hn; omega)⟩
              obtain ⟨u, hu⟩ : ∃ s, vs[i]? = some s := ⟨_, List.getElem?_eq_getElem (by have := HVS.out.hn; omega)⟩
              have h := xsOf_at ht hu
              rw [← HXS.out] at h
              obtain ⟨h1, h2⟩ := List.getElem?_eq_some_iff.1 h
              rw [List.getElem_take, h2]
              exact g2 i (by omega) t ht
            · rintro ⟨g1, g2⟩
              refine ⟨g1, fun i hi t ht => ?_⟩
              obtain ⟨u, hu⟩ : ∃ s, vs[i]? = some s := ⟨_, List.getElem?_eq_getElem (by have := HVS.out.hn; omega)⟩
              have h := xsOf_at ht hu
              rw [← HXS.out] at h
              refine g2 (pcI t u) (List.mem_of_getElem? (i := i) ?_)
              rw [List.getElem?_take, if_pos hi]
              exact h)
          have e1 := HNC.out k s HS.out wr (HWW.out _ HBX.out).2
          have hbx : b0 < wr.heap.size := by have := (HWW.out _ HBX.out).2.size; omega
          have hwx : w1.heap.size < wr.heap.size := by have := HWs.out; have := HBX.out.size; omega
          have HDW : Hid (Below W.heap.size W wr.drew) := Lib.hid HBX.out.drew
          have HCC : Hid (∀ w', Below W.heap.size W w' → (w'.cell? ⟨w1.heap.size, 0, none⟩ = some (.int .i64 2) ∧ w'.cell? ⟨w1.heap.size, 1, none⟩ = some (.int .i64 v) ∧ w'.cell? ⟨w1.heap.size, 2, none⟩ = some (.float .f64 0) ∧ w'.cell? ⟨w1.heap.size, 3, none⟩ = some (.string ⟨#[]⟩) ∧ w'.cell? ⟨w1.heap.size, 4, none⟩ = some (.slice none 0 0)) ∧ w'.cell? ⟨b0, o0 + k, none⟩ = some (.string s)) := Lib.hid fun w' hb => ⟨HKV.out _ hb, HNC.out k s HS.out _ (HWW.out _ hb).2⟩
          have HSTP : Hid (SetsI (xs.take (k + 1)) (stepA (la.map Pr.c) (pcI s v))) := Lib.hid (by rw [HTK.out]; exact HSI.out.step HTL.out s v)
          have HST1 : Hid (stepA (la.map Pr.c) (pcI s v) = if nameOk s = true then setP (la.map Pr.c) (pcI s v) else la.map Pr.c) := Lib.hid rfl
          have hk0 : (0 : Int) ≤ k := by omega
          have hk1 : (k : Int) < m := by omega
          clear HKV HOC HOK
          generalize stepA (la.map Pr.c) (pcI s v) = ST at *
          generalize nameOk s = x at *
          cases x
          · go_wp2_with fail
            go_region_held3 (fun w' => (w'.cell? ⟨w1.heap.size, 0, none⟩ = some (.int .i64 2) ∧ w'.cell? ⟨w1.heap.size, 1, none⟩ = some (.int .i64 v) ∧ w'.cell? ⟨w1.heap.size, 2, none⟩ = some (.float .f64 0) ∧ w'.cell? ⟨w1.heap.size, 3, none⟩ = some (.string ⟨#[]⟩) ∧ w'.cell? ⟨w1.heap.size, 4, none⟩ = some (.slice none 0 0)) ∧ w'.cell? ⟨b0, o0 + k, none⟩ = some (.string s))
              (first | exact HCC.out _ HB5.out | exact HCC.out _ HDW.out)
              ((go_at_call 20; refine (HSET.out _ (HWW.out _ HDW.out).1).mono ?_; rintro e w5 ⟨q5, m5, c5, r5, rfl, hp5, hm5, hb5⟩; have HB5 : Hid (Below W.heap.size W w5) := Lib.hid (HDW.out.trans (hb5.mono HDW.out.size)); clear hp5 hm5 hb5))
            have e5 := (HCC.out _ HB5.out).2
            have hb5 : b0 < w5.heap.size := by have := (HWW.out _ HB5.out).2.size; omega
            have HL5 : Hid (ST = la.map Pr.c) := Lib.hid (by rw [HST1.out, if_neg (by simp)])
            go_wp2_with (go_at_call 23; refine (HNM.out _).mono ?_; rintro e w' ⟨rfl, rfl⟩)
            go_roundw
            case rel => exact ⟨k + 1, okc, qa, ma, ca, la, by go_num, rfl, rfl, by omega, HPA.out.below (HWW.out _ HB5.out).1, by rw [← HL5.out]; exact HSTP.out, HDI.out, (HWW.out _ HB5.out).2⟩
            case measure => simp [intOf]; omega
          · go_wp2_with fail
            go_region_held3 (fun w' => (w'.cell? ⟨w1.heap.size, 0, none⟩ = some (.int .i64 2) ∧ w'.cell? ⟨w1.heap.size, 1, none⟩ = some (.int .i64 v) ∧ w'.cell? ⟨w1.heap.size, 2, none⟩ = some (.float .f64 0) ∧ w'.cell? ⟨w1.heap.size, 3, none⟩ = some (.string ⟨#[]⟩) ∧ w'.cell? ⟨w1.heap.size, 4, none⟩ = some (.slice none 0 0)) ∧ w'.cell? ⟨b0, o0 + k, none⟩ = some (.string s))
              (first | exact HCC.out _ HB5.out | exact HCC.out _ HDW.out)
              ((go_at_call 20; refine (HSET.out _ (HWW.out _ HDW.out).1).mono ?_; rintro e w5 ⟨q5, m5, c5, r5, rfl, hp5, hm5, hb5⟩; have HB5 : Hid (Below W.heap.size W w5) := Lib.hid (HDW.out.trans (hb5.mono HDW.out.size)); have HP5 := Lib.hid hp5; have HM5 := Lib.hid hm5; clear hp5 hm5 hb5))
            have e5 := (HCC.out _ HB5.out).2
            have hb5 : b0 < w5.heap.size := by have := (HWW.out _ HB5.out).2.size; omega
            have HL5 : Hid (r5.map Pr.c = ST) := Lib.hid (by have h := HM5.out; rw [if_pos (by trivial)] at h; rw [HST1.out, if_pos (by trivial)]; exact h)
            go_wp2_with (go_at_call 23; refine (HNM.out _).mono ?_; rintro e w' ⟨rfl, rfl⟩)
            go_roundw
            case rel => exact ⟨k + 1, okc, q5, m5, c5, r5, by go_num, rfl, rfl, by omega, HP5.out, by rw [HL5.out]; exact HSTP.out, HDI.out, (HWW.out _ HB5.out).2⟩
            case measure => simp [intOf]; omega
    · have hjN : j = N := by omega
      subst hjN
      have HONE : Hid (∀ w', Calls Try.prog 20 #[.slice none 0 0, .string ⟨#[97]⟩, .agg #[.int .i64 2, .int .i64 0, .float .f64 0, .string ⟨#[]⟩, .slice none 0 0]] w' (SePost w' ([pcI ⟨#[97]⟩ 0], 0))) := Lib.hid fun w' => by
        have h := set_any (w := w') (q := none) (m := 0) (c := 0) (l := []) ⟨rfl, by omega, by omega, fun _ => rfl, Ps.nil _ _⟩ ⟨#[97]⟩ (by show (1 : Nat) ≤ _; omega) (k := 2) (n := 0) (f := 0) (s := str0) (q' := none) (m' := 0) (c' := 0) (l' := []) ⟨⟨by dsimp only; omega, by dsimp only; omega, by dsimp only; omega, by dsimp only; omega, by dsimp only; omega, by show (0 : Nat) ≤ _; omega⟩, rfl, by omega, by omega, As.nil _ _, by simp⟩ (fun _ => rfl)
        have e := setR_int SetsI.nil (by simp) ⟨#[97]⟩ 0
        rw [if_pos (by decide)] at e
        have e2 : setP [] (pcI ⟨#[97]⟩ 0) = [pcI ⟨#[97]⟩ 0] := rfl
        rw [e2] at e
        unfold pcI at e
        rw [List.map_nil, e] at h
        exact h
      cases okb
      · clear HPA HSI HOK
        go_wp2
        go_loopw [6, 14] (fun b i wr => ∃ z : Int, i = .int .i64 z ∧ b = .slice none 0 0 ∧ Below w.heap.size w wr) (fun _ _ _ => 0)
        case atStart => exact ⟨_, rfl, rfl, HB.out⟩
        case round =>
          obtain ⟨z, rfl, rfl, hb⟩ := hrel
          have HB3 := Lib.hid hb
          clear hb
          by_cases hz : 0 ≤ z
          · go_wp2_with fail
            refine (HONE.out _).mono ?_
            rintro e w8 ⟨q8, m8, c8, r8, rfl, hp8, hm8, hb8⟩
            have hm1 : m8 = 1 := by
              have h := congrArg List.length hm8
              rw [List.length_map, ← hp8.hn] at h
              exact h
            have hc8 : 1 ≤ c8 := by have := hp8.h1; omega
            have hc9 := hp8.h2
            subst hm1
            have HB8 := Lib.hid (HB3.out.trans (hb8.mono HB3.out.size))
            clear hp8 hm8 hb8
            go_wp2
            go_ret
            exact ⟨rfl, HB8.out⟩
          · go_wp2_with fail
            refine (HONE.out _).mono ?_
            rintro e w8 ⟨q8, m8, c8, r8, rfl, hp8, hm8, hb8⟩
            have hm1 : m8 = 1 := by
              have h := congrArg List.length hm8
              rw [List.length_map, ← hp8.hn] at h
              exact h
            have hc8 : 1 ≤ c8 := by have := hp8.h1; omega
            have hc9 := hp8.h2
            subst hm1
            have HB8 := Lib.hid (HB3.out.trans (hb8.mono HB3.out.size))
            clear hp8 hm8 hb8
            go_wp2
            go_ret
            exact ⟨rfl, HB8.out⟩
      · have HDD := Lib.hid (HOK.out.1 rfl)
        clear HOK
        go_wp2
        go_loopw [6, 14] (fun b i wr => ∃ (t : Nat) (qb : Option Addr) (mb cb : Nat) (lb : List Pr), i = .int .i64 ((t : Int) - 1) ∧ b = .slice qb mb cb ∧ t ≤ j ∧ PsOk wr qb mb cb lb ∧ SetsI ((xs.take j).drop t).reverse (lb.map Pr.c) ∧ Below w1.heap.size w1 wr) (fun _ i _ => (intOf i + 1).toNat)
        case atStart => exact ⟨j, none, 0, 0, [], rfl, rfl, by omega, ⟨rfl, by omega, by omega, fun _ => rfl, Ps.nil _ _⟩, by rw [List.drop_eq_nil_of_le (by rw [List.length_take]; omega)]; exact SetsI.nil, Below.refl _ _⟩
        case round =>
          obtain ⟨t, qb, mb, cb, lb, rfl, rfl, ht, hpb, hsb, hb⟩ := hrel
          have HPB := Lib.hid hpb
          have HSB := Lib.hid hsb
          have HB3 := Lib.hid hb
          have hmb1 := hpb.h1
          have hmb2 := hpb.h2
          have HBW : Hid (Below w.heap.size w wr) := Lib.hid (HB.out.trans (hb.mono HB.out.size))
          clear hpb hsb hb
          by_cases ht0 : t = 0
          · subst ht0
            have HEQ : Hid (la.map Pr.c = lb.map Pr.c) := Lib.hid (HSI.out.same HSB.out HDD.out (by rw [List.drop_zero]; exact dist_reverse HDD.out) (fun p => by rw [List.drop_zero, List.mem_reverse]))
            have HSM : Hid (∀ w', Below wr.heap.size wr w' → Calls Try.prog 22 #[.slice qa ma ca, .slice qb mb cb] w' fun e w'' => e = .returned (.bool true) ∧ Below w'.heap.size w' w'') := Lib.hid fun w' hb => by
              have h := refSameProps_any (HPA.out.below (HB3.out.trans (hb.mono HB3.out.size))) (HPB.out.below hb)
              rw [HEQ.out, sameP_self] at h
              exact h
            clear HPA HSI HPB HSB HEQ
            go_wp2_with fail
            refine (HONE.out _).mono ?_
            rintro e w8 ⟨q8, m8, c8, r8, rfl, hp8, hm8, hb8⟩
            have hm1 : m8 = 1 := by
              have h := congrArg List.length hm8
              rw [List.length_map, ← hp8.hn] at h
              exact h
            have hc8 : 1 ≤ c8 := by have := hp8.h1; omega
            have hc9 := hp8.h2
            subst hm1
            have HB8 := Lib.hid (HBW.out.trans (hb8.mono HBW.out.size))
            have HB8r := Lib.hid hb8
            clear hp8 hm8 hb8
            go_wp2_with fail
            refine (HSM.out _ HB8r.out).mono ?_
            rintro e w9 ⟨rfl, hb9⟩
            have HB9 := Lib.hid (HB8.out.trans (hb9.mono HB8.out.size))
            clear hb9
            go_wp2
            go_ret
            exact ⟨rfl, HB9.out⟩
          · obtain ⟨u, hu⟩ : ∃ u, t = u + 1 := ⟨t - 1, by omega⟩
            have hui : (t : Int) - 1 = (u : Int) := by omega
            rw [hui]
            obtain ⟨s, hs⟩ : ∃ s, ns[u]? = some s := ⟨_, List.getElem?_eq_getElem (by have := HNS.out.hn; omega)⟩
            obtain ⟨v, hv⟩ : ∃ s, vs[u]? = some s := ⟨_, List.getElem?_eq_getElem (by have := HVS.out.hn; omega)⟩
            obtain ⟨b0, o0, hq0, hblt0, e0⟩ := (HNS.out.hl.below HBW.out).at hs
            obtain ⟨b1, o1, hq1, hblt1, d0⟩ := (HVS.out.hl.below HBW.out).at hv
            subst hq0 hq1
            have HCC : Hid (∀ w', Below wr.heap.size wr w' → w'.cell? ⟨b0, o0 + u, none⟩ = some (.string s) ∧ w'.cell? ⟨b1, o1 + u, none⟩ = some (.int .i64 v)) := Lib.hid fun w' hb => ⟨by rw [hb.cell hblt0]; exact e0, by rw [hb.cell hblt1]; exact d0⟩
            have hss := HNS.out.ok s (List.mem_of_getElem? hs)
            have hvb := HVS.out.ok v (List.mem_of_getElem? hv)
            have hxu : xs[u]? = some (pcI s v) := by rw [HXS.out]; exact xsOf_at hs hv
            have hxt : (xs.take j)[u]? = some (pcI s v) := by rw [List.getElem?_take, if_pos (by omega)]; exact hxu
            have HTK : Hid (((xs.take j).drop u).reverse = ((xs.take j).drop t).reverse ++ [pcI s v]) := Lib.hid (by rw [drop_get hxt, List.reverse_cons, hu])
            have HTL : Hid (((xs.take j).drop t).reverse.length ≤ 15) := Lib.hid (by rw [List.length_reverse, List.length_drop, List.length_take]; omega)
            have HSTP : Hid (SetsI ((xs.take j).drop u).reverse (stepA (lb.map Pr.c) (pcI s v))) := Lib.hid (by rw [HTK.out]; exact HSB.out.step HTL.out s v)
            have HST1 : Hid (stepA (lb.map Pr.c) (pcI s v) = if nameOk s = true then setP (lb.map Pr.c) (pcI s v) else lb.map Pr.c) := Lib.hid rfl
            have HSET : Hid (∀ w', Below wr.heap.size wr w' → Calls Try.prog 20 #[.slice qb mb cb, .string s, .agg #[.int .i64 2, .int .i64 v, .float .f64 0, .string ⟨#[]⟩, .slice none 0 0]] w' (SePost w' (if nameOk s = true then (setP (lb.map Pr.c) (pcI s v), 0) else ([], 2)))) := Lib.hid fun w' hb => by
              have h := set_any (w := w') (HPB.out.below hb) s hss (k := 2) (n := v) (f := 0) (s := str0) (q' := none) (m' := 0) (c' := 0) (l' := []) ⟨⟨by dsimp only; omega, by dsimp only; omega, hvb.1, hvb.2, by dsimp only; omega, by show (0 : Nat) ≤ _; omega⟩, rfl, by omega, by omega, As.nil _ _, by simp⟩ (fun _ => rfl)
              have e := setR_int HSB.out HTL.out s v
              unfold pcI at e
              rw [e] at h
              exact h
            have hu0 : (0 : Int) ≤ u := by omega
            have hu1 : (u : Int) < m := by omega
            have hu2 : (u : Int) < m' := by omega
            have HDW : Hid (Below wr.heap.size wr wr.drew) := Lib.hid (Below.refl _ _).drew
            have HU := Lib.hid hu
            clear hs hv hvb hxu hxt hu hui ht0 HSB
            generalize stepA (lb.map Pr.c) (pcI s v) = ST at *
            generalize nameOk s = x at *
            cases x
            · go_wp2_with fail
              go_region_held3 (fun w' => w'.cell? ⟨b0, o0 + u, none⟩ = some (.string s) ∧ w'.cell? ⟨b1, o1 + u, none⟩ = some (.int .i64 v))
                (first | exact HCC.out _ HB5.out | exact HCC.out _ HDW.out)
                ((go_at_call 20; refine (HSET.out _ HDW.out).mono ?_; rintro e w5 ⟨q5, m5, c5, r5, rfl, hp5, hm5, hb5⟩; have HB5 : Hid (Below wr.heap.size wr w5) := Lib.hid (HDW.out.trans (hb5.mono HDW.out.size)); have HP5 := Lib.hid hp5; have HM5 := Lib.hid hm5; clear hp5 hm5 hb5))
              have HB5w : Hid (Below w1.heap.size w1 w5) := Lib.hid (HB3.out.trans (HB5.out.mono HB3.out.size))
              have HL5 : Hid (ST = lb.map Pr.c) := Lib.hid (by rw [HST1.out, if_neg (by simp)])
              go_wp2
              go_roundw
              case rel => exact ⟨u, qb, mb, cb, lb, rfl, rfl, by have := HU.out; omega, HPB.out.below HB5.out, by rw [← HL5.out]; exact HSTP.out, HB5w.out⟩
              case measure => have := HU.out; simp [intOf] <;> omega
            · go_wp2_with fail
              go_region_held3 (fun w' => w'.cell? ⟨b0, o0 + u, none⟩ = some (.string s) ∧ w'.cell? ⟨b1, o1 + u, none⟩ = some (.int .i64 v))
                (first | exact HCC.out _ HB5.out | exact HCC.out _ HDW.out)
                ((go_at_call 20; refine (HSET.out _ HDW.out).mono ?_; rintro e w5 ⟨q5, m5, c5, r5, rfl, hp5, hm5, hb5⟩; have HB5 : Hid (Below wr.heap.size wr w5) := Lib.hid (HDW.out.trans (hb5.mono HDW.out.size)); have HP5 := Lib.hid hp5; have HM5 := Lib.hid hm5; clear hp5 hm5 hb5))
              have HB5w : Hid (Below w1.heap.size w1 w5) := Lib.hid (HB3.out.trans (HB5.out.mono HB3.out.size))
              have HL5 : Hid (r5.map Pr.c = ST) := Lib.hid (by have h := HM5.out; rw [if_pos (by trivial)] at h; rw [HST1.out, if_pos (by trivial)]; exact h)
              go_wp2
              go_roundw
              case rel => exact ⟨u, q5, m5, c5, r5, rfl, rfl, by have := HU.out; omega, HP5.out, by rw [HL5.out]; exact HSTP.out, HB5w.out⟩
              case measure => have := HU.out; simp [intOf] <;> omega

end Go.Proofs.Ytocplkiomlocpaa
