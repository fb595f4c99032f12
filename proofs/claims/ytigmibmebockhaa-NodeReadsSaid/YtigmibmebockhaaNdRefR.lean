/-
  The reference's Right: its contract.
-/
import Derived.Test.YtigmibmebockhaaNdRefS
import Derived.Deep.CutBlock
import Derived.Deep.CutRange
set_option linter.unusedVariables false
set_option linter.unusedSimpArgs false
set_option maxRecDepth 100000
namespace Go.Proofs.Ytigmibmebockhaa
open Go.RowKit

/-- As many of each as there must be. -/
def StrN (lf : Bool) (km vm im : Nat) : Prop := km ≤ 250 ∧ (lf = true → vm = km ∧ im = 0) ∧ (lf = false → im = km + 1 ∧ vm = 0)
theorem right_iff (n : Nd) : n.s.Right ↔ StrN n.leaf n.ks.length n.vs.length n.is.length ∧ Rise n.s.ks ∧ (∀ v ∈ n.s.vs, v.Right) ∧ (∀ i ∈ n.is, PageOk i) ∧ n.s.size ≤ 493 := by
  have ek : n.s.ks.length = n.ks.length := by rw [Nd.s_ks, List.length_map]
  have ev : n.s.vs.length = n.vs.length := by rw [show n.s.vs = n.vs.map Vl.s from rfl, List.length_map]
  constructor
  · intro r
    refine ⟨⟨by rw [← ek]; exact r.many, fun h => ?_, fun h => ?_⟩, r.rise, ?_, ?_, r.size⟩
    · obtain ⟨h1, h2, _⟩ := r.leaf h
      rw [ek, ev] at h1
      exact ⟨h1, by rw [show n.is = [] from h2]; rfl⟩
    · obtain ⟨h1, h2, _⟩ := r.branch h
      rw [ek] at h1
      exact ⟨h1, by rw [← ev, h2]; rfl⟩
    · cases hl : n.leaf
      · obtain ⟨_, h2, _⟩ := r.branch hl
        rw [h2]
        intro v hv
        cases hv
      · exact (r.leaf hl).2.2
    · cases hl : n.leaf
      · exact (r.branch hl).2.2
      · rw [show n.is = [] from (r.leaf hl).2.1]
        intro v hv
        cases hv
  · rintro ⟨⟨h1, h2, h3⟩, h4, h5, h6, h7⟩
    refine ⟨by rw [ek]; exact h1, h4, fun h => ?_, fun h => ?_, h7⟩
    · obtain ⟨a, b⟩ := h2 h
      exact ⟨by rw [ek, ev]; exact a, List.eq_nil_of_length_eq_zero b, h5⟩
    · obtain ⟨a, b⟩ := h3 h
      exact ⟨by rw [ek]; exact a, List.eq_nil_of_length_eq_zero (by rw [ev]; exact b), h6⟩

set_option maxHeartbeats 6400000 in
theorem rright_any {w : World} {n : Nd} (h : n.Ok w) (hc : n.s.count ≤ 100000) :
    Calls Try.prog 29 #[n.cell] w (TellsB n.s.Right w) := by
  obtain ⟨f1, f2, f3, _⟩ := Nd.few hc
  obtain ⟨W, hW, hbw, hws, hcc⟩ := nd_boxR w n
  have HOK := Lib.hid h
  have HC := Lib.hid hcc
  have HBW := Lib.hid hbw
  have HBS : Hid (∀ w', Below W.heap.size W w' → Below w.heap.size w w') := Lib.hid fun w' hb => (hcc w' hb).1
  have HSZ := Lib.hid (fun w' hb => rsize_any (w := w') ((h.below hbw).below hb) hc)
  have HP := Lib.hid (right_iff n)
  have k1 := h.k1
  have k2 := h.k2
  have v1 := h.v1
  have v2 := h.v2
  have i1 := h.i1
  have i2 := h.i2
  have hsz2 : n.s.size ≤ 600003 := Nat.le_trans n.s.size_le (by omega)
  unfold Nd.cell at HSZ ⊢
  obtain ⟨km, hkm⟩ : ∃ m, m = n.ks.length := ⟨_, rfl⟩
  have HKM := Lib.hid hkm
  obtain ⟨vm, hvm⟩ : ∃ m, m = n.vs.length := ⟨_, rfl⟩
  have HVM := Lib.hid hvm
  obtain ⟨im, him⟩ : ∃ m, m = n.is.length := ⟨_, rfl⟩
  have HIM := Lib.hid him
  rw [← hkm, ← hvm, ← him] at HC hW HSZ HP
  rw [← hkm, ← hvm, ← him]
  rw [← hkm] at k1 f1
  rw [← hvm] at v1 f2
  rw [← him] at i1 f3
  generalize n.s.Right = P at *
  generalize n.s.size = sz at *
  generalize n.leaf = lf at *
  clear h hc hbw hws hcc hkm hvm him
  obtain ⟨_, c0, c1, c2, c3⟩ := HC.out W (Below.refl _ _)
  by_cases h250 : 250 < km
  · have HNS : Hid (¬ StrN lf km vm im) := Lib.hid fun h => by have := h.1; omega
    go_enter Try.func29, Try.ntmps29
    go_wp2_with fail
    (try rw [← hW])
    go_wp2
    go_ret
    exact ⟨false, rfl, ⟨fun h => (by cases h), fun h => absurd (HP.out.1 h).1 HNS.out⟩, HBW.out⟩
  · cases lf
    · by_cases hm : im = km + 1
      · by_cases hv : vm = 0
        · have HSTR : Hid (StrN false km vm im) := Lib.hid ⟨by omega, fun h => (by cases h), fun _ => ⟨hm, hv⟩⟩
          subst hm hv
          go_enter Try.func29, Try.ntmps29
          go_wp2_with fail
          rw [← hW]
          replace hW := Lib.hid hW
          go_wp2
          go_loopw [3] (fun i wr => ∃ j : Nat, i = .int .i64 (j : Int) ∧ j ≤ km ∧ Below W.heap.size W wr ∧ (∀ i k, i < j → (n.ks.map Kb.l)[i]? = some k → k.length ≤ 72 ∧ ∀ k', 0 < i → (n.ks.map Kb.l)[i - 1]? = some k' → Lib.compareBytes k' k < 0)) (fun i _ => km - (intOf i).toNat)
          case atStart => exact ⟨0, rfl, by omega, Below.refl _ _, fun i k hi => absurd hi (by omega)⟩
          case round =>
            clear c0 c1 c2 c3
            obtain ⟨j, rfl, hj, hb, hall⟩ := hrel
            have HB := Lib.hid hb
            have HA := Lib.hid hall
            obtain ⟨_, c0, c1, c2, c3⟩ := HC.out _ hb
            clear hb hall
            by_cases hlt : j < km
            · obtain ⟨x, hx⟩ : ∃ x, n.ks[j]? = some x := ⟨_, List.getElem?_eq_getElem (by have := HKM.out; omega)⟩
              have hm2 := List.mem_of_getElem? hx
              have HNr := Lib.hid ((HOK.out.below HBW.out).below HB.out)
              obtain ⟨b, o, hq, hblt, hkc⟩ := HNr.out.kl.at hx
              have hx0 := HNr.out.ko x hm2
              have hx1 := hx0.h1
              have hx2 := hx0.h2
              have HX := Lib.hid hx
              have HKX := Lib.hid hx0
              rw [hq] at c1
              have hji : (j : Int) < km := by omega
              have hj0' : (0 : Int) ≤ j := by omega
              obtain ⟨xl, hxl⟩ : ∃ y, y = x.l.length := ⟨_, rfl⟩
              have HXL := Lib.hid hxl
              rw [← hxl] at hkc hx1
              clear hx hm2 hx0 hxl
              by_cases h72 : 72 < xl
              · have hd72 : decide (72 < (xl : Int)) = true := by simp; omega
                clear hq
                go_wp2_with fail
                go_quiet (fail)
                go_wp2
                go_ret
                refine ⟨false, rfl, ⟨fun h => (by cases h), fun h => ?_⟩, HBS.out _ (belowN HB.out _)⟩
                have h1 := ((HP.out.1 h).2.1 j x.l (by rw [Nd.s_ks, List.getElem?_map, HX.out]; rfl)).1
                have := HXL.out
                omega
              · have hd72 : decide (72 < (xl : Int)) = false := by simp; omega
                rcases Nat.eq_zero_or_pos j with hj0 | hj0
                · subst hj0
                  rw [show ((0 : Nat) : Int) = 0 from rfl]
                  rw [Nat.add_zero] at hkc
                  have hkm0 : 0 < km := hlt
                  clear hq
                  go_wp2_with fail
                  go_quiet (fail)
                  go_wp2
                  go_roundw
                  case rel =>
                    refine ⟨1, by go_num, by omega, belowN HB.out _, fun i k hi hk => ?_⟩
                    obtain rfl : i = 0 := by omega
                    rw [List.getElem?_map, HX.out] at hk
                    cases hk
                    exact ⟨by have := HXL.out; omega, fun _ h0 => absurd h0 (by omega)⟩
                  case measure => simp [intOf]; omega
                · obtain ⟨i, hi⟩ : ∃ i, i + 1 = j := ⟨j - 1, by omega⟩
                  obtain ⟨y, hy⟩ : ∃ y, n.ks[i]? = some y := ⟨_, List.getElem?_eq_getElem (by have := HKM.out; omega)⟩
                  obtain ⟨b', o', hbe, hblt', hkc'⟩ := HNr.out.kl.at hy
                  rw [hq] at hbe
                  cases hbe
                  have hy0 := HNr.out.ko y (List.mem_of_getElem? hy)
                  have HCM : Hid (∀ k, Calls Try.prog 44 #[.slice y.q y.l.length y.c, .slice x.q xl x.c] (wr.drewN k) fun e w' => e = .returned (.bool (decide (Lib.compareBytes y.l x.l < 0))) ∧ w' = wr.drewN k) := Lib.hid fun k => rbelow_any (hy0.bs.drewN k) (HKX.out.bs.drewN k) rfl HXL.out
                  have HY := Lib.hid hy
                  have hcast : (j : Int) - 1 = (i : Int) := by omega
                  have hil : (i : Int) < km := by omega
                  have hil2 : i < km := by omega
                  have hi0 : (0 : Int) ≤ i := by omega
                  have hdj : decide (0 < (j : Int)) = true := by simp; omega
                  have hdj2 : decide (0 < j) = true := by simp; omega
                  have HI := Lib.hid hi
                  have hy1 := hy0.h1
                  have hy2 := hy0.h2
                  clear hy hy0 hi hq
                  obtain ⟨cb, hcb⟩ : ∃ z, z = decide (Lib.compareBytes y.l x.l < 0) := ⟨_, rfl⟩
                  rw [← hcb] at HCM
                  have HCB := Lib.hid hcb
                  clear hcb
                  go_wp2_with fail
                  go_quiet (first | (go_at_call 44; with_reducible exact Calls.quiet_of_same (HCM.out _)) | fail)
                  cases cb
                  · go_wp2
                    go_ret
                    refine ⟨false, rfl, ⟨fun h => (by cases h), fun h => ?_⟩, HBS.out _ (belowN HB.out _)⟩
                    have h1 := ((HP.out.1 h).2.1 j x.l (by rw [Nd.s_ks, List.getElem?_map, HX.out]; rfl)).2 y.l hj0 (by rw [Nd.s_ks, List.getElem?_map, show j - 1 = i by have := HI.out; omega, HY.out]; rfl)
                    have h2 := HCB.out
                    rw [decide_eq_true h1] at h2
                    cases h2
                  · go_wp2
                    go_roundw
                    case rel =>
                      refine ⟨j + 1, by go_num, by omega, belowN HB.out _, fun i' k hi' hk => ?_⟩
                      rcases Nat.lt_or_ge i' j with h | h
                      · exact HA.out i' k h hk
                      · obtain rfl : i' = j := by omega
                        rw [List.getElem?_map, HX.out] at hk
                        cases hk
                        refine ⟨by have := HXL.out; omega, fun k' _ hk' => ?_⟩
                        rw [List.getElem?_map, show i' - 1 = i by have := HI.out; omega, HY.out] at hk'
                        cases hk'
                        exact of_decide_eq_true HCB.out.symm
                    case measure => simp [intOf]; omega
            · have HRISE : Hid (Rise n.s.ks) := Lib.hid fun i k hk => HA.out i k (by have := (List.getElem?_eq_some_iff.1 hk).1; rw [Nd.s_ks, List.length_map] at this; have := HKM.out; omega) hk
              clear HA
              go_wp2
              go_loopw [4] (fun i wr => ∃ j : Nat, i = .int .i64 (j : Int) ∧ j ≤ 0 ∧ Below W.heap.size W wr ∧ (∀ i v, i < j → n.s.vs[i]? = some v → v.Right)) (fun i _ => 0 - (intOf i).toNat)
              case atStart => exact ⟨0, rfl, by omega, HB.out, fun i k hi => absurd hi (by omega)⟩
              case round =>
                clear c0 c1 c2 c3
                obtain ⟨j, rfl, hj, hb, hall⟩ := hrel
                replace HB := Lib.hid hb
                have HA := Lib.hid hall
                obtain ⟨_, c0, c1, c2, c3⟩ := HC.out _ hb
                clear hb hall
                by_cases hlt : j < 0
                · omega
                · have HVALS : Hid (∀ v ∈ n.s.vs, v.Right) := Lib.hid fun v hv => by
                    obtain ⟨i, hi, rfl⟩ := List.mem_iff_getElem.1 hv
                    refine HA.out i _ ?_ (List.getElem?_eq_getElem hi)
                    rw [show n.s.vs = n.vs.map Vl.s from rfl, List.length_map] at hi
                    have := HVM.out
                    omega
                  clear HA
                  go_wp2
                  go_loopw [6] (fun i wr => ∃ j : Nat, i = .int .i64 (j : Int) ∧ j ≤ (km + 1) ∧ Below W.heap.size W wr ∧ (∀ i v, i < j → n.is[i]? = some v → PageOk v)) (fun i _ => (km + 1) - (intOf i).toNat)
                  case atStart => exact ⟨0, rfl, by omega, HB.out, fun i k hi => absurd hi (by omega)⟩
                  case round =>
                    obtain ⟨j, rfl, hj, hb, hall⟩ := hrel
                    replace HB := Lib.hid hb
                    have HA := Lib.hid hall
                    obtain ⟨_, c0, c1, c2, c3⟩ := HC.out _ hb
                    clear hb hall
                    by_cases hlt : j < (km + 1)
                    · obtain ⟨y, hy⟩ : ∃ y, n.is[j]? = some y := ⟨_, List.getElem?_eq_getElem (by have := HIM.out; omega)⟩
                      have hym := List.mem_of_getElem? hy
                      obtain ⟨b, o, hq, y0⟩ := ((HOK.out.below HBW.out).below HB.out).il.at hy
                      have hblt := World.block_lt_of_cell? _ _ y0
                      rw [hq] at c3
                      have HY := Lib.hid hy
                      have HYM := Lib.hid hym
                      have HPG := Lib.hid (fun w' => page_any w' y)
                      have HPB := Lib.hid (pageB_iff y)
                      clear hy hym hq
                      generalize pageB y = np at *
                      go_wp2_with fail
                      refine (HPG.out _).mono ?_
                      rintro e w2 ⟨rfl, hb2⟩
                      have HB2 := Lib.hid (HB.out.trans (hb2.mono HB.out.size))
                      clear hb2 c0 c1 c2 c3 y0 hblt
                      cases np
                      · go_wp2
                        go_ret
                        refine ⟨false, rfl, ⟨fun h => (by cases h), fun h => ?_⟩, HBS.out _ HB2.out⟩
                        have h1 := HPB.out.2 ((HP.out.1 h).2.2.2.1 y HYM.out)
                        first | cases h1 | exact h1.elim
                      · go_wp2
                        go_roundw
                        case rel =>
                          refine ⟨j + 1, by go_num, by omega, HB2.out, fun i v hi hv => ?_⟩
                          rcases Nat.lt_or_ge i j with h | h
                          · exact HA.out i v h hv
                          · obtain rfl : i = j := by omega
                            rw [HY.out] at hv
                            cases hv
                            exact HPB.out.1 (by trivial)
                        case measure => simp [intOf]; omega
                    · have HKIDS : Hid (∀ i ∈ n.is, PageOk i) := Lib.hid fun v hv => by
                        obtain ⟨i, hi, rfl⟩ := List.mem_iff_getElem.1 hv
                        exact HA.out i _ (by have := HIM.out; omega) (List.getElem?_eq_getElem hi)
                      clear HA
                      go_wp2_with fail
                      with_reducible refine (HSZ.out _ HB.out).mono ?_
                      rintro e w2 ⟨rfl, hb2⟩
                      have HB2 := Lib.hid (HB.out.trans (hb2.mono HB.out.size))
                      clear hb2 c0 c1 c2 c3
                      go_wp2
                      go_ret
                      refine ⟨decide (sz ≤ 493), ret_bool (by simp; try omega), ?_, HBS.out _ HB2.out⟩
                      rw [HP.out, decide_eq_true_eq]
                      exact ⟨fun h => ⟨HSTR.out, HRISE.out, HVALS.out, HKIDS.out, h⟩, fun h => h.2.2.2.2⟩
        · have HNS : Hid (¬ StrN false km vm im) := Lib.hid fun h => hv (h.2.2 rfl).2
          have hvb : ((vm : Int) != 0) = true := by rw [bne_iff_ne]; omega
          have hvb2 : (vm != 0) = true := by rw [bne_iff_ne]; omega
          subst hm
          go_enter Try.func29, Try.ntmps29
          go_wp2_with fail
          (try rw [← hW])
          go_wp2
          go_ret
          exact ⟨false, rfl, ⟨fun h => (by cases h), fun h => absurd (HP.out.1 h).1 HNS.out⟩, HBW.out⟩
      · have HNS : Hid (¬ StrN false km vm im) := Lib.hid fun h => hm (h.2.2 rfl).1
        have hvb : ((im : Int) != (km : Int) + 1) = true := by rw [bne_iff_ne]; omega
        have hvb2 : (im != km + 1) = true := by rw [bne_iff_ne]; omega
        go_enter Try.func29, Try.ntmps29
        go_wp2_with fail
        (try rw [← hW])
        go_wp2
        go_ret
        exact ⟨false, rfl, ⟨fun h => (by cases h), fun h => absurd (HP.out.1 h).1 HNS.out⟩, HBW.out⟩
    · by_cases hm : vm = km
      · by_cases hv : im = 0
        · have HSTR : Hid (StrN true km vm im) := Lib.hid ⟨by omega, fun _ => ⟨hm, hv⟩, fun h => (by cases h)⟩
          subst hm hv
          go_enter Try.func29, Try.ntmps29
          go_wp2_with fail
          rw [← hW]
          replace hW := Lib.hid hW
          go_wp2
          go_loopw [3] (fun i wr => ∃ j : Nat, i = .int .i64 (j : Int) ∧ j ≤ vm ∧ Below W.heap.size W wr ∧ (∀ i k, i < j → (n.ks.map Kb.l)[i]? = some k → k.length ≤ 72 ∧ ∀ k', 0 < i → (n.ks.map Kb.l)[i - 1]? = some k' → Lib.compareBytes k' k < 0)) (fun i _ => vm - (intOf i).toNat)
          case atStart => exact ⟨0, rfl, by omega, Below.refl _ _, fun i k hi => absurd hi (by omega)⟩
          case round =>
            clear c0 c1 c2 c3
            obtain ⟨j, rfl, hj, hb, hall⟩ := hrel
            have HB := Lib.hid hb
            have HA := Lib.hid hall
            obtain ⟨_, c0, c1, c2, c3⟩ := HC.out _ hb
            clear hb hall
            by_cases hlt : j < vm
            · obtain ⟨x, hx⟩ : ∃ x, n.ks[j]? = some x := ⟨_, List.getElem?_eq_getElem (by have := HKM.out; omega)⟩
              have hm2 := List.mem_of_getElem? hx
              have HNr := Lib.hid ((HOK.out.below HBW.out).below HB.out)
              obtain ⟨b, o, hq, hblt, hkc⟩ := HNr.out.kl.at hx
              have hx0 := HNr.out.ko x hm2
              have hx1 := hx0.h1
              have hx2 := hx0.h2
              have HX := Lib.hid hx
              have HKX := Lib.hid hx0
              rw [hq] at c1
              have hji : (j : Int) < vm := by omega
              have hj0' : (0 : Int) ≤ j := by omega
              obtain ⟨xl, hxl⟩ : ∃ y, y = x.l.length := ⟨_, rfl⟩
              have HXL := Lib.hid hxl
              rw [← hxl] at hkc hx1
              clear hx hm2 hx0 hxl
              by_cases h72 : 72 < xl
              · have hd72 : decide (72 < (xl : Int)) = true := by simp; omega
                clear hq
                go_wp2_with fail
                go_quiet (fail)
                go_wp2
                go_ret
                refine ⟨false, rfl, ⟨fun h => (by cases h), fun h => ?_⟩, HBS.out _ (belowN HB.out _)⟩
                have h1 := ((HP.out.1 h).2.1 j x.l (by rw [Nd.s_ks, List.getElem?_map, HX.out]; rfl)).1
                have := HXL.out
                omega
              · have hd72 : decide (72 < (xl : Int)) = false := by simp; omega
                rcases Nat.eq_zero_or_pos j with hj0 | hj0
                · subst hj0
                  rw [show ((0 : Nat) : Int) = 0 from rfl]
                  rw [Nat.add_zero] at hkc
                  have hvm0 : 0 < vm := hlt
                  clear hq
                  go_wp2_with fail
                  go_quiet (fail)
                  go_wp2
                  go_roundw
                  case rel =>
                    refine ⟨1, by go_num, by omega, belowN HB.out _, fun i k hi hk => ?_⟩
                    obtain rfl : i = 0 := by omega
                    rw [List.getElem?_map, HX.out] at hk
                    cases hk
                    exact ⟨by have := HXL.out; omega, fun _ h0 => absurd h0 (by omega)⟩
                  case measure => simp [intOf]; omega
                · obtain ⟨i, hi⟩ : ∃ i, i + 1 = j := ⟨j - 1, by omega⟩
                  obtain ⟨y, hy⟩ : ∃ y, n.ks[i]? = some y := ⟨_, List.getElem?_eq_getElem (by have := HKM.out; omega)⟩
                  obtain ⟨b', o', hbe, hblt', hkc'⟩ := HNr.out.kl.at hy
                  rw [hq] at hbe
                  cases hbe
                  have hy0 := HNr.out.ko y (List.mem_of_getElem? hy)
                  have HCM : Hid (∀ k, Calls Try.prog 44 #[.slice y.q y.l.length y.c, .slice x.q xl x.c] (wr.drewN k) fun e w' => e = .returned (.bool (decide (Lib.compareBytes y.l x.l < 0))) ∧ w' = wr.drewN k) := Lib.hid fun k => rbelow_any (hy0.bs.drewN k) (HKX.out.bs.drewN k) rfl HXL.out
                  have HY := Lib.hid hy
                  have hcast : (j : Int) - 1 = (i : Int) := by omega
                  have hil : (i : Int) < vm := by omega
                  have hil2 : i < vm := by omega
                  have hi0 : (0 : Int) ≤ i := by omega
                  have hdj : decide (0 < (j : Int)) = true := by simp; omega
                  have hdj2 : decide (0 < j) = true := by simp; omega
                  have HI := Lib.hid hi
                  have hy1 := hy0.h1
                  have hy2 := hy0.h2
                  clear hy hy0 hi hq
                  obtain ⟨cb, hcb⟩ : ∃ z, z = decide (Lib.compareBytes y.l x.l < 0) := ⟨_, rfl⟩
                  rw [← hcb] at HCM
                  have HCB := Lib.hid hcb
                  clear hcb
                  go_wp2_with fail
                  go_quiet (first | (go_at_call 44; with_reducible exact Calls.quiet_of_same (HCM.out _)) | fail)
                  cases cb
                  · go_wp2
                    go_ret
                    refine ⟨false, rfl, ⟨fun h => (by cases h), fun h => ?_⟩, HBS.out _ (belowN HB.out _)⟩
                    have h1 := ((HP.out.1 h).2.1 j x.l (by rw [Nd.s_ks, List.getElem?_map, HX.out]; rfl)).2 y.l hj0 (by rw [Nd.s_ks, List.getElem?_map, show j - 1 = i by have := HI.out; omega, HY.out]; rfl)
                    have h2 := HCB.out
                    rw [decide_eq_true h1] at h2
                    cases h2
                  · go_wp2
                    go_roundw
                    case rel =>
                      refine ⟨j + 1, by go_num, by omega, belowN HB.out _, fun i' k hi' hk => ?_⟩
                      rcases Nat.lt_or_ge i' j with h | h
                      · exact HA.out i' k h hk
                      · obtain rfl : i' = j := by omega
                        rw [List.getElem?_map, HX.out] at hk
                        cases hk
                        refine ⟨by have := HXL.out; omega, fun k' _ hk' => ?_⟩
                        rw [List.getElem?_map, show i' - 1 = i by have := HI.out; omega, HY.out] at hk'
                        cases hk'
                        exact of_decide_eq_true HCB.out.symm
                    case measure => simp [intOf]; omega
            · have HRISE : Hid (Rise n.s.ks) := Lib.hid fun i k hk => HA.out i k (by have := (List.getElem?_eq_some_iff.1 hk).1; rw [Nd.s_ks, List.length_map] at this; have := HKM.out; omega) hk
              clear HA
              go_wp2
              go_loopw [4] (fun i wr => ∃ j : Nat, i = .int .i64 (j : Int) ∧ j ≤ vm ∧ Below W.heap.size W wr ∧ (∀ i v, i < j → n.s.vs[i]? = some v → v.Right)) (fun i _ => vm - (intOf i).toNat)
              case atStart => exact ⟨0, rfl, by omega, HB.out, fun i k hi => absurd hi (by omega)⟩
              case round =>
                clear c0 c1 c2 c3
                obtain ⟨j, rfl, hj, hb, hall⟩ := hrel
                replace HB := Lib.hid hb
                have HA := Lib.hid hall
                obtain ⟨_, c0, c1, c2, c3⟩ := HC.out _ hb
                clear hb hall
                by_cases hlt : j < vm
                · obtain ⟨y, hy⟩ : ∃ y, n.vs[j]? = some y := ⟨_, List.getElem?_eq_getElem (by have := HVM.out; omega)⟩
                  have hym := List.mem_of_getElem? hy
                  obtain ⟨b, o, hq, hblt, y0, y1, y2⟩ := ((HOK.out.below HBW.out).below HB.out).vl.at hy
                  have hyl1 := (HOK.out.vo y hym).h1
                  have hyl2 := (HOK.out.vo y hym).h2
                  rw [hq] at c2
                  have HY : Hid (n.s.vs[j]? = some y.s) := Lib.hid (by rw [show n.s.vs = n.vs.map Vl.s from rfl, List.getElem?_map, hy]; rfl)
                  have HYM : Hid (y.s ∈ n.s.vs) := Lib.hid (List.mem_map_of_mem hym)
                  have hji : (j : Int) < vm := by omega
                  have hj0' : (0 : Int) ≤ j := by omega
                  clear hy hym hq
                  obtain ⟨yq, yc, yl, yg, yp⟩ := y
                  dsimp only at y0 y1 y2 hyl1 hyl2
                  obtain ⟨yn, hyn⟩ : ∃ z, z = yl.length := ⟨_, rfl⟩
                  have HYN := Lib.hid hyn
                  rw [← hyn] at y0 hyl1
                  clear hyn
                  obtain ⟨W5, hW5⟩ : ∃ W5, W5 = wr.alloc (.cells #[.slice yq yn yc, .int .i64 yg, .int .i64 yp] 65) := ⟨_, rfl⟩
                  have HB5 : Hid (Below W.heap.size W W5) := Lib.hid (by rw [hW5]; exact HB.out.alloc HB.out.size _)
                  have HX5 : Hid (∀ w', Below W5.heap.size W5 w' → w'.cell? ⟨wr.heap.size, 0, none⟩ = some (.slice yq yn yc) ∧ w'.cell? ⟨wr.heap.size, 1, none⟩ = some (.int .i64 yg) ∧ w'.cell? ⟨wr.heap.size, 2, none⟩ = some (.int .i64 yp)) := Lib.hid fun w' hb => by
                    have hx := heap_alloc_new wr (.cells #[.slice yq yn yc, .int .i64 yg, .int .i64 yp] 65)
                    rw [← hW5] at hx
                    have h1 := (hb.block wr.heap.size (Array.getElem?_eq_some_iff.1 hx).1).trans hx
                    exact ⟨Joins.cell_of_block h1 0, Joins.cell_of_block h1 1, Joins.cell_of_block h1 2⟩
                  by_cases hp : yp = 0
                  · subst hp
                    by_cases hg : yg = 0
                    · subst hg
                      subst hW5
                      by_cases hl64 : 64 < yn
                      · have HL64 := Lib.hid hl64
                        go_wp2
                        go_ret
                        refine ⟨false, rfl, ⟨fun h => (by cases h), fun h => absurd ((HP.out.1 h).2.2.1 _ HYM.out) ?_⟩, HBS.out _ HB5.out⟩
                        rintro (⟨_, _, h3⟩ | ⟨⟨h3, _⟩, _⟩) <;> (dsimp only [Vl.s] at h3; have h8 := HYN.out; have h9 := HL64.out; omega)
                      · have HL64 := Lib.hid hl64
                        go_wp2
                        go_roundw
                        case rel =>
                          refine ⟨j + 1, by go_num, by omega, HB5.out, fun i v hi hv => ?_⟩
                          rcases Nat.lt_or_ge i j with h | h
                          · exact HA.out i v h hv
                          · obtain rfl : i = j := by omega
                            rw [HY.out] at hv
                            cases hv
                            exact .inl ⟨rfl, rfl, by dsimp only [Vl.s]; have h8 := HYN.out; have h9 := HL64.out; omega⟩
                        case measure => simp [intOf]; omega
                    · have hgb : (yg != 0) = true := by rw [bne_iff_ne]; exact hg
                      have HG := Lib.hid hg
                      clear hg
                      subst hW5
                      go_wp2
                      go_ret
                      refine ⟨false, rfl, ⟨fun h => (by cases h), fun h => absurd ((HP.out.1 h).2.2.1 _ HYM.out) ?_⟩, HBS.out _ HB5.out⟩
                      rintro (⟨_, h3, _⟩ | ⟨⟨h3, _⟩, _⟩) <;> (dsimp only [Vl.s] at h3; have h8 := HG.out; omega)
                  · have hpb : (yp == 0) = false := by rw [beq_eq_false_iff_ne]; exact hp
                    have hpb2 : (yp != 0) = true := by rw [bne_iff_ne]; exact hp
                    have HPN := Lib.hid hp
                    have HPG := Lib.hid (fun w' => page_any w' yp)
                    have HPB := Lib.hid (pageB_iff yp)
                    clear hp
                    generalize pageB yp = np at *
                    obtain ⟨z0, z1, z2⟩ := HX5.out W5 (Below.refl _ _)
                    rw [hW5] at z0 z1 z2
                    go_wp2_with fail
                    rw [← hW5]
                    refine (HPG.out _).mono ?_
                    rintro e w6 ⟨rfl, hb6⟩
                    replace hW5 := Lib.hid hW5
                    have HB6 := Lib.hid (HB5.out.trans (hb6.mono HB5.out.size))
                    clear z0 z1 z2 c0 c1 c2 c3 y0 y1 y2 hblt
                    obtain ⟨z0, z1, z2⟩ := HX5.out w6 hb6
                    have hwl : wr.heap.size < w6.heap.size := World.block_lt_of_cell? _ _ z0
                    clear hb6
                    cases np
                    · skip
                      go_wp2
                      go_ret
                      refine ⟨false, rfl, ⟨fun h => (by cases h), fun h => absurd ((HP.out.1 h).2.2.1 _ HYM.out) ?_⟩, HBS.out _ HB6.out⟩
                      rintro (⟨h3, _, _⟩ | ⟨h3, _⟩)
                      · exact HPN.out h3
                      · have h4 := HPB.out.2 h3; first | cases h4 | exact h4.elim
                    · by_cases h65 : yg < 65
                      · skip
                        go_wp2
                        go_ret
                        refine ⟨false, rfl, ⟨fun h => (by cases h), fun h => absurd ((HP.out.1 h).2.2.1 _ HYM.out) ?_⟩, HBS.out _ HB6.out⟩
                        rintro (⟨h3, _, _⟩ | ⟨_, h3, _⟩)
                        · exact HPN.out h3
                        · dsimp only [Vl.s] at h3; omega
                      · by_cases h40 : 4096 < yg
                        · skip
                          go_wp2
                          go_ret
                          refine ⟨false, rfl, ⟨fun h => (by cases h), fun h => absurd ((HP.out.1 h).2.2.1 _ HYM.out) ?_⟩, HBS.out _ HB6.out⟩
                          rintro (⟨h3, _, _⟩ | ⟨_, _, h3, _⟩)
                          · exact HPN.out h3
                          · dsimp only [Vl.s] at h3; omega
                        · by_cases hl0 : yn = 0
                          · have HL0 := Lib.hid hl0
                            subst hl0
                            go_wp2
                            go_roundw
                            case rel =>
                              refine ⟨j + 1, by go_num, by omega, HB6.out, fun i v hi hv => ?_⟩
                              rcases Nat.lt_or_ge i j with h | h
                              · exact HA.out i v h hv
                              · obtain rfl : i = j := by omega
                                rw [HY.out] at hv
                                cases hv
                                exact .inr ⟨HPB.out.1 (by trivial), by dsimp only [Vl.s]; omega, by dsimp only [Vl.s]; omega, List.eq_nil_of_length_eq_zero HYN.out.symm⟩
                            case measure => simp [intOf]; omega
                          · have hl0b : ((yn : Int) != 0) = true := by rw [bne_iff_ne]; omega
                            have HL0 := Lib.hid hl0
                            clear hl0
                            go_wp2
                            go_ret
                            refine ⟨false, rfl, ⟨fun h => (by cases h), fun h => absurd ((HP.out.1 h).2.2.1 _ HYM.out) ?_⟩, HBS.out _ HB6.out⟩
                            rintro (⟨h3, _, _⟩ | ⟨_, _, _, h3⟩)
                            · exact HPN.out h3
                            · exact HL0.out (HYN.out.trans (congrArg List.length h3))
                · have HVALS : Hid (∀ v ∈ n.s.vs, v.Right) := Lib.hid fun v hv => by
                    obtain ⟨i, hi, rfl⟩ := List.mem_iff_getElem.1 hv
                    refine HA.out i _ ?_ (List.getElem?_eq_getElem hi)
                    rw [show n.s.vs = n.vs.map Vl.s from rfl, List.length_map] at hi
                    have := HVM.out
                    omega
                  clear HA
                  go_wp2
                  go_loopw [6] (fun i wr => ∃ j : Nat, i = .int .i64 (j : Int) ∧ j ≤ 0 ∧ Below W.heap.size W wr ∧ (∀ i v, i < j → n.is[i]? = some v → PageOk v)) (fun i _ => 0 - (intOf i).toNat)
                  case atStart => exact ⟨0, rfl, by omega, HB.out, fun i k hi => absurd hi (by omega)⟩
                  case round =>
                    obtain ⟨j, rfl, hj, hb, hall⟩ := hrel
                    replace HB := Lib.hid hb
                    have HA := Lib.hid hall
                    obtain ⟨_, c0, c1, c2, c3⟩ := HC.out _ hb
                    clear hb hall
                    by_cases hlt : j < 0
                    · omega
                    · have HKIDS : Hid (∀ i ∈ n.is, PageOk i) := Lib.hid fun v hv => by
                        obtain ⟨i, hi, rfl⟩ := List.mem_iff_getElem.1 hv
                        exact HA.out i _ (by have := HIM.out; omega) (List.getElem?_eq_getElem hi)
                      clear HA
                      go_wp2_with fail
                      with_reducible refine (HSZ.out _ HB.out).mono ?_
                      rintro e w2 ⟨rfl, hb2⟩
                      have HB2 := Lib.hid (HB.out.trans (hb2.mono HB.out.size))
                      clear hb2 c0 c1 c2 c3
                      go_wp2
                      go_ret
                      refine ⟨decide (sz ≤ 493), ret_bool (by simp; try omega), ?_, HBS.out _ HB2.out⟩
                      rw [HP.out, decide_eq_true_eq]
                      exact ⟨fun h => ⟨HSTR.out, HRISE.out, HVALS.out, HKIDS.out, h⟩, fun h => h.2.2.2.2⟩
        · have HNS : Hid (¬ StrN true km vm im) := Lib.hid fun h => hv (h.2.1 rfl).2
          have hvb : ((im : Int) != 0) = true := by rw [bne_iff_ne]; omega
          have hvb2 : (im != 0) = true := by rw [bne_iff_ne]; omega
          subst hm
          go_enter Try.func29, Try.ntmps29
          go_wp2_with fail
          (try rw [← hW])
          go_wp2
          go_ret
          exact ⟨false, rfl, ⟨fun h => (by cases h), fun h => absurd (HP.out.1 h).1 HNS.out⟩, HBW.out⟩
      · have HNS : Hid (¬ StrN true km vm im) := Lib.hid fun h => hm (h.2.1 rfl).1
        have hvb : ((vm : Int) != (km : Int)) = true := by rw [bne_iff_ne]; omega
        have hvb2 : (vm != km) = true := by rw [bne_iff_ne]; omega
        go_enter Try.func29, Try.ntmps29
        go_wp2_with fail
        (try rw [← hW])
        go_wp2
        go_ret
        exact ⟨false, rfl, ⟨fun h => (by cases h), fun h => absurd (HP.out.1 h).1 HNS.out⟩, HBW.out⟩

end Go.Proofs.Ytigmibmebockhaa
