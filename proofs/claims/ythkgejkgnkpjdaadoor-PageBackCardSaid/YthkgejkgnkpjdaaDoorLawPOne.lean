/-
  The laws PageOne and PageApart: the walks.
-/
import Derived.Test.YthkgejkgnkpjdaaDoorLawPOpens
set_option linter.unusedVariables false
set_option maxRecDepth 100000
namespace Go.Proofs.YthkgejkgnkpjdaaDoor
open Go.RowKit

/-- What one's page tells. -/
theorem open_one {w : World} (hT : Tab w) {g : Nat} (hs : Sec w g (pageB 1 2 3 [])) : Calls Tryd.prog 12 #[.slice (some ⟨g, 0, none⟩) 512 512, .int .i64 2] w fun e w' => ∃ q m c, e = .returned (.tuple #[.int .u8 1, .int .i64 3, .slice q m c, .int .i64 0]) ∧ Below w.heap.size w w' := by
  have h1 := page_right (kind := 1) (no := 2) (gen := 3) (l := []) (by simp) (by omega) (by omega) 2
  rw [if_pos (by omega)] at h1
  have hf := page_fields (kind := 1) (no := 2) (gen := 3) (l := []) (by simp) (by omega) (by omega)
  have hlen := pageB_length (kind := 1) (no := 2) (gen := 3) (l := []) (by simp)
  have h2 := open_any hT hs.bs (n := 512) (c := 512) hlen.symm (by omega) (by omega) 2
  have e3 := hf.2.2.1
  have e0 := hf.1
  clear hf hlen
  generalize pageB 1 2 3 [] = z at *
  refine h2.mono ?_
  rintro e w' (⟨h3, _⟩ | ⟨_, u, v, hu, rfl, hv, hb⟩)
  · exact absurd h1 h3
  · obtain ⟨q, c, rfl, _, _, _, _⟩ := hv.form rfl
    rw [e0] at hu
    obtain rfl := Option.some.inj hu
    rw [e3]
    exact ⟨q, _, c, rfl, hb⟩

set_option maxHeartbeats 6400000 in
theorem lawPOne_any {w : World} (hT : Tab w) {p : Option Addr} {l : List UInt8} (hl : Bs w p l) {n c : Nat} (hn : n = l.length) (hnc : n ≤ c) (hc : c ≤ 9223372036854775807) (no : Int) :
    Calls Tryd.prog 6 #[.slice p n c, .int .i64 no] w fun e w' => e = .returned (.bool true) ∧ Below w.heap.size w w' := by
  have HT := Lib.hid hT
  by_cases h600 : 600 < n
  · have hop := open_any hT (hl.take 600) (n := 600) (c := c) (by rw [List.length_take]; omega) (by omega) hc no
    have hno : openE (l.take 600) no = 11 := by unfold openE; rw [if_pos (by rw [List.length_take]; omega)]
    have HO : Hid (Calls Tryd.prog 12 #[.slice p 600 c, .int .i64 no] w fun e w' => e = .returned (.tuple #[.int .u8 0, .int .i64 0, .slice none 0 0, .int .i64 11]) ∧ Below w.heap.size w w') := Lib.hid (hop.mono (by
      rintro e w' (⟨_, rfl, hb⟩ | ⟨h3, _⟩)
      · rw [hno]; exact ⟨rfl, hb⟩
      · rw [hno] at h3; exact absurd h3 (by decide)))
    clear hT hl hn hop hno
    go_enter Tryd.func6, Tryd.ntmps6
    go_wp2_with fail
    with_reducible refine HO.out.mono ?_
    rintro e w1 ⟨rfl, hb1⟩
    have HB1 := Lib.hid hb1
    have HC := Lib.hid (seal_one (HT.out.below HT.out.lt hb1))
    clear hb1
    go_wp2_with fail
    with_reducible refine HC.out.mono ?_
    rintro e w2 ⟨rfl, h2, hb2⟩
    have HB2 : Hid (Below w.heap.size w w2) := Lib.hid (HB1.out.trans (hb2.mono HB1.out.size))
    have HO2 := Lib.hid (open_one (HT.out.below HT.out.lt HB2.out) h2)
    clear h2 hb2 HC
    go_wp2_with fail
    with_reducible refine HO2.out.mono ?_
    rintro e w3 ⟨q3, m3, c3, rfl, hb3⟩
    have HB3 : Hid (Below w.heap.size w w3) := Lib.hid (HB2.out.trans (hb3.mono HB2.out.size))
    clear hb3
    go_wp2
    go_ret
    exact ⟨rfl, HB3.out⟩
  have hop := open_any hT hl (c := c) hn hnc hc no
  by_cases h0 : openE l no = 0
  · obtain ⟨hl0, hf, hr⟩ := openE_zero.1 h0
    obtain ⟨h1l, hpg, hse, hil⟩ := open_again h0
    obtain ⟨n0, rfl⟩ := Int.eq_ofNat_of_zero_le hr.1
    have hn0 : n0 < 4096 := by have := hr.2.1; omega
    have hg := hr.2.2.2.1
    have h512 : n = 512 := by omega
    subst h512
    obtain ⟨g, hg0⟩ : ∃ g, g = fGen l := ⟨_, rfl⟩
    obtain ⟨u, hu0⟩ : ∃ u, u = l[0] := ⟨_, rfl⟩
    obtain ⟨m, hm0⟩ : ∃ m, m = (fIn l).length := ⟨_, rfl⟩
    have hm493 : m ≤ 493 := by omega
    have HO : Hid (Calls Tryd.prog 12 #[.slice p 512 c, .int .i64 (n0 : Int)] w fun e w' => ∃ q d, e = .returned (.tuple #[.int .u8 (u.toNat : Int), .int .i64 (g : Nat), .slice q m d, .int .i64 0]) ∧ Bs w' q (fIn l) ∧ m ≤ d ∧ d ≤ 9223372036854775807 ∧ Below w.heap.size w w') := Lib.hid (hop.mono (by
      rintro e w' (⟨h3, _⟩ | ⟨_, u', v, hu, rfl, hv, hb⟩)
      · exact absurd h0 h3
      · obtain ⟨q, d, rfl, hd1, hd2, h3, _⟩ := hv.form hm0
        obtain ⟨_, rfl⟩ := List.getElem?_eq_some_iff.1 hu
        rw [hu0, hg0]
        exact ⟨q, d, rfl, h3, hd1, hd2, hb⟩))
    have HPG : Hid (pageB u n0 g (fIn l) = l) := Lib.hid (by rw [hu0, hg0]; exact hpg)
    have HM : Hid (m = (fIn l).length) := Lib.hid hm0
    have HL := Lib.hid hl
    have H512 := Lib.hid hn
    have hg : g ≤ 1152921504606846976 := by rw [hg0]; exact hg
    clear hop h0 hl0 hf hr h1l hpg hse hil hu0 hg0 hm0 hn hl hT
    generalize fIn l = li at *
    obtain ⟨l', hl'⟩ : ∃ l', l' = l := ⟨_, rfl⟩
    rw [← hl'] at HPG HL H512
    clear hl'
    go_enter Tryd.func6, Tryd.ntmps6
    go_wp2_with fail
    with_reducible refine HO.out.mono ?_
    rintro e w1 ⟨q1, c1, rfl, h1, hc1, hc2, hb1⟩
    have HB1 := Lib.hid hb1
    have HS := Lib.hid (seal_ok (HT.out.below HT.out.lt hb1) u (no := n0) (gen := g) hn0 hg h1 (n := m) (c := c1) HM.out hc1 hc2 hm493)
    have HL1 : Hid (Bs w1 p l') := Lib.hid (HL.out.below hb1)
    rw [HPG.out] at HS
    clear h1 hb1
    go_wp2_with fail
    with_reducible refine HS.out.mono ?_
    rintro e w2 ⟨rfl, h2, hb2⟩
    have HB2 : Hid (Below w.heap.size w w2) := Lib.hid (HB1.out.trans (hb2.mono HB1.out.size))
    have s1 := str_of h2.bs (n := 512) (c := 512) H512.out
    have s2 := str_of (HL1.out.below hb2) (n := 512) (c := c) H512.out
    clear h2 hb2 HS HL1
    go_wp2
    go_ret
    exact ⟨rfl, HB2.out⟩
  · obtain ⟨x, hx⟩ : ∃ x, x = openE l no := ⟨_, rfl⟩
    have h3 : x = 11 ∨ x = 12 := by
      unfold openE at hx h0
      split at hx
      · exact .inl hx
      · rename_i h1
        rw [if_neg h1] at h0
        split at hx
        · exact .inr hx
        · rename_i h2
          rw [if_neg h2] at h0
          split at hx
          · rename_i h4
            rw [if_pos h4] at h0
            exact absurd rfl h0
          · exact .inl hx
    have HO : Hid (Calls Tryd.prog 12 #[.slice p n c, .int .i64 no] w fun e w' => e = .returned (.tuple #[.int .u8 0, .int .i64 0, .slice none 0 0, .int .i64 (x : Int)]) ∧ Below w.heap.size w w') := Lib.hid (hop.mono (by
      rintro e w' (⟨_, rfl, hb⟩ | ⟨h3, _⟩)
      · rw [← hx]; exact ⟨rfl, hb⟩
      · exact absurd h3 h0))
    clear hT hl hn hop h0 hx
    rcases h3 with rfl | rfl
    · go_enter Tryd.func6, Tryd.ntmps6
      go_wp2_with fail
      with_reducible refine HO.out.mono ?_
      rintro e w1 ⟨rfl, hb1⟩
      have HB1 := Lib.hid hb1
      have HC := Lib.hid (seal_one (HT.out.below HT.out.lt hb1))
      clear hb1
      go_wp2_with fail
      with_reducible refine HC.out.mono ?_
      rintro e w2 ⟨rfl, h2, hb2⟩
      have HB2 : Hid (Below w.heap.size w w2) := Lib.hid (HB1.out.trans (hb2.mono HB1.out.size))
      have HO2 := Lib.hid (open_one (HT.out.below HT.out.lt HB2.out) h2)
      clear h2 hb2 HC
      go_wp2_with fail
      with_reducible refine HO2.out.mono ?_
      rintro e w3 ⟨q3, m3, c3, rfl, hb3⟩
      have HB3 : Hid (Below w.heap.size w w3) := Lib.hid (HB2.out.trans (hb3.mono HB2.out.size))
      clear hb3
      go_wp2
      go_ret
      exact ⟨rfl, HB3.out⟩
    · go_enter Tryd.func6, Tryd.ntmps6
      go_wp2_with fail
      with_reducible refine HO.out.mono ?_
      rintro e w1 ⟨rfl, hb1⟩
      have HB1 := Lib.hid hb1
      have HC := Lib.hid (seal_one (HT.out.below HT.out.lt hb1))
      clear hb1
      go_wp2_with fail
      with_reducible refine HC.out.mono ?_
      rintro e w2 ⟨rfl, h2, hb2⟩
      have HB2 : Hid (Below w.heap.size w w2) := Lib.hid (HB1.out.trans (hb2.mono HB1.out.size))
      have HO2 := Lib.hid (open_one (HT.out.below HT.out.lt HB2.out) h2)
      clear h2 hb2 HC
      go_wp2_with fail
      with_reducible refine HO2.out.mono ?_
      rintro e w3 ⟨q3, m3, c3, rfl, hb3⟩
      have HB3 : Hid (Below w.heap.size w w3) := Lib.hid (HB2.out.trans (hb3.mono HB2.out.size))
      clear hb3
      go_wp2
      go_ret
      exact ⟨rfl, HB3.out⟩

end Go.Proofs.YthkgejkgnkpjdaaDoor
