/-
  The law PageApart: the walk.
-/
import Derived.Test.YthkgejkgnkpjdaaDoorLawPOne
set_option linter.unusedVariables false
set_option maxRecDepth 100000
namespace Go.Proofs.YthkgejkgnkpjdaaDoor
open Go.RowKit

/-- The lowest bits of a number. -/
theorem pand_low (x : Int) (b M : Nat) (hM : M = 2 ^ b - 1) (hb : b ≤ 32) : ∃ r : Nat, bits .and .i64 x (M : Int) = (r : Int) ∧ r ≤ M := by
  have hp : (2 : Nat) ^ b ≤ 2 ^ 32 := Nat.pow_le_pow_right (by decide) hb
  have h32 : (2 : Nat) ^ 32 = 4294967296 := by decide
  refine ⟨(BitVec.ofInt 64 x &&& BitVec.ofInt 64 (M : Int)).toNat, ?_, ?_⟩
  · have h1 : (BitVec.ofInt 64 x &&& BitVec.ofInt 64 (M : Int)).toNat ≤ M := by
      rw [BitVec.toNat_and]
      have h2 : (BitVec.ofInt 64 (M : Int)).toNat = M := by rw [BitVec.ofInt_natCast, BitVec.toNat_ofNat]; exact Nat.mod_eq_of_lt (by omega)
      rw [h2]
      exact Nat.and_le_right
    show IntKind.i64.wrap (((BitVec.ofInt 64 x &&& BitVec.ofInt 64 (M : Int)).toNat : Nat) : Int) = _
    rw [IntKind.wrap_i64]
    omega
  · rw [BitVec.toNat_and]
    have h2 : (BitVec.ofInt 64 (M : Int)).toNat = M := by rw [BitVec.ofInt_natCast, BitVec.toNat_ofNat]; exact Nat.mod_eq_of_lt (by omega)
    rw [h2]
    exact Nat.and_le_right

theorem page_inj {k1 k2 : UInt8} {n1 n2 g1 g2 : Nat} {l1 l2 : List UInt8} (h1 : l1.length ≤ 493) (h2 : l2.length ≤ 493) (hn1 : n1 ≤ 4095) (hn2 : n2 ≤ 4095) (hg1 : g1 ≤ 16777215) (hg2 : g2 ≤ 16777215) (h : pageB k1 n1 g1 l1 = pageB k2 n2 g2 l2) : k1 = k2 ∧ n1 = n2 ∧ g1 = g2 ∧ l1 = l2 := by
  obtain ⟨a1, a2, a3, _, a5, _⟩ := page_fields (kind := k1) h1 (no := n1) (by omega) (gen := g1) (by omega)
  obtain ⟨b1, b2, b3, _, b5, _⟩ := page_fields (kind := k2) h2 (no := n2) (by omega) (gen := g2) (by omega)
  rw [h] at a1 a2 a3 a5
  exact ⟨Option.some.inj (a1.symm.trans b1), a2.symm.trans b2, a3.symm.trans b3, a5.symm.trans b5⟩

set_option maxHeartbeats 12800000 in
theorem lawPApart_any {w : World} (hT : Tab w) (k1 k2 : UInt8) (x1 y1 x2 y2 : Int) (z1 z2 : Nat) {p1 p2 : Option Addr} {l1 l2 : List UInt8} (hl1 : Bs w p1 l1) (hl2 : Bs w p2 l2) {n1 c1' n2 c2' : Nat} (hn1 : n1 = l1.length) (hn2 : n2 = l2.length) (hc1 : n1 ≤ c1') (hc2 : n2 ≤ c2') (hd1 : c1' ≤ 9223372036854775807) (hd2 : c2' ≤ 9223372036854775807) :
    Calls Tryd.prog 7 #[.agg #[.int .u8 (k1.toNat : Int), .int .i64 x1, .int .i64 y1, .int .u32 (z1 : Int)], .agg #[.int .u8 (k2.toNat : Int), .int .i64 x2, .int .i64 y2, .int .u32 (z2 : Int)], .agg #[.slice p1 n1 c1', .slice p2 n2 c2']] w fun e w' => e = .returned (.bool true) ∧ Below w.heap.size w w' := by
  by_cases h1 : 493 < n1
  · go_enter Tryd.func7, Tryd.ntmps7
    go_wp2
    go_ret
    exact ⟨rfl, (((Below.refl _ _).alloc (Nat.le_refl _) _).alloc (by simp) _).alloc (by simp; omega) _⟩
  by_cases h2 : 493 < n2
  · go_enter Tryd.func7, Tryd.ntmps7
    go_wp2
    go_ret
    exact ⟨rfl, (((Below.refl _ _).alloc (Nat.le_refl _) _).alloc (by simp) _).alloc (by simp; omega) _⟩
  obtain ⟨i1, hi1, hj1⟩ := pand_low y1 12 4095 (by decide) (by omega)
  obtain ⟨i2, hi2, hj2⟩ := pand_low y2 12 4095 (by decide) (by omega)
  obtain ⟨g1, hg1, hh1⟩ := pand_low x1 24 16777215 (by decide) (by omega)
  obtain ⟨g2, hg2, hh2⟩ := pand_low x2 24 16777215 (by decide) (by omega)
  have hi1 : bits .and .i64 y1 4095 = (i1 : Int) := hi1
  have hi2 : bits .and .i64 y2 4095 = (i2 : Int) := hi2
  have hg1 : bits .and .i64 x1 16777215 = (g1 : Int) := hg1
  have hg2 : bits .and .i64 x2 16777215 = (g2 : Int) := hg2
  obtain ⟨W, hW⟩ : ∃ W, W = ((w.alloc (.cells #[.int .u8 (k1.toNat : Int), .int .i64 x1, .int .i64 y1, .int .u32 (z1 : Int)] 39)).alloc (.cells #[.int .u8 (k2.toNat : Int), .int .i64 x2, .int .i64 y2, .int .u32 (z2 : Int)] 39)).alloc (.cells #[.slice p1 n1 c1', .slice p2 n2 c2'] 42) := ⟨_, rfl⟩
  have hb3 := boxes3 w #[.int .u8 (k1.toNat : Int), .int .i64 x1, .int .i64 y1, .int .u32 (z1 : Int)] #[.int .u8 (k2.toNat : Int), .int .i64 x2, .int .i64 y2, .int .u32 (z2 : Int)] #[.slice p1 n1 c1', .slice p2 n2 c2'] 39 39 42
  rw [← hW] at hb3
  obtain ⟨e1, e2, e3, e4, e5⟩ := hb3
  have HW0 : Hid (Below w.heap.size w W) := Lib.hid e4
  have HK : Hid (∀ w', Below W.heap.size W w' → w'.cell? ⟨w.heap.size, 0, none⟩ = some (.int .u8 (k1.toNat : Int)) ∧ w'.cell? ⟨w.heap.size, 1, none⟩ = some (.int .i64 x1) ∧ w'.cell? ⟨w.heap.size, 2, none⟩ = some (.int .i64 y1) ∧
      w'.cell? ⟨w.heap.size + 1, 0, none⟩ = some (.int .u8 (k2.toNat : Int)) ∧ w'.cell? ⟨w.heap.size + 1, 1, none⟩ = some (.int .i64 x2) ∧ w'.cell? ⟨w.heap.size + 1, 2, none⟩ = some (.int .i64 y2) ∧
      w'.cell? ⟨w.heap.size + 2, 0, none⟩ = some (.slice p1 n1 c1') ∧ w'.cell? ⟨w.heap.size + 2, 1, none⟩ = some (.slice p2 n2 c2')) := Lib.hid fun w' hb => by
    have f1 := (hb.block w.heap.size (by omega)).trans e1
    have f2 := (hb.block (w.heap.size + 1) (by omega)).trans e2
    have f3 := (hb.block (w.heap.size + 2) (by omega)).trans e3
    refine ⟨?_, ?_, ?_, ?_, ?_, ?_, ?_, ?_⟩
    · rw [Joins.cell_of_block f1]; rfl
    · rw [Joins.cell_of_block f1]; rfl
    · rw [Joins.cell_of_block f1]; rfl
    · rw [Joins.cell_of_block f2]; rfl
    · rw [Joins.cell_of_block f2]; rfl
    · rw [Joins.cell_of_block f2]; rfl
    · rw [Joins.cell_of_block f3]; rfl
    · rw [Joins.cell_of_block f3]; rfl
  have HT := Lib.hid (hT.below hT.lt e4)
  have HL1 : Hid (Bs W p1 l1) := Lib.hid (hl1.below e4)
  have HL2 : Hid (Bs W p2 l2) := Lib.hid (hl2.below e4)
  have HN1 := Lib.hid hn1
  have HN2 := Lib.hid hn2
  have HS1 := Lib.hid (seal_ok HT.out k1 (no := i1) (gen := g1) (by omega) (by omega) HL1.out hn1 hc1 hd1 (by omega))
  have HS2 : Hid (∀ w', Below W.heap.size W w' → Calls Tryd.prog 8 #[.int .u8 (k2.toNat : Int), .int .i64 (i2 : Int), .int .i64 (g2 : Int), .slice p2 n2 c2'] w' (LayPost w' (pageB k2 i2 g2 l2))) := Lib.hid fun w' hb => seal_ok (HT.out.below HT.out.lt hb) k2 (no := i2) (gen := g2) (by omega) (by omega) (HL2.out.below hb) hn2 hc2 hd2 (by omega)
  have HX1 := Lib.hid (pageB_length (kind := k1) (no := i1) (gen := g1) (l := l1) (by omega)).symm
  have HX2 := Lib.hid (pageB_length (kind := k2) (no := i2) (gen := g2) (l := l2) (by omega)).symm
  have HI := Lib.hid (fun h => page_inj (k1 := k1) (k2 := k2) (l1 := l1) (l2 := l2) (by omega) (by omega) hj1 hj2 hh1 hh2 h)
  have hq : ∀ a b : UInt8, a ≠ b → ((a.toNat : Int) == (b.toNat : Int)) = false := fun a b h => by
    rw [beq_eq_false_iff_ne]
    intro h2
    exact h (by rw [← UInt8.toNat_inj]; omega)
  have hqn : ∀ a b : UInt8, a ≠ b → (a.toNat == b.toNat) = false := fun a b h => by
    rw [beq_eq_false_iff_ne]
    intro h2
    exact h (by rw [← UInt8.toNat_inj]; exact h2)
  have hqi : ∀ a b : Nat, a ≠ b → ((a : Int) == (b : Int)) = false := fun a b h => by rw [beq_eq_false_iff_ne]; omega
  have hqk : ∀ a b : Nat, a ≠ b → (a == b) = false := fun a b h => by rw [beq_eq_false_iff_ne]; omega
  clear hl1 hl2 hn1 hn2 hT e1 e2 e3 e4 e5 hj1 hj2 hh1 hh2
  by_cases hk : k1 = k2
  · subst hk
    by_cases hi : i1 = i2
    · subst hi
      by_cases hg : g1 = g2
      · subst hg
        by_cases hl : l1 = l2
        · subst hl
          have q1 := (beq_self_eq_true (pageB k1 i1 g1 l1))
          have q2 := (beq_self_eq_true l1)
          clear hq hqn hqi hqk HI
          generalize pageB k1 i1 g1 l1 = X at *
          go_enter Tryd.func7, Tryd.ntmps7
          go_wp2_with fail
          rw [← hW]
          clear hW
          with_reducible refine HS1.out.mono ?_
          rintro e w1 ⟨rfl, h1, hb1⟩
          have HB1 := Lib.hid hb1
          have H1 := Lib.hid h1
          clear h1 hb1
          obtain ⟨a0, a1, a2, b0, b1, b2, c0, c1⟩ := HK.out w1 HB1.out
          have HC := Lib.hid (HS2.out w1 HB1.out)
          go_wp2_with fail
          with_reducible refine HC.out.mono ?_
          rintro e w2 ⟨rfl, h2, hb2⟩
          have HB2 : Hid (Below W.heap.size W w2) := Lib.hid (HB1.out.trans (hb2.mono HB1.out.size))
          have s1 := str_of (H1.out.below H1.out.lt hb2).bs (n := 512) (c := 512) HX1.out
          have s2 := str_of h2.bs (n := 512) (c := 512) HX2.out
          have s3 := str_of (HL1.out.below HB2.out) (n := n1) (c := c1') HN1.out
          have s4 := str_of (HL2.out.below HB2.out) (n := n2) (c := c2') HN2.out
          clear a0 a1 a2 b0 b1 b2 c0 c1 h2 hb2 HC H1
          obtain ⟨a0, a1, a2, b0, b1, b2, c0, c1⟩ := HK.out w2 HB2.out
          go_wp2
          go_ret
          exact ⟨rfl, HW0.out.trans (HB2.out.mono HW0.out.size)⟩
        · have q1 : (pageB k1 i1 g1 l1 == pageB k1 i1 g1 l2) = false := by
            rw [beq_eq_false_iff_ne]
            intro h
            exact hl (HI.out h).2.2.2
          have q2 : (l1 == l2) = false := by rw [beq_eq_false_iff_ne]; exact hl
          clear hq hqn hqi hqk HI hl
          generalize pageB k1 i1 g1 l1 = X at *
          generalize pageB k1 i1 g1 l2 = Y at *
          go_enter Tryd.func7, Tryd.ntmps7
          go_wp2_with fail
          rw [← hW]
          clear hW
          with_reducible refine HS1.out.mono ?_
          rintro e w1 ⟨rfl, h1, hb1⟩
          have HB1 := Lib.hid hb1
          have H1 := Lib.hid h1
          clear h1 hb1
          obtain ⟨a0, a1, a2, b0, b1, b2, c0, c1⟩ := HK.out w1 HB1.out
          have HC := Lib.hid (HS2.out w1 HB1.out)
          go_wp2_with fail
          with_reducible refine HC.out.mono ?_
          rintro e w2 ⟨rfl, h2, hb2⟩
          have HB2 : Hid (Below W.heap.size W w2) := Lib.hid (HB1.out.trans (hb2.mono HB1.out.size))
          have s1 := str_of (H1.out.below H1.out.lt hb2).bs (n := 512) (c := 512) HX1.out
          have s2 := str_of h2.bs (n := 512) (c := 512) HX2.out
          have s3 := str_of (HL1.out.below HB2.out) (n := n1) (c := c1') HN1.out
          have s4 := str_of (HL2.out.below HB2.out) (n := n2) (c := c2') HN2.out
          clear a0 a1 a2 b0 b1 b2 c0 c1 h2 hb2 HC H1
          obtain ⟨a0, a1, a2, b0, b1, b2, c0, c1⟩ := HK.out w2 HB2.out
          go_wp2
          go_ret
          exact ⟨rfl, HW0.out.trans (HB2.out.mono HW0.out.size)⟩
      · have q1 : (pageB k1 i1 g1 l1 == pageB k1 i1 g2 l2) = false := by
          rw [beq_eq_false_iff_ne]
          intro h
          exact hg (HI.out h).2.2.1
        have q2 := hqi g1 g2 hg
        have q3 := hqk g1 g2 hg
        clear hq hqn hqi hqk HI hg
        generalize pageB k1 i1 g1 l1 = X at *
        generalize pageB k1 i1 g2 l2 = Y at *
        go_enter Tryd.func7, Tryd.ntmps7
        go_wp2_with fail
        rw [← hW]
        clear hW
        with_reducible refine HS1.out.mono ?_
        rintro e w1 ⟨rfl, h1, hb1⟩
        have HB1 := Lib.hid hb1
        have H1 := Lib.hid h1
        clear h1 hb1
        obtain ⟨a0, a1, a2, b0, b1, b2, c0, c1⟩ := HK.out w1 HB1.out
        have HC := Lib.hid (HS2.out w1 HB1.out)
        go_wp2_with fail
        with_reducible refine HC.out.mono ?_
        rintro e w2 ⟨rfl, h2, hb2⟩
        have HB2 : Hid (Below W.heap.size W w2) := Lib.hid (HB1.out.trans (hb2.mono HB1.out.size))
        have s1 := str_of (H1.out.below H1.out.lt hb2).bs (n := 512) (c := 512) HX1.out
        have s2 := str_of h2.bs (n := 512) (c := 512) HX2.out
        have s3 := str_of (HL1.out.below HB2.out) (n := n1) (c := c1') HN1.out
        have s4 := str_of (HL2.out.below HB2.out) (n := n2) (c := c2') HN2.out
        clear a0 a1 a2 b0 b1 b2 c0 c1 h2 hb2 HC H1
        obtain ⟨a0, a1, a2, b0, b1, b2, c0, c1⟩ := HK.out w2 HB2.out
        go_wp2
        go_ret
        exact ⟨rfl, HW0.out.trans (HB2.out.mono HW0.out.size)⟩
    · have q1 : (pageB k1 i1 g1 l1 == pageB k1 i2 g2 l2) = false := by
        rw [beq_eq_false_iff_ne]
        intro h
        exact hi (HI.out h).2.1
      have q2 := hqi i1 i2 hi
      have q3 := hqk i1 i2 hi
      clear hq hqn hqi hqk HI hi
      generalize pageB k1 i1 g1 l1 = X at *
      generalize pageB k1 i2 g2 l2 = Y at *
      go_enter Tryd.func7, Tryd.ntmps7
      go_wp2_with fail
      rw [← hW]
      clear hW
      with_reducible refine HS1.out.mono ?_
      rintro e w1 ⟨rfl, h1, hb1⟩
      have HB1 := Lib.hid hb1
      have H1 := Lib.hid h1
      clear h1 hb1
      obtain ⟨a0, a1, a2, b0, b1, b2, c0, c1⟩ := HK.out w1 HB1.out
      have HC := Lib.hid (HS2.out w1 HB1.out)
      go_wp2_with fail
      with_reducible refine HC.out.mono ?_
      rintro e w2 ⟨rfl, h2, hb2⟩
      have HB2 : Hid (Below W.heap.size W w2) := Lib.hid (HB1.out.trans (hb2.mono HB1.out.size))
      have s1 := str_of (H1.out.below H1.out.lt hb2).bs (n := 512) (c := 512) HX1.out
      have s2 := str_of h2.bs (n := 512) (c := 512) HX2.out
      have s3 := str_of (HL1.out.below HB2.out) (n := n1) (c := c1') HN1.out
      have s4 := str_of (HL2.out.below HB2.out) (n := n2) (c := c2') HN2.out
      clear a0 a1 a2 b0 b1 b2 c0 c1 h2 hb2 HC H1
      obtain ⟨a0, a1, a2, b0, b1, b2, c0, c1⟩ := HK.out w2 HB2.out
      go_wp2
      go_ret
      exact ⟨rfl, HW0.out.trans (HB2.out.mono HW0.out.size)⟩
  · have q1 : (pageB k1 i1 g1 l1 == pageB k2 i2 g2 l2) = false := by
      rw [beq_eq_false_iff_ne]
      intro h
      exact hk (HI.out h).1
    have q2 := hq k1 k2 hk
    have q3 := hqn k1 k2 hk
    clear hq hqn hqi hqk HI hk
    generalize pageB k1 i1 g1 l1 = X at *
    generalize pageB k2 i2 g2 l2 = Y at *
    go_enter Tryd.func7, Tryd.ntmps7
    go_wp2_with fail
    rw [← hW]
    clear hW
    with_reducible refine HS1.out.mono ?_
    rintro e w1 ⟨rfl, h1, hb1⟩
    have HB1 := Lib.hid hb1
    have H1 := Lib.hid h1
    clear h1 hb1
    obtain ⟨a0, a1, a2, b0, b1, b2, c0, c1⟩ := HK.out w1 HB1.out
    have HC := Lib.hid (HS2.out w1 HB1.out)
    go_wp2_with fail
    with_reducible refine HC.out.mono ?_
    rintro e w2 ⟨rfl, h2, hb2⟩
    have HB2 : Hid (Below W.heap.size W w2) := Lib.hid (HB1.out.trans (hb2.mono HB1.out.size))
    have s1 := str_of (H1.out.below H1.out.lt hb2).bs (n := 512) (c := 512) HX1.out
    have s2 := str_of h2.bs (n := 512) (c := 512) HX2.out
    have s3 := str_of (HL1.out.below HB2.out) (n := n1) (c := c1') HN1.out
    have s4 := str_of (HL2.out.below HB2.out) (n := n2) (c := c2') HN2.out
    clear a0 a1 a2 b0 b1 b2 c0 c1 h2 hb2 HC H1
    obtain ⟨a0, a1, a2, b0, b1, b2, c0, c1⟩ := HK.out w2 HB2.out
    go_wp2
    go_ret
    exact ⟨rfl, HW0.out.trans (HB2.out.mono HW0.out.size)⟩

end Go.Proofs.YthkgejkgnkpjdaaDoor
