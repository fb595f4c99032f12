/-
  The law MetaRises: the walk.
-/
import Derived.Test.YtpklapgcdilghaaDoorLawMNewest
set_option linter.unusedVariables false
set_option maxRecDepth 100000
namespace Go.Proofs.YtpklapgcdilghaaDoor
open Go.RowKit

theorem mand_low (x : Int) (b M : Nat) (hM : M = 2 ^ b - 1) (hb : b ≤ 32) : ∃ r : Nat, bits .and .i64 x (M : Int) = (r : Int) ∧ r ≤ M := by
  have hp : (2 : Nat) ^ b ≤ 2 ^ 32 := Nat.pow_le_pow_right (by decide) hb
  have h32 : (2 : Nat) ^ 32 = 4294967296 := by decide
  refine ⟨(BitVec.ofInt 64 x &&& BitVec.ofInt 64 (M : Int)).toNat, ?_, ?_⟩
  · have h1 : (BitVec.ofInt 64 x &&& BitVec.ofInt 64 (M : Int)).toNat ≤ M := by
      rw [BitVec.toNat_and]
      have h2 : (BitVec.ofInt 64 (M : Int)).toNat = M := by rw [BitVec.ofInt_natCast, BitVec.toNat_ofNat]; exact Nat.mod_eq_of_lt (by omega)
      rw [h2]
      exact Nat.and_le_right
    show IntKind.i64.wrap (((BitVec.ofInt 64 x &&& BitVec.ofInt 64 (M : Int)).toNat : Nat) : Int) = _
    rw [IntKind.wrap_i64]
    omega
  · rw [BitVec.toNat_and]
    have h2 : (BitVec.ofInt 64 (M : Int)).toNat = M := by rw [BitVec.ofInt_natCast, BitVec.toNat_ofNat]; exact Nat.mod_eq_of_lt (by omega)
    rw [h2]
    exact Nat.and_le_right

/-- The newest of two pages that stand in their places. -/
theorem new_pages {g r n d g' r' n' d' : Nat} (h : MRight g r n d) (hg : g % 2 = 0) (h' : MRight g' r' n' d') (hg' : g' % 2 = 1) :
    newG (mPage g r n d) (mPage g' r' n' d') = (if g < g' then g' else g) ∧ newR (mPage g r n d) (mPage g' r' n' d') = (if g < g' then r' else r) ∧ newN (mPage g r n d) (mPage g' r' n' d') = (if g < g' then n' else n) ∧ newD (mPage g r n d) (mPage g' r' n' d') = (if g < g' then d' else d) := by
  obtain ⟨_, a1, a2, a3, a4⟩ := page_is h (no := 0) (by omega)
  obtain ⟨_, b1, b2, b3, b4⟩ := page_is h' (no := 1) (by omega)
  unfold newG newR newN newD
  rw [a1, a2, a3, a4, b1, b2, b3, b4]
  exact ⟨rfl, rfl, rfl, rfl⟩
theorem new_right {g r n d : Nat} (h : MRight g r n d) (hg : g % 2 = 1) : newG [] (mPage g r n d) = g ∧ newR [] (mPage g r n d) = r ∧ newN [] (mPage g r n d) = n ∧ newD [] (mPage g r n d) = d := by
  obtain ⟨_, b1, b2, b3, b4⟩ := page_is h (no := 1) (by omega)
  obtain ⟨a1, a2, a3, a4⟩ := nil_not 0
  have hb := h.b
  have h0 : 0 < g := by omega
  unfold newG newR newN newD
  rw [a1, a2, a3, a4, b1, b2, b3, b4]
  simp [h0]
theorem new_none {g r n d g' r' n' d' : Nat} (h : MRight g r n d) (hg : g % 2 = 1) (h' : MRight g' r' n' d') (hg' : g' % 2 = 0) :
    newG (mPage g r n d) (mPage g' r' n' d') = 0 ∧ newR (mPage g r n d) (mPage g' r' n' d') = 0 ∧ newN (mPage g r n d) (mPage g' r' n' d') = 0 ∧ newD (mPage g r n d) (mPage g' r' n' d') = 0 := by
  obtain ⟨a1, a2, a3, a4⟩ := page_not h (no := 0) (by omega)
  obtain ⟨b1, b2, b3, b4⟩ := page_not h' (no := 1) (by omega)
  unfold newG newR newN newD
  rw [a1, a2, a3, a4, b1, b2, b3, b4]
  simp

set_option maxHeartbeats 3200000 in
theorem mrise_up {w : World} (hT : Tab w) (a b root : Int) {A B r GA RA GB : Nat} (hA : bits .and .i64 a 65535 = (A : Int)) (hA2 : A ≤ 65535) (hB : bits .and .i64 b 65535 = (B : Int)) (hB2 : B ≤ 65535) (hr : bits .and .i64 root 255 = (r : Int)) (hr2 : r ≤ 255)
    (hGA : GA = 1 + 2 * A) (hRA : RA = 2 + r) (hGB : GB = 2 + 2 * B) (hlt : GA < GB) :
    Calls Tryd.prog 6 #[.int .i64 a, .int .i64 b, .int .i64 root] w fun e w' => e = .returned (.bool true) ∧ Below w.heap.size w w' := by
  have HT : Hid (∀ w', Below w.heap.size w w' → Tab w') := Lib.hid fun w' hb => hT.below hT.lt hb
  have hx : MRight GA RA (1 : Nat) (1 : Nat) := MRight.mk' (by omega)
  have hy : MRight GB (0 : Nat) (5 : Nat) (7 : Nat) := MRight.mk' (by omega)
  have px : GA % 2 = 1 := by omega
  have py : GB % 2 = 0 := by omega
  have HS : Hid (∀ w', Below w.heap.size w w' → Calls Tryd.prog 7 #[.agg #[.int .i64 (GA : Int), .int .i64 (RA : Int), .int .i64 1, .int .i64 1]] w' (MSQ w' 512 (mPage GA RA 1 1) 1 0)) := Lib.hid fun w' hb => by
    have h1 := mseal_q (HT.out w' hb) hx
    rw [px] at h1
    exact h1
  have HS2 : Hid (∀ w', Below w.heap.size w w' → Calls Tryd.prog 7 #[.agg #[.int .i64 (GB : Int), .int .i64 0, .int .i64 5, .int .i64 7]] w' (MSQ w' 512 (mPage GB 0 5 7) 0 0)) := Lib.hid fun w' hb => by
    have h1 := mseal_q (HT.out w' hb) hy
    rw [py] at h1
    exact h1
  have lx := (mPage_length GA RA 1 1).symm
  have ly := (mPage_length GB 0 5 7).symm
  have HN1 : Hid (∀ w' q c p d, Below w.heap.size w w' → Bs w' q (mPage GB 0 5 7) → 512 ≤ c → c ≤ 9223372036854775807 → Bs w' p (mPage GA RA 1 1) → 512 ≤ d → d ≤ 9223372036854775807 → Calls Tryd.prog 11 #[.slice q 512 c, .slice p 512 d] w' (MNewPost w' GB 0 5 7)) := Lib.hid fun w' q c p d hb h1 h2 h3 h4 h5 h6 => by
    have h7 := mNewest_any (HT.out w' hb) h1 ly h2 h3 h4 lx h5 h6
    obtain ⟨e1, e2, e3, e4⟩ := new_pages hy py hx px
    rw [e1, e2, e3, e4, if_neg (by omega), if_neg (by omega), if_neg (by omega), if_neg (by omega)] at h7
    exact h7
  have HN2 : Hid (∀ w' p d, Below w.heap.size w w' → Bs w' p (mPage GA RA 1 1) → 512 ≤ d → d ≤ 9223372036854775807 → Calls Tryd.prog 11 #[.slice none 0 0, .slice p 512 d] w' (MNewPost w' GA RA 1 1)) := Lib.hid fun w' p d hb h4 h5 h6 => by
    have h7 := mNewest_any (HT.out w' hb) (Bs.nil w' none) (n := 0) (c := 0) rfl (by omega) (by omega) h4 lx h5 h6
    obtain ⟨e1, e2, e3, e4⟩ := new_right hx px
    rw [e1, e2, e3, e4] at h7
    exact h7
  have HN3 : Hid (∀ w' q c p d, Below w.heap.size w w' → Bs w' q (mPage GA RA 1 1) → 512 ≤ c → c ≤ 9223372036854775807 → Bs w' p (mPage GB 0 5 7) → 512 ≤ d → d ≤ 9223372036854775807 → Calls Tryd.prog 11 #[.slice q 512 c, .slice p 512 d] w' (MNewPost w' 0 0 0 0)) := Lib.hid fun w' q c p d hb h1 h2 h3 h4 h5 h6 => by
    have h7 := mNewest_any (HT.out w' hb) h1 lx h2 h3 h4 ly h5 h6
    obtain ⟨e1, e2, e3, e4⟩ := new_none hx px hy py
    rw [e1, e2, e3, e4] at h7
    exact h7
  have HG1 : Hid (decide (GB ≠ 0) = true) := Lib.hid (decide_eq_true (by omega))
  have HG2 : Hid (decide (GA ≠ 0) = true) := Lib.hid (decide_eq_true (by omega))
  have eA : 1 + 2 * (A : Int) = (GA : Int) := by omega
  have eB : 2 + 2 * (B : Int) = (GB : Int) := by omega
  have eR : 2 + (r : Int) = (RA : Int) := by omega
  have g1 : decide ((GA : Int) < (GB : Int)) = true := decide_eq_true (by omega)
  have g2 : decide (GA < GB) = true := decide_eq_true hlt
  clear hT hx hy px py lx ly hGA hRA hGB hlt
  generalize mPage GA RA 1 1 = zx at *
  generalize mPage GB 0 5 7 = zy at *
  obtain ⟨W0, hW0⟩ : ∃ W0, W0 = (w.alloc (.cells #[.int .i64 (GA : Int), .int .i64 (RA : Int), .int .i64 1, .int .i64 1] 23)).alloc (.cells #[.int .i64 (GB : Int), .int .i64 0, .int .i64 5, .int .i64 7] 23) := ⟨_, rfl⟩
  obtain ⟨x0, x1, x2, x3⟩ := boxes w #[.int .i64 (GA : Int), .int .i64 (RA : Int), .int .i64 1, .int .i64 1] #[.int .i64 (GB : Int), .int .i64 0, .int .i64 5, .int .i64 7] 23 23
  rw [← hW0] at x0 x1 x2 x3
  have HZ0 := Lib.hid x2
  have HKx : Hid (∀ w', Below W0.heap.size W0 w' → ∀ i, w'.cell? ⟨w.heap.size, i, none⟩ = (#[.int .i64 (GA : Int), .int .i64 (RA : Int), .int .i64 1, .int .i64 1] : Array Value)[i]? ∧ w'.frozen? ⟨w.heap.size, i, none⟩ = false) := Lib.hid fun w' hb i => by
    have h := hb.block w.heap.size (by omega)
    rw [x0] at h
    exact ⟨Joins.cell_of_block h i, Joins.unfrozen_of_block h i⟩
  have HKy : Hid (∀ w', Below W0.heap.size W0 w' → ∀ i, w'.cell? ⟨w.heap.size + 1, i, none⟩ = (#[.int .i64 (GB : Int), .int .i64 0, .int .i64 5, .int .i64 7] : Array Value)[i]? ∧ w'.frozen? ⟨w.heap.size + 1, i, none⟩ = false) := Lib.hid fun w' hb i => by
    have h := hb.block (w.heap.size + 1) (by omega)
    rw [x1] at h
    exact ⟨Joins.cell_of_block h i, Joins.unfrozen_of_block h i⟩
  clear x0 x1 x2 x3
  go_enter Tryd.func6, Tryd.ntmps6
  go_wp2_with fail
  rw [← hW0]
  clear hW0
  with_reducible refine (HS.out W0 HZ0.out).mono ?_
  rintro e w1 ⟨q1, d1, rfl, s1, m1, n1, hb1⟩
  have S1 := Lib.hid s1
  have M1 := Lib.hid m1
  have N1 := Lib.hid n1
  have HB1 := Lib.hid hb1
  have k0 : w1.cell? ⟨w.heap.size + 1, 0, none⟩ = some (.int .i64 (GB : Int)) := (HKy.out _ hb1 0).1
  have k1 : w1.cell? ⟨w.heap.size + 1, 1, none⟩ = some (.int .i64 0) := (HKy.out _ hb1 1).1
  have k2 : w1.cell? ⟨w.heap.size + 1, 2, none⟩ = some (.int .i64 5) := (HKy.out _ hb1 2).1
  have k3 : w1.cell? ⟨w.heap.size + 1, 3, none⟩ = some (.int .i64 7) := (HKy.out _ hb1 3).1
  clear s1 m1 n1 hb1 HS
  go_wp2_with fail
  with_reducible refine (HS2.out w1 (HZ0.out.trans (HB1.out.mono HZ0.out.size))).mono ?_
  rintro e w2 ⟨q2, d2, rfl, s2, m2, n2, hb2⟩
  have S1b : Hid (Bs w2 q1 zx) := Lib.hid (S1.out.below hb2)
  have S2 := Lib.hid s2
  have M2 := Lib.hid m2
  have N2 := Lib.hid n2
  have HB2 : Hid (Below W0.heap.size W0 w2) := Lib.hid (HB1.out.trans (hb2.mono HB1.out.size))
  have HZ2 : Hid (Below w.heap.size w w2) := Lib.hid (HZ0.out.trans (HB2.out.mono HZ0.out.size))
  clear s2 m2 n2 hb2 HS2 S1 HB1 k0 k1 k2 k3
  go_wp2_with fail
  with_reducible refine (HN1.out w2 _ _ _ _ HZ2.out S2.out M2.out N2.out S1b.out M1.out N1.out).mono ?_
  rintro e w3 ⟨rfl, hb3⟩
  rw [HG1.out]
  have S1c : Hid (Bs w3 q1 zx) := Lib.hid (S1b.out.below hb3)
  have S2c : Hid (Bs w3 q2 zy) := Lib.hid (S2.out.below hb3)
  have HB3 : Hid (Below W0.heap.size W0 w3) := Lib.hid (HB2.out.trans (hb3.mono HB2.out.size))
  have l0 : w.heap.size + 1 < w3.heap.size := by
    have h1 := (HKy.out _ HB3.out 0).1
    exact World.block_lt_of_cell? _ _ h1
  have l1 : w.heap.size < w3.heap.size := by omega
  have k0 : w3.cell? ⟨w.heap.size, 0, none⟩ = some (.int .i64 (GA : Int)) := (HKx.out _ HB3.out 0).1
  have k1 : w3.cell? ⟨w.heap.size, 1, none⟩ = some (.int .i64 (RA : Int)) := (HKx.out _ HB3.out 1).1
  have k2 : w3.cell? ⟨w.heap.size, 2, none⟩ = some (.int .i64 1) := (HKx.out _ HB3.out 2).1
  have k3 : w3.cell? ⟨w.heap.size, 3, none⟩ = some (.int .i64 1) := (HKx.out _ HB3.out 3).1
  have j0 : w3.cell? ⟨w.heap.size + 1, 0, none⟩ = some (.int .i64 (GB : Int)) := (HKy.out _ HB3.out 0).1
  have j1 : w3.cell? ⟨w.heap.size + 1, 1, none⟩ = some (.int .i64 0) := (HKy.out _ HB3.out 1).1
  have j2 : w3.cell? ⟨w.heap.size + 1, 2, none⟩ = some (.int .i64 5) := (HKy.out _ HB3.out 2).1
  have j3 : w3.cell? ⟨w.heap.size + 1, 3, none⟩ = some (.int .i64 7) := (HKy.out _ HB3.out 3).1
  clear hb3 HN1 S1b S2 HB2 HZ2 HG1
  go_wp2_with fail
  obtain ⟨W4, hW4⟩ : ∃ W4, W4 = (w3.alloc (.cells #[.int .i64 (GB : Int), .int .i64 0, .int .i64 5, .int .i64 7] 23)).alloc (.cells #[.int .i64 (GB : Int), .int .i64 0, .int .i64 5, .int .i64 7] 23) := ⟨_, rfl⟩
  rw [← hW4]
  obtain ⟨x0, x1, x2, x3⟩ := boxes w3 #[.int .i64 (GB : Int), .int .i64 0, .int .i64 5, .int .i64 7] #[.int .i64 (GB : Int), .int .i64 0, .int .i64 5, .int .i64 7] 23 23
  rw [← hW4] at x0 x1 x2 x3
  have HMa : Hid (∀ w', Below W4.heap.size W4 w' → ∀ i, w'.cell? ⟨w3.heap.size, i, none⟩ = (#[.int .i64 (GB : Int), .int .i64 0, .int .i64 5, .int .i64 7] : Array Value)[i]? ∧ w'.frozen? ⟨w3.heap.size, i, none⟩ = false) := Lib.hid fun w' hb i => by
    have h := hb.block w3.heap.size (by omega)
    rw [x0] at h
    exact ⟨Joins.cell_of_block h i, Joins.unfrozen_of_block h i⟩
  have HMb : Hid (∀ w', Below W4.heap.size W4 w' → ∀ i, w'.cell? ⟨w3.heap.size + 1, i, none⟩ = (#[.int .i64 (GB : Int), .int .i64 0, .int .i64 5, .int .i64 7] : Array Value)[i]? ∧ w'.frozen? ⟨w3.heap.size + 1, i, none⟩ = false) := Lib.hid fun w' hb i => by
    have h := hb.block (w3.heap.size + 1) (by omega)
    rw [x1] at h
    exact ⟨Joins.cell_of_block h i, Joins.unfrozen_of_block h i⟩
  have S1d : Hid (Bs W4 q1 zx) := Lib.hid (S1c.out.below x2)
  have S2d : Hid (Bs W4 q2 zy) := Lib.hid (S2c.out.below x2)
  have HB4 : Hid (Below W0.heap.size W0 W4) := Lib.hid (HB3.out.trans (x2.mono HB3.out.size))
  have HZ4 : Hid (Below w.heap.size w W4) := Lib.hid (HZ0.out.trans (HB4.out.mono HZ0.out.size))
  clear x0 x1 x2 x3 hW4 S1c S2c HB3 k0 k1 k2 k3 j0 j1 j2 j3 l0 l1
  with_reducible refine (HN2.out W4 _ _ HZ4.out S1d.out M1.out N1.out).mono ?_
  rintro e w4 ⟨rfl, hb4⟩
  rw [HG2.out]
  have HB5 := Lib.hid hb4
  clear hb4 HN2 HG2
  go_wp2_with fail
  obtain ⟨W5, hW5⟩ : ∃ W5, W5 = w4.alloc (.cells #[.int .i64 (GA : Int), .int .i64 (RA : Int), .int .i64 1, .int .i64 1] 23) := ⟨_, rfl⟩
  rw [← hW5]
  have HB5' : Hid (Below W4.heap.size W4 W5) := Lib.hid (HB5.out.trans ((box_below hW5).mono HB5.out.size))
  have HMc : Hid (∀ w', Below W5.heap.size W5 w' → ∀ i, w'.cell? ⟨w4.heap.size, i, none⟩ = (#[.int .i64 (GA : Int), .int .i64 (RA : Int), .int .i64 1, .int .i64 1] : Array Value)[i]? ∧ w'.frozen? ⟨w4.heap.size, i, none⟩ = false) := Lib.hid fun w' hb i => by rw [hW5] at hb; exact mres_cell hb i
  have HZ5 : Hid (Below w.heap.size w W5) := Lib.hid (HZ4.out.trans (HB5'.out.mono HZ4.out.size))
  clear hW5 HB5
  with_reducible refine (HN3.out W5 _ _ _ _ HZ5.out (S1d.out.below HB5'.out) M1.out N1.out (S2d.out.below HB5'.out) M2.out N2.out).mono ?_
  rintro e w6 ⟨rfl, hb6⟩
  have HB6 : Hid (Below W4.heap.size W4 w6) := Lib.hid (HB5'.out.trans (hb6.mono HB5'.out.size))
  have HB7 : Hid (Below W0.heap.size W0 w6) := Lib.hid (HB4.out.trans (HB6.out.mono HB4.out.size))
  have HZ6 : Hid (Below w.heap.size w w6) := Lib.hid (HZ5.out.trans (hb6.mono HZ5.out.size))
  have a0 : w6.cell? ⟨w3.heap.size, 0, none⟩ = some (.int .i64 (GB : Int)) := (HMa.out _ HB6.out 0).1
  have a1 : w6.cell? ⟨w3.heap.size, 1, none⟩ = some (.int .i64 0) := (HMa.out _ HB6.out 1).1
  have a2 : w6.cell? ⟨w3.heap.size, 2, none⟩ = some (.int .i64 5) := (HMa.out _ HB6.out 2).1
  have a3 : w6.cell? ⟨w3.heap.size, 3, none⟩ = some (.int .i64 7) := (HMa.out _ HB6.out 3).1
  have b0 : w6.cell? ⟨w3.heap.size + 1, 0, none⟩ = some (.int .i64 (GB : Int)) := (HMb.out _ HB6.out 0).1
  have b1 : w6.cell? ⟨w3.heap.size + 1, 1, none⟩ = some (.int .i64 0) := (HMb.out _ HB6.out 1).1
  have b2 : w6.cell? ⟨w3.heap.size + 1, 2, none⟩ = some (.int .i64 5) := (HMb.out _ HB6.out 2).1
  have b3 : w6.cell? ⟨w3.heap.size + 1, 3, none⟩ = some (.int .i64 7) := (HMb.out _ HB6.out 3).1
  have c0 : w6.cell? ⟨w4.heap.size, 0, none⟩ = some (.int .i64 (GA : Int)) := (HMc.out _ hb6 0).1
  have c1 : w6.cell? ⟨w4.heap.size, 1, none⟩ = some (.int .i64 (RA : Int)) := (HMc.out _ hb6 1).1
  have c2 : w6.cell? ⟨w4.heap.size, 2, none⟩ = some (.int .i64 1) := (HMc.out _ hb6 2).1
  have c3 : w6.cell? ⟨w4.heap.size, 3, none⟩ = some (.int .i64 1) := (HMc.out _ hb6 3).1
  have k0 : w6.cell? ⟨w.heap.size, 0, none⟩ = some (.int .i64 (GA : Int)) := (HKx.out _ HB7.out 0).1
  have k1 : w6.cell? ⟨w.heap.size, 1, none⟩ = some (.int .i64 (RA : Int)) := (HKx.out _ HB7.out 1).1
  have k2 : w6.cell? ⟨w.heap.size, 2, none⟩ = some (.int .i64 1) := (HKx.out _ HB7.out 2).1
  have k3 : w6.cell? ⟨w.heap.size, 3, none⟩ = some (.int .i64 1) := (HKx.out _ HB7.out 3).1
  have l1 : w3.heap.size < w6.heap.size := World.block_lt_of_cell? _ _ a0
  have l2 : w3.heap.size + 1 < w6.heap.size := World.block_lt_of_cell? _ _ b0
  have l3 : w4.heap.size < w6.heap.size := World.block_lt_of_cell? _ _ c0
  have l4 : w.heap.size < w6.heap.size := World.block_lt_of_cell? _ _ k0
  have h00 : (decide ((0 : Nat) ≠ 0)) = false := rfl
  clear hb6 HN3 HMa HMb HMc HKx HKy S1d S2d HB5' HB6 HB7 HB4 HZ4 HZ5 HT M1 N1 M2 N2 HZ0
  go_wp2
  go_ret
  exact ⟨rfl, HZ6.out.alloc HZ6.out.size _⟩

set_option maxHeartbeats 3200000 in
theorem mrise_down {w : World} (hT : Tab w) (a b root : Int) {A B r GA RA GB : Nat} (hA : bits .and .i64 a 65535 = (A : Int)) (hA2 : A ≤ 65535) (hB : bits .and .i64 b 65535 = (B : Int)) (hB2 : B ≤ 65535) (hr : bits .and .i64 root 255 = (r : Int)) (hr2 : r ≤ 255)
    (hGA : GA = 1 + 2 * A) (hRA : RA = 2 + r) (hGB : GB = 2 + 2 * B) (hlt : GB < GA) :
    Calls Tryd.prog 6 #[.int .i64 a, .int .i64 b, .int .i64 root] w fun e w' => e = .returned (.bool true) ∧ Below w.heap.size w w' := by
  have HT : Hid (∀ w', Below w.heap.size w w' → Tab w') := Lib.hid fun w' hb => hT.below hT.lt hb
  have hx : MRight GA RA (1 : Nat) (1 : Nat) := MRight.mk' (by omega)
  have hy : MRight GB (0 : Nat) (5 : Nat) (7 : Nat) := MRight.mk' (by omega)
  have px : GA % 2 = 1 := by omega
  have py : GB % 2 = 0 := by omega
  have HS : Hid (∀ w', Below w.heap.size w w' → Calls Tryd.prog 7 #[.agg #[.int .i64 (GA : Int), .int .i64 (RA : Int), .int .i64 1, .int .i64 1]] w' (MSQ w' 512 (mPage GA RA 1 1) 1 0)) := Lib.hid fun w' hb => by
    have h1 := mseal_q (HT.out w' hb) hx
    rw [px] at h1
    exact h1
  have HS2 : Hid (∀ w', Below w.heap.size w w' → Calls Tryd.prog 7 #[.agg #[.int .i64 (GB : Int), .int .i64 0, .int .i64 5, .int .i64 7]] w' (MSQ w' 512 (mPage GB 0 5 7) 0 0)) := Lib.hid fun w' hb => by
    have h1 := mseal_q (HT.out w' hb) hy
    rw [py] at h1
    exact h1
  have lx := (mPage_length GA RA 1 1).symm
  have ly := (mPage_length GB 0 5 7).symm
  have HN1 : Hid (∀ w' q c p d, Below w.heap.size w w' → Bs w' q (mPage GB 0 5 7) → 512 ≤ c → c ≤ 9223372036854775807 → Bs w' p (mPage GA RA 1 1) → 512 ≤ d → d ≤ 9223372036854775807 → Calls Tryd.prog 11 #[.slice q 512 c, .slice p 512 d] w' (MNewPost w' GA RA 1 1)) := Lib.hid fun w' q c p d hb h1 h2 h3 h4 h5 h6 => by
    have h7 := mNewest_any (HT.out w' hb) h1 ly h2 h3 h4 lx h5 h6
    obtain ⟨e1, e2, e3, e4⟩ := new_pages hy py hx px
    rw [e1, e2, e3, e4, if_pos hlt, if_pos hlt, if_pos hlt, if_pos hlt] at h7
    exact h7
  have HN2 : Hid (∀ w' p d, Below w.heap.size w w' → Bs w' p (mPage GA RA 1 1) → 512 ≤ d → d ≤ 9223372036854775807 → Calls Tryd.prog 11 #[.slice none 0 0, .slice p 512 d] w' (MNewPost w' GA RA 1 1)) := Lib.hid fun w' p d hb h4 h5 h6 => by
    have h7 := mNewest_any (HT.out w' hb) (Bs.nil w' none) (n := 0) (c := 0) rfl (by omega) (by omega) h4 lx h5 h6
    obtain ⟨e1, e2, e3, e4⟩ := new_right hx px
    rw [e1, e2, e3, e4] at h7
    exact h7
  have HN3 : Hid (∀ w' q c p d, Below w.heap.size w w' → Bs w' q (mPage GA RA 1 1) → 512 ≤ c → c ≤ 9223372036854775807 → Bs w' p (mPage GB 0 5 7) → 512 ≤ d → d ≤ 9223372036854775807 → Calls Tryd.prog 11 #[.slice q 512 c, .slice p 512 d] w' (MNewPost w' 0 0 0 0)) := Lib.hid fun w' q c p d hb h1 h2 h3 h4 h5 h6 => by
    have h7 := mNewest_any (HT.out w' hb) h1 lx h2 h3 h4 ly h5 h6
    obtain ⟨e1, e2, e3, e4⟩ := new_none hx px hy py
    rw [e1, e2, e3, e4] at h7
    exact h7
  have HG1 : Hid (decide (GA ≠ 0) = true) := Lib.hid (decide_eq_true (by omega))
  have HG2 : Hid (decide (GA ≠ 0) = true) := Lib.hid (decide_eq_true (by omega))
  have eA : 1 + 2 * (A : Int) = (GA : Int) := by omega
  have eB : 2 + 2 * (B : Int) = (GB : Int) := by omega
  have eR : 2 + (r : Int) = (RA : Int) := by omega
  have g1 : decide ((GA : Int) < (GB : Int)) = false := decide_eq_false (by omega)
  have g2 : decide (GA < GB) = false := decide_eq_false (by omega)
  clear hT hx hy px py lx ly hGA hRA hGB hlt
  generalize mPage GA RA 1 1 = zx at *
  generalize mPage GB 0 5 7 = zy at *
  obtain ⟨W0, hW0⟩ : ∃ W0, W0 = (w.alloc (.cells #[.int .i64 (GA : Int), .int .i64 (RA : Int), .int .i64 1, .int .i64 1] 23)).alloc (.cells #[.int .i64 (GB : Int), .int .i64 0, .int .i64 5, .int .i64 7] 23) := ⟨_, rfl⟩
  obtain ⟨x0, x1, x2, x3⟩ := boxes w #[.int .i64 (GA : Int), .int .i64 (RA : Int), .int .i64 1, .int .i64 1] #[.int .i64 (GB : Int), .int .i64 0, .int .i64 5, .int .i64 7] 23 23
  rw [← hW0] at x0 x1 x2 x3
  have HZ0 := Lib.hid x2
  have HKx : Hid (∀ w', Below W0.heap.size W0 w' → ∀ i, w'.cell? ⟨w.heap.size, i, none⟩ = (#[.int .i64 (GA : Int), .int .i64 (RA : Int), .int .i64 1, .int .i64 1] : Array Value)[i]? ∧ w'.frozen? ⟨w.heap.size, i, none⟩ = false) := Lib.hid fun w' hb i => by
    have h := hb.block w.heap.size (by omega)
    rw [x0] at h
    exact ⟨Joins.cell_of_block h i, Joins.unfrozen_of_block h i⟩
  have HKy : Hid (∀ w', Below W0.heap.size W0 w' → ∀ i, w'.cell? ⟨w.heap.size + 1, i, none⟩ = (#[.int .i64 (GB : Int), .int .i64 0, .int .i64 5, .int .i64 7] : Array Value)[i]? ∧ w'.frozen? ⟨w.heap.size + 1, i, none⟩ = false) := Lib.hid fun w' hb i => by
    have h := hb.block (w.heap.size + 1) (by omega)
    rw [x1] at h
    exact ⟨Joins.cell_of_block h i, Joins.unfrozen_of_block h i⟩
  clear x0 x1 x2 x3
  go_enter Tryd.func6, Tryd.ntmps6
  go_wp2_with fail
  rw [← hW0]
  clear hW0
  with_reducible refine (HS.out W0 HZ0.out).mono ?_
  rintro e w1 ⟨q1, d1, rfl, s1, m1, n1, hb1⟩
  have S1 := Lib.hid s1
  have M1 := Lib.hid m1
  have N1 := Lib.hid n1
  have HB1 := Lib.hid hb1
  have k0 : w1.cell? ⟨w.heap.size + 1, 0, none⟩ = some (.int .i64 (GB : Int)) := (HKy.out _ hb1 0).1
  have k1 : w1.cell? ⟨w.heap.size + 1, 1, none⟩ = some (.int .i64 0) := (HKy.out _ hb1 1).1
  have k2 : w1.cell? ⟨w.heap.size + 1, 2, none⟩ = some (.int .i64 5) := (HKy.out _ hb1 2).1
  have k3 : w1.cell? ⟨w.heap.size + 1, 3, none⟩ = some (.int .i64 7) := (HKy.out _ hb1 3).1
  clear s1 m1 n1 hb1 HS
  go_wp2_with fail
  with_reducible refine (HS2.out w1 (HZ0.out.trans (HB1.out.mono HZ0.out.size))).mono ?_
  rintro e w2 ⟨q2, d2, rfl, s2, m2, n2, hb2⟩
  have S1b : Hid (Bs w2 q1 zx) := Lib.hid (S1.out.below hb2)
  have S2 := Lib.hid s2
  have M2 := Lib.hid m2
  have N2 := Lib.hid n2
  have HB2 : Hid (Below W0.heap.size W0 w2) := Lib.hid (HB1.out.trans (hb2.mono HB1.out.size))
  have HZ2 : Hid (Below w.heap.size w w2) := Lib.hid (HZ0.out.trans (HB2.out.mono HZ0.out.size))
  clear s2 m2 n2 hb2 HS2 S1 HB1 k0 k1 k2 k3
  go_wp2_with fail
  with_reducible refine (HN1.out w2 _ _ _ _ HZ2.out S2.out M2.out N2.out S1b.out M1.out N1.out).mono ?_
  rintro e w3 ⟨rfl, hb3⟩
  rw [HG1.out]
  have S1c : Hid (Bs w3 q1 zx) := Lib.hid (S1b.out.below hb3)
  have S2c : Hid (Bs w3 q2 zy) := Lib.hid (S2.out.below hb3)
  have HB3 : Hid (Below W0.heap.size W0 w3) := Lib.hid (HB2.out.trans (hb3.mono HB2.out.size))
  have l0 : w.heap.size + 1 < w3.heap.size := by
    have h1 := (HKy.out _ HB3.out 0).1
    exact World.block_lt_of_cell? _ _ h1
  have l1 : w.heap.size < w3.heap.size := by omega
  have k0 : w3.cell? ⟨w.heap.size, 0, none⟩ = some (.int .i64 (GA : Int)) := (HKx.out _ HB3.out 0).1
  have k1 : w3.cell? ⟨w.heap.size, 1, none⟩ = some (.int .i64 (RA : Int)) := (HKx.out _ HB3.out 1).1
  have k2 : w3.cell? ⟨w.heap.size, 2, none⟩ = some (.int .i64 1) := (HKx.out _ HB3.out 2).1
  have k3 : w3.cell? ⟨w.heap.size, 3, none⟩ = some (.int .i64 1) := (HKx.out _ HB3.out 3).1
  have j0 : w3.cell? ⟨w.heap.size + 1, 0, none⟩ = some (.int .i64 (GB : Int)) := (HKy.out _ HB3.out 0).1
  have j1 : w3.cell? ⟨w.heap.size + 1, 1, none⟩ = some (.int .i64 0) := (HKy.out _ HB3.out 1).1
  have j2 : w3.cell? ⟨w.heap.size + 1, 2, none⟩ = some (.int .i64 5) := (HKy.out _ HB3.out 2).1
  have j3 : w3.cell? ⟨w.heap.size + 1, 3, none⟩ = some (.int .i64 7) := (HKy.out _ HB3.out 3).1
  clear hb3 HN1 S1b S2 HB2 HZ2 HG1
  go_wp2_with fail
  obtain ⟨W4, hW4⟩ : ∃ W4, W4 = (w3.alloc (.cells #[.int .i64 (GA : Int), .int .i64 (RA : Int), .int .i64 1, .int .i64 1] 23)).alloc (.cells #[.int .i64 (GA : Int), .int .i64 (RA : Int), .int .i64 1, .int .i64 1] 23) := ⟨_, rfl⟩
  rw [← hW4]
  obtain ⟨x0, x1, x2, x3⟩ := boxes w3 #[.int .i64 (GA : Int), .int .i64 (RA : Int), .int .i64 1, .int .i64 1] #[.int .i64 (GA : Int), .int .i64 (RA : Int), .int .i64 1, .int .i64 1] 23 23
  rw [← hW4] at x0 x1 x2 x3
  have HMa : Hid (∀ w', Below W4.heap.size W4 w' → ∀ i, w'.cell? ⟨w3.heap.size, i, none⟩ = (#[.int .i64 (GA : Int), .int .i64 (RA : Int), .int .i64 1, .int .i64 1] : Array Value)[i]? ∧ w'.frozen? ⟨w3.heap.size, i, none⟩ = false) := Lib.hid fun w' hb i => by
    have h := hb.block w3.heap.size (by omega)
    rw [x0] at h
    exact ⟨Joins.cell_of_block h i, Joins.unfrozen_of_block h i⟩
  have HMb : Hid (∀ w', Below W4.heap.size W4 w' → ∀ i, w'.cell? ⟨w3.heap.size + 1, i, none⟩ = (#[.int .i64 (GA : Int), .int .i64 (RA : Int), .int .i64 1, .int .i64 1] : Array Value)[i]? ∧ w'.frozen? ⟨w3.heap.size + 1, i, none⟩ = false) := Lib.hid fun w' hb i => by
    have h := hb.block (w3.heap.size + 1) (by omega)
    rw [x1] at h
    exact ⟨Joins.cell_of_block h i, Joins.unfrozen_of_block h i⟩
  have S1d : Hid (Bs W4 q1 zx) := Lib.hid (S1c.out.below x2)
  have S2d : Hid (Bs W4 q2 zy) := Lib.hid (S2c.out.below x2)
  have HB4 : Hid (Below W0.heap.size W0 W4) := Lib.hid (HB3.out.trans (x2.mono HB3.out.size))
  have HZ4 : Hid (Below w.heap.size w W4) := Lib.hid (HZ0.out.trans (HB4.out.mono HZ0.out.size))
  clear x0 x1 x2 x3 hW4 S1c S2c HB3 k0 k1 k2 k3 j0 j1 j2 j3 l0 l1
  with_reducible refine (HN2.out W4 _ _ HZ4.out S1d.out M1.out N1.out).mono ?_
  rintro e w4 ⟨rfl, hb4⟩
  rw [HG2.out]
  have HB5 := Lib.hid hb4
  clear hb4 HN2 HG2
  go_wp2_with fail
  obtain ⟨W5, hW5⟩ : ∃ W5, W5 = w4.alloc (.cells #[.int .i64 (GA : Int), .int .i64 (RA : Int), .int .i64 1, .int .i64 1] 23) := ⟨_, rfl⟩
  rw [← hW5]
  have HB5' : Hid (Below W4.heap.size W4 W5) := Lib.hid (HB5.out.trans ((box_below hW5).mono HB5.out.size))
  have HMc : Hid (∀ w', Below W5.heap.size W5 w' → ∀ i, w'.cell? ⟨w4.heap.size, i, none⟩ = (#[.int .i64 (GA : Int), .int .i64 (RA : Int), .int .i64 1, .int .i64 1] : Array Value)[i]? ∧ w'.frozen? ⟨w4.heap.size, i, none⟩ = false) := Lib.hid fun w' hb i => by rw [hW5] at hb; exact mres_cell hb i
  have HZ5 : Hid (Below w.heap.size w W5) := Lib.hid (HZ4.out.trans (HB5'.out.mono HZ4.out.size))
  clear hW5 HB5
  with_reducible refine (HN3.out W5 _ _ _ _ HZ5.out (S1d.out.below HB5'.out) M1.out N1.out (S2d.out.below HB5'.out) M2.out N2.out).mono ?_
  rintro e w6 ⟨rfl, hb6⟩
  have HB6 : Hid (Below W4.heap.size W4 w6) := Lib.hid (HB5'.out.trans (hb6.mono HB5'.out.size))
  have HB7 : Hid (Below W0.heap.size W0 w6) := Lib.hid (HB4.out.trans (HB6.out.mono HB4.out.size))
  have HZ6 : Hid (Below w.heap.size w w6) := Lib.hid (HZ5.out.trans (hb6.mono HZ5.out.size))
  have a0 : w6.cell? ⟨w3.heap.size, 0, none⟩ = some (.int .i64 (GA : Int)) := (HMa.out _ HB6.out 0).1
  have a1 : w6.cell? ⟨w3.heap.size, 1, none⟩ = some (.int .i64 (RA : Int)) := (HMa.out _ HB6.out 1).1
  have a2 : w6.cell? ⟨w3.heap.size, 2, none⟩ = some (.int .i64 1) := (HMa.out _ HB6.out 2).1
  have a3 : w6.cell? ⟨w3.heap.size, 3, none⟩ = some (.int .i64 1) := (HMa.out _ HB6.out 3).1
  have b0 : w6.cell? ⟨w3.heap.size + 1, 0, none⟩ = some (.int .i64 (GA : Int)) := (HMb.out _ HB6.out 0).1
  have b1 : w6.cell? ⟨w3.heap.size + 1, 1, none⟩ = some (.int .i64 (RA : Int)) := (HMb.out _ HB6.out 1).1
  have b2 : w6.cell? ⟨w3.heap.size + 1, 2, none⟩ = some (.int .i64 1) := (HMb.out _ HB6.out 2).1
  have b3 : w6.cell? ⟨w3.heap.size + 1, 3, none⟩ = some (.int .i64 1) := (HMb.out _ HB6.out 3).1
  have c0 : w6.cell? ⟨w4.heap.size, 0, none⟩ = some (.int .i64 (GA : Int)) := (HMc.out _ hb6 0).1
  have c1 : w6.cell? ⟨w4.heap.size, 1, none⟩ = some (.int .i64 (RA : Int)) := (HMc.out _ hb6 1).1
  have c2 : w6.cell? ⟨w4.heap.size, 2, none⟩ = some (.int .i64 1) := (HMc.out _ hb6 2).1
  have c3 : w6.cell? ⟨w4.heap.size, 3, none⟩ = some (.int .i64 1) := (HMc.out _ hb6 3).1
  have k0 : w6.cell? ⟨w.heap.size, 0, none⟩ = some (.int .i64 (GA : Int)) := (HKx.out _ HB7.out 0).1
  have k1 : w6.cell? ⟨w.heap.size, 1, none⟩ = some (.int .i64 (RA : Int)) := (HKx.out _ HB7.out 1).1
  have k2 : w6.cell? ⟨w.heap.size, 2, none⟩ = some (.int .i64 1) := (HKx.out _ HB7.out 2).1
  have k3 : w6.cell? ⟨w.heap.size, 3, none⟩ = some (.int .i64 1) := (HKx.out _ HB7.out 3).1
  have l1 : w3.heap.size < w6.heap.size := World.block_lt_of_cell? _ _ a0
  have l2 : w3.heap.size + 1 < w6.heap.size := World.block_lt_of_cell? _ _ b0
  have l3 : w4.heap.size < w6.heap.size := World.block_lt_of_cell? _ _ c0
  have l4 : w.heap.size < w6.heap.size := World.block_lt_of_cell? _ _ k0
  have h00 : (decide ((0 : Nat) ≠ 0)) = false := rfl
  clear hb6 HN3 HMa HMb HMc HKx HKy S1d S2d HB5' HB6 HB7 HB4 HZ4 HZ5 HT M1 N1 M2 N2 HZ0
  go_wp2
  go_ret
  exact ⟨rfl, HZ6.out.alloc HZ6.out.size _⟩

theorem lawMRises_any {w : World} (hT : Tab w) (a b root : Int) :
    Calls Tryd.prog 6 #[.int .i64 a, .int .i64 b, .int .i64 root] w fun e w' => e = .returned (.bool true) ∧ Below w.heap.size w w' := by
  obtain ⟨A, hA, hA2⟩ := mand_low a 16 65535 (by decide) (by omega)
  obtain ⟨B, hB, hB2⟩ := mand_low b 16 65535 (by decide) (by omega)
  obtain ⟨r, hr, hr2⟩ := mand_low root 8 255 (by decide) (by omega)
  by_cases h : 1 + 2 * A < 2 + 2 * B
  · exact mrise_up hT a b root hA hA2 hB hB2 hr hr2 rfl rfl rfl h
  · exact mrise_down hT a b root hA hA2 hB hB2 hr hr2 rfl rfl rfl (by omega)

end Go.Proofs.YtpklapgcdilghaaDoor
