/-
  The reference's Newest of layer 8: a contract for the walks.
-/
import Derived.Test.YtpklapgcdilghaaDoorMtNewB
set_option linter.unusedVariables false
set_option maxRecDepth 100000
namespace Go.Proofs.YtpklapgcdilghaaDoor
open Go.RowKit

set_option maxHeartbeats 3200000 in
theorem mNewestR_any {w : World} {p : Option Addr} {a : List UInt8} (ha : Bs w p a) {n c : Nat} (hn : n = a.length) (hnc : n ≤ c) (hc : c ≤ 9223372036854775807)
    {q : Option Addr} {b : List UInt8} (hb : Bs w q b) {k d : Nat} (hk : k = b.length) (hkd : k ≤ d) (hd : d ≤ 9223372036854775807) :
    Calls Tryd.prog 12 #[.slice p n c, .slice q k d] w (MNewPost w (newG a b) (newR a b) (newN a b) (newD a b)) := by
  obtain ⟨W0, hW0⟩ : ∃ W0, W0 = w.alloc (.cells #[.int .i64 0, .int .i64 0, .int .i64 0, .int .i64 0] 30) := ⟨_, rfl⟩
  have HZ : Hid (Below w.heap.size w W0) := Lib.hid (by rw [hW0]; exact (Below.refl _ _).alloc (Nat.le_refl _) _)
  have HR : Hid (∀ w', Below W0.heap.size W0 w' → ∀ i, w'.cell? ⟨w.heap.size, i, none⟩ = (#[.int .i64 0, .int .i64 0, .int .i64 0, .int .i64 0] : Array Value)[i]? ∧ w'.frozen? ⟨w.heap.size, i, none⟩ = false) := Lib.hid fun w' hb i => by rw [hW0] at hb; exact mres_cell hb i
  have HX := Lib.hid (mTwo a b)
  have HCa : Hid (Calls Tryd.prog 10 #[.slice p n c, .int .i64 0] W0 (MOpPost W0 (mG a 0) (mR a 0) (mN a 0) (mD a 0) (mE a 0))) := Lib.hid (mopenR_any (ha.below HZ.out) hn hnc hc 0 (by decide) (by decide))
  have HCb : Hid (∀ w', Below w.heap.size w w' → Calls Tryd.prog 10 #[.slice q k d, .int .i64 1] w' (MOpPost w' (mG b 1) (mR b 1) (mN b 1) (mD b 1) (mE b 1))) := Lib.hid fun w' hw => mopenR_any (hb.below hw) hk hkd hd 1 (by decide) (by decide)
  clear ha hn hnc hc hb hk hkd hd
  generalize newG a b = G at *
  generalize newR a b = R at *
  generalize newN a b = N at *
  generalize newD a b = D at *
  generalize mG a 0 = ga at *
  generalize mR a 0 = ra at *
  generalize mN a 0 = na at *
  generalize mD a 0 = da at *
  generalize mE a 0 = ea at *
  generalize mG b 1 = gb at *
  generalize mR b 1 = rb at *
  generalize mN b 1 = nb at *
  generalize mD b 1 = db at *
  generalize mE b 1 = eb at *
  go_enter Tryd.func12, Tryd.ntmps12
  go_wp2_with fail
  rw [← hW0]
  clear hW0
  with_reducible refine HCa.out.mono ?_
  rintro e w1 ⟨rfl, hb1⟩
  have HB1 := Lib.hid hb1
  clear hb1 HCa
  go_wp2_with fail
  obtain ⟨W1, hW1⟩ : ∃ W1, W1 = w1.alloc (.cells #[.int .i64 (ga : Int), .int .i64 (ra : Int), .int .i64 (na : Int), .int .i64 (da : Int)] 30) := ⟨_, rfl⟩
  rw [← hW1]
  have HB1' : Hid (Below W0.heap.size W0 W1) := Lib.hid (by rw [hW1]; exact HB1.out.alloc HB1.out.size _)
  have HMa : Hid (∀ w', Below W1.heap.size W1 w' → ∀ i, w'.cell? ⟨w1.heap.size, i, none⟩ = (#[.int .i64 (ga : Int), .int .i64 (ra : Int), .int .i64 (na : Int), .int .i64 (da : Int)] : Array Value)[i]? ∧ w'.frozen? ⟨w1.heap.size, i, none⟩ = false) := Lib.hid fun w' hb i => by rw [hW1] at hb; exact mres_cell hb i
  clear hW1 HB1
  with_reducible refine (HCb.out _ (HZ.out.trans (HB1'.out.mono HZ.out.size))).mono ?_
  rintro e w2 ⟨rfl, hb2⟩
  have HB2 := Lib.hid hb2
  obtain ⟨i0, _⟩ := HMa.out _ hb2 0
  obtain ⟨i1, _⟩ := HMa.out _ hb2 1
  obtain ⟨i2, _⟩ := HMa.out _ hb2 2
  obtain ⟨i3, _⟩ := HMa.out _ hb2 3
  replace i0 : w2.cell? ⟨w1.heap.size, 0, none⟩ = some (.int .i64 (ga : Int)) := i0
  replace i1 : w2.cell? ⟨w1.heap.size, 1, none⟩ = some (.int .i64 (ra : Int)) := i1
  replace i2 : w2.cell? ⟨w1.heap.size, 2, none⟩ = some (.int .i64 (na : Int)) := i2
  replace i3 : w2.cell? ⟨w1.heap.size, 3, none⟩ = some (.int .i64 (da : Int)) := i3
  have hlt : w1.heap.size < w2.heap.size := World.block_lt_of_cell? _ _ i0
  have HB3 : Hid (Below W0.heap.size W0 w2) := Lib.hid (HB1'.out.trans (hb2.mono HB1'.out.size))
  have HZ2 : Hid (Below w.heap.size w w2) := Lib.hid (HZ.out.trans (HB3.out.mono HZ.out.size))
  obtain ⟨c0, z0⟩ := HR.out _ HB3.out 0
  obtain ⟨c1, z1⟩ := HR.out _ HB3.out 1
  obtain ⟨c2, z2⟩ := HR.out _ HB3.out 2
  obtain ⟨c3, z3⟩ := HR.out _ HB3.out 3
  replace c0 : w2.cell? ⟨w.heap.size, 0, none⟩ = some (.int .i64 0) := c0
  replace c1 : w2.cell? ⟨w.heap.size, 1, none⟩ = some (.int .i64 0) := c1
  replace c2 : w2.cell? ⟨w.heap.size, 2, none⟩ = some (.int .i64 0) := c2
  replace c3 : w2.cell? ⟨w.heap.size, 3, none⟩ = some (.int .i64 0) := c3
  have hlt0 : w.heap.size < w2.heap.size := World.block_lt_of_cell? _ _ c0
  clear hb2 HCb HMa HB2 HB1' HR HB3 HZ
  by_cases ha : ga = 0
  · have hea : ea ≠ 0 := fun h => (HX.out.ea.1 h) ha
    have a1 : ((ea : Int) == 0) = false := by rw [beq_eq_false_iff_ne]; omega
    have a2 : ((ea : Int) != 0) = true := by rw [bne_iff_ne]; omega
    by_cases hb : gb = 0
    · have heb : eb ≠ 0 := fun h => (HX.out.eb.1 h) hb
      have b1 : ((eb : Int) == 0) = false := by rw [beq_eq_false_iff_ne]; omega
      have b2 : ((eb : Int) != 0) = true := by rw [bne_iff_ne]; omega
      obtain ⟨rfl, rfl, rfl, rfl⟩ : G = 0 ∧ R = 0 ∧ N = 0 ∧ D = 0 := by
        rcases HX.out.sel with ⟨h0, _⟩ | ⟨_, h1, h2, h3, h4⟩
        · omega
        · have := HX.out.za ha
          omega
      have HG : Hid (decide ((0 : Nat) ≠ 0) = false) := Lib.hid rfl
      clear HX hea heb
      go_wp2_with fail
      refine bodyPost_ret (v := .tuple #[.agg #[.int .i64 0, .int .i64 0, .int .i64 0, .int .i64 0], .bool false]) (by simp [results, Tryd.results12, go_sem, c0, c1, c2, c3, hlt0]) rfl ⟨rfl, ?_⟩
      first | exact set4_below (HZ2.out.alloc HZ2.out.size _) (Nat.le_refl _) _ _ _ _ | exact (set4_below HZ2.out (Nat.le_refl _) _ _ _ _).alloc (by simp; omega) _
    · have heb : eb = 0 := HX.out.eb.2 (by omega)
      subst heb
      obtain ⟨rfl, rfl, rfl, rfl⟩ : G = gb ∧ R = rb ∧ N = nb ∧ D = db := by
        rcases HX.out.sel with ⟨_, h1⟩ | ⟨h0, _⟩
        · exact h1
        · omega
      have HG : Hid (decide (G ≠ 0) = true) := Lib.hid (decide_eq_true (by omega))
      clear HX hea
      go_wp2_with fail
      refine bodyPost_ret (v := .tuple #[.agg #[.int .i64 (G : Int), .int .i64 (R : Int), .int .i64 (N : Int), .int .i64 (D : Int)], .bool true]) (by simp [results, Tryd.results12, go_sem, c0, c1, c2, c3, hlt0]) rfl ⟨by rw [HG.out], ?_⟩
      first | exact set4_below (HZ2.out.alloc HZ2.out.size _) (Nat.le_refl _) _ _ _ _ | exact (set4_below HZ2.out (Nat.le_refl _) _ _ _ _).alloc (by simp; omega) _
  · have hea : ea = 0 := HX.out.ea.2 ha
    subst hea
    by_cases hgt : ga < gb
    · have heb : eb = 0 := HX.out.eb.2 (by omega)
      subst heb
      obtain ⟨rfl, rfl, rfl, rfl⟩ : G = gb ∧ R = rb ∧ N = nb ∧ D = db := by
        rcases HX.out.sel with ⟨_, h1⟩ | ⟨h0, _⟩
        · exact h1
        · omega
      have HG : Hid (decide (G ≠ 0) = true) := Lib.hid (decide_eq_true (by omega))
      have g1 : (ga : Int) < (G : Int) := by omega
      have g2 : decide (ga < G) = true := decide_eq_true hgt
      clear HX
      go_wp2_with fail
      refine bodyPost_ret (v := .tuple #[.agg #[.int .i64 (G : Int), .int .i64 (R : Int), .int .i64 (N : Int), .int .i64 (D : Int)], .bool true]) (by simp [results, Tryd.results12, go_sem, c0, c1, c2, c3, hlt0]) rfl ⟨by rw [HG.out], ?_⟩
      first | exact set4_below (HZ2.out.alloc HZ2.out.size _) (Nat.le_refl _) _ _ _ _ | exact (set4_below HZ2.out (Nat.le_refl _) _ _ _ _).alloc (by simp; omega) _
    · obtain ⟨rfl, rfl, rfl, rfl⟩ : G = ga ∧ R = ra ∧ N = na ∧ D = da := by
        rcases HX.out.sel with ⟨h0, _⟩ | ⟨_, h1⟩
        · exact absurd h0 hgt
        · exact h1
      have HG : Hid (decide (G ≠ 0) = true) := Lib.hid (decide_eq_true ha)
      by_cases heb : eb = 0
      · subst heb
        have g1 : decide ((G : Int) < (gb : Int)) = false := decide_eq_false (by omega)
        have g2 : decide (G < gb) = false := decide_eq_false hgt
        clear HX
        go_wp2_with fail
        refine bodyPost_ret (v := .tuple #[.agg #[.int .i64 (G : Int), .int .i64 (R : Int), .int .i64 (N : Int), .int .i64 (D : Int)], .bool true]) (by simp [results, Tryd.results12, go_sem, c0, c1, c2, c3, hlt0]) rfl ⟨by rw [HG.out], ?_⟩
        first | exact set4_below (HZ2.out.alloc HZ2.out.size _) (Nat.le_refl _) _ _ _ _ | exact (set4_below HZ2.out (Nat.le_refl _) _ _ _ _).alloc (by simp; omega) _
      · have b1 : ((eb : Int) == 0) = false := by rw [beq_eq_false_iff_ne]; omega
        have b2 : ((eb : Int) != 0) = true := by rw [bne_iff_ne]; omega
        clear HX
        go_wp2_with fail
        refine bodyPost_ret (v := .tuple #[.agg #[.int .i64 (G : Int), .int .i64 (R : Int), .int .i64 (N : Int), .int .i64 (D : Int)], .bool true]) (by simp [results, Tryd.results12, go_sem, c0, c1, c2, c3, hlt0]) rfl ⟨by rw [HG.out], ?_⟩
        first | exact set4_below (HZ2.out.alloc HZ2.out.size _) (Nat.le_refl _) _ _ _ _ | exact (set4_below HZ2.out (Nat.le_refl _) _ _ _ _).alloc (by simp; omega) _

end Go.Proofs.YtpklapgcdilghaaDoor
