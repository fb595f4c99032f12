/-
  The reference's Open of layer 8, way by way.
-/
import Derived.Test.YtpklapgcdilghaaDoorMtOpenR
import Derived.Deep.RegionHeld3
set_option linter.unusedVariables false
set_option maxRecDepth 100000
namespace Go.Proofs.YtpklapgcdilghaaDoor
open Go.RowKit

set_option maxHeartbeats 3200000 in
theorem mopenR_A {w : World} {p : Option Addr} {l : List UInt8} (hl : Bs w p l) {n c : Nat} (hn : n = l.length) (hnc : n ≤ c) (hc : c ≤ 9223372036854775807) (no : Int) (h1 : -9223372036854775808 ≤ no) (h2 : no ≤ 9223372036854775807) (h : openE l no = 0) (hX : ¬ l[0]? = some 1) :
    Calls Tryd.prog 10 #[.slice p n c, .int .i64 no] w (MOpPost w 0 0 0 0 11) := by
  obtain ⟨W0, hW0⟩ : ∃ W0, W0 = w.alloc (.cells #[.int .i64 0, .int .i64 0, .int .i64 0, .int .i64 0] 30) := ⟨_, rfl⟩
  have HZ : Hid (Below w.heap.size w W0) := Lib.hid (by rw [hW0]; exact (Below.refl _ _).alloc (Nat.le_refl _) _)
  have HR : Hid (∀ w', Below W0.heap.size W0 w' → ∀ i, w'.cell? ⟨w.heap.size, i, none⟩ = (#[.int .i64 0, .int .i64 0, .int .i64 0, .int .i64 0] : Array Value)[i]? ∧ w'.frozen? ⟨w.heap.size, i, none⟩ = false) := Lib.hid fun w' hb i => by rw [hW0] at hb; exact mres_cell hb i
  have HC := Lib.hid (pOpenR_any (hl.below HZ.out) hn hnc hc no h1 h2)
  have HP : Hid (∀ e w', OpenPost W0 l no e w' → ∃ (K : Int) (q : Option Addr) (k cc : Nat), K ≠ 1 ∧ k = (fIn l).length ∧ e = .returned (.tuple #[.int .u8 K, .int .i64 (fGen l : Nat), .slice q k cc, .int .i64 0]) ∧ k ≤ cc ∧ cc ≤ 9223372036854775807 ∧ Bs w' q (fIn l) ∧ Below W0.heap.size W0 w') := Lib.hid fun e w' hp => by
    rcases hp with ⟨h1, _⟩ | ⟨_, u, v, hu, rfl, hv, hb⟩
    · exact absurd h h1
    · obtain ⟨q, cc, rfl, j1, j2, j3, _⟩ := hv.form rfl
      refine ⟨(u.toNat : Int), q, _, cc, fun hh => hX ?_, rfl, rfl, j1, j2, j3, hb⟩
      rw [hu]
      congr 1
      apply UInt8.toNat_inj.1
      have : (1 : UInt8).toNat = 1 := rfl
      omega
  have hgm : fGen l ≤ 1152921504606846976 := (openE_zero.1 h).2.2.2.2.2.1
  obtain ⟨m, hm⟩ : ∃ m, m = fGen l % 2 := ⟨_, rfl⟩
  have hmi : (fGen l : Int) % 2 = (m : Int) := by omega
  have hmt : (fGen l : Int).tmod 2 = (m : Int) := by rw [Int.tmod_eq_emod_of_nonneg (by omega)]; exact hmi
  clear hl hn hnc hc h h1 h2 hm hX
  generalize fGen l = g at *
  go_enter Tryd.func10, Tryd.ntmps10
  go_wp2_with fail
  rw [← hW0]
  clear hW0
  with_reducible refine HC.out.mono ?_
  intro e w1 hp
  obtain ⟨K, q, k, cc, hK, hk, rfl, j1, j2, j3, hb1⟩ := HP.out _ _ hp
  have hK1 : (K == 1) = false := by rw [beq_eq_false_iff_ne]; exact hK
  have hK2 : (K != 1) = true := by rw [bne_iff_ne]; exact hK
  clear hk
  have HB1 := Lib.hid hb1
  clear hp HC HP j3 hb1
  obtain ⟨c0, z0⟩ := HR.out _ HB1.out 0
  obtain ⟨c1, z1⟩ := HR.out _ HB1.out 1
  obtain ⟨c2, z2⟩ := HR.out _ HB1.out 2
  obtain ⟨c3, z3⟩ := HR.out _ HB1.out 3
  clear HR
  replace c0 : w1.cell? ⟨w.heap.size, 0, none⟩ = some (.int .i64 0) := c0
  replace c1 : w1.cell? ⟨w.heap.size, 1, none⟩ = some (.int .i64 0) := c1
  replace c2 : w1.cell? ⟨w.heap.size, 2, none⟩ = some (.int .i64 0) := c2
  replace c3 : w1.cell? ⟨w.heap.size, 3, none⟩ = some (.int .i64 0) := c3
  go_wp2_with fail
  refine bodyPost_ret (v := .tuple #[.agg #[.int .i64 0, .int .i64 0, .int .i64 0, .int .i64 0], .int .i64 11]) (by simp [results, Tryd.results10, go_sem, c0, c1, c2, c3]) rfl ⟨rfl, ?_⟩
  exact ((((HZ.out.trans (HB1.out.mono HZ.out.size)).setCell (Nat.le_refl _) _).setCell (Nat.le_refl _) _).setCell (Nat.le_refl _) _).setCell (Nat.le_refl _) _

set_option maxHeartbeats 3200000 in
theorem mopenR_B {w : World} {p : Option Addr} {l : List UInt8} (hl : Bs w p l) {n c : Nat} (hn : n = l.length) (hnc : n ≤ c) (hc : c ≤ 9223372036854775807) (no : Int) (h1 : -9223372036854775808 ≤ no) (h2 : no ≤ 9223372036854775807) (h : openE l no = 0) (hA : l[0]? = some 1) (hX : ¬ (fIn l).length = 32) :
    Calls Tryd.prog 10 #[.slice p n c, .int .i64 no] w (MOpPost w 0 0 0 0 11) := by
  obtain ⟨W0, hW0⟩ : ∃ W0, W0 = w.alloc (.cells #[.int .i64 0, .int .i64 0, .int .i64 0, .int .i64 0] 30) := ⟨_, rfl⟩
  have HZ : Hid (Below w.heap.size w W0) := Lib.hid (by rw [hW0]; exact (Below.refl _ _).alloc (Nat.le_refl _) _)
  have HR : Hid (∀ w', Below W0.heap.size W0 w' → ∀ i, w'.cell? ⟨w.heap.size, i, none⟩ = (#[.int .i64 0, .int .i64 0, .int .i64 0, .int .i64 0] : Array Value)[i]? ∧ w'.frozen? ⟨w.heap.size, i, none⟩ = false) := Lib.hid fun w' hb i => by rw [hW0] at hb; exact mres_cell hb i
  have HC := Lib.hid (pOpenR_any (hl.below HZ.out) hn hnc hc no h1 h2)
  have HP : Hid (∀ e w', OpenPost W0 l no e w' → ∃ (q : Option Addr) (k cc : Nat), k = (fIn l).length ∧ e = .returned (.tuple #[.int .u8 1, .int .i64 (fGen l : Nat), .slice q k cc, .int .i64 0]) ∧ k ≤ cc ∧ cc ≤ 9223372036854775807 ∧ Bs w' q (fIn l) ∧ Below W0.heap.size W0 w') := Lib.hid fun e w' hp => by
    rcases hp with ⟨h1, _⟩ | ⟨_, u, v, hu, rfl, hv, hb⟩
    · exact absurd h h1
    · obtain ⟨q, cc, rfl, j1, j2, j3, _⟩ := hv.form rfl
      rw [hA] at hu
      obtain rfl := Option.some.inj hu
      exact ⟨q, _, cc, rfl, rfl, j1, j2, j3, hb⟩
  have hgm : fGen l ≤ 1152921504606846976 := (openE_zero.1 h).2.2.2.2.2.1
  obtain ⟨m, hm⟩ : ∃ m, m = fGen l % 2 := ⟨_, rfl⟩
  have hmi : (fGen l : Int) % 2 = (m : Int) := by omega
  have hmt : (fGen l : Int).tmod 2 = (m : Int) := by rw [Int.tmod_eq_emod_of_nonneg (by omega)]; exact hmi
  have HX := Lib.hid hX
  clear hl hn hnc hc h h1 h2 hm hX hA
  generalize fGen l = g at *
  go_enter Tryd.func10, Tryd.ntmps10
  go_wp2_with fail
  rw [← hW0]
  clear hW0
  with_reducible refine HC.out.mono ?_
  intro e w1 hp
  obtain ⟨q, k, cc, hk, rfl, j1, j2, j3, hb1⟩ := HP.out _ _ hp
  have hk0 : k ≠ 32 := by rw [hk]; exact HX.out
  have hk1 : ((k : Int) == 32) = false := by rw [beq_eq_false_iff_ne]; omega
  have hk2 : ((k : Int) != 32) = true := by rw [bne_iff_ne]; omega
  have hk3 : ¬ (k : Int) = 32 := by omega
  clear hk hk0
  have HB1 := Lib.hid hb1
  clear hp HC HP j3 hb1
  obtain ⟨c0, z0⟩ := HR.out _ HB1.out 0
  obtain ⟨c1, z1⟩ := HR.out _ HB1.out 1
  obtain ⟨c2, z2⟩ := HR.out _ HB1.out 2
  obtain ⟨c3, z3⟩ := HR.out _ HB1.out 3
  clear HR
  replace c0 : w1.cell? ⟨w.heap.size, 0, none⟩ = some (.int .i64 0) := c0
  replace c1 : w1.cell? ⟨w.heap.size, 1, none⟩ = some (.int .i64 0) := c1
  replace c2 : w1.cell? ⟨w.heap.size, 2, none⟩ = some (.int .i64 0) := c2
  replace c3 : w1.cell? ⟨w.heap.size, 3, none⟩ = some (.int .i64 0) := c3
  go_wp2_with fail
  refine bodyPost_ret (v := .tuple #[.agg #[.int .i64 0, .int .i64 0, .int .i64 0, .int .i64 0], .int .i64 11]) (by simp [results, Tryd.results10, go_sem, c0, c1, c2, c3]) rfl ⟨rfl, ?_⟩
  exact ((((HZ.out.trans (HB1.out.mono HZ.out.size)).setCell (Nat.le_refl _) _).setCell (Nat.le_refl _) _).setCell (Nat.le_refl _) _).setCell (Nat.le_refl _) _

set_option maxHeartbeats 3200000 in
theorem mopenR_C {w : World} {p : Option Addr} {l : List UInt8} (hl : Bs w p l) {n c : Nat} (hn : n = l.length) (hnc : n ≤ c) (hc : c ≤ 9223372036854775807) (no : Int) (h1 : -9223372036854775808 ≤ no) (h2 : no ≤ 9223372036854775807) (h : openE l no = 0) (hA : l[0]? = some 1) (hB : (fIn l).length = 32) (hX : ¬ ((fGen l % 2 : Nat) : Int) = no) :
    Calls Tryd.prog 10 #[.slice p n c, .int .i64 no] w (MOpPost w 0 0 0 0 11) := by
  obtain ⟨W0, hW0⟩ : ∃ W0, W0 = w.alloc (.cells #[.int .i64 0, .int .i64 0, .int .i64 0, .int .i64 0] 30) := ⟨_, rfl⟩
  have HZ : Hid (Below w.heap.size w W0) := Lib.hid (by rw [hW0]; exact (Below.refl _ _).alloc (Nat.le_refl _) _)
  have HR : Hid (∀ w', Below W0.heap.size W0 w' → ∀ i, w'.cell? ⟨w.heap.size, i, none⟩ = (#[.int .i64 0, .int .i64 0, .int .i64 0, .int .i64 0] : Array Value)[i]? ∧ w'.frozen? ⟨w.heap.size, i, none⟩ = false) := Lib.hid fun w' hb i => by rw [hW0] at hb; exact mres_cell hb i
  have HC := Lib.hid (pOpenR_any (hl.below HZ.out) hn hnc hc no h1 h2)
  have HP : Hid (∀ e w', OpenPost W0 l no e w' → ∃ (q : Option Addr) (cc : Nat), e = .returned (.tuple #[.int .u8 1, .int .i64 (fGen l : Nat), .slice q 32 cc, .int .i64 0]) ∧ 32 ≤ cc ∧ cc ≤ 9223372036854775807 ∧ Bs w' q (fIn l) ∧ Below W0.heap.size W0 w') := Lib.hid fun e w' hp => by
    rcases hp with ⟨h1, _⟩ | ⟨_, u, v, hu, rfl, hv, hb⟩
    · exact absurd h h1
    · obtain ⟨q, cc, rfl, j1, j2, j3, _⟩ := hv.form hB.symm
      rw [hA] at hu
      obtain rfl := Option.some.inj hu
      exact ⟨q, cc, rfl, j1, j2, j3, hb⟩
  have hgm : fGen l ≤ 1152921504606846976 := (openE_zero.1 h).2.2.2.2.2.1
  obtain ⟨m, hm⟩ : ∃ m, m = fGen l % 2 := ⟨_, rfl⟩
  have hc1 : ((m : Int) == no) = false := by rw [beq_eq_false_iff_ne, hm]; exact hX
  have hc2 : ((m : Int) != no) = true := by rw [bne_iff_ne, hm]; exact hX
  have hc3 : ¬ (m : Int) = no := by rw [hm]; exact hX
  have hmi : (fGen l : Int) % 2 = (m : Int) := by omega
  have hmt : (fGen l : Int).tmod 2 = (m : Int) := by rw [Int.tmod_eq_emod_of_nonneg (by omega)]; exact hmi
  have HB := Lib.hid hB
  clear hl hn hnc hc h h1 h2 hm hX hA hB
  generalize fGen l = g at *
  go_enter Tryd.func10, Tryd.ntmps10
  go_wp2_with fail
  rw [← hW0]
  clear hW0
  with_reducible refine HC.out.mono ?_
  intro e w1 hp
  obtain ⟨q, cc, rfl, j1, j2, j3, hb1⟩ := HP.out _ _ hp
  have HB1 := Lib.hid hb1
  clear hp HC HP j3 hb1
  obtain ⟨c0, z0⟩ := HR.out _ HB1.out 0
  obtain ⟨c1, z1⟩ := HR.out _ HB1.out 1
  obtain ⟨c2, z2⟩ := HR.out _ HB1.out 2
  obtain ⟨c3, z3⟩ := HR.out _ HB1.out 3
  clear HR
  replace c0 : w1.cell? ⟨w.heap.size, 0, none⟩ = some (.int .i64 0) := c0
  replace c1 : w1.cell? ⟨w.heap.size, 1, none⟩ = some (.int .i64 0) := c1
  replace c2 : w1.cell? ⟨w.heap.size, 2, none⟩ = some (.int .i64 0) := c2
  replace c3 : w1.cell? ⟨w.heap.size, 3, none⟩ = some (.int .i64 0) := c3
  go_wp2_with fail
  refine bodyPost_ret (v := .tuple #[.agg #[.int .i64 0, .int .i64 0, .int .i64 0, .int .i64 0], .int .i64 11]) (by simp [results, Tryd.results10, go_sem, c0, c1, c2, c3]) rfl ⟨rfl, ?_⟩
  exact ((((HZ.out.trans (HB1.out.mono HZ.out.size)).setCell (Nat.le_refl _) _).setCell (Nat.le_refl _) _).setCell (Nat.le_refl _) _).setCell (Nat.le_refl _) _

set_option maxHeartbeats 3200000 in
theorem mopenR_D {w : World} {p : Option Addr} {l : List UInt8} (hl : Bs w p l) {n c : Nat} (hn : n = l.length) (hnc : n ≤ c) (hc : c ≤ 9223372036854775807) (no : Int) (h1 : -9223372036854775808 ≤ no) (h2 : no ≤ 9223372036854775807) (h : openE l no = 0) (hA : l[0]? = some 1) (hB : (fIn l).length = 32) (hC : ((fGen l % 2 : Nat) : Int) = no) (hX : ¬ fG l = fGen l) :
    Calls Tryd.prog 10 #[.slice p n c, .int .i64 no] w (MOpPost w 0 0 0 0 11) := by
  obtain ⟨W0, hW0⟩ : ∃ W0, W0 = w.alloc (.cells #[.int .i64 0, .int .i64 0, .int .i64 0, .int .i64 0] 30) := ⟨_, rfl⟩
  have HZ : Hid (Below w.heap.size w W0) := Lib.hid (by rw [hW0]; exact (Below.refl _ _).alloc (Nat.le_refl _) _)
  have HR : Hid (∀ w', Below W0.heap.size W0 w' → ∀ i, w'.cell? ⟨w.heap.size, i, none⟩ = (#[.int .i64 0, .int .i64 0, .int .i64 0, .int .i64 0] : Array Value)[i]? ∧ w'.frozen? ⟨w.heap.size, i, none⟩ = false) := Lib.hid fun w' hb i => by rw [hW0] at hb; exact mres_cell hb i
  have HC := Lib.hid (pOpenR_any (hl.below HZ.out) hn hnc hc no h1 h2)
  have HP : Hid (∀ e w', OpenPost W0 l no e w' → ∃ (q : Option Addr) (cc : Nat), e = .returned (.tuple #[.int .u8 1, .int .i64 (fGen l : Nat), .slice q 32 cc, .int .i64 0]) ∧ 32 ≤ cc ∧ cc ≤ 9223372036854775807 ∧ Bs w' q (fIn l) ∧ Below W0.heap.size W0 w') := Lib.hid fun e w' hp => by
    rcases hp with ⟨h1, _⟩ | ⟨_, u, v, hu, rfl, hv, hb⟩
    · exact absurd h h1
    · obtain ⟨q, cc, rfl, j1, j2, j3, _⟩ := hv.form hB.symm
      rw [hA] at hu
      obtain rfl := Option.some.inj hu
      exact ⟨q, cc, rfl, j1, j2, j3, hb⟩
  have hgm : fGen l ≤ 1152921504606846976 := (openE_zero.1 h).2.2.2.2.2.1
  obtain ⟨m, hm⟩ : ∃ m, m = fGen l % 2 := ⟨_, rfl⟩
  rw [← hm] at hC
  subst hC
  have hmi : (fGen l : Int) % 2 = (m : Int) := by omega
  have hmt : (fGen l : Int).tmod 2 = (m : Int) := by rw [Int.tmod_eq_emod_of_nonneg (by omega)]; exact hmi
  have HV : Hid (∀ (b o : Nat) (w' : World) (c : Nat), Bs w' (some ⟨b, o, none⟩) (fIn l) → Calls Tryd.prog 23 #[.slice (some ⟨b, o + 24, none⟩) 8 c] w' fun e w'' => e = .returned (.int .i64 (numI (fG l))) ∧ w' = w'') := Lib.hid fun b o w' c hb => by
    have h3 := numb_any (c := c) (hb.part 24 8) (sub_length (by omega)).symm
    rw [List.take_of_length_le (by rw [List.length_drop]; omega)] at h3
    exact h3
  have hy : numI (fG l) ≠ (fGen l : Nat) := by
    unfold numI
    split <;> omega
  generalize numI (fG l) = y at *
  have hd1 : (y == (fGen l : Int)) = false := by rw [beq_eq_false_iff_ne]; exact hy
  have hd2 : (y != (fGen l : Int)) = true := by rw [bne_iff_ne]; exact hy
  have HB := Lib.hid hB
  clear hl hn hnc hc h h1 h2 hm hX hA hB
  generalize fGen l = g at *
  go_enter Tryd.func10, Tryd.ntmps10
  go_wp2_with fail
  rw [← hW0]
  clear hW0
  with_reducible refine HC.out.mono ?_
  intro e w1 hp
  obtain ⟨q, cc, rfl, j1, j2, j3, hb1⟩ := HP.out _ _ hp
  obtain ⟨b, o, rfl, _, _⟩ := j3.at (by rw [HB.out]; omega)
  have hcc : ¬ cc = 24 := by omega
  have H3 := Lib.hid j3
  have HB1 := Lib.hid hb1
  clear hp HC HP j3 hb1
  go_wp2_with fail
  with_reducible refine (HV.out _ _ _ _ H3.out).mono ?_
  rintro e w2 ⟨rfl, rfl⟩
  obtain ⟨c0, z0⟩ := HR.out _ HB1.out 0
  obtain ⟨c1, z1⟩ := HR.out _ HB1.out 1
  obtain ⟨c2, z2⟩ := HR.out _ HB1.out 2
  obtain ⟨c3, z3⟩ := HR.out _ HB1.out 3
  clear HR
  replace c0 : w1.cell? ⟨w.heap.size, 0, none⟩ = some (.int .i64 0) := c0
  replace c1 : w1.cell? ⟨w.heap.size, 1, none⟩ = some (.int .i64 0) := c1
  replace c2 : w1.cell? ⟨w.heap.size, 2, none⟩ = some (.int .i64 0) := c2
  replace c3 : w1.cell? ⟨w.heap.size, 3, none⟩ = some (.int .i64 0) := c3
  go_wp2_with fail
  refine bodyPost_ret (v := .tuple #[.agg #[.int .i64 0, .int .i64 0, .int .i64 0, .int .i64 0], .int .i64 11]) (by simp [results, Tryd.results10, go_sem, c0, c1, c2, c3]) rfl ⟨rfl, ?_⟩
  exact ((((HZ.out.trans (HB1.out.mono HZ.out.size)).setCell (Nat.le_refl _) _).setCell (Nat.le_refl _) _).setCell (Nat.le_refl _) _).setCell (Nat.le_refl _) _

set_option maxHeartbeats 3200000 in
theorem mopenR_E {w : World} {p : Option Addr} {l : List UInt8} (hl : Bs w p l) {n c : Nat} (hn : n = l.length) (hnc : n ≤ c) (hc : c ≤ 9223372036854775807) (no : Int) (h1 : -9223372036854775808 ≤ no) (h2 : no ≤ 9223372036854775807) (h : openE l no = 0) (hA : l[0]? = some 1) (hB : (fIn l).length = 32) (hC : ((fGen l % 2 : Nat) : Int) = no) (hD : fG l = fGen l) (hX : ¬ MRight (fGen l) (fR l) (fN l) (fD l)) :
    Calls Tryd.prog 10 #[.slice p n c, .int .i64 no] w (MOpPost w 0 0 0 0 11) := by
  obtain ⟨W0, hW0⟩ : ∃ W0, W0 = w.alloc (.cells #[.int .i64 0, .int .i64 0, .int .i64 0, .int .i64 0] 30) := ⟨_, rfl⟩
  have HZ : Hid (Below w.heap.size w W0) := Lib.hid (by rw [hW0]; exact (Below.refl _ _).alloc (Nat.le_refl _) _)
  have HR : Hid (∀ w', Below W0.heap.size W0 w' → ∀ i, w'.cell? ⟨w.heap.size, i, none⟩ = (#[.int .i64 0, .int .i64 0, .int .i64 0, .int .i64 0] : Array Value)[i]? ∧ w'.frozen? ⟨w.heap.size, i, none⟩ = false) := Lib.hid fun w' hb i => by rw [hW0] at hb; exact mres_cell hb i
  have HC := Lib.hid (pOpenR_any (hl.below HZ.out) hn hnc hc no h1 h2)
  have HP : Hid (∀ e w', OpenPost W0 l no e w' → ∃ (q : Option Addr) (cc : Nat), e = .returned (.tuple #[.int .u8 1, .int .i64 (fGen l : Nat), .slice q 32 cc, .int .i64 0]) ∧ 32 ≤ cc ∧ cc ≤ 9223372036854775807 ∧ Bs w' q (fIn l) ∧ Below W0.heap.size W0 w') := Lib.hid fun e w' hp => by
    rcases hp with ⟨h1, _⟩ | ⟨_, u, v, hu, rfl, hv, hb⟩
    · exact absurd h h1
    · obtain ⟨q, cc, rfl, j1, j2, j3, _⟩ := hv.form hB.symm
      rw [hA] at hu
      obtain rfl := Option.some.inj hu
      exact ⟨q, cc, rfl, j1, j2, j3, hb⟩
  have hgm : fGen l ≤ 1152921504606846976 := (openE_zero.1 h).2.2.2.2.2.1
  obtain ⟨m, hm⟩ : ∃ m, m = fGen l % 2 := ⟨_, rfl⟩
  rw [← hm] at hC
  subst hC
  have hmi : (fGen l : Int) % 2 = (m : Int) := by omega
  have hmt : (fGen l : Int).tmod 2 = (m : Int) := by rw [Int.tmod_eq_emod_of_nonneg (by omega)]; exact hmi
  have HV : Hid (∀ (b o : Nat) (w' : World) (c : Nat), Bs w' (some ⟨b, o, none⟩) (fIn l) → Calls Tryd.prog 23 #[.slice (some ⟨b, o + 24, none⟩) 8 c] w' fun e w'' => e = .returned (.int .i64 (numI (fG l))) ∧ w' = w'') := Lib.hid fun b o w' c hb => by
    have h3 := numb_any (c := c) (hb.part 24 8) (sub_length (by omega)).symm
    rw [List.take_of_length_le (by rw [List.length_drop]; omega)] at h3
    exact h3
  rw [hD, numI_low hgm] at HV
  have HV0 : Hid (∀ (b o : Nat) (w' : World) (c : Nat), Bs w' (some ⟨b, o, none⟩) (fIn l) → Calls Tryd.prog 23 #[.slice (some ⟨b, o, none⟩) 8 c] w' fun e w'' => e = .returned (.int .i64 (numI (fR l))) ∧ w' = w'') := Lib.hid fun b o w' c hb => numb_any (c := c) (hb.take 8) (by rw [List.length_take]; omega)
  have HV1 : Hid (∀ (b o : Nat) (w' : World) (c : Nat), Bs w' (some ⟨b, o, none⟩) (fIn l) → Calls Tryd.prog 23 #[.slice (some ⟨b, o + 8, none⟩) 8 c] w' fun e w'' => e = .returned (.int .i64 (numI (fN l))) ∧ w' = w'') := Lib.hid fun b o w' c hb => numb_any (c := c) (hb.part 8 8) (sub_length (by omega)).symm
  have HV2 : Hid (∀ (b o : Nat) (w' : World) (c : Nat), Bs w' (some ⟨b, o, none⟩) (fIn l) → Calls Tryd.prog 23 #[.slice (some ⟨b, o + 16, none⟩) 8 c] w' fun e w'' => e = .returned (.int .i64 (numI (fD l))) ∧ w' = w'') := Lib.hid fun b o w' c hb => numb_any (c := c) (hb.part 16 8) (sub_length (by omega)).symm
  have HQ : Hid (∀ w', Calls Tryd.prog 16 #[.agg #[.int .i64 (fGen l : Nat), .int .i64 (numI (fR l)), .int .i64 (numI (fN l)), .int .i64 (numI (fD l))]] w' fun e w'' => e = .returned (.bool false) ∧ Below w'.heap.size w' w'') := Lib.hid fun w' => rightR_any _ _ _ _ false (decide_eq_false (fun hh => hX ((numI_right _ _ _ _).1 hh))).symm
  generalize numI (fR l) = y0 at *
  generalize numI (fN l) = y1 at *
  generalize numI (fD l) = y2 at *
  have HB := Lib.hid hB
  clear hl hn hnc hc h h1 h2 hm hX hA hB hD
  generalize fGen l = g at *
  go_enter Tryd.func10, Tryd.ntmps10
  go_wp2_with fail
  rw [← hW0]
  clear hW0
  with_reducible refine HC.out.mono ?_
  intro e w1 hp
  obtain ⟨q, cc, rfl, j1, j2, j3, hb1⟩ := HP.out _ _ hp
  obtain ⟨b, o, rfl, _, _⟩ := j3.at (by rw [HB.out]; omega)
  have hcc : ¬ cc = 24 := by omega
  have H3 := Lib.hid j3
  have hcc8 : ¬ cc = 8 := by omega
  have hcc16 : ¬ cc = 16 := by omega
  have e8 : (8 : Int) ≤ (cc : Int) := by omega
  have e16 : (16 : Int) ≤ (cc : Int) := by omega
  have e24 : (24 : Int) ≤ (cc : Int) := by omega
  have f8 : 8 ≤ cc := by omega
  have f16 : 16 ≤ cc := by omega
  have f24 : 24 ≤ cc := by omega
  have HB1 := Lib.hid hb1
  clear hp HC HP j3 hb1
  go_wp2_with fail
  with_reducible refine (HV.out _ _ _ _ H3.out).mono ?_
  rintro e w2 ⟨rfl, rfl⟩
  have HD0 : Hid (∀ w' c, Below w1.heap.size w1 w' → Calls Tryd.prog 23 #[.slice (some ⟨b, o, none⟩) 8 c] w' fun e w'' => e = .returned (.int .i64 y0) ∧ w' = w'') := Lib.hid fun w' c hb => HV0.out b o _ c (H3.out.below hb)
  have HD1 : Hid (∀ w' c, Below w1.heap.size w1 w' → Calls Tryd.prog 23 #[.slice (some ⟨b, o + 8, none⟩) 8 c] w' fun e w'' => e = .returned (.int .i64 y1) ∧ w' = w'') := Lib.hid fun w' c hb => HV1.out b o _ c (H3.out.below hb)
  have HD2 : Hid (∀ w' c, Below w1.heap.size w1 w' → Calls Tryd.prog 23 #[.slice (some ⟨b, o + 16, none⟩) 8 c] w' fun e w'' => e = .returned (.int .i64 y2) ∧ w' = w'') := Lib.hid fun w' c hb => HV2.out b o _ c (H3.out.below hb)
  clear HV HV0 HV1 HV2 hmi hmt
  go_wp2_with fail
  go_region_held3 (fun _ => True) (exact trivial)
    (first
      | (go_at_call 23; (with_reducible refine (HD0.out _ _ (by first | exact (Below.refl _ _).drew | exact ((Below.refl _ _).alloc (Nat.le_refl _) _).drew)).mono ?_); rintro e w2 ⟨rfl, rfl⟩)
      | (go_at_call 23; (with_reducible refine (HD1.out _ _ (by first | exact (Below.refl _ _).drew | exact ((Below.refl _ _).alloc (Nat.le_refl _) _).drew)).mono ?_); rintro e w2 ⟨rfl, rfl⟩)
      | (go_at_call 23; (with_reducible refine (HD2.out _ _ (by first | exact (Below.refl _ _).drew | exact ((Below.refl _ _).alloc (Nat.le_refl _) _).drew)).mono ?_); rintro e w2 ⟨rfl, rfl⟩))
  all_goals
    obtain ⟨W3, hW3⟩ : ∃ W3, W3 = (w1.alloc (.cells #[.int .i64 (g : Int), .int .i64 y0, .int .i64 y1, .int .i64 y2] 30)).drew := ⟨_, rfl⟩
    rw [← hW3]
    have HB3 : Hid (Below W0.heap.size W0 W3) := Lib.hid (by rw [hW3]; exact (HB1.out.alloc HB1.out.size _).drew)
    have HM : Hid (∀ w', Below W3.heap.size W3 w' → ∀ i, w'.cell? ⟨w1.heap.size, i, none⟩ = (#[.int .i64 (g : Int), .int .i64 y0, .int .i64 y1, .int .i64 y2] : Array Value)[i]? ∧ w'.frozen? ⟨w1.heap.size, i, none⟩ = false) := Lib.hid fun w' hb i => by rw [hW3] at hb; exact mres_cell ((Below.refl _ _).drew.trans hb) i
    have HR3 : Hid (∀ w', Below W3.heap.size W3 w' → ∀ i, w'.cell? ⟨w.heap.size, i, none⟩ = (#[.int .i64 0, .int .i64 0, .int .i64 0, .int .i64 0] : Array Value)[i]? ∧ w'.frozen? ⟨w.heap.size, i, none⟩ = false) := Lib.hid fun w' hb i => HR.out w' (HB3.out.trans (hb.mono HB3.out.size)) i
    have HZ3 : Hid (Below w.heap.size w W3) := Lib.hid (HZ.out.trans (HB3.out.mono HZ.out.size))
    clear hW3 HR HB3 HZ HD0 HD1 HD2 H3 HB1
    obtain ⟨d0, _⟩ := HM.out _ (Below.refl _ _) 0
    obtain ⟨d1, _⟩ := HM.out _ (Below.refl _ _) 1
    obtain ⟨d2, _⟩ := HM.out _ (Below.refl _ _) 2
    obtain ⟨d3, _⟩ := HM.out _ (Below.refl _ _) 3
    replace d0 : W3.cell? ⟨w1.heap.size, 0, none⟩ = some (.int .i64 (g : Int)) := d0
    replace d1 : W3.cell? ⟨w1.heap.size, 1, none⟩ = some (.int .i64 y0) := d1
    replace d2 : W3.cell? ⟨w1.heap.size, 2, none⟩ = some (.int .i64 y1) := d2
    replace d3 : W3.cell? ⟨w1.heap.size, 3, none⟩ = some (.int .i64 y2) := d3
    go_wp2_with fail
    with_reducible refine (HQ.out _).mono ?_
    rintro e w4 ⟨rfl, hb4⟩
    have HB4 := Lib.hid hb4
    obtain ⟨c0, z0⟩ := HR3.out _ hb4 0
    obtain ⟨c1, z1⟩ := HR3.out _ hb4 1
    obtain ⟨c2, z2⟩ := HR3.out _ hb4 2
    obtain ⟨c3, z3⟩ := HR3.out _ hb4 3
    obtain ⟨b0, _⟩ := HM.out _ hb4 0
    obtain ⟨b1, _⟩ := HM.out _ hb4 1
    obtain ⟨b2, _⟩ := HM.out _ hb4 2
    obtain ⟨b3, _⟩ := HM.out _ hb4 3
    clear hb4 HR3 HM d0 d1 d2 d3
    replace c0 : w4.cell? ⟨w.heap.size, 0, none⟩ = some (.int .i64 0) := c0
    replace c1 : w4.cell? ⟨w.heap.size, 1, none⟩ = some (.int .i64 0) := c1
    replace c2 : w4.cell? ⟨w.heap.size, 2, none⟩ = some (.int .i64 0) := c2
    replace c3 : w4.cell? ⟨w.heap.size, 3, none⟩ = some (.int .i64 0) := c3
    replace b0 : w4.cell? ⟨w1.heap.size, 0, none⟩ = some (.int .i64 (g : Int)) := b0
    replace b1 : w4.cell? ⟨w1.heap.size, 1, none⟩ = some (.int .i64 y0) := b1
    replace b2 : w4.cell? ⟨w1.heap.size, 2, none⟩ = some (.int .i64 y1) := b2
    replace b3 : w4.cell? ⟨w1.heap.size, 3, none⟩ = some (.int .i64 y2) := b3
    go_wp2_with fail
    refine bodyPost_ret (v := .tuple #[.agg #[.int .i64 0, .int .i64 0, .int .i64 0, .int .i64 0], .int .i64 11]) (by simp [results, Tryd.results10, go_sem, c0, c1, c2, c3]) rfl ⟨rfl, ?_⟩
    exact ((((HZ3.out.trans (HB4.out.mono HZ3.out.size)).setCell (Nat.le_refl _) _).setCell (Nat.le_refl _) _).setCell (Nat.le_refl _) _).setCell (Nat.le_refl _) _

set_option maxHeartbeats 3200000 in
theorem mopenR_F {w : World} {p : Option Addr} {l : List UInt8} (hl : Bs w p l) {n c : Nat} (hn : n = l.length) (hnc : n ≤ c) (hc : c ≤ 9223372036854775807) (no : Int) (h1 : -9223372036854775808 ≤ no) (h2 : no ≤ 9223372036854775807) (h : openE l no = 0) (hA : l[0]? = some 1) (hB : (fIn l).length = 32) (hC : ((fGen l % 2 : Nat) : Int) = no) (hD : fG l = fGen l) (hX : MRight (fGen l) (fR l) (fN l) (fD l)) :
    Calls Tryd.prog 10 #[.slice p n c, .int .i64 no] w (MOpPost w (fGen l) (fR l) (fN l) (fD l) 0) := by
  obtain ⟨W0, hW0⟩ : ∃ W0, W0 = w.alloc (.cells #[.int .i64 0, .int .i64 0, .int .i64 0, .int .i64 0] 30) := ⟨_, rfl⟩
  have HZ : Hid (Below w.heap.size w W0) := Lib.hid (by rw [hW0]; exact (Below.refl _ _).alloc (Nat.le_refl _) _)
  have HR : Hid (∀ w', Below W0.heap.size W0 w' → ∀ i, w'.cell? ⟨w.heap.size, i, none⟩ = (#[.int .i64 0, .int .i64 0, .int .i64 0, .int .i64 0] : Array Value)[i]? ∧ w'.frozen? ⟨w.heap.size, i, none⟩ = false) := Lib.hid fun w' hb i => by rw [hW0] at hb; exact mres_cell hb i
  have HC := Lib.hid (pOpenR_any (hl.below HZ.out) hn hnc hc no h1 h2)
  have HP : Hid (∀ e w', OpenPost W0 l no e w' → ∃ (q : Option Addr) (cc : Nat), e = .returned (.tuple #[.int .u8 1, .int .i64 (fGen l : Nat), .slice q 32 cc, .int .i64 0]) ∧ 32 ≤ cc ∧ cc ≤ 9223372036854775807 ∧ Bs w' q (fIn l) ∧ Below W0.heap.size W0 w') := Lib.hid fun e w' hp => by
    rcases hp with ⟨h1, _⟩ | ⟨_, u, v, hu, rfl, hv, hb⟩
    · exact absurd h h1
    · obtain ⟨q, cc, rfl, j1, j2, j3, _⟩ := hv.form hB.symm
      rw [hA] at hu
      obtain rfl := Option.some.inj hu
      exact ⟨q, cc, rfl, j1, j2, j3, hb⟩
  have hgm : fGen l ≤ 1152921504606846976 := (openE_zero.1 h).2.2.2.2.2.1
  obtain ⟨m, hm⟩ : ∃ m, m = fGen l % 2 := ⟨_, rfl⟩
  rw [← hm] at hC
  subst hC
  have hmi : (fGen l : Int) % 2 = (m : Int) := by omega
  have hmt : (fGen l : Int).tmod 2 = (m : Int) := by rw [Int.tmod_eq_emod_of_nonneg (by omega)]; exact hmi
  have HV : Hid (∀ (b o : Nat) (w' : World) (c : Nat), Bs w' (some ⟨b, o, none⟩) (fIn l) → Calls Tryd.prog 23 #[.slice (some ⟨b, o + 24, none⟩) 8 c] w' fun e w'' => e = .returned (.int .i64 (numI (fG l))) ∧ w' = w'') := Lib.hid fun b o w' c hb => by
    have h3 := numb_any (c := c) (hb.part 24 8) (sub_length (by omega)).symm
    rw [List.take_of_length_le (by rw [List.length_drop]; omega)] at h3
    exact h3
  rw [hD, numI_low hgm] at HV
  have HV0 : Hid (∀ (b o : Nat) (w' : World) (c : Nat), Bs w' (some ⟨b, o, none⟩) (fIn l) → Calls Tryd.prog 23 #[.slice (some ⟨b, o, none⟩) 8 c] w' fun e w'' => e = .returned (.int .i64 (numI (fR l))) ∧ w' = w'') := Lib.hid fun b o w' c hb => numb_any (c := c) (hb.take 8) (by rw [List.length_take]; omega)
  have HV1 : Hid (∀ (b o : Nat) (w' : World) (c : Nat), Bs w' (some ⟨b, o, none⟩) (fIn l) → Calls Tryd.prog 23 #[.slice (some ⟨b, o + 8, none⟩) 8 c] w' fun e w'' => e = .returned (.int .i64 (numI (fN l))) ∧ w' = w'') := Lib.hid fun b o w' c hb => numb_any (c := c) (hb.part 8 8) (sub_length (by omega)).symm
  have HV2 : Hid (∀ (b o : Nat) (w' : World) (c : Nat), Bs w' (some ⟨b, o, none⟩) (fIn l) → Calls Tryd.prog 23 #[.slice (some ⟨b, o + 16, none⟩) 8 c] w' fun e w'' => e = .returned (.int .i64 (numI (fD l))) ∧ w' = w'') := Lib.hid fun b o w' c hb => numb_any (c := c) (hb.part 16 8) (sub_length (by omega)).symm
  have hb3 := hX.b
  have hb4 : fR l ≤ 1152921504606846976 := by omega
  rw [numI_low hb4] at HV0
  rw [numI_low (by omega)] at HV1 HV2
  have HQ : Hid (∀ w', Calls Tryd.prog 16 #[.agg #[.int .i64 (fGen l : Nat), .int .i64 (fR l : Nat), .int .i64 (fN l : Nat), .int .i64 (fD l : Nat)]] w' fun e w'' => e = .returned (.bool true) ∧ Below w'.heap.size w' w'') := Lib.hid fun w' => rightR_any _ _ _ _ true (decide_eq_true hX).symm
  clear hb3 hb4
  generalize fR l = y0 at *
  generalize fN l = y1 at *
  generalize fD l = y2 at *
  have HB := Lib.hid hB
  clear hl hn hnc hc h h1 h2 hm hX hA hB hD
  generalize fGen l = g at *
  go_enter Tryd.func10, Tryd.ntmps10
  go_wp2_with fail
  rw [← hW0]
  clear hW0
  with_reducible refine HC.out.mono ?_
  intro e w1 hp
  obtain ⟨q, cc, rfl, j1, j2, j3, hb1⟩ := HP.out _ _ hp
  obtain ⟨b, o, rfl, _, _⟩ := j3.at (by rw [HB.out]; omega)
  have hcc : ¬ cc = 24 := by omega
  have H3 := Lib.hid j3
  have hcc8 : ¬ cc = 8 := by omega
  have hcc16 : ¬ cc = 16 := by omega
  have e8 : (8 : Int) ≤ (cc : Int) := by omega
  have e16 : (16 : Int) ≤ (cc : Int) := by omega
  have e24 : (24 : Int) ≤ (cc : Int) := by omega
  have f8 : 8 ≤ cc := by omega
  have f16 : 16 ≤ cc := by omega
  have f24 : 24 ≤ cc := by omega
  have HB1 := Lib.hid hb1
  clear hp HC HP j3 hb1
  go_wp2_with fail
  with_reducible refine (HV.out _ _ _ _ H3.out).mono ?_
  rintro e w2 ⟨rfl, rfl⟩
  have HD0 : Hid (∀ w' c, Below w1.heap.size w1 w' → Calls Tryd.prog 23 #[.slice (some ⟨b, o, none⟩) 8 c] w' fun e w'' => e = .returned (.int .i64 (y0 : Int)) ∧ w' = w'') := Lib.hid fun w' c hb => HV0.out b o _ c (H3.out.below hb)
  have HD1 : Hid (∀ w' c, Below w1.heap.size w1 w' → Calls Tryd.prog 23 #[.slice (some ⟨b, o + 8, none⟩) 8 c] w' fun e w'' => e = .returned (.int .i64 (y1 : Int)) ∧ w' = w'') := Lib.hid fun w' c hb => HV1.out b o _ c (H3.out.below hb)
  have HD2 : Hid (∀ w' c, Below w1.heap.size w1 w' → Calls Tryd.prog 23 #[.slice (some ⟨b, o + 16, none⟩) 8 c] w' fun e w'' => e = .returned (.int .i64 (y2 : Int)) ∧ w' = w'') := Lib.hid fun w' c hb => HV2.out b o _ c (H3.out.below hb)
  clear HV HV0 HV1 HV2 hmi hmt
  go_wp2_with fail
  go_region_held3 (fun _ => True) (exact trivial)
    (first
      | (go_at_call 23; (with_reducible refine (HD0.out _ _ (by first | exact (Below.refl _ _).drew | exact ((Below.refl _ _).alloc (Nat.le_refl _) _).drew)).mono ?_); rintro e w2 ⟨rfl, rfl⟩)
      | (go_at_call 23; (with_reducible refine (HD1.out _ _ (by first | exact (Below.refl _ _).drew | exact ((Below.refl _ _).alloc (Nat.le_refl _) _).drew)).mono ?_); rintro e w2 ⟨rfl, rfl⟩)
      | (go_at_call 23; (with_reducible refine (HD2.out _ _ (by first | exact (Below.refl _ _).drew | exact ((Below.refl _ _).alloc (Nat.le_refl _) _).drew)).mono ?_); rintro e w2 ⟨rfl, rfl⟩))
  all_goals
    obtain ⟨W3, hW3⟩ : ∃ W3, W3 = (w1.alloc (.cells #[.int .i64 (g : Int), .int .i64 (y0 : Int), .int .i64 (y1 : Int), .int .i64 (y2 : Int)] 30)).drew := ⟨_, rfl⟩
    rw [← hW3]
    have HB3 : Hid (Below W0.heap.size W0 W3) := Lib.hid (by rw [hW3]; exact (HB1.out.alloc HB1.out.size _).drew)
    have HM : Hid (∀ w', Below W3.heap.size W3 w' → ∀ i, w'.cell? ⟨w1.heap.size, i, none⟩ = (#[.int .i64 (g : Int), .int .i64 (y0 : Int), .int .i64 (y1 : Int), .int .i64 (y2 : Int)] : Array Value)[i]? ∧ w'.frozen? ⟨w1.heap.size, i, none⟩ = false) := Lib.hid fun w' hb i => by rw [hW3] at hb; exact mres_cell ((Below.refl _ _).drew.trans hb) i
    have HR3 : Hid (∀ w', Below W3.heap.size W3 w' → ∀ i, w'.cell? ⟨w.heap.size, i, none⟩ = (#[.int .i64 0, .int .i64 0, .int .i64 0, .int .i64 0] : Array Value)[i]? ∧ w'.frozen? ⟨w.heap.size, i, none⟩ = false) := Lib.hid fun w' hb i => HR.out w' (HB3.out.trans (hb.mono HB3.out.size)) i
    have HZ3 : Hid (Below w.heap.size w W3) := Lib.hid (HZ.out.trans (HB3.out.mono HZ.out.size))
    clear hW3 HR HB3 HZ HD0 HD1 HD2 H3 HB1
    obtain ⟨d0, _⟩ := HM.out _ (Below.refl _ _) 0
    obtain ⟨d1, _⟩ := HM.out _ (Below.refl _ _) 1
    obtain ⟨d2, _⟩ := HM.out _ (Below.refl _ _) 2
    obtain ⟨d3, _⟩ := HM.out _ (Below.refl _ _) 3
    replace d0 : W3.cell? ⟨w1.heap.size, 0, none⟩ = some (.int .i64 (g : Int)) := d0
    replace d1 : W3.cell? ⟨w1.heap.size, 1, none⟩ = some (.int .i64 (y0 : Int)) := d1
    replace d2 : W3.cell? ⟨w1.heap.size, 2, none⟩ = some (.int .i64 (y1 : Int)) := d2
    replace d3 : W3.cell? ⟨w1.heap.size, 3, none⟩ = some (.int .i64 (y2 : Int)) := d3
    go_wp2_with fail
    with_reducible refine (HQ.out _).mono ?_
    rintro e w4 ⟨rfl, hb4⟩
    have HB4 := Lib.hid hb4
    obtain ⟨c0, z0⟩ := HR3.out _ hb4 0
    obtain ⟨c1, z1⟩ := HR3.out _ hb4 1
    obtain ⟨c2, z2⟩ := HR3.out _ hb4 2
    obtain ⟨c3, z3⟩ := HR3.out _ hb4 3
    obtain ⟨b0, _⟩ := HM.out _ hb4 0
    obtain ⟨b1, _⟩ := HM.out _ hb4 1
    obtain ⟨b2, _⟩ := HM.out _ hb4 2
    obtain ⟨b3, _⟩ := HM.out _ hb4 3
    clear hb4 HR3 HM d0 d1 d2 d3
    replace c0 : w4.cell? ⟨w.heap.size, 0, none⟩ = some (.int .i64 0) := c0
    replace c1 : w4.cell? ⟨w.heap.size, 1, none⟩ = some (.int .i64 0) := c1
    replace c2 : w4.cell? ⟨w.heap.size, 2, none⟩ = some (.int .i64 0) := c2
    replace c3 : w4.cell? ⟨w.heap.size, 3, none⟩ = some (.int .i64 0) := c3
    replace b0 : w4.cell? ⟨w1.heap.size, 0, none⟩ = some (.int .i64 (g : Int)) := b0
    replace b1 : w4.cell? ⟨w1.heap.size, 1, none⟩ = some (.int .i64 (y0 : Int)) := b1
    replace b2 : w4.cell? ⟨w1.heap.size, 2, none⟩ = some (.int .i64 (y1 : Int)) := b2
    replace b3 : w4.cell? ⟨w1.heap.size, 3, none⟩ = some (.int .i64 (y2 : Int)) := b3
    go_wp2_with fail
    refine bodyPost_ret (v := .tuple #[.agg #[.int .i64 (g : Int), .int .i64 (y0 : Int), .int .i64 (y1 : Int), .int .i64 (y2 : Int)], .int .i64 0]) (by simp [results, Tryd.results10, go_sem, c0, c1, c2, c3]) rfl ⟨rfl, ?_⟩
    exact ((((HZ3.out.trans (HB4.out.mono HZ3.out.size)).setCell (Nat.le_refl _) _).setCell (Nat.le_refl _) _).setCell (Nat.le_refl _) _).setCell (Nat.le_refl _) _

theorem mopenR_any {w : World} {p : Option Addr} {l : List UInt8} (hl : Bs w p l) {n c : Nat} (hn : n = l.length) (hnc : n ≤ c) (hc : c ≤ 9223372036854775807) (no : Int) (h1 : -9223372036854775808 ≤ no) (h2 : no ≤ 9223372036854775807) :
    Calls Tryd.prog 10 #[.slice p n c, .int .i64 no] w (MOpPost w (mG l no) (mR l no) (mN l no) (mD l no) (mE l no)) := by
  by_cases h : openE l no = 0
  · by_cases hm : MOk l no
    · have hE := mE_zero.2 ⟨h, hm⟩
      obtain ⟨m1, m2, m3, m4⟩ := m_some hE
      rw [m1, m2, m3, m4, hE]
      obtain ⟨a1, a2, a3, a4, a5⟩ := hm
      exact mopenR_F hl hn hnc hc no h1 h2 h a1 a2 a3 a4 a5
    · have hE := mE_not h hm
      have hne : mE l no ≠ 0 := by rw [hE]; decide
      obtain ⟨m1, m2, m3, m4⟩ := m_none hne
      rw [m1, m2, m3, m4, hE]
      by_cases a1 : l[0]? = some 1
      · by_cases a2 : (fIn l).length = 32
        · by_cases a3 : ((fGen l % 2 : Nat) : Int) = no
          · by_cases a4 : fG l = fGen l
            · by_cases a5 : MRight (fGen l) (fR l) (fN l) (fD l)
              · exact absurd ⟨a1, a2, a3, a4, a5⟩ hm
              · exact mopenR_E hl hn hnc hc no h1 h2 h a1 a2 a3 a4 a5
            · exact mopenR_D hl hn hnc hc no h1 h2 h a1 a2 a3 a4
          · exact mopenR_C hl hn hnc hc no h1 h2 h a1 a2 a3
        · exact mopenR_B hl hn hnc hc no h1 h2 h a1 a2
      · exact mopenR_A hl hn hnc hc no h1 h2 h a1
  · have hE := mE_bad h
    have hne : mE l no ≠ 0 := by rw [hE]; exact h
    obtain ⟨m1, m2, m3, m4⟩ := m_none hne
    rw [m1, m2, m3, m4, hE]
    exact mopenR_err hl hn hnc hc no h1 h2 h

end Go.Proofs.YtpklapgcdilghaaDoor
