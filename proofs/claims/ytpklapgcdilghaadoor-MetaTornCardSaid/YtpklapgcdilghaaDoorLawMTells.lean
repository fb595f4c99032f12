/-
  The law MetaTells: the walk.
-/
import Derived.Test.YtpklapgcdilghaaDoorMtNewR
set_option linter.unusedVariables false
set_option maxRecDepth 100000
namespace Go.Proofs.YtpklapgcdilghaaDoor
open Go.RowKit

/-- What Seal tells, written out. -/
def MSU (w : World) (m : Nat) (x : List UInt8) (no E : Int) (e : Ending) (w' : World) : Prop := ∃ q c, e = .returned (.tuple #[.slice q m c, .int .i64 no, .int .i64 E]) ∧ Bs w' q x ∧ Below w.heap.size w w'
theorem mseal_both (g r n d : Int) : ∃ (m : Nat) (x : List UInt8) (no E : Int), m = x.length ∧
    (∀ w, Tab w → Calls Tryd.prog 7 #[.agg #[.int .i64 g, .int .i64 r, .int .i64 n, .int .i64 d]] w (MSU w m x no E)) ∧
    (∀ w, Calls Tryd.prog 8 #[.agg #[.int .i64 g, .int .i64 r, .int .i64 n, .int .i64 d]] w (MSU w m x no E)) := by
  by_cases h : MRight g r n d
  · obtain ⟨g', r', n', d', rfl, rfl, rfl, rfl⟩ := h.nat
    have e : ∀ w e w', MSealPost w (mPage g' r' n' d') (g' % 2) e w' → MSU w 512 (mPage g' r' n' d') ((g' % 2 : Nat) : Int) 0 e w' := by
      rintro w e w' ⟨v, rfl, hv, hb⟩
      obtain ⟨q, c, rfl, _, _, h3, _⟩ := hv.form (mPage_length g' r' n' d').symm
      exact ⟨q, c, rfl, h3, hb⟩
    exact ⟨512, mPage g' r' n' d', _, 0, (mPage_length _ _ _ _).symm, fun w hT => (mseal_ok hT h).mono fun a b => e w a b, fun w => (msealR_ok h).mono fun a b => e w a b⟩
  · have e : ∀ w e w', MSealBad w e w' → MSU w 0 [] 0 2 e w' := by
      rintro w e w' ⟨rfl, hb⟩
      exact ⟨none, 0, rfl, Bs.nil _ _, hb⟩
    exact ⟨0, [], 0, 2, rfl, fun w _ => (mseal_bad g r n d h).mono fun a b => e w a b, fun w => (msealR_bad g r n d h).mono fun a b => e w a b⟩
theorem mseal_four {w : World} (hT : Tab w) {g r n d : Nat} (h : MRight g r n d) : Calls Tryd.prog 7 #[.agg #[.int .i64 (g : Int), .int .i64 (r : Int), .int .i64 (n : Int), .int .i64 (d : Int)]] w (MSU w 512 (mPage g r n d) ((g % 2 : Nat) : Int) 0) :=
  (mseal_ok hT h).mono fun a b => by
    rintro ⟨v, rfl, hv, hb⟩
    obtain ⟨q, c, rfl, _, _, h3, _⟩ := hv.form (mPage_length g r n d).symm
    exact ⟨q, c, rfl, h3, hb⟩

theorem box_below {w W : World} {o : Obj} (h : W = w.alloc o) : Below w.heap.size w W := by
  subst h
  exact (Below.refl _ _).alloc (Nat.le_refl _) _

set_option maxHeartbeats 3200000 in
theorem mtells_short {w : World} (hT : Tab w) (g r n d : Int) {p : Option Addr} {l : List UInt8} (hl : Bs w p l) {k c : Nat} (hk : k = l.length) (hkc : k ≤ c) (hc : c ≤ 9223372036854775807) (no : Int) (h1 : -9223372036854775808 ≤ no) (h2 : no ≤ 9223372036854775807) (h6 : k ≤ 600) :
    Calls Tryd.prog 3 #[.agg #[.int .i64 g, .int .i64 r, .int .i64 n, .int .i64 d], .slice p k c, .int .i64 no] w fun e w' => e = .returned (.bool true) ∧ Below w.heap.size w w' := by
  obtain ⟨m, x, sn, sE, hm, hS, hSR⟩ := mseal_both g r n d
  have HT : Hid (∀ w', Below w.heap.size w w' → Tab w') := Lib.hid fun w' hb => hT.below hT.lt hb
  obtain ⟨y, hy⟩ : ∃ y, y = l := ⟨_, rfl⟩
  have hyl : k = y.length := by rw [hy]; omega
  have hyb : Bs w p y := by rw [hy]; exact hl
  have HO : Hid (∀ w', Below w.heap.size w w' → Calls Tryd.prog 9 #[.slice p k c, .int .i64 no] w' (MOpPost w' (mG y no) (mR y no) (mN y no) (mD y no) (mE y no))) := Lib.hid fun w' hb => mopen_any (HT.out w' hb) (hyb.below hb) hyl (by omega) hc no
  have HOR : Hid (∀ w', Below w.heap.size w w' → Calls Tryd.prog 10 #[.slice p k c, .int .i64 no] w' (MOpPost w' (mG y no) (mR y no) (mN y no) (mD y no) (mE y no))) := Lib.hid fun w' hb => mopenR_any (hyb.below hb) hyl (by omega) hc no h1 h2
  have HF : Hid (∀ w', Below w.heap.size w w' → Calls Tryd.prog 7 #[.agg #[.int .i64 3, .int .i64 5, .int .i64 7, .int .i64 9]] w' (MSU w' 512 (mPage 3 5 7 9) 1 0)) := Lib.hid fun w' hb => mseal_four (HT.out w' hb) (g := 3) (r := 5) (n := 7) (d := 9) (MRight.mk' (by omega))
  have HS := Lib.hid hS
  have HSR := Lib.hid hSR
  have HM := Lib.hid hm
  clear hT hl hk hS hSR hm hyl hyb h1 h2
  generalize mG y no = G at *
  generalize mR y no = R at *
  generalize mN y no = N at *
  generalize mD y no = D at *
  generalize mE y no = E at *
  clear hy
  generalize mPage 3 5 7 9 = z at *
  obtain ⟨W0, hW0⟩ : ∃ W0, W0 = w.alloc (.cells #[.int .i64 g, .int .i64 r, .int .i64 n, .int .i64 d] 23) := ⟨_, rfl⟩
  have HZ0 : Hid (Below w.heap.size w W0) := Lib.hid (box_below hW0)
  have HK : Hid (∀ w', Below W0.heap.size W0 w' → ∀ i, w'.cell? ⟨w.heap.size, i, none⟩ = (#[.int .i64 g, .int .i64 r, .int .i64 n, .int .i64 d] : Array Value)[i]? ∧ w'.frozen? ⟨w.heap.size, i, none⟩ = false) := Lib.hid fun w' hb i => by rw [hW0] at hb; exact mres_cell hb i
  go_enter Tryd.func3, Tryd.ntmps3
  go_wp2_with fail
  rw [← hW0]
  clear hW0
  with_reducible refine (HS.out W0 (HT.out _ HZ0.out)).mono ?_
  rintro e w1 ⟨q1, d1, rfl, s1, hb1⟩
  have HB1 : Hid (Below W0.heap.size W0 w1) := Lib.hid hb1
  have HS1 := Lib.hid s1
  have k0 : w1.cell? ⟨w.heap.size, 0, none⟩ = some (.int .i64 g) := (HK.out _ hb1 0).1
  have k1 : w1.cell? ⟨w.heap.size, 1, none⟩ = some (.int .i64 r) := (HK.out _ hb1 1).1
  have k2 : w1.cell? ⟨w.heap.size, 2, none⟩ = some (.int .i64 n) := (HK.out _ hb1 2).1
  have k3 : w1.cell? ⟨w.heap.size, 3, none⟩ = some (.int .i64 d) := (HK.out _ hb1 3).1
  clear s1 hb1 HS
  go_wp2_with fail
  with_reducible refine (HSR.out w1).mono ?_
  rintro e w2 ⟨q2, d2, rfl, s2, hb2⟩
  have HS2 := Lib.hid s2
  have HS1b : Hid (Bs w2 q1 x) := Lib.hid (HS1.out.below hb2)
  have HZ2 : Hid (Below w.heap.size w w2) := Lib.hid ((HZ0.out.trans (HB1.out.mono HZ0.out.size)).trans (hb2.mono (HZ0.out.trans (HB1.out.mono HZ0.out.size)).size))
  clear s2 hb2 HSR HS1 HB1 HZ0 HK k0 k1 k2 k3
  go_wp2_with fail
  with_reducible refine (HO.out w2 HZ2.out).mono ?_
  rintro e w3 ⟨rfl, hb3⟩
  have HS1c : Hid (Bs w3 q1 x) := Lib.hid (HS1b.out.below hb3)
  have HS2c : Hid (Bs w3 q2 x) := Lib.hid (HS2.out.below hb3)
  have HZ3 : Hid (Below w.heap.size w w3) := Lib.hid (HZ2.out.trans (hb3.mono HZ2.out.size))
  clear hb3 HO HS1b HS2 HZ2
  go_wp2_with fail
  obtain ⟨W3, hW3⟩ : ∃ W3, W3 = w3.alloc (.cells #[.int .i64 (G : Int), .int .i64 (R : Int), .int .i64 (N : Int), .int .i64 (D : Int)] 23) := ⟨_, rfl⟩
  rw [← hW3]
  have HZ3' : Hid (Below w.heap.size w W3) := Lib.hid (HZ3.out.trans ((box_below hW3).mono HZ3.out.size))
  have HMa : Hid (∀ w', Below W3.heap.size W3 w' → ∀ i, w'.cell? ⟨w3.heap.size, i, none⟩ = (#[.int .i64 (G : Int), .int .i64 (R : Int), .int .i64 (N : Int), .int .i64 (D : Int)] : Array Value)[i]? ∧ w'.frozen? ⟨w3.heap.size, i, none⟩ = false) := Lib.hid fun w' hb i => by rw [hW3] at hb; exact mres_cell hb i
  have HS1d : Hid (Bs W3 q1 x) := Lib.hid (HS1c.out.below (box_below hW3))
  have HS2d : Hid (Bs W3 q2 x) := Lib.hid (HS2c.out.below (box_below hW3))
  clear hW3 HZ3 HS1c HS2c
  with_reducible refine (HOR.out W3 HZ3'.out).mono ?_
  rintro e w4 ⟨rfl, hb4⟩
  have HB4 := Lib.hid hb4
  clear hb4 HOR
  go_wp2_with fail
  obtain ⟨W4, hW4⟩ : ∃ W4, W4 = w4.alloc (.cells #[.int .i64 (G : Int), .int .i64 (R : Int), .int .i64 (N : Int), .int .i64 (D : Int)] 30) := ⟨_, rfl⟩
  rw [← hW4]
  have HB4' : Hid (Below W3.heap.size W3 W4) := Lib.hid (HB4.out.trans ((box_below hW4).mono HB4.out.size))
  have HMb : Hid (∀ w', Below W4.heap.size W4 w' → ∀ i, w'.cell? ⟨w4.heap.size, i, none⟩ = (#[.int .i64 (G : Int), .int .i64 (R : Int), .int .i64 (N : Int), .int .i64 (D : Int)] : Array Value)[i]? ∧ w'.frozen? ⟨w4.heap.size, i, none⟩ = false) := Lib.hid fun w' hb i => by rw [hW4] at hb; exact mres_cell hb i
  clear hW4 HB4
  have HZ4 : Hid (Below w.heap.size w W4) := Lib.hid (HZ3'.out.trans (HB4'.out.mono HZ3'.out.size))
  with_reducible refine (HF.out W4 HZ4.out).mono ?_
  rintro e w5 ⟨q5, d5, rfl, s5, hb5⟩
  have HB5 : Hid (Below W3.heap.size W3 w5) := Lib.hid (HB4'.out.trans (hb5.mono HB4'.out.size))
  have HZ5 : Hid (Below w.heap.size w w5) := Lib.hid (HZ4.out.trans (hb5.mono HZ4.out.size))
  have a0 : w5.cell? ⟨w3.heap.size, 0, none⟩ = some (.int .i64 (G : Int)) := (HMa.out _ HB5.out 0).1
  have a1 : w5.cell? ⟨w3.heap.size, 1, none⟩ = some (.int .i64 (R : Int)) := (HMa.out _ HB5.out 1).1
  have a2 : w5.cell? ⟨w3.heap.size, 2, none⟩ = some (.int .i64 (N : Int)) := (HMa.out _ HB5.out 2).1
  have a3 : w5.cell? ⟨w3.heap.size, 3, none⟩ = some (.int .i64 (D : Int)) := (HMa.out _ HB5.out 3).1
  have b0 : w5.cell? ⟨w4.heap.size, 0, none⟩ = some (.int .i64 (G : Int)) := (HMb.out _ hb5 0).1
  have b1 : w5.cell? ⟨w4.heap.size, 1, none⟩ = some (.int .i64 (R : Int)) := (HMb.out _ hb5 1).1
  have b2 : w5.cell? ⟨w4.heap.size, 2, none⟩ = some (.int .i64 (N : Int)) := (HMb.out _ hb5 2).1
  have b3 : w5.cell? ⟨w4.heap.size, 3, none⟩ = some (.int .i64 (D : Int)) := (HMb.out _ hb5 3).1
  have t1 := str_of (HS1d.out.below HB5.out) (c := d1) HM.out
  have t2 := str_of (HS2d.out.below HB5.out) (c := d2) HM.out
  clear s5 hb5 HF HMa HMb HS1d HS2d HB5 HB4' HZ3' HZ4 HM HT
  go_wp2
  go_ret
  exact ⟨rfl, HZ5.out⟩

set_option maxHeartbeats 3200000 in
theorem mtells_long {w : World} (hT : Tab w) (g r n d : Int) {p : Option Addr} {l : List UInt8} (hl : Bs w p l) {k c : Nat} (hk : k = l.length) (hkc : k ≤ c) (hc : c ≤ 9223372036854775807) (no : Int) (h1 : -9223372036854775808 ≤ no) (h2 : no ≤ 9223372036854775807) (h6 : 600 < k) :
    Calls Tryd.prog 3 #[.agg #[.int .i64 g, .int .i64 r, .int .i64 n, .int .i64 d], .slice p k c, .int .i64 no] w fun e w' => e = .returned (.bool true) ∧ Below w.heap.size w w' := by
  obtain ⟨m, x, sn, sE, hm, hS, hSR⟩ := mseal_both g r n d
  have HT : Hid (∀ w', Below w.heap.size w w' → Tab w') := Lib.hid fun w' hb => hT.below hT.lt hb
  obtain ⟨y, hy⟩ : ∃ y, y = l.take 600 := ⟨_, rfl⟩
  have hyl : 600 = y.length := by rw [hy, List.length_take]; omega
  have hyb : Bs w p y := by rw [hy]; exact hl.take 600
  have HO : Hid (∀ w', Below w.heap.size w w' → Calls Tryd.prog 9 #[.slice p 600 c, .int .i64 no] w' (MOpPost w' (mG y no) (mR y no) (mN y no) (mD y no) (mE y no))) := Lib.hid fun w' hb => mopen_any (HT.out w' hb) (hyb.below hb) hyl (by omega) hc no
  have HOR : Hid (∀ w', Below w.heap.size w w' → Calls Tryd.prog 10 #[.slice p 600 c, .int .i64 no] w' (MOpPost w' (mG y no) (mR y no) (mN y no) (mD y no) (mE y no))) := Lib.hid fun w' hb => mopenR_any (hyb.below hb) hyl (by omega) hc no h1 h2
  have HF : Hid (∀ w', Below w.heap.size w w' → Calls Tryd.prog 7 #[.agg #[.int .i64 3, .int .i64 5, .int .i64 7, .int .i64 9]] w' (MSU w' 512 (mPage 3 5 7 9) 1 0)) := Lib.hid fun w' hb => mseal_four (HT.out w' hb) (g := 3) (r := 5) (n := 7) (d := 9) (MRight.mk' (by omega))
  have HS := Lib.hid hS
  have HSR := Lib.hid hSR
  have HM := Lib.hid hm
  clear hT hl hk hS hSR hm hyl hyb h1 h2
  generalize mG y no = G at *
  generalize mR y no = R at *
  generalize mN y no = N at *
  generalize mD y no = D at *
  generalize mE y no = E at *
  clear hy
  generalize mPage 3 5 7 9 = z at *
  obtain ⟨W0, hW0⟩ : ∃ W0, W0 = w.alloc (.cells #[.int .i64 g, .int .i64 r, .int .i64 n, .int .i64 d] 23) := ⟨_, rfl⟩
  have HZ0 : Hid (Below w.heap.size w W0) := Lib.hid (box_below hW0)
  have HK : Hid (∀ w', Below W0.heap.size W0 w' → ∀ i, w'.cell? ⟨w.heap.size, i, none⟩ = (#[.int .i64 g, .int .i64 r, .int .i64 n, .int .i64 d] : Array Value)[i]? ∧ w'.frozen? ⟨w.heap.size, i, none⟩ = false) := Lib.hid fun w' hb i => by rw [hW0] at hb; exact mres_cell hb i
  go_enter Tryd.func3, Tryd.ntmps3
  go_wp2_with fail
  rw [← hW0]
  clear hW0
  with_reducible refine (HS.out W0 (HT.out _ HZ0.out)).mono ?_
  rintro e w1 ⟨q1, d1, rfl, s1, hb1⟩
  have HB1 : Hid (Below W0.heap.size W0 w1) := Lib.hid hb1
  have HS1 := Lib.hid s1
  have k0 : w1.cell? ⟨w.heap.size, 0, none⟩ = some (.int .i64 g) := (HK.out _ hb1 0).1
  have k1 : w1.cell? ⟨w.heap.size, 1, none⟩ = some (.int .i64 r) := (HK.out _ hb1 1).1
  have k2 : w1.cell? ⟨w.heap.size, 2, none⟩ = some (.int .i64 n) := (HK.out _ hb1 2).1
  have k3 : w1.cell? ⟨w.heap.size, 3, none⟩ = some (.int .i64 d) := (HK.out _ hb1 3).1
  clear s1 hb1 HS
  go_wp2_with fail
  with_reducible refine (HSR.out w1).mono ?_
  rintro e w2 ⟨q2, d2, rfl, s2, hb2⟩
  have HS2 := Lib.hid s2
  have HS1b : Hid (Bs w2 q1 x) := Lib.hid (HS1.out.below hb2)
  have HZ2 : Hid (Below w.heap.size w w2) := Lib.hid ((HZ0.out.trans (HB1.out.mono HZ0.out.size)).trans (hb2.mono (HZ0.out.trans (HB1.out.mono HZ0.out.size)).size))
  clear s2 hb2 HSR HS1 HB1 HZ0 HK k0 k1 k2 k3
  go_wp2_with fail
  with_reducible refine (HO.out w2 HZ2.out).mono ?_
  rintro e w3 ⟨rfl, hb3⟩
  have HS1c : Hid (Bs w3 q1 x) := Lib.hid (HS1b.out.below hb3)
  have HS2c : Hid (Bs w3 q2 x) := Lib.hid (HS2.out.below hb3)
  have HZ3 : Hid (Below w.heap.size w w3) := Lib.hid (HZ2.out.trans (hb3.mono HZ2.out.size))
  clear hb3 HO HS1b HS2 HZ2
  go_wp2_with fail
  obtain ⟨W3, hW3⟩ : ∃ W3, W3 = w3.alloc (.cells #[.int .i64 (G : Int), .int .i64 (R : Int), .int .i64 (N : Int), .int .i64 (D : Int)] 23) := ⟨_, rfl⟩
  rw [← hW3]
  have HZ3' : Hid (Below w.heap.size w W3) := Lib.hid (HZ3.out.trans ((box_below hW3).mono HZ3.out.size))
  have HMa : Hid (∀ w', Below W3.heap.size W3 w' → ∀ i, w'.cell? ⟨w3.heap.size, i, none⟩ = (#[.int .i64 (G : Int), .int .i64 (R : Int), .int .i64 (N : Int), .int .i64 (D : Int)] : Array Value)[i]? ∧ w'.frozen? ⟨w3.heap.size, i, none⟩ = false) := Lib.hid fun w' hb i => by rw [hW3] at hb; exact mres_cell hb i
  have HS1d : Hid (Bs W3 q1 x) := Lib.hid (HS1c.out.below (box_below hW3))
  have HS2d : Hid (Bs W3 q2 x) := Lib.hid (HS2c.out.below (box_below hW3))
  clear hW3 HZ3 HS1c HS2c
  with_reducible refine (HOR.out W3 HZ3'.out).mono ?_
  rintro e w4 ⟨rfl, hb4⟩
  have HB4 := Lib.hid hb4
  clear hb4 HOR
  go_wp2_with fail
  obtain ⟨W4, hW4⟩ : ∃ W4, W4 = w4.alloc (.cells #[.int .i64 (G : Int), .int .i64 (R : Int), .int .i64 (N : Int), .int .i64 (D : Int)] 30) := ⟨_, rfl⟩
  rw [← hW4]
  have HB4' : Hid (Below W3.heap.size W3 W4) := Lib.hid (HB4.out.trans ((box_below hW4).mono HB4.out.size))
  have HMb : Hid (∀ w', Below W4.heap.size W4 w' → ∀ i, w'.cell? ⟨w4.heap.size, i, none⟩ = (#[.int .i64 (G : Int), .int .i64 (R : Int), .int .i64 (N : Int), .int .i64 (D : Int)] : Array Value)[i]? ∧ w'.frozen? ⟨w4.heap.size, i, none⟩ = false) := Lib.hid fun w' hb i => by rw [hW4] at hb; exact mres_cell hb i
  clear hW4 HB4
  have HZ4 : Hid (Below w.heap.size w W4) := Lib.hid (HZ3'.out.trans (HB4'.out.mono HZ3'.out.size))
  with_reducible refine (HF.out W4 HZ4.out).mono ?_
  rintro e w5 ⟨q5, d5, rfl, s5, hb5⟩
  have HB5 : Hid (Below W3.heap.size W3 w5) := Lib.hid (HB4'.out.trans (hb5.mono HB4'.out.size))
  have HZ5 : Hid (Below w.heap.size w w5) := Lib.hid (HZ4.out.trans (hb5.mono HZ4.out.size))
  have a0 : w5.cell? ⟨w3.heap.size, 0, none⟩ = some (.int .i64 (G : Int)) := (HMa.out _ HB5.out 0).1
  have a1 : w5.cell? ⟨w3.heap.size, 1, none⟩ = some (.int .i64 (R : Int)) := (HMa.out _ HB5.out 1).1
  have a2 : w5.cell? ⟨w3.heap.size, 2, none⟩ = some (.int .i64 (N : Int)) := (HMa.out _ HB5.out 2).1
  have a3 : w5.cell? ⟨w3.heap.size, 3, none⟩ = some (.int .i64 (D : Int)) := (HMa.out _ HB5.out 3).1
  have b0 : w5.cell? ⟨w4.heap.size, 0, none⟩ = some (.int .i64 (G : Int)) := (HMb.out _ hb5 0).1
  have b1 : w5.cell? ⟨w4.heap.size, 1, none⟩ = some (.int .i64 (R : Int)) := (HMb.out _ hb5 1).1
  have b2 : w5.cell? ⟨w4.heap.size, 2, none⟩ = some (.int .i64 (N : Int)) := (HMb.out _ hb5 2).1
  have b3 : w5.cell? ⟨w4.heap.size, 3, none⟩ = some (.int .i64 (D : Int)) := (HMb.out _ hb5 3).1
  have t1 := str_of (HS1d.out.below HB5.out) (c := d1) HM.out
  have t2 := str_of (HS2d.out.below HB5.out) (c := d2) HM.out
  clear s5 hb5 HF HMa HMb HS1d HS2d HB5 HB4' HZ3' HZ4 HM HT
  go_wp2
  go_ret
  exact ⟨rfl, HZ5.out⟩

theorem lawMTells_any {w : World} (hT : Tab w) (g r n d : Int) {p : Option Addr} {l : List UInt8} (hl : Bs w p l) {k c : Nat} (hk : k = l.length) (hkc : k ≤ c) (hc : c ≤ 9223372036854775807) (no : Int) (h1 : -9223372036854775808 ≤ no) (h2 : no ≤ 9223372036854775807) :
    Calls Tryd.prog 3 #[.agg #[.int .i64 g, .int .i64 r, .int .i64 n, .int .i64 d], .slice p k c, .int .i64 no] w fun e w' => e = .returned (.bool true) ∧ Below w.heap.size w w' := by
  by_cases h : k ≤ 600
  · exact mtells_short hT g r n d hl hk hkc hc no h1 h2 h
  · exact mtells_long hT g r n d hl hk hkc hc no h1 h2 (by omega)

end Go.Proofs.YtpklapgcdilghaaDoor
