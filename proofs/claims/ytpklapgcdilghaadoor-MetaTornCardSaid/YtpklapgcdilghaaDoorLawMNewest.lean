/-
  The law MetaNewest: the walk.
-/
import Derived.Test.YtpklapgcdilghaaDoorLawMTells
set_option linter.unusedVariables false
set_option maxRecDepth 100000
namespace Go.Proofs.YtpklapgcdilghaaDoor
open Go.RowKit

theorem msealR_four {w : World} {g r n d : Nat} (h : MRight g r n d) : Calls Tryd.prog 8 #[.agg #[.int .i64 (g : Int), .int .i64 (r : Int), .int .i64 (n : Int), .int .i64 (d : Int)]] w (MSU w 512 (mPage g r n d) ((g % 2 : Nat) : Int) 0) :=
  (msealR_ok h).mono fun a b => by
    rintro ⟨v, rfl, hv, hb⟩
    obtain ⟨q, c, rfl, _, _, h3, _⟩ := hv.form (mPage_length g r n d).symm
    exact ⟨q, c, rfl, h3, hb⟩
/-- With where it lies: never nil, its capacity is not less. -/
def MSQ (w : World) (m : Nat) (x : List UInt8) (no E : Int) (e : Ending) (w' : World) : Prop := ∃ q c, e = .returned (.tuple #[.slice q m c, .int .i64 no, .int .i64 E]) ∧ Bs w' q x ∧ m ≤ c ∧ c ≤ 9223372036854775807 ∧ Below w.heap.size w w'
theorem msealR_q {w : World} {g r n d : Nat} (h : MRight g r n d) : Calls Tryd.prog 8 #[.agg #[.int .i64 (g : Int), .int .i64 (r : Int), .int .i64 (n : Int), .int .i64 (d : Int)]] w (MSQ w 512 (mPage g r n d) ((g % 2 : Nat) : Int) 0) :=
  (msealR_ok h).mono fun a b => by
    rintro ⟨v, rfl, hv, hb⟩
    obtain ⟨q, c, rfl, h1, h2, h3, _⟩ := hv.form (mPage_length g r n d).symm
    exact ⟨q, c, rfl, h3, h1, h2, hb⟩
theorem mseal_q {w : World} (hT : Tab w) {g r n d : Nat} (h : MRight g r n d) : Calls Tryd.prog 7 #[.agg #[.int .i64 (g : Int), .int .i64 (r : Int), .int .i64 (n : Int), .int .i64 (d : Int)]] w (MSQ w 512 (mPage g r n d) ((g % 2 : Nat) : Int) 0) :=
  (mseal_ok hT h).mono fun a b => by
    rintro ⟨v, rfl, hv, hb⟩
    obtain ⟨q, c, rfl, h1, h2, h3, _⟩ := hv.form (mPage_length g r n d).symm
    exact ⟨q, c, rfl, h3, h1, h2, hb⟩
/-- The newest one of a page and none. -/
theorem new_left {g r n d : Nat} (h : MRight g r n d) (hg : g % 2 = 0) : newG (mPage g r n d) [] = g ∧ newR (mPage g r n d) [] = r ∧ newN (mPage g r n d) [] = n ∧ newD (mPage g r n d) [] = d := by
  obtain ⟨_, a1, a2, a3, a4⟩ := page_is h (no := 0) (by omega)
  obtain ⟨b1, b2, b3, b4⟩ := nil_not 1
  unfold newG newR newN newD
  rw [a1, a2, a3, a4, b1, b2, b3, b4]
  simp

set_option maxHeartbeats 3200000 in
theorem mnew_0 {w : World} (hT : Tab w) {p : Option Addr} {a : List UInt8} (ha : Bs w p a) {n c : Nat} (hn : n = a.length) (hnc : n ≤ c) (hc : c ≤ 9223372036854775807)
    {q : Option Addr} {b : List UInt8} (hb : Bs w q b) {k d : Nat} (hk : k = b.length) (hkd : k ≤ d) (hd : d ≤ 9223372036854775807) (h6 : n ≤ 600) (h7 : k ≤ 600) :
    Calls Tryd.prog 4 #[.slice p n c, .slice q k d] w fun e w' => e = .returned (.bool true) ∧ Below w.heap.size w w' := by
  have HT : Hid (∀ w', Below w.heap.size w w' → Tab w') := Lib.hid fun w' hb => hT.below hT.lt hb
  obtain ⟨x, hx⟩ : ∃ x, x = a := ⟨_, rfl⟩
  have hxl : n = x.length := by rw [hx]; omega
  have hxb : Bs w p x := by rw [hx]; exact ha
  obtain ⟨y, hy⟩ : ∃ y, y = b := ⟨_, rfl⟩
  have hyl : k = y.length := by rw [hy]; omega
  have hyb : Bs w q y := by rw [hy]; exact hb
  have HO : Hid (∀ w', Below w.heap.size w w' → Calls Tryd.prog 11 #[.slice p n c, .slice q k d] w' (MNewPost w' (newG x y) (newR x y) (newN x y) (newD x y))) := Lib.hid fun w' hb => mNewest_any (HT.out w' hb) (hxb.below hb) hxl (by omega) hc (hyb.below hb) hyl (by omega) hd
  have HOR : Hid (∀ w', Below w.heap.size w w' → Calls Tryd.prog 12 #[.slice p n c, .slice q k d] w' (MNewPost w' (newG x y) (newR x y) (newN x y) (newD x y))) := Lib.hid fun w' hb => mNewestR_any (hxb.below hb) hxl (by omega) hc (hyb.below hb) hyl (by omega) hd
  have HF : Hid (∀ w', Calls Tryd.prog 8 #[.agg #[.int .i64 4, .int .i64 0, .int .i64 1, .int .i64 1]] w' (MSQ w' 512 (mPage 4 0 1 1) 0 0)) := Lib.hid fun w' => msealR_q (g := 4) (r := 0) (n := 1) (d := 1) (MRight.mk' (by omega))
  have HN : Hid (∀ w' q c, Below w.heap.size w w' → Bs w' q (mPage 4 0 1 1) → 512 ≤ c → c ≤ 9223372036854775807 → Calls Tryd.prog 11 #[.slice q 512 c, .slice none 0 0] w' (MNewPost w' 4 0 1 1)) := Lib.hid fun w' q c hb hq h1 h2 => by
    have h3 := mNewest_any (HT.out w' hb) hq (mPage_length 4 0 1 1).symm h1 h2 (Bs.nil w' none) (k := 0) (d := 0) rfl (by omega) (by omega)
    obtain ⟨e1, e2, e3, e4⟩ := new_left (g := 4) (r := 0) (n := 1) (d := 1) (MRight.mk' (by omega)) rfl
    rw [e1, e2, e3, e4] at h3
    exact h3
  clear hT ha hn hb hk hxl hyl hxb hyb
  generalize newG x y = G at *
  generalize newR x y = R at *
  generalize newN x y = N at *
  generalize newD x y = D at *
  generalize mPage 4 0 1 1 = z at *
  clear hx hy
  generalize hok : decide (G ≠ 0) = ok at *
  go_enter Tryd.func4, Tryd.ntmps4
  go_wp2_with fail
  with_reducible refine (HO.out w (Below.refl _ _)).mono ?_
  rintro e w3 ⟨rfl, hb3⟩
  have HZ3 := Lib.hid hb3
  rw [hok]
  clear hb3 HO
  go_wp2_with fail
  obtain ⟨W3, hW3⟩ : ∃ W3, W3 = w3.alloc (.cells #[.int .i64 (G : Int), .int .i64 (R : Int), .int .i64 (N : Int), .int .i64 (D : Int)] 23) := ⟨_, rfl⟩
  rw [← hW3]
  have HZ3' : Hid (Below w.heap.size w W3) := Lib.hid (HZ3.out.trans ((box_below hW3).mono HZ3.out.size))
  have HMa : Hid (∀ w', Below W3.heap.size W3 w' → ∀ i, w'.cell? ⟨w3.heap.size, i, none⟩ = (#[.int .i64 (G : Int), .int .i64 (R : Int), .int .i64 (N : Int), .int .i64 (D : Int)] : Array Value)[i]? ∧ w'.frozen? ⟨w3.heap.size, i, none⟩ = false) := Lib.hid fun w' hb i => by rw [hW3] at hb; exact mres_cell hb i
  clear hW3 HZ3
  with_reducible refine (HOR.out W3 HZ3'.out).mono ?_
  rintro e w4 ⟨rfl, hb4⟩
  have HB4 := Lib.hid hb4
  rw [hok]
  clear hb4 HOR
  go_wp2_with fail
  obtain ⟨W4, hW4⟩ : ∃ W4, W4 = w4.alloc (.cells #[.int .i64 (G : Int), .int .i64 (R : Int), .int .i64 (N : Int), .int .i64 (D : Int)] 30) := ⟨_, rfl⟩
  rw [← hW4]
  have HB4' : Hid (Below W3.heap.size W3 W4) := Lib.hid (HB4.out.trans ((box_below hW4).mono HB4.out.size))
  have HMb : Hid (∀ w', Below W4.heap.size W4 w' → ∀ i, w'.cell? ⟨w4.heap.size, i, none⟩ = (#[.int .i64 (G : Int), .int .i64 (R : Int), .int .i64 (N : Int), .int .i64 (D : Int)] : Array Value)[i]? ∧ w'.frozen? ⟨w4.heap.size, i, none⟩ = false) := Lib.hid fun w' hb i => by rw [hW4] at hb; exact mres_cell hb i
  clear hW4 HB4
  have HZ4 : Hid (Below w.heap.size w W4) := Lib.hid (HZ3'.out.trans (HB4'.out.mono HZ3'.out.size))
  with_reducible refine (HF.out W4).mono ?_
  rintro e w5 ⟨q5, d5, rfl, s5, m5, m6, hb5⟩
  have HS5 := Lib.hid s5
  have M5 := Lib.hid m5
  have M6 := Lib.hid m6
  have HB5 := Lib.hid hb5
  have HZ5 : Hid (Below w.heap.size w w5) := Lib.hid (HZ4.out.trans (hb5.mono HZ4.out.size))
  clear s5 m5 m6 hb5 HF
  go_wp2_with fail
  with_reducible refine (HN.out w5 _ _ HZ5.out HS5.out M5.out M6.out).mono ?_
  rintro e w6 ⟨rfl, hb6⟩
  have HB6 : Hid (Below W4.heap.size W4 w6) := Lib.hid (HB5.out.trans (hb6.mono HB5.out.size))
  have HB6' : Hid (Below W3.heap.size W3 w6) := Lib.hid (HB4'.out.trans (HB6.out.mono HB4'.out.size))
  have HZ6 : Hid (Below w.heap.size w w6) := Lib.hid (HZ5.out.trans (hb6.mono HZ5.out.size))
  have a0 : w6.cell? ⟨w3.heap.size, 0, none⟩ = some (.int .i64 (G : Int)) := (HMa.out _ HB6'.out 0).1
  have a1 : w6.cell? ⟨w3.heap.size, 1, none⟩ = some (.int .i64 (R : Int)) := (HMa.out _ HB6'.out 1).1
  have a2 : w6.cell? ⟨w3.heap.size, 2, none⟩ = some (.int .i64 (N : Int)) := (HMa.out _ HB6'.out 2).1
  have a3 : w6.cell? ⟨w3.heap.size, 3, none⟩ = some (.int .i64 (D : Int)) := (HMa.out _ HB6'.out 3).1
  have b0 : w6.cell? ⟨w4.heap.size, 0, none⟩ = some (.int .i64 (G : Int)) := (HMb.out _ HB6.out 0).1
  have b1 : w6.cell? ⟨w4.heap.size, 1, none⟩ = some (.int .i64 (R : Int)) := (HMb.out _ HB6.out 1).1
  have b2 : w6.cell? ⟨w4.heap.size, 2, none⟩ = some (.int .i64 (N : Int)) := (HMb.out _ HB6.out 2).1
  have b3 : w6.cell? ⟨w4.heap.size, 3, none⟩ = some (.int .i64 (D : Int)) := (HMb.out _ HB6.out 3).1
  have l3 : w3.heap.size < w6.heap.size := World.block_lt_of_cell? _ _ a0
  have l4 : w4.heap.size < w6.heap.size := World.block_lt_of_cell? _ _ b0
  clear hb6 HN HMa HMb HB4' HZ3' HZ4 HZ5 HB5 HB6 HB6' HT HS5 M5 M6 hok
  have h40 : (decide ((4 : Nat) ≠ 0)) = true := rfl
  go_wp2
  go_ret
  exact ⟨rfl, HZ6.out.alloc HZ6.out.size _⟩

set_option maxHeartbeats 3200000 in
theorem mnew_1 {w : World} (hT : Tab w) {p : Option Addr} {a : List UInt8} (ha : Bs w p a) {n c : Nat} (hn : n = a.length) (hnc : n ≤ c) (hc : c ≤ 9223372036854775807)
    {q : Option Addr} {b : List UInt8} (hb : Bs w q b) {k d : Nat} (hk : k = b.length) (hkd : k ≤ d) (hd : d ≤ 9223372036854775807) (h6 : n ≤ 600) (h7 : 600 < k) :
    Calls Tryd.prog 4 #[.slice p n c, .slice q k d] w fun e w' => e = .returned (.bool true) ∧ Below w.heap.size w w' := by
  have HT : Hid (∀ w', Below w.heap.size w w' → Tab w') := Lib.hid fun w' hb => hT.below hT.lt hb
  obtain ⟨x, hx⟩ : ∃ x, x = a := ⟨_, rfl⟩
  have hxl : n = x.length := by rw [hx]; omega
  have hxb : Bs w p x := by rw [hx]; exact ha
  obtain ⟨y, hy⟩ : ∃ y, y = b.take 600 := ⟨_, rfl⟩
  have hyl : 600 = y.length := by rw [hy, List.length_take]; omega
  have hyb : Bs w q y := by rw [hy]; exact hb.take 600
  have HO : Hid (∀ w', Below w.heap.size w w' → Calls Tryd.prog 11 #[.slice p n c, .slice q 600 d] w' (MNewPost w' (newG x y) (newR x y) (newN x y) (newD x y))) := Lib.hid fun w' hb => mNewest_any (HT.out w' hb) (hxb.below hb) hxl (by omega) hc (hyb.below hb) hyl (by omega) hd
  have HOR : Hid (∀ w', Below w.heap.size w w' → Calls Tryd.prog 12 #[.slice p n c, .slice q 600 d] w' (MNewPost w' (newG x y) (newR x y) (newN x y) (newD x y))) := Lib.hid fun w' hb => mNewestR_any (hxb.below hb) hxl (by omega) hc (hyb.below hb) hyl (by omega) hd
  have HF : Hid (∀ w', Calls Tryd.prog 8 #[.agg #[.int .i64 4, .int .i64 0, .int .i64 1, .int .i64 1]] w' (MSQ w' 512 (mPage 4 0 1 1) 0 0)) := Lib.hid fun w' => msealR_q (g := 4) (r := 0) (n := 1) (d := 1) (MRight.mk' (by omega))
  have HN : Hid (∀ w' q c, Below w.heap.size w w' → Bs w' q (mPage 4 0 1 1) → 512 ≤ c → c ≤ 9223372036854775807 → Calls Tryd.prog 11 #[.slice q 512 c, .slice none 0 0] w' (MNewPost w' 4 0 1 1)) := Lib.hid fun w' q c hb hq h1 h2 => by
    have h3 := mNewest_any (HT.out w' hb) hq (mPage_length 4 0 1 1).symm h1 h2 (Bs.nil w' none) (k := 0) (d := 0) rfl (by omega) (by omega)
    obtain ⟨e1, e2, e3, e4⟩ := new_left (g := 4) (r := 0) (n := 1) (d := 1) (MRight.mk' (by omega)) rfl
    rw [e1, e2, e3, e4] at h3
    exact h3
  clear hT ha hn hb hk hxl hyl hxb hyb
  generalize newG x y = G at *
  generalize newR x y = R at *
  generalize newN x y = N at *
  generalize newD x y = D at *
  generalize mPage 4 0 1 1 = z at *
  clear hx hy
  generalize hok : decide (G ≠ 0) = ok at *
  go_enter Tryd.func4, Tryd.ntmps4
  go_wp2_with fail
  with_reducible refine (HO.out w (Below.refl _ _)).mono ?_
  rintro e w3 ⟨rfl, hb3⟩
  have HZ3 := Lib.hid hb3
  rw [hok]
  clear hb3 HO
  go_wp2_with fail
  obtain ⟨W3, hW3⟩ : ∃ W3, W3 = w3.alloc (.cells #[.int .i64 (G : Int), .int .i64 (R : Int), .int .i64 (N : Int), .int .i64 (D : Int)] 23) := ⟨_, rfl⟩
  rw [← hW3]
  have HZ3' : Hid (Below w.heap.size w W3) := Lib.hid (HZ3.out.trans ((box_below hW3).mono HZ3.out.size))
  have HMa : Hid (∀ w', Below W3.heap.size W3 w' → ∀ i, w'.cell? ⟨w3.heap.size, i, none⟩ = (#[.int .i64 (G : Int), .int .i64 (R : Int), .int .i64 (N : Int), .int .i64 (D : Int)] : Array Value)[i]? ∧ w'.frozen? ⟨w3.heap.size, i, none⟩ = false) := Lib.hid fun w' hb i => by rw [hW3] at hb; exact mres_cell hb i
  clear hW3 HZ3
  with_reducible refine (HOR.out W3 HZ3'.out).mono ?_
  rintro e w4 ⟨rfl, hb4⟩
  have HB4 := Lib.hid hb4
  rw [hok]
  clear hb4 HOR
  go_wp2_with fail
  obtain ⟨W4, hW4⟩ : ∃ W4, W4 = w4.alloc (.cells #[.int .i64 (G : Int), .int .i64 (R : Int), .int .i64 (N : Int), .int .i64 (D : Int)] 30) := ⟨_, rfl⟩
  rw [← hW4]
  have HB4' : Hid (Below W3.heap.size W3 W4) := Lib.hid (HB4.out.trans ((box_below hW4).mono HB4.out.size))
  have HMb : Hid (∀ w', Below W4.heap.size W4 w' → ∀ i, w'.cell? ⟨w4.heap.size, i, none⟩ = (#[.int .i64 (G : Int), .int .i64 (R : Int), .int .i64 (N : Int), .int .i64 (D : Int)] : Array Value)[i]? ∧ w'.frozen? ⟨w4.heap.size, i, none⟩ = false) := Lib.hid fun w' hb i => by rw [hW4] at hb; exact mres_cell hb i
  clear hW4 HB4
  have HZ4 : Hid (Below w.heap.size w W4) := Lib.hid (HZ3'.out.trans (HB4'.out.mono HZ3'.out.size))
  with_reducible refine (HF.out W4).mono ?_
  rintro e w5 ⟨q5, d5, rfl, s5, m5, m6, hb5⟩
  have HS5 := Lib.hid s5
  have M5 := Lib.hid m5
  have M6 := Lib.hid m6
  have HB5 := Lib.hid hb5
  have HZ5 : Hid (Below w.heap.size w w5) := Lib.hid (HZ4.out.trans (hb5.mono HZ4.out.size))
  clear s5 m5 m6 hb5 HF
  go_wp2_with fail
  with_reducible refine (HN.out w5 _ _ HZ5.out HS5.out M5.out M6.out).mono ?_
  rintro e w6 ⟨rfl, hb6⟩
  have HB6 : Hid (Below W4.heap.size W4 w6) := Lib.hid (HB5.out.trans (hb6.mono HB5.out.size))
  have HB6' : Hid (Below W3.heap.size W3 w6) := Lib.hid (HB4'.out.trans (HB6.out.mono HB4'.out.size))
  have HZ6 : Hid (Below w.heap.size w w6) := Lib.hid (HZ5.out.trans (hb6.mono HZ5.out.size))
  have a0 : w6.cell? ⟨w3.heap.size, 0, none⟩ = some (.int .i64 (G : Int)) := (HMa.out _ HB6'.out 0).1
  have a1 : w6.cell? ⟨w3.heap.size, 1, none⟩ = some (.int .i64 (R : Int)) := (HMa.out _ HB6'.out 1).1
  have a2 : w6.cell? ⟨w3.heap.size, 2, none⟩ = some (.int .i64 (N : Int)) := (HMa.out _ HB6'.out 2).1
  have a3 : w6.cell? ⟨w3.heap.size, 3, none⟩ = some (.int .i64 (D : Int)) := (HMa.out _ HB6'.out 3).1
  have b0 : w6.cell? ⟨w4.heap.size, 0, none⟩ = some (.int .i64 (G : Int)) := (HMb.out _ HB6.out 0).1
  have b1 : w6.cell? ⟨w4.heap.size, 1, none⟩ = some (.int .i64 (R : Int)) := (HMb.out _ HB6.out 1).1
  have b2 : w6.cell? ⟨w4.heap.size, 2, none⟩ = some (.int .i64 (N : Int)) := (HMb.out _ HB6.out 2).1
  have b3 : w6.cell? ⟨w4.heap.size, 3, none⟩ = some (.int .i64 (D : Int)) := (HMb.out _ HB6.out 3).1
  have l3 : w3.heap.size < w6.heap.size := World.block_lt_of_cell? _ _ a0
  have l4 : w4.heap.size < w6.heap.size := World.block_lt_of_cell? _ _ b0
  clear hb6 HN HMa HMb HB4' HZ3' HZ4 HZ5 HB5 HB6 HB6' HT HS5 M5 M6 hok
  have h40 : (decide ((4 : Nat) ≠ 0)) = true := rfl
  go_wp2
  go_ret
  exact ⟨rfl, HZ6.out.alloc HZ6.out.size _⟩

set_option maxHeartbeats 3200000 in
theorem mnew_2 {w : World} (hT : Tab w) {p : Option Addr} {a : List UInt8} (ha : Bs w p a) {n c : Nat} (hn : n = a.length) (hnc : n ≤ c) (hc : c ≤ 9223372036854775807)
    {q : Option Addr} {b : List UInt8} (hb : Bs w q b) {k d : Nat} (hk : k = b.length) (hkd : k ≤ d) (hd : d ≤ 9223372036854775807) (h6 : 600 < n) (h7 : k ≤ 600) :
    Calls Tryd.prog 4 #[.slice p n c, .slice q k d] w fun e w' => e = .returned (.bool true) ∧ Below w.heap.size w w' := by
  have HT : Hid (∀ w', Below w.heap.size w w' → Tab w') := Lib.hid fun w' hb => hT.below hT.lt hb
  obtain ⟨x, hx⟩ : ∃ x, x = a.take 600 := ⟨_, rfl⟩
  have hxl : 600 = x.length := by rw [hx, List.length_take]; omega
  have hxb : Bs w p x := by rw [hx]; exact ha.take 600
  obtain ⟨y, hy⟩ : ∃ y, y = b := ⟨_, rfl⟩
  have hyl : k = y.length := by rw [hy]; omega
  have hyb : Bs w q y := by rw [hy]; exact hb
  have HO : Hid (∀ w', Below w.heap.size w w' → Calls Tryd.prog 11 #[.slice p 600 c, .slice q k d] w' (MNewPost w' (newG x y) (newR x y) (newN x y) (newD x y))) := Lib.hid fun w' hb => mNewest_any (HT.out w' hb) (hxb.below hb) hxl (by omega) hc (hyb.below hb) hyl (by omega) hd
  have HOR : Hid (∀ w', Below w.heap.size w w' → Calls Tryd.prog 12 #[.slice p 600 c, .slice q k d] w' (MNewPost w' (newG x y) (newR x y) (newN x y) (newD x y))) := Lib.hid fun w' hb => mNewestR_any (hxb.below hb) hxl (by omega) hc (hyb.below hb) hyl (by omega) hd
  have HF : Hid (∀ w', Calls Tryd.prog 8 #[.agg #[.int .i64 4, .int .i64 0, .int .i64 1, .int .i64 1]] w' (MSQ w' 512 (mPage 4 0 1 1) 0 0)) := Lib.hid fun w' => msealR_q (g := 4) (r := 0) (n := 1) (d := 1) (MRight.mk' (by omega))
  have HN : Hid (∀ w' q c, Below w.heap.size w w' → Bs w' q (mPage 4 0 1 1) → 512 ≤ c → c ≤ 9223372036854775807 → Calls Tryd.prog 11 #[.slice q 512 c, .slice none 0 0] w' (MNewPost w' 4 0 1 1)) := Lib.hid fun w' q c hb hq h1 h2 => by
    have h3 := mNewest_any (HT.out w' hb) hq (mPage_length 4 0 1 1).symm h1 h2 (Bs.nil w' none) (k := 0) (d := 0) rfl (by omega) (by omega)
    obtain ⟨e1, e2, e3, e4⟩ := new_left (g := 4) (r := 0) (n := 1) (d := 1) (MRight.mk' (by omega)) rfl
    rw [e1, e2, e3, e4] at h3
    exact h3
  clear hT ha hn hb hk hxl hyl hxb hyb
  generalize newG x y = G at *
  generalize newR x y = R at *
  generalize newN x y = N at *
  generalize newD x y = D at *
  generalize mPage 4 0 1 1 = z at *
  clear hx hy
  generalize hok : decide (G ≠ 0) = ok at *
  go_enter Tryd.func4, Tryd.ntmps4
  go_wp2_with fail
  with_reducible refine (HO.out w (Below.refl _ _)).mono ?_
  rintro e w3 ⟨rfl, hb3⟩
  have HZ3 := Lib.hid hb3
  rw [hok]
  clear hb3 HO
  go_wp2_with fail
  obtain ⟨W3, hW3⟩ : ∃ W3, W3 = w3.alloc (.cells #[.int .i64 (G : Int), .int .i64 (R : Int), .int .i64 (N : Int), .int .i64 (D : Int)] 23) := ⟨_, rfl⟩
  rw [← hW3]
  have HZ3' : Hid (Below w.heap.size w W3) := Lib.hid (HZ3.out.trans ((box_below hW3).mono HZ3.out.size))
  have HMa : Hid (∀ w', Below W3.heap.size W3 w' → ∀ i, w'.cell? ⟨w3.heap.size, i, none⟩ = (#[.int .i64 (G : Int), .int .i64 (R : Int), .int .i64 (N : Int), .int .i64 (D : Int)] : Array Value)[i]? ∧ w'.frozen? ⟨w3.heap.size, i, none⟩ = false) := Lib.hid fun w' hb i => by rw [hW3] at hb; exact mres_cell hb i
  clear hW3 HZ3
  with_reducible refine (HOR.out W3 HZ3'.out).mono ?_
  rintro e w4 ⟨rfl, hb4⟩
  have HB4 := Lib.hid hb4
  rw [hok]
  clear hb4 HOR
  go_wp2_with fail
  obtain ⟨W4, hW4⟩ : ∃ W4, W4 = w4.alloc (.cells #[.int .i64 (G : Int), .int .i64 (R : Int), .int .i64 (N : Int), .int .i64 (D : Int)] 30) := ⟨_, rfl⟩
  rw [← hW4]
  have HB4' : Hid (Below W3.heap.size W3 W4) := Lib.hid (HB4.out.trans ((box_below hW4).mono HB4.out.size))
  have HMb : Hid (∀ w', Below W4.heap.size W4 w' → ∀ i, w'.cell? ⟨w4.heap.size, i, none⟩ = (#[.int .i64 (G : Int), .int .i64 (R : Int), .int .i64 (N : Int), .int .i64 (D : Int)] : Array Value)[i]? ∧ w'.frozen? ⟨w4.heap.size, i, none⟩ = false) := Lib.hid fun w' hb i => by rw [hW4] at hb; exact mres_cell hb i
  clear hW4 HB4
  have HZ4 : Hid (Below w.heap.size w W4) := Lib.hid (HZ3'.out.trans (HB4'.out.mono HZ3'.out.size))
  with_reducible refine (HF.out W4).mono ?_
  rintro e w5 ⟨q5, d5, rfl, s5, m5, m6, hb5⟩
  have HS5 := Lib.hid s5
  have M5 := Lib.hid m5
  have M6 := Lib.hid m6
  have HB5 := Lib.hid hb5
  have HZ5 : Hid (Below w.heap.size w w5) := Lib.hid (HZ4.out.trans (hb5.mono HZ4.out.size))
  clear s5 m5 m6 hb5 HF
  go_wp2_with fail
  with_reducible refine (HN.out w5 _ _ HZ5.out HS5.out M5.out M6.out).mono ?_
  rintro e w6 ⟨rfl, hb6⟩
  have HB6 : Hid (Below W4.heap.size W4 w6) := Lib.hid (HB5.out.trans (hb6.mono HB5.out.size))
  have HB6' : Hid (Below W3.heap.size W3 w6) := Lib.hid (HB4'.out.trans (HB6.out.mono HB4'.out.size))
  have HZ6 : Hid (Below w.heap.size w w6) := Lib.hid (HZ5.out.trans (hb6.mono HZ5.out.size))
  have a0 : w6.cell? ⟨w3.heap.size, 0, none⟩ = some (.int .i64 (G : Int)) := (HMa.out _ HB6'.out 0).1
  have a1 : w6.cell? ⟨w3.heap.size, 1, none⟩ = some (.int .i64 (R : Int)) := (HMa.out _ HB6'.out 1).1
  have a2 : w6.cell? ⟨w3.heap.size, 2, none⟩ = some (.int .i64 (N : Int)) := (HMa.out _ HB6'.out 2).1
  have a3 : w6.cell? ⟨w3.heap.size, 3, none⟩ = some (.int .i64 (D : Int)) := (HMa.out _ HB6'.out 3).1
  have b0 : w6.cell? ⟨w4.heap.size, 0, none⟩ = some (.int .i64 (G : Int)) := (HMb.out _ HB6.out 0).1
  have b1 : w6.cell? ⟨w4.heap.size, 1, none⟩ = some (.int .i64 (R : Int)) := (HMb.out _ HB6.out 1).1
  have b2 : w6.cell? ⟨w4.heap.size, 2, none⟩ = some (.int .i64 (N : Int)) := (HMb.out _ HB6.out 2).1
  have b3 : w6.cell? ⟨w4.heap.size, 3, none⟩ = some (.int .i64 (D : Int)) := (HMb.out _ HB6.out 3).1
  have l3 : w3.heap.size < w6.heap.size := World.block_lt_of_cell? _ _ a0
  have l4 : w4.heap.size < w6.heap.size := World.block_lt_of_cell? _ _ b0
  clear hb6 HN HMa HMb HB4' HZ3' HZ4 HZ5 HB5 HB6 HB6' HT HS5 M5 M6 hok
  have h40 : (decide ((4 : Nat) ≠ 0)) = true := rfl
  go_wp2
  go_ret
  exact ⟨rfl, HZ6.out.alloc HZ6.out.size _⟩

set_option maxHeartbeats 3200000 in
theorem mnew_3 {w : World} (hT : Tab w) {p : Option Addr} {a : List UInt8} (ha : Bs w p a) {n c : Nat} (hn : n = a.length) (hnc : n ≤ c) (hc : c ≤ 9223372036854775807)
    {q : Option Addr} {b : List UInt8} (hb : Bs w q b) {k d : Nat} (hk : k = b.length) (hkd : k ≤ d) (hd : d ≤ 9223372036854775807) (h6 : 600 < n) (h7 : 600 < k) :
    Calls Tryd.prog 4 #[.slice p n c, .slice q k d] w fun e w' => e = .returned (.bool true) ∧ Below w.heap.size w w' := by
  have HT : Hid (∀ w', Below w.heap.size w w' → Tab w') := Lib.hid fun w' hb => hT.below hT.lt hb
  obtain ⟨x, hx⟩ : ∃ x, x = a.take 600 := ⟨_, rfl⟩
  have hxl : 600 = x.length := by rw [hx, List.length_take]; omega
  have hxb : Bs w p x := by rw [hx]; exact ha.take 600
  obtain ⟨y, hy⟩ : ∃ y, y = b.take 600 := ⟨_, rfl⟩
  have hyl : 600 = y.length := by rw [hy, List.length_take]; omega
  have hyb : Bs w q y := by rw [hy]; exact hb.take 600
  have HO : Hid (∀ w', Below w.heap.size w w' → Calls Tryd.prog 11 #[.slice p 600 c, .slice q 600 d] w' (MNewPost w' (newG x y) (newR x y) (newN x y) (newD x y))) := Lib.hid fun w' hb => mNewest_any (HT.out w' hb) (hxb.below hb) hxl (by omega) hc (hyb.below hb) hyl (by omega) hd
  have HOR : Hid (∀ w', Below w.heap.size w w' → Calls Tryd.prog 12 #[.slice p 600 c, .slice q 600 d] w' (MNewPost w' (newG x y) (newR x y) (newN x y) (newD x y))) := Lib.hid fun w' hb => mNewestR_any (hxb.below hb) hxl (by omega) hc (hyb.below hb) hyl (by omega) hd
  have HF : Hid (∀ w', Calls Tryd.prog 8 #[.agg #[.int .i64 4, .int .i64 0, .int .i64 1, .int .i64 1]] w' (MSQ w' 512 (mPage 4 0 1 1) 0 0)) := Lib.hid fun w' => msealR_q (g := 4) (r := 0) (n := 1) (d := 1) (MRight.mk' (by omega))
  have HN : Hid (∀ w' q c, Below w.heap.size w w' → Bs w' q (mPage 4 0 1 1) → 512 ≤ c → c ≤ 9223372036854775807 → Calls Tryd.prog 11 #[.slice q 512 c, .slice none 0 0] w' (MNewPost w' 4 0 1 1)) := Lib.hid fun w' q c hb hq h1 h2 => by
    have h3 := mNewest_any (HT.out w' hb) hq (mPage_length 4 0 1 1).symm h1 h2 (Bs.nil w' none) (k := 0) (d := 0) rfl (by omega) (by omega)
    obtain ⟨e1, e2, e3, e4⟩ := new_left (g := 4) (r := 0) (n := 1) (d := 1) (MRight.mk' (by omega)) rfl
    rw [e1, e2, e3, e4] at h3
    exact h3
  clear hT ha hn hb hk hxl hyl hxb hyb
  generalize newG x y = G at *
  generalize newR x y = R at *
  generalize newN x y = N at *
  generalize newD x y = D at *
  generalize mPage 4 0 1 1 = z at *
  clear hx hy
  generalize hok : decide (G ≠ 0) = ok at *
  go_enter Tryd.func4, Tryd.ntmps4
  go_wp2_with fail
  with_reducible refine (HO.out w (Below.refl _ _)).mono ?_
  rintro e w3 ⟨rfl, hb3⟩
  have HZ3 := Lib.hid hb3
  rw [hok]
  clear hb3 HO
  go_wp2_with fail
  obtain ⟨W3, hW3⟩ : ∃ W3, W3 = w3.alloc (.cells #[.int .i64 (G : Int), .int .i64 (R : Int), .int .i64 (N : Int), .int .i64 (D : Int)] 23) := ⟨_, rfl⟩
  rw [← hW3]
  have HZ3' : Hid (Below w.heap.size w W3) := Lib.hid (HZ3.out.trans ((box_below hW3).mono HZ3.out.size))
  have HMa : Hid (∀ w', Below W3.heap.size W3 w' → ∀ i, w'.cell? ⟨w3.heap.size, i, none⟩ = (#[.int .i64 (G : Int), .int .i64 (R : Int), .int .i64 (N : Int), .int .i64 (D : Int)] : Array Value)[i]? ∧ w'.frozen? ⟨w3.heap.size, i, none⟩ = false) := Lib.hid fun w' hb i => by rw [hW3] at hb; exact mres_cell hb i
  clear hW3 HZ3
  with_reducible refine (HOR.out W3 HZ3'.out).mono ?_
  rintro e w4 ⟨rfl, hb4⟩
  have HB4 := Lib.hid hb4
  rw [hok]
  clear hb4 HOR
  go_wp2_with fail
  obtain ⟨W4, hW4⟩ : ∃ W4, W4 = w4.alloc (.cells #[.int .i64 (G : Int), .int .i64 (R : Int), .int .i64 (N : Int), .int .i64 (D : Int)] 30) := ⟨_, rfl⟩
  rw [← hW4]
  have HB4' : Hid (Below W3.heap.size W3 W4) := Lib.hid (HB4.out.trans ((box_below hW4).mono HB4.out.size))
  have HMb : Hid (∀ w', Below W4.heap.size W4 w' → ∀ i, w'.cell? ⟨w4.heap.size, i, none⟩ = (#[.int .i64 (G : Int), .int .i64 (R : Int), .int .i64 (N : Int), .int .i64 (D : Int)] : Array Value)[i]? ∧ w'.frozen? ⟨w4.heap.size, i, none⟩ = false) := Lib.hid fun w' hb i => by rw [hW4] at hb; exact mres_cell hb i
  clear hW4 HB4
  have HZ4 : Hid (Below w.heap.size w W4) := Lib.hid (HZ3'.out.trans (HB4'.out.mono HZ3'.out.size))
  with_reducible refine (HF.out W4).mono ?_
  rintro e w5 ⟨q5, d5, rfl, s5, m5, m6, hb5⟩
  have HS5 := Lib.hid s5
  have M5 := Lib.hid m5
  have M6 := Lib.hid m6
  have HB5 := Lib.hid hb5
  have HZ5 : Hid (Below w.heap.size w w5) := Lib.hid (HZ4.out.trans (hb5.mono HZ4.out.size))
  clear s5 m5 m6 hb5 HF
  go_wp2_with fail
  with_reducible refine (HN.out w5 _ _ HZ5.out HS5.out M5.out M6.out).mono ?_
  rintro e w6 ⟨rfl, hb6⟩
  have HB6 : Hid (Below W4.heap.size W4 w6) := Lib.hid (HB5.out.trans (hb6.mono HB5.out.size))
  have HB6' : Hid (Below W3.heap.size W3 w6) := Lib.hid (HB4'.out.trans (HB6.out.mono HB4'.out.size))
  have HZ6 : Hid (Below w.heap.size w w6) := Lib.hid (HZ5.out.trans (hb6.mono HZ5.out.size))
  have a0 : w6.cell? ⟨w3.heap.size, 0, none⟩ = some (.int .i64 (G : Int)) := (HMa.out _ HB6'.out 0).1
  have a1 : w6.cell? ⟨w3.heap.size, 1, none⟩ = some (.int .i64 (R : Int)) := (HMa.out _ HB6'.out 1).1
  have a2 : w6.cell? ⟨w3.heap.size, 2, none⟩ = some (.int .i64 (N : Int)) := (HMa.out _ HB6'.out 2).1
  have a3 : w6.cell? ⟨w3.heap.size, 3, none⟩ = some (.int .i64 (D : Int)) := (HMa.out _ HB6'.out 3).1
  have b0 : w6.cell? ⟨w4.heap.size, 0, none⟩ = some (.int .i64 (G : Int)) := (HMb.out _ HB6.out 0).1
  have b1 : w6.cell? ⟨w4.heap.size, 1, none⟩ = some (.int .i64 (R : Int)) := (HMb.out _ HB6.out 1).1
  have b2 : w6.cell? ⟨w4.heap.size, 2, none⟩ = some (.int .i64 (N : Int)) := (HMb.out _ HB6.out 2).1
  have b3 : w6.cell? ⟨w4.heap.size, 3, none⟩ = some (.int .i64 (D : Int)) := (HMb.out _ HB6.out 3).1
  have l3 : w3.heap.size < w6.heap.size := World.block_lt_of_cell? _ _ a0
  have l4 : w4.heap.size < w6.heap.size := World.block_lt_of_cell? _ _ b0
  clear hb6 HN HMa HMb HB4' HZ3' HZ4 HZ5 HB5 HB6 HB6' HT HS5 M5 M6 hok
  have h40 : (decide ((4 : Nat) ≠ 0)) = true := rfl
  go_wp2
  go_ret
  exact ⟨rfl, HZ6.out.alloc HZ6.out.size _⟩

theorem lawMNewest_any {w : World} (hT : Tab w) {p : Option Addr} {a : List UInt8} (ha : Bs w p a) {n c : Nat} (hn : n = a.length) (hnc : n ≤ c) (hc : c ≤ 9223372036854775807)
    {q : Option Addr} {b : List UInt8} (hb : Bs w q b) {k d : Nat} (hk : k = b.length) (hkd : k ≤ d) (hd : d ≤ 9223372036854775807) :
    Calls Tryd.prog 4 #[.slice p n c, .slice q k d] w fun e w' => e = .returned (.bool true) ∧ Below w.heap.size w w' := by
  by_cases h6 : n ≤ 600
  · by_cases h7 : k ≤ 600
    · exact mnew_0 hT ha hn hnc hc hb hk hkd hd h6 h7
    · exact mnew_1 hT ha hn hnc hc hb hk hkd hd h6 (by omega)
  · by_cases h7 : k ≤ 600
    · exact mnew_2 hT ha hn hnc hc hb hk hkd hd (by omega) h7
    · exact mnew_3 hT ha hn hnc hc hb hk hkd hd (by omega) (by omega)

end Go.Proofs.YtpklapgcdilghaaDoor
