/-
  meta.Newest and the reference's: contracts for the walks.
  pager: all calls of a pager that no call made; Open and Format of a disk that no call made.
-/
import Derived.Test.YtmlnpgbnbchbkaaDoorH16
import Derived.Test.YtmlnpgbnbchbkaaDoorH02
set_option linter.unusedVariables false
set_option maxRecDepth 100000
namespace Go.Proofs.YtmlnpgbnbchbkaaDoor
open Go.RowKit

/-- What Newest tells. -/
def MNewPost (w : World) (G R N D : Nat) (e : Ending) (w' : World) : Prop :=
  e = .returned (.tuple #[.agg #[.int .i64 (G : Int), .int .i64 (R : Int), .int .i64 (N : Int), .int .i64 (D : Int)], .bool (decide (G ≠ 0))]) ∧ Below w.heap.size w w'

/-- The facts on two that Newest asks. -/
structure MTwo (ga ra na da ea gb rb nb db eb G R N D : Nat) : Prop where
  za : ga = 0 → ra = 0 ∧ na = 0 ∧ da = 0
  zb : gb = 0 → rb = 0 ∧ nb = 0 ∧ db = 0
  ea : ea = 0 ↔ ga ≠ 0
  eb : eb = 0 ↔ gb ≠ 0
  sel : (ga < gb ∧ G = gb ∧ R = rb ∧ N = nb ∧ D = db) ∨ (¬ ga < gb ∧ G = ga ∧ R = ra ∧ N = na ∧ D = da)

theorem m_zero {l : List UInt8} {no : Int} (h : mG l no = 0) : mR l no = 0 ∧ mN l no = 0 ∧ mD l no = 0 := by
  by_cases h1 : mE l no = 0
  · exact absurd h (m_gen.1 h1)
  · exact (m_none h1).2
theorem mTwo (a b : List UInt8) : MTwo (mG a 0) (mR a 0) (mN a 0) (mD a 0) (mE a 0) (mG b 1) (mR b 1) (mN b 1) (mD b 1) (mE b 1) (newG a b) (newR a b) (newN a b) (newD a b) := by
  refine ⟨m_zero, m_zero, m_gen, m_gen, ?_⟩
  unfold newG newR newN newD
  by_cases h : mG a 0 < mG b 1
  · left
    simp [h]
  · right
    simp [h]

set_option maxHeartbeats 1600000 in
theorem mNewest_any {w : World} (hT : Tab w) {p : Option Addr} {a : List UInt8} (ha : Bs w p a) {n c : Nat} (hn : n = a.length) (hnc : n ≤ c) (hc : c ≤ 9223372036854775807)
    {q : Option Addr} {b : List UInt8} (hb : Bs w q b) {k d : Nat} (hk : k = b.length) (hkd : k ≤ d) (hd : d ≤ 9223372036854775807) :
    Calls Tryd.prog 27 #[.slice p n c, .slice q k d] w (MNewPost w (newG a b) (newR a b) (newN a b) (newD a b)) := by
  obtain ⟨W0, hW0⟩ : ∃ W0, W0 = w.alloc (.cells #[.int .i64 0, .int .i64 0, .int .i64 0, .int .i64 0] 49) := ⟨_, rfl⟩
  have HZ : Hid (Below w.heap.size w W0) := Lib.hid (by rw [hW0]; exact (Below.refl _ _).alloc (Nat.le_refl _) _)
  have HR : Hid (∀ w', Below W0.heap.size W0 w' → ∀ i, w'.cell? ⟨w.heap.size, i, none⟩ = (#[.int .i64 0, .int .i64 0, .int .i64 0, .int .i64 0] : Array Value)[i]? ∧ w'.frozen? ⟨w.heap.size, i, none⟩ = false) := Lib.hid fun w' hb i => by rw [hW0] at hb; exact mres_cell hb i
  have HX := Lib.hid (mTwo a b)
  have HCa : Hid (Calls Tryd.prog 55 #[.slice p n c, .int .i64 0] W0 (MOpPost W0 (mG a 0) (mR a 0) (mN a 0) (mD a 0) (mE a 0))) := Lib.hid (mopen_any (hT.below hT.lt HZ.out) (ha.below HZ.out) hn hnc hc 0)
  have HCb : Hid (∀ w', Below w.heap.size w w' → Calls Tryd.prog 55 #[.slice q k d, .int .i64 1] w' (MOpPost w' (mG b 1) (mR b 1) (mN b 1) (mD b 1) (mE b 1))) := Lib.hid fun w' hw => mopen_any (hT.below hT.lt hw) (hb.below hw) hk hkd hd 1
  clear hT ha hn hnc hc hb hk hkd hd
  generalize newG a b = G at *
  generalize newR a b = R at *
  generalize newN a b = N at *
  generalize newD a b = D at *
  generalize mG a 0 = ga at *
  generalize mR a 0 = ra at *
  generalize mN a 0 = na at *
  generalize mD a 0 = da at *
  generalize mE a 0 = ea at *
  generalize mG b 1 = gb at *
  generalize mR b 1 = rb at *
  generalize mN b 1 = nb at *
  generalize mD b 1 = db at *
  generalize mE b 1 = eb at *
  go_enter Tryd.func27, Tryd.ntmps27
  go_wp2_with fail
  rw [← hW0]
  clear hW0
  with_reducible refine HCa.out.mono ?_
  rintro e w1 ⟨rfl, hb1⟩
  have HB1 := Lib.hid hb1
  clear hb1 HCa
  go_wp2_with fail
  obtain ⟨W1, hW1⟩ : ∃ W1, W1 = w1.alloc (.cells #[.int .i64 (ga : Int), .int .i64 (ra : Int), .int .i64 (na : Int), .int .i64 (da : Int)] 49) := ⟨_, rfl⟩
  rw [← hW1]
  have HB1' : Hid (Below W0.heap.size W0 W1) := Lib.hid (by rw [hW1]; exact HB1.out.alloc HB1.out.size _)
  have HMa : Hid (∀ w', Below W1.heap.size W1 w' → ∀ i, w'.cell? ⟨w1.heap.size, i, none⟩ = (#[.int .i64 (ga : Int), .int .i64 (ra : Int), .int .i64 (na : Int), .int .i64 (da : Int)] : Array Value)[i]? ∧ w'.frozen? ⟨w1.heap.size, i, none⟩ = false) := Lib.hid fun w' hb i => by rw [hW1] at hb; exact mres_cell hb i
  clear hW1 HB1
  with_reducible refine (HCb.out _ (HZ.out.trans (HB1'.out.mono HZ.out.size))).mono ?_
  rintro e w2 ⟨rfl, hb2⟩
  have HB2 := Lib.hid hb2
  obtain ⟨i0, _⟩ := HMa.out _ hb2 0
  obtain ⟨i1, _⟩ := HMa.out _ hb2 1
  obtain ⟨i2, _⟩ := HMa.out _ hb2 2
  obtain ⟨i3, _⟩ := HMa.out _ hb2 3
  replace i0 : w2.cell? ⟨w1.heap.size, 0, none⟩ = some (.int .i64 (ga : Int)) := i0
  replace i1 : w2.cell? ⟨w1.heap.size, 1, none⟩ = some (.int .i64 (ra : Int)) := i1
  replace i2 : w2.cell? ⟨w1.heap.size, 2, none⟩ = some (.int .i64 (na : Int)) := i2
  replace i3 : w2.cell? ⟨w1.heap.size, 3, none⟩ = some (.int .i64 (da : Int)) := i3
  have hlt : w1.heap.size < w2.heap.size := World.block_lt_of_cell? _ _ i0
  clear hb2 HCb
  go_wp2_with fail
  obtain ⟨W2, hW2⟩ : ∃ W2, W2 = (w2.alloc (.cells #[.int .i64 (gb : Int), .int .i64 (rb : Int), .int .i64 (nb : Int), .int .i64 (db : Int)] 49)).alloc (.cells #[.int .i64 (ga : Int), .int .i64 (ra : Int), .int .i64 (na : Int), .int .i64 (da : Int), .int .i64 (gb : Int), .int .i64 (rb : Int), .int .i64 (nb : Int), .int .i64 (db : Int)] 49) := ⟨_, rfl⟩
  rw [← hW2]
  obtain ⟨_, x1, x2, x3⟩ := boxes w2 #[.int .i64 (gb : Int), .int .i64 (rb : Int), .int .i64 (nb : Int), .int .i64 (db : Int)] #[.int .i64 (ga : Int), .int .i64 (ra : Int), .int .i64 (na : Int), .int .i64 (da : Int), .int .i64 (gb : Int), .int .i64 (rb : Int), .int .i64 (nb : Int), .int .i64 (db : Int)] 49 49
  rw [← hW2] at x1 x2 x3
  have HC := Lib.hid (mnewest_any (w := W2) (g := w2.heap.size + 1) (ga := ga) (ra := ra) (na := na) (da := da) (gb := gb) (rb := rb) (nb := nb) (db := db) (by omega)
    (by rw [Joins.cell_of_block x1]; rfl) (by rw [Joins.cell_of_block x1]; rfl) (by rw [Joins.cell_of_block x1]; rfl) (by rw [Joins.cell_of_block x1]; rfl)
    (by rw [Joins.cell_of_block x1]; rfl) (by rw [Joins.cell_of_block x1]; rfl) (by rw [Joins.cell_of_block x1]; rfl) (by rw [Joins.cell_of_block x1]; rfl) HX.out.za HX.out.sel)
  have HB3 : Hid (Below W0.heap.size W0 W2) := Lib.hid ((HB1'.out.trans (HB2.out.mono HB1'.out.size)).trans (x2.mono (HB1'.out.trans (HB2.out.mono HB1'.out.size)).size))
  clear hW2 x1 x2 x3 i0 i1 i2 i3 hlt HMa HB2 HB1'
  with_reducible refine HC.out.mono ?_
  rintro e w3 ⟨rfl, hb3⟩
  have HB4 : Hid (Below W0.heap.size W0 w3) := Lib.hid (HB3.out.trans (hb3.mono HB3.out.size))
  clear hb3 HC HB3
  go_wp2_with fail
  obtain ⟨W3, hW3⟩ : ∃ W3, W3 = w3.alloc (.cells #[.int .i64 (G : Int), .int .i64 (R : Int), .int .i64 (N : Int), .int .i64 (D : Int)] 49) := ⟨_, rfl⟩
  rw [← hW3]
  have HB5 : Hid (Below W0.heap.size W0 W3) := Lib.hid (by rw [hW3]; exact HB4.out.alloc HB4.out.size _)
  have hm : ∀ i, W3.cell? ⟨w3.heap.size, i, none⟩ = (#[.int .i64 (G : Int), .int .i64 (R : Int), .int .i64 (N : Int), .int .i64 (D : Int)] : Array Value)[i]? ∧ W3.frozen? ⟨w3.heap.size, i, none⟩ = false := fun i => by rw [hW3]; exact mres_cell (Below.refl _ _) i
  obtain ⟨b0, _⟩ := hm 0
  obtain ⟨b1, _⟩ := hm 1
  obtain ⟨b2, _⟩ := hm 2
  obtain ⟨b3, _⟩ := hm 3
  obtain ⟨c0, z0⟩ := HR.out _ HB5.out 0
  obtain ⟨c1, z1⟩ := HR.out _ HB5.out 1
  obtain ⟨c2, z2⟩ := HR.out _ HB5.out 2
  obtain ⟨c3, z3⟩ := HR.out _ HB5.out 3
  have hlt : w.heap.size < w3.heap.size := by
    have h1 := World.block_lt_of_cell? _ _ c0
    have h2 := (HR.out _ HB4.out 0).1
    exact World.block_lt_of_cell? _ _ h2
  have hne : w.heap.size ≠ w3.heap.size := by omega
  replace b0 : W3.cell? ⟨w3.heap.size, 0, none⟩ = some (.int .i64 (G : Int)) := b0
  replace b1 : W3.cell? ⟨w3.heap.size, 1, none⟩ = some (.int .i64 (R : Int)) := b1
  replace b2 : W3.cell? ⟨w3.heap.size, 2, none⟩ = some (.int .i64 (N : Int)) := b2
  replace b3 : W3.cell? ⟨w3.heap.size, 3, none⟩ = some (.int .i64 (D : Int)) := b3
  replace c0 : W3.cell? ⟨w.heap.size, 0, none⟩ = some (.int .i64 0) := c0
  replace c1 : W3.cell? ⟨w.heap.size, 1, none⟩ = some (.int .i64 0) := c1
  replace c2 : W3.cell? ⟨w.heap.size, 2, none⟩ = some (.int .i64 0) := c2
  replace c3 : W3.cell? ⟨w.heap.size, 3, none⟩ = some (.int .i64 0) := c3
  have HZ3 : Hid (Below w.heap.size w W3) := Lib.hid (HZ.out.trans (HB5.out.mono HZ.out.size))
  clear hm hW3 HR HB4 HB5 hlt
  by_cases hG : G = 0
  · obtain ⟨rfl, rfl, rfl⟩ : R = 0 ∧ N = 0 ∧ D = 0 := by
      rcases HX.out.sel with ⟨_, h1, h2, h3, h4⟩ | ⟨_, h1, h2, h3, h4⟩
      · have := HX.out.zb (by omega)
        omega
      · have := HX.out.za (by omega)
        omega
    subst hG
    clear HX
    go_region
    go_wp2_with fail
    refine bodyPost_ret (v := .tuple #[.agg #[.int .i64 0, .int .i64 0, .int .i64 0, .int .i64 0], .bool false]) (by simp [results, Tryd.results27, go_sem, c0, c1, c2, c3]) rfl ⟨rfl, ?_⟩
    exact set4_below HZ3.out.drew (Nat.le_refl _) _ _ _ _
  · have HG : Hid (decide (G ≠ 0) = true) := Lib.hid (decide_eq_true hG)
    have hg1 : ((G : Int) == 0) = false := by rw [beq_eq_false_iff_ne]; omega
    have hg2 : ¬ (G : Int) = 0 := by omega
    clear HX
    go_region
    go_wp2_with fail
    refine bodyPost_ret (v := .tuple #[.agg #[.int .i64 (G : Int), .int .i64 (R : Int), .int .i64 (N : Int), .int .i64 (D : Int)], .bool true]) (by simp [results, Tryd.results27, go_sem, c0, c1, c2, c3]) rfl ⟨by rw [HG.out], ?_⟩
    exact set4_below HZ3.out.drew (Nat.le_refl _) _ _ _ _

end Go.Proofs.YtmlnpgbnbchbkaaDoor

set_option linter.unusedVariables false
set_option maxRecDepth 100000
namespace Go.Proofs.YtmlnpgbnbchbkaaDoor
open Go.RowKit

/-- A pager that no call made. -/
def GrNone (w : World) (d : Option Addr) : Prop := d = none ∨ ∃ p, d = some ⟨p, 0, none⟩ ∧ w.cell? ⟨p, 0, none⟩ = some (.pointer none)

theorem GrNone.below {w w' : World} {d : Option Addr} (h : GrNone w d) (hb : Below w.heap.size w w') : GrNone w' d := by
  rcases h with h | ⟨p, h, hc⟩
  · exact .inl h
  · exact .inr ⟨p, h, by rw [hb.cell (p := ⟨p, 0, none⟩) (World.block_lt_of_cell? _ _ hc)]; exact hc⟩

set_option maxHeartbeats 400000 in
theorem grMade_no {w : World} {d : Option Addr} (h : GrNone w d) :
    Calls Tryd.prog 30 #[.pointer d] w fun e w' => e = .returned (.bool false) ∧ w = w' := by
  rcases h with rfl | ⟨p, rfl, hc⟩
  · go_enter Tryd.func30, Tryd.ntmps30
    go_wp2
    go_ret
    exact ⟨rfl, rfl⟩
  · go_enter Tryd.func30, Tryd.ntmps30
    go_wp2
    go_ret
    exact ⟨rfl, rfl⟩

set_option maxHeartbeats 400000 in
theorem grMade_yes {w : World} {p : Nat} {a : Addr} (hc : w.cell? ⟨p, 0, none⟩ = some (.pointer (some a))) :
    Calls Tryd.prog 30 #[.pointer (some ⟨p, 0, none⟩)] w fun e w' => e = .returned (.bool true) ∧ w = w' := by
  go_enter Tryd.func30, Tryd.ntmps30
  go_wp2
  go_ret
  exact ⟨rfl, rfl⟩

set_option maxHeartbeats 400000 in
theorem grLen_no {w : World} {d : Option Addr} (h : Nobody w d) :
    Calls Tryd.prog 23 #[.pointer d] w fun e w' => e = .returned (.int .i64 0) ∧ w = w' := by
  have H := Lib.hid (made_no h)
  clear h
  go_enter Tryd.func23, Tryd.ntmps23
  go_wp2_with fail
  refine H.out.mono ?_; rintro e w1 ⟨rfl, rfl⟩
  go_wp2
  go_ret
  exact ⟨rfl, rfl⟩

set_option maxHeartbeats 400000 in
theorem grKeep_no {w : World} {d : Option Addr} (h : GrNone w d) (v : Value) :
    Calls Tryd.prog 7 #[.pointer d, v] w fun e w' => e = .returned (.int .i64 1) ∧ Below w.heap.size w w' := by
  have H := Lib.hid fun w' (hb : Below w.heap.size w w') => grMade_no (h.below hb)
  clear h
  go_enter Tryd.func7, Tryd.ntmps7
  go_wp2_with fail
  refine (H.out _ (by first | exact Below.refl _ _ | exact sbox1 _ _ | exact sbox2 _ _ _)).mono ?_; rintro e w1 ⟨rfl, rfl⟩
  go_wp2
  go_ret
  exact ⟨rfl, by first | exact Below.refl _ _ | exact sbox1 _ _ | exact sbox2 _ _ _⟩

set_option maxHeartbeats 400000 in
theorem grMeta_no {w : World} {d : Option Addr} (h : GrNone w d) :
    Calls Tryd.prog 15 #[.pointer d] w fun e w' => e = .returned (.agg #[.int .i64 0, .int .i64 0, .int .i64 0, .int .i64 0]) ∧ Below w.heap.size w w' := by
  have H := Lib.hid fun w' (hb : Below w.heap.size w w') => grMade_no (h.below hb)
  clear h
  go_enter Tryd.func15, Tryd.ntmps15
  go_wp2_with fail
  refine (H.out _ (by first | exact Below.refl _ _ | exact sbox1 _ _ | exact sbox2 _ _ _)).mono ?_; rintro e w1 ⟨rfl, rfl⟩
  go_wp2
  have b0 := heap_alloc_new w (.cells #[.int .i64 0, .int .i64 0, .int .i64 0, .int .i64 0] 49)
  have c0 := (Joins.cell_of_block b0 0).trans rfl
  have c1 := (Joins.cell_of_block b0 1).trans rfl
  have c2 := (Joins.cell_of_block b0 2).trans rfl
  have c3 := (Joins.cell_of_block b0 3).trans rfl
  exact bodyPost_ret (v := .agg #[.int .i64 0, .int .i64 0, .int .i64 0, .int .i64 0]) (by simp [results, Tryd.results15, go_sem, c0, c1, c2, c3]) rfl ⟨rfl, sbox1 _ _⟩

set_option maxHeartbeats 400000 in
theorem grLay_no {w : World} {d : Option Addr} (h : GrNone w d) (k : Int) (v : Value) :
    Calls Tryd.prog 8 #[.pointer d, .int .u8 k, v] w fun e w' => e = .returned (.tuple #[.int .i64 0, .int .i64 1]) ∧ Below w.heap.size w w' := by
  have H := Lib.hid fun w' (hb : Below w.heap.size w w') => grMade_no (h.below hb)
  clear h
  go_enter Tryd.func8, Tryd.ntmps8
  go_wp2_with fail
  refine (H.out _ (by first | exact Below.refl _ _ | exact sbox1 _ _ | exact sbox2 _ _ _)).mono ?_; rintro e w1 ⟨rfl, rfl⟩
  go_wp2
  go_ret2
  exact ⟨rfl, by first | exact Below.refl _ _ | exact sbox1 _ _ | exact sbox2 _ _ _⟩

set_option maxHeartbeats 400000 in
theorem grRead_no {w : World} {d : Option Addr} (h : GrNone w d) (k : Int) :
    Calls Tryd.prog 45 #[.pointer d, .int .i64 k] w fun e w' => e = .returned (.tuple #[.int .u8 0, .slice none 0 0, .int .i64 1]) ∧ Below w.heap.size w w' := by
  have H := Lib.hid fun w' (hb : Below w.heap.size w w') => grMade_no (h.below hb)
  clear h
  go_enter Tryd.func45, Tryd.ntmps45
  go_wp2_with fail
  refine (H.out _ (by first | exact Below.refl _ _ | exact sbox1 _ _ | exact sbox2 _ _ _)).mono ?_; rintro e w1 ⟨rfl, rfl⟩
  go_wp2
  exact bodyPost_ret (v := .tuple #[.int .u8 0, .slice none 0 0, .int .i64 1]) (by simp [results, Tryd.results45, go_sem]) rfl ⟨rfl, by first | exact Below.refl _ _ | exact sbox1 _ _ | exact sbox2 _ _ _⟩

set_option maxHeartbeats 400000 in
theorem grDrop_no {w : World} {d : Option Addr} (h : GrNone w d) (k : Int) :
    Calls Tryd.prog 9 #[.pointer d, .int .i64 k] w fun e w' => e = .returned (.int .i64 1) ∧ Below w.heap.size w w' := by
  have H := Lib.hid fun w' (hb : Below w.heap.size w w') => grMade_no (h.below hb)
  clear h
  go_enter Tryd.func9, Tryd.ntmps9
  go_wp2_with fail
  refine (H.out _ (by first | exact Below.refl _ _ | exact sbox1 _ _ | exact sbox2 _ _ _)).mono ?_; rintro e w1 ⟨rfl, rfl⟩
  go_wp2
  go_ret
  exact ⟨rfl, by first | exact Below.refl _ _ | exact sbox1 _ _ | exact sbox2 _ _ _⟩

set_option maxHeartbeats 400000 in
theorem grCommit_no {w : World} {d : Option Addr} (h : GrNone w d) (r n d2 : Int) :
    Calls Tryd.prog 10 #[.pointer d, .int .i64 r, .int .i64 n, .int .i64 d2] w fun e w' => e = .returned (.int .i64 1) ∧ Below w.heap.size w w' := by
  have H := Lib.hid fun w' (hb : Below w.heap.size w w') => grMade_no (h.below hb)
  clear h
  go_enter Tryd.func10, Tryd.ntmps10
  go_wp2_with fail
  refine (H.out _ (by first | exact Below.refl _ _ | exact sbox1 _ _ | exact sbox2 _ _ _)).mono ?_; rintro e w1 ⟨rfl, rfl⟩
  go_wp2
  go_ret
  exact ⟨rfl, by first | exact Below.refl _ _ | exact sbox1 _ _ | exact sbox2 _ _ _⟩

set_option maxHeartbeats 400000 in
theorem grAbort_no {w : World} {d : Option Addr} (h : GrNone w d) :
    Calls Tryd.prog 13 #[.pointer d] w fun e w' => e = .returned (.int .i64 1) ∧ Below w.heap.size w w' := by
  have H := Lib.hid fun w' (hb : Below w.heap.size w w') => grMade_no (h.below hb)
  clear h
  go_enter Tryd.func13, Tryd.ntmps13
  go_wp2_with fail
  refine (H.out _ (by first | exact Below.refl _ _ | exact sbox1 _ _ | exact sbox2 _ _ _)).mono ?_; rintro e w1 ⟨rfl, rfl⟩
  go_wp2
  go_ret
  exact ⟨rfl, by first | exact Below.refl _ _ | exact sbox1 _ _ | exact sbox2 _ _ _⟩

set_option maxHeartbeats 400000 in
theorem grPin_no {w : World} {d : Option Addr} (h : GrNone w d) :
    Calls Tryd.prog 14 #[.pointer d] w fun e w' => e = .returned (.tuple #[.int .i64 0, .int .i64 1]) ∧ Below w.heap.size w w' := by
  have H := Lib.hid fun w' (hb : Below w.heap.size w w') => grMade_no (h.below hb)
  clear h
  go_enter Tryd.func14, Tryd.ntmps14
  go_wp2_with fail
  refine (H.out _ (by first | exact Below.refl _ _ | exact sbox1 _ _ | exact sbox2 _ _ _)).mono ?_; rintro e w1 ⟨rfl, rfl⟩
  go_wp2
  go_ret2
  exact ⟨rfl, by first | exact Below.refl _ _ | exact sbox1 _ _ | exact sbox2 _ _ _⟩

set_option maxHeartbeats 400000 in
theorem grUnpin_no {w : World} {d : Option Addr} (h : GrNone w d) (k : Int) :
    Calls Tryd.prog 16 #[.pointer d, .int .i64 k] w fun e w' => e = .returned (.int .i64 1) ∧ Below w.heap.size w w' := by
  have H := Lib.hid fun w' (hb : Below w.heap.size w w') => grMade_no (h.below hb)
  clear h
  go_enter Tryd.func16, Tryd.ntmps16
  go_wp2_with fail
  refine (H.out _ (by first | exact Below.refl _ _ | exact sbox1 _ _ | exact sbox2 _ _ _)).mono ?_; rintro e w1 ⟨rfl, rfl⟩
  go_wp2
  go_ret
  exact ⟨rfl, by first | exact Below.refl _ _ | exact sbox1 _ _ | exact sbox2 _ _ _⟩

set_option maxHeartbeats 400000 in
theorem grFree_no {w : World} {d : Option Addr} (h : GrNone w d) :
    Calls Tryd.prog 19 #[.pointer d] w fun e w' => e = .returned (.int .i64 0) ∧ Below w.heap.size w w' := by
  have H := Lib.hid fun w' (hb : Below w.heap.size w w') => grMade_no (h.below hb)
  clear h
  go_enter Tryd.func19, Tryd.ntmps19
  go_wp2_with fail
  refine (H.out _ (by first | exact Below.refl _ _ | exact sbox1 _ _ | exact sbox2 _ _ _)).mono ?_; rintro e w1 ⟨rfl, rfl⟩
  go_wp2
  go_ret
  exact ⟨rfl, by first | exact Below.refl _ _ | exact sbox1 _ _ | exact sbox2 _ _ _⟩

set_option maxHeartbeats 400000 in
theorem grWaiting_no {w : World} {d : Option Addr} (h : GrNone w d) :
    Calls Tryd.prog 21 #[.pointer d] w fun e w' => e = .returned (.int .i64 0) ∧ Below w.heap.size w w' := by
  have H := Lib.hid fun w' (hb : Below w.heap.size w w') => grMade_no (h.below hb)
  clear h
  go_enter Tryd.func21, Tryd.ntmps21
  go_wp2_with fail
  refine (H.out _ (by first | exact Below.refl _ _ | exact sbox1 _ _ | exact sbox2 _ _ _)).mono ?_; rintro e w1 ⟨rfl, rfl⟩
  go_wp2
  go_ret
  exact ⟨rfl, by first | exact Below.refl _ _ | exact sbox1 _ _ | exact sbox2 _ _ _⟩

set_option maxHeartbeats 400000 in
theorem grUsed_no {w : World} {d : Option Addr} (h : GrNone w d) :
    Calls Tryd.prog 20 #[.pointer d] w fun e w' => e = .returned (.int .i64 0) ∧ Below w.heap.size w w' := by
  have H := Lib.hid fun w' (hb : Below w.heap.size w w') => grMade_no (h.below hb)
  clear h
  go_enter Tryd.func20, Tryd.ntmps20
  go_wp2_with fail
  refine (H.out _ (by first | exact Below.refl _ _ | exact sbox1 _ _ | exact sbox2 _ _ _)).mono ?_; rintro e w1 ⟨rfl, rfl⟩
  go_wp2
  go_ret
  exact ⟨rfl, by first | exact Below.refl _ _ | exact sbox1 _ _ | exact sbox2 _ _ _⟩

set_option maxHeartbeats 400000 in
theorem grFormat_no {w : World} {d : Option Addr} (h : Nobody w d) :
    Calls Tryd.prog 5 #[.pointer d] w fun e w' => e = .returned (.int .i64 1) ∧ Below w.heap.size w w' := by
  have H := Lib.hid fun w' (hb : Below w.heap.size w w') => grLen_no (h.below hb)
  clear h
  go_enter Tryd.func5, Tryd.ntmps5
  go_wp2_with fail
  refine (H.out _ (by first | exact Below.refl _ _ | exact sbox1 _ _ | exact sbox2 _ _ _)).mono ?_; rintro e w1 ⟨rfl, rfl⟩
  go_wp2
  go_ret
  exact ⟨rfl, by first | exact Below.refl _ _ | exact sbox1 _ _ | exact sbox2 _ _ _⟩

set_option maxHeartbeats 400000 in
theorem grOpen_no {w : World} {d : Option Addr} (h : Nobody w d) :
    Calls Tryd.prog 6 #[.pointer d] w fun e w' => e = .returned (.tuple #[.pointer none, .int .i64 1]) ∧ Below w.heap.size w w' := by
  have H := Lib.hid fun w' (hb : Below w.heap.size w w') => grLen_no (h.below hb)
  clear h
  go_enter Tryd.func6, Tryd.ntmps6
  go_wp2_with fail
  refine (H.out _ (by first | exact Below.refl _ _ | exact sbox1 _ _ | exact sbox2 _ _ _)).mono ?_; rintro e w1 ⟨rfl, rfl⟩
  go_wp2
  go_ret2
  exact ⟨rfl, by first | exact Below.refl _ _ | exact sbox1 _ _ | exact sbox2 _ _ _⟩

end Go.Proofs.YtmlnpgbnbchbkaaDoor

