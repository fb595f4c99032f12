/-
  meta.newest and meta.Newest: contracts for the walks.
  meta.Newest and the reference's: contracts for the walks.
  pager: all calls of a pager that no call made; Open and Format of a disk that no call made.
-/
import Derived.Test.YtfpdcfomfikkiaaGreatDoorH11
import Derived.Test.YtfpdcfomfikkiaaGreatDoorH02
set_option linter.unusedVariables false
set_option maxRecDepth 100000
namespace Go.Proofs.YtfpdcfomfikkiaaGreatDoor
open Go.RowKit

theorem set4 {w : World} {g : Nat} {x0 x1 x2 x3 : Value} {t : TypeId} (h : w.heap[g]? = some (.cells #[x0, x1, x2, x3] t (0, 0))) (a b c d : Value) :
    ((((w.setCell ⟨g, 0, none⟩ a).setCell ⟨g, 1, none⟩ b).setCell ⟨g, 2, none⟩ c).setCell ⟨g, 3, none⟩ d).heap[g]? = some (.cells #[a, b, c, d] t (0, 0)) :=
  heap_setCell_same _ g 3 _ t d (heap_setCell_same _ g 2 _ t c (heap_setCell_same _ g 1 _ t b (heap_setCell_same w g 0 _ t a h)))
theorem set4_other {w : World} {g k : Nat} (hk : k ≠ g) (a b c d : Value) :
    ((((w.setCell ⟨g, 0, none⟩ a).setCell ⟨g, 1, none⟩ b).setCell ⟨g, 2, none⟩ c).setCell ⟨g, 3, none⟩ d).heap[k]? = w.heap[k]? := by
  rw [heap_setCell_other _ _ _ _ hk, heap_setCell_other _ _ _ _ hk, heap_setCell_other _ _ _ _ hk, heap_setCell_other _ _ _ _ hk]
theorem set4_below {B g : Nat} {w0 w : World} (h : Below B w0 w) (hg : B ≤ g) (a b c d : Value) :
    Below B w0 ((((w.setCell ⟨g, 0, none⟩ a).setCell ⟨g, 1, none⟩ b).setCell ⟨g, 2, none⟩ c).setCell ⟨g, 3, none⟩ d) :=
  (((h.setCell hg _).setCell hg _).setCell hg _).setCell hg _

def m4 (g r n d : Nat) : Array Value := #[.int .i64 (g : Int), .int .i64 (r : Int), .int .i64 (n : Int), .int .i64 (d : Int)]
/-- The best one so far. -/
def bestC (a b : Array Value) : Nat → Array Value
  | 0 => #[.int .i64 0, .int .i64 0, .int .i64 0, .int .i64 0]
  | 1 => a
  | _ => b

set_option maxHeartbeats 1600000 in
theorem mnewest_any {w : World} {g : Nat} {ga ra na da gb rb nb db G R N D : Nat} (hg : g < w.heap.size)
    (k0 : w.cell? ⟨g, 0, none⟩ = some (.int .i64 (ga : Int))) (k1 : w.cell? ⟨g, 1, none⟩ = some (.int .i64 (ra : Int))) (k2 : w.cell? ⟨g, 2, none⟩ = some (.int .i64 (na : Int))) (k3 : w.cell? ⟨g, 3, none⟩ = some (.int .i64 (da : Int)))
    (k4 : w.cell? ⟨g, 4, none⟩ = some (.int .i64 (gb : Int))) (k5 : w.cell? ⟨g, 5, none⟩ = some (.int .i64 (rb : Int))) (k6 : w.cell? ⟨g, 6, none⟩ = some (.int .i64 (nb : Int))) (k7 : w.cell? ⟨g, 7, none⟩ = some (.int .i64 (db : Int)))
    (hz : ga = 0 → ra = 0 ∧ na = 0 ∧ da = 0) (hs : (ga < gb ∧ G = gb ∧ R = rb ∧ N = nb ∧ D = db) ∨ (¬ ga < gb ∧ G = ga ∧ R = ra ∧ N = na ∧ D = da)) :
    Calls Tryz.prog 81 #[.slice (some ⟨g, 0, none⟩) 2 2] w fun e w' => e = .returned (.agg #[.int .i64 (G : Int), .int .i64 (R : Int), .int .i64 (N : Int), .int .i64 (D : Int)]) ∧ Below w.heap.size w w' := by
  have HK : Hid (∀ w', Below w.heap.size w w' → ∀ i, w'.cell? ⟨g, i, none⟩ = w.cell? ⟨g, i, none⟩) := Lib.hid fun w' hb i => hb.cell (p := ⟨g, i, none⟩) hg
  have HZ := Lib.hid hz
  have HS := Lib.hid hs
  have K0 := Lib.hid k0
  have K1 := Lib.hid k1
  have K2 := Lib.hid k2
  have K3 := Lib.hid k3
  have K4 := Lib.hid k4
  have K5 := Lib.hid k5
  have K6 := Lib.hid k6
  have K7 := Lib.hid k7
  clear k0 k1 k2 k3 k4 k5 k6 k7 hz hs hg
  go_enter Tryz.func81, Tryz.ntmps81
  go_wp2_with fail
  go_loopw [5, 8] (fun _ i wr => ∃ j : Nat, i = .int .i64 j ∧ j ≤ 2 ∧ wr.heap[w.heap.size + 1]? = some (.cells (bestC (m4 ga ra na da) (m4 G R N D) j) 57 (0, 0)) ∧ wr.heap[w.heap.size]? = some (.cells #[.int .i64 0, .int .i64 0, .int .i64 0, .int .i64 0] 57 (0, 0)) ∧ w.heap.size + 2 ≤ wr.heap.size ∧ Below w.heap.size w wr) (fun _ i _ => 2 - (intOf i).toNat)
  case atStart =>
    obtain ⟨b0, b1, b2, b3⟩ := boxes w #[.int .i64 0, .int .i64 0, .int .i64 0, .int .i64 0] #[.int .i64 0, .int .i64 0, .int .i64 0, .int .i64 0] 57 57
    exact ⟨0, rfl, by omega, b1, b0, by omega, b2⟩
  case round =>
    obtain ⟨j, rfl, hj, hA, hR, hsz, hb⟩ := hrel
    have HB := Lib.hid hb
    have HR := Lib.hid hR
    have hlt : w.heap.size + 1 < wr.heap.size := by omega
    have hlt0 : w.heap.size < wr.heap.size := by omega
    rcases (show j = 0 ∨ j = 1 ∨ j = 2 from by omega) with rfl | rfl | rfl
    · have i0 := (HK.out _ HB.out 0).trans K0.out
      have i1 := (HK.out _ HB.out 1).trans K1.out
      have i2 := (HK.out _ HB.out 2).trans K2.out
      have i3 := (HK.out _ HB.out 3).trans K3.out
      replace hA : wr.heap[w.heap.size + 1]? = some (.cells #[.int .i64 0, .int .i64 0, .int .i64 0, .int .i64 0] 57 (0, 0)) := hA
      have HA := Lib.hid hA
      have d0 : wr.cell? ⟨w.heap.size + 1, 0, none⟩ = some (.int .i64 0) := by rw [Joins.cell_of_block hA]; rfl
      have d1 : wr.cell? ⟨w.heap.size + 1, 1, none⟩ = some (.int .i64 0) := by rw [Joins.cell_of_block hA]; rfl
      have d2 : wr.cell? ⟨w.heap.size + 1, 2, none⟩ = some (.int .i64 0) := by rw [Joins.cell_of_block hA]; rfl
      have d3 : wr.cell? ⟨w.heap.size + 1, 3, none⟩ = some (.int .i64 0) := by rw [Joins.cell_of_block hA]; rfl
      have z0 : wr.frozen? ⟨w.heap.size + 1, 0, none⟩ = false := Joins.unfrozen_of_block hA 0
      have z1 : wr.frozen? ⟨w.heap.size + 1, 1, none⟩ = false := Joins.unfrozen_of_block hA 1
      have z2 : wr.frozen? ⟨w.heap.size + 1, 2, none⟩ = false := Joins.unfrozen_of_block hA 2
      have z3 : wr.frozen? ⟨w.heap.size + 1, 3, none⟩ = false := Joins.unfrozen_of_block hA 3
      clear hA hR hb
      by_cases h0 : ga = 0
      · obtain ⟨e1, e2, e3⟩ := HZ.out h0
        subst h0 e1 e2 e3
        go_wp2_with fail
        go_roundw
        case rel => exact ⟨1, rfl, by omega, by rw [Below.heap_alloc _ _ _ (by omega)]; exact HA.out, by rw [Below.heap_alloc _ _ _ (by omega)]; exact HR.out, by simp; omega, HB.out.alloc HB.out.size _⟩
        case measure => simp [intOf]
      · have hgt : (0 : Int) < (ga : Int) := by omega
        have hgt2 : 0 < ga := by omega
        go_wp2_with fail
        go_roundw
        case rel => exact ⟨1, rfl, by omega, by rw [Below.heap_alloc _ _ _ (by simp; omega)]; exact set4 HA.out _ _ _ _, by rw [Below.heap_alloc _ _ _ (by simp; omega), set4_other (by omega)]; exact HR.out, by simp; omega, (set4_below HB.out (by omega) _ _ _ _).alloc (by simp; omega) _⟩
        case measure => simp [intOf]
    · have i4 := (HK.out _ HB.out 4).trans K4.out
      have i5 := (HK.out _ HB.out 5).trans K5.out
      have i6 := (HK.out _ HB.out 6).trans K6.out
      have i7 := (HK.out _ HB.out 7).trans K7.out
      replace hA : wr.heap[w.heap.size + 1]? = some (.cells #[.int .i64 (ga : Int), .int .i64 (ra : Int), .int .i64 (na : Int), .int .i64 (da : Int)] 57 (0, 0)) := hA
      have HA := Lib.hid hA
      have d0 : wr.cell? ⟨w.heap.size + 1, 0, none⟩ = some (.int .i64 (ga : Int)) := by rw [Joins.cell_of_block hA]; rfl
      have d1 : wr.cell? ⟨w.heap.size + 1, 1, none⟩ = some (.int .i64 (ra : Int)) := by rw [Joins.cell_of_block hA]; rfl
      have d2 : wr.cell? ⟨w.heap.size + 1, 2, none⟩ = some (.int .i64 (na : Int)) := by rw [Joins.cell_of_block hA]; rfl
      have d3 : wr.cell? ⟨w.heap.size + 1, 3, none⟩ = some (.int .i64 (da : Int)) := by rw [Joins.cell_of_block hA]; rfl
      have z0 : wr.frozen? ⟨w.heap.size + 1, 0, none⟩ = false := Joins.unfrozen_of_block hA 0
      have z1 : wr.frozen? ⟨w.heap.size + 1, 1, none⟩ = false := Joins.unfrozen_of_block hA 1
      have z2 : wr.frozen? ⟨w.heap.size + 1, 2, none⟩ = false := Joins.unfrozen_of_block hA 2
      have z3 : wr.frozen? ⟨w.heap.size + 1, 3, none⟩ = false := Joins.unfrozen_of_block hA 3
      clear hA hR hb
      rcases HS.out with ⟨h0, rfl, rfl, rfl, rfl⟩ | ⟨h0, rfl, rfl, rfl, rfl⟩
      · have hgt : decide ((ga : Int) < (G : Int)) = true := decide_eq_true (by omega)
        have hgt2 : decide (ga < G) = true := decide_eq_true h0
        clear h0
        go_wp2_with fail
        go_roundw
        case rel => exact ⟨2, rfl, by omega, by rw [Below.heap_alloc _ _ _ (by simp; omega)]; exact set4 HA.out _ _ _ _, by rw [Below.heap_alloc _ _ _ (by simp; omega), set4_other (by omega)]; exact HR.out, by simp; omega, (set4_below HB.out (by omega) _ _ _ _).alloc (by simp; omega) _⟩
        case measure => simp [intOf]
      · have hgt : decide ((G : Int) < (gb : Int)) = false := decide_eq_false (by omega)
        have hgt2 : decide (G < gb) = false := decide_eq_false h0
        clear h0
        go_wp2_with fail
        go_roundw
        case rel => exact ⟨2, rfl, by omega, by rw [Below.heap_alloc _ _ _ (by omega)]; exact HA.out, by rw [Below.heap_alloc _ _ _ (by omega)]; exact HR.out, by simp; omega, HB.out.alloc HB.out.size _⟩
        case measure => simp [intOf]
    · replace hA : wr.heap[w.heap.size + 1]? = some (.cells #[.int .i64 (G : Int), .int .i64 (R : Int), .int .i64 (N : Int), .int .i64 (D : Int)] 57 (0, 0)) := hA
      have d0 : wr.cell? ⟨w.heap.size + 1, 0, none⟩ = some (.int .i64 (G : Int)) := by rw [Joins.cell_of_block hA]; rfl
      have d1 : wr.cell? ⟨w.heap.size + 1, 1, none⟩ = some (.int .i64 (R : Int)) := by rw [Joins.cell_of_block hA]; rfl
      have d2 : wr.cell? ⟨w.heap.size + 1, 2, none⟩ = some (.int .i64 (N : Int)) := by rw [Joins.cell_of_block hA]; rfl
      have d3 : wr.cell? ⟨w.heap.size + 1, 3, none⟩ = some (.int .i64 (D : Int)) := by rw [Joins.cell_of_block hA]; rfl
      have c0 : wr.cell? ⟨w.heap.size, 0, none⟩ = some (.int .i64 0) := by rw [Joins.cell_of_block hR]; rfl
      have c1 : wr.cell? ⟨w.heap.size, 1, none⟩ = some (.int .i64 0) := by rw [Joins.cell_of_block hR]; rfl
      have c2 : wr.cell? ⟨w.heap.size, 2, none⟩ = some (.int .i64 0) := by rw [Joins.cell_of_block hR]; rfl
      have c3 : wr.cell? ⟨w.heap.size, 3, none⟩ = some (.int .i64 0) := by rw [Joins.cell_of_block hR]; rfl
      have z0 : wr.frozen? ⟨w.heap.size, 0, none⟩ = false := Joins.unfrozen_of_block hR 0
      have z1 : wr.frozen? ⟨w.heap.size, 1, none⟩ = false := Joins.unfrozen_of_block hR 1
      have z2 : wr.frozen? ⟨w.heap.size, 2, none⟩ = false := Joins.unfrozen_of_block hR 2
      have z3 : wr.frozen? ⟨w.heap.size, 3, none⟩ = false := Joins.unfrozen_of_block hR 3
      clear hA hR hb
      go_wp2_with fail
      refine bodyPost_ret (v := .agg #[.int .i64 (G : Int), .int .i64 (R : Int), .int .i64 (N : Int), .int .i64 (D : Int)]) (by simp [results, Tryz.results81, go_sem, c0, c1, c2, c3]) rfl ⟨rfl, ?_⟩
      exact set4_below HB.out (Nat.le_refl _) _ _ _ _

end Go.Proofs.YtfpdcfomfikkiaaGreatDoor

set_option linter.unusedVariables false
set_option maxRecDepth 100000
namespace Go.Proofs.YtfpdcfomfikkiaaGreatDoor
open Go.RowKit

/-- What Newest tells. -/
def MNewPost (w : World) (G R N D : Nat) (e : Ending) (w' : World) : Prop :=
  e = .returned (.tuple #[.agg #[.int .i64 (G : Int), .int .i64 (R : Int), .int .i64 (N : Int), .int .i64 (D : Int)], .bool (decide (G ≠ 0))]) ∧ Below w.heap.size w w'

/-- The facts on two that Newest asks. -/
structure MTwo (ga ra na da ea gb rb nb db eb G R N D : Nat) : Prop where
  za : ga = 0 → ra = 0 ∧ na = 0 ∧ da = 0
  zb : gb = 0 → rb = 0 ∧ nb = 0 ∧ db = 0
  ea : ea = 0 ↔ ga ≠ 0
  eb : eb = 0 ↔ gb ≠ 0
  sel : (ga < gb ∧ G = gb ∧ R = rb ∧ N = nb ∧ D = db) ∨ (¬ ga < gb ∧ G = ga ∧ R = ra ∧ N = na ∧ D = da)

theorem m_zero {l : List UInt8} {no : Int} (h : mG l no = 0) : mR l no = 0 ∧ mN l no = 0 ∧ mD l no = 0 := by
  by_cases h1 : mE l no = 0
  · exact absurd h (m_gen.1 h1)
  · exact (m_none h1).2
theorem mTwo (a b : List UInt8) : MTwo (mG a 0) (mR a 0) (mN a 0) (mD a 0) (mE a 0) (mG b 1) (mR b 1) (mN b 1) (mD b 1) (mE b 1) (newG a b) (newR a b) (newN a b) (newD a b) := by
  refine ⟨m_zero, m_zero, m_gen, m_gen, ?_⟩
  unfold newG newR newN newD
  by_cases h : mG a 0 < mG b 1
  · left
    simp [h]
  · right
    simp [h]

set_option maxHeartbeats 1600000 in
theorem mNewest_any {w : World} (hT : Tab w) {p : Option Addr} {a : List UInt8} (ha : Bs w p a) {n c : Nat} (hn : n = a.length) (hnc : n ≤ c) (hc : c ≤ 9223372036854775807)
    {q : Option Addr} {b : List UInt8} (hb : Bs w q b) {k d : Nat} (hk : k = b.length) (hkd : k ≤ d) (hd : d ≤ 9223372036854775807) :
    Calls Tryz.prog 43 #[.slice p n c, .slice q k d] w (MNewPost w (newG a b) (newR a b) (newN a b) (newD a b)) := by
  obtain ⟨W0, hW0⟩ : ∃ W0, W0 = w.alloc (.cells #[.int .i64 0, .int .i64 0, .int .i64 0, .int .i64 0] 57) := ⟨_, rfl⟩
  have HZ : Hid (Below w.heap.size w W0) := Lib.hid (by rw [hW0]; exact (Below.refl _ _).alloc (Nat.le_refl _) _)
  have HR : Hid (∀ w', Below W0.heap.size W0 w' → ∀ i, w'.cell? ⟨w.heap.size, i, none⟩ = (#[.int .i64 0, .int .i64 0, .int .i64 0, .int .i64 0] : Array Value)[i]? ∧ w'.frozen? ⟨w.heap.size, i, none⟩ = false) := Lib.hid fun w' hb i => by rw [hW0] at hb; exact mres_cell hb i
  have HX := Lib.hid (mTwo a b)
  have HCa : Hid (Calls Tryz.prog 80 #[.slice p n c, .int .i64 0] W0 (MOpPost W0 (mG a 0) (mR a 0) (mN a 0) (mD a 0) (mE a 0))) := Lib.hid (mopen_any (hT.below hT.lt HZ.out) (ha.below HZ.out) hn hnc hc 0)
  have HCb : Hid (∀ w', Below w.heap.size w w' → Calls Tryz.prog 80 #[.slice q k d, .int .i64 1] w' (MOpPost w' (mG b 1) (mR b 1) (mN b 1) (mD b 1) (mE b 1))) := Lib.hid fun w' hw => mopen_any (hT.below hT.lt hw) (hb.below hw) hk hkd hd 1
  clear hT ha hn hnc hc hb hk hkd hd
  generalize newG a b = G at *
  generalize newR a b = R at *
  generalize newN a b = N at *
  generalize newD a b = D at *
  generalize mG a 0 = ga at *
  generalize mR a 0 = ra at *
  generalize mN a 0 = na at *
  generalize mD a 0 = da at *
  generalize mE a 0 = ea at *
  generalize mG b 1 = gb at *
  generalize mR b 1 = rb at *
  generalize mN b 1 = nb at *
  generalize mD b 1 = db at *
  generalize mE b 1 = eb at *
  go_enter Tryz.func43, Tryz.ntmps43
  go_wp2_with fail
  rw [← hW0]
  clear hW0
  with_reducible refine HCa.out.mono ?_
  rintro e w1 ⟨rfl, hb1⟩
  have HB1 := Lib.hid hb1
  clear hb1 HCa
  go_wp2_with fail
  obtain ⟨W1, hW1⟩ : ∃ W1, W1 = w1.alloc (.cells #[.int .i64 (ga : Int), .int .i64 (ra : Int), .int .i64 (na : Int), .int .i64 (da : Int)] 57) := ⟨_, rfl⟩
  rw [← hW1]
  have HB1' : Hid (Below W0.heap.size W0 W1) := Lib.hid (by rw [hW1]; exact HB1.out.alloc HB1.out.size _)
  have HMa : Hid (∀ w', Below W1.heap.size W1 w' → ∀ i, w'.cell? ⟨w1.heap.size, i, none⟩ = (#[.int .i64 (ga : Int), .int .i64 (ra : Int), .int .i64 (na : Int), .int .i64 (da : Int)] : Array Value)[i]? ∧ w'.frozen? ⟨w1.heap.size, i, none⟩ = false) := Lib.hid fun w' hb i => by rw [hW1] at hb; exact mres_cell hb i
  clear hW1 HB1
  with_reducible refine (HCb.out _ (HZ.out.trans (HB1'.out.mono HZ.out.size))).mono ?_
  rintro e w2 ⟨rfl, hb2⟩
  have HB2 := Lib.hid hb2
  obtain ⟨i0, _⟩ := HMa.out _ hb2 0
  obtain ⟨i1, _⟩ := HMa.out _ hb2 1
  obtain ⟨i2, _⟩ := HMa.out _ hb2 2
  obtain ⟨i3, _⟩ := HMa.out _ hb2 3
  replace i0 : w2.cell? ⟨w1.heap.size, 0, none⟩ = some (.int .i64 (ga : Int)) := i0
  replace i1 : w2.cell? ⟨w1.heap.size, 1, none⟩ = some (.int .i64 (ra : Int)) := i1
  replace i2 : w2.cell? ⟨w1.heap.size, 2, none⟩ = some (.int .i64 (na : Int)) := i2
  replace i3 : w2.cell? ⟨w1.heap.size, 3, none⟩ = some (.int .i64 (da : Int)) := i3
  have hlt : w1.heap.size < w2.heap.size := World.block_lt_of_cell? _ _ i0
  clear hb2 HCb
  go_wp2_with fail
  obtain ⟨W2, hW2⟩ : ∃ W2, W2 = (w2.alloc (.cells #[.int .i64 (gb : Int), .int .i64 (rb : Int), .int .i64 (nb : Int), .int .i64 (db : Int)] 57)).alloc (.cells #[.int .i64 (ga : Int), .int .i64 (ra : Int), .int .i64 (na : Int), .int .i64 (da : Int), .int .i64 (gb : Int), .int .i64 (rb : Int), .int .i64 (nb : Int), .int .i64 (db : Int)] 57) := ⟨_, rfl⟩
  rw [← hW2]
  obtain ⟨_, x1, x2, x3⟩ := boxes w2 #[.int .i64 (gb : Int), .int .i64 (rb : Int), .int .i64 (nb : Int), .int .i64 (db : Int)] #[.int .i64 (ga : Int), .int .i64 (ra : Int), .int .i64 (na : Int), .int .i64 (da : Int), .int .i64 (gb : Int), .int .i64 (rb : Int), .int .i64 (nb : Int), .int .i64 (db : Int)] 57 57
  rw [← hW2] at x1 x2 x3
  have HC := Lib.hid (mnewest_any (w := W2) (g := w2.heap.size + 1) (ga := ga) (ra := ra) (na := na) (da := da) (gb := gb) (rb := rb) (nb := nb) (db := db) (by omega)
    (by rw [Joins.cell_of_block x1]; rfl) (by rw [Joins.cell_of_block x1]; rfl) (by rw [Joins.cell_of_block x1]; rfl) (by rw [Joins.cell_of_block x1]; rfl)
    (by rw [Joins.cell_of_block x1]; rfl) (by rw [Joins.cell_of_block x1]; rfl) (by rw [Joins.cell_of_block x1]; rfl) (by rw [Joins.cell_of_block x1]; rfl) HX.out.za HX.out.sel)
  have HB3 : Hid (Below W0.heap.size W0 W2) := Lib.hid ((HB1'.out.trans (HB2.out.mono HB1'.out.size)).trans (x2.mono (HB1'.out.trans (HB2.out.mono HB1'.out.size)).size))
  clear hW2 x1 x2 x3 i0 i1 i2 i3 hlt HMa HB2 HB1'
  with_reducible refine HC.out.mono ?_
  rintro e w3 ⟨rfl, hb3⟩
  have HB4 : Hid (Below W0.heap.size W0 w3) := Lib.hid (HB3.out.trans (hb3.mono HB3.out.size))
  clear hb3 HC HB3
  go_wp2_with fail
  obtain ⟨W3, hW3⟩ : ∃ W3, W3 = w3.alloc (.cells #[.int .i64 (G : Int), .int .i64 (R : Int), .int .i64 (N : Int), .int .i64 (D : Int)] 57) := ⟨_, rfl⟩
  rw [← hW3]
  have HB5 : Hid (Below W0.heap.size W0 W3) := Lib.hid (by rw [hW3]; exact HB4.out.alloc HB4.out.size _)
  have hm : ∀ i, W3.cell? ⟨w3.heap.size, i, none⟩ = (#[.int .i64 (G : Int), .int .i64 (R : Int), .int .i64 (N : Int), .int .i64 (D : Int)] : Array Value)[i]? ∧ W3.frozen? ⟨w3.heap.size, i, none⟩ = false := fun i => by rw [hW3]; exact mres_cell (Below.refl _ _) i
  obtain ⟨b0, _⟩ := hm 0
  obtain ⟨b1, _⟩ := hm 1
  obtain ⟨b2, _⟩ := hm 2
  obtain ⟨b3, _⟩ := hm 3
  obtain ⟨c0, z0⟩ := HR.out _ HB5.out 0
  obtain ⟨c1, z1⟩ := HR.out _ HB5.out 1
  obtain ⟨c2, z2⟩ := HR.out _ HB5.out 2
  obtain ⟨c3, z3⟩ := HR.out _ HB5.out 3
  have hlt : w.heap.size < w3.heap.size := by
    have h1 := World.block_lt_of_cell? _ _ c0
    have h2 := (HR.out _ HB4.out 0).1
    exact World.block_lt_of_cell? _ _ h2
  have hne : w.heap.size ≠ w3.heap.size := by omega
  replace b0 : W3.cell? ⟨w3.heap.size, 0, none⟩ = some (.int .i64 (G : Int)) := b0
  replace b1 : W3.cell? ⟨w3.heap.size, 1, none⟩ = some (.int .i64 (R : Int)) := b1
  replace b2 : W3.cell? ⟨w3.heap.size, 2, none⟩ = some (.int .i64 (N : Int)) := b2
  replace b3 : W3.cell? ⟨w3.heap.size, 3, none⟩ = some (.int .i64 (D : Int)) := b3
  replace c0 : W3.cell? ⟨w.heap.size, 0, none⟩ = some (.int .i64 0) := c0
  replace c1 : W3.cell? ⟨w.heap.size, 1, none⟩ = some (.int .i64 0) := c1
  replace c2 : W3.cell? ⟨w.heap.size, 2, none⟩ = some (.int .i64 0) := c2
  replace c3 : W3.cell? ⟨w.heap.size, 3, none⟩ = some (.int .i64 0) := c3
  have HZ3 : Hid (Below w.heap.size w W3) := Lib.hid (HZ.out.trans (HB5.out.mono HZ.out.size))
  clear hm hW3 HR HB4 HB5 hlt
  by_cases hG : G = 0
  · obtain ⟨rfl, rfl, rfl⟩ : R = 0 ∧ N = 0 ∧ D = 0 := by
      rcases HX.out.sel with ⟨_, h1, h2, h3, h4⟩ | ⟨_, h1, h2, h3, h4⟩
      · have := HX.out.zb (by omega)
        omega
      · have := HX.out.za (by omega)
        omega
    subst hG
    clear HX
    go_region
    go_wp2_with fail
    refine bodyPost_ret (v := .tuple #[.agg #[.int .i64 0, .int .i64 0, .int .i64 0, .int .i64 0], .bool false]) (by simp [results, Tryz.results43, go_sem, c0, c1, c2, c3]) rfl ⟨rfl, ?_⟩
    exact set4_below HZ3.out.drew (Nat.le_refl _) _ _ _ _
  · have HG : Hid (decide (G ≠ 0) = true) := Lib.hid (decide_eq_true hG)
    have hg1 : ((G : Int) == 0) = false := by rw [beq_eq_false_iff_ne]; omega
    have hg2 : ¬ (G : Int) = 0 := by omega
    clear HX
    go_region
    go_wp2_with fail
    refine bodyPost_ret (v := .tuple #[.agg #[.int .i64 (G : Int), .int .i64 (R : Int), .int .i64 (N : Int), .int .i64 (D : Int)], .bool true]) (by simp [results, Tryz.results43, go_sem, c0, c1, c2, c3]) rfl ⟨by rw [HG.out], ?_⟩
    exact set4_below HZ3.out.drew (Nat.le_refl _) _ _ _ _

end Go.Proofs.YtfpdcfomfikkiaaGreatDoor

set_option linter.unusedVariables false
set_option maxRecDepth 100000
namespace Go.Proofs.YtfpdcfomfikkiaaGreatDoor
open Go.RowKit

/-- A pager that no call made. -/
def GrNone (w : World) (d : Option Addr) : Prop := d = none ∨ ∃ p, d = some ⟨p, 0, none⟩ ∧ w.cell? ⟨p, 0, none⟩ = some (.pointer none)

theorem GrNone.below {w w' : World} {d : Option Addr} (h : GrNone w d) (hb : Below w.heap.size w w') : GrNone w' d := by
  rcases h with h | ⟨p, h, hc⟩
  · exact .inl h
  · exact .inr ⟨p, h, by rw [hb.cell (p := ⟨p, 0, none⟩) (World.block_lt_of_cell? _ _ hc)]; exact hc⟩

set_option maxHeartbeats 400000 in
theorem grMade_no {w : World} {d : Option Addr} (h : GrNone w d) :
    Calls Tryz.prog 18 #[.pointer d] w fun e w' => e = .returned (.bool false) ∧ w = w' := by
  rcases h with rfl | ⟨p, rfl, hc⟩
  · go_enter Tryz.func18, Tryz.ntmps18
    go_wp2
    go_ret
    exact ⟨rfl, rfl⟩
  · go_enter Tryz.func18, Tryz.ntmps18
    go_wp2
    go_ret
    exact ⟨rfl, rfl⟩

set_option maxHeartbeats 400000 in
theorem grMade_yes {w : World} {p : Nat} {a : Addr} (hc : w.cell? ⟨p, 0, none⟩ = some (.pointer (some a))) :
    Calls Tryz.prog 18 #[.pointer (some ⟨p, 0, none⟩)] w fun e w' => e = .returned (.bool true) ∧ w = w' := by
  go_enter Tryz.func18, Tryz.ntmps18
  go_wp2
  go_ret
  exact ⟨rfl, rfl⟩

set_option maxHeartbeats 400000 in
theorem grLen_no {w : World} {d : Option Addr} (h : Nobody w d) :
    Calls Tryz.prog 39 #[.pointer d] w fun e w' => e = .returned (.int .i64 0) ∧ w = w' := by
  have H := Lib.hid (made_no h)
  clear h
  go_enter Tryz.func39, Tryz.ntmps39
  go_wp2_with fail
  refine H.out.mono ?_; rintro e w1 ⟨rfl, rfl⟩
  go_wp2
  go_ret
  exact ⟨rfl, rfl⟩

set_option maxHeartbeats 400000 in
theorem grKeep_no {w : World} {d : Option Addr} (h : GrNone w d) (v : Value) :
    Calls Tryz.prog 17 #[.pointer d, v] w fun e w' => e = .returned (.int .i64 1) ∧ Below w.heap.size w w' := by
  have H := Lib.hid fun w' (hb : Below w.heap.size w w') => grMade_no (h.below hb)
  clear h
  go_enter Tryz.func17, Tryz.ntmps17
  go_wp2_with fail
  refine (H.out _ (by first | exact Below.refl _ _ | exact sbox1 _ _ | exact sbox2 _ _ _)).mono ?_; rintro e w1 ⟨rfl, rfl⟩
  go_wp2
  go_ret
  exact ⟨rfl, by first | exact Below.refl _ _ | exact sbox1 _ _ | exact sbox2 _ _ _⟩

set_option maxHeartbeats 400000 in
theorem grLay_no {w : World} {d : Option Addr} (h : GrNone w d) (k : Int) (v : Value) :
    Calls Tryz.prog 7 #[.pointer d, .int .u8 k, v] w fun e w' => e = .returned (.tuple #[.int .i64 0, .int .i64 1]) ∧ Below w.heap.size w w' := by
  have H := Lib.hid fun w' (hb : Below w.heap.size w w') => grMade_no (h.below hb)
  clear h
  go_enter Tryz.func7, Tryz.ntmps7
  go_wp2_with fail
  refine (H.out _ (by first | exact Below.refl _ _ | exact sbox1 _ _ | exact sbox2 _ _ _)).mono ?_; rintro e w1 ⟨rfl, rfl⟩
  go_wp2
  go_ret2
  exact ⟨rfl, by first | exact Below.refl _ _ | exact sbox1 _ _ | exact sbox2 _ _ _⟩

set_option maxHeartbeats 400000 in
theorem grRead_no {w : World} {d : Option Addr} (h : GrNone w d) (k : Int) :
    Calls Tryz.prog 56 #[.pointer d, .int .i64 k] w fun e w' => e = .returned (.tuple #[.int .u8 0, .slice none 0 0, .int .i64 1]) ∧ Below w.heap.size w w' := by
  have H := Lib.hid fun w' (hb : Below w.heap.size w w') => grMade_no (h.below hb)
  clear h
  go_enter Tryz.func56, Tryz.ntmps56
  go_wp2_with fail
  refine (H.out _ (by first | exact Below.refl _ _ | exact sbox1 _ _ | exact sbox2 _ _ _)).mono ?_; rintro e w1 ⟨rfl, rfl⟩
  go_wp2
  exact bodyPost_ret (v := .tuple #[.int .u8 0, .slice none 0 0, .int .i64 1]) (by simp [results, Tryz.results56, go_sem]) rfl ⟨rfl, by first | exact Below.refl _ _ | exact sbox1 _ _ | exact sbox2 _ _ _⟩

set_option maxHeartbeats 400000 in
theorem grDrop_no {w : World} {d : Option Addr} (h : GrNone w d) (k : Int) :
    Calls Tryz.prog 132 #[.pointer d, .int .i64 k] w fun e w' => e = .returned (.int .i64 1) ∧ Below w.heap.size w w' := by
  have H := Lib.hid fun w' (hb : Below w.heap.size w w') => grMade_no (h.below hb)
  clear h
  go_enter Tryz.func132, Tryz.ntmps132
  go_wp2_with fail
  refine (H.out _ (by first | exact Below.refl _ _ | exact sbox1 _ _ | exact sbox2 _ _ _)).mono ?_; rintro e w1 ⟨rfl, rfl⟩
  go_wp2
  go_ret
  exact ⟨rfl, by first | exact Below.refl _ _ | exact sbox1 _ _ | exact sbox2 _ _ _⟩

set_option maxHeartbeats 400000 in
theorem grFormat_no {w : World} {d : Option Addr} (h : Nobody w d) :
    Calls Tryz.prog 15 #[.pointer d] w fun e w' => e = .returned (.int .i64 1) ∧ Below w.heap.size w w' := by
  have H := Lib.hid fun w' (hb : Below w.heap.size w w') => grLen_no (h.below hb)
  clear h
  go_enter Tryz.func15, Tryz.ntmps15
  go_wp2_with fail
  refine (H.out _ (by first | exact Below.refl _ _ | exact sbox1 _ _ | exact sbox2 _ _ _)).mono ?_; rintro e w1 ⟨rfl, rfl⟩
  go_wp2
  go_ret
  exact ⟨rfl, by first | exact Below.refl _ _ | exact sbox1 _ _ | exact sbox2 _ _ _⟩

set_option maxHeartbeats 400000 in
theorem grOpen_no {w : World} {d : Option Addr} (h : Nobody w d) :
    Calls Tryz.prog 16 #[.pointer d] w fun e w' => e = .returned (.tuple #[.pointer none, .int .i64 1]) ∧ Below w.heap.size w w' := by
  have H := Lib.hid fun w' (hb : Below w.heap.size w w') => grLen_no (h.below hb)
  clear h
  go_enter Tryz.func16, Tryz.ntmps16
  go_wp2_with fail
  refine (H.out _ (by first | exact Below.refl _ _ | exact sbox1 _ _ | exact sbox2 _ _ _)).mono ?_; rintro e w1 ⟨rfl, rfl⟩
  go_wp2
  go_ret2
  exact ⟨rfl, by first | exact Below.refl _ _ | exact sbox1 _ _ | exact sbox2 _ _ _⟩

end Go.Proofs.YtfpdcfomfikkiaaGreatDoor

