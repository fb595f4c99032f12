/-
  meta.newest and meta.Newest: contracts for the walks.
-/
import Derived.Test.YtpklapgcdilghaaDoorMtOpenW
set_option linter.unusedVariables false
set_option maxRecDepth 100000
namespace Go.Proofs.YtpklapgcdilghaaDoor
open Go.RowKit

theorem set4 {w : World} {g : Nat} {x0 x1 x2 x3 : Value} {t : TypeId} (h : w.heap[g]? = some (.cells #[x0, x1, x2, x3] t (0, 0))) (a b c d : Value) :
    ((((w.setCell ⟨g, 0, none⟩ a).setCell ⟨g, 1, none⟩ b).setCell ⟨g, 2, none⟩ c).setCell ⟨g, 3, none⟩ d).heap[g]? = some (.cells #[a, b, c, d] t (0, 0)) :=
  heap_setCell_same _ g 3 _ t d (heap_setCell_same _ g 2 _ t c (heap_setCell_same _ g 1 _ t b (heap_setCell_same w g 0 _ t a h)))
theorem set4_other {w : World} {g k : Nat} (hk : k ≠ g) (a b c d : Value) :
    ((((w.setCell ⟨g, 0, none⟩ a).setCell ⟨g, 1, none⟩ b).setCell ⟨g, 2, none⟩ c).setCell ⟨g, 3, none⟩ d).heap[k]? = w.heap[k]? := by
  rw [heap_setCell_other _ _ _ _ hk, heap_setCell_other _ _ _ _ hk, heap_setCell_other _ _ _ _ hk, heap_setCell_other _ _ _ _ hk]
theorem set4_below {B g : Nat} {w0 w : World} (h : Below B w0 w) (hg : B ≤ g) (a b c d : Value) :
    Below B w0 ((((w.setCell ⟨g, 0, none⟩ a).setCell ⟨g, 1, none⟩ b).setCell ⟨g, 2, none⟩ c).setCell ⟨g, 3, none⟩ d) :=
  (((h.setCell hg _).setCell hg _).setCell hg _).setCell hg _

def m4 (g r n d : Nat) : Array Value := #[.int .i64 (g : Int), .int .i64 (r : Int), .int .i64 (n : Int), .int .i64 (d : Int)]
/-- The best one so far. -/
def bestC (a b : Array Value) : Nat → Array Value
  | 0 => #[.int .i64 0, .int .i64 0, .int .i64 0, .int .i64 0]
  | 1 => a
  | _ => b

set_option maxHeartbeats 1600000 in
theorem mnewest_any {w : World} {g : Nat} {ga ra na da gb rb nb db G R N D : Nat} (hg : g < w.heap.size)
    (k0 : w.cell? ⟨g, 0, none⟩ = some (.int .i64 (ga : Int))) (k1 : w.cell? ⟨g, 1, none⟩ = some (.int .i64 (ra : Int))) (k2 : w.cell? ⟨g, 2, none⟩ = some (.int .i64 (na : Int))) (k3 : w.cell? ⟨g, 3, none⟩ = some (.int .i64 (da : Int)))
    (k4 : w.cell? ⟨g, 4, none⟩ = some (.int .i64 (gb : Int))) (k5 : w.cell? ⟨g, 5, none⟩ = some (.int .i64 (rb : Int))) (k6 : w.cell? ⟨g, 6, none⟩ = some (.int .i64 (nb : Int))) (k7 : w.cell? ⟨g, 7, none⟩ = some (.int .i64 (db : Int)))
    (hz : ga = 0 → ra = 0 ∧ na = 0 ∧ da = 0) (hs : (ga < gb ∧ G = gb ∧ R = rb ∧ N = nb ∧ D = db) ∨ (¬ ga < gb ∧ G = ga ∧ R = ra ∧ N = na ∧ D = da)) :
    Calls Tryd.prog 24 #[.slice (some ⟨g, 0, none⟩) 2 2] w fun e w' => e = .returned (.agg #[.int .i64 (G : Int), .int .i64 (R : Int), .int .i64 (N : Int), .int .i64 (D : Int)]) ∧ Below w.heap.size w w' := by
  have HK : Hid (∀ w', Below w.heap.size w w' → ∀ i, w'.cell? ⟨g, i, none⟩ = w.cell? ⟨g, i, none⟩) := Lib.hid fun w' hb i => hb.cell (p := ⟨g, i, none⟩) hg
  have HZ := Lib.hid hz
  have HS := Lib.hid hs
  have K0 := Lib.hid k0
  have K1 := Lib.hid k1
  have K2 := Lib.hid k2
  have K3 := Lib.hid k3
  have K4 := Lib.hid k4
  have K5 := Lib.hid k5
  have K6 := Lib.hid k6
  have K7 := Lib.hid k7
  clear k0 k1 k2 k3 k4 k5 k6 k7 hz hs hg
  go_enter Tryd.func24, Tryd.ntmps24
  go_wp2_with fail
  go_loopw [5, 8] (fun _ i wr => ∃ j : Nat, i = .int .i64 j ∧ j ≤ 2 ∧ wr.heap[w.heap.size + 1]? = some (.cells (bestC (m4 ga ra na da) (m4 G R N D) j) 23 (0, 0)) ∧ wr.heap[w.heap.size]? = some (.cells #[.int .i64 0, .int .i64 0, .int .i64 0, .int .i64 0] 23 (0, 0)) ∧ w.heap.size + 2 ≤ wr.heap.size ∧ Below w.heap.size w wr) (fun _ i _ => 2 - (intOf i).toNat)
  case atStart =>
    obtain ⟨b0, b1, b2, b3⟩ := boxes w #[.int .i64 0, .int .i64 0, .int .i64 0, .int .i64 0] #[.int .i64 0, .int .i64 0, .int .i64 0, .int .i64 0] 23 23
    exact ⟨0, rfl, by omega, b1, b0, by omega, b2⟩
  case round =>
    obtain ⟨j, rfl, hj, hA, hR, hsz, hb⟩ := hrel
    have HB := Lib.hid hb
    have HR := Lib.hid hR
    have hlt : w.heap.size + 1 < wr.heap.size := by omega
    have hlt0 : w.heap.size < wr.heap.size := by omega
    rcases (show j = 0 ∨ j = 1 ∨ j = 2 from by omega) with rfl | rfl | rfl
    · have i0 := (HK.out _ HB.out 0).trans K0.out
      have i1 := (HK.out _ HB.out 1).trans K1.out
      have i2 := (HK.out _ HB.out 2).trans K2.out
      have i3 := (HK.out _ HB.out 3).trans K3.out
      replace hA : wr.heap[w.heap.size + 1]? = some (.cells #[.int .i64 0, .int .i64 0, .int .i64 0, .int .i64 0] 23 (0, 0)) := hA
      have HA := Lib.hid hA
      have d0 : wr.cell? ⟨w.heap.size + 1, 0, none⟩ = some (.int .i64 0) := by rw [Joins.cell_of_block hA]; rfl
      have d1 : wr.cell? ⟨w.heap.size + 1, 1, none⟩ = some (.int .i64 0) := by rw [Joins.cell_of_block hA]; rfl
      have d2 : wr.cell? ⟨w.heap.size + 1, 2, none⟩ = some (.int .i64 0) := by rw [Joins.cell_of_block hA]; rfl
      have d3 : wr.cell? ⟨w.heap.size + 1, 3, none⟩ = some (.int .i64 0) := by rw [Joins.cell_of_block hA]; rfl
      have z0 : wr.frozen? ⟨w.heap.size + 1, 0, none⟩ = false := Joins.unfrozen_of_block hA 0
      have z1 : wr.frozen? ⟨w.heap.size + 1, 1, none⟩ = false := Joins.unfrozen_of_block hA 1
      have z2 : wr.frozen? ⟨w.heap.size + 1, 2, none⟩ = false := Joins.unfrozen_of_block hA 2
      have z3 : wr.frozen? ⟨w.heap.size + 1, 3, none⟩ = false := Joins.unfrozen_of_block hA 3
      clear hA hR hb
      by_cases h0 : ga = 0
      · obtain ⟨e1, e2, e3⟩ := HZ.out h0
        subst h0 e1 e2 e3
        go_wp2_with fail
        go_roundw
        case rel => exact ⟨1, rfl, by omega, by rw [Below.heap_alloc _ _ _ (by omega)]; exact HA.out, by rw [Below.heap_alloc _ _ _ (by omega)]; exact HR.out, by simp; omega, HB.out.alloc HB.out.size _⟩
        case measure => simp [intOf]
      · have hgt : (0 : Int) < (ga : Int) := by omega
        have hgt2 : 0 < ga := by omega
        go_wp2_with fail
        go_roundw
        case rel => exact ⟨1, rfl, by omega, by rw [Below.heap_alloc _ _ _ (by simp; omega)]; exact set4 HA.out _ _ _ _, by rw [Below.heap_alloc _ _ _ (by simp; omega), set4_other (by omega)]; exact HR.out, by simp; omega, (set4_below HB.out (by omega) _ _ _ _).alloc (by simp; omega) _⟩
        case measure => simp [intOf]
    · have i4 := (HK.out _ HB.out 4).trans K4.out
      have i5 := (HK.out _ HB.out 5).trans K5.out
      have i6 := (HK.out _ HB.out 6).trans K6.out
      have i7 := (HK.out _ HB.out 7).trans K7.out
      replace hA : wr.heap[w.heap.size + 1]? = some (.cells #[.int .i64 (ga : Int), .int .i64 (ra : Int), .int .i64 (na : Int), .int .i64 (da : Int)] 23 (0, 0)) := hA
      have HA := Lib.hid hA
      have d0 : wr.cell? ⟨w.heap.size + 1, 0, none⟩ = some (.int .i64 (ga : Int)) := by rw [Joins.cell_of_block hA]; rfl
      have d1 : wr.cell? ⟨w.heap.size + 1, 1, none⟩ = some (.int .i64 (ra : Int)) := by rw [Joins.cell_of_block hA]; rfl
      have d2 : wr.cell? ⟨w.heap.size + 1, 2, none⟩ = some (.int .i64 (na : Int)) := by rw [Joins.cell_of_block hA]; rfl
      have d3 : wr.cell? ⟨w.heap.size + 1, 3, none⟩ = some (.int .i64 (da : Int)) := by rw [Joins.cell_of_block hA]; rfl
      have z0 : wr.frozen? ⟨w.heap.size + 1, 0, none⟩ = false := Joins.unfrozen_of_block hA 0
      have z1 : wr.frozen? ⟨w.heap.size + 1, 1, none⟩ = false := Joins.unfrozen_of_block hA 1
      have z2 : wr.frozen? ⟨w.heap.size + 1, 2, none⟩ = false := Joins.unfrozen_of_block hA 2
      have z3 : wr.frozen? ⟨w.heap.size + 1, 3, none⟩ = false := Joins.unfrozen_of_block hA 3
      clear hA hR hb
      rcases HS.out with ⟨h0, rfl, rfl, rfl, rfl⟩ | ⟨h0, rfl, rfl, rfl, rfl⟩
      · have hgt : decide ((ga : Int) < (G : Int)) = true := decide_eq_true (by omega)
        have hgt2 : decide (ga < G) = true := decide_eq_true h0
        clear h0
        go_wp2_with fail
        go_roundw
        case rel => exact ⟨2, rfl, by omega, by rw [Below.heap_alloc _ _ _ (by simp; omega)]; exact set4 HA.out _ _ _ _, by rw [Below.heap_alloc _ _ _ (by simp; omega), set4_other (by omega)]; exact HR.out, by simp; omega, (set4_below HB.out (by omega) _ _ _ _).alloc (by simp; omega) _⟩
        case measure => simp [intOf]
      · have hgt : decide ((G : Int) < (gb : Int)) = false := decide_eq_false (by omega)
        have hgt2 : decide (G < gb) = false := decide_eq_false h0
        clear h0
        go_wp2_with fail
        go_roundw
        case rel => exact ⟨2, rfl, by omega, by rw [Below.heap_alloc _ _ _ (by omega)]; exact HA.out, by rw [Below.heap_alloc _ _ _ (by omega)]; exact HR.out, by simp; omega, HB.out.alloc HB.out.size _⟩
        case measure => simp [intOf]
    · replace hA : wr.heap[w.heap.size + 1]? = some (.cells #[.int .i64 (G : Int), .int .i64 (R : Int), .int .i64 (N : Int), .int .i64 (D : Int)] 23 (0, 0)) := hA
      have d0 : wr.cell? ⟨w.heap.size + 1, 0, none⟩ = some (.int .i64 (G : Int)) := by rw [Joins.cell_of_block hA]; rfl
      have d1 : wr.cell? ⟨w.heap.size + 1, 1, none⟩ = some (.int .i64 (R : Int)) := by rw [Joins.cell_of_block hA]; rfl
      have d2 : wr.cell? ⟨w.heap.size + 1, 2, none⟩ = some (.int .i64 (N : Int)) := by rw [Joins.cell_of_block hA]; rfl
      have d3 : wr.cell? ⟨w.heap.size + 1, 3, none⟩ = some (.int .i64 (D : Int)) := by rw [Joins.cell_of_block hA]; rfl
      have c0 : wr.cell? ⟨w.heap.size, 0, none⟩ = some (.int .i64 0) := by rw [Joins.cell_of_block hR]; rfl
      have c1 : wr.cell? ⟨w.heap.size, 1, none⟩ = some (.int .i64 0) := by rw [Joins.cell_of_block hR]; rfl
      have c2 : wr.cell? ⟨w.heap.size, 2, none⟩ = some (.int .i64 0) := by rw [Joins.cell_of_block hR]; rfl
      have c3 : wr.cell? ⟨w.heap.size, 3, none⟩ = some (.int .i64 0) := by rw [Joins.cell_of_block hR]; rfl
      have z0 : wr.frozen? ⟨w.heap.size, 0, none⟩ = false := Joins.unfrozen_of_block hR 0
      have z1 : wr.frozen? ⟨w.heap.size, 1, none⟩ = false := Joins.unfrozen_of_block hR 1
      have z2 : wr.frozen? ⟨w.heap.size, 2, none⟩ = false := Joins.unfrozen_of_block hR 2
      have z3 : wr.frozen? ⟨w.heap.size, 3, none⟩ = false := Joins.unfrozen_of_block hR 3
      clear hA hR hb
      go_wp2_with fail
      refine bodyPost_ret (v := .agg #[.int .i64 (G : Int), .int .i64 (R : Int), .int .i64 (N : Int), .int .i64 (D : Int)]) (by simp [results, Tryd.results24, go_sem, c0, c1, c2, c3]) rfl ⟨rfl, ?_⟩
      exact set4_below HB.out (Nat.le_refl _) _ _ _ _

end Go.Proofs.YtpklapgcdilghaaDoor
