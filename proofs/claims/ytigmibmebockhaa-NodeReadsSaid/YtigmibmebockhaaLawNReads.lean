/-
  NodeReads: the walk of the law.
-/
import Derived.Test.YtigmibmebockhaaNdRefReadK
import Derived.Test.YtigmibmebockhaaNdSame
import Derived.Deep.RegionHeld3
set_option linter.unusedVariables false
set_option linter.unusedSimpArgs false
set_option maxRecDepth 100000
namespace Go.Proofs.Ytigmibmebockhaa
open Go.RowKit

set_option maxHeartbeats 6400000 in
theorem nodeReads_law {w : World} (k : Nat) {q : Option Addr} {m c : Nat} {l : List UInt8} (hm : m = l.length) (hmc : m ≤ c) (hc : c ≤ 9223372036854775807) (hz : q = none → c = 0) (hbs : Bs w q l) :
    Calls Try.prog 3 #[.int .u8 (k : Int), .slice q m c] w (LawPost w) := by
  by_cases hlen : 600 < m
  · have HBS := Lib.hid (hbs.take 600)
    have HM : Hid (600 = (l.take 600).length) := Lib.hid (by rw [List.length_take]; omega)
    have HRD := Lib.hid (read_any k HBS.out HM.out (by omega) hc hz)
    have HRR : Hid (∀ w', Below w.heap.size w w' → Calls Try.prog 10 #[.int .u8 (k : Int), .slice q 600 c] w' (ReadPost w' k (l.take 600))) := Lib.hid fun w' hb => rread_any k (HBS.out.below hb) HM.out (by omega) hc hz (Nat.le_refl _)
    have h6 : 600 ≤ c := by omega
    have e1 : decide ((600 : Int) < (m : Int)) = true := decide_eq_true (by omega)
    generalize l.take 600 = l' at *
    clear hbs hm hz
    go_enter Try.func3, Try.ntmps3
    go_wp2_with fail
    refine HRD.out.mono ?_
    rintro e w1 hp
    obtain ⟨m1, ec, rfl, hok, hro, hb⟩ := hp.o
    obtain ⟨W1, hW1⟩ : ∃ W1, W1 = w1.alloc (.cells #[.bool m1.leaf, .slice m1.kq m1.ks.length m1.kc, .slice m1.vq m1.vs.length m1.vc, .slice m1.iq m1.is.length m1.ic] 27) := ⟨_, rfl⟩
    have HBX : Hid (W1.heap[w1.heap.size]? = some (.cells #[.bool m1.leaf, .slice m1.kq m1.ks.length m1.kc, .slice m1.vq m1.vs.length m1.vc, .slice m1.iq m1.is.length m1.ic] 27 (0, 0))) := Lib.hid (by rw [hW1]; exact heap_alloc_new w1 _)
    have HB1 : Hid (Below w.heap.size w W1) := Lib.hid (by rw [hW1]; exact hb.alloc hb.size _)
    have HM1 : Hid (m1.Ok W1) := Lib.hid (by rw [hW1]; exact hok.below ((Below.refl _ _).alloc (Nat.le_refl _) _))
    have HRO := Lib.hid hro
    clear hp hok hro hb HRD
    dsimp only [Nd.cell]
    go_wp2_with fail
    rw [← hW1]
    replace hW1 := Lib.hid hW1
    with_reducible refine (HRR.out _ HB1.out).mono ?_
    rintro e w2 hp
    obtain ⟨m2, ec2, rfl, hok, hro, hb⟩ := hp.o
    obtain ⟨hss, rfl⟩ := readO_one HRO.out hro
    obtain ⟨W2, hW2⟩ : ∃ W2, W2 = w2.alloc (.cells #[.bool m2.leaf, .slice m2.kq m2.ks.length m2.kc, .slice m2.vq m2.vs.length m2.vc, .slice m2.iq m2.is.length m2.ic] 33) := ⟨_, rfl⟩
    have HBY : Hid (W2.heap[w2.heap.size]? = some (.cells #[.bool m2.leaf, .slice m2.kq m2.ks.length m2.kc, .slice m2.vq m2.vs.length m2.vc, .slice m2.iq m2.is.length m2.ic] 33 (0, 0))) := Lib.hid (by rw [hW2]; exact heap_alloc_new w2 _)
    have HB2 : Hid (Below W1.heap.size W1 W2) := Lib.hid (by rw [hW2]; exact hb.alloc hb.size _)
    have HM2 : Hid (m2.Ok W2) := Lib.hid (by rw [hW2]; exact hok.below ((Below.refl _ _).alloc (Nat.le_refl _) _))
    have HSS := Lib.hid hss
    have HS2 : Hid (W2.heap.size = w2.heap.size + 1) := Lib.hid (by rw [hW2]; simp)
    clear hp hok hro hb hss HRR
    dsimp only [Nd.cell]
    have HZB : Hid (Bs (W2.alloc (.cells #[.int .u8 0, .int .u8 7, .int .u8 0] 5)) (some ⟨W2.heap.size, 0, none⟩) [0, 7, 0]) := Lib.hid (Bs.new W2 5 (0, 0) #[.int .u8 0, .int .u8 7, .int .u8 0] rfl rfl)
    go_wp2_with fail
    rw [← hW2]
    replace hW2 := Lib.hid hW2
    rw [← HS2.out]
    with_reducible refine (readOne_any HZB.out (fun h => by cases h)).mono ?_
    rintro e w3 ⟨m3, rfl, hok, his, hb⟩
    obtain ⟨b3, o3, hiq, hc7⟩ := hok.il.at (i := 0) (x := 7) (by rw [his]; rfl)
    have hic := hok.i2
    have hic1 := hok.i1
    rw [his] at hic1
    rw [Nat.add_zero] at hc7
    dsimp only [Nd.cell]
    rw [hiq, his]
    rw [show ([7] : List Int).length = 1 from rfl] at hic1 ⊢
    obtain ⟨W3, hW3⟩ : ∃ W3, W3 = w3.alloc (.cells #[.bool m3.leaf, .slice m3.kq m3.ks.length m3.kc, .slice m3.vq m3.vs.length m3.vc, .slice (some ⟨b3, o3, none⟩) 1 m3.ic] 27) := ⟨_, rfl⟩
    have HBZ : Hid (W3.heap[w3.heap.size]? = some (.cells #[.bool m3.leaf, .slice m3.kq m3.ks.length m3.kc, .slice m3.vq m3.vs.length m3.vc, .slice (some ⟨b3, o3, none⟩) 1 m3.ic] 27 (0, 0))) := Lib.hid (by rw [hW3]; exact heap_alloc_new w3 _)
    have HB3 : Hid (Below W2.heap.size W2 W3) := Lib.hid (by
      rw [hW3]
      have h1 : Below W2.heap.size W2 w3 := ((Below.refl _ _).alloc (Nat.le_refl _) _).trans (hb.mono (((Below.refl W2.heap.size W2).alloc (Nat.le_refl _) (.cells #[.int .u8 0, .int .u8 7, .int .u8 0] 5)).size))
      exact h1.alloc h1.size _)
    have HC7 : Hid (W3.cell? ⟨b3, o3, none⟩ = some (.int .i64 7) ∧ b3 < W3.heap.size) := Lib.hid (by
      have hl := World.block_lt_of_cell? _ _ hc7
      rw [hW3]
      have h1 := ((Below.refl w3.heap.size w3).alloc (Nat.le_refl _) (.cells #[.bool m3.leaf, .slice m3.kq m3.ks.length m3.kc, .slice m3.vq m3.vs.length m3.vc, .slice (some ⟨b3, o3, none⟩) 1 m3.ic] 27)).cell (p := ⟨b3, o3, none⟩) hl
      exact ⟨h1.trans hc7, by simp at hl ⊢; omega⟩)
    clear hok his hb hiq hc7
    go_wp2_with fail
    rw [← hW3]
    replace hW3 := Lib.hid hW3
    have HCT : Hid (m1.s.count ≤ 100000) := Lib.hid (readO_count HRO.out)
    have HB13 : Hid (Below W1.heap.size W1 W3) := Lib.hid (HB2.out.trans (HB3.out.mono HB2.out.size))
    have HCX : Hid (∀ w', Below W3.heap.size W3 w' → w'.cell? ⟨w1.heap.size, 0, none⟩ = some (.bool m1.leaf) ∧ w'.cell? ⟨w1.heap.size, 1, none⟩ = some (.slice m1.kq m1.ks.length m1.kc) ∧ w'.cell? ⟨w1.heap.size, 2, none⟩ = some (.slice m1.vq m1.vs.length m1.vc) ∧ w'.cell? ⟨w1.heap.size, 3, none⟩ = some (.slice m1.iq m1.is.length m1.ic) ∧ w'.cell? ⟨w2.heap.size, 0, none⟩ = some (.bool m2.leaf) ∧ w'.cell? ⟨w2.heap.size, 1, none⟩ = some (.slice m2.kq m2.ks.length m2.kc) ∧ w'.cell? ⟨w2.heap.size, 2, none⟩ = some (.slice m2.vq m2.vs.length m2.vc) ∧ w'.cell? ⟨w2.heap.size, 3, none⟩ = some (.slice m2.iq m2.is.length m2.ic) ∧ w'.cell? ⟨w3.heap.size, 3, none⟩ = some (.slice (some ⟨b3, o3, none⟩) 1 m3.ic) ∧ w'.cell? ⟨b3, o3, none⟩ = some (.int .i64 7)) := Lib.hid fun w' hb' => by
      have hx := (HB13.out.trans (hb'.mono HB13.out.size)).block _ (Array.getElem?_eq_some_iff.1 HBX.out).1 |>.trans HBX.out
      have hy := (HB3.out.trans (hb'.mono HB3.out.size)).block _ (Array.getElem?_eq_some_iff.1 HBY.out).1 |>.trans HBY.out
      have hz := hb'.block _ (Array.getElem?_eq_some_iff.1 HBZ.out).1 |>.trans HBZ.out
      exact ⟨Joins.cell_of_block hx 0, Joins.cell_of_block hx 1, Joins.cell_of_block hx 2, Joins.cell_of_block hx 3, Joins.cell_of_block hy 0, Joins.cell_of_block hy 1, Joins.cell_of_block hy 2, Joins.cell_of_block hy 3, Joins.cell_of_block hz 3, (hb'.cell HC7.out.2).trans HC7.out.1⟩
    have HOM : Hid (∀ w', Below W3.heap.size W3 w' → Calls Try.prog 12 #[.agg #[.bool m1.leaf, .slice m1.kq m1.ks.length m1.kc, .slice m1.vq m1.vs.length m1.vc, .slice m1.iq m1.is.length m1.ic]] w' (OwnPost w' m1.s)) := Lib.hid fun w' hb' => own_any (HM1.out.below (HB13.out.trans (hb'.mono HB13.out.size))) HCT.out
    have HEND : Hid (∀ w', Below W3.heap.size W3 w' → Below w.heap.size w w') := Lib.hid fun w' hb' => HB1.out.trans ((HB13.out.trans (hb'.mono HB13.out.size)).mono HB1.out.size)
    obtain ⟨x0, x1, x2, x3, y0, y1, y2, y3, z3, z7⟩ := HCX.out _ (Below.refl _ _)
    go_wp2_with fail
    go_region_held3 (fun w' => w'.cell? ⟨w1.heap.size, 0, none⟩ = some (.bool m1.leaf) ∧ w'.cell? ⟨w1.heap.size, 1, none⟩ = some (.slice m1.kq m1.ks.length m1.kc) ∧ w'.cell? ⟨w1.heap.size, 2, none⟩ = some (.slice m1.vq m1.vs.length m1.vc) ∧ w'.cell? ⟨w1.heap.size, 3, none⟩ = some (.slice m1.iq m1.is.length m1.ic) ∧ w'.cell? ⟨w2.heap.size, 0, none⟩ = some (.bool m2.leaf) ∧ w'.cell? ⟨w2.heap.size, 1, none⟩ = some (.slice m2.kq m2.ks.length m2.kc) ∧ w'.cell? ⟨w2.heap.size, 2, none⟩ = some (.slice m2.vq m2.vs.length m2.vc) ∧ w'.cell? ⟨w2.heap.size, 3, none⟩ = some (.slice m2.iq m2.is.length m2.ic) ∧ w'.cell? ⟨w3.heap.size, 3, none⟩ = some (.slice (some ⟨b3, o3, none⟩) 1 m3.ic) ∧ w'.cell? ⟨b3, o3, none⟩ = some (.int .i64 7))
      (first | exact HCX.out _ (Below.refl _ _).drew | exact HCX.out _ (Below.refl _ _) | exact HCX.out _ HE2.out | exact HCX.out _ HE1.out)
      (first
        | (go_at_call 11; (with_reducible refine (HSA.out).mono ?_); rintro e w8 ⟨rfl, hb⟩; have HE2 := Lib.hid (HE1.out.trans (hb.mono HE1.out.size)); clear hb)
        | (go_at_call 12; (with_reducible refine (HOM.out _ (Below.refl _ _).drew).mono ?_); rintro e w6 ⟨n6, rfl, hs6, ho6, hb⟩; dsimp only [Nd.cell]; have HE1 := Lib.hid ((Below.refl W3.heap.size W3).drew.trans hb); have HSA := Lib.hid (same_any ho6 (HM2.out.below (HB3.out.trans (HE1.out.mono HB3.out.size))) (hs6.trans HSS.out) (by rw [hs6]; exact HCT.out)); dsimp only [Nd.cell] at HSA; clear hb hs6 ho6)
        | fail)
    all_goals
      go_wp2
      go_ret
      exact ⟨rfl, HEND.out _ HE2.out⟩
  · have e1 : decide ((600 : Int) < (m : Int)) = false := decide_eq_false (by omega)
    have HRD := Lib.hid (read_any k hbs hm hmc hc hz)
    have HRR : Hid (∀ w', Below w.heap.size w w' → Calls Try.prog 10 #[.int .u8 (k : Int), .slice q m c] w' (ReadPost w' k l)) := Lib.hid fun w' hb => rread_any k (hbs.below hb) hm hmc hc hz (by omega)
    clear hbs hm hz
    go_enter Try.func3, Try.ntmps3
    go_wp2_with fail
    refine HRD.out.mono ?_
    rintro e w1 hp
    obtain ⟨m1, ec, rfl, hok, hro, hb⟩ := hp.o
    obtain ⟨W1, hW1⟩ : ∃ W1, W1 = w1.alloc (.cells #[.bool m1.leaf, .slice m1.kq m1.ks.length m1.kc, .slice m1.vq m1.vs.length m1.vc, .slice m1.iq m1.is.length m1.ic] 27) := ⟨_, rfl⟩
    have HBX : Hid (W1.heap[w1.heap.size]? = some (.cells #[.bool m1.leaf, .slice m1.kq m1.ks.length m1.kc, .slice m1.vq m1.vs.length m1.vc, .slice m1.iq m1.is.length m1.ic] 27 (0, 0))) := Lib.hid (by rw [hW1]; exact heap_alloc_new w1 _)
    have HB1 : Hid (Below w.heap.size w W1) := Lib.hid (by rw [hW1]; exact hb.alloc hb.size _)
    have HM1 : Hid (m1.Ok W1) := Lib.hid (by rw [hW1]; exact hok.below ((Below.refl _ _).alloc (Nat.le_refl _) _))
    have HRO := Lib.hid hro
    clear hp hok hro hb HRD
    dsimp only [Nd.cell]
    go_wp2_with fail
    rw [← hW1]
    replace hW1 := Lib.hid hW1
    with_reducible refine (HRR.out _ HB1.out).mono ?_
    rintro e w2 hp
    obtain ⟨m2, ec2, rfl, hok, hro, hb⟩ := hp.o
    obtain ⟨hss, rfl⟩ := readO_one HRO.out hro
    obtain ⟨W2, hW2⟩ : ∃ W2, W2 = w2.alloc (.cells #[.bool m2.leaf, .slice m2.kq m2.ks.length m2.kc, .slice m2.vq m2.vs.length m2.vc, .slice m2.iq m2.is.length m2.ic] 33) := ⟨_, rfl⟩
    have HBY : Hid (W2.heap[w2.heap.size]? = some (.cells #[.bool m2.leaf, .slice m2.kq m2.ks.length m2.kc, .slice m2.vq m2.vs.length m2.vc, .slice m2.iq m2.is.length m2.ic] 33 (0, 0))) := Lib.hid (by rw [hW2]; exact heap_alloc_new w2 _)
    have HB2 : Hid (Below W1.heap.size W1 W2) := Lib.hid (by rw [hW2]; exact hb.alloc hb.size _)
    have HM2 : Hid (m2.Ok W2) := Lib.hid (by rw [hW2]; exact hok.below ((Below.refl _ _).alloc (Nat.le_refl _) _))
    have HSS := Lib.hid hss
    have HS2 : Hid (W2.heap.size = w2.heap.size + 1) := Lib.hid (by rw [hW2]; simp)
    clear hp hok hro hb hss HRR
    dsimp only [Nd.cell]
    have HZB : Hid (Bs (W2.alloc (.cells #[.int .u8 0, .int .u8 7, .int .u8 0] 5)) (some ⟨W2.heap.size, 0, none⟩) [0, 7, 0]) := Lib.hid (Bs.new W2 5 (0, 0) #[.int .u8 0, .int .u8 7, .int .u8 0] rfl rfl)
    go_wp2_with fail
    rw [← hW2]
    replace hW2 := Lib.hid hW2
    rw [← HS2.out]
    with_reducible refine (readOne_any HZB.out (fun h => by cases h)).mono ?_
    rintro e w3 ⟨m3, rfl, hok, his, hb⟩
    obtain ⟨b3, o3, hiq, hc7⟩ := hok.il.at (i := 0) (x := 7) (by rw [his]; rfl)
    have hic := hok.i2
    have hic1 := hok.i1
    rw [his] at hic1
    rw [Nat.add_zero] at hc7
    dsimp only [Nd.cell]
    rw [hiq, his]
    rw [show ([7] : List Int).length = 1 from rfl] at hic1 ⊢
    obtain ⟨W3, hW3⟩ : ∃ W3, W3 = w3.alloc (.cells #[.bool m3.leaf, .slice m3.kq m3.ks.length m3.kc, .slice m3.vq m3.vs.length m3.vc, .slice (some ⟨b3, o3, none⟩) 1 m3.ic] 27) := ⟨_, rfl⟩
    have HBZ : Hid (W3.heap[w3.heap.size]? = some (.cells #[.bool m3.leaf, .slice m3.kq m3.ks.length m3.kc, .slice m3.vq m3.vs.length m3.vc, .slice (some ⟨b3, o3, none⟩) 1 m3.ic] 27 (0, 0))) := Lib.hid (by rw [hW3]; exact heap_alloc_new w3 _)
    have HB3 : Hid (Below W2.heap.size W2 W3) := Lib.hid (by
      rw [hW3]
      have h1 : Below W2.heap.size W2 w3 := ((Below.refl _ _).alloc (Nat.le_refl _) _).trans (hb.mono (((Below.refl W2.heap.size W2).alloc (Nat.le_refl _) (.cells #[.int .u8 0, .int .u8 7, .int .u8 0] 5)).size))
      exact h1.alloc h1.size _)
    have HC7 : Hid (W3.cell? ⟨b3, o3, none⟩ = some (.int .i64 7) ∧ b3 < W3.heap.size) := Lib.hid (by
      have hl := World.block_lt_of_cell? _ _ hc7
      rw [hW3]
      have h1 := ((Below.refl w3.heap.size w3).alloc (Nat.le_refl _) (.cells #[.bool m3.leaf, .slice m3.kq m3.ks.length m3.kc, .slice m3.vq m3.vs.length m3.vc, .slice (some ⟨b3, o3, none⟩) 1 m3.ic] 27)).cell (p := ⟨b3, o3, none⟩) hl
      exact ⟨h1.trans hc7, by simp at hl ⊢; omega⟩)
    clear hok his hb hiq hc7
    go_wp2_with fail
    rw [← hW3]
    replace hW3 := Lib.hid hW3
    have HCT : Hid (m1.s.count ≤ 100000) := Lib.hid (readO_count HRO.out)
    have HB13 : Hid (Below W1.heap.size W1 W3) := Lib.hid (HB2.out.trans (HB3.out.mono HB2.out.size))
    have HCX : Hid (∀ w', Below W3.heap.size W3 w' → w'.cell? ⟨w1.heap.size, 0, none⟩ = some (.bool m1.leaf) ∧ w'.cell? ⟨w1.heap.size, 1, none⟩ = some (.slice m1.kq m1.ks.length m1.kc) ∧ w'.cell? ⟨w1.heap.size, 2, none⟩ = some (.slice m1.vq m1.vs.length m1.vc) ∧ w'.cell? ⟨w1.heap.size, 3, none⟩ = some (.slice m1.iq m1.is.length m1.ic) ∧ w'.cell? ⟨w2.heap.size, 0, none⟩ = some (.bool m2.leaf) ∧ w'.cell? ⟨w2.heap.size, 1, none⟩ = some (.slice m2.kq m2.ks.length m2.kc) ∧ w'.cell? ⟨w2.heap.size, 2, none⟩ = some (.slice m2.vq m2.vs.length m2.vc) ∧ w'.cell? ⟨w2.heap.size, 3, none⟩ = some (.slice m2.iq m2.is.length m2.ic) ∧ w'.cell? ⟨w3.heap.size, 3, none⟩ = some (.slice (some ⟨b3, o3, none⟩) 1 m3.ic) ∧ w'.cell? ⟨b3, o3, none⟩ = some (.int .i64 7)) := Lib.hid fun w' hb' => by
      have hx := (HB13.out.trans (hb'.mono HB13.out.size)).block _ (Array.getElem?_eq_some_iff.1 HBX.out).1 |>.trans HBX.out
      have hy := (HB3.out.trans (hb'.mono HB3.out.size)).block _ (Array.getElem?_eq_some_iff.1 HBY.out).1 |>.trans HBY.out
      have hz := hb'.block _ (Array.getElem?_eq_some_iff.1 HBZ.out).1 |>.trans HBZ.out
      exact ⟨Joins.cell_of_block hx 0, Joins.cell_of_block hx 1, Joins.cell_of_block hx 2, Joins.cell_of_block hx 3, Joins.cell_of_block hy 0, Joins.cell_of_block hy 1, Joins.cell_of_block hy 2, Joins.cell_of_block hy 3, Joins.cell_of_block hz 3, (hb'.cell HC7.out.2).trans HC7.out.1⟩
    have HOM : Hid (∀ w', Below W3.heap.size W3 w' → Calls Try.prog 12 #[.agg #[.bool m1.leaf, .slice m1.kq m1.ks.length m1.kc, .slice m1.vq m1.vs.length m1.vc, .slice m1.iq m1.is.length m1.ic]] w' (OwnPost w' m1.s)) := Lib.hid fun w' hb' => own_any (HM1.out.below (HB13.out.trans (hb'.mono HB13.out.size))) HCT.out
    have HEND : Hid (∀ w', Below W3.heap.size W3 w' → Below w.heap.size w w') := Lib.hid fun w' hb' => HB1.out.trans ((HB13.out.trans (hb'.mono HB13.out.size)).mono HB1.out.size)
    obtain ⟨x0, x1, x2, x3, y0, y1, y2, y3, z3, z7⟩ := HCX.out _ (Below.refl _ _)
    go_wp2_with fail
    go_region_held3 (fun w' => w'.cell? ⟨w1.heap.size, 0, none⟩ = some (.bool m1.leaf) ∧ w'.cell? ⟨w1.heap.size, 1, none⟩ = some (.slice m1.kq m1.ks.length m1.kc) ∧ w'.cell? ⟨w1.heap.size, 2, none⟩ = some (.slice m1.vq m1.vs.length m1.vc) ∧ w'.cell? ⟨w1.heap.size, 3, none⟩ = some (.slice m1.iq m1.is.length m1.ic) ∧ w'.cell? ⟨w2.heap.size, 0, none⟩ = some (.bool m2.leaf) ∧ w'.cell? ⟨w2.heap.size, 1, none⟩ = some (.slice m2.kq m2.ks.length m2.kc) ∧ w'.cell? ⟨w2.heap.size, 2, none⟩ = some (.slice m2.vq m2.vs.length m2.vc) ∧ w'.cell? ⟨w2.heap.size, 3, none⟩ = some (.slice m2.iq m2.is.length m2.ic) ∧ w'.cell? ⟨w3.heap.size, 3, none⟩ = some (.slice (some ⟨b3, o3, none⟩) 1 m3.ic) ∧ w'.cell? ⟨b3, o3, none⟩ = some (.int .i64 7))
      (first | exact HCX.out _ (Below.refl _ _).drew | exact HCX.out _ (Below.refl _ _) | exact HCX.out _ HE2.out | exact HCX.out _ HE1.out)
      (first
        | (go_at_call 11; (with_reducible refine (HSA.out).mono ?_); rintro e w8 ⟨rfl, hb⟩; have HE2 := Lib.hid (HE1.out.trans (hb.mono HE1.out.size)); clear hb)
        | (go_at_call 12; (with_reducible refine (HOM.out _ (Below.refl _ _).drew).mono ?_); rintro e w6 ⟨n6, rfl, hs6, ho6, hb⟩; dsimp only [Nd.cell]; have HE1 := Lib.hid ((Below.refl W3.heap.size W3).drew.trans hb); have HSA := Lib.hid (same_any ho6 (HM2.out.below (HB3.out.trans (HE1.out.mono HB3.out.size))) (hs6.trans HSS.out) (by rw [hs6]; exact HCT.out)); dsimp only [Nd.cell] at HSA; clear hb hs6 ho6)
        | fail)
    all_goals
      go_wp2
      go_ret
      exact ⟨rfl, HEND.out _ HE2.out⟩

end Go.Proofs.Ytigmibmebockhaa
