/-
  NodeGrows: the walk of the law.
-/
import Derived.Test.YtigmibmebockhaaNdGrM
import Derived.Deep.RegionHeld3
import Derived.Deep.CutBlock
import Derived.Deep.CutRange
set_option linter.unusedVariables false
set_option linter.unusedSimpArgs false
set_option maxRecDepth 100000
namespace Go.Proofs.Ytigmibmebockhaa
open Go.RowKit

theorem wp_cutG {P : Program} {c : Code} {Q : Exit → Act → World → Prop} {a : Act} {w : World} (R : Act → Act → World → Prop) (h1 : c.wp P (fun e a' w' => e = .normal ∧ R a a' w') a w) (h2 : ∀ a' w', R a a' w' → Q .normal a' w') : c.wp P Q a w :=
  Code.wp_mono (fun e a' w' h => by obtain ⟨rfl, h⟩ := h; exact h2 _ _ h) h1

/-- The node that the law goes on with: it stands in the law's box. -/
structure GrN (w0 w : World) (n : Nd) : Prop where
  box : w.heap[w0.heap.size]? = some (.cells #[.bool n.leaf, .slice n.kq n.ks.length n.kc, .slice n.vq n.vs.length n.vc, .slice n.iq n.is.length n.ic] 27 (0, 0))
  ok : n.Ok w
  below : Below w0.heap.size w0 w
  few : n.s.count ≤ 3000
  even : n.leaf = true → n.vs.length = n.ks.length
theorem GrN.cells {w0 w : World} {n : Nd} (h : GrN w0 w n) : (w.cell? ⟨w0.heap.size, 0, none⟩ = some (.bool n.leaf) ∧ w.cell? ⟨w0.heap.size, 1, none⟩ = some (.slice n.kq n.ks.length n.kc) ∧ w.cell? ⟨w0.heap.size, 2, none⟩ = some (.slice n.vq n.vs.length n.vc) ∧ w.cell? ⟨w0.heap.size, 3, none⟩ = some (.slice n.iq n.is.length n.ic)) ∧ w0.heap.size < w.heap.size :=
  ⟨⟨Joins.cell_of_block h.box 0, Joins.cell_of_block h.box 1, Joins.cell_of_block h.box 2, Joins.cell_of_block h.box 3⟩, (Array.getElem?_eq_some_iff.1 h.box).1⟩
theorem GrN.later {w0 w w' : World} {n : Nd} (h : GrN w0 w n) (hb : Below w.heap.size w w') : GrN w0 w' n :=
  ⟨(hb.block _ h.cells.2).trans h.box, h.ok.below hb, h.below.trans (hb.mono h.below.size), h.few, h.even⟩
/-- Its keys and values are taken away. -/
theorem GrN.bare {w0 w : World} {n : Nd} (hbox : w.heap[w0.heap.size]? = some (.cells #[.bool n.leaf, .slice n.kq n.ks.length n.kc, .slice n.vq n.vs.length n.vc, .slice n.iq n.is.length n.ic] 27 (0, 0))) (hok : n.Ok w0) (hb : Below w0.heap.size w0 w) (hf : n.s.count ≤ 3000) :
    GrN w0 ((w.setCell ⟨w0.heap.size, 2, none⟩ (.slice none 0 0)).setCell ⟨w0.heap.size, 1, none⟩ (.slice none 0 0)) { n with kq := none, kc := 0, ks := [], vq := none, vc := 0, vs := [] } := by
  have hbw : Below w0.heap.size w0 ((w.setCell ⟨w0.heap.size, 2, none⟩ (.slice none 0 0)).setCell ⟨w0.heap.size, 1, none⟩ (.slice none 0 0)) := (hb.setCell (p := ⟨w0.heap.size, 2, none⟩) (Nat.le_refl _) _).setCell (p := ⟨w0.heap.size, 1, none⟩) (Nat.le_refl _) _
  refine ⟨by simp [World.setCell, Array.getElem?_modify, hbox], ?_, hbw, ?_, fun _ => rfl⟩
  · have h := hok.below hbw
    exact ⟨Nat.le_refl _, (by show 0 ≤ _; omega), fun _ => rfl, (fun h => absurd rfl h), (fun x hx => by cases hx), Nat.le_refl _, (by show 0 ≤ _; omega), fun _ => rfl, (fun h => absurd rfl h), (fun x hx => by cases hx), h.i1, h.i2, h.iz, h.il, h.io⟩
  · rw [count_eq] at hf ⊢
    simp [lens]
    omega

set_option maxHeartbeats 400000000 in
theorem nodeGrows_law {w : World} {n : Nd} (h : n.Ok w) (hs : n.Small) {q : Option Addr} {m c : Nat} {l : List UInt8} (hm : m = l.length) (hmc : m ≤ c) (hc63 : c ≤ 9223372036854775807) (hz : q = none → c = 0) (hbs : Bs w q l) (kid : Int) (hkid : -9223372036854775808 ≤ kid ∧ kid ≤ 9223372036854775807) :
    Calls Try.prog 4 #[n.cell, .slice q m c, .int .i64 kid] w (LawPost w) := by
  obtain ⟨W, hW, hbw, hws, hcc⟩ := nd_box w n
  have HOK := Lib.hid h
  have HC := Lib.hid hcc
  have HBW := Lib.hid hbw
  have HBX : Hid (W.heap[w.heap.size]? = some (.cells #[.bool n.leaf, .slice n.kq n.ks.length n.kc, .slice n.vq n.vs.length n.vc, .slice n.iq n.is.length n.ic] 27 (0, 0))) := Lib.hid (by rw [hW]; exact heap_alloc_new w _)
  have HFW := Lib.hid (few_any (h.below hbw) hs)
  have HML := Lib.hid hm
  have HBS := Lib.hid hbs
  have HZ := Lib.hid hz
  have HKID := Lib.hid hkid
  have hcell : n.cell = .agg #[.bool n.leaf, .slice n.kq n.ks.length n.kc, .slice n.vq n.vs.length n.vc, .slice n.iq n.is.length n.ic] := rfl
  rw [hcell] at HFW
  rw [hcell]
  clear h hs hbw hws hcc hcell hm hbs hz hkid
  obtain ⟨_, c0, c1, c2, c3⟩ := HC.out W (Below.refl _ _)
  go_enter Try.func4, Try.ntmps4
  go_wp2_with fail
  rw [← hW]
  replace hW := Lib.hid hW
  go_wp2_with fail
  refine HFW.out.mono ?_
  rintro e w1 ⟨b1, rfl, hfew, hb⟩
  have HB1 := Lib.hid hb
  have HF := Lib.hid hfew
  have HBX1 := Lib.hid ((hb.block _ (Array.getElem?_eq_some_iff.1 HBX.out).1).trans HBX.out)
  have HBW1 : Hid (Below w.heap.size w w1) := Lib.hid (HBW.out.trans (hb.mono HBW.out.size))
  clear c0 c1 c2 c3 hb hfew HFW
  obtain ⟨_, c0, c1, c2, c3⟩ := HC.out _ HB1.out
  have f0 := Joins.unfrozen_of_block HBX1.out 0
  have f1 := Joins.unfrozen_of_block HBX1.out 1
  have f2 := Joins.unfrozen_of_block HBX1.out 2
  have f3 := Joins.unfrozen_of_block HBX1.out 3
  cases b1
  · go_wp2
    go_ret
    exact ⟨rfl, HBW1.out⟩
  · by_cases h500 : 500 < m
    · have hd : decide (500 < (m : Int)) = true := by simp; omega
      go_wp2
      go_ret
      exact ⟨rfl, HBW1.out⟩
    · have hd : decide (500 < (m : Int)) = false := by simp; omega
      have HCT : Hid (n.s.count ≤ 3000) := Lib.hid (HF.out (by trivial))
      clear HF
      have HGN : Hid (n.leaf = true → n.vs.length = n.ks.length) → GrN w w1 n := fun h => ⟨HBX1.out, HOK.out.below HBW1.out, HBW1.out, HCT.out, h.out⟩
      have HGB := Lib.hid (GrN.bare HBX1.out HOK.out HBW1.out HCT.out)
      have hw1 := (Array.getElem?_eq_some_iff.1 HBX1.out).1
      obtain ⟨kn, hkn⟩ : ∃ y, y = n.ks.length := ⟨_, rfl⟩
      obtain ⟨vn, hvn⟩ : ∃ y, y = n.vs.length := ⟨_, rfl⟩
      have HKN := Lib.hid hkn
      have HVN := Lib.hid hvn
      rw [← hkn] at c1
      rw [← hvn] at c2
      replace HGN := Lib.hid HGN
      clear hkn hvn
      obtain ⟨B, hB⟩ : ∃ B : Bool, B = (n.leaf && (vn != kn)) := ⟨_, rfl⟩
      have HBE := Lib.hid hB
      clear hB
      go_upto_region 3 with fail
      go_cut [28] from 18 to 28 (fun x28 wx => x28 = .bool B ∧ wx = w1)
      case first =>
        rcases Bool.eq_false_or_eq_true n.leaf with hl | hl
        · rw [hl] at c0
          by_cases hvk : vn = kn
          · have e1 : ((vn : Int) != (kn : Int)) = false := by simp; omega
            have e2 : ((kn : Int) != (kn : Int)) = false := by simp
            have hB : B = false := by rw [HBE.out, hl, hvk]; simp
            replace hB := Lib.hid hB
            rw [hvk] at c2
            clear hl HGN HGB
            go_wp2_with fail
            go_meet
            exact ⟨by rw [hB.out], rfl⟩
          · have e1 : ((vn : Int) != (kn : Int)) = true := by simp; omega
            have hB : B = true := by rw [HBE.out, hl]; simp; exact hvk
            replace hB := Lib.hid hB
            clear hl HGN
            go_wp2_with fail
            go_meet
            exact ⟨by rw [hB.out], rfl⟩
        · rw [hl] at c0
          have hB : B = false := by rw [HBE.out, hl]; rfl
          replace hB := Lib.hid hB
          clear hl HGN HGB
          go_wp2_with fail
          go_meet
          exact ⟨by rw [hB.out], rfl⟩
      case rest =>
        obtain ⟨rfl, rfl⟩ := hcut
        go_upto_if 28 with fail
        go_cut [] from 29 to 30 (fun wx => ∃ n2 : Nd, GrN w wx n2)
        case first =>
          cases B
          · have HG := Lib.hid (HGN.out (Lib.hid (fun h => by have h1 := HBE.out; rw [h] at h1; simp at h1; rw [← HVN.out, ← HKN.out]; exact h1)))
            go_wp2_with fail
            go_meet
            exact ⟨_, HG.out⟩
          · go_wp2_with fail
            go_meet
            exact ⟨_, HGB.out⟩
        case rest =>
          obtain ⟨n2, hgn⟩ := hcut
          have HG0 := Lib.hid hgn
          clear hgn HGN HGB HKN HVN HCT HBX1 HBX HB1 HC HBW HOK c0 c1 c2 c3 f0 f1 f2 f3 hw1 hW
          obtain ⟨Wb, hWb⟩ : ∃ Wb, Wb = wc.drew := ⟨_, rfl⟩
          have HG : Hid (GrN w Wb n2) := Lib.hid (by rw [hWb]; exact HG0.out.later (Below.refl _ _).drew)
          have HBSb : Hid (Bs Wb q l) := Lib.hid (HBS.out.below HG.out.below)
          have HCS : Hid (∀ w', Below Wb.heap.size Wb w' → w'.cell? ⟨w.heap.size, 0, none⟩ = some (.bool n2.leaf) ∧ w'.cell? ⟨w.heap.size, 1, none⟩ = some (.slice n2.kq n2.ks.length n2.kc) ∧ w'.cell? ⟨w.heap.size, 2, none⟩ = some (.slice n2.vq n2.vs.length n2.vc) ∧ w'.cell? ⟨w.heap.size, 3, none⟩ = some (.slice n2.iq n2.is.length n2.ic)) := Lib.hid fun w' hb => (HG.out.later hb).cells.1
          clear HG0
          go_wp2_with fail

          have HSK : Hid (∀ w', Below Wb.heap.size Wb w' → (kCells n2.ks).length = n2.ks.length * 1 ∧ (∀ (j : Nat) u, (kCells n2.ks)[j]? = some u → ∃ b o, n2.kq = some ⟨b, o, none⟩ ∧ w'.cell? ⟨b, o + j, none⟩ = some u) ∧ ∀ u ∈ kCells n2.ks, u.oneCell' = true) := Lib.hid fun w' hb => by
            have hk := (HG.out.ok.below hb).kl
            refine ⟨by simp [kCells], fun j u hj => ?_, fun u hu => ?_⟩
            · simp only [kCells, List.getElem?_map, Option.map_eq_some_iff] at hj
              obtain ⟨x, hx, rfl⟩ := hj
              obtain ⟨b, o, hq, _, hc⟩ := hk.at hx
              exact ⟨b, o, hq, hc⟩
            · simp only [kCells, List.mem_map] at hu
              obtain ⟨x, _, rfl⟩ := hu
              rfl
          have HSI : Hid (∀ w', Below Wb.heap.size Wb w' → (i64s n2.is).length = n2.is.length * 1 ∧ (∀ (j : Nat) u, (i64s n2.is)[j]? = some u → ∃ b o, n2.iq = some ⟨b, o, none⟩ ∧ w'.cell? ⟨b, o + j, none⟩ = some u) ∧ ∀ u ∈ i64s n2.is, u.oneCell' = true) := Lib.hid fun w' hb => by
            have hk := (HG.out.ok.below hb).il
            refine ⟨by simp [i64s], fun j u hj => ?_, fun u hu => ?_⟩
            · simp only [i64s, List.getElem?_map, Option.map_eq_some_iff] at hj
              obtain ⟨x, hx, rfl⟩ := hj
              obtain ⟨b, o, hq, hc⟩ := hk.at hx
              exact ⟨b, o, hq, hc⟩
            · simp only [i64s, List.mem_map] at hu
              obtain ⟨x, _, rfl⟩ := hu
              rfl
          have HSV : Hid (∀ w', Below Wb.heap.size Wb w' → (vCells n2.vs).length = n2.vs.length * 3 ∧ (∀ (j : Nat) u, (vCells n2.vs)[j]? = some u → ∃ b o, n2.vq = some ⟨b, o, none⟩ ∧ w'.cell? ⟨b, o + j, none⟩ = some u) ∧ ∀ u ∈ vCells n2.vs, u.oneCell' = true) := Lib.hid fun w' hb => vcells_src (HG.out.ok.below hb).vl
          have HFEW : Hid (n2.ks.length + n2.vs.length + n2.is.length ≤ 3000) := Lib.hid (by have h1 := HG.out.few; rw [count_eq] at h1; omega)
          refine wp_cutG (fun a a' w' => ∃ (x31 x32 x33 x34 x35 x36 x37 x38 x39 x40 x41 x42 x43 x44 x45 x46 x47 x48 x49 x50 x51 : Value) (g : Nat) (mm : Nd), a' = ((((((((((((((((((((((a.put (some 31) x31).put (some 32) x32).put (some 33) x33).put (some 34) x34).put (some 35) x35).put (some 36) x36).put (some 37) x37).put (some 38) x38).put (some 39) x39).put (some 40) x40).put (some 41) x41).put (some 42) x42).put (some 43) x43).put (some 44) x44).put (some 45) x45).put (some 46) x46).put (some 47) x47).put (some 48) x48).put (some 49) x49).put (some 50) x50).put (some 51) x51).put (some 7) (.pointer (some ⟨g, 0, none⟩))) ∧ GrM w Wb w' g mm ∧ mm.leaf = n2.leaf ∧ mm.ks = n2.ks ++ [⟨q, c, l⟩] ∧ mm.vs = n2.vs ∧ mm.is = n2.is ++ [kid]) ?_ ?_
          · refine wp_region_held_drew (S := fun w' => w'.cell? ⟨w.heap.size, 0, none⟩ = some (.bool n2.leaf) ∧ w'.cell? ⟨w.heap.size, 1, none⟩ = some (.slice n2.kq n2.ks.length n2.kc) ∧ w'.cell? ⟨w.heap.size, 2, none⟩ = some (.slice n2.vq n2.vs.length n2.vc) ∧ w'.cell? ⟨w.heap.size, 3, none⟩ = some (.slice n2.iq n2.is.length n2.ic)) (by kernel_rfl) (by rw [← hWb]; exact HCS.out _ (Below.refl _ _)) (fun hHeld => ?_)
            rw [← hWb] at hHeld ⊢
            clear hWb
            refine wpAnyH_take (i := 0) (v := ?_) rfl (by kernel_rfl) (by kernel_rfl) (by kernel_rfl) (fun _ _ _ h => nomatch h.1) (Or.inl ⟨by rfl, ?_⟩) (by assumption) ?_
            rotate_left
            · intro w hSw; obtain ⟨s0, s1, s2, s3⟩ := hSw; go_simp; try with_reducible rfl
            simp only [Act.put, List.getElem_toArray, List.getElem_cons_zero, List.getElem_cons_succ, List.setIfInBounds_toArray, List.set_cons_zero, List.set_cons_succ]
            refine wpAnyH_take (i := 1) (v := ?_) rfl (by kernel_rfl) (by kernel_rfl) (by kernel_rfl) (fun _ _ _ h => nomatch h.1) (Or.inl ⟨by rfl, ?_⟩) (by assumption) ?_
            rotate_left
            · intro w hSw; obtain ⟨s0, s1, s2, s3⟩ := hSw; go_simp; try with_reducible rfl
            simp only [Act.put, List.getElem_toArray, List.getElem_cons_zero, List.getElem_cons_succ, List.setIfInBounds_toArray, List.set_cons_zero, List.set_cons_succ]
            refine wpAnyH_take (i := 3) (v := ?_) rfl (by kernel_rfl) (by kernel_rfl) (by kernel_rfl) (fun _ _ _ h => nomatch h.1) (Or.inl ⟨by rfl, ?_⟩) (by assumption) ?_
            rotate_left
            · intro w hSw; obtain ⟨s0, s1, s2, s3⟩ := hSw; go_simp; try with_reducible rfl
            simp only [Act.put, List.getElem_toArray, List.getElem_cons_zero, List.getElem_cons_succ, List.setIfInBounds_toArray, List.set_cons_zero, List.set_cons_succ]
            refine wpAnyH_take (i := 4) (v := ?_) rfl (by kernel_rfl) (by kernel_rfl) (by kernel_rfl) (fun _ _ _ h => nomatch h.1) (Or.inl ⟨by rfl, ?_⟩) (by assumption) ?_
            rotate_left
            · intro w hSw; obtain ⟨s0, s1, s2, s3⟩ := hSw; go_simp; try with_reducible rfl
            simp only [Act.put, List.getElem_toArray, List.getElem_cons_zero, List.getElem_cons_succ, List.setIfInBounds_toArray, List.set_cons_zero, List.set_cons_succ]
            refine wpAnyH_take (i := 6) (v := ?_) rfl (by kernel_rfl) (by kernel_rfl) (by kernel_rfl) (fun _ _ _ h => nomatch h.1) (Or.inl ⟨by rfl, ?_⟩) (by assumption) ?_
            rotate_left
            · intro w hSw; obtain ⟨s0, s1, s2, s3⟩ := hSw; go_simp; try with_reducible rfl
            simp only [Act.put, List.getElem_toArray, List.getElem_cons_zero, List.getElem_cons_succ, List.setIfInBounds_toArray, List.set_cons_zero, List.set_cons_succ]
            refine wpAnyH_take (i := 10) (v := ?_) rfl (by kernel_rfl) (by kernel_rfl) (by kernel_rfl) (fun _ _ _ h => nomatch h.1) (Or.inl ⟨by rfl, ?_⟩) (by assumption) ?_
            rotate_left
            · intro w hSw; obtain ⟨s0, s1, s2, s3⟩ := hSw; go_simp; try with_reducible rfl
            simp only [Act.put, List.getElem_toArray, List.getElem_cons_zero, List.getElem_cons_succ, List.setIfInBounds_toArray, List.set_cons_zero, List.set_cons_succ]
            refine wpAnyH_take (i := 11) (v := ?_) rfl (by kernel_rfl) (by kernel_rfl) (by kernel_rfl) (fun _ _ _ h => nomatch h.1) (Or.inl ⟨by rfl, ?_⟩) (by assumption) ?_
            rotate_left
            · intro w hSw; obtain ⟨s0, s1, s2, s3⟩ := hSw; go_simp; try with_reducible rfl
            simp only [Act.put, List.getElem_toArray, List.getElem_cons_zero, List.getElem_cons_succ, List.setIfInBounds_toArray, List.set_cons_zero, List.set_cons_succ]
            refine wpAnyH_take (i := 14) (v := ?_) rfl (by kernel_rfl) (by kernel_rfl) (by kernel_rfl) (fun _ _ _ h => nomatch h.1) (Or.inl ⟨by rfl, ?_⟩) (by assumption) ?_
            rotate_left
            · intro w hSw; obtain ⟨s0, s1, s2, s3⟩ := hSw; go_simp; try with_reducible rfl
            simp only [Act.put, List.getElem_toArray, List.getElem_cons_zero, List.getElem_cons_succ, List.setIfInBounds_toArray, List.set_cons_zero, List.set_cons_succ]
            refine wpAnyH_take (i := 15) (v := ?_) rfl (by kernel_rfl) (by kernel_rfl) (by kernel_rfl) (fun _ _ _ h => nomatch h.1) (Or.inl ⟨by rfl, ?_⟩) (by assumption) ?_
            rotate_left
            · intro w hSw; obtain ⟨s0, s1, s2, s3⟩ := hSw; go_simp; try with_reducible rfl
            simp only [Act.put, List.getElem_toArray, List.getElem_cons_zero, List.getElem_cons_succ, List.setIfInBounds_toArray, List.set_cons_zero, List.set_cons_succ]
            refine wpAnyH_take (i := 17) (v := ?_) rfl (by kernel_rfl) (by kernel_rfl) (by kernel_rfl) (fun _ _ _ h => nomatch h.1) (Or.inl ⟨by rfl, ?_⟩) (by assumption) ?_
            rotate_left
            · intro w hSw; obtain ⟨s0, s1, s2, s3⟩ := hSw; go_simp; try with_reducible rfl
            simp only [Act.put, List.getElem_toArray, List.getElem_cons_zero, List.getElem_cons_succ, List.setIfInBounds_toArray, List.set_cons_zero, List.set_cons_succ]
            refine wpAnyH_upto (fun a0 listed a w' => ∃ (x33 x36 x38 x39 x40 x43 x44 x47 x49 x50 x51 x7 : Value) (l2 l5 l7 l8 l9 l12 l13 l16 l18 l19 l20 l21 : Bool), listed = #[true, true, l2, true, true, l5, true, l7, l8, l9, true, true, l12, l13, true, true, l16, true, l18, l19, l20, l21, false] ∧ a = ((((((((((((a0.put (some 33) x33).put (some 36) x36).put (some 38) x38).put (some 39) x39).put (some 40) x40).put (some 43) x43).put (some 44) x44).put (some 47) x47).put (some 49) x49).put (some 50) x50).put (some 51) x51).put (some 7) x7) ∧ GrI Wb.heap.size Wb n2.leaf n2.ks (.slice q m c) n2.vs n2.is kid l2 l5 l7 l8 l9 l12 l13 l16 l18 l19 l20 l21 x33 x36 x38 x39 x40 x43 x44 x47 x49 x50 x51 x7 w') (#[true, true, true, true, true, true, true, true, true, true, true, true, true, true, true, true, true, true, true, true, true, true, false]) ?_ ?_ ?_ (of_decide_eq_true (by kernel_rfl)) ⟨undef, undef, undef, undef, undef, undef, undef, undef, undef, undef, undef, undef, false, false, false, false, false, false, false, false, false, false, false, false, by kernel_rfl, by kernel_rfl, ?_⟩
            · rintro listed a w' i ⟨x33, x36, x38, x39, x40, x43, x44, x47, x49, x50, x51, x7, l2, l5, l7, l8, l9, l12, l13, l16, l18, l19, l20, l21, rfl, rfl, hI⟩ hne hr
              obtain ⟨hlf, o, ho, hdeps⟩ := mem_ready.1 hr
              have hi23 : i < 23 := (Array.getElem?_eq_some_iff.1 ho).1
              have hi : i = 0 ∨ i = 1 ∨ i = 2 ∨ i = 3 ∨ i = 4 ∨ i = 5 ∨ i = 6 ∨ i = 7 ∨ i = 8 ∨ i = 9 ∨ i = 10 ∨ i = 11 ∨ i = 12 ∨ i = 13 ∨ i = 14 ∨ i = 15 ∨ i = 16 ∨ i = 17 ∨ i = 18 ∨ i = 19 ∨ i = 20 ∨ i = 21 ∨ i = 22 := by omega
              clear hr hi23
              rcases hi with rfl | rfl | rfl | rfl | rfl | rfl | rfl | rfl | rfl | rfl | rfl | rfl | rfl | rfl | rfl | rfl | rfl | rfl | rfl | rfl | rfl | rfl | rfl
              all_goals obtain rfl := Option.some.inj ho
              · simp at hlf
              · simp at hlf
              · obtain rfl : l2 = false := by simpa using hlf
                refine wpOp_step (i := 2) rfl (fun K' hK' => ?_)
                replace hK' := Lib.hid hK'
                simp only [Act.put, List.getElem_toArray, List.getElem_cons_zero, List.getElem_cons_succ, List.setIfInBounds_toArray, List.set_cons_zero, List.set_cons_succ]
                go_simp
                refine hK'.out _ _ ?_
                exact ⟨HCS.out _ (hI.bl.alloc hI.bs _), (.slice (some ⟨w'.heap.size, 0, none⟩) 0 0), x36, x38, x39, x40, x43, x44, x47, x49, x50, x51, x7, true, l5, l7, l8, l9, l12, l13, l16, l18, l19, l20, l21, by kernel_rfl, by kernel_rfl, hI.s2⟩
              · simp at hlf
              · simp at hlf
              · obtain rfl : l5 = false := by simpa using hlf
                obtain rfl : l2 = true := by simpa using hdeps ⟨2, .data⟩ (by simp) rfl
                obtain rfl : l8 = false := by cases l8; rfl; have := (hI.fk.dbc rfl).1; cases this
                obtain ⟨ti, hti, htz0, htz1, htz2⟩ := info_parts info_key
                obtain ⟨hl1, hsrc, hone⟩ := HSK.out _ hI.bl
                obtain ⟨y, w2, hrun, ho2, hg2⟩ := run_appZ (w := w') 23 23 22 ti _ 1 24 Try.underlying23 hti htz0 htz1 htz2 rfl (by decide) (by decide) ((hI.fk.p1 rfl rfl).row 1) hl1 hsrc hone (by have := HFEW.out; omega) hI.bs
                rw [List.nil_append, Nat.zero_add] at ho2
                have hI2 := hI.s5 ho2 hg2
                refine wpOp_step (i := 5) rfl (fun K' hK' => ?_)
                replace hK' := Lib.hid hK'
                refine step_appZ (y := y) (w' := w2) (v := x33) (q := n2.kq) (m := n2.ks.length) (c := n2.kc) rfl (.tmp 33) (.tmp 35) 23 rfl (by kernel_rfl) (by kernel_rfl) hrun ?_
                refine hK'.out _ _ ?_
                exact ⟨HCS.out _ (hI2.bl), x33, y, x38, x39, x40, x43, x44, x47, x49, x50, x51, x7, true, true, l7, false, l9, l12, l13, l16, l18, l19, l20, l21, by kernel_rfl, by kernel_rfl, hI2⟩
              · simp at hlf
              · obtain rfl : l7 = false := by simpa using hlf
                refine wpOp_step (i := 7) rfl (fun K' hK' => ?_)
                replace hK' := Lib.hid hK'
                simp only [Act.put, List.getElem_toArray, List.getElem_cons_zero, List.getElem_cons_succ, List.setIfInBounds_toArray, List.set_cons_zero, List.set_cons_succ]
                go_simp
                refine hK'.out _ _ ?_
                exact ⟨HCS.out _ (hI.bl.alloc hI.bs _), x33, x36, (.slice (some ⟨w'.heap.size, 0, none⟩) 1 1), x39, x40, x43, x44, x47, x49, x50, x51, x7, l2, l5, true, l8, l9, l12, l13, l16, l18, l19, l20, l21, by kernel_rfl, by kernel_rfl, hI.s7⟩
              · obtain rfl : l8 = false := by simpa using hlf
                obtain rfl : l5 = true := by simpa using hdeps ⟨5, .data⟩ (by simp) rfl
                obtain rfl : l7 = true := by simpa using hdeps ⟨7, .data⟩ (by simp) rfl
                obtain rfl : l2 = true := hI.fk.ab rfl
                obtain ⟨ti, hti, htz0, htz1, htz2⟩ := info_parts info_key
                obtain ⟨g3, rfl, _, hg3⟩ := hI.fk.p3 rfl rfl
                obtain ⟨y, w2, hrun, ho2, hg2⟩ := run_appZ (w := w') 23 23 22 ti _ 1 24 Try.underlying23 hti htz0 htz1 htz2 rfl (by decide) (by decide) (hI.fk.p2 rfl rfl) (q := some ⟨g3, 0, none⟩) (m := 1) (c := 1) (news := [(.slice q m c)]) rfl (fun j u hj => ⟨g3, 0, rfl, by rw [Joins.cell_of_block hg3, Nat.zero_add]; simpa using hj⟩) (fun u hu => by obtain rfl := List.mem_singleton.1 hu; rfl) (by have := HFEW.out; omega) hI.bs
                have hI2 := hI.s8 ho2 hg2
                refine wpOp_step (i := 8) rfl (fun K' hK' => ?_)
                replace hK' := Lib.hid hK'
                refine step_appZ (y := y) (w' := w2) (v := x36) (q := some ⟨g3, 0, none⟩) (m := 1) (c := 1) rfl (.tmp 36) (.tmp 38) 23 rfl (by kernel_rfl) (by kernel_rfl) hrun ?_
                refine hK'.out _ _ ?_
                exact ⟨HCS.out _ (hI2.bl), x33, x36, (.slice (some ⟨g3, 0, none⟩) 1 1), y, x40, x43, x44, x47, x49, x50, x51, x7, true, true, true, true, l9, l12, l13, l16, l18, l19, l20, l21, by kernel_rfl, by kernel_rfl, hI2⟩
              · obtain rfl : l9 = false := by simpa using hlf
                refine wpOp_step (i := 9) rfl (fun K' hK' => ?_)
                replace hK' := Lib.hid hK'
                simp only [Act.put, List.getElem_toArray, List.getElem_cons_zero, List.getElem_cons_succ, List.setIfInBounds_toArray, List.set_cons_zero, List.set_cons_succ]
                go_simp
                refine hK'.out _ _ ?_
                exact ⟨HCS.out _ (hI.bl.alloc hI.bs _), x33, x36, x38, x39, (.slice (some ⟨w'.heap.size, 0, none⟩) 0 0), x43, x44, x47, x49, x50, x51, x7, l2, l5, l7, l8, true, l12, l13, l16, l18, l19, l20, l21, by kernel_rfl, by kernel_rfl, hI.s9⟩
              · simp at hlf
              · simp at hlf
              · obtain rfl : l12 = false := by simpa using hlf
                obtain rfl : l9 = true := by simpa using hdeps ⟨9, .data⟩ (by simp) rfl
                obtain ⟨ti, hti, htz0, htz1, htz2⟩ := info_parts info_val
                obtain ⟨hl1, hsrc, hone⟩ := HSV.out _ hI.bl
                obtain ⟨y, w2, hrun, ho2, hg2⟩ := run_appZ (w := w') 24 24 42 ti _ 3 40 Try.underlying24 hti htz0 htz1 htz2 rfl (by decide) (by decide) ((hI.fv.p1 rfl rfl).row 3) hl1 hsrc hone (by have := HFEW.out; omega) hI.bs
                rw [List.nil_append, Nat.zero_add] at ho2
                have hI2 := hI.s12 ho2 hg2
                refine wpOp_step (i := 12) rfl (fun K' hK' => ?_)
                replace hK' := Lib.hid hK'
                refine step_appZ (y := y) (w' := w2) (v := x40) (q := n2.vq) (m := n2.vs.length) (c := n2.vc) rfl (.tmp 40) (.tmp 42) 24 rfl (by kernel_rfl) (by kernel_rfl) hrun ?_
                refine hK'.out _ _ ?_
                exact ⟨HCS.out _ (hI2.bl), x33, x36, x38, x39, x40, y, x44, x47, x49, x50, x51, x7, l2, l5, l7, l8, true, true, l13, l16, l18, l19, l20, l21, by kernel_rfl, by kernel_rfl, hI2⟩
              · obtain rfl : l13 = false := by simpa using hlf
                refine wpOp_step (i := 13) rfl (fun K' hK' => ?_)
                replace hK' := Lib.hid hK'
                simp only [Act.put, List.getElem_toArray, List.getElem_cons_zero, List.getElem_cons_succ, List.setIfInBounds_toArray, List.set_cons_zero, List.set_cons_succ]
                go_simp
                refine hK'.out _ _ ?_
                exact ⟨HCS.out _ (hI.bl.alloc hI.bs _), x33, x36, x38, x39, x40, x43, (.slice (some ⟨w'.heap.size, 0, none⟩) 0 0), x47, x49, x50, x51, x7, l2, l5, l7, l8, l9, l12, true, l16, l18, l19, l20, l21, by kernel_rfl, by kernel_rfl, hI.s13⟩
              · simp at hlf
              · simp at hlf
              · obtain rfl : l16 = false := by simpa using hlf
                obtain rfl : l13 = true := by simpa using hdeps ⟨13, .data⟩ (by simp) rfl
                obtain rfl : l19 = false := by cases l19; rfl; have := (hI.fi.dbc rfl).1; cases this
                obtain ⟨ti, hti, htz0, htz1, htz2⟩ := info_parts info_int
                obtain ⟨hl1, hsrc, hone⟩ := HSI.out _ hI.bl
                obtain ⟨y, w2, hrun, ho2, hg2⟩ := run_appZ (w := w') 25 25 3 ti _ 1 8 Try.underlying25 hti htz0 htz1 htz2 rfl (by decide) (by decide) ((hI.fi.p1 rfl rfl).row 1) hl1 hsrc hone (by have := HFEW.out; omega) hI.bs
                rw [List.nil_append, Nat.zero_add] at ho2
                have hI2 := hI.s16 ho2 hg2
                refine wpOp_step (i := 16) rfl (fun K' hK' => ?_)
                replace hK' := Lib.hid hK'
                refine step_appZ (y := y) (w' := w2) (v := x44) (q := n2.iq) (m := n2.is.length) (c := n2.ic) rfl (.tmp 44) (.tmp 46) 25 rfl (by kernel_rfl) (by kernel_rfl) hrun ?_
                refine hK'.out _ _ ?_
                exact ⟨HCS.out _ (hI2.bl), x33, x36, x38, x39, x40, x43, x44, y, x49, x50, x51, x7, l2, l5, l7, l8, l9, l12, true, true, l18, false, l20, l21, by kernel_rfl, by kernel_rfl, hI2⟩
              · simp at hlf
              · obtain rfl : l18 = false := by simpa using hlf
                refine wpOp_step (i := 18) rfl (fun K' hK' => ?_)
                replace hK' := Lib.hid hK'
                simp only [Act.put, List.getElem_toArray, List.getElem_cons_zero, List.getElem_cons_succ, List.setIfInBounds_toArray, List.set_cons_zero, List.set_cons_succ]
                go_simp
                refine hK'.out _ _ ?_
                exact ⟨HCS.out _ (hI.bl.alloc hI.bs _), x33, x36, x38, x39, x40, x43, x44, x47, (.slice (some ⟨w'.heap.size, 0, none⟩) 1 1), x50, x51, x7, l2, l5, l7, l8, l9, l12, l13, l16, true, l19, l20, l21, by kernel_rfl, by kernel_rfl, hI.s18⟩
              · obtain rfl : l19 = false := by simpa using hlf
                obtain rfl : l16 = true := by simpa using hdeps ⟨16, .data⟩ (by simp) rfl
                obtain rfl : l18 = true := by simpa using hdeps ⟨18, .data⟩ (by simp) rfl
                obtain rfl : l13 = true := hI.fi.ab rfl
                obtain ⟨ti, hti, htz0, htz1, htz2⟩ := info_parts info_int
                obtain ⟨g3, rfl, _, hg3⟩ := hI.fi.p3 rfl rfl
                obtain ⟨y, w2, hrun, ho2, hg2⟩ := run_appZ (w := w') 25 25 3 ti _ 1 8 Try.underlying25 hti htz0 htz1 htz2 rfl (by decide) (by decide) (hI.fi.p2 rfl rfl) (q := some ⟨g3, 0, none⟩) (m := 1) (c := 1) (news := [(.int .i64 kid)]) rfl (fun j u hj => ⟨g3, 0, rfl, by rw [Joins.cell_of_block hg3, Nat.zero_add]; simpa using hj⟩) (fun u hu => by obtain rfl := List.mem_singleton.1 hu; rfl) (by have := HFEW.out; omega) hI.bs
                have hI2 := hI.s19 ho2 hg2
                refine wpOp_step (i := 19) rfl (fun K' hK' => ?_)
                replace hK' := Lib.hid hK'
                refine step_appZ (y := y) (w' := w2) (v := x47) (q := some ⟨g3, 0, none⟩) (m := 1) (c := 1) rfl (.tmp 47) (.tmp 49) 25 rfl (by kernel_rfl) (by kernel_rfl) hrun ?_
                refine hK'.out _ _ ?_
                exact ⟨HCS.out _ (hI2.bl), x33, x36, x38, x39, x40, x43, x44, x47, (.slice (some ⟨g3, 0, none⟩) 1 1), y, x51, x7, l2, l5, l7, l8, l9, l12, true, true, true, true, l20, l21, by kernel_rfl, by kernel_rfl, hI2⟩
              · obtain rfl : l20 = false := by simpa using hlf
                obtain rfl : l8 = true := by simpa using hdeps ⟨8, .data⟩ (by simp) rfl
                obtain rfl : l12 = true := by simpa using hdeps ⟨12, .data⟩ (by simp) rfl
                obtain rfl : l19 = true := by simpa using hdeps ⟨19, .data⟩ (by simp) rfl
                obtain ⟨q1, c1, rfl, _⟩ := row_form (hI.fk.p4 rfl)
                obtain ⟨q2, c2, rfl, _⟩ := row_form (hI.fv.p2 rfl rfl)
                obtain ⟨q3, c3, rfl, _⟩ := row_form (hI.fi.p4 rfl)
                refine wpOp_step (i := 20) rfl (fun K' hK' => ?_)
                replace hK' := Lib.hid hK'
                simp only [Act.put, List.getElem_toArray, List.getElem_cons_zero, List.getElem_cons_succ, List.setIfInBounds_toArray, List.set_cons_zero, List.set_cons_succ]
                go_simp
                refine hK'.out _ _ ?_
                exact ⟨HCS.out _ (hI.bl), x33, x36, x38, (.slice q1 (n2.ks.length + 1) c1), x40, (.slice q2 n2.vs.length c2), x44, x47, x49, (.slice q3 (n2.is.length + 1) c3), (.agg #[.bool n2.leaf, (.slice q1 (n2.ks.length + 1) c1), (.slice q2 n2.vs.length c2), (.slice q3 (n2.is.length + 1) c3)]), x7, l2, l5, l7, true, l9, true, l13, l16, l18, true, true, l21, by kernel_rfl, by kernel_rfl, hI.s20⟩
              · obtain rfl : l21 = false := by simpa using hlf
                refine wpOp_step (i := 21) rfl (fun K' hK' => ?_)
                replace hK' := Lib.hid hK'
                simp only [Act.put, List.getElem_toArray, List.getElem_cons_zero, List.getElem_cons_succ, List.setIfInBounds_toArray, List.set_cons_zero, List.set_cons_succ]
                go_simp
                refine hK'.out _ _ ?_
                exact ⟨HCS.out _ (hI.bl.alloc hI.bs _), x33, x36, x38, x39, x40, x43, x44, x47, x49, x50, x51, (.pointer (some ⟨w'.heap.size, 0, none⟩)), l2, l5, l7, l8, l9, l12, l13, l16, l18, l19, l20, true, by kernel_rfl, by kernel_rfl, hI.s21⟩
              · have := hdeps ⟨21, .data⟩ (by simp) rfl
                have h20 := hdeps ⟨20, .data⟩ (by simp) rfl
                obtain rfl : l2 = true := by simpa using hdeps ⟨2, .phase⟩ (by simp) rfl
                obtain rfl : l5 = true := by simpa using hdeps ⟨5, .phase⟩ (by simp) rfl
                obtain rfl : l7 = true := by simpa using hdeps ⟨7, .phase⟩ (by simp) rfl
                obtain rfl : l8 = true := by simpa using hdeps ⟨8, .phase⟩ (by simp) rfl
                obtain rfl : l9 = true := by simpa using hdeps ⟨9, .phase⟩ (by simp) rfl
                obtain rfl : l12 = true := by simpa using hdeps ⟨12, .phase⟩ (by simp) rfl
                obtain rfl : l13 = true := by simpa using hdeps ⟨13, .phase⟩ (by simp) rfl
                obtain rfl : l16 = true := by simpa using hdeps ⟨16, .phase⟩ (by simp) rfl
                obtain rfl : l18 = true := by simpa using hdeps ⟨18, .phase⟩ (by simp) rfl
                obtain rfl : l19 = true := by simpa using hdeps ⟨19, .phase⟩ (by simp) rfl
                obtain rfl : l20 = true := by simpa using hdeps ⟨20, .phase⟩ (by simp) rfl
                obtain rfl : l21 = true := by simpa using hdeps ⟨21, .phase⟩ (by simp) rfl
                exact absurd rfl hne
            · rintro listed a w' ⟨x33, x36, x38, x39, x40, x43, x44, x47, x49, x50, x51, x7, l2, l5, l7, l8, l9, l12, l13, l16, l18, l19, l20, l21, rfl, rfl, hI⟩ hne hr
              clear hI
              have r := fun i => (show i ∉ Region.ready _ _ _ from by rw [hr]; simp)
              obtain rfl : l2 = true := by
                cases l2
                · exact absurd (mem_ready.2 ⟨rfl, _, rfl, fun e he _ => by simp at he⟩) (r 2)
                · rfl
              obtain rfl : l7 = true := by
                cases l7
                · exact absurd (mem_ready.2 ⟨rfl, _, rfl, fun e he _ => by simp at he; subst he; rfl⟩) (r 7)
                · rfl
              obtain rfl : l9 = true := by
                cases l9
                · exact absurd (mem_ready.2 ⟨rfl, _, rfl, fun e he _ => by simp at he⟩) (r 9)
                · rfl
              obtain rfl : l13 = true := by
                cases l13
                · exact absurd (mem_ready.2 ⟨rfl, _, rfl, fun e he _ => by simp at he⟩) (r 13)
                · rfl
              obtain rfl : l18 = true := by
                cases l18
                · exact absurd (mem_ready.2 ⟨rfl, _, rfl, fun e he _ => by simp at he; subst he; rfl⟩) (r 18)
                · rfl
              obtain rfl : l21 = true := by
                cases l21
                · exact absurd (mem_ready.2 ⟨rfl, _, rfl, fun e he _ => by simp at he⟩) (r 21)
                · rfl
              obtain rfl : l5 = true := by
                cases l5
                · exact absurd (mem_ready.2 ⟨rfl, _, rfl, fun e he _ => by simp at he; rcases he with rfl | rfl <;> rfl⟩) (r 5)
                · rfl
              obtain rfl : l8 = true := by
                cases l8
                · exact absurd (mem_ready.2 ⟨rfl, _, rfl, fun e he _ => by simp at he; rcases he with rfl | rfl | rfl <;> rfl⟩) (r 8)
                · rfl
              obtain rfl : l12 = true := by
                cases l12
                · exact absurd (mem_ready.2 ⟨rfl, _, rfl, fun e he _ => by simp at he; rcases he with rfl | rfl | rfl <;> rfl⟩) (r 12)
                · rfl
              obtain rfl : l16 = true := by
                cases l16
                · exact absurd (mem_ready.2 ⟨rfl, _, rfl, fun e he _ => by simp at he; rcases he with rfl | rfl | rfl <;> rfl⟩) (r 16)
                · rfl
              obtain rfl : l19 = true := by
                cases l19
                · exact absurd (mem_ready.2 ⟨rfl, _, rfl, fun e he _ => by simp at he; rcases he with rfl | rfl | rfl <;> rfl⟩) (r 19)
                · rfl
              obtain rfl : l20 = true := by
                cases l20
                · exact absurd (mem_ready.2 ⟨rfl, _, rfl, fun e he _ => by simp at he; rcases he with rfl | rfl | rfl | rfl <;> rfl⟩) (r 20)
                · rfl
              exact hne rfl
            · rintro a w1 fuel ⟨x33, x36, x38, x39, x40, x43, x44, x47, x49, x50, x51, x7, l2, l5, l7, l8, l9, l12, l13, l16, l18, l19, l20, l21, hD, rfl, hI⟩ hfu
              have h1 : unl (#[true, true, true, true, true, true, true, true, true, true, true, true, true, true, true, true, true, true, true, true, true, true, false] : Array Bool) = 1 := by kernel_rfl
              rw [h1] at hfu
              obtain ⟨k, rfl⟩ : ∃ k, fuel = k + 1 := ⟨fuel - 1, by omega⟩
              clear h1
              have hl : l2 = true ∧ l5 = true ∧ l7 = true ∧ l8 = true ∧ l9 = true ∧ l12 = true ∧ l13 = true ∧ l16 = true ∧ l18 = true ∧ l19 = true ∧ l20 = true ∧ l21 = true := by
                simp only [Array.mk.injEq, List.cons.injEq, true_and, and_true, Bool.true_eq] at hD
                simpa [and_assoc, eq_comm] using hD
              obtain ⟨rfl, rfl, rfl, rfl, rfl, rfl, rfl, rfl, rfl, rfl, rfl, rfl⟩ := hl
              clear hD hfu
              obtain ⟨q1, c1, rfl, _⟩ := row_form (hI.fk.p4 rfl)
              obtain ⟨q2, c2, rfl, _⟩ := row_form (hI.fv.p2 rfl rfl)
              obtain ⟨q3, c3, rfl, _⟩ := row_form (hI.fi.p4 rfl)
              obtain ⟨_, _, _, rfl⟩ := hI.bd rfl
              obtain ⟨g, rfl, hge, hbox⟩ := hI.bx rfl
              have HI := Lib.hid hI
              have HBOX := Lib.hid hbox
              have z0 := (Joins.cell_of_block hbox 0).trans rfl
              have z1 := (Joins.cell_of_block hbox 1).trans rfl
              have z2 := (Joins.cell_of_block hbox 2).trans rfl
              have z3 := (Joins.cell_of_block hbox 3).trans rfl
              have f0 := Joins.unfrozen_of_block hbox 0
              have f1 := Joins.unfrozen_of_block hbox 1
              have f2 := Joins.unfrozen_of_block hbox 2
              have f3 := Joins.unfrozen_of_block hbox 3
              have hglt : g < w1.heap.size := (Array.getElem?_eq_some_iff.1 hbox).1
              clear hI hbox
              simp only [Act.put, List.getElem_toArray, List.getElem_cons_zero, List.getElem_cons_succ, List.setIfInBounds_toArray, List.set_cons_zero, List.set_cons_succ]
              refine wpAnyH_ready (rs := [22]) (by kernel_rfl) (by simp) ?_
              refine AllReadyH.cons rfl (fun K hK => ?_) AllReadyH.nil
              obtain ⟨w2, hw2⟩ : ∃ x, x = ((((w1.setCell ⟨g, 0, none⟩ (.bool n2.leaf)).setCell ⟨g, 1, none⟩ (.slice q1 (n2.ks.length + 1) c1)).setCell ⟨g, 2, none⟩ (.slice q2 n2.vs.length c2)).setCell ⟨g, 3, none⟩ (.slice q3 (n2.is.length + 1) c3)) := ⟨_, rfl⟩
              have hgr : w1.grownBy w2 (some g) := by rw [hw2]; exact gb4 _ _ _ _ _ _
              have HBw2 : Hid (Below Wb.heap.size Wb w2) := Lib.hid (HI.out.bl.trans (gr_low hgr HI.out.bs (fun k hk => by have := Option.some.inj hk; omega)))
              go_simp
              rw [show ((((w1.setCell ⟨g, 0, none⟩ (.bool n2.leaf)).setCell ⟨g, 1, none⟩ (.slice q1 (n2.ks.length + 1) c1)).setCell ⟨g, 2, none⟩ (.slice q2 n2.vs.length c2)).setCell ⟨g, 3, none⟩ (.slice q3 (n2.is.length + 1) c3)) = w2 from hw2.symm]
              refine hK.out _ _ (HCS.out _ HBw2.out) (fun hHeld => ?_)
              have hb2 : w2.heap[g]? = some (.cells #[.bool n2.leaf, .slice q1 (n2.ks.length + 1) c1, .slice q2 n2.vs.length c2, .slice q3 (n2.is.length + 1) c3] 27 (0, 0)) := by rw [hw2]; exact set4 HBOX.out
              clear hK K z0 z1 z2 z3 f0 f1 f2 f3 hglt hw2
              simp only [Act.put, List.getElem_toArray, List.getElem_cons_zero, List.getElem_cons_succ, List.setIfInBounds_toArray, List.set_cons_zero, List.set_cons_succ]
              refine wpAnyH_done (by kernel_rfl) ?_ _
              refine ⟨rfl, (.pointer (some ⟨w.heap.size, 0, none⟩)), (.bool n2.leaf), x33, (.pointer (some ⟨w.heap.size, 1, none⟩)), (.slice n2.kq n2.ks.length n2.kc), x36, (.slice q m c), x38, (.slice q1 (n2.ks.length + 1) c1), x40, (.pointer (some ⟨w.heap.size, 2, none⟩)), (.slice n2.vq n2.vs.length n2.vc), (.slice q2 n2.vs.length c2), x44, (.pointer (some ⟨w.heap.size, 3, none⟩)), (.slice n2.iq n2.is.length n2.ic), x47, (.int .i64 kid), x49, (.slice q3 (n2.is.length + 1) c3), (.agg #[.bool n2.leaf, .slice q1 (n2.ks.length + 1) c1, .slice q2 n2.vs.length c2, .slice q3 (n2.is.length + 1) c3]), g, ⟨n2.leaf, q1, c1, n2.ks ++ [⟨q, c, l⟩], q2, c2, n2.vs, q3, c3, n2.is ++ [kid]⟩, by kernel_rfl, ?_, rfl, rfl, rfl, rfl⟩
              refine ⟨by simpa using hb2, hge, ?_, ?_, ?_, HBw2.out⟩
              · have h1 := World.ownsRow.kept (HI.out.fk.p4 rfl) hgr (.inr (row_other (HI.out.fk.p4 rfl) HBOX.out (by decide)))
                unfold KOwn
                rw [show kCells (n2.ks ++ [⟨q, c, l⟩]) = kCells n2.ks ++ [.slice q m c] by rw [HML.out]; simp [kCells, Kb.v], List.length_append]
                simpa using h1
              · exact World.ownsRow.kept (HI.out.fv.p2 rfl rfl) hgr (.inr (row_other (HI.out.fv.p2 rfl rfl) HBOX.out (by decide)))
              · have h1 := World.ownsRow.kept (HI.out.fi.p4 rfl) hgr (.inr (row_other (HI.out.fi.p4 rfl) HBOX.out (by decide)))
                unfold OwnI i64s
                simpa [i64s] using h1
            · exact ⟨Fam.none _ _ _ _ _, Fam.none _ _ _ _ _, Fam.none _ _ _ _ _, fun h => (by cases h), fun h => (by cases h), Below.refl _ _, Nat.le_refl _⟩
          · rintro a' w2 ⟨x31, x32, x33, x34, x35, x36, x37, x38, x39, x40, x41, x42, x43, x44, x45, x46, x47, x48, x49, x50, x51, g, mm, rfl, hM, hlf, hks, hvs, his⟩
            simp only [Act.put, List.getElem_toArray, List.getElem_cons_zero, List.getElem_cons_succ, List.setIfInBounds_toArray, List.set_cons_zero, List.set_cons_succ]
            have hkokf : ∀ w', Below Wb.heap.size Wb w' → ∀ x ∈ mm.ks, x.Ok w' := fun w' hb x hx => by
              rw [hks] at hx
              rcases List.mem_append.1 hx with hx | hx
              · exact ((HG.out.ok.below hb).ko x hx)
              · obtain rfl := List.mem_singleton.1 hx
                exact ⟨HBSb.out.below hb, by rw [← HML.out]; exact hmc, hc63, HZ.out⟩
            have hvokf : ∀ w', Below Wb.heap.size Wb w' → ∀ x ∈ mm.vs, x.Ok w' := fun w' hb x hx => by rw [hvs] at hx; exact (HG.out.ok.below hb).vo x hx
            have HKOK := Lib.hid hkokf
            have HVOK := Lib.hid hvokf
            clear hkokf hvokf
            have hkok : ∀ x ∈ mm.ks, x.Ok w2 := fun x hx => by
              rw [hks] at hx
              rcases List.mem_append.1 hx with hx | hx
              · exact ((HG.out.ok.below hM.below).ko x hx)
              · obtain rfl := List.mem_singleton.1 hx
                exact ⟨HBSb.out.below hM.below, by rw [← HML.out]; exact hmc, hc63, HZ.out⟩
            have hvok : ∀ x ∈ mm.vs, x.Ok w2 := fun x hx => by rw [hvs] at hx; exact (HG.out.ok.below hM.below).vo x hx
            have hiok : ∀ x ∈ mm.is, -9223372036854775808 ≤ x ∧ x ≤ 9223372036854775807 := fun x hx => by
              rw [his] at hx
              rcases List.mem_append.1 hx with hx | hx
              · exact HG.out.ok.io x hx
              · obtain rfl := List.mem_singleton.1 hx
                exact HKID.out
            have HM := Lib.hid hM
            have HMO := Lib.hid (hM.ok hkok hvok hiok)
            have HLF := Lib.hid hlf
            have HKS := Lib.hid hks
            have HVS := Lib.hid hvs
            have HIS := Lib.hid his
            have HIOK := Lib.hid hiok
            have HGT : Hid (w.heap.size < g) := Lib.hid (Nat.lt_of_lt_of_le HG.out.cells.2 hM.ge)
            have HCH := Lib.hid (child_any (w := w2) (q := q) (n := m) (c := c) (by omega))
            have HSZN : Hid (∀ w', Below Wb.heap.size Wb w' → Calls Try.prog 16 #[n2.cell] w' fun e w'' => e = .returned (.int .i64 (n2.s.size : Nat)) ∧ Below w'.heap.size w' w'') := Lib.hid fun w' hb => size_any (HG.out.later hb).ok (Nat.le_trans HG.out.few (by omega))
            have HSZ1 : Hid (∀ w', Calls Try.prog 16 #[.agg #[.bool true, .slice none 0 0, .slice none 0 0, .slice none 0 0]] w' fun e w'' => e = .returned (.int .i64 1) ∧ Below w'.heap.size w' w'') := Lib.hid fun w' => size_any (Nd.leaf0_ok w') (by decide)
            have HCT : Hid (mm.s.count ≤ 4000) := Lib.hid (by
              have h1 := HG.out.few
              rw [count_eq] at h1 ⊢
              rw [hks, hvs, his, List.length_append, List.length_append, lens_append]
              have := HML.out
              simp [lens]
              omega)
            obtain ⟨⟨y0, y1, y2, y3⟩, yf⟩ := hM.cells
            obtain ⟨x0, x1, x2, x3⟩ := HCS.out _ hM.below
            have hgl := hM.lt
            rw [hlf] at y0
            unfold Nd.cell at HSZN
            clear hM hks hvs his hkok hvok hiok hlf
            obtain ⟨s0, hs0⟩ : ∃ z, z = n2.s.size := ⟨_, rfl⟩
            have HS0 := Lib.hid hs0
            have hs0b : s0 ≤ 18003 := by rw [hs0]; have h1 := n2.s.size_le; have h2 := HG.out.few; omega
            rw [← hs0] at HSZN
            clear hs0
            have hgl2 := hgl
            rcases Bool.eq_false_or_eq_true n2.leaf with hlt | hlt
  
            · have HLT := Lib.hid hlt
              rw [hlt] at HLF
              have w64 : IntKind.i64.wrap ((s0 : Int) + ((m : Int) + 5)) = (s0 : Int) + ((m : Int) + 5) := by rw [IntKind.wrap_i64]; omega
              have e5 : decide (IntKind.i64.wrap ((m : Int) + 2) ≤ (m : Int) + 5) = true := decide_eq_true (by rw [IntKind.wrap_i64]; omega)
              rw [hlt] at x0 y0 HSZN
              clear hlt
              have hcv := Joins.run_convert_bytes_const_at (P := Try.prog) w2 22 5 #[.int .u8 120, .int .u8 121, .int .u8 122] 3 3 w2.heap.size rfl Try.underlying22 Try.underlying5
              obtain ⟨W4, hW4⟩ : ∃ W4, W4 = (w2.alloc (.cells #[.int .u8 120, .int .u8 121, .int .u8 122] 5 (3, 4))).alloc (.cells #[.slice (some ⟨w2.heap.size, 0, none⟩) 3 3, .int .i64 0, .int .i64 0] 42) := ⟨_, rfl⟩
              have hs4 : W4.heap.size = w2.heap.size + 2 := by rw [hW4]; simp
              have hb24 : Below w2.heap.size w2 W4 := by rw [hW4]; exact ((Below.refl _ _).alloc (Nat.le_refl _) _).alloc (by simp) _
              have HB24 := Lib.hid hb24
              have hk4 : W4.heap[w2.heap.size]? = some (.cells #[.int .u8 120, .int .u8 121, .int .u8 122] 5 (3, 4)) := by
                rw [hW4]
                exact alloc_blk (heap_alloc_new w2 _)
              have hv4 : W4.heap[w2.heap.size + 1]? = some (.cells #[.slice (some ⟨w2.heap.size, 0, none⟩) 3 3, .int .i64 0, .int .i64 0] 42 (0, 0)) := by
                rw [hW4]
                have h1 := heap_alloc_new (w2.alloc (.cells #[.int .u8 120, .int .u8 121, .int .u8 122] 5 (3, 4))) (.cells #[.slice (some ⟨w2.heap.size, 0, none⟩) 3 3, .int .i64 0, .int .i64 0] 42)
                rwa [show (w2.alloc (.cells #[.int .u8 120, .int .u8 121, .int .u8 122] 5 (3, 4))).heap.size = w2.heap.size + 1 by simp] at h1
              have HK4 := Lib.hid hk4
              have HV4 := Lib.hid hv4
              have HS4 := Lib.hid hs4
              have HM4 := Lib.hid (HM.out.later hb24)
              have HM5 : Hid (GrM w Wb (W4.alloc (.cells #[.slice (some ⟨w2.heap.size, 0, none⟩) 3 3, .int .i64 0, .int .i64 0] 42)) g mm) := Lib.hid (HM4.out.later ((Below.refl _ _).alloc (Nat.le_refl _) _))
              have d0 := (Joins.cell_of_block hv4 0).trans rfl
              have d1 := (Joins.cell_of_block hv4 1).trans rfl
              have d2 := (Joins.cell_of_block hv4 2).trans rfl
              obtain ⟨⟨b0, b1, b2, b3⟩, bf⟩ := HM4.out.cells
              rw [HLF.out] at b0
              have hvl : w2.heap.size + 1 < W4.heap.size := by omega
              have hgl4 := HM4.out.lt
              have HVLN : Hid (mm.vs.length ≤ 1000000) := Lib.hid (by have h1 := HG.out.few; rw [count_eq] at h1; rw [HVS.out]; omega)
              clear hk4 hv4 hs4 hb24
              go_wp2_with fail
              refine HCH.out.mono ?_
              rintro e w3 ⟨rfl, rfl⟩
              clear x0 x1 x2 x3 y0 y1 y2 y3 yf
              obtain ⟨x0, x1, x2, x3⟩ := HCS.out _ HM.out.below
              rw [HLT.out] at x0
              have HEN := Lib.hid (fun w' => entry_any (w := w') (q := q) (n := m) (c := c) (by omega) (some ⟨w3.heap.size, 0, none⟩) 3 [120, 121, 122] 0 0 (by decide) l HML.out)
              have hen : entS l ⟨[120, 121, 122], 0, 0⟩ = m + 5 := by
                rw [HML.out]
                rfl
              rw [hen] at HEN
              have HENT := Lib.hid hen
              clear hen
              go_upto_region 10 with fail
              rw [← hW4]
              clear hW4 hcv
              go_wp2_with (at_builtin; go_loud (refine app_vals rfl (.tmp 60) (.tmp 62) rfl ⟨some ⟨w3.heap.size, 0, none⟩, 3, [120, 121, 122], 0, 0⟩ rfl HM5.out.vo rfl (heap_alloc_new W4 _) HVLN.out (HM5.out.below.size) ?_; intro q9 n9 c9 w9 hn9 ho9 hg9; have HM9 := Lib.hid (HM4.out.setV (x := ⟨some ⟨w3.heap.size, 0, none⟩, 3, [120, 121, 122], 0, 0⟩) ((Below.refl _ _).alloc (Nat.le_refl _) _) hn9 ho9 hg9); have hb9 := HM9.out.2; have z2 := (Joins.cell_of_block hb9 2).trans rfl; have y2 := Joins.unfrozen_of_block hb9 2; have hgl9 := (Array.getElem?_eq_some_iff.1 hb9).1; have hv9 := (hg9.block (w3.heap.size + 1) (by simp; omega) (fun e => by have h1 := (World.ownsRow.lt HM.out.vo _ e.symm).2; omega)).trans (alloc_blk HV4.out); have hv10 : (w9.setCell ⟨g, 2, none⟩ (.slice q9 n9 c9)).heap[w3.heap.size + 1]? = _ := (set_ne (by have := HM.out.lt; omega)).trans hv9; have v0 := (Joins.cell_of_block hv10 0).trans rfl; have v1 := (Joins.cell_of_block hv10 1).trans rfl; have v2 := (Joins.cell_of_block hv10 2).trans rfl; have hu9 := (hg9.block w3.heap.size (by simp; omega) (fun e => by have h1 := (World.ownsRow.lt HM.out.vo _ e.symm).2; omega)).trans (alloc_blk HK4.out); have HU10 := Lib.hid (show (w9.setCell ⟨g, 2, none⟩ (.slice q9 n9 c9)).heap[w3.heap.size]? = _ from (set_ne (by have := HM.out.lt; omega)).trans hu9); have hvl10 := (Array.getElem?_eq_some_iff.1 hv10).1; clear hn9 ho9 hg9 hb9 hv9 hv10 hu9))
              refine (HEN.out _).mono ?_
              rintro e w11 ⟨rfl, hb11⟩
              obtain ⟨mm2, HM2, HMO2, HLF2, HKS2, HVS2, HCT2⟩ : ∃ mm2 : Nd, Hid (GrM w Wb w11 g mm2) ∧ Hid (mm2.Ok w11) ∧ Hid (mm2.leaf = true) ∧ Hid (mm2.ks = n2.ks ++ [⟨q, c, l⟩]) ∧ Hid (mm2.vs = n2.vs ++ [⟨some ⟨w3.heap.size, 0, none⟩, 3, [120, 121, 122], 0, 0⟩]) ∧ Hid (mm2.s.count ≤ 4010) := by
                have h1 := HM9.out.1.later hb11
                refine ⟨_, Lib.hid h1, Lib.hid (h1.ok (HKOK.out _ h1.below) ?_ HIOK.out), Lib.hid HLF.out, Lib.hid HKS.out, Lib.hid (by rw [← HVS.out]), Lib.hid ?_⟩
                · intro x hx
                  rcases List.mem_append.1 hx with hx | hx
                  · exact HVOK.out _ h1.below x hx
                  · obtain rfl := List.mem_singleton.1 hx
                    have h2 := (hb11.block _ (Array.getElem?_eq_some_iff.1 HU10.out).1).trans HU10.out
                    refine ⟨fun _ => ⟨w3.heap.size, 0, rfl, fun i u hi => ?_⟩, (by show (3 : Nat) ≤ 3; omega), (by show (3 : Nat) ≤ 9223372036854775807; omega), (fun h => by cases h), (by show (-9223372036854775808 : Int) ≤ 0; omega), (by show (0 : Int) ≤ 9223372036854775807; omega), (by show (-9223372036854775808 : Int) ≤ 0; omega), (by show (0 : Int) ≤ 9223372036854775807; omega)⟩
                    rw [Joins.cell_of_block h2]
                    match i, hi with
                    | 0, hi => cases hi; rfl
                    | 1, hi => cases hi; rfl
                    | 2, hi => cases hi; rfl
                    | i + 3, hi => simp at hi
                · have h3 := HCT.out
                  rw [count_eq] at h3 ⊢
                  rw [List.length_append, lens_append]
                  simp [lens]
                  omega
              clear hb11 v0 v1 v2
              have HSZM : Hid (∀ w', Below w11.heap.size w11 w' → Calls Try.prog 16 #[.agg #[.bool true, .slice mm2.kq mm2.ks.length mm2.kc, .slice mm2.vq mm2.vs.length mm2.vc, .slice mm2.iq mm2.is.length mm2.ic]] w' fun e w'' => e = .returned (.int .i64 ((s0 + (m + 5) : Nat) : Int)) ∧ Below w'.heap.size w' w'') := Lib.hid fun w' hb => by
                have h1 := size_any (HMO2.out.below hb) (Nat.le_trans HCT2.out (by omega))
                have h2 : mm2.s.size = s0 + (m + 5) := by
                  rw [HS0.out]
                  exact (by have h1 := size_leaf (s := n2.s) (t := mm2.s) (v := ⟨[120, 121, 122], 0, 0⟩) (k := l) (show n2.leaf = true from HLT.out) (show mm2.leaf = true from HLF2.out) (by show (n2.vs.map Vl.s).length = (n2.ks.map Kb.l).length; rw [List.length_map, List.length_map]; exact HG.out.even HLT.out) (by show mm2.ks.map Kb.l = _; rw [HKS2.out]; simp [Nd.s]) (by show mm2.vs.map Vl.s = _; rw [HVS2.out]; simp [Nd.s, Vl.s]); rw [h1, HENT.out, HML.out])
                rw [h2] at h1
                unfold Nd.cell at h1
                rw [HLF2.out] at h1
                exact h1
              have HCB : Hid (∀ w', Below w11.heap.size w11 w' → (w'.cell? ⟨g, 0, none⟩ = some (.bool true) ∧ w'.cell? ⟨g, 1, none⟩ = some (.slice mm2.kq mm2.ks.length mm2.kc) ∧ w'.cell? ⟨g, 2, none⟩ = some (.slice mm2.vq mm2.vs.length mm2.vc) ∧ w'.cell? ⟨g, 3, none⟩ = some (.slice mm2.iq mm2.is.length mm2.ic)) ∧ w'.cell? ⟨w.heap.size, 0, none⟩ = some (.bool true) ∧ w'.cell? ⟨w.heap.size, 1, none⟩ = some (.slice n2.kq n2.ks.length n2.kc) ∧ w'.cell? ⟨w.heap.size, 2, none⟩ = some (.slice n2.vq n2.vs.length n2.vc) ∧ w'.cell? ⟨w.heap.size, 3, none⟩ = some (.slice n2.iq n2.is.length n2.ic)) := Lib.hid fun w' hb => by
                have h1 := (HM2.out.later hb).cells.1
                have h2 := HCS.out w' (HM2.out.later hb).below
                rw [HLF2.out] at h1
                rw [HLT.out] at h2
                exact ⟨h1, h2⟩
              have HBD : Hid (Below w11.heap.size w11 w11.drew) := Lib.hid (Below.refl _ _).drew
              have HBB : Hid (∀ w', Below w11.heap.size w11 w' → Below Wb.heap.size Wb w') := Lib.hid fun w' hb => (HM2.out.later hb).below
              have HEND : Hid (∀ w', Below w11.heap.size w11 w' → Below w.heap.size w w') := Lib.hid fun w' hb => HG.out.below.trans (((HM2.out.later hb).below).mono HG.out.below.size)
              go_wp2_with fail
              go_region_held3 (fun w' => (w'.cell? ⟨g, 0, none⟩ = some (.bool true) ∧ w'.cell? ⟨g, 1, none⟩ = some (.slice mm2.kq mm2.ks.length mm2.kc) ∧ w'.cell? ⟨g, 2, none⟩ = some (.slice mm2.vq mm2.vs.length mm2.vc) ∧ w'.cell? ⟨g, 3, none⟩ = some (.slice mm2.iq mm2.is.length mm2.ic)) ∧ w'.cell? ⟨w.heap.size, 0, none⟩ = some (.bool true) ∧ w'.cell? ⟨w.heap.size, 1, none⟩ = some (.slice n2.kq n2.ks.length n2.kc) ∧ w'.cell? ⟨w.heap.size, 2, none⟩ = some (.slice n2.vq n2.vs.length n2.vc) ∧ w'.cell? ⟨w.heap.size, 3, none⟩ = some (.slice n2.iq n2.is.length n2.ic))
                (first | exact HCB.out _ HE3.out | exact HCB.out _ HE2.out | exact HCB.out _ HE1.out | exact HCB.out _ HBD.out)
                (first
                  | (go_at_call 16; (with_reducible refine (HSZ1.out _).mono ?_); rintro e w7 ⟨rfl, hb⟩; have HE3 := Lib.hid (HE2.out.trans (hb.mono HE2.out.size)); clear hb)
                  | (go_at_call 16; (with_reducible refine (HSZN.out _ (HBB.out _ HE1.out)).mono ?_); rintro e w6 ⟨rfl, hb⟩; have HE2 := Lib.hid (HE1.out.trans (hb.mono HE1.out.size)); clear hb)
                  | (go_at_call 16; (with_reducible refine (HSZM.out _ HBD.out).mono ?_); rintro e w5 ⟨rfl, hb⟩; have HE1 := Lib.hid (HBD.out.trans (hb.mono HBD.out.size)); clear hb)
                  | fail)
              all_goals
                go_wp2
                go_ret
                exact ⟨rfl, HEND.out _ HE3.out⟩
            · have HLT := Lib.hid hlt
              rw [hlt] at HLF
              have HSZM : Hid (∀ w', Below w2.heap.size w2 w' → Calls Try.prog 16 #[.agg #[.bool false, .slice mm.kq mm.ks.length mm.kc, .slice mm.vq mm.vs.length mm.vc, .slice mm.iq mm.is.length mm.ic]] w' fun e w'' => e = .returned (.int .i64 ((s0 + (m + 3) : Nat) : Int)) ∧ Below w'.heap.size w' w'') := Lib.hid fun w' hb => by
                have h1 := size_any (HMO.out.below hb) (Nat.le_trans HCT.out (by omega))
                have h2 : mm.s.size = s0 + (m + 3) := by
                  rw [HS0.out, HML.out]
                  exact size_branch (show n2.leaf = false from HLT.out) (by show mm.leaf = false; exact HLF.out) (by show mm.ks.map Kb.l = _; rw [HKS.out]; simp [Nd.s])
                rw [h2] at h1
                unfold Nd.cell at h1
                rw [HLF.out] at h1
                exact h1
              have HCB : Hid (∀ w', Below w2.heap.size w2 w' → (w'.cell? ⟨g, 0, none⟩ = some (.bool false) ∧ w'.cell? ⟨g, 1, none⟩ = some (.slice mm.kq mm.ks.length mm.kc) ∧ w'.cell? ⟨g, 2, none⟩ = some (.slice mm.vq mm.vs.length mm.vc) ∧ w'.cell? ⟨g, 3, none⟩ = some (.slice mm.iq mm.is.length mm.ic)) ∧ w'.cell? ⟨w.heap.size, 0, none⟩ = some (.bool false) ∧ w'.cell? ⟨w.heap.size, 1, none⟩ = some (.slice n2.kq n2.ks.length n2.kc) ∧ w'.cell? ⟨w.heap.size, 2, none⟩ = some (.slice n2.vq n2.vs.length n2.vc) ∧ w'.cell? ⟨w.heap.size, 3, none⟩ = some (.slice n2.iq n2.is.length n2.ic)) := Lib.hid fun w' hb => by
                have h1 := (HM.out.later hb).cells.1
                have h2 := HCS.out w' (HM.out.later hb).below
                rw [HLF.out] at h1
                rw [HLT.out] at h2
                exact ⟨h1, h2⟩
              have HBD : Hid (Below w2.heap.size w2 w2.drew) := Lib.hid (Below.refl _ _).drew
              have HBB : Hid (∀ w', Below w2.heap.size w2 w' → Below Wb.heap.size Wb w') := Lib.hid fun w' hb => (HM.out.later hb).below
              have HEND : Hid (∀ w', Below w2.heap.size w2 w' → Below w.heap.size w w') := Lib.hid fun w' hb => HG.out.below.trans (((HM.out.later hb).below).mono HG.out.below.size)
              have w64 : IntKind.i64.wrap ((s0 : Int) + ((m : Int) + 3)) = (s0 : Int) + ((m : Int) + 3) := by rw [IntKind.wrap_i64]; omega
              have e5 : decide (IntKind.i64.wrap ((m : Int) + 2) ≤ (m : Int) + 3) = true := decide_eq_true (by rw [IntKind.wrap_i64]; omega)
              rw [hlt] at x0 y0 HSZN
              clear hlt
              go_wp2_with fail
              refine HCH.out.mono ?_
              rintro e w3 ⟨rfl, rfl⟩
              go_wp2_with fail
              go_region_held3 (fun w' => (w'.cell? ⟨g, 0, none⟩ = some (.bool false) ∧ w'.cell? ⟨g, 1, none⟩ = some (.slice mm.kq mm.ks.length mm.kc) ∧ w'.cell? ⟨g, 2, none⟩ = some (.slice mm.vq mm.vs.length mm.vc) ∧ w'.cell? ⟨g, 3, none⟩ = some (.slice mm.iq mm.is.length mm.ic)) ∧ w'.cell? ⟨w.heap.size, 0, none⟩ = some (.bool false) ∧ w'.cell? ⟨w.heap.size, 1, none⟩ = some (.slice n2.kq n2.ks.length n2.kc) ∧ w'.cell? ⟨w.heap.size, 2, none⟩ = some (.slice n2.vq n2.vs.length n2.vc) ∧ w'.cell? ⟨w.heap.size, 3, none⟩ = some (.slice n2.iq n2.is.length n2.ic))
                (first | exact HCB.out _ HE3.out | exact HCB.out _ HE2.out | exact HCB.out _ HE1.out | exact HCB.out _ HBD.out)
                (first
                  | (go_at_call 16; (with_reducible refine (HSZ1.out _).mono ?_); rintro e w7 ⟨rfl, hb⟩; have HE3 := Lib.hid (HE2.out.trans (hb.mono HE2.out.size)); clear hb)
                  | (go_at_call 16; (with_reducible refine (HSZN.out _ (HBB.out _ HE1.out)).mono ?_); rintro e w6 ⟨rfl, hb⟩; have HE2 := Lib.hid (HE1.out.trans (hb.mono HE1.out.size)); clear hb)
                  | (go_at_call 16; (with_reducible refine (HSZM.out _ HBD.out).mono ?_); rintro e w5 ⟨rfl, hb⟩; have HE1 := Lib.hid (HBD.out.trans (hb.mono HBD.out.size)); clear hb)
                  | fail)
              all_goals
                go_wp2
                go_ret
                exact ⟨rfl, HEND.out _ HE3.out⟩

end Go.Proofs.Ytigmibmebockhaa
