/-
  The laws' few, over a node: its contract.
-/
import Derived.Test.YtigmibmebockhaaNdRight
set_option linter.unusedVariables false
set_option maxRecDepth 100000
namespace Go.Proofs.Ytigmibmebockhaa
open Go.RowKit

def Nb : Nat := 140737488351232
/-- As great as a row's bound lets it be. -/
structure Nd.Small (n : Nd) : Prop where
  k : n.ks.length ≤ Nb
  v : n.vs.length ≤ Nb
  i : n.is.length ≤ Nb
  kl : ∀ x ∈ n.ks, x.l.length ≤ Nb
  vl : ∀ x ∈ n.vs, x.l.length ≤ Nb

/-- It tells something; if it tells true there is little of it. -/
def FewPost (w : World) (n : NdS) (e : Ending) (w' : World) : Prop := ∃ b : Bool, e = .returned (.bool b) ∧ (b = true → n.count ≤ 3000) ∧ Below w.heap.size w w'

theorem count_eq (n : Nd) : n.s.count = n.ks.length + n.vs.length + n.is.length + lens Kb.l n.ks + lens Vl.l n.vs := by
  have e1 : ∀ l : List Vl, lens VlS.l (l.map Vl.s) = lens Vl.l l := by
    intro l
    induction l with
    | nil => rfl
    | cons a l ih => simp only [List.map_cons, lens, ih]; rfl
  have e2 : ∀ l : List Kb, lens id (l.map Kb.l) = lens Kb.l l := by
    intro l
    induction l with
    | nil => rfl
    | cons a l ih => simp only [List.map_cons, lens, ih]; rfl
  unfold NdS.count Nd.s
  dsimp only
  rw [e1, e2, List.length_map, List.length_map]

set_option maxHeartbeats 3200000 in
theorem few_any {w : World} {n : Nd} (h : n.Ok w) (hs : n.Small) :
    Calls Try.prog 13 #[n.cell] w (FewPost w n.s) := by
  obtain ⟨W, hW, hbw, hws, hcc⟩ := nd_box w n
  have HOK := Lib.hid h
  have HSM := Lib.hid hs
  have HC := Lib.hid hcc
  have HBW := Lib.hid hbw
  have HBS : Hid (∀ w', Below W.heap.size W w' → Below w.heap.size w w') := Lib.hid fun w' hb => (hcc w' hb).1
  have HCN := Lib.hid (count_eq n)
  have k1 := h.k1
  have k2 := h.k2
  have v1 := h.v1
  have v2 := h.v2
  have i1 := h.i1
  have i2 := h.i2
  have s1 := hs.k
  have s2 := hs.v
  have s3 := hs.i
  unfold Nb at s1 s2 s3
  unfold Nd.cell
  obtain ⟨km, hkm⟩ : ∃ m, m = n.ks.length := ⟨_, rfl⟩
  have HKM := Lib.hid hkm
  obtain ⟨vm, hvm⟩ : ∃ m, m = n.vs.length := ⟨_, rfl⟩
  have HVM := Lib.hid hvm
  obtain ⟨im, him⟩ : ∃ m, m = n.is.length := ⟨_, rfl⟩
  have HIM := Lib.hid him
  rw [← hkm, ← hvm, ← him] at HC hW HCN
  rw [← hkm, ← hvm, ← him]
  rw [← hkm] at k1 s1
  rw [← hvm] at v1 s2
  rw [← him] at i1 s3
  clear h hs hbw hws hcc hkm hvm him
  obtain ⟨_, c0, c1, c2, c3⟩ := HC.out W (Below.refl _ _)
  go_enter Try.func13, Try.ntmps13
  go_wp2_with fail
  rw [← hW]
  replace hW := Lib.hid hW
  go_wp2
  go_loopw [3, 4] (fun x i wr => ∃ (j z : Nat), i = .int .i64 (j : Int) ∧ x = .int .i64 (z : Int) ∧ j ≤ km ∧ Below W.heap.size W wr ∧ z = km + vm + im + lens Kb.l (n.ks.take j) ∧ z ≤ 562949953404928) (fun _ i _ => km - (intOf i).toNat)
  case atStart => exact ⟨0, km + vm + im, rfl, by go_num, by omega, Below.refl _ _, by simp [lens], by omega⟩
  case round =>
    clear c0 c1 c2 c3
    obtain ⟨j, z, rfl, rfl, hj, hb, hz, hz2⟩ := hrel
    have HB := Lib.hid hb
    have HZ := Lib.hid hz
    obtain ⟨_, c0, c1, c2, c3⟩ := HC.out _ hb
    clear hb hz
    by_cases hlt : j < km
    · by_cases h3 : z < 3000
      · obtain ⟨x, hx⟩ : ∃ x, n.ks[j]? = some x := ⟨_, List.getElem?_eq_getElem (by have := HKM.out; omega)⟩
        have hm2 := List.mem_of_getElem? hx
        obtain ⟨b, o, hq, hblt, hkc⟩ := (((HOK.out.below HBW.out).below HB.out).kl).at hx
        have hx2 := (HOK.out.ko x hm2).h2
        have hx1 := (HOK.out.ko x hm2).h1
        have hx3 := HSM.out.kl x hm2
        unfold Nb at hx3
        rw [hq] at c1
        have HT := Lib.hid (lens_take (f := Kb.l) hx)
        obtain ⟨kl, hkl⟩ : ∃ k, k = x.l.length := ⟨_, rfl⟩
        have HKL := Lib.hid hkl
        rw [← hkl] at hkc hx3 hx1
        clear hx hm2 hkl hq
        go_wp2
        go_roundw
        case rel => exact ⟨j + 1, z + kl, by go_num, by go_num, by omega, HB.out, by rw [HT.out, HZ.out, HKL.out]; omega, by omega⟩
        case measure => simp [intOf]; omega
      · go_wp2
        go_loopw [3, 5] (fun x i wr => ∃ (j y : Nat), i = .int .i64 (j : Int) ∧ x = .int .i64 (y : Int) ∧ j ≤ vm ∧ Below W.heap.size W wr ∧ y = z + lens Vl.l (n.vs.take j) ∧ y ≤ 562949953404928) (fun _ i _ => vm - (intOf i).toNat)
        case atStart => exact ⟨0, z, rfl, rfl, by omega, HB.out, by simp [lens], by omega⟩
        case round =>
          obtain ⟨i, y, rfl, rfl, hi, hb, hy, hy2⟩ := hrel
          replace HB := Lib.hid hb
          have HY := Lib.hid hy
          obtain ⟨_, c0, c1, c2, c3⟩ := HC.out _ hb
          clear hb hy
          by_cases hlt : i < vm
          · by_cases h3 : y < 3000
            · obtain ⟨x, hx⟩ : ∃ x, n.vs[i]? = some x := ⟨_, List.getElem?_eq_getElem (by have := HVM.out; omega)⟩
              have hm2 := List.mem_of_getElem? hx
              obtain ⟨b, o, hq, hblt, hkc, hkg, hkp⟩ := (((HOK.out.below HBW.out).below HB.out).vl).at hx
              have hx2 := (HOK.out.vo x hm2).h2
              have hx1 := (HOK.out.vo x hm2).h1
              have hx3 := HSM.out.vl x hm2
              unfold Nb at hx3
              rw [hq] at c2
              have HT := Lib.hid (lens_take (f := Vl.l) hx)
              obtain ⟨kl, hkl⟩ : ∃ k, k = x.l.length := ⟨_, rfl⟩
              have HKL := Lib.hid hkl
              rw [← hkl] at hkc hx3 hx1
              clear hx hm2 hkl hq
              go_wp2
              go_roundw
              case rel => exact ⟨i + 1, y + kl, by go_num, by go_num, by omega, HB.out, by rw [HT.out, HY.out, HKL.out]; omega, by omega⟩
              case measure => simp [intOf]; omega
            · go_wp2
              go_ret
              refine ⟨decide (y < 3000), ret_bool (by simp; try omega), fun h => absurd (of_decide_eq_true h) h3, HBS.out _ HB.out⟩
          · go_wp2
            go_ret
            refine ⟨decide (y < 3000), ret_bool (by simp; try omega), fun h => ?_, HBS.out _ HB.out⟩
            have h1 := of_decide_eq_true h
            have h2 := HY.out
            rw [List.take_of_length_le (by have := HVM.out; omega)] at h2
            omega
    · go_wp2
      go_loopw [3, 5] (fun x i wr => ∃ (j y : Nat), i = .int .i64 (j : Int) ∧ x = .int .i64 (y : Int) ∧ j ≤ vm ∧ Below W.heap.size W wr ∧ y = z + lens Vl.l (n.vs.take j) ∧ y ≤ 562949953404928) (fun _ i _ => vm - (intOf i).toNat)
      case atStart => exact ⟨0, z, rfl, rfl, by omega, HB.out, by simp [lens], by omega⟩
      case round =>
        obtain ⟨i, y, rfl, rfl, hi, hb, hy, hy2⟩ := hrel
        replace HB := Lib.hid hb
        have HY := Lib.hid hy
        obtain ⟨_, c0, c1, c2, c3⟩ := HC.out _ hb
        clear hb hy
        by_cases hlt : i < vm
        · by_cases h3 : y < 3000
          · obtain ⟨x, hx⟩ : ∃ x, n.vs[i]? = some x := ⟨_, List.getElem?_eq_getElem (by have := HVM.out; omega)⟩
            have hm2 := List.mem_of_getElem? hx
            obtain ⟨b, o, hq, hblt, hkc, hkg, hkp⟩ := (((HOK.out.below HBW.out).below HB.out).vl).at hx
            have hx2 := (HOK.out.vo x hm2).h2
            have hx1 := (HOK.out.vo x hm2).h1
            have hx3 := HSM.out.vl x hm2
            unfold Nb at hx3
            rw [hq] at c2
            have HT := Lib.hid (lens_take (f := Vl.l) hx)
            obtain ⟨kl, hkl⟩ : ∃ k, k = x.l.length := ⟨_, rfl⟩
            have HKL := Lib.hid hkl
            rw [← hkl] at hkc hx3 hx1
            clear hx hm2 hkl hq
            go_wp2
            go_roundw
            case rel => exact ⟨i + 1, y + kl, by go_num, by go_num, by omega, HB.out, by rw [HT.out, HY.out, HKL.out]; omega, by omega⟩
            case measure => simp [intOf]; omega
          · go_wp2
            go_ret
            refine ⟨decide (y < 3000), ret_bool (by simp; try omega), fun h => absurd (of_decide_eq_true h) h3, HBS.out _ HB.out⟩
        · go_wp2
          go_ret
          refine ⟨decide (y < 3000), ret_bool (by simp; try omega), fun h => ?_, HBS.out _ HB.out⟩
          have h1 := of_decide_eq_true h
          have h2 := HY.out
          rw [List.take_of_length_le (by have := HVM.out; omega)] at h2
          have h4 := HZ.out
          rw [List.take_of_length_le (by have := HKM.out; omega)] at h4
          rw [HCN.out]
          omega

end Go.Proofs.Ytigmibmebockhaa
