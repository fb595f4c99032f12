/-
  The reference's Child, Entry, Size, page, below: contracts.
-/
import Derived.Test.YtigmibmebockhaaNdRight
import Derived.Deep.RegionHeld3
set_option linter.unusedVariables false
set_option linter.unusedSimpArgs false
set_option maxRecDepth 100000
namespace Go.Proofs.Ytigmibmebockhaa
open Go.RowKit

theorem rchild_any {w : World} {q : Option Addr} {n c : Nat} (hn : n ≤ 1000000) :
    Calls Try.prog 54 #[.slice q n c] w fun e w' => e = .returned (.int .i64 ((n + 3 : Nat) : Int)) ∧ w' = w := by
  go_enter Try.func54, Try.ntmps54
  go_wp2
  go_ret
  exact ⟨ret_int (by omega), rfl⟩

theorem rentry_any {w : World} {q : Option Addr} {n c : Nat} (hn : n ≤ 1000000) (q' : Option Addr) (c' : Nat) (l : List UInt8) (g p : Int) (hl : l.length ≤ 1000000) (k : List UInt8) (hk : n = k.length) :
    Calls Try.prog 55 #[.slice q n c, .agg #[.slice q' l.length c', .int .i64 g, .int .i64 p]] w fun e w' => e = .returned (.int .i64 (entS k ⟨l, g, p⟩ : Nat)) ∧ Below w.heap.size w w' := by
  obtain ⟨m, hm⟩ : ∃ m, m = l.length := ⟨_, rfl⟩
  have HK := Lib.hid hk
  have HM := Lib.hid hm
  rw [← hm] at hl ⊢
  clear hk hm
  by_cases hp : p = 0
  · subst hp
    go_enter Try.func55, Try.ntmps55
    go_wp2
    go_ret
    refine ⟨ret_int ?_, ((Below.refl _ _).alloc (Nat.le_refl _) _)⟩
    unfold entS
    rw [if_pos rfl, ← HK.out, ← HM.out]
    omega
  · have hpb : (p != 0) = true := by simpa using hp
    have HP := Lib.hid hp
    clear hp
    go_enter Try.func55, Try.ntmps55
    go_wp2
    go_ret
    refine ⟨ret_int ?_, ((Below.refl _ _).alloc (Nat.le_refl _) _)⟩
    unfold entS
    rw [if_neg HP.out, ← HK.out]
    omega

def pageB (i : Int) : Bool := decide (2 ≤ i) && decide (i ≤ 4095)
theorem pageB_iff (i : Int) : pageB i = true ↔ PageOk i := by
  unfold pageB PageOk
  rw [Bool.and_eq_true, decide_eq_true_eq, decide_eq_true_eq]
  constructor <;> (intro h; constructor <;> omega)
theorem page_any (w : World) (i : Int) : Calls Try.prog 45 #[.int .i64 i] w fun e w' => e = .returned (.bool (pageB i)) ∧ Below w.heap.size w w' := by
  unfold pageB
  by_cases h : 2 ≤ i
  · go_enter Try.func45, Try.ntmps45
    go_wp2
    go_ret
    exact ⟨ret_bool (by simp [h]), Below.refl _ _⟩
  · go_enter Try.func45, Try.ntmps45
    go_wp2
    go_ret
    exact ⟨ret_bool (by simp; try omega), Below.refl _ _⟩

theorem rless : ∀ (l m : List UInt8), Op.bytesLess l m = decide (Lib.compareBytes l m < 0)
  | [], [] => rfl
  | [], _ :: _ => rfl
  | _ :: _, [] => rfl
  | a :: l, b :: m => by
    have ih := rless l m
    simp only [Op.bytesLess, Lib.compareBytes]
    by_cases h1 : a < b
    · simp [h1]
    · by_cases h2 : b < a
      · have : a ≠ b := fun e => by subst e; exact h1 h2
        simp [h1, h2, this]
      · have : a = b := UInt8.le_antisymm (UInt8.not_lt.1 h2) (UInt8.not_lt.1 h1)
        subst this
        simp [h1, ih]

/-- The box of a node behind go_enter of the reference. -/
theorem nd_boxR (w : World) (n : Nd) : ∃ W, W = w.alloc (.cells #[.bool n.leaf, .slice n.kq n.ks.length n.kc, .slice n.vq n.vs.length n.vc, .slice n.iq n.is.length n.ic] 33) ∧ Below w.heap.size w W ∧ W.heap.size = w.heap.size + 1 ∧
    (∀ w', Below W.heap.size W w' → Below w.heap.size w w' ∧ w'.cell? ⟨w.heap.size, 0, none⟩ = some (.bool n.leaf) ∧ w'.cell? ⟨w.heap.size, 1, none⟩ = some (.slice n.kq n.ks.length n.kc) ∧ w'.cell? ⟨w.heap.size, 2, none⟩ = some (.slice n.vq n.vs.length n.vc) ∧ w'.cell? ⟨w.heap.size, 3, none⟩ = some (.slice n.iq n.is.length n.ic)) := by
  refine ⟨_, rfl, (Below.refl _ _).alloc (Nat.le_refl _) _, by simp, fun w' hb => ?_⟩
  have h1 := (hb.block w.heap.size (by simp)).trans (heap_alloc_new w _)
  exact ⟨((Below.refl _ _).alloc (Nat.le_refl _) _).trans (hb.mono (by simp)), Joins.cell_of_block h1 0, Joins.cell_of_block h1 1, Joins.cell_of_block h1 2, Joins.cell_of_block h1 3⟩

set_option maxHeartbeats 400000 in
theorem rbelow_any {w : World} {p q : Option Addr} {l m : List UInt8} (hl : Bs w p l) (hm : Bs w q m) {n k c d : Nat} (hn : n = l.length) (hk : k = m.length) :
    Calls Try.prog 44 #[.slice p n c, .slice q k d] w fun e w' => e = .returned (.bool (decide (Lib.compareBytes l m < 0))) ∧ w' = w := by
  have h1 := str_of hl (c := c) hn
  have h2 := str_of hm (c := d) hk
  clear hl hm hn hk
  go_enter Try.func44, Try.ntmps44
  go_wp2
  go_ret
  refine ⟨ret_bool ?_, rfl⟩
  rw [rless]

set_option maxHeartbeats 1600000 in
theorem rsize_any {w : World} {n : Nd} (h : n.Ok w) (hc : n.s.count ≤ 100000) :
    Calls Try.prog 46 #[n.cell] w fun e w' => e = .returned (.int .i64 (n.s.size : Nat)) ∧ Below w.heap.size w w' := by
  obtain ⟨f1, f2, f3, f4, f5⟩ := Nd.few hc
  have hsz : n.s.size ≤ 600003 := Nat.le_trans n.s.size_le (by omega)
  have hk1 := h.k1
  have hk2 := h.k2
  have hv1 := h.v1
  have hv2 := h.v2
  have HOK := Lib.hid h
  have HF4 := Lib.hid f4
  have HF5 := Lib.hid f5
  obtain ⟨W, hW, hbw, hws, hcc⟩ := nd_boxR w n
  have HC := Lib.hid hcc
  have HBW := Lib.hid hbw
  have HBS : Hid (∀ w', Below W.heap.size W w' → Below w.heap.size w w') := Lib.hid fun w' hb => (hcc w' hb).1
  obtain ⟨m, hm⟩ : ∃ m, m = n.ks.length := ⟨_, rfl⟩
  have HM := Lib.hid hm
  obtain ⟨vm, hvm⟩ : ∃ m, m = n.vs.length := ⟨_, rfl⟩
  have HVM := Lib.hid hvm
  unfold Nd.cell
  rw [← hm, ← hvm] at HC hW
  rw [← hm, ← hvm]
  rw [← hm] at hk1 f1
  rw [← hvm] at hv1 f2
  clear h f4 f5 hc hbw hws hcc hm hvm
  cases hl : n.leaf
  · have HS : Hid (n.s.size = 3 + sizeB n.s.ks) := Lib.hid (by unfold NdS.size; rw [show n.s.leaf = n.leaf from rfl, hl]; rfl)
    have hs3 : 3 + sizeB n.s.ks ≤ 600003 := by rw [← HS.out]; exact hsz
    rw [hl] at HC hW
    clear hl hsz
    obtain ⟨_, c0, c1, c2, c3⟩ := HC.out W (Below.refl _ _)
    go_enter Try.func46, Try.ntmps46
    go_wp2_with fail
    rw [← hW]
    replace hW := Lib.hid hW
    go_wp2
    go_loopw [3, 4] (fun x i wr => ∃ (j z : Nat), i = .int .i64 (j : Int) ∧ x = .int .i64 (z : Int) ∧ j ≤ m ∧ Below W.heap.size W wr ∧ z + sizeB (n.s.ks.drop j) = 3 + sizeB n.s.ks) (fun _ i _ => m - (intOf i).toNat)
    case atStart => exact ⟨0, 3, rfl, rfl, by omega, Below.refl _ _, rfl⟩
    case round =>
      clear c0 c1 c2 c3
      obtain ⟨j, z, rfl, rfl, hj, hb, hz⟩ := hrel
      have HB := Lib.hid hb
      have HZ := Lib.hid hz
      have hz2 : z ≤ 600003 := by omega
      obtain ⟨_, c0, c1, c2, c3⟩ := HC.out _ hb
      clear hb hz
      by_cases hlt : j < m
      · obtain ⟨x, hx⟩ : ∃ x, n.ks[j]? = some x := ⟨_, List.getElem?_eq_getElem (by have := HM.out; omega)⟩
        have hm2 := List.mem_of_getElem? hx
        obtain ⟨b, o, hq, hblt, hkc⟩ := (((HOK.out.below HBW.out).below HB.out).kl).at hx
        have hx2 := (HOK.out.ko x hm2).h2
        have hx3 := HF4.out x hm2
        have hx1 := (HOK.out.ko x hm2).h1
        rw [hq] at c1
        obtain ⟨kl, hkl⟩ : ∃ k, k = x.l.length := ⟨_, rfl⟩
        have HKL := Lib.hid hkl
        rw [← hkl] at hkc hx3 hx1
        have HD : Hid (sizeB (n.s.ks.drop j) = kl + 3 + sizeB (n.s.ks.drop (j + 1))) := Lib.hid (by rw [HKL.out]; exact sizeB_drop (by rw [Nd.s_ks, List.getElem?_map, hx]; rfl))
        have HCH := Lib.hid (fun w => rchild_any (w := w) (q := x.q) (n := kl) (c := x.c) (by omega))
        clear hx hm2 hkl hq
        go_wp2_with fail
        refine (HCH.out _).mono ?_
        rintro e w1 ⟨rfl, rfl⟩
        go_wp2
        go_roundw
        case rel => exact ⟨j + 1, z + (kl + 3), by go_num, by go_num, by omega, HB.out, by have := HD.out; have := HZ.out; omega⟩
        case measure => simp [intOf]; omega
      · go_wp2
        go_ret
        refine ⟨ret_int ?_, HBS.out _ HB.out⟩
        have h1 := HZ.out
        rw [List.drop_eq_nil_of_le (by rw [Nd.s_ks, List.length_map]; have := HM.out; omega)] at h1
        rw [HS.out]
        simp only [sizeB] at h1
        omega
  · have HS : Hid (n.s.size = 1 + sizeL n.s.ks n.s.vs) := Lib.hid (by unfold NdS.size; rw [show n.s.leaf = n.leaf from rfl, hl]; rfl)
    have hs3 : 1 + sizeL n.s.ks n.s.vs ≤ 600003 := by rw [← HS.out]; exact hsz
    rw [hl] at HC hW
    clear hl hsz
    obtain ⟨_, c0, c1, c2, c3⟩ := HC.out W (Below.refl _ _)
    go_enter Try.func46, Try.ntmps46
    go_wp2_with fail
    rw [← hW]
    replace hW := Lib.hid hW
    go_wp2
    go_loopw [3, 4] (fun x i wr => ∃ (j z : Nat), i = .int .i64 (j : Int) ∧ x = .int .i64 (z : Int) ∧ j ≤ m ∧ Below W.heap.size W wr ∧ z + sizeL (n.s.ks.drop j) (n.s.vs.drop j) = 1 + sizeL n.s.ks n.s.vs) (fun _ i _ => m - (intOf i).toNat)
    case atStart => exact ⟨0, 1, rfl, rfl, by omega, Below.refl _ _, rfl⟩
    case round =>
      clear c0 c1 c2 c3
      obtain ⟨j, z, rfl, rfl, hj, hb, hz⟩ := hrel
      have HB := Lib.hid hb
      have HZ := Lib.hid hz
      have hz2 : z ≤ 600003 := by omega
      obtain ⟨_, c0, c1, c2, c3⟩ := HC.out _ hb
      clear hb hz
      by_cases hlt : j < m
      · obtain ⟨x, hx⟩ : ∃ x, n.ks[j]? = some x := ⟨_, List.getElem?_eq_getElem (by have := HM.out; omega)⟩
        have hm2 := List.mem_of_getElem? hx
        obtain ⟨b, o, hq, hblt, hkc⟩ := (((HOK.out.below HBW.out).below HB.out).kl).at hx
        have hx2 := (HOK.out.ko x hm2).h2
        have hx3 := HF4.out x hm2
        have hx1 := (HOK.out.ko x hm2).h1
        rw [hq] at c1
        obtain ⟨kl, hkl⟩ : ∃ k, k = x.l.length := ⟨_, rfl⟩
        have HKL := Lib.hid hkl
        rw [← hkl] at hkc hx3 hx1
        have HD : Hid (sizeL (n.s.ks.drop j) (n.s.vs.drop j) = entS x.l ((n.s.vs[j]?).getD .zero) + sizeL (n.s.ks.drop (j + 1)) (n.s.vs.drop (j + 1))) := Lib.hid (sizeL_drop (by rw [Nd.s_ks, List.getElem?_map, hx]; rfl))
        have hji : (j : Int) < m := by omega
        have hj0 : (0 : Int) ≤ j := by omega
        clear hx hm2 hkl hq
        by_cases hjv : j < vm
        · obtain ⟨y, hy⟩ : ∃ y, n.vs[j]? = some y := ⟨_, List.getElem?_eq_getElem (by have := HVM.out; omega)⟩
          have hvm3 := List.mem_of_getElem? hy
          obtain ⟨b', o', hq', hblt', y0, y1, y2⟩ := (((HOK.out.below HBW.out).below HB.out).vl).at hy
          have hyl : y.l.length ≤ 100000 := Nat.le_trans (lens_mem (f := Vl.l) hvm3) HF5.out
          have HYS : Hid ((n.s.vs[j]?).getD .zero = ⟨y.l, y.g, y.p⟩) := Lib.hid (by rw [show n.s.vs = n.vs.map Vl.s from rfl, List.getElem?_map, hy]; rfl)
          have hy1 := (HOK.out.vo y hvm3).h1
          have hy2 := (HOK.out.vo y hvm3).h2
          rw [hq'] at c2
          have HCH := Lib.hid (fun w => rentry_any (w := w) (q := x.q) (n := kl) (c := x.c) (by omega) y.q y.c y.l y.g y.p (by omega) x.l HKL.out)
          obtain ⟨es, hes⟩ : ∃ s, s = entS x.l ⟨y.l, y.g, y.p⟩ := ⟨_, rfl⟩
          have HES := Lib.hid hes
          have hes2 : es ≤ 200006 := by
            rw [hes]
            have h2 := HKL.out
            unfold entS
            dsimp only
            split <;> omega
          rw [← hes] at HCH
          have hjvi : (j : Int) < vm := by omega
          have hwr : IntKind.i64.wrap ((z : Int) + (es : Int)) = (z : Int) + (es : Int) := by rw [IntKind.wrap_i64]; omega
          clear hes hy hvm3 hq'
          go_wp2_with fail
          go_region_held3 (fun w' => w'.cell? ⟨w.heap.size, 1, none⟩ = some (.slice (some ⟨b, o, none⟩) m n.kc) ∧ w'.cell? ⟨w.heap.size, 2, none⟩ = some (.slice (some ⟨b', o', none⟩) vm n.vc) ∧ w'.cell? ⟨b, o + j, none⟩ = some (.slice x.q kl x.c) ∧ w'.cell? ⟨b', o' + j * 3, none⟩ = some (.slice y.q y.l.length y.c) ∧ w'.cell? ⟨b', o' + j * 3 + 1, none⟩ = some (.int .i64 y.g) ∧ w'.cell? ⟨b', o' + j * 3 + 2, none⟩ = some (.int .i64 y.p))
            (first | exact ⟨c1, c2, hkc, y0, y1, y2⟩ | exact HK2.out)
            (first
              | (go_at_call 55; (with_reducible refine (HCH.out _).mono ?_); rintro e w2 ⟨rfl, hb2⟩; have hb2' : Below wr.heap.size wr w2 := (Below.refl _ _).drew.trans hb2; have HB2 := Lib.hid (HB.out.trans (hb2'.mono HB.out.size)); have HK2 : Hid (w2.cell? ⟨w.heap.size, 1, none⟩ = some (.slice (some ⟨b, o, none⟩) m n.kc) ∧ w2.cell? ⟨w.heap.size, 2, none⟩ = some (.slice (some ⟨b', o', none⟩) vm n.vc) ∧ w2.cell? ⟨b, o + j, none⟩ = some (.slice x.q kl x.c) ∧ w2.cell? ⟨b', o' + j * 3, none⟩ = some (.slice y.q y.l.length y.c) ∧ w2.cell? ⟨b', o' + j * 3 + 1, none⟩ = some (.int .i64 y.g) ∧ w2.cell? ⟨b', o' + j * 3 + 2, none⟩ = some (.int .i64 y.p)) := Lib.hid ⟨(hb2'.cell (World.block_lt_of_cell? _ _ c1)).trans c1, (hb2'.cell (World.block_lt_of_cell? _ _ c2)).trans c2, (hb2'.cell (World.block_lt_of_cell? _ _ hkc)).trans hkc, (hb2'.cell (World.block_lt_of_cell? _ _ y0)).trans y0, (hb2'.cell (World.block_lt_of_cell? _ _ y1)).trans y1, (hb2'.cell (World.block_lt_of_cell? _ _ y2)).trans y2⟩; clear hb2 hb2')
              | fail)
          all_goals
            go_wp2
            go_roundw
            case rel => exact ⟨j + 1, z + es, by go_num, by go_num, by omega, HB2.out, by have h1 := HD.out; have h2 := HZ.out; have h3 := HES.out; rw [HYS.out, ← h3] at h1; rw [h1] at h2; omega⟩
            case measure => simp [intOf]; omega
        · have HYS : Hid ((n.s.vs[j]?).getD .zero = ⟨[], 0, 0⟩) := Lib.hid (by rw [show n.s.vs = n.vs.map Vl.s from rfl, List.getElem?_map, List.getElem?_eq_none (by have := HVM.out; omega)]; rfl)
          have HCH := Lib.hid (fun w => rentry_any (w := w) (q := x.q) (n := kl) (c := x.c) (by omega) none 0 [] 0 0 (by simp) x.l HKL.out)
          obtain ⟨es, hes⟩ : ∃ s, s = entS x.l ⟨[], 0, 0⟩ := ⟨_, rfl⟩
          have HES := Lib.hid hes
          have hes2 : es ≤ 200006 := by
            rw [hes]
            have h2 := HKL.out
            unfold entS
            rw [if_pos rfl]
            simp
            omega
          rw [← hes] at HCH
          clear hes
          go_wp2_with fail
          refine (HCH.out _).mono ?_
          rintro e w2 ⟨rfl, hb2⟩
          have HB2 := Lib.hid (HB.out.trans (hb2.mono HB.out.size))
          clear hb2
          go_wp2
          go_roundw
          case rel => exact ⟨j + 1, z + es, by go_num, by go_num, by omega, HB2.out, by have h1 := HD.out; have h2 := HZ.out; have h3 := HES.out; rw [HYS.out, ← h3] at h1; rw [h1] at h2; omega⟩
          case measure => simp [intOf]; omega
      · go_wp2
        go_ret
        refine ⟨ret_int ?_, HBS.out _ HB.out⟩
        have h1 := HZ.out
        rw [(List.drop_eq_nil_of_le (by rw [Nd.s_ks, List.length_map]; have := HM.out; omega) : n.s.ks.drop j = [])] at h1
        rw [HS.out]
        simp only [sizeL] at h1
        omega

end Go.Proofs.Ytigmibmebockhaa
