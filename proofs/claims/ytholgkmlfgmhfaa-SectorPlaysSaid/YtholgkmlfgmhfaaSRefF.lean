/-
  The document's disk: Flush.
-/
import Derived.Test.YtholgkmlfgmhfaaSRefB
import Derived.Deep.RegionHeld3
set_option linter.unusedVariables false
set_option maxRecDepth 100000
namespace Go.Proofs.Ytholgkmlfgmhfaa
open Go.RowKit

theorem row_at {w : World} {B e : Nat} {lq : Option Addr} {n c : Nat} {xs : List Value} (h : w.ownsRow B e 1 (.slice lq n c) n xs) (hn : 0 < n) : ∃ g cur, lq = some ⟨g, 0, none⟩ ∧ B ≤ g ∧ w.heap[g]? = some (.cells cur e (0, 0)) := by
  rcases h.2 with ⟨_, h0⟩ | ⟨g, cap, cur, hv, hb, hg, _⟩
  · omega
  · simp only [Value.slice.injEq] at hv
    obtain ⟨rfl, _, _⟩ := hv
    exact ⟨g, cur, rfl, hb, hg⟩

/-- A sector of the document's disk is laid. -/
theorem ref_put {w : World} {B p lg ln lc : Nat} {wv : Value} {Ls : List Bl} {ms : List (Int × Bl)} {S : SD} (h : RefIs w B p (.slice (some ⟨lg, 0, none⟩) ln lc) wv Ls ms S) (hBw : B ≤ w.heap.size) {K : Nat} (hK : K < Ls.length) {x : Bl}
    (hx : U w x.q x.l ∧ x.l.length = 512 ∧ 512 ≤ x.c ∧ x.c ≤ 9223372036854775807) :
    RefIs (w.setCell ⟨lg, K, none⟩ (.slice x.q 512 x.c)) B p (.slice (some ⟨lg, 0, none⟩) ln lc) wv (Ls.set K x) ms { S with lasts := putAt S.lasts K x.l } ∧ Below B w (w.setCell ⟨lg, K, none⟩ (.slice x.q 512 x.c)) ∧ Keeps ofRef w (w.setCell ⟨lg, K, none⟩ (.slice x.q 512 x.c)) := by
  obtain ⟨h1, h2, h3, h4, h5, h6, h7, h8, h9, h10⟩ := h
  have hlo := h4
  obtain ⟨g, cur, hg0, hgB, hg, hln⟩ : ∃ g cur, lg = g ∧ B ≤ g ∧ w.heap[g]? = some (.cells cur 30 (0, 0)) ∧ ln = Ls.length := by
    rcases h4.2 with ⟨_, h0⟩ | ⟨g, cap, cur, hv, hb, hg, _⟩
    · omega
    · simp only [Value.slice.injEq, Option.some.injEq, Addr.mk.injEq] at hv
      exact ⟨g, cur, hv.1.1, hb, hg, hv.2.1⟩
  subst hg0 hln
  obtain ⟨_, gr⟩ := cell_set (i := K) (v := .slice x.q 512 x.c) hg
  have q := ref_step gr hg (ofRef_bytes _ _) hgB hBw
  have hxb : blv x = .slice x.q 512 x.c := by unfold blv; rw [hx.2.1]
  refine ⟨⟨grown_at gr h1 (obj_ne h1 hg (by intro e; simp at e)), h2, by rw [List.length_set]; exact h3, ?_, row_on h5 fun i c hi _ => grown_at gr hi (obj_ne hi hg (by intro e; simp at e)), ?_, fun y hy => ⟨(h7 y hy).1.keeps q.2 ofRef_u8, (h7 y hy).2⟩, h8, ?_, ?_⟩, q⟩
  · have h' := (World.ownsRow.stored hlo K (.slice x.q 512 x.c)).1
    rw [List.length_set, List.map_set, hxb]
    exact h'
  · intro y hy
    rcases List.mem_or_eq_of_mem_set hy with hy | rfl
    · exact ⟨(h6 y hy).1.keeps q.2 ofRef_u8, (h6 y hy).2⟩
    · exact ⟨hx.1.keeps q.2 ofRef_u8, by rw [hx.2.1]; exact Nat.le_refl _, by rw [hx.2.1]; exact hx.2.2.1, hx.2.2.2, fun e => by
        obtain ⟨g', _, hg', _⟩ := hx.1 (by intro e'; rw [e'] at hx; simp at hx)
        rw [e] at hg'
        cases hg'⟩
  · intro k y hy
    rw [List.getElem?_set] at hy
    show putAt S.lasts K x.l k = _
    unfold putAt
    split at hy
    · rename_i hkk
      subst hkk
      rw [if_pos rfl]
      simp only [Option.some.injEq] at hy
      subst hy
      unfold pad
      rw [hx.2.1]
      simp [zeros]
    · rename_i hkk
      rw [if_neg (show ¬ ((k : Int) = (K : Int)) by omega)]
      exact h9 k y hy
  · obtain ⟨k1, k2, k3, k4, k5, k6⟩ := h10
    refine ⟨k1, k2, fun k => ?_, k4, k5, k6⟩
    show (putAt S.lasts K x.l k).length = 512
    unfold putAt
    split
    · exact hx.2.1
    · exact k3 k

/-- What waits is struck. -/
theorem ref_clear {w : World} {B p : Nat} {lv wv : Value} {Ls : List Bl} {ms : List (Int × Bl)} {S : SD} (h : RefIs w B p lv wv Ls ms S) (hBw : B ≤ w.heap.size) :
    RefStep w (w.setCell ⟨p, 1, none⟩ (.slice none 0 0)) B p { S with waits := [] } := by
  obtain ⟨h1, h2, h3, h4, h5, h6, h7, h8, h9, h10⟩ := h
  obtain ⟨b1, gr⟩ := cell_set (i := 1) (v := .slice none 0 0) h1
  have q := ref_step gr h1 (ofRef_own _ _) h2 hBw
  obtain ⟨k1, k2, k3, k4, k5, k6⟩ := h10
  exact ⟨⟨lv, .slice none 0 0, Ls, [], by simpa using b1, h2, h3, row_on h4 fun i c hi _ => grown_at gr hi (obj_ne hi h1 (by intro e; simp at e)), World.ownsRow_nil _ _ _ _, fun x hx => ⟨(h6 x hx).1.keeps q.2 ofRef_u8, (h6 x hx).2⟩, (by simp), rfl, h9, ⟨k1, k2, k3, (by simp), by show ((0 : Nat) : Int) ≤ S.ops; exact k6, k6⟩⟩, q.1, q.2⟩

set_option maxHeartbeats 800000 in
theorem rflush_cut {w : World} {B p : Nat} {S : SD} (h : RefAt w B p S) (h0 : S.left = 0) :
    Calls Try.prog 14 #[.pointer (some ⟨p, 0, none⟩)] w fun e w' => e = .returned (.int .i64 17) ∧ w = w' := by
  have HD := Lib.hid (rdone_cut h h0)
  clear h
  go_enter Try.func14, Try.ntmps14
  go_wp2_with fail
  refine HD.out.mono ?_; rintro e w1 ⟨rfl, rfl⟩
  go_wp2
  go_ret
  exact ⟨rfl, rfl⟩

set_option maxHeartbeats 3200000 in
theorem rflush_any {w : World} {B p : Nat} {S : SD} (h : RefAt w B p S) (h0 : S.left ≠ 0) (hl : -1 ≤ S.left) (hu : S.left ≤ 9223372036854775807) (ho : S.ops ≤ 1000000000) :
    Calls Try.prog 14 #[.pointer (some ⟨p, 0, none⟩)] w fun e w' => e = .returned (.int .i64 0) ∧ RefStep w w' B p S.flush := by
  have HD := Lib.hid (rdone_any h h0 hl hu ho)
  clear h h0 hl hu ho
  go_enter Try.func14, Try.ntmps14
  go_wp2_with fail
  refine HD.out.mono ?_; rintro e w1 ⟨rfl, hs⟩
  obtain ⟨lv, wv, Ls, ms, h1⟩ := hs.disk
  obtain ⟨lq, ln, lc, wq, wn, wc, rfl, rfl, hm⟩ := h1.mem
  have HS1 := Lib.hid hs
  have hln : ln = Ls.length := hm.lh
  have HLN := Lib.hid h1.ln
  have hlo := h1.lo
  rw [← hln] at hlo
  have hs1 := h1.ok.s1
  have hs2 := h1.ln
  obtain ⟨lg, cur, rfl, hlgB, hlg⟩ := row_at hlo (by omega)
  have I0 : Hid (RefIs w1 B p (.slice (some ⟨lg, 0, none⟩) ln lc) (.slice wq wn wc) Ls ms { S.tick with lasts := flushed S.tick.lasts (S.tick.waits.take 0) }) := Lib.hid h1
  have HB1 := Lib.hid hs.disk.base
  have HWN := Lib.hid hm.wh
  have wn63 : wn ≤ 9223372036854775807 := Nat.le_trans hm.w1 hm.w2
  have ln63 : ln ≤ 9223372036854775807 := Nat.le_trans hm.l1 hm.l2
  have HWS := Lib.hid h1.ws
  have HOK := Lib.hid h1.ok
  have HL := Lib.hid hln
  clear hs h1 hm hlg hln HD hlo hs1 hs2
  go_wp2
  go_loopw [3] (fun u wr => ∃ i : Nat, u = .int .i64 i ∧ i ≤ wn ∧ ∃ Ls', RefIs wr B p (.slice (some ⟨lg, 0, none⟩) ln lc) (.slice wq wn wc) Ls' ms { S.tick with lasts := flushed S.tick.lasts (S.tick.waits.take i) } ∧ Below B w1 wr ∧ Keeps ofRef w1 wr) (fun u _ => wn - (intOf u).toNat)
  case atStart => exact ⟨0, rfl, by omega, Ls, I0.out, Below.refl _ _, Keeps.refl _ _⟩
  case round =>
    obtain ⟨i, rfl, hi, Ls', hI, hb, hk⟩ := hrel
    have HI := Lib.hid hI
    have HB := Lib.hid hb
    have HK := Lib.hid hk
    obtain ⟨_, _, _, _, _, _, e1, e2, hm⟩ := hI.mem
    simp only [Value.slice.injEq] at e1 e2
    obtain ⟨rfl, rfl, rfl⟩ := e1
    obtain ⟨rfl, rfl, rfl⟩ := e2
    have c0 := hm.c0
    have c1 := hm.c1
    have hBr := Lib.hid (Nat.le_trans HB1.out hk.size)
    clear hb hk I0
    by_cases hlt : i < wn
    · have HLT : LtN i wn := ⟨hlt⟩
      obtain ⟨y, hy⟩ : ∃ y, ms[i]? = some y := ⟨_, List.getElem?_eq_getElem (by have := HWN.out; omega)⟩
      obtain ⟨wg, rfl, hc1, hc2⟩ := hm.wg i y hy
      have hyw : (⟨y.1, y.2.l⟩ : Wr) ∈ S.tick.waits := by rw [HWS.out]; exact List.mem_map.2 ⟨y, List.mem_of_getElem? hy, rfl⟩
      obtain ⟨_, hy0, hy1⟩ := HOK.out.w _ hyw
      obtain ⟨K, hK⟩ : ∃ K : Nat, y.1 = (K : Int) := ⟨y.1.toNat, by have : 0 ≤ y.1 := hy0; omega⟩
      have hKs : (K : Int) < S.tick.size := by rw [← hK]; exact hy1
      have hKl : K < Ls'.length := by have := hI.ln; have e : ({ S.tick with lasts := flushed S.tick.lasts (S.tick.waits.take i) } : SD).size = S.tick.size := rfl; omega
      obtain ⟨x, hx⟩ : ∃ x, Ls'[K]? = some x := ⟨_, List.getElem?_eq_getElem hKl⟩
      obtain ⟨lg', hlg', hcl⟩ := hm.lg K x hx
      simp only [Option.some.injEq, Addr.mk.injEq, and_true] at hlg'
      subst hlg'
      have huy := hI.wu y (List.mem_of_getElem? hy)
      rw [huy.2.1] at hc2
      rw [hK] at hc1
      have hws : S.tick.waits[i]? = some ⟨y.1, y.2.l⟩ := by rw [HWS.out, List.getElem?_map, hy]; rfl
      have hfl : flushed S.tick.lasts (S.tick.waits.take (i + 1)) = putAt (flushed S.tick.lasts (S.tick.waits.take i)) K y.2.l := by rw [List.take_add_one, hws, Option.toList_some, flushed_snoc, hK]
      have HFL := Lib.hid hfl
      obtain ⟨cur', hcb⟩ : ∃ cur', wr.heap[lg]? = some (.cells cur' 30 (0, 0)) := by
        rcases hI.lo.2 with ⟨_, h0⟩ | ⟨g, cap, cur, hv, hb, hg, _⟩
        · omega
        · simp only [Value.slice.injEq, Option.some.injEq, Addr.mk.injEq] at hv
          rw [hv.1.1]
          exact ⟨cur, hg⟩
      have ul : wr.frozen? ⟨lg, K, none⟩ = false := Joins.unfrozen_of_block hcb _
      have hnp : p ≠ lg := obj_ne hI.blk hcb (by intro e; simp at e)
      have hnw : wg ≠ lg := by
        rcases hI.wo.2 with ⟨hv, h0⟩ | ⟨g, cap, cur, hv, hb, hg, _⟩
        · cases hv
        · simp only [Value.slice.injEq, Option.some.injEq, Addr.mk.injEq] at hv
          rw [hv.1.1]
          exact obj_ne hg hcb (by intro e; simp at e)
      have hP : Hid (RefIs (wr.drew.setCell ⟨lg, K, none⟩ (.slice y.2.q 512 y.2.c)) B p (.slice (some ⟨lg, 0, none⟩) ln lc) (.slice (some ⟨wg, 0, none⟩) wn wc) (Ls'.set K y.2) ms { S.tick with lasts := flushed S.tick.lasts (S.tick.waits.take (i + 1)) } ∧ Below B wr (wr.drew.setCell ⟨lg, K, none⟩ (.slice y.2.q 512 y.2.c)) ∧ Keeps ofRef wr (wr.drew.setCell ⟨lg, K, none⟩ (.slice y.2.q 512 y.2.c))) := Lib.hid (by
        have h := ref_put (hI.below (Below.refl wr.heap.size wr).drew) (show B ≤ wr.drew.heap.size from hBr.out) hKl (x := y.2) ⟨huy.1.below (Below.refl wr.heap.size wr).drew, huy.2⟩
        rw [HFL.out]
        exact ⟨h.1, (Below.refl _ _).drew.trans h.2.1, (Keeps.below (Below.refl wr.heap.size wr).drew).trans h.2.2⟩)
      have HC : Hid (∀ w' : World, w'.heap[p]? = wr.heap[p]? → w'.heap[wg]? = wr.heap[wg]? → w'.cell? ⟨p, 0, none⟩ = some (.slice (some ⟨lg, 0, none⟩) ln lc) ∧ w'.cell? ⟨p, 1, none⟩ = some (.slice (some ⟨wg, 0, none⟩) wn wc) ∧ w'.cell? ⟨wg, i * 2, none⟩ = some (.int .i64 (K : Int)) ∧ w'.cell? ⟨wg, i * 2 + 1, none⟩ = some (.slice y.2.q 512 y.2.c)) := Lib.hid fun w' h1 h2 =>
        ⟨by rw [World.cell?_of_block (w := wr) (a := ⟨p, 0, none⟩) h1]; exact c0, by rw [World.cell?_of_block (w := wr) (a := ⟨p, 1, none⟩) h1]; exact c1, by rw [World.cell?_of_block (w := wr) (a := ⟨wg, i * 2, none⟩) h2]; exact hc1, by rw [World.cell?_of_block (w := wr) (a := ⟨wg, i * 2 + 1, none⟩) h2]; exact hc2⟩
      have HCS : Hid (∀ u, ((wr.drew.setCell ⟨lg, K, none⟩ u).heap[p]? = wr.heap[p]?) ∧ ((wr.drew.setCell ⟨lg, K, none⟩ u).heap[wg]? = wr.heap[wg]?)) := Lib.hid fun u => ⟨Below.heap_setCell _ _ _ _ hnp, Below.heap_setCell _ _ _ _ hnw⟩
      have i0 : (0 : Int) ≤ (i : Int) := by omega
      have i1 : (i : Int) < (wn : Int) := by omega
      have k0 : (0 : Int) ≤ (K : Int) := by omega
      have k1 : (K : Int) < (ln : Int) := by have := HL.out; have := HLN.out; omega
      clear hy hyw hK hKs hKl hx huy hws hfl hcb hnp hnw hI hm hy0 hy1
      go_wp2_with fail
      go_region_held3 (fun w' => w'.cell? ⟨p, 0, none⟩ = some (.slice (some ⟨lg, 0, none⟩) ln lc) ∧ w'.cell? ⟨p, 1, none⟩ = some (.slice (some ⟨wg, 0, none⟩) wn wc) ∧ w'.cell? ⟨wg, i * 2, none⟩ = some (.int .i64 (K : Int)) ∧ w'.cell? ⟨wg, i * 2 + 1, none⟩ = some (.slice y.2.q 512 y.2.c))
        (first | exact HC.out _ rfl rfl | exact HC.out _ (HCS.out _).1 (HCS.out _).2)
        (fail)
      have he : (wr.setCell ⟨lg, K, none⟩ (.slice y.2.q 512 y.2.c)).drew = wr.drew.setCell ⟨lg, K, none⟩ (.slice y.2.q 512 y.2.c) := by first | rfl | exact (World.setCell_drew ..).symm | exact World.setCell_drew ..
      rw [he]
      clear HC HCS c0 c1 hc1 hc2 hcl ul
      generalize wr.drew.setCell ⟨lg, K, none⟩ (.slice y.2.q 512 y.2.c) = w5 at hP ⊢
      go_wp2
      go_roundw
      case rel => exact ⟨i + 1, by go_num, by have := HLT.h; omega, _, hP.out.1, HB.out.trans hP.out.2.1, HK.out.trans hP.out.2.2⟩
      case measure => have := HLT.h; simp [intOf]; omega
    · have hin : i = wn := by omega
      subst hin
      have u4 : wr.frozen? ⟨p, 1, none⟩ = false := Joins.unfrozen_of_block hI.blk _
      have HE := Lib.hid (ref_clear hI hBr.out)
      have htk : S.tick.waits.take i = S.tick.waits := List.take_of_length_le (by rw [HWS.out, List.length_map, ← HWN.out]; exact Nat.le_refl _)
      rw [htk] at HE
      clear hI hm htk
      go_wp2
      go_ret
      exact ⟨rfl, HE.out.disk, HS1.out.below.trans (HB.out.trans HE.out.below), HS1.out.keeps.trans (HK.out.trans HE.out.keeps)⟩

end Go.Proofs.Ytholgkmlfgmhfaa
