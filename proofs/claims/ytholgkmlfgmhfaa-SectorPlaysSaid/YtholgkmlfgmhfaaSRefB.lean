/-
  The document's disk: Read.
-/
import Derived.Test.YtholgkmlfgmhfaaSRefA
set_option linter.unusedVariables false
set_option maxRecDepth 100000
namespace Go.Proofs.Ytholgkmlfgmhfaa
open Go.RowKit

theorem rcells_get {ms : List (Int × Bl)} {i : Nat} {x : Int × Bl} (h : ms[i]? = some x) : (rcells ms)[i * 2]? = some (.int .i64 x.1) ∧ (rcells ms)[i * 2 + 1]? = some (blv x.2) := by
  induction ms generalizing i with
  | nil => simp at h
  | cons y ms ih =>
    cases i with
    | zero =>
      simp at h
      subst h
      exact ⟨rfl, rfl⟩
    | succ i =>
      have h' := ih (by simpa using h)
      have e : rcells (y :: ms) = [.int .i64 y.1, blv y.2] ++ rcells ms := rfl
      rw [e]
      have e1 : (i + 1) * 2 = 2 + i * 2 := by omega
      rw [e1, List.getElem?_append_right (by simp), List.getElem?_append_right (by simp; omega)]
      have e2 : 2 + i * 2 - [Value.int IntKind.i64 y.1, blv y.2].length = i * 2 := by simp
      have e3 : 2 + i * 2 + 1 - [Value.int IntKind.i64 y.1, blv y.2].length = i * 2 + 1 := by simp; omega
      rw [e2, e3]
      exact h'

/-- What is read off a disk in memory, in later worlds. -/
structure RefMem (w : World) (p : Nat) (lq : Option Addr) (ln lc : Nat) (wq : Option Addr) (wn wc : Nat) (Ls : List Bl) (ms : List (Int × Bl)) : Prop where
  c0 : w.cell? ⟨p, 0, none⟩ = some (.slice lq ln lc)
  c1 : w.cell? ⟨p, 1, none⟩ = some (.slice wq wn wc)
  lh : ln = Ls.length
  wh : wn = ms.length
  l1 : ln ≤ lc
  l2 : lc ≤ 9223372036854775807
  w1 : wn ≤ wc
  w2 : wc ≤ 9223372036854775807
  lg : ∀ k x, Ls[k]? = some x → ∃ g, lq = some ⟨g, 0, none⟩ ∧ w.cell? ⟨g, k, none⟩ = some (.slice x.q x.l.length x.c)
  wg : ∀ k x, ms[k]? = some x → ∃ g, wq = some ⟨g, 0, none⟩ ∧ w.cell? ⟨g, k * 2, none⟩ = some (.int .i64 x.1) ∧ w.cell? ⟨g, k * 2 + 1, none⟩ = some (.slice x.2.q x.2.l.length x.2.c)

theorem RefIs.mem {w : World} {B p : Nat} {lv wv : Value} {Ls : List Bl} {ms : List (Int × Bl)} {S : SD} (h : RefIs w B p lv wv Ls ms S) : ∃ lq ln lc wq wn wc, lv = .slice lq ln lc ∧ wv = .slice wq wn wc ∧ RefMem w p lq ln lc wq wn wc Ls ms := by
  obtain ⟨lq, lc, hl, l1, l2, l3⟩ := row_slice h.lo
  obtain ⟨wq, wc, hw, w1, w2, w3⟩ := row_slice h.wo
  refine ⟨lq, _, lc, wq, _, wc, hl, hw, by rw [Joins.cell_of_block h.blk, hl]; rfl, by rw [Joins.cell_of_block h.blk, hw]; rfl, rfl, rfl, l1, l2, w1, w2, fun k x hx => ?_, fun k x hx => ?_⟩
  · have hk := (List.getElem?_eq_some_iff.1 hx).1
    obtain ⟨g, hg, _, _, hc⟩ := l3 (by omega)
    exact ⟨g, hg, hc k (blv x) (by rw [List.getElem?_map, hx]; rfl)⟩
  · have hk := (List.getElem?_eq_some_iff.1 hx).1
    obtain ⟨g, hg, _, _, hc⟩ := w3 (by omega)
    obtain ⟨e1, e2⟩ := rcells_get hx
    exact ⟨g, hg, hc _ _ e1, hc _ _ e2⟩
theorem RefIs.below {w w' : World} {B p : Nat} {lv wv : Value} {Ls : List Bl} {ms : List (Int × Bl)} {S : SD} (h : RefIs w B p lv wv Ls ms S) (hb : Below w.heap.size w w') : RefIs w' B p lv wv Ls ms S := by
  obtain ⟨h1, h2, h3, h4, h5, h6, h7, h8, h9, h10⟩ := h
  have st : ∀ {i : Nat} {o : Obj}, w.heap[i]? = some o → w'.heap[i]? = some o := fun {i o} h => by rw [hb.block i (Array.getElem?_eq_some_iff.1 h).1]; exact h
  exact ⟨st h1, h2, h3, row_on h4 fun g c hg _ => st hg, row_on h5 fun g c hg _ => st hg, fun x hx => ⟨(h6 x hx).1.below hb, (h6 x hx).2⟩, fun x hx => ⟨(h7 x hx).1.below hb, (h7 x hx).2⟩, h8, h9, h10⟩

def RReadPost (w : World) (l : List UInt8) (e : Ending) (w' : World) : Prop := ∃ q c, e = .returned (.tuple #[.slice q 512 c, .int .i64 0]) ∧ Bs w' q l ∧ Below w.heap.size w w'

theorem found_take {ws : List Wr} {j : Nat} {x : Wr} (hx : ws[j]? = some x) (k : Int) : found (ws.take (j + 1)) k = if k = x.k then some x.l else found (ws.take j) k := by
  rw [List.take_add_one, hx, Option.toList_some, found_snoc]
  rfl

set_option maxHeartbeats 1600000 in
theorem rread_bad {w : World} {B p : Nat} {S : SD} (h : RefAt w B p S) {k : Int} (hk : ¬ (0 ≤ k ∧ k < S.size)) :
    Calls Try.prog 22 #[.pointer (some ⟨p, 0, none⟩), .int .i64 k] w fun e w' => e = .returned (.tuple #[.slice none 0 0, .int .i64 2]) ∧ w = w' := by
  obtain ⟨lv, wv, Ls, ms, h⟩ := h
  obtain ⟨lq, ln, lc, wq, wn, wc, rfl, rfl, hm⟩ := h.mem
  have hsz : (ln : Int) = S.size := by rw [hm.lh]; exact h.ln
  have c0 := hm.c0
  rw [← hsz] at hk
  by_cases h0 : k < 0
  · have d0 : decide (k < 0) = true := decide_eq_true h0
    clear h hm hsz
    go_enter Try.func22, Try.ntmps22
    go_wp2
    go_ret2
    exact ⟨rfl, rfl⟩
  · have d0 : decide (k < 0) = false := decide_eq_false h0
    have d1 : decide ((ln : Int) ≤ k) = true := decide_eq_true (by omega)
    clear h hm hsz
    go_enter Try.func22, Try.ntmps22
    go_wp2
    go_ret2
    exact ⟨rfl, rfl⟩

set_option maxHeartbeats 3200000 in
theorem rread_any {w : World} {B p : Nat} {S : SD} (h : RefAt w B p S) {k : Nat} (hk1 : (k : Int) < S.size) :
    Calls Try.prog 22 #[.pointer (some ⟨p, 0, none⟩), .int .i64 (k : Int)] w (RReadPost w (S.read k)) := by
  obtain ⟨lv, wv, Ls, ms, h⟩ := h
  obtain ⟨lq, ln, lc, wq, wn, wc, rfl, rfl, hm⟩ := h.mem
  have hsz : (ln : Int) = S.size := by rw [hm.lh]; exact h.ln
  obtain ⟨x, hx⟩ : ∃ x, Ls[k]? = some x := ⟨_, List.getElem?_eq_getElem (by have := hm.lh; omega)⟩
  obtain ⟨lgb, rfl, hcx⟩ := hm.lg k x hx
  have H := Lib.hid h
  have HM := Lib.hid hm
  have hux := h.lu x (List.mem_of_getElem? hx)
  have HZ : Hid (∀ w', Below w.heap.size w w' → Calls Try.prog 31 #[.slice x.q x.l.length x.c] w' (ZPost w' (pad x.l))) := Lib.hid fun w' hb => rzeros_any (hux.1.bs.below hb) x.c rfl hux.2.1 hux.2.2.2.2
  have HLL := Lib.hid (h.ll k x hx)
  have HF0 : Hid (found S.waits (k : Int) = found (S.waits.take wn) (k : Int)) := Lib.hid (by rw [List.take_of_length_le (by rw [h.ws, List.length_map, hm.wh]; exact Nat.le_refl _)])
  have c0 := hm.c0
  have c1 := hm.c1
  have d0 : decide ((k : Int) < 0) = false := decide_eq_false (by omega)
  have d1 : decide ((ln : Int) ≤ (k : Int)) = false := decide_eq_false (by omega)
  have d2 : decide (ln ≤ k) = false := decide_eq_false (by omega)
  have hkl : (k : Int) < (ln : Int) := by omega
  have hkl' : k < ln := by omega
  have wn63 : wn ≤ 9223372036854775807 := Nat.le_trans hm.w1 hm.w2
  have HPL : Hid ((pad x.l).length = 512) := Lib.hid (pad_length hux.2.1)
  clear h hm hsz hx hux
  go_enter Try.func22, Try.ntmps22
  go_wp2
  go_loopw [6] (fun v wr => ∃ j : Nat, v = .int .i64 ((j : Int) - 1) ∧ j ≤ wn ∧ wr = w ∧ found S.waits (k : Int) = found (S.waits.take j) (k : Int)) (fun v _ => (intOf v + 1).toNat)
  case atStart => exact ⟨wn, by go_num, by omega, rfl, HF0.out⟩
  case round =>
    obtain ⟨j, rfl, hj, rfl, hf⟩ := hrel
    have HFj := Lib.hid hf
    clear hf HF0
    by_cases hj0 : j = 0
    · subst hj0
      have hrd : S.read (k : Int) = pad x.l := by
        show (found S.waits (k : Int)).getD _ = _
        rw [HFj.out]
        exact HLL.out
      have HRD := Lib.hid hrd
      clear hrd
      go_wp2_with fail
      refine (HZ.out _ (Below.refl _ _)).mono ?_; rintro e w1 ⟨v, rfl, ho, hb⟩
      obtain ⟨q, c, rfl, hu, _⟩ := U.own ho
      have HU := Lib.hid hu
      have HB := Lib.hid hb
      rw [HPL.out]
      clear ho hb hu
      go_wp2
      go_ret2
      exact ⟨q, c, rfl, by rw [HRD.out]; exact HU.out.bs, HB.out⟩
    · obtain ⟨t, rfl⟩ : ∃ t, j = t + 1 := ⟨j - 1, by omega⟩
      have HLT : LtN t wn := ⟨by omega⟩
      obtain ⟨y, hy⟩ : ∃ y, ms[t]? = some y := ⟨_, List.getElem?_eq_getElem (by have := HM.out.wh; omega)⟩
      obtain ⟨wgb, rfl, hc1, hc2⟩ := HM.out.wg t y hy
      have hws : S.waits[t]? = some ⟨y.1, y.2.l⟩ := by rw [H.out.ws, List.getElem?_map, hy]; rfl
      have HFT := Lib.hid (HFj.out.trans (found_take hws (k : Int)))
      have huy := H.out.wu y (List.mem_of_getElem? hy)
      have HPY : Hid (y.2.l.length = 512) := Lib.hid huy.2.1
      have HZY : Hid (Calls Try.prog 31 #[.slice y.2.q 512 y.2.c] wr (ZPost wr y.2.l)) := Lib.hid (by
        have := rzeros_any (n := 512) huy.1.bs y.2.c huy.2.1.symm (Nat.le_refl _) (fun e => by
          obtain ⟨g, _, hg, _⟩ := huy.1 (by intro h; rw [h] at huy; simp at huy)
          rw [e] at hg
          cases hg)
        have e : pad y.2.l = y.2.l := by unfold pad; rw [huy.2.1]; simp [zeros]
        rwa [e] at this)
      rw [huy.2.1] at hc2
      have hjt : ((t + 1 : Nat) : Int) - 1 = (t : Int) := by omega
      rw [hjt]
      have ht0 : (0 : Int) ≤ (t : Int) := by omega
      have ht1 : (t : Int) < (wn : Int) := by omega
      obtain ⟨yk, hyk⟩ : ∃ yk, yk = y.1 := ⟨_, rfl⟩
      rw [← hyk] at hc1
      have HYK := Lib.hid hyk
      clear hws huy hy hyk hj0 hjt
      by_cases hek : yk = (k : Int)
      · subst hek
        have hrd : S.read (k : Int) = y.2.l := by
          show (found S.waits (k : Int)).getD _ = _
          rw [HFT.out, if_pos HYK.out]
          rfl
        have HRD := Lib.hid hrd
        clear hrd
        go_wp2_with fail
        refine HZY.out.mono ?_; rintro e w1 ⟨v, rfl, ho, hb⟩
        obtain ⟨q, c, rfl, hu, _⟩ := U.own ho
        have HU := Lib.hid hu
        have HB := Lib.hid hb
        rw [HPY.out]
        clear ho hb hu
        go_wp2
        go_ret2
        exact ⟨q, c, rfl, by rw [HRD.out]; exact HU.out.bs, HB.out⟩
      · have hek1 : decide (yk = (k : Int)) = false := decide_eq_false hek
        have hek2 : (yk == (k : Int)) = false := by rw [beq_eq_false_iff_ne]; exact hek
        have HNX : Hid (found S.waits (k : Int) = found (S.waits.take t) (k : Int)) := Lib.hid (by rw [HFT.out, if_neg (fun e => hek (HYK.out.trans e.symm))])
        clear hek
        go_wp2
        go_roundw
        case rel => exact ⟨t, by go_num, by have := HLT.h; omega, (by first | trivial | rfl), HNX.out⟩
        case measure => have := HLT.h; first | (simp [intOf]; done) | (simp [intOf]; omega)

end Go.Proofs.Ytholgkmlfgmhfaa
