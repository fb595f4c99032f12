/-
  ShareBetter: its closure; the list that it gathers in a box.
-/
import Derived.Test.YtigmibmebockhaaShOwn
import Derived.Deep.RegionHeld3
import Derived.Deep.RegionLaw
import Derived.Lib.AppendZeros
set_option linter.unusedVariables false
set_option linter.unusedSimpArgs false
set_option maxRecDepth 100000
namespace Go.Proofs.Ytigmibmebockhaa
open Go.RowKit

theorem bt_form {w : World} {B : Nat} {v : Value} {l : List Int} (h : OwnI w B v l) : ∃ q c, v = .slice q l.length c ∧ ∀ b, v.ownBlock = some b → B ≤ b ∧ b < w.heap.size := by
  obtain ⟨q, c, rfl, _⟩ := h.ok
  exact ⟨q, c, rfl, fun b hb => World.ownsRow.lt h b hb⟩
theorem bt_app1 {w : World} (ty t e : TypeId) (i : TypeInfo) (z : Value) (size bytes : Nat) (ht : Try.prog.underlying t = some (.slice e)) (hi : Try.prog.info? e = some i) (hz : i.zero = some z) (hs : i.size = size) (hb : i.bytes = bytes) (hzs : z.cells.size = size) (hp : 0 < size) (h8 : bytes ≤ 64)
    {B : Nat} {v : Value} {n : Nat} {xs : List Value} (hown : w.ownsRow B e size v n xs) {ad : Addr} {c : Nat} {news : List Value} (hl : news.length = 1 * size) (hcells : ∀ (j : Nat) u, news[j]? = some u → w.cell? (ad.add j) = some u) (h1 : ∀ u ∈ news, u.oneCell' = true) (hlen : n ≤ 1000000) (hB : B ≤ w.heap.size) :
    ∃ v' w', (Builtin.append_ #[t, t] ty #[v, .slice (some ad) 1 c]).run Try.prog w = .ok v' w' ∧ w'.ownsRow B e size v' (n + 1) (xs ++ news) ∧ w.grownBy w' v.ownBlock := by
  have hby : (n + 1) * bytes ≤ 140737488355328 := by
    have := Nat.mul_le_mul (show n + 1 ≤ 1000001 by omega) h8
    omega
  obtain ⟨v', w', hr, h2, h3, _⟩ := run_append_own (P := Try.prog) w B t ty e i z size bytes ht hi hz hs hb hzs hp v n xs hown ad 1 c news hl hcells h1 (by simp only [maxLen]; omega) (by omega) hB
  exact ⟨v', w', hr, h2, h3⟩
theorem bt_step {w : World} {ops : Array Oper} {o : Oper} {a : Act} {K : Act → World → Prop} {Q : Exit → Act → World → Prop} {E : Prop} (hgd : o.guard = none) (s x : Operand)
    (ho : o.op = .call { callee := .builtin .append, args := #[s, x], argTypes := #[25, 25] })
    {B : Nat} {v : Value} {l : List Int} (u : Int) (hs : a.eval s = v) (hown : OwnI w B v l) {b c : Nat} (hx : a.eval x = .slice (some ⟨b, 0, none⟩) 1 c) (h0 : w.cell? ⟨b, 0, none⟩ = some (.int .i64 u)) (hlen : l.length ≤ 1000000) (hB : B ≤ w.heap.size)
    (h : ∀ q n c' w', n = (l ++ [u]).length → OwnI w' B (.slice q n c') (l ++ [u]) → w.grownBy w' v.ownBlock → K (a.put o.dst (.slice q n c')) w') : if Region.wanted o (yielded ops a.tmps) = true then Oper.wp Try.prog o a w K Q else E := by
  have hw : Region.wanted o (yielded ops a.tmps) = true := by simp [Region.wanted, hgd]
  rw [if_pos hw]
  obtain ⟨i, hi, hz0, hz1, hz2⟩ := info_parts info_int
  obtain ⟨v', w', hr, h1, h2⟩ := bt_app1 (w := w) o.type 25 3 i _ 1 8 Try.underlying25 hi hz0 hz1 hz2 rfl (by decide) (by decide) hown (ad := ⟨b, 0, none⟩) (c := c) (news := [.int .i64 u]) rfl (fun j y hj => by
    rw [Addr.add_lit, Nat.zero_add]
    match j, hj with
    | 0, hj => cases hj; exact h0
    | j + 1, hj => simp at hj) (fun y hy => by obtain rfl := List.mem_singleton.1 hy; rfl) hlen hB
  have h1' : OwnI w' B v' (l ++ [u]) := by
    unfold OwnI
    rw [List.length_append]
    simpa [i64s] using h1
  obtain ⟨q, c', rfl, _⟩ := bt_form h1'
  exact Lib.wp_append_run w s x 25 25 ho v _ hs hx _ w' hr (h q _ c' w' rfl h1' h2)

/-- What the law has gathered: its two boxes, its row. -/
structure BtL (w0 w : World) (most : Int) (q : Option Addr) (n c : Nat) (L : List Int) : Prop where
  boxM : w.heap[w0.heap.size]? = some (.cells #[.int .i64 most] 3 (0, 0))
  boxA : w.heap[w0.heap.size + 1]? = some (.cells #[.slice q n c] 25 (0, 0))
  own : OwnI w (w0.heap.size + 2) (.slice q n c) L
  below : Below w0.heap.size w0 w
  len : n = L.length
  each : ∀ x ∈ L, 0 ≤ x ∧ x ≤ 1023
theorem BtL.start (w : World) (most : Int) : BtL w ((w.alloc (.cells #[.int .i64 most] 3)).alloc (.cells #[.slice none 0 0] 25)) most none 0 0 [] := by
  have e : (w.alloc (.cells #[.int .i64 most] 3)).heap.size = w.heap.size + 1 := by simp
  refine ⟨alloc_old (heap_alloc_new w _) _, ?_, OwnI.nil _ _, ((Below.refl _ _).alloc (Nat.le_refl _) _).alloc (by omega) _, rfl, fun x hx => (by cases hx)⟩
  have h := heap_alloc_new (w.alloc (.cells #[.int .i64 most] 3)) (.cells #[.slice none 0 0] 25)
  rwa [e] at h
theorem BtL.size {w0 w : World} {most : Int} {q : Option Addr} {n c : Nat} {L : List Int} (h : BtL w0 w most q n c L) : w0.heap.size + 2 ≤ w.heap.size := (Array.getElem?_eq_some_iff.1 h.boxA).1
theorem BtL.later {w0 w w' : World} {most : Int} {q : Option Addr} {n c : Nat} {L : List Int} (h : BtL w0 w most q n c L) (hb : Below w.heap.size w w') : BtL w0 w' most q n c L := by
  have hs := h.size
  exact ⟨(hb.block _ (by omega)).trans h.boxM, (hb.block _ (by omega)).trans h.boxA, h.own.below hb, h.below.trans (hb.mono h.below.size), h.len, h.each⟩
theorem BtL.cells {w0 w : World} {most : Int} {q : Option Addr} {n c : Nat} {L : List Int} (h : BtL w0 w most q n c L) : (w.cell? ⟨w0.heap.size, 0, none⟩ = some (.int .i64 most) ∧ w.cell? ⟨w0.heap.size + 1, 0, none⟩ = some (.slice q n c)) ∧ w.frozen? ⟨w0.heap.size, 0, none⟩ = false ∧ w.frozen? ⟨w0.heap.size + 1, 0, none⟩ = false :=
  ⟨⟨Joins.cell_of_block h.boxM 0, Joins.cell_of_block h.boxA 0⟩, Joins.unfrozen_of_block h.boxM 0, Joins.unfrozen_of_block h.boxA 0⟩
theorem BtL.ok {w0 w : World} {most : Int} {q : Option Addr} {n c : Nat} {L : List Int} (h : BtL w0 w most q n c L) : KsOk w q n c L := by
  obtain ⟨q', c', e, hk⟩ := h.own.ok
  have := h.len
  subst this
  cases e
  exact hk
theorem grown_pre {w w1 w2 : World} {r : Option Nat} (h : Below w.heap.size w w1) (h' : w1.grownBy w2 r) : w.grownBy w2 r :=
  ⟨h'.os.trans h.os, h'.tape.trans h.tape, h'.output.trans h.output, Nat.le_trans h.size h'.size, fun k hk hne => (h'.block k (Nat.lt_of_lt_of_le hk h.size) hne).trans (h.block k hk)⟩
theorem grown_set (w : World) (A i : Nat) (v : Value) : w.grownBy (w.setCell ⟨A, i, none⟩ v) (some A) :=
  ⟨rfl, rfl, rfl, by simp, fun k hk hne => by
    have hk' : A ≠ k := fun e => hne (by rw [e])
    simp [World.setCell, Array.getElem?_modify, hk']⟩
theorem BtL.mid {w0 w w1 w2 : World} {most : Int} {q : Option Addr} {n c : Nat} {L : List Int} (h : BtL w0 w most q n c L) (hb : Below w.heap.size w w1) (hg : w1.grownBy w2 (Value.slice q n c).ownBlock) :
    w2.heap[w0.heap.size + 1]? = some (.cells #[.slice q n c] 25 (0, 0)) := by
  have hs := h.size
  have hgw := grown_pre hb hg
  have hn : ∀ k, (Value.slice q n c).ownBlock = some k → w0.heap.size + 2 ≤ k := fun k hk => (World.ownsRow.lt h.own k hk).1
  exact (hgw.block _ (by omega) (fun e => by have := hn _ e.symm; omega)).trans h.boxA
theorem BtL.app {w0 w w1 w2 : World} {most : Int} {q q' : Option Addr} {n c n' c' : Nat} {L : List Int} {x : Int} (h : BtL w0 w most q n c L) (hb : Below w.heap.size w w1) (hm : n' = (L ++ [x]).length) (ho : OwnI w2 (w0.heap.size + 2) (.slice q' n' c') (L ++ [x])) (hg : w1.grownBy w2 (Value.slice q n c).ownBlock) (hx : 0 ≤ x ∧ x ≤ 1023) :
    BtL w0 (w2.setCell ⟨w0.heap.size + 1, 0, none⟩ (.slice q' n' c')) most q' n' c' (L ++ [x]) := by
  have hs := h.size
  have hw := h.below.size
  have hgw := grown_pre hb hg
  have hn : ∀ k, (Value.slice q n c).ownBlock = some k → w0.heap.size + 2 ≤ k := fun k hk => (World.ownsRow.lt h.own k hk).1
  have hA := h.mid hb hg
  have hM : w2.heap[w0.heap.size]? = some (.cells #[.int .i64 most] 3 (0, 0)) := (hgw.block _ (by omega) (fun e => by have := hn _ e.symm; omega)).trans h.boxM
  refine ⟨?_, ?_, ho.kept (grown_set _ _ _ _) (.inr fun e => by have := (World.ownsRow.lt ho _ e).1; omega), ?_, hm, ?_⟩
  · have e : (w2.setCell ⟨w0.heap.size + 1, 0, none⟩ (.slice q' n' c')).heap[w0.heap.size]? = w2.heap[w0.heap.size]? := by
      simp [World.setCell, Array.getElem?_modify]
    exact e.trans hM
  · simp [World.setCell, Array.getElem?_modify, hA]
  · have h2 : Below w0.heap.size w w2 := ⟨hgw.os, hgw.tape, hgw.output, hgw.size, fun k hk => hgw.block k (by omega) (fun e => by have := hn _ e.symm; omega)⟩
    exact (h.below.trans h2).setCell (p := ⟨w0.heap.size + 1, 0, none⟩) (by show w0.heap.size ≤ w0.heap.size + 1; omega) _
  · intro y hy
    rcases List.mem_append.1 hy with hy | hy
    · exact h.each y hy
    · obtain rfl := List.mem_singleton.1 hy
      exact hx
/-- The other box is written. -/
theorem BtL.setM {w0 w : World} {most : Int} {q : Option Addr} {n c : Nat} {L : List Int} (h : BtL w0 w most q n c L) (m' : Int) : BtL w0 (w.setCell ⟨w0.heap.size, 0, none⟩ (.int .i64 m')) m' q n c L := by
  have hs := h.size
  refine ⟨?_, ?_, h.own.kept (grown_set _ _ _ _) (.inr fun e => by have := (World.ownsRow.lt h.own _ e).1; omega), h.below.setCell (p := ⟨w0.heap.size, 0, none⟩) (Nat.le_refl _) _, h.len, h.each⟩
  · simp [World.setCell, Array.getElem?_modify, h.boxM]
  · have e : (w.setCell ⟨w0.heap.size, 0, none⟩ (.int .i64 m')).heap[w0.heap.size + 1]? = w.heap[w0.heap.size + 1]? := by
      simp [World.setCell, Array.getElem?_modify]
    exact e.trans h.boxA

set_option maxHeartbeats 1600000 in
theorem gap_any {w : World} {A M : Nat} {most : Int} {q : Option Addr} {n c : Nat} {L : List Int} (hA : w.cell? ⟨A, 0, none⟩ = some (.slice q n c)) (hM : w.cell? ⟨M, 0, none⟩ = some (.int .i64 most)) (hk : KsOk w q n c L) (hall : ∀ x ∈ L, 0 ≤ x ∧ x ≤ 1023) (hn : n ≤ 100) (k : Nat) (hkn : k ≤ n) :
    Calls Try.prog 23 #[.int .i64 (k : Int), .pointer (some ⟨A, 0, none⟩), .pointer (some ⟨M, 0, none⟩)] w (ApPost w (shP L k) (shQ L k) most) := by
  obtain ⟨rfl, h1, h2, hks⟩ := hk
  have HK := Lib.hid hks
  have HALL := Lib.hid hall
  have HPQ := Lib.hid (shPQ L k)
  have HP := Lib.hid (fun j => shP_bounds hall (by omega) j)
  have HQ := Lib.hid (shQ_bounds hall (by omega) k)
  clear hks hall
  go_enter Try.func23, Try.ntmps23
  go_wp2
  go_loopw [6, 7, 8] (fun x y i wr => ∃ (j : Nat), x = .int .i64 (shP L (min j k)) ∧ y = .int .i64 (shP L j - shP L (min j k)) ∧ i = .int .i64 (j : Int) ∧ j ≤ L.length ∧ wr = w) (fun _ _ i _ => L.length - (intOf i).toNat)
  case atStart => exact ⟨0, by rw [Nat.zero_min, shP_zero], by rw [Nat.zero_min, shP_zero]; rfl, rfl, by omega, rfl⟩
  case round =>
    obtain ⟨j, rfl, rfl, rfl, hj, rfl⟩ := hrel
    by_cases hjn : j < L.length
    · obtain ⟨x, hx⟩ : ∃ x, L[j]? = some x := ⟨_, List.getElem?_eq_getElem hjn⟩
      obtain ⟨b, o, hq, hcell⟩ := HK.out.at hx
      have hs := Lib.hid (shP_succ hx)
      have hx1 := HALL.out x (List.mem_of_getElem? hx)
      have hp := HP.out j
      have hp2 := HP.out (min j k)
      subst hq
      clear hx
      by_cases hjk : j < k
      · have e1 : decide ((j : Int) < (k : Int)) = true := decide_eq_true (by omega)
        have m1 : Hid (min j k = j) := Lib.hid (by omega)
        have m2 : Hid (min (j + 1) k = j + 1) := Lib.hid (by omega)
        rw [m1.out] at hp2 ⊢
        generalize shP L j = p at *
        go_wp2
        go_roundw
        case rel => exact ⟨j + 1, by rw [m2.out, hs.out], by rw [m2.out]; congr 1; omega, by go_num, by omega, trivial⟩
        case measure => simp [intOf]; omega
      · have e1 : decide ((j : Int) < (k : Int)) = false := decide_eq_false (by omega)
        have m1 : Hid (min j k = k) := Lib.hid (by omega)
        have m2 : Hid (min (j + 1) k = k) := Lib.hid (by omega)
        have hle := HP.out (j + 1)
        rw [m1.out] at hp2 ⊢
        generalize shP L j = p at *
        obtain ⟨p2, hpe⟩ : ∃ p2, p2 = shP L k := ⟨_, rfl⟩
        have HPE := Lib.hid hpe
        rw [← hpe] at hp2 ⊢
        clear hpe
        go_wp2
        go_roundw
        case rel => exact ⟨j + 1, by rw [m2.out, ← HPE.out], by rw [m2.out, hs.out, ← HPE.out]; congr 1; omega, by go_num, by omega, trivial⟩
        case measure => simp [intOf]; omega
    · obtain rfl : j = L.length := by omega
      have m1 : min L.length k = k := by omega
      have hs : shP L L.length = L.sum := by simp [shP]
      have hq : L.sum - shP L k = shQ L k := by have := HPQ.out; omega
      have hp2 := HP.out k
      have hqb := HQ.out
      rw [m1, hs, hq]
      clear m1 hs hq HPQ
      generalize shP L k = a at *
      generalize shQ L k = b at *
      have hd : Hid (∀ v f, v = shGap a b → f = shIn a b most → ApPost wr a b most (.returned (.tuple #[.int .i64 v, .bool f])) wr.drew) := Lib.hid fun v f h1 h2 => by
        subst h1 h2
        exact ⟨rfl, (Below.refl _ _).drew⟩
      have hg : Hid (shGap a b = if a ≤ b then b - a else a - b) := Lib.hid rfl
      have hi : Hid (shIn a b most = decide (a ≤ most ∧ b ≤ most)) := Lib.hid rfl
      go_wp2
      go_region
      all_goals go_wp2
      all_goals
        go_ret2
        refine hd.out _ _ ?_ ?_
        · rw [hg.out]
          split <;> omega
        · rw [hi.out]
          exact decide_eq_decide.2 (by omega)

end Go.Proofs.Ytigmibmebockhaa
