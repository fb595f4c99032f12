/-
  slices.Delete of one pin; slices.IndexFunc of pins; pager.pinned.
  pager: pinned, Pin, Unpin.
-/
import Derived.Test.YtngnmakeaniapaaGreatDoorH16
import Derived.Test.YtngnmakeaniapaaGreatDoorH18
import Derived.Deep.RegionLaw
import Derived.Lib.SliceRun
import Derived.Laws.IdiomCopy
set_option linter.unusedVariables false
set_option maxRecDepth 100000
namespace Go.Proofs.YtngnmakeaniapaaGreatDoor
open Go.RowKit

/-- Cells of a block are stored one behind the other. -/
def setMany (cur : Array Value) : Nat → List Value → Array Value
  | _, [] => cur
  | o, v :: r => setMany (cur.setIfInBounds o v) (o + 1) r
theorem setMany_size : ∀ (vs : List Value) (o : Nat) (cur : Array Value), (setMany cur o vs).size = cur.size
  | [], _, _ => rfl
  | v :: r, o, cur => by simp [setMany, setMany_size r]
theorem setMany_get : ∀ (vs : List Value) (o : Nat) (cur : Array Value) (j : Nat), o + vs.length ≤ cur.size → (setMany cur o vs)[j]? = if o ≤ j ∧ j < o + vs.length then vs[j - o]? else cur[j]?
  | [], o, cur, j, h => by
    have : ¬ (o ≤ j ∧ j < o + ([] : List Value).length) := by rintro ⟨h1, h2⟩; simp only [List.length_nil] at h2; omega
    rw [if_neg this]
    rfl
  | v :: r, o, cur, j, h => by
    have h' : o + 1 + r.length ≤ (cur.setIfInBounds o v).size := by simp at h ⊢; omega
    simp only [setMany]
    rw [setMany_get r (o + 1) _ j h']
    simp only [List.length_cons] at h ⊢
    by_cases h1 : o + 1 ≤ j ∧ j < o + 1 + r.length
    · rw [if_pos h1, if_pos (by omega)]
      obtain ⟨k, hk⟩ : ∃ k, j - o = k + 1 := ⟨j - o - 1, by omega⟩
      rw [hk, show j - (o + 1) = k by omega]
      rfl
    · rw [if_neg h1]
      by_cases h2 : j = o
      · subst h2
        rw [if_pos (by omega), Nat.sub_self]
        simp [show j < cur.size by omega]
      · rw [if_neg (by omega)]
        simp only [Array.getElem?_setIfInBounds]
        rw [if_neg (fun e => h2 e.symm)]
theorem setCells_block {g : Nat} {t : TypeId} : ∀ (vs : List Value) (o : Nat) (w : World) (cur : Array Value), w.heap[g]? = some (.cells cur t (0, 0)) →
    (w.setCells g o vs).heap[g]? = some (.cells (setMany cur o vs) t (0, 0)) ∧ w.grownBy (w.setCells g o vs) (some g)
  | [], o, w, cur, h => ⟨h, rfl, rfl, rfl, Nat.le_refl _, fun _ _ _ => rfl⟩
  | v :: r, o, w, cur, h => by
    obtain ⟨h1, h2⟩ := cell_set (i := o) (v := v) h
    obtain ⟨h3, h4⟩ := setCells_block r (o + 1) _ _ h1
    exact ⟨h3, h2.trans h4⟩

/-- The pins of a slice that is not nil. -/
structure PinsIn (w : World) (g cap : Nat) (ps : List (Int × Int)) (cur : Array Value) : Prop where
  blk : w.heap[g]? = some (.cells cur 183 (0, 0))
  le : ps.length ≤ cap
  mx : cap ≤ maxLen
  size : cur.size = cap * 2
  is : cur.toList.take (ps.length * 2) = pcells ps

theorem PinsIn.own {w : World} {B g cap : Nat} {ps : List (Int × Int)} {cur : Array Value} (h : PinsIn w g cap ps cur) (hB : B ≤ g) : w.ownsRow B 183 2 (.slice (some ⟨g, 0, none⟩) ps.length cap) ps.length (pcells ps) :=
  ⟨pcells_length ps, .inr ⟨g, cap, cur, rfl, hB, h.blk, h.le, h.mx, h.size, h.is⟩⟩
theorem pinsIn_of {w : World} {B : Nat} {v : Value} {ps : List (Int × Int)} (h : w.ownsRow B 183 2 v ps.length (pcells ps)) : (v = .slice none 0 0 ∧ ps = []) ∨ ∃ g cap cur, v = .slice (some ⟨g, 0, none⟩) ps.length cap ∧ B ≤ g ∧ PinsIn w g cap ps cur := by
  rcases h.2 with ⟨rfl, h0⟩ | ⟨g, cap, cur, hv, hb, hg, hnc, hcm, hcs, htake⟩
  · exact .inl ⟨rfl, List.eq_nil_of_length_eq_zero h0⟩
  · exact .inr ⟨g, cap, cur, hv, hb, hg, hnc, hcm, hcs, htake⟩

theorem PinsIn.get {w : World} {g cap : Nat} {ps : List (Int × Int)} {cur : Array Value} (h : PinsIn w g cap ps cur) {j : Nat} (hj : j < ps.length * 2) : cur[j]? = (pcells ps)[j]? := by
  rw [← h.is, List.getElem?_take, if_pos hj, Array.getElem?_toList]

theorem pcells_erase (ps : List (Int × Int)) (i : Nat) : pcells (ps.eraseIdx i) = (pcells ps).take (i * 2) ++ (pcells ps).drop ((i + 1) * 2) := by
  induction ps generalizing i with
  | nil => simp [pcells]
  | cons x ps ih =>
    cases i with
    | zero => simp [pcells]
    | succ i =>
      have e : pcells (x :: ps) = .int .i64 x.1 :: .int .i64 x.2 :: pcells ps := rfl
      have e2 : pcells ((x :: ps).eraseIdx (i + 1)) = .int .i64 x.1 :: .int .i64 x.2 :: pcells (ps.eraseIdx i) := rfl
      rw [e, e2, ih, show (i + 1) * 2 = i * 2 + 1 + 1 by omega, show (i + 1 + 1) * 2 = (i + 1) * 2 + 1 + 1 by omega]
      simp only [List.take_succ_cons, List.drop_succ_cons, List.cons_append]
      rw [show i * 2 + 1 + 1 = (i + 1) * 2 by omega]

theorem zero_pin (w : World) : (zeroValue 183).run Tryz.prog w = .ok (.agg #[.int .i64 0, .int .i64 0]) w := by kernel_rfl

/-- Behind Delete: the block as it is then. -/
theorem PinsIn.erase {w w' : World} {g cap : Nat} {ps : List (Int × Int)} {cur : Array Value} (h : PinsIn w g cap ps cur) {i : Nat} (hi : i < ps.length)
    (hb : w'.heap[g]? = some (.cells (setMany (setMany cur (i * 2) ((pcells ps).drop ((i + 1) * 2))) ((ps.length - 1) * 2) [.int .i64 0, .int .i64 0]) 183 (0, 0))) : PinsIn w' g cap (ps.eraseIdx i) (setMany (setMany cur (i * 2) ((pcells ps).drop ((i + 1) * 2))) ((ps.length - 1) * 2) [.int .i64 0, .int .i64 0]) := by
  have hl : (ps.eraseIdx i).length = ps.length - 1 := by rw [List.length_eraseIdx_of_lt hi]
  have hpc := pcells_length ps
  have hle := h.le
  refine ⟨hb, by rw [hl]; omega, h.mx, by rw [setMany_size, setMany_size]; exact h.size, ?_⟩
  rw [hl]
  have hsz : (setMany cur (i * 2) ((pcells ps).drop ((i + 1) * 2))).size = cap * 2 := by rw [setMany_size]; exact h.size
  have hdl : ((pcells ps).drop ((i + 1) * 2)).length = ps.length * 2 - (i + 1) * 2 := by rw [List.length_drop, hpc]
  apply List.ext_getElem?
  intro j
  rw [List.getElem?_take, pcells_erase, List.getElem?_append, List.length_take, hpc]
  by_cases hj : j < (ps.length - 1) * 2
  · rw [if_pos hj, Array.getElem?_toList, setMany_get _ _ _ _ (by rw [hsz]; simp; omega), if_neg (by omega), setMany_get _ _ _ _ (by rw [h.size, hdl]; omega), hdl]
    by_cases h1 : j < i * 2
    · rw [if_neg (by omega), if_pos (by omega), List.getElem?_take, if_pos h1]
      exact h.get (by omega)
    · rw [if_pos (by omega), if_neg (by omega)]
      congr 1
      omega
  · rw [if_neg hj, if_neg (by omega), List.getElem?_drop, List.getElem?_eq_none (by rw [hpc]; omega)]

set_option maxHeartbeats 3200000 in
theorem del_any {w : World} {g cap : Nat} {ps : List (Int × Int)} {cur : Array Value} (h : PinsIn w g cap ps cur) {i : Nat} (hi : i < ps.length) :
    Calls Tryz.prog 113 #[.slice (some ⟨g, 0, none⟩) ps.length cap, .int .i64 (i : Int), .int .i64 ((i : Int) + 1)] w fun e w' => e = .returned (.slice (some ⟨g, 0, none⟩) (ps.length - 1) cap) ∧ ∃ cur', w.grownBy w' (some g) ∧ PinsIn w' g cap (ps.eraseIdx i) cur' := by
  have hpc := pcells_length ps
  have hle := h.le
  have hmx := h.mx
  have hmx' : cap ≤ 9223372036854775807 := by unfold maxLen at hmx; omega
  obtain ⟨news, hnews⟩ : ∃ news, news = (pcells ps).drop ((i + 1) * 2) := ⟨_, rfl⟩
  have hnl : news.length = (ps.length - (i + 1)) * 2 := by rw [hnews, List.length_drop, hpc]; omega
  have hbd : w.drew.heap[g]? = some (.cells cur 183 (0, 0)) := h.blk
  obtain ⟨A, hA, hsrc⟩ : ∃ A : Addr, (if cap = i + 1 then some (⟨g, 0, none⟩ : Addr) else some ⟨g, (i + 1) * 2, none⟩) = some A ∧ Hid (∀ t u, news[t]? = some u → w.drew.cell? (A.add t) = some u) := by
    by_cases hc : cap = i + 1
    · refine ⟨⟨g, 0, none⟩, by simp [hc], Lib.hid fun t u hu => ?_⟩
      have h0 : news.length = 0 := by rw [hnl]; omega
      rw [List.length_eq_zero_iff.1 h0] at hu
      simp at hu
    · refine ⟨⟨g, (i + 1) * 2, none⟩, by simp [hc], Lib.hid fun t u hu => ?_⟩
      rw [hnews, List.getElem?_drop] at hu
      rw [Addr.add_lit, Joins.cell_of_block hbd]
      have hlt := (List.getElem?_eq_some_iff.1 hu).1
      rw [h.get (by rw [hpc] at hlt; exact hlt)]
      exact hu
  have s2 : Hid (∀ u ∈ news, u.oneCell' = true) := Lib.hid fun u hu => by
    rw [hnews] at hu
    have hu' := List.mem_of_mem_drop hu
    simp only [pcells, List.mem_flatMap, List.mem_cons, List.not_mem_nil, or_false] at hu'
    obtain ⟨x, _, rfl | rfl⟩ := hu' <;> rfl
  have s3 : Hid (∀ t, t < news.length → (w.drew.cell? ⟨g, 0 + i * 2 + t, none⟩).isSome = true ∧ w.drew.frozen? ⟨g, 0 + i * 2 + t, none⟩ = false) := Lib.hid fun t ht => by
    refine ⟨?_, Joins.unfrozen_of_block hbd _⟩
    rw [Joins.cell_of_block hbd, Array.getElem?_eq_getElem (by rw [h.size]; omega)]
    rfl
  obtain ⟨b1, g1⟩ := setCells_block (t := 183) news (0 + i * 2) w.drew cur hbd
  obtain ⟨W1, hW1⟩ : ∃ W1, W1 = w.drew.setCells g (0 + i * 2) news := ⟨_, rfl⟩
  rw [← hW1] at b1 g1
  have hm1 : (setMany cur (0 + i * 2) news).size = cap * 2 := by rw [setMany_size]; exact h.size
  obtain ⟨b2, g2⟩ := setCells_block (t := 183) [.int .i64 0, .int .i64 0] ((ps.length - 1) * 2) W1 _ b1
  obtain ⟨W2, hW2⟩ : ∃ W2, W2 = W1.setCells g ((ps.length - 1) * 2) [.int .i64 0, .int .i64 0] := ⟨_, rfl⟩
  rw [← hW2] at b2 g2
  have hcl : ∀ ty, (Builtin.clear_ #[136] ty #[.slice (some ⟨g, (ps.length - 1) * 2, none⟩) 1 (cap - (ps.length - 1))]).run Tryz.prog W1 = .ok (.tuple #[]) W2 := fun ty => by
    have hst := run_storeCells_cells (P := Tryz.prog) g ((ps.length - 1) * 2) [.int .i64 0, .int .i64 0] 0 W1 (fun j hj => by
      rw [Joins.cell_of_block b1, Array.getElem?_eq_getElem (by rw [hm1]; simp at hj; omega)]; rfl) (fun j hj => Joins.unfrozen_of_block b1 _) (by intro v hv'; simp only [List.mem_cons, List.not_mem_nil, or_false] at hv'; rcases hv' with rfl | rfl <;> rfl)
    simp only [Nat.add_zero] at hst
    have hzc : (Builtin.zeroCells (Value.agg #[.int .i64 0, .int .i64 0]).cells 1).toList = [.int .i64 0, .int .i64 0] := by kernel_rfl
    simp [Builtin.clear_, run_underlying Tryz.underlying136, hzc, hst, ← hW2]
  have HF : Hid (∃ cur', w.grownBy W2 (some g) ∧ PinsIn W2 g cap (ps.eraseIdx i) cur') := Lib.hid (by
    rw [Nat.zero_add, hnews] at b2
    exact ⟨_, (⟨g1.os, g1.tape, g1.output, g1.size, g1.block⟩ : w.grownBy W1 (some g)).trans g2, h.erase hi b2⟩)
  have HW1 := Lib.hid hW1
  have hne : ((i : Int) == (i : Int) + 1) = false := by rw [beq_eq_false_iff_ne]; omega
  have HNL := Lib.hid hnl
  obtain ⟨i0, hi0, hz0, hz1, hz2⟩ := info_parts (show (Tryz.prog.info? 183).map (fun i => (i.zero, i.size, i.bytes)) = some (some (.agg #[.int .i64 0, .int .i64 0]), 2, 16) from by kernel_rfl)
  obtain ⟨m, hm⟩ : ∃ m, m = ps.length := ⟨_, rfl⟩
  rw [← hm] at hi hle hcl HNL hnl ⊢
  have hle63 : m ≤ 9223372036854775807 := by omega
  have hi1 : i + 1 ≤ m := by omega
  have hic : i ≤ cap := by omega
  have hjc : i + 1 ≤ cap := by omega
  have e3 : i + (m - (i + 1)) = m - 1 := by omega
  have e4 : m - (m - 1) = 1 := by omega
  have b0 : (0 : Int) ≤ (i : Int) + 1 := by omega
  have b1' : (i : Int) + 1 ≤ (m : Int) := by omega
  have b2' : (i : Int) + 1 ≤ (cap : Int) := by omega
  have b3' : m - 1 ≤ m := by omega
  have b4' : ¬ cap = m - 1 := by omega
  have b5' : ((m - 1 : Nat) : Int) ≤ (m : Int) := by omega
  clear h hnews hbd b1 b2 g1 g2 hW1 hW2 hm1 hm hpc
  go_enter Tryz.func113, Tryz.ntmps113
  go_wp2_with fail
  go_region_law (refine step_append_room rfl (.tmp 22) (.tmp 25) 136 rfl 183 i0 2 Tryz.underlying136 hi0 hz1 g 0 i cap (by simp [Act.eval, Act.put]) A (m - (i + 1)) (cap - (i + 1)) news (by simp [Act.eval, Act.put]) HNL.out hsrc.out s2.out (by omega) s3.out ?_; rw [← HW1.out])
  all_goals
    go_wp2
    go_ret
    exact ⟨rfl, HF.out⟩

end Go.Proofs.YtngnmakeaniapaaGreatDoor

set_option linter.unusedVariables false
set_option maxRecDepth 100000
namespace Go.Proofs.YtngnmakeaniapaaGreatDoor
open Go.RowKit

/-- Where a generation stands among the pins. -/
def pidx (ps : List (Int × Int)) (gen : Int) : Option Nat := ps.findIdx? fun x => x.1 == gen
def pidxI (ps : List (Int × Int)) (gen : Int) : Int := match pidx ps gen with | some i => i | none => -1

set_option maxHeartbeats 400000 in
theorem pinCl {w : World} {bx : Nat} {gen : Int} (a b : Int) (hc : w.cell? ⟨bx, 0, none⟩ = some (.int .i64 gen)) :
    Calls Tryz.prog 143 #[.agg #[.int .i64 a, .int .i64 b], .pointer (some ⟨bx, 0, none⟩)] w fun e w' => e = .returned (.bool (a == gen)) ∧ Below w.heap.size w w' := by
  have hc' : (w.alloc (.cells #[.int .i64 a, .int .i64 b] 183)).cell? ⟨bx, 0, none⟩ = some (.int .i64 gen) := by rw [(sbox1 w _).cell (p := ⟨bx, 0, none⟩) (World.block_lt_of_cell? _ _ hc)]; exact hc
  go_enter Tryz.func143, Tryz.ntmps143
  go_wp2
  go_ret
  exact ⟨rfl, sbox1 _ _⟩

/-- The pins' cells, that stay. -/
structure PinsAt (w : World) (v : Value) (ps : List (Int × Int)) (q : Option Addr) (n c : Nat) : Prop where
  hv : v = .slice q n c
  hn : n = ps.length
  hc : c ≤ 9223372036854775807
  hnc : n ≤ c
  cell : ∀ i x, ps[i]? = some x → ∃ g, q = some ⟨g, 0, none⟩ ∧ w.cell? ⟨g, i * 2, none⟩ = some (.int .i64 x.1) ∧ w.cell? ⟨g, i * 2 + 1, none⟩ = some (.int .i64 x.2)
theorem pinsAt {w : World} {B : Nat} {v : Value} {ps : List (Int × Int)} (h : w.ownsRow B 183 2 v ps.length (pcells ps)) : ∃ q n c, PinsAt w v ps q n c := by
  rcases pins_at h with ⟨rfl, rfl⟩ | ⟨g, cap, hv, hgB, hgl, hnc, hcap, hcell, _⟩
  · exact ⟨none, 0, 0, rfl, rfl, by omega, by omega, fun i x hx => by simp at hx⟩
  · exact ⟨_, _, _, hv, rfl, hcap, hnc, fun i x hx => ⟨g, rfl, hcell i x hx⟩⟩
theorem PinsAt.below {w w' : World} {v : Value} {ps : List (Int × Int)} {q : Option Addr} {n c : Nat} (h : PinsAt w v ps q n c) (hb : Below w.heap.size w w') : PinsAt w' v ps q n c :=
  ⟨h.hv, h.hn, h.hc, h.hnc, fun i x hx => by
    obtain ⟨g, h1, h2, h3⟩ := h.cell i x hx
    exact ⟨g, h1, by rw [hb.cell (p := ⟨g, i * 2, none⟩) (World.block_lt_of_cell? _ _ h2)]; exact h2, by rw [hb.cell (p := ⟨g, i * 2 + 1, none⟩) (World.block_lt_of_cell? _ _ h3)]; exact h3⟩⟩

theorem pidx_some {ps : List (Int × Int)} {gen : Int} {j : Nat} {x : Int × Int} (hx : ps[j]? = some x) (h1 : x.1 = gen) (h0 : ∀ k y, k < j → ps[k]? = some y → y.1 ≠ gen) : pidxI ps gen = j := by
  have : pidx ps gen = some j := by
    unfold pidx
    rw [List.findIdx?_eq_some_iff_getElem]
    obtain ⟨hj, hx'⟩ := List.getElem?_eq_some_iff.1 hx
    refine ⟨hj, by rw [hx']; simpa using h1, fun k hk => ?_⟩
    have hk' : k < ps.length := by omega
    have := h0 k ps[k] hk (List.getElem?_eq_getElem hk')
    simpa using this
  unfold pidxI
  rw [this]
theorem pidx_none {ps : List (Int × Int)} {gen : Int} (h0 : ∀ k y, k < ps.length → ps[k]? = some y → y.1 ≠ gen) : pidxI ps gen = -1 := by
  have : pidx ps gen = none := by
    unfold pidx
    rw [List.findIdx?_eq_none_iff]
    intro y hy
    obtain ⟨k, hk, rfl⟩ := List.getElem_of_mem hy
    simpa using h0 k _ hk (List.getElem?_eq_getElem hk)
  unfold pidxI
  rw [this]

set_option maxHeartbeats 1600000 in
theorem idxPins {w : World} {v : Value} {ps : List (Int × Int)} {q : Option Addr} {n c : Nat} (h : PinsAt w v ps q n c) {bx : Nat} {gen : Int} (hc : w.cell? ⟨bx, 0, none⟩ = some (.int .i64 gen)) :
    Calls Tryz.prog 142 #[v, .func (.func 143) #[] #[.pointer (some ⟨bx, 0, none⟩)]] w fun e w' => e = .returned (.int .i64 (pidxI ps gen)) ∧ Below w.heap.size w w' := by
  obtain rfl := h.hv
  have H := Lib.hid h
  have HC : Hid (∀ w', Below w.heap.size w w' → w'.cell? ⟨bx, 0, none⟩ = some (.int .i64 gen)) := Lib.hid fun w' hb => by rw [hb.cell (p := ⟨bx, 0, none⟩) (World.block_lt_of_cell? _ _ hc)]; exact hc
  have hn63 : n ≤ 9223372036854775807 := by have := h.hc; have := h.hnc; omega
  have HN := Lib.hid h.hn
  have eg : ∀ args (w : World), (callFunc 143 args).run Tryz.prog w = .ok (.enter 143 args) w := fun _ _ => rfl
  clear h hc
  go_enter Tryz.func142, Tryz.ntmps142
  go_wp2
  go_loopw [8] (fun i wr => ∃ j : Nat, i = .int .i64 j ∧ j ≤ n ∧ Below w.heap.size w wr ∧ ∀ k y, k < j → ps[k]? = some y → y.1 ≠ gen) (fun i _ => n - (intOf i).toNat)
  case atStart => exact ⟨0, rfl, by omega, Below.refl _ _, fun k y hk => by omega⟩
  case round =>
    obtain ⟨j, rfl, hj, hb, hall⟩ := hrel
    have HB := Lib.hid hb
    have HA := Lib.hid hall
    clear hall
    by_cases hlt : j < n
    · obtain ⟨x, hx⟩ : ∃ x, ps[j]? = some x := ⟨_, List.getElem?_eq_getElem (by have := HN.out; omega)⟩
      obtain ⟨g, rfl, x1, x2⟩ := (H.out.below hb).cell j x hx
      have HX := Lib.hid hx
      have hcl := pinCl (w := wr) (bx := bx) (gen := gen) x.1 x.2 (HC.out _ hb)
      have hj0 : (0 : Int) ≤ (j : Int) := by omega
      have hj1 : (j : Int) < (n : Int) := by omega
      obtain ⟨y1, hy1⟩ : ∃ y, y = x.1 := ⟨_, rfl⟩
      obtain ⟨y2, hy2⟩ : ∃ y, y = x.2 := ⟨_, rfl⟩
      rw [← hy1] at x1 hcl
      rw [← hy2] at x2 hcl
      have HY := Lib.hid hy1
      clear hx hb hy1 hy2
      by_cases he : y1 = gen
      · have e1 : (y1 == gen) = true := by simpa using he
        rw [e1] at hcl
        have HCL := Lib.hid hcl
        have HE : Hid (pidxI ps gen = j) := Lib.hid (pidx_some HX.out (by rw [← HY.out]; exact he) HA.out)
        clear hcl e1 he
        go_wp2_with fail
        refine HCL.out.mono ?_; rintro e w2 ⟨rfl, hb2⟩
        have HB2 := Lib.hid (HB.out.trans (hb2.mono HB.out.size))
        clear hb2
        go_wp2
        go_ret
        exact ⟨by rw [HE.out]; rfl, HB2.out⟩
      · have e1 : (y1 == gen) = false := by simpa using he
        rw [e1] at hcl
        have HCL := Lib.hid hcl
        have HE : Hid (∀ k y, k < j + 1 → ps[k]? = some y → y.1 ≠ gen) := Lib.hid fun k y hk hy => by
          by_cases hkj : k = j
          · subst hkj
            rw [HX.out] at hy
            cases hy
            rw [← HY.out]
            exact he
          · exact HA.out k y (by omega) hy
        clear hcl e1 he
        go_wp2_with fail
        refine HCL.out.mono ?_; rintro e w2 ⟨rfl, hb2⟩
        have HB2 := Lib.hid (HB.out.trans (hb2.mono HB.out.size))
        clear hb2
        go_wp2
        go_roundw
        case rel => exact ⟨j + 1, by go_num, by omega, HB2.out, HE.out⟩
        case measure => simp [intOf]; omega
    · have HE : Hid (pidxI ps gen = -1) := Lib.hid (pidx_none fun k y hk => HA.out k y (by have := HN.out; omega))
      obtain rfl : j = n := by omega
      go_wp2
      go_ret
      exact ⟨by rw [HE.out]; rfl, HB.out⟩

section
variable {w w' : World} {B P pd lm fm pl um wm la : Nat} {v : Value} {X : PG}

set_option maxHeartbeats 800000 in
theorem grPinned (h : GrIs w B P pd lm fm pl um wm la v X) (gen : Int) :
    Calls Tryz.prog 105 #[.pointer (some ⟨P, 0, none⟩), .int .i64 gen] w fun e w' => e = .returned (.int .i64 (pidxI X.pins gen)) ∧ Below w.heap.size w w' := by
  have hb := sbox1 w (.cells #[.int .i64 gen] 3)
  have h1 := h.below hb
  have c7 := h1.c7
  obtain ⟨q, n, c, hp⟩ := pinsAt h1.pins
  have HI := Lib.hid (idxPins hp (bx := w.heap.size) (gen := gen) ((Joins.cell_of_block (heap_alloc_new w _) 0).trans rfl))
  have HB := Lib.hid hb
  clear h h1 hb hp
  go_enter Tryz.func105, Tryz.ntmps105
  go_wp2_with fail
  refine HI.out.mono ?_; rintro e w2 ⟨rfl, hb2⟩
  have HB2 := Lib.hid (HB.out.trans (hb2.mono HB.out.size))
  clear hb2
  go_wp2
  go_ret
  exact ⟨rfl, HB2.out⟩
end

end Go.Proofs.YtngnmakeaniapaaGreatDoor

