/-
  What stays of a pager while a.
  slices.Delete of one pin; slic.
  pager.
  pager.
  What PagerPins says of a pager.
-/
import Derived.Test.YtbbgdbnjmonbgaaGreatDoorH00
import Derived.Test.YtbbgdbnjmonbgaaGreatDoorH24
import Derived.Test.YtbbgdbnjmonbgaaGreatDoorH04
import Derived.Test.YtbbgdbnjmonbgaaGreatDoorH11
import Derived.Test.YtbbgdbnjmonbgaaGreatDoorH12
import Derived.LoopTactic
import Derived.Deep.RegionLaw
import Derived.Lib.SliceRun
import Derived.Laws.IdiomCopy
set_option linter.unusedVariables false
set_option maxRecDepth 100000
namespace Go.Proofs.YtbbgdbnjmonbgaaGreatDoor
open Go.RowKit
end Go.Proofs.YtbbgdbnjmonbgaaGreatDoor

set_option linter.unusedVariables false
set_option maxRecDepth 100000
namespace Go.Proofs.YtbbgdbnjmonbgaaGreatDoor
open Go.RowKit
def setMany (cur : Array Value) : Nat → List Value → Array Value
 | _, [] => cur
 | o, v :: r => setMany (cur.setIfInBounds o v) (o + 1) r
theorem setMany_size : ∀ (vs : List Value) (o : Nat) (cur : Array Value), (setMany cur o vs).size = cur.size
 | [], _, _ => rfl
 | v :: r, o, cur => by simp [setMany, setMany_size r]
theorem setMany_get : ∀ (vs : List Value) (o : Nat) (cur : Array Value) (j : Nat), o + vs.length ≤ cur.size → (setMany cur o vs)[j]? = if o ≤ j ∧ j < o + vs.length then vs[j - o]? else cur[j]?
 | [], o, cur, j, h => by
  have : ¬ (o ≤ j ∧ j < o + ([] : List Value).length) := by rintro ⟨h1, h2⟩; simp only [List.length_nil] at h2; omega
  rw [if_neg this]
  rfl
 | v :: r, o, cur, j, h => by
  have h' : o + 1 + r.length ≤ (cur.setIfInBounds o v).size := by simp at h ⊢; omega
  simp only [setMany]
  rw [setMany_get r (o + 1) _ j h']
  simp only [List.length_cons] at h ⊢
  by_cases h1 : o + 1 ≤ j ∧ j < o + 1 + r.length
  ·
   rw [if_pos h1, if_pos (by omega)]
   obtain ⟨k, hk⟩ : ∃ k, j - o = k + 1 := ⟨j - o - 1, by omega⟩
   rw [hk, show j - (o + 1) = k by omega]
   rfl
  ·
   rw [if_neg h1]
   by_cases h2 : j = o
   ·
    subst h2
    rw [if_pos (by omega), Nat.sub_self]
    simp [show j < cur.size by omega]
   ·
    rw [if_neg (by omega)]
    simp only [Array.getElem?_setIfInBounds]
    rw [if_neg (fun e => h2 e.symm)]
theorem setCells_block {g : Nat} {t : TypeId} : ∀ (vs : List Value) (o : Nat) (w : World) (cur : Array Value), w.heap[g]? = some (.cells cur t (0, 0)) →
  (w.setCells g o vs).heap[g]? = some (.cells (setMany cur o vs) t (0, 0)) ∧ w.grownBy (w.setCells g o vs) (some g)
 | [], o, w, cur, h => ⟨h, rfl, rfl, rfl, Nat.le_refl _, fun _ _ _ => rfl⟩
 | v :: r, o, w, cur, h => by
  obtain ⟨h1, h2⟩ := cell_set (i := o) (v := v) h
  obtain ⟨h3, h4⟩ := setCells_block r (o + 1) _ _ h1
  exact ⟨h3, h2.trans h4⟩
structure PinsIn (w : World) (g cap : Nat) (ps : List (Int × Int)) (cur : Array Value) : Prop where
 blk : w.heap[g]? = some (.cells cur 123 (0, 0))
 le : ps.length ≤ cap
 mx : cap ≤ maxLen
 size : cur.size = cap * 2
 is : cur.toList.take (ps.length * 2) = pcells ps
theorem PinsIn.own {w : World} {B g cap : Nat} {ps : List (Int × Int)} {cur : Array Value} (h : PinsIn w g cap ps cur) (hB : B ≤ g) : w.ownsRow B 123 2 (.slice (some ⟨g, 0, none⟩) ps.length cap) ps.length (pcells ps) :=
 ⟨pcells_length ps, .inr ⟨g, cap, cur, rfl, hB, h.blk, h.le, h.mx, h.size, h.is⟩⟩
theorem pinsIn_of {w : World} {B : Nat} {v : Value} {ps : List (Int × Int)} (h : w.ownsRow B 123 2 v ps.length (pcells ps)) : (v = .slice none 0 0 ∧ ps = []) ∨ ∃ g cap cur, v = .slice (some ⟨g, 0, none⟩) ps.length cap ∧ B ≤ g ∧ PinsIn w g cap ps cur := by
 rcases h.2 with ⟨rfl, h0⟩ | ⟨g, cap, cur, hv, hb, hg, hnc, hcm, hcs, htake⟩
 ·
  exact .inl ⟨rfl, List.eq_nil_of_length_eq_zero h0⟩
 ·
  exact .inr ⟨g, cap, cur, hv, hb, hg, hnc, hcm, hcs, htake⟩
theorem PinsIn.get {w : World} {g cap : Nat} {ps : List (Int × Int)} {cur : Array Value} (h : PinsIn w g cap ps cur) {j : Nat} (hj : j < ps.length * 2) : cur[j]? = (pcells ps)[j]? := by
 rw [← h.is, List.getElem?_take, if_pos hj, Array.getElem?_toList]
theorem pcells_erase (ps : List (Int × Int)) (i : Nat) : pcells (ps.eraseIdx i) = (pcells ps).take (i * 2) ++ (pcells ps).drop ((i + 1) * 2) := by
 induction ps generalizing i with
 | nil => simp [pcells]
 | cons x ps ih =>
  cases i with
  | zero => simp [pcells]
  | succ i =>
   have e : pcells (x :: ps) = .int .i64 x.1 :: .int .i64 x.2 :: pcells ps := rfl
   have e2 : pcells ((x :: ps).eraseIdx (i + 1)) = .int .i64 x.1 :: .int .i64 x.2 :: pcells (ps.eraseIdx i) := rfl
   rw [e, e2, ih, show (i + 1) * 2 = i * 2 + 1 + 1 by omega, show (i + 1 + 1) * 2 = (i + 1) * 2 + 1 + 1 by omega]
   simp only [List.take_succ_cons, List.drop_succ_cons, List.cons_append]
   rw [show i * 2 + 1 + 1 = (i + 1) * 2 by omega]
theorem PinsIn.erase {w w' : World} {g cap : Nat} {ps : List (Int × Int)} {cur : Array Value} (h : PinsIn w g cap ps cur) {i : Nat} (hi : i < ps.length)
  (hb : w'.heap[g]? = some (.cells (setMany (setMany cur (i * 2) ((pcells ps).drop ((i + 1) * 2))) ((ps.length - 1) * 2) [.int .i64 0, .int .i64 0]) 123 (0, 0))) : PinsIn w' g cap (ps.eraseIdx i) (setMany (setMany cur (i * 2) ((pcells ps).drop ((i + 1) * 2))) ((ps.length - 1) * 2) [.int .i64 0, .int .i64 0]) := by
 have hl : (ps.eraseIdx i).length = ps.length - 1 := by rw [List.length_eraseIdx_of_lt hi]
 have hpc := pcells_length ps
 have hle := h.le
 refine ⟨hb, by rw [hl]; omega, h.mx, by rw [setMany_size, setMany_size]; exact h.size, ?_⟩
 rw [hl]
 have hsz : (setMany cur (i * 2) ((pcells ps).drop ((i + 1) * 2))).size = cap * 2 := by rw [setMany_size]; exact h.size
 have hdl : ((pcells ps).drop ((i + 1) * 2)).length = ps.length * 2 - (i + 1) * 2 := by rw [List.length_drop, hpc]
 apply List.ext_getElem?
 intro j
 rw [List.getElem?_take, pcells_erase, List.getElem?_append, List.length_take, hpc]
 by_cases hj : j < (ps.length - 1) * 2
 ·
  rw [if_pos hj, Array.getElem?_toList, setMany_get _ _ _ _ (by rw [hsz]; simp; omega), if_neg (by omega), setMany_get _ _ _ _ (by rw [h.size, hdl]; omega), hdl]
  by_cases h1 : j < i * 2
  ·
   rw [if_neg (by omega), if_pos (by omega), List.getElem?_take, if_pos h1]
   exact h.get (by omega)
  ·
   rw [if_pos (by omega), if_neg (by omega)]
   congr 1
   omega
 ·
  rw [if_neg hj, if_neg (by omega), List.getElem?_drop, List.getElem?_eq_none (by rw [hpc]; omega)]
set_option maxHeartbeats 3200000 in
theorem del_any {w : World} {g cap : Nat} {ps : List (Int × Int)} {cur : Array Value} (h : PinsIn w g cap ps cur) {i : Nat} (hi : i < ps.length) :
  Calls Tryz.prog 67 #[.slice (some ⟨g, 0, none⟩) ps.length cap, .int .i64 (i : Int), .int .i64 ((i : Int) + 1)] w fun e w' => e = .returned (.slice (some ⟨g, 0, none⟩) (ps.length - 1) cap) ∧ ∃ cur', w.grownBy w' (some g) ∧ PinsIn w' g cap (ps.eraseIdx i) cur' := by
 have hpc := pcells_length ps
 have hle := h.le
 have hmx := h.mx
 have hmx' : cap ≤ 9223372036854775807 := by unfold maxLen at hmx; omega
 obtain ⟨news, hnews⟩ : ∃ news, news = (pcells ps).drop ((i + 1) * 2) := ⟨_, rfl⟩
 have hnl : news.length = (ps.length - (i + 1)) * 2 := by rw [hnews, List.length_drop, hpc]; omega
 have hbd : w.drew.heap[g]? = some (.cells cur 123 (0, 0)) := h.blk
 obtain ⟨A, hA, hsrc⟩ : ∃ A : Addr, (if cap = i + 1 then some (⟨g, 0, none⟩ : Addr) else some ⟨g, (i + 1) * 2, none⟩) = some A ∧ Hid (∀ t u, news[t]? = some u → w.drew.cell? (A.add t) = some u) := by
  by_cases hc : cap = i + 1
  ·
   refine ⟨⟨g, 0, none⟩, by simp [hc], Hq fun t u hu => ?_⟩
   have h0 : news.length = 0 := by rw [hnl]; omega
   rw [List.length_eq_zero_iff.1 h0] at hu
   simp at hu
  ·
   refine ⟨⟨g, (i + 1) * 2, none⟩, by simp [hc], Hq fun t u hu => ?_⟩
   rw [hnews, List.getElem?_drop] at hu
   rw [Addr.add_lit, jC hbd]
   have hlt := (List.getElem?_eq_some_iff.1 hu).1
   rw [h.get (by rw [hpc] at hlt; exact hlt)]
   exact hu
 have s2 : Hid (∀ u ∈ news, u.oneCell' = true) := Hq fun u hu => by
  rw [hnews] at hu
  have hu' := List.mem_of_mem_drop hu
  simp only [pcells, List.mem_flatMap, List.mem_cons, List.not_mem_nil, or_false] at hu'
  obtain ⟨x, _, rfl | rfl⟩ := hu' <;> rfl
 have s3 : Hid (∀ t, t < news.length → (w.drew.cell? ⟨g, 0 + i * 2 + t, none⟩).isSome = true ∧ w.drew.frozen? ⟨g, 0 + i * 2 + t, none⟩ = false) := Hq fun t ht => by
  refine ⟨?_, jU hbd _⟩
  rw [jC hbd, Array.getElem?_eq_getElem (by rw [h.size]; omega)]
  rfl
 obtain ⟨b1, g1⟩ := setCells_block (t := 123) news (0 + i * 2) w.drew cur hbd
 obtain ⟨W1, hW1⟩ : ∃ W1, W1 = w.drew.setCells g (0 + i * 2) news := ⟨_, rfl⟩
 rw [← hW1] at b1 g1
 have hm1 : (setMany cur (0 + i * 2) news).size = cap * 2 := by rw [setMany_size]; exact h.size
 obtain ⟨b2, g2⟩ := setCells_block (t := 123) [.int .i64 0, .int .i64 0] ((ps.length - 1) * 2) W1 _ b1
 obtain ⟨W2, hW2⟩ : ∃ W2, W2 = W1.setCells g ((ps.length - 1) * 2) [.int .i64 0, .int .i64 0] := ⟨_, rfl⟩
 rw [← hW2] at b2 g2
 have hcl : ∀ ty, (Builtin.clear_ #[88] ty #[.slice (some ⟨g, (ps.length - 1) * 2, none⟩) 1 (cap - (ps.length - 1))]).run Tryz.prog W1 = .ok (.tuple #[]) W2 := fun ty => by
  have hst := run_storeCells_cells (P := Tryz.prog) g ((ps.length - 1) * 2) [.int .i64 0, .int .i64 0] 0 W1 (fun j hj => by
   rw [jC b1, Array.getElem?_eq_getElem (by rw [hm1]; simp at hj; omega)]; rfl) (fun j hj => jU b1 _) (by intro v hv'; simp only [List.mem_cons, List.not_mem_nil, or_false] at hv'; rcases hv' with rfl | rfl <;> rfl)
  simp only [Nat.add_zero] at hst
  have hzc : (Builtin.zeroCells (Value.agg #[.int .i64 0, .int .i64 0]).cells 1).toList = [.int .i64 0, .int .i64 0] := by kernel_rfl
  simp [Builtin.clear_, run_underlying Tryz.underlying88, hzc, hst, ← hW2]
 have HF : Hid (∃ cur', w.grownBy W2 (some g) ∧ PinsIn W2 g cap (ps.eraseIdx i) cur') := Hq (by
  rw [Nat.zero_add, hnews] at b2
  exact ⟨_, (⟨g1.os, g1.tape, g1.output, g1.size, g1.block⟩ : w.grownBy W1 (some g)).trans g2, h.erase hi b2⟩)
 have HW1 := Hq hW1
 have hne : ((i : Int) == (i : Int) + 1) = false := by rw [beq_eq_false_iff_ne]; omega
 have HNL := Hq hnl
 obtain ⟨i0, hi0, hz0, hz1, hz2⟩ := info_parts (show (Tryz.prog.info? 123).map (fun i => (i.zero, i.size, i.bytes)) = some (some (.agg #[.int .i64 0, .int .i64 0]), 2, 16) from by kernel_rfl)
 obtain ⟨m, hm⟩ : ∃ m, m = ps.length := ⟨_, rfl⟩
 rw [← hm] at hi hle hcl HNL hnl ⊢
 have hle63 : m ≤ 9223372036854775807 := by omega
 have hi1 : i + 1 ≤ m := by omega
 have hic : i ≤ cap := by omega
 have hjc : i + 1 ≤ cap := by omega
 have e3 : i + (m - (i + 1)) = m - 1 := by omega
 have e4 : m - (m - 1) = 1 := by omega
 have b0 : (0 : Int) ≤ (i : Int) + 1 := by omega
 have b1' : (i : Int) + 1 ≤ (m : Int) := by omega
 have b2' : (i : Int) + 1 ≤ (cap : Int) := by omega
 have b3' : m - 1 ≤ m := by omega
 have b4' : ¬ cap = m - 1 := by omega
 have b5' : ((m - 1 : Nat) : Int) ≤ (m : Int) := by omega
 clear h hnews hbd b1 b2 g1 g2 hW1 hW2 hm1 hm hpc
 go_enter Tryz.func67, Tryz.ntmps67
 go_wp2_with fail
 go_region_law (refine step_append_room rfl (.tmp 22) (.tmp 25) 88 rfl 123 i0 2 Tryz.underlying88 hi0 hz1 g 0 i cap (by simp [Act.eval, Act.put]) A (m - (i + 1)) (cap - (i + 1)) news (by simp [Act.eval, Act.put]) HNL.out hsrc.out s2.out (by omega) s3.out ?_; rw [← HW1.out])
 all_goals
  go_wp2
  go_ret
  exact ⟨rfl, HF.out⟩
end Go.Proofs.YtbbgdbnjmonbgaaGreatDoor

set_option linter.unusedVariables false
set_option maxRecDepth 100000
namespace Go.Proofs.YtbbgdbnjmonbgaaGreatDoor
open Go.RowKit
def pidx (ps : List (Int × Int)) (gen : Int) : Option Nat := ps.findIdx? fun x => x.1 == gen
def pidxI (ps : List (Int × Int)) (gen : Int) : Int := match pidx ps gen with | some i => i | none => -1
set_option maxHeartbeats 400000 in
theorem pinCl {w : World} {bx : Nat} {gen : Int} (a b : Int) (hc : w.cell? ⟨bx, 0, none⟩ = some (.int .i64 gen)) :
  Calls Tryz.prog 101 #[.agg #[.int .i64 a, .int .i64 b], .pointer (some ⟨bx, 0, none⟩)] w fun e w' => e = .returned (.bool (a == gen)) ∧ Below w.heap.size w w' := by
 have hc' : (w.alloc (.cells #[.int .i64 a, .int .i64 b] 123)).cell? ⟨bx, 0, none⟩ = some (.int .i64 gen) := by rw [(sbox1 w _).cell (p := ⟨bx, 0, none⟩) (World.block_lt_of_cell? _ _ hc)]; exact hc
 go_enter Tryz.func101, Tryz.ntmps101
 go_wp2
 go_ret
 exact ⟨rfl, sbox1 _ _⟩
structure PinsAt (w : World) (v : Value) (ps : List (Int × Int)) (q : Option Addr) (n c : Nat) : Prop where
 hv : v = .slice q n c
 hn : n = ps.length
 hc : c ≤ 9223372036854775807
 hnc : n ≤ c
 cell : ∀ i x, ps[i]? = some x → ∃ g, q = some ⟨g, 0, none⟩ ∧ w.cell? ⟨g, i * 2, none⟩ = some (.int .i64 x.1) ∧ w.cell? ⟨g, i * 2 + 1, none⟩ = some (.int .i64 x.2)
theorem pinsAt {w : World} {B : Nat} {v : Value} {ps : List (Int × Int)} (h : w.ownsRow B 123 2 v ps.length (pcells ps)) : ∃ q n c, PinsAt w v ps q n c := by
 rcases pins_at h with ⟨rfl, rfl⟩ | ⟨g, cap, hv, hgB, hgl, hnc, hcap, hcell, _⟩
 ·
  exact ⟨none, 0, 0, rfl, rfl, by omega, by omega, fun i x hx => by simp at hx⟩
 ·
  exact ⟨_, _, _, hv, rfl, hcap, hnc, fun i x hx => ⟨g, rfl, hcell i x hx⟩⟩
theorem PinsAt.below {w w' : World} {v : Value} {ps : List (Int × Int)} {q : Option Addr} {n c : Nat} (h : PinsAt w v ps q n c) (hb : Below w.heap.size w w') : PinsAt w' v ps q n c :=
 ⟨h.hv, h.hn, h.hc, h.hnc, fun i x hx => by
  obtain ⟨g, h1, h2, h3⟩ := h.cell i x hx
  exact ⟨g, h1, by rw [hb.cell (p := ⟨g, i * 2, none⟩) (World.block_lt_of_cell? _ _ h2)]; exact h2, by rw [hb.cell (p := ⟨g, i * 2 + 1, none⟩) (World.block_lt_of_cell? _ _ h3)]; exact h3⟩⟩
theorem pidx_some {ps : List (Int × Int)} {gen : Int} {j : Nat} {x : Int × Int} (hx : ps[j]? = some x) (h1 : x.1 = gen) (h0 : ∀ k y, k < j → ps[k]? = some y → y.1 ≠ gen) : pidxI ps gen = j := by
 have : pidx ps gen = some j := by
  unfold pidx
  rw [List.findIdx?_eq_some_iff_getElem]
  obtain ⟨hj, hx'⟩ := List.getElem?_eq_some_iff.1 hx
  refine ⟨hj, by rw [hx']; simpa using h1, fun k hk => ?_⟩
  have hk' : k < ps.length := by omega
  have := h0 k ps[k] hk (List.getElem?_eq_getElem hk')
  simpa using this
 unfold pidxI
 rw [this]
theorem pidx_none {ps : List (Int × Int)} {gen : Int} (h0 : ∀ k y, k < ps.length → ps[k]? = some y → y.1 ≠ gen) : pidxI ps gen = -1 := by
 have : pidx ps gen = none := by
  unfold pidx
  rw [List.findIdx?_eq_none_iff]
  intro y hy
  obtain ⟨k, hk, rfl⟩ := List.getElem_of_mem hy
  simpa using h0 k _ hk (List.getElem?_eq_getElem hk)
 unfold pidxI
 rw [this]
set_option maxHeartbeats 1600000 in
theorem idxPins {w : World} {v : Value} {ps : List (Int × Int)} {q : Option Addr} {n c : Nat} (h : PinsAt w v ps q n c) {bx : Nat} {gen : Int} (hc : w.cell? ⟨bx, 0, none⟩ = some (.int .i64 gen)) :
  Calls Tryz.prog 100 #[v, .func (.func 101) #[] #[.pointer (some ⟨bx, 0, none⟩)]] w fun e w' => e = .returned (.int .i64 (pidxI ps gen)) ∧ Below w.heap.size w w' := by
 obtain rfl := h.hv
 have H := Hq h
 have HC : Hid (∀ w', Below w.heap.size w w' → w'.cell? ⟨bx, 0, none⟩ = some (.int .i64 gen)) := Hq fun w' hb => by rw [hb.cell (p := ⟨bx, 0, none⟩) (World.block_lt_of_cell? _ _ hc)]; exact hc
 have hn63 : n ≤ 9223372036854775807 := by have := h.hc; have := h.hnc; omega
 have HN := Hq h.hn
 have eg : ∀ args (w : World), (callFunc 101 args).run Tryz.prog w = .ok (.enter 101 args) w := fun _ _ => rfl
 clear h hc
 go_enter Tryz.func100, Tryz.ntmps100
 go_wp2
 go_loopw [8] (fun i wr => ∃ j : Nat, i = .int .i64 j ∧ j ≤ n ∧ Below w.heap.size w wr ∧ ∀ k y, k < j → ps[k]? = some y → y.1 ≠ gen) (fun i _ => n - (intOf i).toNat)
 case atStart => exact ⟨0, rfl, by omega, Below.refl _ _, fun k y hk => by omega⟩
 case round =>
  obtain ⟨j, rfl, hj, hb, hall⟩ := hrel
  have HB := Hq hb
  have HA := Hq hall
  clear hall
  by_cases hlt : j < n
  ·
   obtain ⟨x, hx⟩ : ∃ x, ps[j]? = some x := ⟨_, List.getElem?_eq_getElem (by have := HN.out; omega)⟩
   obtain ⟨g, rfl, x1, x2⟩ := (H.out.below hb).cell j x hx
   have HX := Hq hx
   have hcl := pinCl (w := wr) (bx := bx) (gen := gen) x.1 x.2 (HC.out _ hb)
   have hj0 : (0 : Int) ≤ (j : Int) := by omega
   have hj1 : (j : Int) < (n : Int) := by omega
   obtain ⟨y1, hy1⟩ : ∃ y, y = x.1 := ⟨_, rfl⟩
   obtain ⟨y2, hy2⟩ : ∃ y, y = x.2 := ⟨_, rfl⟩
   rw [← hy1] at x1 hcl
   rw [← hy2] at x2 hcl
   have HY := Hq hy1
   clear hx hb hy1 hy2
   by_cases he : y1 = gen
   ·
    have e1 : (y1 == gen) = true := by simpa using he
    rw [e1] at hcl
    have HCL := Hq hcl
    have HE : Hid (pidxI ps gen = j) := Hq (pidx_some HX.out (by rw [← HY.out]; exact he) HA.out)
    clear hcl e1 he
    go_wp2_with fail
    refine HCL.out.mono ?_; rintro e w2 ⟨rfl, hb2⟩
    have HB2 := Hq (HB.out.trans (hb2.mono HB.out.size))
    clear hb2
    go_wp2
    go_ret
    exact ⟨by rw [HE.out]; rfl, HB2.out⟩
   ·
    have e1 : (y1 == gen) = false := by simpa using he
    rw [e1] at hcl
    have HCL := Hq hcl
    have HE : Hid (∀ k y, k < j + 1 → ps[k]? = some y → y.1 ≠ gen) := Hq fun k y hk hy => by
     by_cases hkj : k = j
     ·
      subst hkj
      rw [HX.out] at hy
      cases hy
      rw [← HY.out]
      exact he
     ·
      exact HA.out k y (by omega) hy
    clear hcl e1 he
    go_wp2_with fail
    refine HCL.out.mono ?_; rintro e w2 ⟨rfl, hb2⟩
    have HB2 := Hq (HB.out.trans (hb2.mono HB.out.size))
    clear hb2
    go_wp2
    go_roundw
    case rel => exact ⟨j + 1, by go_num, by omega, HB2.out, HE.out⟩
    case measure => simp [intOf]; omega
  ·
   have HE : Hid (pidxI ps gen = -1) := Hq (pidx_none fun k y hk => HA.out k y (by have := HN.out; omega))
   obtain rfl : j = n := by omega
   go_wp2
   go_ret
   exact ⟨by rw [HE.out]; rfl, HB.out⟩
section
variable {w w' : World} {B P pd lm fm pl um wm la : Nat} {v : Value} {X : PG}
set_option maxHeartbeats 800000 in
theorem grPinned (h : GrIs w B P pd lm fm pl um wm la v X) (gen : Int) :
  Calls Tryz.prog 63 #[.pointer (some ⟨P, 0, none⟩), .int .i64 gen] w fun e w' => e = .returned (.int .i64 (pidxI X.pins gen)) ∧ Below w.heap.size w w' := by
 have hb := sbox1 w (.cells #[.int .i64 gen] 3)
 have h1 := h.below hb
 have c7 := h1.c7
 obtain ⟨q, n, c, hp⟩ := pinsAt h1.pins
 have HI := Hq (idxPins hp (bx := w.heap.size) (gen := gen) ((jC (heap_alloc_new w _) 0).trans rfl))
 have HB := Hq hb
 clear h h1 hb hp
 go_enter Tryz.func63, Tryz.ntmps63
 go_wp2_with fail
 refine HI.out.mono ?_; rintro e w2 ⟨rfl, hb2⟩
 have HB2 := Hq (HB.out.trans (hb2.mono HB.out.size))
 clear hb2
 go_wp2
 go_ret
 exact ⟨rfl, HB2.out⟩
end
end Go.Proofs.YtbbgdbnjmonbgaaGreatDoor

set_option linter.unusedVariables false
set_option maxRecDepth 100000
namespace Go.Proofs.YtbbgdbnjmonbgaaGreatDoor
open Go.RowKit
def isPP : Nat → Obj → Bool
 | _, .cells _ t _ => t == 123 || t == 92
 | _, _ => false
theorem isPP_ofGr (i : Nat) (o : Obj) (h : isPP i o = true) : ofGr i o = true := by
 cases o with
 | cells c t f =>
  simp only [isPP, ofGr, Bool.or_eq_true] at h ⊢
  rcases h with h | h <;> simp [h]
 | _ => cases h
theorem isPP_ofGrP {P : Nat} (i : Nat) (o : Obj) (h : isPP i o = true) : ofGrP P i o = true := by
 cases o with
 | cells c t f => exact isPP_ofGr i _ h
 | _ => cases h
theorem isPin_PP (i : Nat) (o : Obj) (h : isTy 123 i o = true) : isPP i o = true := by
 cases o with
 | cells c t f => simp only [isTy, isPP, Bool.or_eq_true] at h ⊢; simp [h]
 | _ => cases h
theorem isPgr_PP (i : Nat) (o : Obj) (h : isTy 92 i o = true) : isPP i o = true := by
 cases o with
 | cells c t f => simp only [isTy, isPP, Bool.or_eq_true] at h ⊢; simp [h]
 | _ => cases h
def incAt (ps : List (Int × Int)) (i : Nat) (d : Int) : List (Int × Int) := ps.modify i fun x => (x.1, x.2 + d)
theorem incAt_length (ps : List (Int × Int)) (i : Nat) (d : Int) : (incAt ps i d).length = ps.length := by simp [incAt]
theorem incAt_last (ps : List (Int × Int)) (a b d : Int) : incAt (ps ++ [(a, b)]) ps.length d = ps ++ [(a, b + d)] := by
 induction ps with
 | nil => rfl
 | cons y ps ih => exact congrArg (y :: ·) ih
theorem pcells_inc (ps : List (Int × Int)) (i : Nat) (d : Int) {x : Int × Int} (hx : ps[i]? = some x) : pcells (incAt ps i d) = (pcells ps).set (i * 2 + 1) (.int .i64 (x.2 + d)) := by
 induction ps generalizing i with
 | nil => simp at hx
 | cons y ps ih =>
  cases i with
  | zero =>
   simp at hx
   subst hx
   rfl
  | succ i =>
   have e : pcells (incAt (y :: ps) (i + 1) d) = .int .i64 y.1 :: .int .i64 y.2 :: pcells (incAt ps i d) := rfl
   have e2 : pcells (y :: ps) = .int .i64 y.1 :: .int .i64 y.2 :: pcells ps := rfl
   rw [e, e2, ih i (by simpa using hx), show (i + 1) * 2 + 1 = i * 2 + 1 + 1 + 1 by omega]
   rfl
theorem PinsIn.inc {w w' : World} {g cap : Nat} {ps : List (Int × Int)} {cur : Array Value} (h : PinsIn w g cap ps cur) {i : Nat} {d : Int} {x : Int × Int} (hx : ps[i]? = some x)
  (hb : w'.heap[g]? = some (.cells (cur.setIfInBounds (i * 2 + 1) (.int .i64 (x.2 + d))) 123 (0, 0))) : PinsIn w' g cap (incAt ps i d) (cur.setIfInBounds (i * 2 + 1) (.int .i64 (x.2 + d))) := by
 refine ⟨hb, by rw [incAt_length]; exact h.le, h.mx, by simpa using h.size, ?_⟩
 rw [incAt_length, pcells_inc ps i d hx, Array.toList_setIfInBounds, ← h.is, List.take_set]
theorem app_pin {w : World} {ops : Array Oper} {rest : List Oper} {o : Oper} {a : Act} {Q : Exit → Act → World → Prop} (hgd : o.guard = none) (s x : Operand)
  (ho : o.op = .call { callee := .builtin .append, args := #[s, x], argTypes := #[88, 88] })
  {B : Nat} {v : Value} {ps : List (Int × Int)} (hs : a.eval s = v) (hown : w.ownsRow B 123 2 v ps.length (pcells ps)) {b c : Nat} {y z : Int} (hx : a.eval x = .slice (some ⟨b, 0, none⟩) 1 c) (h0 : w.cell? ⟨b, 0, none⟩ = some (.int .i64 y)) (h1 : w.cell? ⟨b, 1, none⟩ = some (.int .i64 z)) (hlen : ps.length ≤ 1000000000) (hB : B ≤ w.heap.size)
  (h : ∀ v' w', w'.ownsRow B 123 2 v' (ps ++ [(y, z)]).length (pcells (ps ++ [(y, z)])) → w.grownBy w' v.ownBlock → wpList Tryz.prog ops Q rest (a.put o.dst v') w') : wpList Tryz.prog ops Q (o :: rest) a w := by
 obtain ⟨i, hi, hz0, hz1, hz2⟩ := info_parts (show (Tryz.prog.info? 123).map (fun i => (i.zero, i.size, i.bytes)) = some (some (.agg #[.int .i64 0, .int .i64 0]), 2, 16) from by kernel_rfl)
 refine wpList_append_own w hgd s x _ ho B 123 i (.agg #[.int .i64 0, .int .i64 0]) 2 16 Tryz.underlying88 hi hz0 hz1 hz2 rfl (by decide) v ps.length (pcells ps) hs hown ⟨b, 0, none⟩ 1 c [.int .i64 y, .int .i64 z] hx rfl
  (fun j u hj => by
   rw [Addr.add_lit, Nat.zero_add]
   match j, hj with
   | 0, hj => cases hj; exact h0
   | 1, hj => cases hj; exact h1
   | j + 2, hj => simp at hj) (fun u hu => by simp only [List.mem_cons, List.not_mem_nil, or_false] at hu; rcases hu with rfl | rfl <;> rfl) (by simp only [maxLen]; omega) (by omega) hB ?_
 intro v' w' h1 h2 _
 refine h v' w' ?_ h2
 have e : pcells (ps ++ [(y, z)]) = pcells ps ++ [.int .i64 y, .int .i64 z] := by simp [pcells]
 rw [List.length_append, e]
 exact h1
section
variable {w w' : World} {B P pd lm fm pl um wm la : Nat} {v v' : Value} {X Y : PG}
theorem GrIs.repin (h : GrIs w B P pd lm fm pl um wm la v X) (hk : Keeps isPP w w') (hb : w'.heap[P]? = some (.cells (grCells pd pl la v' Y) 92 (0, 0))) (hp : w'.ownsRow B 123 2 v' Y.pins.length (pcells Y.pins)) (hS : Y.S = X.S) (hF : Y.F = X.F) (hL : Y.L = X.L) (g0 : Y.g ≤ 1152921504606846976) : GrIs w' B P pd lm fm pl um wm la v' Y :=
 ⟨hb, by rw [hS]; exact h.disk.keeps hk (fun _ _ _ => rfl) (fun _ _ _ => rfl) (fun _ _ _ => rfl) (fun _ _ => rfl) (fun _ _ => rfl), by rw [hF]; exact h.list.keeps hk (fun _ => rfl) (fun _ _ => rfl) (fun _ _ => rfl), by rw [hL]; exact h.mla.keeps hk (fun _ _ => rfl), hp, h.bP, h.bu, h.bw, h.ba, h.nlm, h.nfm, h.nla, g0, h.mP⟩
theorem pin_ne_P (h : GrIs w B P pd lm fm pl um wm la v X) {g : Nat} {cs : Array Value} {f : Nat × Nat} (hg : w.heap[g]? = some (.cells cs 123 f)) : P ≠ g := by
 rintro rfl
 rw [h.blk] at hg
 cases hg
theorem GrIs.inc (h : GrIs w B P pd lm fm pl um wm la v X) {g cap : Nat} {cur : Array Value} (hv : v = .slice (some ⟨g, 0, none⟩) X.pins.length cap) (hgB : B ≤ g) (hp : PinsIn w g cap X.pins cur) {i : Nat} {d : Int} {x : Int × Int} (hx : X.pins[i]? = some x) :
  GrIs (w.setCell ⟨g, i * 2 + 1, none⟩ (.int .i64 (x.2 + d))) B P pd lm fm pl um wm la v { X with pins := incAt X.pins i d } ∧ Below B w (w.setCell ⟨g, i * 2 + 1, none⟩ (.int .i64 (x.2 + d))) ∧ Keeps (ofGrP P) w (w.setCell ⟨g, i * 2 + 1, none⟩ (.int .i64 (x.2 + d))) ∧ ∃ cur', PinsIn (w.setCell ⟨g, i * 2 + 1, none⟩ (.int .i64 (x.2 + d))) g cap (incAt X.pins i d) cur' := by
 obtain ⟨b1, g1⟩ := cell_set (i := i * 2 + 1) (v := .int .i64 (x.2 + d)) hp.blk
 have hk : Keeps isPP w (w.setCell ⟨g, i * 2 + 1, none⟩ (.int .i64 (x.2 + d))) := Keeps.of_grown g1 hp.blk rfl
 have hpi := hp.inc (d := d) hx b1
 refine ⟨h.repin hk (grown_at g1 h.blk (pin_ne_P h hp.blk)) ?_ rfl rfl rfl h.g0, (Below.refl B w).grown g1 h.base (fun k hk => by cases hk; exact hgB), hk.mono isPP_ofGrP, _, hpi⟩
 have := hpi.own hgB
 rw [incAt_length] at this
 show World.ownsRow _ _ _ _ _ (incAt X.pins i d).length _
 rw [hv, incAt_length]
 exact this
def PG.pin (X : PG) : PG := match pidx X.pins X.g with
 | some i => { X with pins := incAt X.pins i 1 }
 | none => { X with pins := X.pins ++ [((X.g : Int), 1)] }
theorem own_is_pin {w : World} {B : Nat} {v : Value} {n : Nat} {xs : List Value} (h : w.ownsRow B 123 2 v n xs) {b : Nat} (hb : v.ownBlock = some b) : B ≤ b ∧ ∃ cur, w.heap[b]? = some (.cells cur 123 (0, 0)) := by
 rcases h.2 with ⟨rfl, _⟩ | ⟨g, cap, cur, rfl, h1, h2, _⟩
 ·
  cases hb
 ·
  cases hb
  exact ⟨h1, _, h2⟩
structure PinNew (w w2 : World) (B P pd : Nat) (X : PG) (gg : Int) (g2 cap2 n : Nat) : Prop where
 c7 : ∃ v, w2.cell? ⟨P, 7, none⟩ = some v
 uP : ∀ j, w2.frozen? ⟨P, j, none⟩ = false
 c1 : w2.cell? ⟨g2, n * 2 + 1, none⟩ = some (.int .i64 0)
 ug : ∀ j, w2.frozen? ⟨g2, j, none⟩ = false
 ne : P ≠ g2
 le : n + 1 ≤ cap2
 mx : cap2 ≤ 9223372036854775807
 fin : GrStep w ((w2.setCell ⟨P, 7, none⟩ (.slice (some ⟨g2, 0, none⟩) (n + 1) cap2)).setCell ⟨g2, n * 2 + 1, none⟩ (.int .i64 1)) B P pd { X with pins := X.pins ++ [(gg, 1)] }
theorem pin_new (h : GrIs w' B P pd lm fm pl um wm la v X) (hb0 : Below B w w') (hk0 : Keeps (ofGrP P) w w') {n : Nat} (hn : n = X.pins.length) {gg : Int} {v2 : Value} {w2 : World}
  (ho : w2.ownsRow B 123 2 v2 (X.pins ++ [(gg, 0)]).length (pcells (X.pins ++ [(gg, 0)]))) (hg : w'.grownBy w2 v.ownBlock) : ∃ g2 cap2, v2 = .slice (some ⟨g2, 0, none⟩) (n + 1) cap2 ∧ PinNew w w2 B P pd X gg g2 cap2 n := by
 have hl : (X.pins ++ [(gg, 0)]).length = n + 1 := by rw [List.length_append, hn]; rfl
 rcases pinsIn_of ho with ⟨_, h0⟩ | ⟨g2, cap2, cur2, hv2, hgB, hin⟩
 ·
  simp at h0
 ·
  have hk : Keeps (isTy 123) w' w2 := Keeps.grown hg fun b o hb ho' => by
   obtain ⟨_, cur, hc⟩ := own_is_pin h.pins hb
   rw [hc] at ho'
   cases ho'
   simp [isTy]
  have hbl : Below B w' w2 := (Below.refl B w').grown hg h.base fun k hk => (own_is_pin h.pins hk).1
  have hP2 := hk.stay h.blk rfl
  have hne : P ≠ g2 := by
   rintro rfl
   rw [hin.blk] at hP2
   cases hP2
  have hx : (X.pins ++ [(gg, 0)])[n]? = some (gg, 0) := by rw [hn]; simp
  refine ⟨g2, cap2, by rw [hv2, hl], ⟨_, (jC hP2 7).trans rfl⟩, fun j => jU hP2 j, ?_, fun j => jU hin.blk j, hne, by have := hin.le; omega, by have := hin.mx; unfold maxLen at this; omega, ?_⟩
  ·
   rw [jC hin.blk, hin.get (by omega)]
   exact (pcells_get hx).2
  ·
   obtain ⟨b3, g3⟩ := cell_set (i := 7) (v := v2) hP2
   have hk3 : Keeps (isTy 92) w2 (w2.setCell ⟨P, 7, none⟩ v2) := Keeps.of_grown g3 hP2 (by simp [isTy])
   have h3 : GrIs (w2.setCell ⟨P, 7, none⟩ v2) B P pd lm fm pl um wm la v2 { X with pins := X.pins ++ [(gg, 0)] } :=
    h.repin ((hk.mono isPin_PP).trans (hk3.mono isPgr_PP)) (by simpa [grCells] using b3) (pins_keeps ho hk3 (fun _ _ _ => rfl)) rfl rfl rfl h.g0
   have hin3 : PinsIn (w2.setCell ⟨P, 7, none⟩ v2) g2 cap2 (X.pins ++ [(gg, 0)]) cur2 := ⟨hk3.stay hin.blk rfl, hin.le, hin.mx, hin.size, hin.is⟩
   obtain ⟨q1, q2, q3, _⟩ := h3.inc (i := n) (d := 1) (x := (gg, 0)) hv2 hgB hin3 hx
   have e : incAt (X.pins ++ [(gg, 0)]) n 1 = X.pins ++ [(gg, 1)] := by
    rw [hn]
    exact incAt_last _ _ _ _
   have hb3 : Below B w2 (w2.setCell ⟨P, 7, none⟩ v2) := (Below.refl B w2).grown g3 (Nat.le_trans h.base hk.size) fun k hk => by cases hk; exact h.bP
   rw [← hl, ← hv2]
   simp only [Int.zero_add] at q1 q2 q3
   rw [show ({ ({ X with pins := X.pins ++ [(gg, 0)] } : PG) with pins := incAt (X.pins ++ [(gg, 0)]) n 1 } : PG) = { X with pins := X.pins ++ [(gg, 1)] } by rw [e]] at q1
   exact ⟨⟨_, _, _, _, _, _, _, q1⟩, ((hb0.trans hbl).trans hb3).trans q2, ((hk0.trans (hk.mono isPin_ofGrP)).trans (hk3.mono isPager_ofGrP)).trans q3⟩
set_option maxHeartbeats 3200000 in
theorem grPin_new (h : GrIs w B P pd lm fm pl um wm la v X) (hi : pidx X.pins X.g = none) (hlen : X.pins.length ≤ 1000000) :
  Calls Tryz.prog 28 #[.pointer (some ⟨P, 0, none⟩)] w fun e w' => e = .returned (.tuple #[.int .i64 X.g, .int .i64 0]) ∧ GrStep w w' B P pd { X with pins := X.pins ++ [((X.g : Int), 1)] } := by
 have HM := Hq h.made
 have c2 := h.c2
 have hp := grPinned h X.g
 have e : pidxI X.pins X.g = -1 := by unfold pidxI; rw [hi]
 rw [e] at hp
 have HP := Hq hp
 have H := Hq h
 obtain ⟨q, n, c, hpa⟩ := pinsAt h.pins
 obtain rfl := hpa.hv
 have hn63 : n ≤ 9223372036854775807 := by have := hpa.hc; have := hpa.hnc; omega
 have HN := Hq hpa.hn
 have HLN := Hq hlen
 have HC : Hid (∀ w', Below w.heap.size w w' → w'.cell? ⟨P, 7, none⟩ = some (.slice q n c) ∧ w'.cell? ⟨P, 1, none⟩ = some (.pointer (some ⟨pl, 0, none⟩)) ∧ ∀ j, w'.frozen? ⟨P, j, none⟩ = false) := Hq fun w' hb => ⟨(h.below hb).c7, (h.below hb).c1, (h.below hb).soft⟩
 clear h hp e hi hpa hlen
 obtain ⟨gg, hgg⟩ : ∃ gg : Int, gg = (X.g : Int) := ⟨_, rfl⟩
 rw [← hgg] at c2 HP ⊢
 have HGG := Hq hgg
 clear hgg
 go_enter Tryz.func28, Tryz.ntmps28
 go_wp2_with fail
 refine HM.out.mono ?_; rintro e w1 ⟨rfl, rfl⟩
 go_wp2_with fail
 refine HP.out.mono ?_; rintro e w1 ⟨rfl, hb1⟩
 have HB1 := Hq hb1
 obtain ⟨c7, _, uf⟩ := HC.out _ hb1
 obtain ⟨c7', _, uf'⟩ := HC.out (w1.alloc (.cells #[.int .i64 gg, .int .i64 0] 123)) (hb1.alloc hb1.size _)
 have H1 := Hq (H.out.below (hb1.alloc hb1.size (.cells #[.int .i64 gg, .int .i64 0] 123)))
 have hbx := heap_alloc_new w1 (.cells #[.int .i64 gg, .int .i64 0] 123)
 have HBX := Hq hbx
 have HBL := Hq ((hb1.alloc hb1.size (.cells #[.int .i64 gg, .int .i64 0] 123)).mono H.out.base)
 have HKL := Hq (Keeps.below (K := ofGrP P) (hb1.alloc hb1.size (.cells #[.int .i64 gg, .int .i64 0] 123)))
 clear hb1 hbx
 go_wp2_with (at_builtin; refine app_pin rfl (.tmp 28) (.tmp 31) rfl rfl H1.out.pins rfl ((jC HBX.out 0).trans rfl) ((jC HBX.out 1).trans rfl) (by have := HLN.out; omega) H1.out.base ?_; intro v2 w2 ho2 hg2; obtain ⟨g2, cap2, rfl, hpn⟩ := pin_new (w := w) H1.out HBL.out HKL.out HN.out ho2 hg2; have HPN := Hq hpn; obtain ⟨v7, k7⟩ := hpn.c7; have kP := hpn.uP; have k1 := hpn.c1; have kg := hpn.ug; have kn := hpn.ne; have kl := hpn.le; have km := hpn.mx; have kn' := hpn.ne.symm; clear ho2 hg2 hpn)
 go_ret2
 exact ⟨rfl, HPN.out.fin⟩
structure UnOn (w : World) (B P pd lm fm pl um wm la g cap m i : Nat) (v : Value) (y : Int) (X : PG) : Prop where
 c7 : ∀ w', Below w.heap.size w w' → w'.cell? ⟨P, 7, none⟩ = some (.slice (some ⟨g, 0, none⟩) m cap)
 cx : ∀ w', Below w.heap.size w w' → w'.cell? ⟨g, i * 2 + 1, none⟩ = some (.int .i64 y)
 uf : ∀ w', Below w.heap.size w w' → ∀ j, w'.frozen? ⟨g, j, none⟩ = false
 ne : g ≠ P
 lt : i < m
 le : m ≤ cap
 mx : cap ≤ 9223372036854775807
 ln : m = X.pins.length
 gB : B ≤ g
 vv : v = .slice (some ⟨g, 0, none⟩) X.pins.length cap
 inc : ∀ w', Below w.heap.size w w' → GrIs (w'.setCell ⟨g, i * 2 + 1, none⟩ (.int .i64 (y - 1))) B P pd lm fm pl um wm la v { X with pins := incAt X.pins i (-1) } ∧ Below B w (w'.setCell ⟨g, i * 2 + 1, none⟩ (.int .i64 (y - 1))) ∧ Keeps (ofGrP P) w (w'.setCell ⟨g, i * 2 + 1, none⟩ (.int .i64 (y - 1))) ∧ ∃ cur', PinsIn (w'.setCell ⟨g, i * 2 + 1, none⟩ (.int .i64 (y - 1))) g cap (incAt X.pins i (-1)) cur'
theorem unOn (h : GrIs w B P pd lm fm pl um wm la v X) {i : Nat} {x : Int × Int} (hx : X.pins[i]? = some x) : ∃ g cap m, UnOn w B P pd lm fm pl um wm la g cap m i v x.2 X := by
 rcases pinsIn_of h.pins with ⟨_, h0⟩ | ⟨g, cap, cur, hv, hgB, hin⟩
 ·
  rw [h0] at hx; simp at hx
 ·
  have hlt : i < X.pins.length := (List.getElem?_eq_some_iff.1 hx).1
  have hb' : ∀ w', Below w.heap.size w w' → PinsIn w' g cap X.pins cur := fun w' hb => ⟨(hb.block _ (aL hin.blk)).trans hin.blk, hin.le, hin.mx, hin.size, hin.is⟩
  refine ⟨g, cap, X.pins.length, fun w' hb => by rw [← hv]; exact (h.below hb).c7, fun w' hb => ?_, fun w' hb j => jU (hb' w' hb).blk j, (pin_ne_P h hin.blk).symm, hlt, hin.le, by have := hin.mx; unfold maxLen at this; omega, rfl, hgB, hv, fun w' hb => ?_⟩
  ·
   rw [jC (hb' w' hb).blk, hin.get (by omega)]
   exact (pcells_get hx).2
  ·
   obtain ⟨q1, q2, q3, q4⟩ := (h.below hb).inc hv hgB (hb' w' hb) (d := -1) hx
   exact ⟨q1, (hb.mono h.base).trans q2, (Keeps.below hb).trans q3, q4⟩
set_option maxHeartbeats 3200000 in
theorem grUnpin_less (h : GrIs w B P pd lm fm pl um wm la v X) {gen : Int} {i : Nat} {x : Int × Int} (hi : pidx X.pins gen = some i) (hx : X.pins[i]? = some x) (ht : 2 ≤ x.2 ∧ x.2 ≤ 1000000000) :
  Calls Tryz.prog 31 #[.pointer (some ⟨P, 0, none⟩), .int .i64 gen] w fun e w' => e = .returned (.int .i64 0) ∧ GrStep w w' B P pd ({ X with pins := incAt X.pins i (-1) } : PG).settle := by
 have HM := Hq h.made
 have hp := grPinned h gen
 have e : pidxI X.pins gen = i := by unfold pidxI; rw [hi]
 rw [e] at hp
 have HP := Hq hp
 obtain ⟨g, cap, m, hu⟩ := unOn h hx
 obtain ⟨y, hy⟩ : ∃ y, y = x.2 := ⟨_, rfl⟩
 rw [← hy] at hu ht
 have HU := Hq hu
 have hlt := hu.lt
 have hle := hu.le
 have hmx := hu.mx
 have hi0 : (0 : Int) ≤ (i : Int) := by omega
 have hi1 : (i : Int) < (m : Int) := by omega
 have hd0 : decide ((i : Int) < 0) = false := decide_eq_false (by omega)
 have hz : ((y - 1 : Int) == 0) = false := by rw [beq_eq_false_iff_ne]; omega
 have hgne := hu.ne
 have hgne' := hu.ne.symm
 clear h hp e hi hx hu hy
 go_enter Tryz.func31, Tryz.ntmps31
 go_wp2_with fail
 refine HM.out.mono ?_; rintro e w1 ⟨rfl, rfl⟩
 go_wp2_with fail
 refine HP.out.mono ?_; rintro e w1 ⟨rfl, hb1⟩
 have c7 := HU.out.c7 _ hb1
 have cx := HU.out.cx _ hb1
 have uf := HU.out.uf _ hb1
 obtain ⟨q1, q2, q3, _⟩ := HU.out.inc _ hb1
 have HST := Hq (grSettle q1)
 have Q2 := Hq q2
 have Q3 := Hq q3
 clear hb1 q1 q2 q3
 go_wp2_with fail
 refine HST.out.mono ?_; rintro e w4 ⟨rfl, hs4⟩
 have HS4 := Hq (GrStep.of Q2.out Q3.out hs4)
 clear hs4
 go_wp2
 go_ret
 exact ⟨rfl, HS4.out⟩
theorem incAt_erase (ps : List (Int × Int)) (i : Nat) (d : Int) : (incAt ps i d).eraseIdx i = ps.eraseIdx i := by
 induction ps generalizing i with
 | nil => simp [incAt]
 | cons y ps ih =>
  cases i with
  | zero => rfl
  | succ i => exact congrArg (y :: ·) (ih i)
set_option maxHeartbeats 3200000 in
theorem grUnpin_gone (h : GrIs w B P pd lm fm pl um wm la v X) {gen : Int} {i : Nat} {x : Int × Int} (hi : pidx X.pins gen = some i) (hx : X.pins[i]? = some x) (ht : x.2 = 1) :
  Calls Tryz.prog 31 #[.pointer (some ⟨P, 0, none⟩), .int .i64 gen] w fun e w' => e = .returned (.int .i64 0) ∧ GrStep w w' B P pd ({ X with pins := X.pins.eraseIdx i } : PG).settle := by
 have HM := Hq h.made
 have hp := grPinned h gen
 have e : pidxI X.pins gen = i := by unfold pidxI; rw [hi]
 rw [e] at hp
 have HP := Hq hp
 obtain ⟨g, cap, m, hu⟩ := unOn h hx
 rw [ht] at hu
 have HU := Hq hu
 have hlt := hu.lt
 have hle := hu.le
 have hmx := hu.mx
 have hi0 : (0 : Int) ≤ (i : Int) := by omega
 have hi1 : (i : Int) < (m : Int) := by omega
 have hd0 : decide ((i : Int) < 0) = false := decide_eq_false (by omega)
 have hgne := hu.ne
 have hgne' := hu.ne.symm
 have HBS := Hq h.base
 clear h hp e hi hx hu ht
 go_enter Tryz.func31, Tryz.ntmps31
 go_wp2_with fail
 refine HM.out.mono ?_; rintro e w1 ⟨rfl, rfl⟩
 go_wp2_with fail
 refine HP.out.mono ?_; rintro e w1 ⟨rfl, hb1⟩
 have c7 := HU.out.c7 _ hb1
 have cx := HU.out.cx _ hb1
 have uf := HU.out.uf _ hb1
 obtain ⟨q1, q2, q3, cur', q4⟩ := HU.out.inc _ hb1
 have hdel := del_any q4 (i := i) (by rw [incAt_length, ← HU.out.ln]; exact hlt)
 rw [incAt_length, ← HU.out.ln, incAt_erase] at hdel
 have HDEL := Hq hdel
 have Q1 := Hq q1
 have Q2 := Hq q2
 have Q3 := Hq q3
 have Q4 := Hq q4.blk
 clear hb1 q1 q2 q3 q4 hdel
 simp only [show (1 : Int) - 1 = 0 from rfl] at Q1 Q2 Q3 Q4 HDEL
 go_wp2_with fail
 refine HDEL.out.mono ?_; rintro e w3 ⟨rfl, cur2, hg3, hin3⟩
 have hk3 : Keeps (isTy 123) _ w3 := Keeps.of_grown hg3 Q4.out (by simp [isTy])
 have hP3 := hk3.stay Q1.out.blk rfl
 have c73 := (jC hP3 7)
 have u3 : ∀ j, w3.frozen? ⟨P, j, none⟩ = false := fun j => jU hP3 j
 have HFIN : Hid (∀ w4, w4 = w3.setCell ⟨P, 7, none⟩ (.slice (some ⟨g, 0, none⟩) (m - 1) cap) → GrIs w4 B P pd lm fm pl um wm la (.slice (some ⟨g, 0, none⟩) (m - 1) cap) { X with pins := X.pins.eraseIdx i } ∧ Below B w w4 ∧ Keeps (ofGrP P) w w4) := Hq (by
  rintro w4 rfl
  obtain ⟨b4, g4⟩ := cell_set (i := 7) (v := .slice (some ⟨g, 0, none⟩) (m - 1) cap) hP3
  have hk4 : Keeps (isTy 92) w3 (w3.setCell ⟨P, 7, none⟩ (.slice (some ⟨g, 0, none⟩) (m - 1) cap)) := Keeps.of_grown g4 hP3 (by simp [isTy])
  have hl : (X.pins.eraseIdx i).length = m - 1 := by rw [List.length_eraseIdx_of_lt (by rw [← HU.out.ln]; exact hlt), HU.out.ln]
  have hown := hin3.own HU.out.gB
  rw [hl] at hown
  refine ⟨Q1.out.repin ((hk3.mono isPin_PP).trans (hk4.mono isPgr_PP)) (by simpa [grCells] using b4) (by show World.ownsRow _ _ _ _ _ (X.pins.eraseIdx i).length _; rw [hl]; exact pins_keeps hown hk4 (fun _ _ _ => rfl)) rfl rfl rfl Q1.out.g0, ?_, (Q3.out.trans (hk3.mono isPin_ofGrP)).trans (hk4.mono isPager_ofGrP)⟩
  exact (Q2.out.grown hg3 (Nat.le_trans HBS.out Q3.out.size) (fun k hk => by cases hk; exact HU.out.gB)).grown g4 (Nat.le_trans HBS.out (Nat.le_trans Q3.out.size hk3.size)) (fun k hk => by cases hk; exact Q1.out.bP))
 have c73' : w3.cell? ⟨P, 7, none⟩ = some v := c73.trans rfl
 clear c73 hg3 hin3 hk3 hP3
 have HFG := Hq (HFIN.out _ rfl)
 have HST := Hq (grSettle HFG.out.1)
 go_wp2_with fail
 refine HST.out.mono ?_; rintro e w5 ⟨rfl, hs5⟩
 have HS5 := Hq (GrStep.of HFG.out.2.1 HFG.out.2.2 hs5)
 clear hs5
 go_wp2
 go_ret
 exact ⟨rfl, HS5.out⟩
end
end Go.Proofs.YtbbgdbnjmonbgaaGreatDoor

set_option linter.unusedVariables false
set_option maxRecDepth 100000
namespace Go.Proofs.YtbbgdbnjmonbgaaGreatDoor
open Go.RowKit
end Go.Proofs.YtbbgdbnjmonbgaaGreatDoor

