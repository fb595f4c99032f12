/-
  tree.
  tree.
  tree.
  tree.Put of the empty tree.
  tree.
  Plain facts on pagers.
  What PagerAborts says of a pag.
-/
import Derived.Test.YtbbgdbnjmonbgaaGreatDoorH00
import Derived.Test.YtbbgdbnjmonbgaaGreatDoorH16
import Derived.Test.YtbbgdbnjmonbgaaGreatDoorH21
import Derived.Test.YtbbgdbnjmonbgaaGreatDoorH23
import Derived.Test.YtbbgdbnjmonbgaaGreatDoorH22
import Derived.Test.YtbbgdbnjmonbgaaGreatDoorH12
import Derived.Test.YtbbgdbnjmonbgaaGreatDoorH14
import Derived.RegionTactic
import Derived.ChangeAlike
set_option linter.unusedVariables false
set_option linter.unusedSimpArgs false
set_option maxRecDepth 100000
namespace Go.Proofs.YtbbgdbnjmonbgaaGreatDoor
open Go.RowKit
def kidS (s : SpS) (ks : List (List UInt8)) (i : Nat) : SpS := ⟨if i = 0 then s.f else ks[i - 1]?.getD [], ks[i]?.getD s.t, if i < ks.length then true else s.e⟩
def kidP (p : Pc) (n : Nd) (i : Nat) : Pc := ⟨n.is[i]?.getD 0, p.deep + 1, ⟨if i = 0 then p.s.f else n.ks[i - 1]?.getD Kb.zero, n.ks[i]?.getD p.s.t, if i < n.ks.length then true else p.s.e⟩⟩
theorem kidP_s (p : Pc) (n : Nd) {i : Nat} (hi : i ≤ n.ks.length) : (kidP p n i).s.s = kidS p.s.s n.s.ks i := by
 have e : n.s.ks = n.ks.map Kb.l := rfl
 unfold kidP kidS Sp.s
 rw [e]
 simp only [List.length_map]
 congr 1
 ·
  split
  ·
   rfl
  ·
   rw [List.getElem?_map]
   cases h : n.ks[i - 1]? <;> rfl
 ·
  rw [List.getElem?_map]
  cases h : n.ks[i]? <;> rfl
theorem third_of_four (w : World) (o1 o2 o3 o4 : Obj) : ((((w.alloc o1).alloc o2).alloc o3).alloc o4).drew.heap[w.heap.size + 1 + 1]? = some o3 ∧ Below w.heap.size w ((((w.alloc o1).alloc o2).alloc o3).alloc o4).drew := by
 have e2 : ((w.alloc o1).alloc o2).heap.size = w.heap.size + 1 + 1 := by simp
 have e3 : (((w.alloc o1).alloc o2).alloc o3).heap.size = w.heap.size + 1 + 1 + 1 := by simp
 constructor
 ·
  show ((((w.alloc o1).alloc o2).alloc o3).alloc o4).heap[w.heap.size + 1 + 1]? = some o3
  rw [Below.heap_alloc _ _ _ (by omega), ← e2]
  exact heap_alloc_new _ _
 ·
  exact ((sbox3 w o1 o2 o3).alloc (by omega) _).drew
set_option maxHeartbeats 3200000 in
theorem kid_any {w : World} {p : Pc} (hp : p.s.Ok w) {n : Nd} (hn : n.Ok w) {i : Nat} (hi : i ≤ n.ks.length) (hii : i < n.is.length) (h16 : n.ks.length ≤ 1000000) (hd0 : 0 ≤ p.deep) (hd : p.deep ≤ 1000) :
  Calls Tryz.prog 105 #[p.v, n.cell, .int .i64 (i : Int)] w fun e w' => e = .returned (kidP p n i).v ∧ Below w.heap.size w w' := by
 obtain ⟨x, hx⟩ : ∃ x, n.is[i]? = some x := ⟨_, List.getElem?_eq_getElem hii⟩
 obtain ⟨bi, oi, hqi, hci⟩ := hn.il.at hx
 have hbi : bi < w.heap.size := World.block_lt_of_cell? _ _ hci
 have k1 := hn.k1
 have k2 := hn.k2
 have i1 := hn.i1
 have i2 := hn.i2
 have b3 : IntKind.i64.wrap (p.deep + 1) = p.deep + 1 := by rw [IntKind.wrap_i64]; omega
 have e0 : (kidP p n i).no = x := by unfold kidP; rw [hx]; rfl
 have HV : Hid ((kidP p n i).v = .agg #[.int .i64 x, .int .i64 (p.deep + 1), .slice (kidP p n i).s.f.q (kidP p n i).s.f.l.length (kidP p n i).s.f.c, .slice (kidP p n i).s.t.q (kidP p n i).s.t.l.length (kidP p n i).s.t.c, .bool (kidP p n i).s.e]) := Hq (by rw [← e0]; rfl)
 obtain ⟨KV, hKV⟩ : ∃ v, v = (kidP p n i).v := ⟨_, rfl⟩
 rw [← hKV] at HV ⊢
 clear hKV e0
 by_cases h0 : i = 0
 ·
  by_cases h1 : i < n.ks.length
  ·
   subst h0
   have hF : (kidP p n 0).s.f = p.s.f := rfl
   obtain ⟨z, hz⟩ : ∃ z, n.ks[0]? = some z := ⟨_, List.getElem?_eq_getElem h1⟩
   obtain ⟨bz, oz, hqz, hbz, hcz⟩ := hn.kl.at hz
   have hT : (kidP p n 0).s.t = z := by show n.ks[0]?.getD _ = _; rw [hz]; rfl
   have hE : (kidP p n 0).s.e = true := by show (if 0 < n.ks.length then true else _) = true; rw [if_pos h1]
   rw [hF, hT, hE] at HV
   have hl0 : (0 : Int) < (n.is.length : Int) := by omega
   have g0 : (0 : Int) < (n.ks.length : Int) := by omega
   have g1 : decide ((0 : Int) < (n.ks.length : Int)) = true := decide_eq_true g0
   have qbi1 : bi < w.heap.size + 1 := by omega
   have qbi2 : bi < w.heap.size + 1 + 1 := by omega
   have qbi3 : bi < w.heap.size + 1 + 1 + 1 := by omega
   have qbz1 : bz < w.heap.size + 1 := by omega
   have qbz2 : bz < w.heap.size + 1 + 1 := by omega
   have qbz3 : bz < w.heap.size + 1 + 1 + 1 := by omega
   replace hci : w.cell? ⟨bi, oi, none⟩ = some (.int .i64 x) := hci
   have hl1 : 0 < n.is.length := by omega
   replace hcz : w.cell? ⟨bz, oz, none⟩ = some (.slice z.q z.l.length z.c) := hcz
   have hl2 : 0 < n.ks.length := by omega
   unfold Pc.v Nd.cell
   rw [hqi]
   rw [hqz]
   clear hp hn hx hi hii hqi hF hT hE h16  hz hqz
   have HZ : Hid (n.is.length = n.is.length) := Hq rfl
   generalize n.is.length = il at *
   generalize n.ks.length = kl at *
   generalize n.vs.length = vl at *
   generalize p.s.f.l.length = pf at *
   generalize p.s.t.l.length = pt at *
   generalize z.l.length = zl at *
   go_enter Tryz.func105, Tryz.ntmps105
   go_wp2
   go_region
   all_goals
    go_wp2
    refine bodyPost_ret (results_cell_row rfl _ _ (w.heap.size + 1 + 1) 129 _ (0, 0) _ (by kernel_rfl) (third_of_four _ _ _ _ _).1 Tryz.underlying129 rfl (by kernel_rfl)) rfl ?_
    exact ⟨by rw [HV.out], (third_of_four _ _ _ _ _).2⟩
  ·
   subst h0
   have hF : (kidP p n 0).s.f = p.s.f := rfl
   have hT : (kidP p n 0).s.t = p.s.t := by show n.ks[0]?.getD _ = _; rw [List.getElem?_eq_none (by omega)]; rfl
   have hE : (kidP p n 0).s.e = p.s.e := by show (if 0 < n.ks.length then true else _) = _; rw [if_neg (by omega)]
   rw [hF, hT, hE] at HV
   have hl0 : (0 : Int) < (n.is.length : Int) := by omega
   have g1 : decide ((0 : Int) < (n.ks.length : Int)) = false := decide_eq_false (by omega)
   have qbi1 : bi < w.heap.size + 1 := by omega
   have qbi2 : bi < w.heap.size + 1 + 1 := by omega
   have qbi3 : bi < w.heap.size + 1 + 1 + 1 := by omega
   replace hci : w.cell? ⟨bi, oi, none⟩ = some (.int .i64 x) := hci
   have hl1 : 0 < n.is.length := by omega
   unfold Pc.v Nd.cell
   rw [hqi]
   clear hp hn hx hi hii hqi hF hT hE h16
   have HZ : Hid (n.is.length = n.is.length) := Hq rfl
   generalize n.is.length = il at *
   generalize n.ks.length = kl at *
   generalize n.vs.length = vl at *
   generalize p.s.f.l.length = pf at *
   generalize p.s.t.l.length = pt at *
   go_enter Tryz.func105, Tryz.ntmps105
   go_wp2
   go_region
   all_goals
    go_wp2
    refine bodyPost_ret (results_cell_row rfl _ _ (w.heap.size + 1 + 1) 129 _ (0, 0) _ (by kernel_rfl) (third_of_four _ _ _ _ _).1 Tryz.underlying129 rfl (by kernel_rfl)) rfl ?_
    exact ⟨by rw [HV.out], (third_of_four _ _ _ _ _).2⟩
 ·
  obtain ⟨j, rfl⟩ : ∃ j, i = j + 1 := ⟨i - 1, by omega⟩
  by_cases h1 : j + 1 < n.ks.length
  ·
   obtain ⟨y, hy⟩ : ∃ y, n.ks[j]? = some y := ⟨_, List.getElem?_eq_getElem (by omega)⟩
   obtain ⟨bk, ok, hqk, hbk, hck⟩ := hn.kl.at hy
   have hF : (kidP p n (j + 1)).s.f = y := by show (n.ks[j + 1 - 1]?.getD _) = _; rw [Nat.add_sub_cancel, hy]; rfl
   have a1 : (0 : Int) < (j : Int) + 1 := by omega
   have a2 : (0 : Int) ≤ (j : Int) := by omega
   have a3 : (j : Int) < (n.ks.length : Int) := by omega
   have a4 : IntKind.i64.wrap ((j : Int) + 1 - 1) = (j : Int) := by rw [IntKind.wrap_i64]; omega
   have a5 : decide ((0 : Int) < (j : Int) + 1) = true := decide_eq_true a1
   have a6 : (0 : Int) ≤ (j : Int) + 1 := by omega
   have a7 : (j : Int) + 1 < (n.is.length : Int) := by omega
   obtain ⟨z, hz⟩ : ∃ z, n.ks[j + 1]? = some z := ⟨_, List.getElem?_eq_getElem h1⟩
   obtain ⟨bz, oz, hqz, hbz, hcz⟩ := hn.kl.at hz
   have hT : (kidP p n (j + 1)).s.t = z := by show n.ks[j + 1]?.getD _ = _; rw [hz]; rfl
   have hE : (kidP p n (j + 1)).s.e = true := by show (if j + 1 < n.ks.length then true else _) = true; rw [if_pos h1]
   rw [hqk] at hqz
   cases hqz
   rw [hF, hT, hE] at HV
   have hl0 : (0 : Int) < (n.is.length : Int) := by omega
   have g0 : (j : Int) + 1 < (n.ks.length : Int) := by omega
   have g1 : decide ((j : Int) + 1 < (n.ks.length : Int)) = true := decide_eq_true g0
   have qbi1 : bi < w.heap.size + 1 := by omega
   have qbi2 : bi < w.heap.size + 1 + 1 := by omega
   have qbi3 : bi < w.heap.size + 1 + 1 + 1 := by omega
   have qbk1 : bk < w.heap.size + 1 := by omega
   have qbk2 : bk < w.heap.size + 1 + 1 := by omega
   have qbk3 : bk < w.heap.size + 1 + 1 + 1 := by omega
   unfold Pc.v Nd.cell
   rw [hqi]
   rw [hqk]
   clear hp hn hx hi hii hqi hF hT hE h16 hy hqk hz
   have HZ : Hid (n.is.length = n.is.length) := Hq rfl
   generalize n.is.length = il at *
   generalize n.ks.length = kl at *
   generalize n.vs.length = vl at *
   generalize p.s.f.l.length = pf at *
   generalize p.s.t.l.length = pt at *
   generalize y.l.length = yl at *
   generalize z.l.length = zl at *
   go_enter Tryz.func105, Tryz.ntmps105
   go_wp2
   go_region
   all_goals
    go_wp2
    refine bodyPost_ret (results_cell_row rfl _ _ (w.heap.size + 1 + 1) 129 _ (0, 0) _ (by kernel_rfl) (third_of_four _ _ _ _ _).1 Tryz.underlying129 rfl (by kernel_rfl)) rfl ?_
    exact ⟨by rw [HV.out], (third_of_four _ _ _ _ _).2⟩
  ·
   obtain ⟨y, hy⟩ : ∃ y, n.ks[j]? = some y := ⟨_, List.getElem?_eq_getElem (by omega)⟩
   obtain ⟨bk, ok, hqk, hbk, hck⟩ := hn.kl.at hy
   have hF : (kidP p n (j + 1)).s.f = y := by show (n.ks[j + 1 - 1]?.getD _) = _; rw [Nat.add_sub_cancel, hy]; rfl
   have a1 : (0 : Int) < (j : Int) + 1 := by omega
   have a2 : (0 : Int) ≤ (j : Int) := by omega
   have a3 : (j : Int) < (n.ks.length : Int) := by omega
   have a4 : IntKind.i64.wrap ((j : Int) + 1 - 1) = (j : Int) := by rw [IntKind.wrap_i64]; omega
   have a5 : decide ((0 : Int) < (j : Int) + 1) = true := decide_eq_true a1
   have a6 : (0 : Int) ≤ (j : Int) + 1 := by omega
   have a7 : (j : Int) + 1 < (n.is.length : Int) := by omega
   have hT : (kidP p n (j + 1)).s.t = p.s.t := by show n.ks[j + 1]?.getD _ = _; rw [List.getElem?_eq_none (by omega)]; rfl
   have hE : (kidP p n (j + 1)).s.e = p.s.e := by show (if j + 1 < n.ks.length then true else _) = _; rw [if_neg (by omega)]
   rw [hF, hT, hE] at HV
   have hl0 : (0 : Int) < (n.is.length : Int) := by omega
   have g1 : decide ((j : Int) + 1 < (n.ks.length : Int)) = false := decide_eq_false (by omega)
   have qbi1 : bi < w.heap.size + 1 := by omega
   have qbi2 : bi < w.heap.size + 1 + 1 := by omega
   have qbi3 : bi < w.heap.size + 1 + 1 + 1 := by omega
   have qbk1 : bk < w.heap.size + 1 := by omega
   have qbk2 : bk < w.heap.size + 1 + 1 := by omega
   have qbk3 : bk < w.heap.size + 1 + 1 + 1 := by omega
   unfold Pc.v Nd.cell
   rw [hqi]
   rw [hqk]
   clear hp hn hx hi hii hqi hF hT hE h16 hy hqk
   have HZ : Hid (n.is.length = n.is.length) := Hq rfl
   generalize n.is.length = il at *
   generalize n.ks.length = kl at *
   generalize n.vs.length = vl at *
   generalize p.s.f.l.length = pf at *
   generalize p.s.t.l.length = pt at *
   generalize y.l.length = yl at *
   go_enter Tryz.func105, Tryz.ntmps105
   go_wp2
   go_region
   all_goals
    go_wp2
    refine bodyPost_ret (results_cell_row rfl _ _ (w.heap.size + 1 + 1) 129 _ (0, 0) _ (by kernel_rfl) (third_of_four _ _ _ _ _).1 Tryz.underlying129 rfl (by kernel_rfl)) rfl ?_
    exact ⟨by rw [HV.out], (third_of_four _ _ _ _ _).2⟩
end Go.Proofs.YtbbgdbnjmonbgaaGreatDoor

set_option linter.unusedVariables false
set_option linter.unusedSimpArgs false
set_option maxRecDepth 100000
namespace Go.Proofs.YtbbgdbnjmonbgaaGreatDoor
open Go.RowKit
inductive WayS (X : PG) (key : Key) : (Int → Bool) → Int → Int → SpS → List StS → Prop
 | leaf {seen : Int → Bool} {no deep : Int} {sp : SpS} {s : NdS} {i : Nat} {b : Bool} : NodeAt X seen no deep sp s → s.leaf = true → At1 s.ks key i b → WayS X key seen no deep sp [⟨no, deep, sp, s, i, b⟩]
 | branch {seen : Int → Bool} {no deep : Int} {sp : SpS} {s : NdS} {i : Nat} {b : Bool} {kid : Int} {l : List StS} : NodeAt X seen no deep sp s → s.leaf = false → At1 s.ks key i b → s.is[if b = true then i + 1 else i]? = some kid →
  WayS X key (add seen no) kid (deep + 1) (kidS sp s.ks (if b = true then i + 1 else i)) l → WayS X key seen no deep sp (⟨no, deep, sp, s, if b = true then i + 1 else i, false⟩ :: l)
theorem WayS.node {X : PG} {key : Key} {seen : Int → Bool} {no deep : Int} {sp : SpS} {m : List StS} (h : WayS X key seen no deep sp m) : ∃ s, NodeAt X seen no deep sp s := by
 cases h with
 | leaf h _ _ => exact ⟨_, h⟩
 | branch h _ _ _ _ => exact ⟨_, h⟩
theorem WayS.leafIff {X : PG} {key : Key} {seen : Int → Bool} {no deep : Int} {sp : SpS} {s : NdS} {i : Nat} {b : Bool} (h : NodeAt X seen no deep sp s) (hl : s.leaf = true) (ha : At1 s.ks key i b) (m : List StS) : WayS X key seen no deep sp m ↔ m = [⟨no, deep, sp, s, i, b⟩] := by
 constructor
 ·
  intro hm
  cases hm with
  | leaf h' hl' ha' =>
   obtain rfl := h'.2.2.1.one h.2.2.1
   obtain ⟨rfl, rfl⟩ := ha'.one ha
   rfl
  | branch h' hl' _ _ _ =>
   obtain rfl := h'.2.2.1.one h.2.2.1
   rw [hl] at hl'
   cases hl'
 ·
  rintro rfl
  exact .leaf h hl ha
theorem WayS.branchIff {X : PG} {key : Key} {seen : Int → Bool} {no deep : Int} {sp : SpS} {s : NdS} {i j : Nat} {b : Bool} {kid : Int} (h : NodeAt X seen no deep sp s) (hl : s.leaf = false) (ha : At1 s.ks key i b) (hj : j = if b = true then i + 1 else i) (hk : s.is[j]? = some kid) (m : List StS) :
  WayS X key seen no deep sp m ↔ ∃ m', m = ⟨no, deep, sp, s, j, false⟩ :: m' ∧ WayS X key (add seen no) kid (deep + 1) (kidS sp s.ks j) m' := by
 subst hj
 constructor
 ·
  intro hm
  cases hm with
  | leaf h' hl' ha' =>
   obtain rfl := h'.2.2.1.one h.2.2.1
   rw [hl] at hl'
   cases hl'
  | branch h' hl' ha' hk' hw =>
   obtain rfl := h'.2.2.1.one h.2.2.1
   obtain ⟨rfl, rfl⟩ := ha'.one ha
   rw [hk] at hk'
   cases hk'
   exact ⟨_, rfl, hw⟩
 ·
  rintro ⟨m', rfl, hw⟩
  exact .branch h hl ha hk hw
def addL (seen : Int → Bool) (l : List Int) : Int → Bool := l.foldl add seen
theorem addL_snoc (seen : Int → Bool) (l : List Int) (k : Int) : addL seen (l ++ [k]) = add (addL seen l) k := by unfold addL; rw [List.foldl_append]; rfl
def WayR (X : PG) (key : Key) (seen : Int → Bool) (root : Int) (m : List StS) : Prop := if root = 0 then m = [] else WayS X key seen root 1 SpS.zero m
section
variable {w a b : World} {B P pd sm : Nat} {X : PG} {seen : Int → Bool}
def freeTy (t : TypeId) : Prop := offTy t = true ∧ (t ≠ 5 ∧ t ≠ 33 ∧ t ≠ 108 ∧ t ≠ 3)
instance (t : TypeId) : Decidable (freeTy t) := inferInstanceAs (Decidable (_ ∧ _))
theorem LookAt.turn (h : LookAt a B P pd sm X seen) (hs : LStep sm w a) (hlt : sm < w.heap.size) (hB : B ≤ w.heap.size) {r : Option Nat} (hg : a.grownBy b r) (hr : ∀ g, r = some g → w.heap.size ≤ g ∧ ∃ c t f, a.heap[g]? = some (.cells c t f) ∧ freeTy t) :
  LookAt b B P pd sm X seen ∧ LStep sm w b ∧ KeepsN a b := by
 refine ⟨?_, ⟨?_, ?_⟩, KeepsN.row hg fun g e => by
  obtain ⟨_, c, t, f, h1, h2⟩ := hr g e
  exact ⟨c, t, f, h1, h2.2⟩⟩
 ·
  cases r with
  | none => exact h.below ⟨hg.os, hg.tape, hg.output, hg.size, fun k hk => hg.block k hk (by simp)⟩
  | some g =>
   obtain ⟨h0, c, t, f, h1, h2⟩ := hr g rfl
   exact h.off h1 hg (by omega) h2.1
 ·
  have := hs.size
  exact hs.below.trans ⟨hg.os, hg.tape, hg.output, hg.size, fun k hk => hg.block k (by omega) (fun e => by obtain ⟨h0, _⟩ := hr k e.symm; omega)⟩
 ·
  have := hs.size
  refine ⟨Nat.le_trans this hg.size, fun {i o} ho hK => ?_⟩
  have h1 := hs.keeps.stay ho hK
  have hi := (aL ho)
  rw [hg.block i (by omega) (fun e => by obtain ⟨h0, _⟩ := hr i e.symm; omega)]
  exact h1
theorem kidP_t {w : World} {p : Pc} {n : Nd} (hp : p.s.T w) (hn : NOwn w n) (i : Nat) : (kidP p n i).s.T w := by
 unfold kidP
 constructor
 ·
  show Kb.T w (if i = 0 then _ else _)
  split
  ·
   exact hp.f
  ·
   cases h : n.ks[i - 1]? with
   | none => exact Kb.zero_t w
   | some x => exact hn.kt (List.mem_of_getElem? h)
 ·
  show Kb.T w (n.ks[i]?.getD _)
  cases h : n.ks[i]? with
  | none => exact hp.t
  | some x => exact hn.kt (List.mem_of_getElem? h)
structure WM (w wr : World) (B P pd sm : Nat) (X : PG) (v : Value) (bp : Nat) (l : List St) (pc : Pc) (seen' : Int → Bool) : Prop where
 la : LookAt wr B P pd sm X seen'
 st : LStep sm w wr
 bx : wr.heap[w.heap.size]? = some (.cells #[.pointer (some ⟨P, 0, none⟩), .map (some sm)] 95 (0, 0))
 pb : wr.heap[bp]? = some (.cells pc.cells 129 (0, 0))
 hbp : w.heap.size ≤ bp
 so : SOwn wr w.heap.size v l
 ok : ∀ x ∈ l, x.Ok wr
 ps : pc.s.T wr
theorem row_keeps {bs : List Nat} {B size n : Nat} {e : TypeId} {v : Value} {xs : List Value} (h : a.ownsRow B e size v n xs) (hk : Keeps (isMaps bs) a b) : b.ownsRow B e size v n xs := ownsRow_keeps h fun _ _ _ hb => hk.stay hb rfl
section
variable {v : Value} {bp : Nat} {l : List St} {pc : Pc} {seen' seen2 : Int → Bool}
theorem WM.look (h : WM w a B P pd sm X v bp l pc seen') (hs : LStep sm a b) (hl : LookAt b B P pd sm X seen2) : WM w b B P pd sm X v bp l pc seen2 :=
 ⟨hl, h.st.trans hs, hs.keeps.stay h.bx rfl, hs.keeps.stay h.pb rfl, h.hbp, row_keeps h.so hs.keeps, fun x hx => (h.ok x hx).keeps (.maps hs.keeps), h.ps.keeps (KeepsN.maps hs.keeps).u⟩
theorem WM.below (h : WM w a B P pd sm X v bp l pc seen') (hb : Below a.heap.size a b) : WM w b B P pd sm X v bp l pc seen' := h.look (h.la.step hb) (h.la.below hb)
theorem WM.append (h : WM w a B P pd sm X v bp l pc seen') (hlt : sm < w.heap.size) (hB : B ≤ w.heap.size) (hg : a.grownBy b v.ownBlock) {u : St} {v' : Value} (hu : u.Ok a) (hs : SOwn b w.heap.size v' (l ++ [u])) : WM w b B P pd sm X v' bp (l ++ [u]) pc seen' ∧ KeepsN a b := by
 obtain ⟨h1, h2, h3⟩ := h.la.turn h.st hlt hB hg fun g e => by
  obtain ⟨hb, c, f, hx⟩ := h.so.blk g e
  exact ⟨hb, c, _, f, hx, by decide⟩
 refine ⟨⟨h1, h2, ?_, ?_, h.hbp, hs, fun x hx => ?_, h.ps.keeps h3.u⟩, h3⟩
 ·
  rw [hg.block _ (aL h.bx) (fun e => by
   obtain ⟨_, c, f, hx⟩ := h.so.blk _ e.symm
   rw [h.bx] at hx
   injection hx with hx
   injection hx with _ ht _
   exact absurd ht (by decide))]
  exact h.bx
 ·
  rw [hg.block _ (aL h.pb) (fun e => by
   obtain ⟨_, c, f, hx⟩ := h.so.blk _ e.symm
   rw [h.pb] at hx
   injection hx with hx
   injection hx with _ ht _
   exact absurd ht (by decide))]
  exact h.pb
 ·
  rcases List.mem_append.1 hx with hx | hx
  ·
   exact (h.ok x hx).keeps h3
  ·
   obtain rfl := List.mem_singleton.1 hx
   exact hu.keeps h3
theorem SOwn.off {B' : Nat} (so : SOwn a B' v l) (hg : a.grownBy b v.ownBlock) {i : Nat} {c : Array Value} {t : TypeId} {f : Nat × Nat} (hx : a.heap[i]? = some (.cells c t f)) (ht : t ≠ 131) : b.heap[i]? = some (.cells c t f) := by
 rw [hg.block _ (aL hx) (fun e => by
  obtain ⟨_, c', f', hx'⟩ := so.blk _ e.symm
  rw [hx] at hx'
  injection hx' with hx'
  injection hx' with _ h2 _
  exact ht h2)]
 exact hx
theorem set5 {R : Nat} {x0 x1 x2 x3 x4 a0 a1 a2 a3 a4 : Value} {t : TypeId} (h : a.heap[R]? = some (.cells #[x0, x1, x2, x3, x4] t (0, 0))) :
  (((((a.setCell ⟨R, 0, none⟩ a0).setCell ⟨R, 1, none⟩ a1).setCell ⟨R, 2, none⟩ a2).setCell ⟨R, 3, none⟩ a3).setCell ⟨R, 4, none⟩ a4).heap[R]? = some (.cells #[a0, a1, a2, a3, a4] t (0, 0)) := by
 simp [World.setCell, Array.getElem?_modify, h]
theorem gb5 (w : World) (R : Nat) (a b c d e : Value) : w.grownBy (((((w.setCell ⟨R, 0, none⟩ a).setCell ⟨R, 1, none⟩ b).setCell ⟨R, 2, none⟩ c).setCell ⟨R, 3, none⟩ d).setCell ⟨R, 4, none⟩ e) (some R) := gb_set (gb4 w R a b c d) 4 e
theorem WM.place (h : WM w a B P pd sm X v bp l pc seen') (hlt : sm < w.heap.size) (hB : B ≤ w.heap.size) {pc' : Pc} (hp : pc'.s.T a) {b : World} (hb : b = (((((a.setCell ⟨bp, 0, none⟩ (.int .i64 pc'.no)).setCell ⟨bp, 1, none⟩ (.int .i64 pc'.deep)).setCell ⟨bp, 2, none⟩ (.slice pc'.s.f.q pc'.s.f.l.length pc'.s.f.c)).setCell ⟨bp, 3, none⟩ (.slice pc'.s.t.q pc'.s.t.l.length pc'.s.t.c)).setCell ⟨bp, 4, none⟩ (.bool pc'.s.e))) :
  WM w b B P pd sm X v bp l pc' seen' := by
 have hg := gb5 a bp (.int .i64 pc'.no) (.int .i64 pc'.deep) (.slice pc'.s.f.q pc'.s.f.l.length pc'.s.f.c) (.slice pc'.s.t.q pc'.s.t.l.length pc'.s.t.c) (.bool pc'.s.e)
 rw [← hb] at hg
 obtain ⟨h1, h2, h3⟩ := h.la.turn h.st hlt hB hg fun g e => by
  cases e
  exact ⟨h.hbp, _, _, _, h.pb, by decide⟩
 refine ⟨h1, h2, ?_, by rw [hb]; exact set5 h.pb, h.hbp, World.ownsRow.kept h.so hg (.inr (row_other h.so h.pb (by decide))), fun x hx => (h.ok x hx).keeps h3, hp.keeps h3.u⟩
 rw [hg.block _ (aL h.bx) (fun e => by
  have e := Option.some.inj e
  have hx := h.pb
  rw [← e, h.bx] at hx
  injection hx with hx
  injection hx with _ ht _
  exact absurd ht (by decide))]
 exact h.bx
theorem WM.fresh (h : WM w a B P pd sm X v bp l pc seen') {b : World} (hb : b = a.alloc (.cells pc.cells 129)) : WM w b B P pd sm X v a.heap.size l pc seen' := by
 have hb' : Below a.heap.size a b := by rw [hb]; exact sbox1 _ _
 have h' := h.below hb'
 exact ⟨h'.la, h'.st, h'.bx, by rw [hb]; exact heap_alloc_new _ _, Nat.le_trans h.hbp (Nat.le_of_lt (aL h.pb)), h'.so, h'.ok, h'.ps⟩
end
structure WR (w wr : World) (B P pd sm : Nat) (X : PG) (key : Key) (seen0 : Int → Bool) (root : Int) (v : Value) (bp : Nat) (l : List St) (pc : Pc) (seen' : Int → Bool) : Prop where
 m : WM w wr B P pd sm X v bp l pc seen'
 dp : pc.deep = (l.length : Int) + 1
 l16 : l.length ≤ 16
 sn : seen' = addL seen0 (l.map fun x => x.pc.no)
 iff : ∀ m, WayS X key seen0 root 1 SpS.zero m ↔ ∃ m', m = l.map St.s ++ m' ∧ WayS X key seen' pc.no pc.deep pc.s.s m'
def WayPost (w : World) (B P pd sm : Nat) (X : PG) (seen : Int → Bool) (root : Int) (key : Key) (e : Ending) (w' : World) : Prop :=
 (∃ (q : Option Addr) (n c : Nat) (l : List St), e = .returned (.tuple #[.slice q n c, .int .i64 0]) ∧ n = l.length ∧ SOwn w' w.heap.size (.slice q n c) l ∧ (∀ x ∈ l, x.Ok w') ∧ l.length ≤ 17 ∧ WayR X key seen root (l.map St.s) ∧ LookAt w' B P pd sm X (addL seen (l.map fun x => x.pc.no)) ∧ LStep sm w w') ∨
 (e = .returned (.tuple #[.slice none 0 0, .int .i64 18]) ∧ (∀ m, ¬ WayR X key seen root m) ∧ (∃ seen', LookAt w' B P pd sm X seen') ∧ LStep sm w w')
end
end Go.Proofs.YtbbgdbnjmonbgaaGreatDoor

set_option linter.unusedVariables false
set_option linter.unusedSimpArgs false
set_option maxRecDepth 100000
namespace Go.Proofs.YtbbgdbnjmonbgaaGreatDoor
open Go.RowKit
def Nd.leaf0 : Nd := ⟨true, none, 0, [], none, 0, [], none, 0, []⟩
def St.zero : St := ⟨⟨0, 0, Sp.zero⟩, Nd.leaf0, 0, false⟩
def endM (l : List St) : St := l.getLast?.getD St.zero
def St.v (x : St) : Value := .agg #[.int .i64 x.pc.no, .int .i64 x.pc.deep, .slice x.pc.s.f.q x.pc.s.f.l.length x.pc.s.f.c, .slice x.pc.s.t.q x.pc.s.t.l.length x.pc.s.t.c, .bool x.pc.s.e, .bool x.n.leaf, .slice x.n.kq x.n.ks.length x.n.kc, .slice x.n.vq x.n.vs.length x.n.vc, .slice x.n.iq x.n.is.length x.n.ic, .int .i64 (x.i : Int), .bool x.th]
theorem leaf0_own (w : World) : NOwn w Nd.leaf0 :=
 ⟨⟨0, World.ownsRow_nil w _ _ _⟩, ⟨0, World.ownsRow_nil w _ _ _⟩, ⟨0, World.ownsRow_nil w _ _ _⟩, fun x hx => (by cases hx), fun x hx => (by cases hx), fun x hx => (by cases hx)⟩
theorem St.zero_ok (w : World) : St.zero.Ok w := ⟨Sp.zero_t w, leaf0_own w⟩
theorem endM_ok {w : World} {l : List St} (h : ∀ x ∈ l, x.Ok w) : (endM l).Ok w := by
 unfold endM
 cases hx : l.getLast? with
 | none => exact St.zero_ok w
 | some x => exact h x (List.mem_of_getLast? hx)
theorem step_there (w : World) (a b c d e f g h i j k : Value) : (Instr.field 131 (.agg #[a, b, c, d, e, f, g, h, i, j, k]) 3).run Tryz.prog w = .ok k w := by kernel_rfl
set_option maxHeartbeats 1600000 in
theorem end_any {w : World} {B : Nat} {q : Option Addr} {n c : Nat} {l : List St} (hs : SOwn w B (.slice q n c) l) (hn : n = l.length) :
  Calls Tryz.prog 65 #[.slice q n c] w fun e w' => e = .returned (endM l).v ∧ Below w.heap.size w w' := by
 by_cases h0 : n = 0
 ·
  subst h0
  obtain rfl := List.eq_nil_of_length_eq_zero hn.symm
  have HV : Hid ((endM []).v = .agg #[.int .i64 0, .int .i64 0, .slice none 0 0, .slice none 0 0, .bool false, .bool true, .slice none 0 0, .slice none 0 0, .slice none 0 0, .int .i64 0, .bool false]) := Hq rfl
  generalize (endM []).v = V at *
  clear hs hn
  go_enter Tryz.func65, Tryz.ntmps65
  go_wp2
  refine bodyPost_ret (results_cell_row rfl _ _ w.heap.size 131 _ (0, 0) _ (by kernel_rfl) (heap_alloc_new _ _) Tryz.underlying131 rfl (by kernel_rfl)) rfl ?_
  exact ⟨by rw [HV.out], sbox1 _ _⟩
 ·
  obtain ⟨m, rfl⟩ : ∃ m, n = m + 1 := ⟨n - 1, by omega⟩
  obtain ⟨x, hx⟩ : ∃ x, l[m]? = some x := ⟨_, List.getElem?_eq_getElem (by omega)⟩
  have hend : endM l = x := by
   unfold endM
   rw [List.getLast?_eq_getElem?, ← hn, Nat.add_sub_cancel, hx]
   rfl
  rw [hend]
  rcases hs.2 with ⟨_, h1⟩ | ⟨g, cap, cur, hv, hb, hg, h1, h2, h3, h4⟩
  ·
   omega
  injection hv with e1 e2 e3
  subst e1 e3
  have hcell : ∀ j, j < 11 → w.cell? ⟨g, m * 11 + j, none⟩ = x.cells[j]? := fun j hj => by
   rw [jC hg, ← stCells_get hx j hj, ← h4]
   rw [← Array.getElem?_toList, List.getElem?_take_of_lt (by omega)]
  have k0 := hcell 0 (by omega)
  have k1 := hcell 1 (by omega)
  have k2 := hcell 2 (by omega)
  have k3 := hcell 3 (by omega)
  have k4 := hcell 4 (by omega)
  have k5 := hcell 5 (by omega)
  have k6 := hcell 6 (by omega)
  have k7 := hcell 7 (by omega)
  have k8 := hcell 8 (by omega)
  have k9 := hcell 9 (by omega)
  have k10 := hcell 10 (by omega)
  simp only [St.cells, List.getElem?_cons_zero, List.getElem?_cons_succ] at k0 k1 k2 k3 k4 k5 k6 k7 k8 k9 k10
  replace k0 : w.cell? ⟨g, m * 11, none⟩ = some (.int .i64 x.pc.no) := k0
  have hgl := (aL hg)
  have hcap : c ≤ 9223372036854775807 := by unfold maxLen at h2; omega
  have b1 : ((m : Int) + 1 == 0) = false := by rw [beq_eq_false_iff_ne]; omega
  have b2 : (0 : Int) ≤ (m : Int) := by omega
  have b3 : (m : Int) < (m : Int) + 1 := by omega
  have b4 : IntKind.i64.wrap ((m : Int) + 1 - 1) = (m : Int) := by rw [IntKind.wrap_i64]; omega
  have hgl1 : g < w.heap.size + 1 := by omega
  have b5 : wrap64 (m : Int) = (m : Int) := by unfold wrap64; omega
  clear hs hn h3 h4 hg hx hcell hend h1 e2
  unfold St.v
  go_enter Tryz.func65, Tryz.ntmps65
  go_wp2
  refine bodyPost_ret (results_cell_row rfl _ _ w.heap.size 131 _ (0, 0) _ (by kernel_rfl) (heap_alloc_new _ _) Tryz.underlying131 rfl (by kernel_rfl)) rfl ?_
  exact ⟨rfl, sbox1 _ _⟩
set_option maxHeartbeats 1600000 in
theorem stepVal_any {w : World} {x : St} (h : x.n.Ok w) {v : Vl} (hv : x.n.vs[x.i]? = some v) :
  Calls Tryz.prog 66 #[x.v] w fun e w' => e = .returned v.cell ∧ Below w.heap.size w w' := by
 obtain ⟨b, o, hq, hbl, c0, c1, c2⟩ := h.vl.at hv
 have hlt := (List.getElem?_eq_some_iff.1 hv).1
 have v1 := h.v1
 have v2 := h.v2
 have b1 : (x.i : Int) < (x.n.vs.length : Int) := by omega
 have b2 : (0 : Int) ≤ (x.i : Int) := by omega
 have q1 : b < w.heap.size + 1 := by omega
 have q2 : b < w.heap.size + 1 + 1 := by omega
 unfold St.v Vl.cell
 rw [hq]
 clear hq hv h
 generalize x.n.vs.length = vn at *
 generalize x.n.ks.length = kn at *
 generalize x.n.is.length = inn at *
 generalize x.pc.s.f.l.length = fn at *
 generalize x.pc.s.t.l.length = tn at *
 generalize v.l.length = vl at *
 generalize x.i = i at *
 go_enter Tryz.func66, Tryz.ntmps66
 go_wp2
 have hb2 := heap_alloc_new (w.alloc (.cells #[.int .i64 x.pc.no, .int .i64 x.pc.deep, .slice x.pc.s.f.q fn x.pc.s.f.c, .slice x.pc.s.t.q tn x.pc.s.t.c, .bool x.pc.s.e, .bool x.n.leaf, .slice x.n.kq kn x.n.kc, .slice (some ⟨b, o, none⟩) vn x.n.vc, .slice x.n.iq inn x.n.ic, .int .i64 (i : Int), .bool x.th] 131)) (.cells #[.slice v.q vl v.c, .int .i64 v.g, .int .i64 v.p] 108)
 rw [World.size_alloc] at hb2
 refine bodyPost_ret (results_cell_row rfl _ _ (w.heap.size + 1) 108 _ (0, 0) _ (by kernel_rfl) hb2 Tryz.underlying108 rfl (by kernel_rfl)) rfl ?_
 exact ⟨rfl, sbox2 _ _ _⟩
end Go.Proofs.YtbbgdbnjmonbgaaGreatDoor

set_option linter.unusedVariables false
set_option linter.unusedSimpArgs false
set_option maxRecDepth 100000
namespace Go.Proofs.YtbbgdbnjmonbgaaGreatDoor
open Go.RowKit
section
variable {w w' : World} {B P pd sm cb : Nat} {X : PG} {val : Kb} {fv lv : Value}
set_option maxHeartbeats 1600000 in
theorem rootZ_ok {n : Nd} {g : Nat} (hn : Nds w (some ⟨g, 0, none⟩) [n]) (hlf : n.leaf = true) (deep : Int) (hlt : n.ks.length ≤ 100000) :
  Calls Tryz.prog 161 #[.pointer (some ⟨cb, 0, none⟩), (rw1 n g).cell, .int .i64 deep] w fun e w' => e = .returned (.tuple #[n.cell, .int .i64 0]) ∧ Below w.heap.size w w' := by
 obtain ⟨W, hW⟩ : ∃ W, W = (w.alloc (.cells #[.slice (some ⟨g, 0, none⟩) 1 1, .slice none 0 0] 225)).alloc (.cells #[.bool false, .slice none 0 0, .slice none 0 0, .slice none 0 0] 106) := ⟨_, rfl⟩
 have hbw : Below w.heap.size w W := by rw [hW]; exact sbox2 _ _ _
 obtain ⟨b0, b1, _, hws⟩ := boxes w #[.slice (some ⟨g, 0, none⟩) 1 1, .slice none 0 0] #[.bool false, .slice none 0 0, .slice none 0 0, .slice none 0 0] 225 106
 rw [← hW] at b0 b1 hws
 have hd := hn.below hbw
 obtain ⟨b, o, hq, hc⟩ := hd (by simp)
 simp only [Option.some.injEq, Addr.mk.injEq, and_true] at hq
 obtain ⟨rfl, rfl⟩ := hq
 obtain ⟨k0, k1, k2, k3⟩ := hc 0 n rfl
 simp only [Nat.zero_mul, Nat.add_zero, Nat.zero_add] at k0 k1 k2 k3
 rw [hlf] at k0
 have x0 : W.cell? ⟨w.heap.size, 0, none⟩ = some (.slice (some ⟨g, 0, none⟩) 1 1) := (jC b0 0).trans rfl
 have x1 : W.cell? ⟨w.heap.size, 1, none⟩ = some (.slice none 0 0) := (jC b0 1).trans rfl
 have hcl : (rw1 n g).cell = .agg #[.slice (some ⟨g, 0, none⟩) 1 1, .slice none 0 0] := rfl
 have HBX := Hq b1
 have HBW := Hq hbw
 have HWS := Hq hws
 rw [hcl]
 clear hn hd hc b0 b1 hbw hws hcl
 go_enter Tryz.func161, Tryz.ntmps161
 rw [hW] at x0 x1 k0 k1 k2 k3
 go_wp2_with fail
 rw [← hW]
 replace hW := Hq hW
 obtain ⟨W2, hW2⟩ : ∃ W2, W2 = W.alloc (.cells #[.bool true, .slice n.kq n.ks.length n.kc, .slice n.vq n.vs.length n.vc, .slice n.iq n.is.length n.ic] 106) := ⟨_, rfl⟩
 rw [← hW2]
 have hb2 : Below W.heap.size W W2 := by rw [hW2]; exact sbox1 _ _
 have hn2 : W2.heap[W.heap.size]? = some (.cells #[.bool true, .slice n.kq n.ks.length n.kc, .slice n.vq n.vs.length n.vc, .slice n.iq n.is.length n.ic] 106 (0, 0)) := by rw [hW2]; exact heap_alloc_new _ _
 have hr2 : RBox W2 (w.heap.size + 1) := by
  unfold RBox
  rw [hb2.block _ (by have := HWS.out; omega)]
  exact HBX.out
 have HNW := Hq (show w.heap.size + 1 + 1 = W.heap.size from by have := HWS.out; omega)
 have n0 : W2.cell? ⟨w.heap.size + 1 + 1, 0, none⟩ = some (.bool true) := by rw [HNW.out]; exact (jC hn2 0).trans rfl
 have n1 : W2.cell? ⟨w.heap.size + 1 + 1, 1, none⟩ = some (.slice n.kq n.ks.length n.kc) := by rw [HNW.out]; exact (jC hn2 1).trans rfl
 have n2 : W2.cell? ⟨w.heap.size + 1 + 1, 2, none⟩ = some (.slice n.vq n.vs.length n.vc) := by rw [HNW.out]; exact (jC hn2 2).trans rfl
 have n3 : W2.cell? ⟨w.heap.size + 1 + 1, 3, none⟩ = some (.slice n.iq n.is.length n.ic) := by rw [HNW.out]; exact (jC hn2 3).trans rfl
 obtain ⟨⟨r0, r1, r2, r3⟩, ⟨v0, v1, v2, v3⟩, hrl⟩ := hr2.cells
 have HR2 := Hq hr2
 have HB2 := Hq (HBW.out.trans (hb2.mono HBW.out.size))
 clear hW2 hb2 hn2 hr2 k0 k1 k2 k3 x0 x1
 go_loopw [25] (fun _ wr => W2 = wr) (fun _ _ => 0)
 case atStart => rfl
 case round =>
  subst hrel
  go_wp2
  refine bodyPost_ret (results_cell_tmp rfl _ _ (w.heap.size + 1) 106 _ (0, 0) (by kernel_rfl) (ndSet4 HR2.out) Tryz.underlying106 (by kernel_rfl)) rfl ?_
  exact ⟨by unfold Nd.cell; rw [hlf]; rfl, below4 HB2.out (by omega) _ _ _ _⟩
set_option maxHeartbeats 1600000 in
theorem upZ_ok {n : Nd} (ho : n.Ok w) (hlf : n.leaf = true) (hv : n.vs.length = n.ks.length) (hc : n.s.count ≤ 100000) (hs : n.s.size ≤ 493) {q : Option Addr} {c : Nat} :
  Calls Tryz.prog 142 #[.pointer (some ⟨cb, 0, none⟩), .slice q 0 c, n.cell] w fun e w' => e = .returned (.tuple #[n.cell, .int .i64 0]) ∧ Below w.heap.size w w' := by
 obtain ⟨W, hW⟩ : ∃ W, W = (w.alloc (.cells #[.bool n.leaf, .slice n.kq n.ks.length n.kc, .slice n.vq n.vs.length n.vc, .slice n.iq n.is.length n.ic] 106)).alloc (.cells #[.bool false, .slice none 0 0, .slice none 0 0, .slice none 0 0] 106) := ⟨_, rfl⟩
 have hbw : Below w.heap.size w W := by rw [hW]; exact sbox2 _ _ _
 obtain ⟨b0, b1, _, hws⟩ := boxes w #[.bool n.leaf, .slice n.kq n.ks.length n.kc, .slice n.vq n.vs.length n.vc, .slice n.iq n.is.length n.ic] #[.bool false, .slice none 0 0, .slice none 0 0, .slice none 0 0] 106 106
 rw [← hW] at b0 b1 hws
 have HCUT := Hq (cut1_any (ho.below hbw) hc hs)
 have x0 : W.cell? ⟨w.heap.size, 0, none⟩ = some (.bool n.leaf) := (jC b0 0).trans rfl
 have x1 : W.cell? ⟨w.heap.size, 1, none⟩ = some (.slice n.kq n.ks.length n.kc) := (jC b0 1).trans rfl
 have x2 : W.cell? ⟨w.heap.size, 2, none⟩ = some (.slice n.vq n.vs.length n.vc) := (jC b0 2).trans rfl
 have x3 : W.cell? ⟨w.heap.size, 3, none⟩ = some (.slice n.iq n.is.length n.ic) := (jC b0 3).trans rfl
 have HBX := Hq b1
 have HBW := Hq hbw
 have HWS := Hq hws
 have HLF := Hq hlf
 have HKS : Hid (n.ks.length ≤ 100000) := Hq (by
  have : n.s.ks.length ≤ n.s.count := by unfold NdS.count; omega
  have e : n.s.ks.length = n.ks.length := by show (n.ks.map Kb.l).length = _; rw [List.length_map]
  omega)
 have HSZ : Hid (∀ g r, CutIs n g r → r = rw1 n g) := Hq fun g r h => by
  rcases h with ⟨_, h⟩ | ⟨h, _⟩
  ·
   exact h
  ·
   omega
 unfold Nd.cell at HCUT ⊢
 clear ho hv hc hs hbw b0 b1 hws hlf
 go_enter Tryz.func142, Tryz.ntmps142
 rw [hW] at x0 x1 x2 x3
 go_wp2_with fail
 rw [← hW]
 replace hW := Hq hW
 refine HCUT.out.mono ?_
 rintro e w1 ⟨g, r, rfl, hcut, hg, hnds, hb1⟩
 obtain rfl := HSZ.out g r hcut
 clear HCUT hcut x0 x1 x2 x3
 obtain ⟨W2, hW2⟩ : ∃ W2, W2 = w1.alloc (.cells #[.slice (some ⟨g, 0, none⟩) 1 1, .slice none 0 0] 225) := ⟨_, rfl⟩
 have hb2 : Below w1.heap.size w1 W2 := by rw [hW2]; exact sbox1 _ _
 have hn2 : W2.heap[w1.heap.size]? = some (.cells #[.slice (some ⟨g, 0, none⟩) 1 1, .slice none 0 0] 225 (0, 0)) := by rw [hW2]; exact heap_alloc_new _ _
 have y0 : W2.cell? ⟨w1.heap.size, 0, none⟩ = some (.slice (some ⟨g, 0, none⟩) 1 1) := (jC hn2 0).trans rfl
 have y1 : W2.cell? ⟨w1.heap.size, 1, none⟩ = some (.slice none 0 0) := (jC hn2 1).trans rfl
 have HRT := Hq (rootZ_ok (w := W2) (cb := cb) (n := n) (g := g) (hnds.below hb2) HLF.out 0 HKS.out)
 have HB2 : Hid (Below W.heap.size W W2) := Hq (hb1.trans (hb2.mono hb1.size))
 have hcl : (rw1 n g).cell = .agg #[.slice (some ⟨g, 0, none⟩) 1 1, .slice none 0 0] := rfl
 rw [hcl] at HRT ⊢
 clear hb1 hb2 hn2 hnds hcl
 go_wp2_with fail
 rw [← hW2]
 clear hW2
 go_loopw [9] (fun i wr => i = .int .i64 (-2) ∧ W2 = wr) (fun _ _ => 0)
 case atStart => exact ⟨rfl, rfl⟩
 case round =>
  obtain ⟨rfl, rfl⟩ := hrel
  go_wp2_with fail
  refine HRT.out.mono ?_
  rintro e w3 ⟨rfl, hb3⟩
  have hbx : RBox w3 (w.heap.size + 1) := by
   unfold RBox
   rw [hb3.block _ (by have := HB2.out.size; have := HWS.out; omega), HB2.out.block _ (by have := HWS.out; omega)]
   exact HBX.out
  obtain ⟨⟨r0, r1, r2, r3⟩, ⟨v0, v1, v2, v3⟩, hrl⟩ := hbx.cells
  have HR3 := Hq hbx
  have HB3 := Hq (HBW.out.trans ((HB2.out.trans (hb3.mono HB2.out.size)).mono HBW.out.size))
  clear hbx hb3 y0 y1 HRT
  unfold Nd.cell
  go_wp2
  refine bodyPost_ret (results_cell_tmp rfl _ _ (w.heap.size + 1) 106 _ (0, 0) (by kernel_rfl) (ndSet4 HR3.out) Tryz.underlying106 (by kernel_rfl)) rfl ?_
  exact ⟨rfl, below4 HB3.out (by omega) _ _ _ _⟩
end
end Go.Proofs.YtbbgdbnjmonbgaaGreatDoor

set_option linter.unusedVariables false
set_option linter.unusedSimpArgs false
set_option maxRecDepth 100000
namespace Go.Proofs.YtbbgdbnjmonbgaaGreatDoor
open Go.RowKit
def DropsOk (X : PG) : List Int → Prop
 | [] => True
 | k :: l => (X.L k = true → X.F.st k = 2) ∧ X.dropE k = 0 ∧ DropsOk (X.drop k) l
def PG.drops (X : PG) (l : List Int) : PG := l.foldl PG.drop X
theorem DropsOk.at {X : PG} {l : List Int} (h : DropsOk X l) {j : Nat} {k : Int} (hk : l[j]? = some k) : ((X.drops (l.take j)).L k = true → (X.drops (l.take j)).F.st k = 2) ∧ (X.drops (l.take j)).dropE k = 0 := by
 induction l generalizing X j with
 | nil => cases hk
 | cons x l ih =>
  cases j with
  | zero => cases hk; exact ⟨h.1, h.2.1⟩
  | succ j => exact ih h.2.2 hk
theorem PG.drops_snoc (X : PG) (l : List Int) (k : Int) : X.drops (l ++ [k]) = (X.drops l).drop k := by simp [PG.drops, List.foldl_append]
section
variable {w w' : World} {B P pd sm cb : Nat} {X : PG} {val : Kb} {fv lv : Value}
set_option maxHeartbeats 1600000 in
theorem drop_any (h : GrAt w B P pd X) (hcb : CBx w cb P sm val fv lv) {q : Option Addr} {n c : Nat} {l : List Int} (hq : ∀ w', Keeps ofGr w w' → Ks w' q l) (hn : n = l.length) (hmax : n ≤ 9223372036854775807) (hd : DropsOk X l) :
  Calls Tryz.prog 165 #[.pointer (some ⟨cb, 0, none⟩), .slice q n c] w fun e w' => e = .returned (.int .i64 0) ∧ GrStep w w' B P pd (X.drops l) := by
 have HQ := Hq hq
 have HN := Hq hn
 have HD := Hq hd
 have H0 : Hid (GrStep w w B P pd X) := Hq ⟨h, Below.refl _ _, Keeps.refl _ _⟩
 have HC : Hid (∀ w', Keeps ofGr w w' → w'.cell? ⟨cb, 0, none⟩ = some (.pointer (some ⟨P, 0, none⟩))) := Hq fun w' hk => jC (hk.stay hcb rfl) 0
 clear h hcb hq hn hd
 go_enter Tryz.func165, Tryz.ntmps165
 go_wp2
 go_loopw [10] (fun i wr => ∃ j : Nat, i = .int .i64 j ∧ j ≤ n ∧ GrStep w wr B P pd (X.drops (l.take j))) (fun i _ => n - (intOf i).toNat)
 case atStart => exact ⟨0, rfl, by omega, H0.out⟩
 case round =>
  obtain ⟨j, rfl, hj, hI⟩ := hrel
  have HI := Hq hI
  have c0 := HC.out wr hI.keeps
  clear hI
  by_cases hlt : j < n
  ·
   have hjl : j < l.length := by have := HN.out; omega
   obtain ⟨x, hx⟩ : ∃ x, l[j]? = some x := ⟨_, List.getElem?_eq_getElem hjl⟩
   obtain ⟨b, o, rfl, hc⟩ := (HQ.out wr HI.out.keeps).at hx
   have hdr := HD.out.at hx
   have HDR : Hid (Calls Tryz.prog 184 #[.pointer (some ⟨P, 0, none⟩), .int .i64 x] wr fun e w' => e = .returned (.int .i64 0) ∧ GrStep wr w' B P pd (X.drops (l.take (j + 1)))) := Hq (by
    obtain ⟨lm, fm, pl, um, wm, la, v, hg⟩ := HI.out.at_
    have h1 := grDrop_any hg hdr.1
    rw [hdr.2] at h1
    rw [List.take_add_one, hx, Option.toList_some, PG.drops_snoc]
    exact h1)
   have hj0 : (0 : Int) ≤ (j : Int) := by omega
   have hj1 : (j : Int) < (n : Int) := by omega
   clear hx hdr
   go_wp2_with fail
   refine HDR.out.mono ?_; rintro e w2 ⟨rfl, hs⟩
   have HS := Hq (GrStep.of HI.out.below HI.out.kp hs)
   clear hs hc c0
   go_wp2
   go_roundw
   case rel => exact ⟨j + 1, by go_num, by omega, HS.out⟩
   case measure => simp [intOf]; omega
  ·
   have hjn : j = n := by omega
   have HE : Hid (l.take j = l) := Hq (List.take_of_length_le (by have := HN.out; omega))
   subst hjn
   go_wp2
   go_ret
   have h := HI.out
   rw [HE.out] at h
   exact ⟨rfl, h⟩
end
end Go.Proofs.YtbbgdbnjmonbgaaGreatDoor

set_option linter.unusedVariables false
set_option maxRecDepth 100000
namespace Go.Proofs.YtbbgdbnjmonbgaaGreatDoor
open Go.RowKit
theorem countP_list {l m : List Int} (p : Int → Bool) (hl : l.Nodup) (hm : m.Nodup) (h : ∀ k, k ∈ m ↔ (k ∈ l ∧ p k = true)) : l.countP p = m.length := by
 rw [List.countP_eq_length_filter]
 refine List.Perm.length_eq ?_
 refine (List.perm_ext_iff_of_nodup (hl.filter _) hm).2 fun k => ?_
 rw [List.mem_filter, h]
theorem FL.Ok.used_len {F : FL} (h : F.Ok) {m : List Int} (hm : m.Nodup) (hu : ∀ k, k ∈ m ↔ F.used k = true) : F.nUsed = m.length :=
 countP_list _ F.pages_nodup hm fun k => by
  rw [hu, FL.mem_pages]
  exact ⟨fun hk => ⟨h.hu hk, hk⟩, fun hk => hk.2⟩
theorem FL.no_waits {F : FL} (h : ∀ k, F.waits k = none) : F.nWaits = 0 := by
 unfold FL.nWaits
 rw [List.countP_eq_zero]
 intro k _
 simp [h k]
theorem PG.comS_read (X : PG) (r n d : Nat) {k : Int} (hk : 2 ≤ k) : (X.comS r n d).read k = X.S.read k := by
 unfold PG.comS
 rw [SD.flush_read, SD.write_read, if_neg (by omega), SD.flush_read]
theorem PG.comS_left {X : PG} (h : X.S.left = -1) (r n d : Nat) : (X.comS r n d).left = -1 :=
 SD.tick_left (S := X.S.flush.write _ _) (SD.tick_left (S := X.S.flush) (SD.tick_left h))
theorem PG.comS_ops (X : PG) (r n d : Nat) : (X.comS r n d).ops = X.S.ops + 3 := by
 show X.S.ops + 1 + 1 + 1 = _
 omega
theorem PG.lay_read (X : PG) {k : Int} {pg : List UInt8} (hp : pg.length = 512) (j : Int) : (X.lay k pg).S.read j = if j = k then pg else X.S.read j := by
 show (X.S.write k pg).read j = _
 rw [SD.write_read, pad_same hp]
end Go.Proofs.YtbbgdbnjmonbgaaGreatDoor

set_option linter.unusedVariables false
set_option maxRecDepth 100000
namespace Go.Proofs.YtbbgdbnjmonbgaaGreatDoor
open Go.RowKit
end Go.Proofs.YtbbgdbnjmonbgaaGreatDoor

