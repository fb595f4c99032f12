/-
  free.
  free.
  free.
-/
import Derived.Test.YtbbgdbnjmonbgaaGreatDoorH00
import Derived.Test.YtbbgdbnjmonbgaaGreatDoorH04
import Derived.LoopTactic
import Derived.BigQuiet
set_option linter.unusedVariables false
set_option maxRecDepth 100000
namespace Go.Proofs.YtbbgdbnjmonbgaaGreatDoor
open Go.RowKit
theorem zero_unit (w : World) : (zeroValue 114).run Tryz.prog w = .ok (.agg #[]) w := by kernel_rfl
theorem zero_int (w : World) : (zeroValue 3).run Tryz.prog w = .ok (.int .i64 0) w := by kernel_rfl
section
variable {w : World} {ops : Array Oper} {rest : List Oper} {o : Oper} {a : Act} {Q : Exit → Act → World → Prop} {b : Nat} {f : Int → Option Value}
theorem fr_look (hg : o.guard = none) (m x : Operand) (hop : o.op = Op.lookup 87 m x true) (hm : a.eval m = .map (some b)) {u : Int → Bool} (h : MapSt w b fun k => if u k = true then some (.agg #[]) else none) {k : Int} (hx : a.eval x = .int .i64 k)
  (hK : wpList Tryz.prog ops Q rest (a.put o.dst (.tuple #[.agg #[], .bool (u k)])) w) : wpList Tryz.prog ops Q (o :: rest) a w := by
 refine map_look hg m x _ 3 114 true hop Tryz.underlying87 Tryz.underlying3 (zero_unit w) hm h.is hx ?_
 have e : (if true then Value.tuple #[((fun k => if u k = true then some (Value.agg #[]) else none) k).getD (.agg #[]), .bool ((fun k => if u k = true then some (Value.agg #[]) else none) k).isSome] else ((fun k => if u k = true then some (Value.agg #[]) else none) k).getD (.agg #[])) = .tuple #[.agg #[], .bool (u k)] := by
  cases hu : u k <;> simp [hu]
 rw [e]
 exact hK
theorem fr_look2 (hg : o.guard = none) (m x : Operand) (hop : o.op = Op.lookup 147 m x true) (hm : a.eval m = .map (some b)) {g : Int → Option Int} (h : MapSt w b fun k => (g k).map (Value.int .i64)) {k : Int} (hx : a.eval x = .int .i64 k)
  (hK : wpList Tryz.prog ops Q rest (a.put o.dst (.tuple #[.int .i64 ((g k).getD 0), .bool (g k).isSome])) w) : wpList Tryz.prog ops Q (o :: rest) a w := by
 refine map_look hg m x _ 3 3 true hop Tryz.underlying147 Tryz.underlying3 (zero_int w) hm h.is hx ?_
 have e : (if true then Value.tuple #[((fun k => (g k).map (Value.int .i64)) k).getD (.int .i64 0), .bool ((fun k => (g k).map (Value.int .i64)) k).isSome] else ((fun k => (g k).map (Value.int .i64)) k).getD (.int .i64 0)) = .tuple #[.int .i64 ((g k).getD 0), .bool (g k).isSome] := by
  cases hu : g k <;> simp [hu]
 rw [e]
 exact hK
end
section
variable {w : World} {p um wm : Nat} {F : FL}
theorem FrIs.c0 (h : FrIs w p um wm F) : w.cell? ⟨p, 0, none⟩ = some (.int .i64 F.lo) := (jC h.blk 0).trans rfl
theorem FrIs.c1 (h : FrIs w p um wm F) : w.cell? ⟨p, 1, none⟩ = some (.int .i64 F.hi) := (jC h.blk 1).trans rfl
theorem FrIs.c2 (h : FrIs w p um wm F) : w.cell? ⟨p, 2, none⟩ = some (.map (some um)) := (jC h.blk 2).trans rfl
theorem FrIs.c3 (h : FrIs w p um wm F) : w.cell? ⟨p, 3, none⟩ = some (.map (some wm)) := (jC h.blk 3).trans rfl
set_option maxHeartbeats 400000 in
theorem frHas_any (h : FrIs w p um wm F) (k : Int) :
  Calls Tryz.prog 90 #[.pointer (some ⟨p, 0, none⟩), .int .i64 k] w fun e w' => e = .returned (.bool (F.has k)) ∧ w = w' := by
 have c0 := h.c0
 have c1 := h.c1
 unfold FL.has
 clear h
 generalize F.lo = lo at *
 generalize F.hi = hi at *
 by_cases h0 : lo ≤ k
 ·
  have h1 : decide (lo ≤ k) = true := decide_eq_true h0
  go_enter Tryz.func90, Tryz.ntmps90
  go_wp2
  all_goals (go_ret; exact ⟨by simp_all, rfl⟩)
 ·
  have h1 : decide (lo ≤ k) = false := decide_eq_false h0
  go_enter Tryz.func90, Tryz.ntmps90
  go_wp2
  all_goals (go_ret; exact ⟨by simp_all, rfl⟩)
set_option maxHeartbeats 800000 in
theorem frState_any (h : FrIs w p um wm F) (k : Int) :
  Calls Tryz.prog 91 #[.pointer (some ⟨p, 0, none⟩), .int .i64 k] w fun e w' => e = .returned (.int .i64 (F.st k)) ∧ Below w.heap.size w w' := by
 have HM := Hq (frMade_yes h.c2)
 have HH := frHas_any h k
 have c2 := h.c2
 have c3 := h.c3
 have HU := Hq h.mu
 have c3' : (w.alloc (.cells #[] 114)).cell? ⟨p, 3, none⟩ = some (.map (some wm)) := by
  rw [(sbox1 w (.cells #[] 114)).cell (p := ⟨p, 3, none⟩) (World.block_lt_of_cell? _ _ c3)]
  exact c3
 have HW : Hid (MapSt (w.alloc (.cells #[] 114)) wm fun k => (F.waits k).map (Value.int .i64)) := Hq (h.mw.block ((sbox1 w _).block _ h.mw.lt))
 have HB : Hid (Below w.heap.size w (w.alloc (.cells #[] 114))) := Hq (sbox1 w _)
 clear h
 cases hk : F.has k
 ·
  rw [hk] at HH
  replace HH := Hq HH
  have hs : F.st k = 0 := by simp [FL.st, hk]
  rw [hs]
  clear hs hk
  go_enter Tryz.func91, Tryz.ntmps91
  go_wp2_with fail
  refine HM.out.mono ?_; rintro e w1 ⟨rfl, rfl⟩
  go_wp2_with fail
  refine HH.out.mono ?_; rintro e w1 ⟨rfl, rfl⟩
  go_wp2
  go_ret
  exact ⟨rfl, Below.refl _ _⟩
 ·
  rw [hk] at HH
  replace HH := Hq HH
  cases hu : F.used k
  ·
   obtain ⟨s, hs2⟩ : ∃ s, s = (F.waits k).isSome := ⟨_, rfl⟩
   have hs : F.st k = if s then 3 else 1 := by simp [FL.st, hk, hu, hs2]
   rw [hs]
   clear hs hk
   have HS := Hq hs2
   clear hs2
   have HN := Hq hu
   clear hu
   cases s
   all_goals
    go_enter Tryz.func91, Tryz.ntmps91
    go_wp2_with fail
    refine HM.out.mono ?_; rintro e w1 ⟨rfl, rfl⟩
    go_wp2_with fail
    refine HH.out.mono ?_; rintro e w1 ⟨rfl, rfl⟩
    go_wp2_with (first | (at_lookup; refine fr_look rfl _ _ rfl rfl HU.out rfl ?_; rw [HN.out]) | (at_lookup; refine fr_look2 rfl _ _ rfl rfl HW.out rfl ?_; rw [← HS.out]))
    go_ret
    exact ⟨rfl, HB.out⟩
  ·
   have hs : F.st k = 2 := by simp [FL.st, hk, hu]
   rw [hs]
   clear hs hk
   have HN := Hq hu
   clear hu
   go_enter Tryz.func91, Tryz.ntmps91
   go_wp2_with fail
   refine HM.out.mono ?_; rintro e w1 ⟨rfl, rfl⟩
   go_wp2_with fail
   refine HH.out.mono ?_; rintro e w1 ⟨rfl, rfl⟩
   go_wp2_with (at_lookup; refine fr_look rfl _ _ rfl rfl HU.out rfl ?_; rw [HN.out])
   go_ret
   exact ⟨rfl, HB.out⟩
end
end Go.Proofs.YtbbgdbnjmonbgaaGreatDoor

set_option linter.unusedVariables false
set_option maxRecDepth 100000
namespace Go.Proofs.YtbbgdbnjmonbgaaGreatDoor
open Go.RowKit
section
variable {w : World} {p um wm : Nat} {F : FL}
theorem FrIs.taken {w' : World} (h : FrIs w p um wm F) {k : Int} (ok : (F.take k).Ok) (hm : MapSt w' um fun x => if x = k then some (.agg #[]) else if F.used x = true then some (.agg #[]) else none) (hg : w.grownBy w' (some um)) : FrIs w' p um wm (F.take k) ∧ Only [um, wm] w w' := by
 have ho := Only.of_grown hg
 obtain ⟨q1, q2⟩ := h.pne
 refine ⟨⟨by rw [ho.block (aL h.blk) (by simpa using q1)]; exact h.blk, ?_, h.mw.block (ho.block h.mw.lt (by simpa using Ne.symm h.ne)), h.ne, ok⟩, ho.mono (by simp)⟩
 have e : (fun x => if x = k then some (Value.agg #[]) else if F.used x = true then some (.agg #[]) else none) = fun x => if (F.take k).used x = true then some (.agg #[]) else none := by
  funext x
  by_cases hx : x = k <;> simp [FL.take, hx]
 rw [← e]
 exact hm
theorem FrIs.dropped {w' : World} (h : FrIs w p um wm F) {k : Int} (hm : MapSt w' um fun x => if x = k then none else if F.used x = true then some (.agg #[]) else none) (hg : w.grownBy w' (some um)) : FrIs w' p um wm (F.drop k) ∧ Only [um, wm] w w' := by
 have ho := Only.of_grown hg
 obtain ⟨q1, q2⟩ := h.pne
 refine ⟨⟨by rw [ho.block (aL h.blk) (by simpa using q1)]; exact h.blk, ?_, h.mw.block (ho.block h.mw.lt (by simpa using Ne.symm h.ne)), h.ne, h.ok.drop k⟩, ho.mono (by simp)⟩
 have e : (fun x => if x = k then none else if F.used x = true then some (Value.agg #[]) else none) = fun x => if (F.drop k).used x = true then some (.agg #[]) else none := by
  funext x
  by_cases hx : x = k <;> simp [FL.drop, hx]
 rw [← e]
 exact hm
theorem FrIs.waited {w' : World} {k g : Int} (h : FrIs w p um wm (F.drop k)) (hk : F.has k = true) (ok : F.Ok) (hm : MapSt w' wm fun x => if x = k then some (.int .i64 g) else (F.waits x).map (Value.int .i64)) (hg : w.grownBy w' (some wm)) : FrIs w' p um wm (F.late k g) ∧ Only [um, wm] w w' := by
 have ho := Only.of_grown hg
 obtain ⟨q1, q2⟩ := h.pne
 refine ⟨⟨by rw [ho.block (aL h.blk) (by simpa using q2)]; exact h.blk, h.mu.block (ho.block h.mu.lt (by simpa using h.ne)), ?_, h.ne, ok.late g hk⟩, ho.mono (by simp)⟩
 have e : (fun x => if x = k then some (Value.int .i64 g) else (F.waits x).map (Value.int .i64)) = fun x => ((F.late k g).waits x).map (Value.int .i64) := by
  funext x
  by_cases hx : x = k <;> simp [FL.late, hx]
 rw [← e]
 exact hm
def FrStep (w : World) (p um wm : Nat) (F : FL) (v : Value) (e : Ending) (w' : World) : Prop := e = .returned v ∧ FrIs w' p um wm F ∧ Only [um, wm] w w'
set_option maxHeartbeats 800000 in
theorem frDrop_no (h : FrIs w p um wm F) {k : Int} (hs : F.st k ≠ 2) :
  Calls Tryz.prog 97 #[.pointer (some ⟨p, 0, none⟩), .int .i64 k] w (FrStep w p um wm F (.int .i64 13)) := by
 have HS := Hq (frState_any h k)
 have H := Hq h
 have d : (F.st k != 2) = true := by simpa using hs
 clear h hs
 generalize F.st k = s at *
 go_enter Tryz.func97, Tryz.ntmps97
 go_wp2_with fail
 refine HS.out.mono ?_; rintro e w1 ⟨rfl, hb⟩
 have HB := Hq hb
 clear hb
 go_wp2
 go_ret
 exact ⟨rfl, H.out.below HB.out, Only.of_below HB.out⟩
set_option maxHeartbeats 800000 in
theorem frDrop_yes (h : FrIs w p um wm F) {k : Int} (hs : F.st k = 2) :
  Calls Tryz.prog 97 #[.pointer (some ⟨p, 0, none⟩), .int .i64 k] w (FrStep w p um wm (F.drop k) (.int .i64 0)) := by
 have HS := frState_any h k
 rw [hs] at HS
 replace HS := Hq HS
 have H := Hq h
 clear h hs
 go_enter Tryz.func97, Tryz.ntmps97
 go_wp2_with fail
 refine HS.out.mono ?_; rintro e w1 ⟨rfl, hb⟩
 have H1 := Hq (H.out.below hb)
 have HB := Hq hb
 have c2 := (H.out.below hb).c2
 clear hb
 go_wp2_with (at_delete; refine st_drop rfl _ _ _ 3 114 3 rfl Tryz.underlying87 Tryz.underlying3 rfl H1.out.mu rfl ?_; intro w2 hm hg; have HM := Hq (H1.out.dropped hm hg); clear hm hg)
 go_ret
 exact ⟨rfl, HM.out.1, (Only.of_below HB.out).trans HM.out.2⟩
set_option maxHeartbeats 800000 in
theorem frGive_any (h : FrIs w p um wm F) {k : Int} (hk : F.has k = true) :
  Calls Tryz.prog 61 #[.pointer (some ⟨p, 0, none⟩), .int .i64 k] w (FrStep w p um wm (if F.st k = 2 then F.drop k else F) (if F.st k = 2 then .int .i64 0 else .int .i64 13)) := by
 have HM := Hq (frMade_yes h.c2)
 have HH := frHas_any h k
 rw [hk] at HH
 replace HH := Hq HH
 by_cases hs : F.st k = 2
 ·
  have HD := Hq (frDrop_yes h hs)
  simp only [hs, if_true]
  clear h hk hs
  go_enter Tryz.func61, Tryz.ntmps61
  go_wp2_with fail
  refine HM.out.mono ?_; rintro e w1 ⟨rfl, rfl⟩
  go_wp2_with fail
  refine HH.out.mono ?_; rintro e w1 ⟨rfl, rfl⟩
  go_wp2_with fail
  refine HD.out.mono ?_; rintro e w1 ⟨rfl, hd⟩
  have HD1 := Hq hd
  clear hd
  go_wp2
  go_ret
  exact ⟨rfl, HD1.out⟩
 ·
  have HD := Hq (frDrop_no h hs)
  simp only [hs, if_false]
  clear h hk hs
  go_enter Tryz.func61, Tryz.ntmps61
  go_wp2_with fail
  refine HM.out.mono ?_; rintro e w1 ⟨rfl, rfl⟩
  go_wp2_with fail
  refine HH.out.mono ?_; rintro e w1 ⟨rfl, rfl⟩
  go_wp2_with fail
  refine HD.out.mono ?_; rintro e w1 ⟨rfl, hd⟩
  have HD1 := Hq hd
  clear hd
  go_wp2
  go_ret
  exact ⟨rfl, HD1.out⟩
set_option maxHeartbeats 800000 in
theorem frLater_arg (h : FrIs w p um wm F) {k g : Int} (hs : F.has k = false ∨ g < 0) :
  Calls Tryz.prog 199 #[.pointer (some ⟨p, 0, none⟩), .int .i64 k, .int .i64 g] w (FrStep w p um wm F (.int .i64 2)) := by
 have HM := Hq (frMade_yes h.c2)
 have HH := frHas_any h k
 have H := Hq h
 clear h
 cases hk : F.has k
 ·
  rw [hk] at HH
  replace HH := Hq HH
  clear hs hk
  go_enter Tryz.func199, Tryz.ntmps199
  go_wp2_with fail
  refine HM.out.mono ?_; rintro e w1 ⟨rfl, rfl⟩
  go_wp2_with fail
  refine HH.out.mono ?_; rintro e w1 ⟨rfl, rfl⟩
  go_wp2
  go_ret
  exact ⟨rfl, H.out, Only.refl _ _⟩
 ·
  have hg : decide (g < 0) = true := decide_eq_true (by rcases hs with hs | hs; rw [hk] at hs; cases hs; exact hs)
  rw [hk] at HH
  replace HH := Hq HH
  clear hs hk
  go_enter Tryz.func199, Tryz.ntmps199
  go_wp2_with fail
  refine HM.out.mono ?_; rintro e w1 ⟨rfl, rfl⟩
  go_wp2_with fail
  refine HH.out.mono ?_; rintro e w1 ⟨rfl, rfl⟩
  go_wp2
  go_ret
  exact ⟨rfl, H.out, Only.refl _ _⟩
set_option maxHeartbeats 800000 in
theorem frLater_any (h : FrIs w p um wm F) {k g : Int} (hk : F.has k = true) (hg : 0 ≤ g) :
  Calls Tryz.prog 199 #[.pointer (some ⟨p, 0, none⟩), .int .i64 k, .int .i64 g] w (FrStep w p um wm (if F.st k = 2 then F.late k g else F) (if F.st k = 2 then .int .i64 0 else .int .i64 13)) := by
 have HM := Hq (frMade_yes h.c2)
 have HH := frHas_any h k
 rw [hk] at HH
 replace HH := Hq HH
 have hd : decide (g < 0) = false := decide_eq_false (by omega)
 have HK := Hq hk
 by_cases hs : F.st k = 2
 ·
  have HD := Hq (frDrop_yes h hs)
  have HO := Hq h.ok
  simp only [hs, if_true]
  clear h hk hs
  go_enter Tryz.func199, Tryz.ntmps199
  go_wp2_with fail
  refine HM.out.mono ?_; rintro e w1 ⟨rfl, rfl⟩
  go_wp2_with fail
  refine HH.out.mono ?_; rintro e w1 ⟨rfl, rfl⟩
  go_wp2_with fail
  refine HD.out.mono ?_; rintro e w1 ⟨rfl, h1, ho⟩
  have H1 := Hq h1
  have HB := Hq ho
  have c3 := h1.c3
  clear h1 ho
  go_wp2_with (at_mapUpdate; refine st_store rfl _ _ _ _ 3 3 rfl Tryz.underlying147 Tryz.underlying3 rfl H1.out.mw rfl rfl ?_; intro w2 hm hg; have HG := Hq (FrIs.waited H1.out HK.out HO.out hm hg); clear hm hg)
  go_ret
  exact ⟨rfl, HG.out.1, HB.out.trans HG.out.2⟩
 ·
  have HD := Hq (frDrop_no h hs)
  simp only [hs, if_false]
  clear h hk hs
  go_enter Tryz.func199, Tryz.ntmps199
  go_wp2_with fail
  refine HM.out.mono ?_; rintro e w1 ⟨rfl, rfl⟩
  go_wp2_with fail
  refine HH.out.mono ?_; rintro e w1 ⟨rfl, rfl⟩
  go_wp2_with fail
  refine HD.out.mono ?_; rintro e w1 ⟨rfl, hd⟩
  have HD1 := Hq hd
  clear hd
  go_wp2
  go_ret
  exact ⟨rfl, HD1.out⟩
end
def FrNewPost (w : World) (lo hi : Int) (e : Ending) (w' : World) : Prop :=
 ∃ p um wm, e = .returned (.tuple #[.pointer (some ⟨p, 0, none⟩), .int .i64 0]) ∧ FrIs w' p um wm (FL.new lo hi) ∧ Below w.heap.size w w' ∧ w.heap.size ≤ p ∧ w.heap.size ≤ um ∧ w.heap.size ≤ wm
set_option maxHeartbeats 800000 in
theorem frNew_yes {w : World} {lo hi : Int} (h0 : 0 ≤ lo) (h1 : lo ≤ hi) (h2 : hi ≤ 4096) :
  Calls Tryz.prog 42 #[.int .i64 lo, .int .i64 hi] w (FrNewPost w lo hi) := by
 have hfin : ∀ w', w' = (((w.alloc (.map #[] 0)).alloc (.map #[] 0)).alloc (.cells #[.int .i64 lo, .int .i64 hi, .map (some w.heap.size), .map (some (w.heap.size + 1))] 149)) → FrIs w' (w.heap.size + 2) w.heap.size (w.heap.size + 1) (FL.new lo hi) ∧ Below w.heap.size w w' := by
  rintro w' rfl
  obtain ⟨b0, b1, b2, _⟩ := sbox3_heap w (.map #[] 0) (.map #[] 0) (.cells #[.int .i64 lo, .int .i64 hi, .map (some w.heap.size), .map (some (w.heap.size + 1))] 149)
  exact ⟨⟨b2, MapSt.new b0, MapSt.new b1, by omega, FL.Ok.new h0 h1 h2⟩, sbox3 _ _ _ _⟩
 have HF := Hq hfin
 have d0 : decide (lo < 0) = false := decide_eq_false (by omega)
 have d1 : decide (hi < lo) = false := decide_eq_false (by omega)
 have d2 : decide (4096 < hi) = false := decide_eq_false (by omega)
 clear hfin h0 h1 h2
 have hmm := @run_makeMap Tryz.prog
 go_enter Tryz.func42, Tryz.ntmps42
 go_wp2
 go_ret2
 exact ⟨_, _, _, rfl, (HF.out _ rfl).1, (HF.out _ rfl).2, by omega, Nat.le_refl _, by omega⟩
end Go.Proofs.YtbbgdbnjmonbgaaGreatDoor

set_option linter.unusedVariables false
set_option maxRecDepth 100000
namespace Go.Proofs.YtbbgdbnjmonbgaaGreatDoor
open Go.RowKit
section
variable {w : World} {p um wm : Nat} {F : FL}
def FL.seek (F : FL) : Nat → Int → Option Int
 | 0, _ => none
 | n + 1, j => if F.st j = 1 then some j else F.seek n (j + 1)
def FL.least (F : FL) : Option Int := F.seek (F.hi - F.lo).toNat F.lo
theorem FL.seek_some {F : FL} : ∀ {n : Nat} {j k : Int}, F.seek n j = some k → F.st k = 1 ∧ j ≤ k ∧ k < j + n ∧ ∀ i, j ≤ i → i < k → F.st i ≠ 1
 | 0, j, k, h => by cases h
 | n + 1, j, k, h => by
  unfold FL.seek at h
  by_cases hj : F.st j = 1
  ·
   rw [if_pos hj] at h
   cases h
   exact ⟨hj, by omega, by omega, fun i h1 h2 => by omega⟩
  ·
   rw [if_neg hj] at h
   obtain ⟨h1, h2, h3, h4⟩ := FL.seek_some h
   refine ⟨h1, by omega, by omega, fun i hi hk => ?_⟩
   by_cases e : i = j
   ·
    rw [e]; exact hj
   ·
    exact h4 i (by omega) hk
theorem FL.seek_none {F : FL} : ∀ {n : Nat} {j : Int}, F.seek n j = none → ∀ i, j ≤ i → i < j + n → F.st i ≠ 1
 | 0, j, h, i, h1, h2 => by omega
 | n + 1, j, h, i, h1, h2 => by
  unfold FL.seek at h
  by_cases hj : F.st j = 1
  ·
   rw [if_pos hj] at h
   cases h
  ·
   rw [if_neg hj] at h
   by_cases e : i = j
   ·
    rw [e]; exact hj
   ·
    exact FL.seek_none h i (by omega) (by omega)
theorem FL.least_some {F : FL} {k : Int} (h : F.least = some k) : F.st k = 1 ∧ ∀ i, F.lo ≤ i → i < k → F.st i ≠ 1 := by
 obtain ⟨h1, h2, h3, h4⟩ := FL.seek_some h
 exact ⟨h1, h4⟩
theorem FL.least_none {F : FL} (h : F.least = none) (i : Int) : F.st i ≠ 1 := by
 by_cases hi : F.has i = true
 ·
  have h2 := FL.has_iff.1 hi
  exact FL.seek_none h i h2.1 (by omega)
 ·
  unfold FL.st
  rw [if_neg hi]
  decide
set_option maxHeartbeats 800000 in
theorem frIsFree (h : FrIs w p um wm F) {g : Nat} (hg : w.cell? ⟨g, 0, none⟩ = some (.pointer (some ⟨p, 0, none⟩))) (k : Int) :
  Calls Tryz.prog 210 #[.int .i64 k, .pointer (some ⟨g, 0, none⟩)] w fun e w' => e = .returned (.bool (F.st k == 1)) ∧ Below w.heap.size w w' := by
 have HS := Hq (frState_any h k)
 clear h
 generalize F.st k = s at *
 go_enter Tryz.func210, Tryz.ntmps210
 go_wp2_with fail
 refine HS.out.mono ?_; rintro e w1 ⟨rfl, hb⟩
 have HB := Hq hb
 clear hb
 go_wp2
 go_ret
 exact ⟨rfl, HB.out⟩
def ofOpt (k : Option Int) : Value := match k with | some k => .tuple #[.int .i64 k, .bool true] | none => .tuple #[.int .i64 0, .bool false]
def LeastPost (w : World) (k : Option Int) (e : Ending) (w' : World) : Prop := e = .returned (ofOpt k) ∧ Below w.heap.size w w'
set_option maxHeartbeats 1600000 in
theorem frLeast_any (h : FrIs w p um wm F) {g : Nat} (hg : w.cell? ⟨g, 0, none⟩ = some (.pointer (some ⟨p, 0, none⟩))) :
  Calls Tryz.prog 209 #[.pointer (some ⟨p, 0, none⟩), .func (.func 210) #[] #[.pointer (some ⟨g, 0, none⟩)]] w (LeastPost w F.least) := by
 have hF : ∀ w', Below w.heap.size w w' → FrIs w' p um wm F ∧ w'.cell? ⟨g, 0, none⟩ = some (.pointer (some ⟨p, 0, none⟩)) := fun w' hb =>
  ⟨h.below hb, by rw [hb.cell (p := ⟨g, 0, none⟩) (World.block_lt_of_cell? _ _ hg)]; exact hg⟩
 have eg : ∀ args (w : World), (callFunc 210 args).run Tryz.prog w = .ok (.enter 210 args) w := fun _ _ => rfl
 have HF := Hq hF
 have c0 := h.c0
 obtain ⟨lo, hlo⟩ : ∃ lo, lo = F.lo := ⟨_, rfl⟩
 obtain ⟨hi, hhi⟩ : ∃ hi, hi = F.hi := ⟨_, rfl⟩
 have hr := h.ok.h1
 have h0 := h.ok.h0
 have h2 := h.ok.h2
 have hL : F.least = F.seek (hi - lo).toNat lo := by rw [hlo, hhi]; rfl
 rw [← hlo] at c0 hr h0
 rw [← hhi] at hr h2
 rw [hL]
 have HHI := Hq hhi
 clear hL hlo hhi h hg hF
 go_enter Tryz.func209, Tryz.ntmps209
 go_wp2
 go_loopw [6] (fun i wr => ∃ j : Int, i = .int .i64 j ∧ lo ≤ j ∧ j ≤ hi ∧ F.seek (hi - j).toNat j = F.seek (hi - lo).toNat lo ∧ Below w.heap.size w wr) (fun i _ => (hi - intOf i).toNat)
 case atStart => exact ⟨lo, rfl, by omega, hr, rfl, Below.refl _ _⟩
 case round =>
  obtain ⟨j, rfl, hj1, hj2, hs, hb⟩ := hrel
  obtain ⟨h1, hg1⟩ := HF.out _ hb
  have c1 := h1.c1
  rw [← HHI.out] at c1
  have HB := Hq hb
  have HS := Hq hs
  have HC := Hq (frIsFree h1 hg1 j)
  clear hb hs h1 hg1
  by_cases he : j = hi
  ·
   subst he
   have d : decide (j < j) = false := decide_eq_false (by omega)
   have HN : Hid (F.seek (j - lo).toNat lo = none) := Hq (by rw [← HS.out]; simp [FL.seek])
   go_wp2
   go_ret2
   exact ⟨by rw [HN.out]; rfl, HB.out⟩
  ·
   have d : decide (j < hi) = true := decide_eq_true (by omega)
   by_cases hs1 : F.st j = 1
   ·
    have HN : Hid (F.seek (hi - lo).toNat lo = some j) := Hq (by
     rw [← HS.out]
     obtain ⟨n, hn⟩ : ∃ n, (hi - j).toNat = n + 1 := ⟨(hi - j).toNat - 1, by omega⟩
     rw [hn]
     simp [FL.seek, hs1])
    rw [hs1] at HC
    clear hs1
    go_wp2_with fail
    refine HC.out.mono ?_; rintro e w1 ⟨rfl, hb⟩
    have HB1 := Hq (HB.out.trans (hb.mono HB.out.size))
    clear hb
    go_wp2
    go_ret2
    exact ⟨by rw [HN.out]; rfl, HB1.out⟩
   ·
    have hs2 : (F.st j == 1) = false := by simpa using hs1
    rw [hs2] at HC
    have HN : Hid (F.seek (hi - (j + 1)).toNat (j + 1) = F.seek (hi - lo).toNat lo) := Hq (by
     rw [← HS.out]
     have hn : (hi - j).toNat = (hi - (j + 1)).toNat + 1 := by omega
     rw [hn]
     show _ = (if F.st j = 1 then some j else F.seek (hi - (j + 1)).toNat (j + 1))
     rw [if_neg hs1])
    clear hs1 hs2
    go_wp2_with fail
    refine HC.out.mono ?_; rintro e w1 ⟨rfl, hb⟩
    have HB1 := Hq (HB.out.trans (hb.mono HB.out.size))
    clear hb
    go_wp2
    go_roundw
    case rel => exact ⟨j + 1, by go_num, by omega, by omega, HN.out, HB1.out⟩
    case measure => simp [intOf]; omega
def FL.alloc (F : FL) : FL := match F.least with | some k => F.take k | none => F
def FL.allocV (F : FL) : Value := match F.least with | some k => .tuple #[.int .i64 k, .int .i64 0] | none => .tuple #[.int .i64 0, .int .i64 15]
set_option maxHeartbeats 1600000 in
theorem frAlloc_any (h : FrIs w p um wm F) :
  Calls Tryz.prog 205 #[.pointer (some ⟨p, 0, none⟩)] w (FrStep w p um wm F.alloc F.allocV) := by
 have hmf : ∀ (fn : Fn) (first cap : Array Value) (w : World), (Instr.makeFunc fn first cap).run Tryz.prog w = .ok (.func fn first cap) w := fun _ _ _ _ => rfl
 obtain ⟨W, hW⟩ : ∃ W, W = w.alloc (.cells #[.pointer (some ⟨p, 0, none⟩)] 84) := ⟨_, rfl⟩
 have hbW : Below w.heap.size w W := by rw [hW]; exact sbox1 _ _
 have hcW : W.cell? ⟨w.heap.size, 0, none⟩ = some (.pointer (some ⟨p, 0, none⟩)) := by
  have hn := heap_alloc_new w (.cells #[.pointer (some ⟨p, 0, none⟩)] 84)
  rw [← hW] at hn
  rw [jC hn]
  rfl
 have h1 := h.below hbW
 have HM := Hq (frMade_yes h1.c2)
 have HL := Hq (frLeast_any h1 hcW)
 have HC : Hid (∀ w', Below W.heap.size W w' → w'.cell? ⟨w.heap.size, 0, none⟩ = some (.pointer (some ⟨p, 0, none⟩)) ∧ FrIs w' p um wm F) := Hq fun w' hb =>
  ⟨by rw [hb.cell (p := ⟨w.heap.size, 0, none⟩) (World.block_lt_of_cell? _ _ hcW)]; exact hcW, h1.below hb⟩
 have HBW := Hq hbW
 unfold FL.alloc FL.allocV
 have HO : Hid (∀ k, F.least = some k → (F.take k).Ok) := Hq fun k hk => h.ok.take (FL.least_some hk).1
 clear h h1 hbW
 cases hl : F.least with
 | none =>
  rw [hl] at HL
  clear hl
  go_enter Tryz.func205, Tryz.ntmps205
  go_wp2_with fail
  rw [← hW]
  clear hW
  refine HM.out.mono ?_; rintro e w1 ⟨rfl, rfl⟩
  go_wp2_with fail
  refine HL.out.mono ?_; rintro e w1 ⟨rfl, hb⟩
  have HB1 := Hq hb
  clear hb
  unfold ofOpt
  go_wp2
  go_ret2
  exact ⟨rfl, (HC.out _ HB1.out).2, (Only.of_below HBW.out).trans (Only.of_below HB1.out)⟩
 | some k =>
  rw [hl] at HL
  have HOk := Hq (HO.out k hl)
  clear hl
  go_enter Tryz.func205, Tryz.ntmps205
  go_wp2_with fail
  rw [← hW]
  clear hW
  refine HM.out.mono ?_; rintro e w1 ⟨rfl, rfl⟩
  go_wp2_with fail
  refine HL.out.mono ?_; rintro e w1 ⟨rfl, hb⟩
  have HB1 := Hq hb
  obtain ⟨hc1, hf1⟩ := HC.out _ hb
  have H1 := Hq hf1
  have c2 := hf1.c2
  clear hb hf1
  unfold ofOpt
  go_wp2_with (at_mapUpdate; refine st_store rfl _ _ _ _ 3 114 rfl Tryz.underlying87 Tryz.underlying3 rfl H1.out.mu rfl rfl ?_; intro w2 hm hg; have HG := Hq (H1.out.taken HOk.out hm hg); clear hm hg)
  go_ret2
  exact ⟨rfl, HG.out.1, ((Only.of_below HBW.out).trans (Only.of_below HB1.out)).trans HG.out.2⟩
set_option maxHeartbeats 800000 in
theorem frUsed_any (h : FrIs w p um wm F) :
  Calls Tryz.prog 69 #[.pointer (some ⟨p, 0, none⟩)] w fun e w' => e = .returned (.int .i64 F.nUsed) ∧ w = w' := by
 have HM := Hq (frMade_yes h.c2)
 have c2 := h.c2
 have HU := Hq h.mu
 have HK := Hq (FL.keys_used h.ok)
 have e : F.nUsed = (F.pages.filter F.used).length := by unfold FL.nUsed; rw [List.countP_eq_length_filter]
 rw [e]
 clear h e
 go_enter Tryz.func69, Tryz.ntmps69
 go_wp2_with fail
 refine HM.out.mono ?_; rintro e w1 ⟨rfl, rfl⟩
 go_wp2_with (refine st_len rfl _ _ 3 114 rfl Tryz.underlying87 rfl HU.out.is HK.out ?_)
 go_ret
 exact ⟨rfl, rfl⟩
set_option maxHeartbeats 800000 in
theorem frWaiting_any (h : FrIs w p um wm F) :
  Calls Tryz.prog 68 #[.pointer (some ⟨p, 0, none⟩)] w fun e w' => e = .returned (.int .i64 F.nWaits) ∧ w = w' := by
 have HM := Hq (frMade_yes h.c2)
 have c3 := h.c3
 have HU := Hq h.mw
 have HK := Hq (FL.keys_waits h.ok)
 have e : F.nWaits = (F.pages.filter fun k => (F.waits k).isSome).length := by unfold FL.nWaits; rw [List.countP_eq_length_filter]
 rw [e]
 clear h e
 go_enter Tryz.func68, Tryz.ntmps68
 go_wp2_with fail
 refine HM.out.mono ?_; rintro e w1 ⟨rfl, rfl⟩
 go_wp2_with (refine st_len rfl _ _ 3 3 rfl Tryz.underlying147 rfl HU.out.is HK.out ?_)
 go_ret
 exact ⟨rfl, rfl⟩
end
end Go.Proofs.YtbbgdbnjmonbgaaGreatDoor

