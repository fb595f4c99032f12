/-
  free: all calls of a list that no call made.
  free: New, has, State, drop, Use, Give, Later of a list that a call made.
  free: New, drop, Use, Give, Later, least, Alloc of a list that a call made.
-/
import Derived.Test.YtngnmakeaniapaaGreatDoorH02
import Derived.Test.YtngnmakeaniapaaGreatDoorH07
import Derived.WalkSpells
import Derived.WalkLawsBesides
import Derived.RegionTactic
import Derived.Lib.Hide
import Derived.LoopTactic
set_option linter.unusedVariables false
set_option maxRecDepth 100000
namespace Go.Proofs.YtngnmakeaniapaaGreatDoor
open Go.RowKit

/-- A list that no call made. -/
def FrNone (w : World) (d : Option Addr) : Prop := d = none ∨ ∃ p, d = some ⟨p, 0, none⟩ ∧ w.cell? ⟨p, 2, none⟩ = some (.map none)

theorem FrNone.below {w w' : World} {d : Option Addr} (h : FrNone w d) (hb : Below w.heap.size w w') : FrNone w' d := by
  rcases h with h | ⟨p, h, hc⟩
  · exact .inl h
  · exact .inr ⟨p, h, by rw [hb.cell (p := ⟨p, 2, none⟩) (World.block_lt_of_cell? _ _ hc)]; exact hc⟩

theorem frNeq_no (w : World) : (binOp BinOp.neq 135 (.map none) (.map none)).run Tryz.prog w = .ok (.bool false) w := by kernel_rfl
theorem frNeq_yes (w : World) (b : Nat) : (binOp BinOp.neq 135 (.map (some b)) (.map none)).run Tryz.prog w = .ok (.bool true) w := by kernel_rfl

set_option maxHeartbeats 400000 in
theorem frMade_no {w : World} {d : Option Addr} (h : FrNone w d) :
    Calls Tryz.prog 130 #[.pointer d] w fun e w' => e = .returned (.bool false) ∧ w = w' := by
  rcases h with rfl | ⟨p, rfl, hc⟩
  · go_enter Tryz.func130, Tryz.ntmps130
    go_wp2
    go_ret
    exact ⟨rfl, rfl⟩
  · have hne := frNeq_no
    go_enter Tryz.func130, Tryz.ntmps130
    go_wp2
    go_ret
    exact ⟨rfl, rfl⟩

set_option maxHeartbeats 400000 in
theorem frMade_yes {w : World} {p b : Nat} (hc : w.cell? ⟨p, 2, none⟩ = some (.map (some b))) :
    Calls Tryz.prog 130 #[.pointer (some ⟨p, 0, none⟩)] w fun e w' => e = .returned (.bool true) ∧ w = w' := by
  have hne := frNeq_yes
  go_enter Tryz.func130, Tryz.ntmps130
  go_wp2
  go_ret
  exact ⟨rfl, rfl⟩

set_option maxHeartbeats 400000 in
theorem frAlloc_no {w : World} {d : Option Addr} (h : FrNone w d) :
    Calls Tryz.prog 246 #[.pointer d] w fun e w' => e = .returned (.tuple #[.int .i64 0, .int .i64 1]) ∧ Below w.heap.size w w' := by
  have H := Lib.hid fun w' hb => frMade_no (h.below (w' := w') hb)
  clear h
  go_enter Tryz.func246, Tryz.ntmps246
  go_wp2_with fail
  refine (H.out _ (sbox1 _ _)).mono ?_; rintro e w1 ⟨rfl, rfl⟩
  go_wp2
  go_ret2
  exact ⟨rfl, sbox1 _ _⟩

set_option maxHeartbeats 400000 in
theorem frUse_no {w : World} {d : Option Addr} (h : FrNone w d) (k : Int) :
    Calls Tryz.prog 87 #[.pointer d, .int .i64 k] w fun e w' => e = .returned (.int .i64 1) ∧ w = w' := by
  have H := Lib.hid (frMade_no h)
  clear h
  go_enter Tryz.func87, Tryz.ntmps87
  go_wp2_with fail
  refine (H.out).mono ?_; rintro e w1 ⟨rfl, rfl⟩
  go_wp2
  go_ret
  exact ⟨rfl, rfl⟩

set_option maxHeartbeats 400000 in
theorem frGive_no {w : World} {d : Option Addr} (h : FrNone w d) (k : Int) :
    Calls Tryz.prog 110 #[.pointer d, .int .i64 k] w fun e w' => e = .returned (.int .i64 1) ∧ w = w' := by
  have H := Lib.hid (frMade_no h)
  clear h
  go_enter Tryz.func110, Tryz.ntmps110
  go_wp2_with fail
  refine (H.out).mono ?_; rintro e w1 ⟨rfl, rfl⟩
  go_wp2
  go_ret
  exact ⟨rfl, rfl⟩

set_option maxHeartbeats 400000 in
theorem frLater_no {w : World} {d : Option Addr} (h : FrNone w d) (k g : Int) :
    Calls Tryz.prog 243 #[.pointer d, .int .i64 k, .int .i64 g] w fun e w' => e = .returned (.int .i64 1) ∧ w = w' := by
  have H := Lib.hid (frMade_no h)
  clear h
  go_enter Tryz.func243, Tryz.ntmps243
  go_wp2_with fail
  refine (H.out).mono ?_; rintro e w1 ⟨rfl, rfl⟩
  go_wp2
  go_ret
  exact ⟨rfl, rfl⟩

set_option maxHeartbeats 400000 in
theorem frFree_no {w : World} {d : Option Addr} (h : FrNone w d) :
    Calls Tryz.prog 90 #[.pointer d] w fun e w' => e = .returned (.int .i64 0) ∧ w = w' := by
  have H := Lib.hid (frMade_no h)
  clear h
  go_enter Tryz.func90, Tryz.ntmps90
  go_wp2_with fail
  refine (H.out).mono ?_; rintro e w1 ⟨rfl, rfl⟩
  go_wp2
  go_ret
  exact ⟨rfl, rfl⟩

set_option maxHeartbeats 400000 in
theorem frWaiting_no {w : World} {d : Option Addr} (h : FrNone w d) :
    Calls Tryz.prog 89 #[.pointer d] w fun e w' => e = .returned (.int .i64 0) ∧ w = w' := by
  have H := Lib.hid (frMade_no h)
  clear h
  go_enter Tryz.func89, Tryz.ntmps89
  go_wp2_with fail
  refine (H.out).mono ?_; rintro e w1 ⟨rfl, rfl⟩
  go_wp2
  go_ret
  exact ⟨rfl, rfl⟩

set_option maxHeartbeats 400000 in
theorem frUsed_no {w : World} {d : Option Addr} (h : FrNone w d) :
    Calls Tryz.prog 88 #[.pointer d] w fun e w' => e = .returned (.int .i64 0) ∧ w = w' := by
  have H := Lib.hid (frMade_no h)
  clear h
  go_enter Tryz.func88, Tryz.ntmps88
  go_wp2_with fail
  refine (H.out).mono ?_; rintro e w1 ⟨rfl, rfl⟩
  go_wp2
  go_ret
  exact ⟨rfl, rfl⟩

set_option maxHeartbeats 400000 in
theorem frState_no {w : World} {d : Option Addr} (h : FrNone w d) (k : Int) :
    Calls Tryz.prog 132 #[.pointer d, .int .i64 k] w fun e w' => e = .returned (.int .i64 0) ∧ w = w' := by
  have H := Lib.hid (frMade_no h)
  clear h
  go_enter Tryz.func132, Tryz.ntmps132
  go_wp2_with fail
  refine (H.out).mono ?_; rintro e w1 ⟨rfl, rfl⟩
  go_wp2
  go_ret
  exact ⟨rfl, rfl⟩

set_option maxHeartbeats 400000 in
theorem frLeave_no {w : World} {d : Option Addr} (h : FrNone w d) (v : Value) :
    Calls Tryz.prog 146 #[.pointer d, v] w fun e w' => e = .returned (.slice none 0 0) ∧ w = w' := by
  have H := Lib.hid (frMade_no h)
  clear h
  go_enter Tryz.func146, Tryz.ntmps146
  go_wp2_with fail
  refine H.out.mono ?_; rintro e w1 ⟨rfl, rfl⟩
  go_wp2
  go_ret
  exact ⟨rfl, rfl⟩

set_option maxHeartbeats 400000 in
theorem frSettle_no {w : World} {d : Option Addr} (h : FrNone w d) (k : Int) :
    Calls Tryz.prog 144 #[.pointer d, .int .i64 k] w fun e w' => e = .returned (.int .i64 0) ∧ Below w.heap.size w w' := by
  have H := Lib.hid fun w' hb v => frLeave_no (h.below (w' := w') hb) v
  clear h
  have hmf : ∀ (fn : Fn) (first cap : Array Value) (w : World), (Instr.makeFunc fn first cap).run Tryz.prog w = .ok (.func fn first cap) w := fun _ _ _ _ => rfl
  go_enter Tryz.func144, Tryz.ntmps144
  go_wp2_with fail
  refine (H.out _ (sbox1 _ _) _).mono ?_; rintro e w1 ⟨rfl, rfl⟩
  go_wp2
  go_ret
  exact ⟨rfl, sbox1 _ _⟩

set_option maxHeartbeats 400000 in
theorem frForget_no {w : World} {d : Option Addr} (h : FrNone w d) (k : Int) :
    Calls Tryz.prog 111 #[.pointer d, .int .i64 k] w fun e w' => e = .returned (.int .i64 0) ∧ Below w.heap.size w w' := by
  have H := Lib.hid fun w' hb v => frLeave_no (h.below (w' := w') hb) v
  clear h
  have hmf : ∀ (fn : Fn) (first cap : Array Value) (w : World), (Instr.makeFunc fn first cap).run Tryz.prog w = .ok (.func fn first cap) w := fun _ _ _ _ => rfl
  go_enter Tryz.func111, Tryz.ntmps111
  go_wp2_with fail
  refine (H.out _ (sbox1 _ _) _).mono ?_; rintro e w1 ⟨rfl, rfl⟩
  go_wp2
  refine wp_loop_rounds 1 ?_
  rw [rounds_succ]
  go_wp2
  go_ret
  exact ⟨rfl, sbox1 _ _⟩

end Go.Proofs.YtngnmakeaniapaaGreatDoor

set_option linter.unusedVariables false
set_option maxRecDepth 100000
namespace Go.Proofs.YtngnmakeaniapaaGreatDoor
open Go.RowKit

theorem zero_unit (w : World) : (zeroValue 162).run Tryz.prog w = .ok (.agg #[]) w := by kernel_rfl
theorem zero_int (w : World) : (zeroValue 3).run Tryz.prog w = .ok (.int .i64 0) w := by kernel_rfl

section
variable {w : World} {ops : Array Oper} {rest : List Oper} {o : Oper} {a : Act} {Q : Exit → Act → World → Prop} {b : Nat} {f : Int → Option Value}

/-- _, ok := used[k] -/
theorem fr_look (hg : o.guard = none) (m x : Operand) (hop : o.op = Op.lookup 135 m x true) (hm : a.eval m = .map (some b)) {u : Int → Bool} (h : MapSt w b fun k => if u k = true then some (.agg #[]) else none) {k : Int} (hx : a.eval x = .int .i64 k)
    (hK : wpList Tryz.prog ops Q rest (a.put o.dst (.tuple #[.agg #[], .bool (u k)])) w) : wpList Tryz.prog ops Q (o :: rest) a w := by
  refine map_look hg m x _ 3 162 true hop Tryz.underlying135 Tryz.underlying3 (zero_unit w) hm h.is hx ?_
  have e : (if true then Value.tuple #[((fun k => if u k = true then some (Value.agg #[]) else none) k).getD (.agg #[]), .bool ((fun k => if u k = true then some (Value.agg #[]) else none) k).isSome] else ((fun k => if u k = true then some (Value.agg #[]) else none) k).getD (.agg #[])) = .tuple #[.agg #[], .bool (u k)] := by
    cases hu : u k <;> simp [hu]
  rw [e]
  exact hK

/-- g, ok := waits[k] -/
theorem fr_look2 (hg : o.guard = none) (m x : Operand) (hop : o.op = Op.lookup 196 m x true) (hm : a.eval m = .map (some b)) {g : Int → Option Int} (h : MapSt w b fun k => (g k).map (Value.int .i64)) {k : Int} (hx : a.eval x = .int .i64 k)
    (hK : wpList Tryz.prog ops Q rest (a.put o.dst (.tuple #[.int .i64 ((g k).getD 0), .bool (g k).isSome])) w) : wpList Tryz.prog ops Q (o :: rest) a w := by
  refine map_look hg m x _ 3 3 true hop Tryz.underlying196 Tryz.underlying3 (zero_int w) hm h.is hx ?_
  have e : (if true then Value.tuple #[((fun k => (g k).map (Value.int .i64)) k).getD (.int .i64 0), .bool ((fun k => (g k).map (Value.int .i64)) k).isSome] else ((fun k => (g k).map (Value.int .i64)) k).getD (.int .i64 0)) = .tuple #[.int .i64 ((g k).getD 0), .bool (g k).isSome] := by
    cases hu : g k <;> simp [hu]
  rw [e]
  exact hK
end

section
variable {w : World} {p um wm : Nat} {F : FL}

theorem FrIs.c0 (h : FrIs w p um wm F) : w.cell? ⟨p, 0, none⟩ = some (.int .i64 F.lo) := (Joins.cell_of_block h.blk 0).trans rfl
theorem FrIs.c1 (h : FrIs w p um wm F) : w.cell? ⟨p, 1, none⟩ = some (.int .i64 F.hi) := (Joins.cell_of_block h.blk 1).trans rfl
theorem FrIs.c2 (h : FrIs w p um wm F) : w.cell? ⟨p, 2, none⟩ = some (.map (some um)) := (Joins.cell_of_block h.blk 2).trans rfl
theorem FrIs.c3 (h : FrIs w p um wm F) : w.cell? ⟨p, 3, none⟩ = some (.map (some wm)) := (Joins.cell_of_block h.blk 3).trans rfl

set_option maxHeartbeats 400000 in
theorem frHas_any (h : FrIs w p um wm F) (k : Int) :
    Calls Tryz.prog 131 #[.pointer (some ⟨p, 0, none⟩), .int .i64 k] w fun e w' => e = .returned (.bool (F.has k)) ∧ w = w' := by
  have c0 := h.c0
  have c1 := h.c1
  unfold FL.has
  clear h
  generalize F.lo = lo at *
  generalize F.hi = hi at *
  by_cases h0 : lo ≤ k
  · have h1 : decide (lo ≤ k) = true := decide_eq_true h0
    go_enter Tryz.func131, Tryz.ntmps131
    go_wp2
    all_goals (go_ret; exact ⟨by simp_all, rfl⟩)
  · have h1 : decide (lo ≤ k) = false := decide_eq_false h0
    go_enter Tryz.func131, Tryz.ntmps131
    go_wp2
    all_goals (go_ret; exact ⟨by simp_all, rfl⟩)

set_option maxHeartbeats 800000 in
theorem frState_any (h : FrIs w p um wm F) (k : Int) :
    Calls Tryz.prog 132 #[.pointer (some ⟨p, 0, none⟩), .int .i64 k] w fun e w' => e = .returned (.int .i64 (F.st k)) ∧ Below w.heap.size w w' := by
  have HM := Lib.hid (frMade_yes h.c2)
  have HH := frHas_any h k
  have c2 := h.c2
  have c3 := h.c3
  have HU := Lib.hid h.mu
  have c3' : (w.alloc (.cells #[] 162)).cell? ⟨p, 3, none⟩ = some (.map (some wm)) := by
    rw [(sbox1 w (.cells #[] 162)).cell (p := ⟨p, 3, none⟩) (World.block_lt_of_cell? _ _ c3)]
    exact c3
  have HW : Hid (MapSt (w.alloc (.cells #[] 162)) wm fun k => (F.waits k).map (Value.int .i64)) := Lib.hid (h.mw.block ((sbox1 w _).block _ h.mw.lt))
  have HB : Hid (Below w.heap.size w (w.alloc (.cells #[] 162))) := Lib.hid (sbox1 w _)
  clear h
  cases hk : F.has k
  · rw [hk] at HH
    replace HH := Lib.hid HH
    have hs : F.st k = 0 := by simp [FL.st, hk]
    rw [hs]
    clear hs hk
    go_enter Tryz.func132, Tryz.ntmps132
    go_wp2_with fail
    refine HM.out.mono ?_; rintro e w1 ⟨rfl, rfl⟩
    go_wp2_with fail
    refine HH.out.mono ?_; rintro e w1 ⟨rfl, rfl⟩
    go_wp2
    go_ret
    exact ⟨rfl, Below.refl _ _⟩
  · rw [hk] at HH
    replace HH := Lib.hid HH
    cases hu : F.used k
    · obtain ⟨s, hs2⟩ : ∃ s, s = (F.waits k).isSome := ⟨_, rfl⟩
      have hs : F.st k = if s then 3 else 1 := by simp [FL.st, hk, hu, hs2]
      rw [hs]
      clear hs hk
      have HS := Lib.hid hs2
      clear hs2
      have HN := Lib.hid hu
      clear hu
      cases s
      all_goals
        go_enter Tryz.func132, Tryz.ntmps132
        go_wp2_with fail
        refine HM.out.mono ?_; rintro e w1 ⟨rfl, rfl⟩
        go_wp2_with fail
        refine HH.out.mono ?_; rintro e w1 ⟨rfl, rfl⟩
        go_wp2_with (first | (at_lookup; refine fr_look rfl _ _ rfl rfl HU.out rfl ?_; rw [HN.out]) | (at_lookup; refine fr_look2 rfl _ _ rfl rfl HW.out rfl ?_; rw [← HS.out]))
        go_ret
        exact ⟨rfl, HB.out⟩
    · have hs : F.st k = 2 := by simp [FL.st, hk, hu]
      rw [hs]
      clear hs hk
      have HN := Lib.hid hu
      clear hu
      go_enter Tryz.func132, Tryz.ntmps132
      go_wp2_with fail
      refine HM.out.mono ?_; rintro e w1 ⟨rfl, rfl⟩
      go_wp2_with fail
      refine HH.out.mono ?_; rintro e w1 ⟨rfl, rfl⟩
      go_wp2_with (at_lookup; refine fr_look rfl _ _ rfl rfl HU.out rfl ?_; rw [HN.out])
      go_ret
      exact ⟨rfl, HB.out⟩
end

end Go.Proofs.YtngnmakeaniapaaGreatDoor

set_option linter.unusedVariables false
set_option maxRecDepth 100000
namespace Go.Proofs.YtngnmakeaniapaaGreatDoor
open Go.RowKit

theorem Only.right {bs : List Nat} {a b c : World} (h : Only bs a b) (k : Only bs b c) : Only bs a c := h.trans k

section
variable {w : World} {p um wm : Nat} {F : FL}

/-- used[k] = struct{}{}: what becomes of the list. -/
theorem FrIs.taken {w' : World} (h : FrIs w p um wm F) {k : Int} (ok : (F.take k).Ok) (hm : MapSt w' um fun x => if x = k then some (.agg #[]) else if F.used x = true then some (.agg #[]) else none) (hg : w.grownBy w' (some um)) : FrIs w' p um wm (F.take k) ∧ Only [um, wm] w w' := by
  have ho := Only.of_grown hg
  obtain ⟨q1, q2⟩ := h.pne
  refine ⟨⟨by rw [ho.block (Array.getElem?_eq_some_iff.1 h.blk).1 (by simpa using q1)]; exact h.blk, ?_, h.mw.block (ho.block h.mw.lt (by simpa using Ne.symm h.ne)), h.ne, ok⟩, ho.mono (by simp)⟩
  have e : (fun x => if x = k then some (Value.agg #[]) else if F.used x = true then some (.agg #[]) else none) = fun x => if (F.take k).used x = true then some (.agg #[]) else none := by
    funext x
    by_cases hx : x = k <;> simp [FL.take, hx]
  rw [← e]
  exact hm

theorem FrIs.dropped {w' : World} (h : FrIs w p um wm F) {k : Int} (hm : MapSt w' um fun x => if x = k then none else if F.used x = true then some (.agg #[]) else none) (hg : w.grownBy w' (some um)) : FrIs w' p um wm (F.drop k) ∧ Only [um, wm] w w' := by
  have ho := Only.of_grown hg
  obtain ⟨q1, q2⟩ := h.pne
  refine ⟨⟨by rw [ho.block (Array.getElem?_eq_some_iff.1 h.blk).1 (by simpa using q1)]; exact h.blk, ?_, h.mw.block (ho.block h.mw.lt (by simpa using Ne.symm h.ne)), h.ne, h.ok.drop k⟩, ho.mono (by simp)⟩
  have e : (fun x => if x = k then none else if F.used x = true then some (Value.agg #[]) else none) = fun x => if (F.drop k).used x = true then some (.agg #[]) else none := by
    funext x
    by_cases hx : x = k <;> simp [FL.drop, hx]
  rw [← e]
  exact hm

theorem FrIs.waited {w' : World} {k g : Int} (h : FrIs w p um wm (F.drop k)) (hk : F.has k = true) (ok : F.Ok) (hm : MapSt w' wm fun x => if x = k then some (.int .i64 g) else (F.waits x).map (Value.int .i64)) (hg : w.grownBy w' (some wm)) : FrIs w' p um wm (F.late k g) ∧ Only [um, wm] w w' := by
  have ho := Only.of_grown hg
  obtain ⟨q1, q2⟩ := h.pne
  refine ⟨⟨by rw [ho.block (Array.getElem?_eq_some_iff.1 h.blk).1 (by simpa using q2)]; exact h.blk, h.mu.block (ho.block h.mu.lt (by simpa using h.ne)), ?_, h.ne, ok.late g hk⟩, ho.mono (by simp)⟩
  have e : (fun x => if x = k then some (Value.int .i64 g) else (F.waits x).map (Value.int .i64)) = fun x => ((F.late k g).waits x).map (Value.int .i64) := by
    funext x
    by_cases hx : x = k <;> simp [FL.late, hx]
  rw [← e]
  exact hm

/-- What a call leaves that changes a list. -/
def FrStep (w : World) (p um wm : Nat) (F : FL) (v : Value) (e : Ending) (w' : World) : Prop := e = .returned v ∧ FrIs w' p um wm F ∧ Only [um, wm] w w'

set_option maxHeartbeats 800000 in
theorem frDrop_no (h : FrIs w p um wm F) {k : Int} (hs : F.st k ≠ 2) :
    Calls Tryz.prog 145 #[.pointer (some ⟨p, 0, none⟩), .int .i64 k] w (FrStep w p um wm F (.int .i64 13)) := by
  have HS := Lib.hid (frState_any h k)
  have H := Lib.hid h
  have d : (F.st k != 2) = true := by simpa using hs
  clear h hs
  generalize F.st k = s at *
  go_enter Tryz.func145, Tryz.ntmps145
  go_wp2_with fail
  refine HS.out.mono ?_; rintro e w1 ⟨rfl, hb⟩
  have HB := Lib.hid hb
  clear hb
  go_wp2
  go_ret
  exact ⟨rfl, H.out.below HB.out, Only.of_below HB.out⟩

set_option maxHeartbeats 800000 in
theorem frDrop_yes (h : FrIs w p um wm F) {k : Int} (hs : F.st k = 2) :
    Calls Tryz.prog 145 #[.pointer (some ⟨p, 0, none⟩), .int .i64 k] w (FrStep w p um wm (F.drop k) (.int .i64 0)) := by
  have HS := frState_any h k
  rw [hs] at HS
  replace HS := Lib.hid HS
  have H := Lib.hid h
  clear h hs
  go_enter Tryz.func145, Tryz.ntmps145
  go_wp2_with fail
  refine HS.out.mono ?_; rintro e w1 ⟨rfl, hb⟩
  have H1 := Lib.hid (H.out.below hb)
  have HB := Lib.hid hb
  have c2 := (H.out.below hb).c2
  clear hb
  go_wp2_with (at_delete; refine st_drop rfl _ _ _ 3 162 3 rfl Tryz.underlying135 Tryz.underlying3 rfl H1.out.mu rfl ?_; intro w2 hm hg; have HM := Lib.hid (H1.out.dropped hm hg); clear hm hg)
  go_ret
  exact ⟨rfl, HM.out.1, (Only.of_below HB.out).trans HM.out.2⟩

set_option maxHeartbeats 800000 in
theorem frUse_arg (h : FrIs w p um wm F) {k : Int} (hs : F.has k = false) :
    Calls Tryz.prog 87 #[.pointer (some ⟨p, 0, none⟩), .int .i64 k] w (FrStep w p um wm F (.int .i64 2)) := by
  have HM := Lib.hid (frMade_yes h.c2)
  have HH := frHas_any h k
  rw [hs] at HH
  replace HH := Lib.hid HH
  have H := Lib.hid h
  clear h hs
  go_enter Tryz.func87, Tryz.ntmps87
  go_wp2_with fail
  refine HM.out.mono ?_; rintro e w1 ⟨rfl, rfl⟩
  go_wp2_with fail
  refine HH.out.mono ?_; rintro e w1 ⟨rfl, rfl⟩
  go_wp2
  go_ret
  exact ⟨rfl, H.out, Only.refl _ _⟩

set_option maxHeartbeats 800000 in
theorem frUse_there (h : FrIs w p um wm F) {k : Int} (hk : F.has k = true) (hs : F.st k ≠ 1) :
    Calls Tryz.prog 87 #[.pointer (some ⟨p, 0, none⟩), .int .i64 k] w (FrStep w p um wm F (.int .i64 14)) := by
  have HM := Lib.hid (frMade_yes h.c2)
  have HH := frHas_any h k
  rw [hk] at HH
  replace HH := Lib.hid HH
  have HS := Lib.hid (frState_any h k)
  have H := Lib.hid h
  have d : (F.st k != 1) = true := by simpa using hs
  clear h hs
  generalize F.st k = s at *
  go_enter Tryz.func87, Tryz.ntmps87
  go_wp2_with fail
  refine HM.out.mono ?_; rintro e w1 ⟨rfl, rfl⟩
  go_wp2_with fail
  refine HH.out.mono ?_; rintro e w1 ⟨rfl, rfl⟩
  go_wp2_with fail
  refine HS.out.mono ?_; rintro e w1 ⟨rfl, hb⟩
  have HB := Lib.hid hb
  clear hb
  go_wp2
  go_ret
  exact ⟨rfl, H.out.below HB.out, Only.of_below HB.out⟩

set_option maxHeartbeats 800000 in
theorem frUse_yes (h : FrIs w p um wm F) {k : Int} (hs : F.st k = 1) :
    Calls Tryz.prog 87 #[.pointer (some ⟨p, 0, none⟩), .int .i64 k] w (FrStep w p um wm (F.take k) (.int .i64 0)) := by
  have HM := Lib.hid (frMade_yes h.c2)
  have hk : F.has k = true := by
    cases hh : F.has k
    · simp [FL.st, hh] at hs
    · rfl
  have HH := frHas_any h k
  rw [hk] at HH
  replace HH := Lib.hid HH
  have HO := Lib.hid (h.ok.take hs)
  have HS := frState_any h k
  rw [hs] at HS
  replace HS := Lib.hid HS
  have H := Lib.hid h
  clear h hs hk
  go_enter Tryz.func87, Tryz.ntmps87
  go_wp2_with fail
  refine HM.out.mono ?_; rintro e w1 ⟨rfl, rfl⟩
  go_wp2_with fail
  refine HH.out.mono ?_; rintro e w1 ⟨rfl, rfl⟩
  go_wp2_with fail
  refine HS.out.mono ?_; rintro e w1 ⟨rfl, hb⟩
  have H1 := Lib.hid (H.out.below hb)
  have HB := Lib.hid hb
  have c2 := (H.out.below hb).c2
  clear hb
  go_wp2_with (at_mapUpdate; refine st_store rfl _ _ _ _ 3 162 rfl Tryz.underlying135 Tryz.underlying3 rfl H1.out.mu rfl rfl ?_; intro w2 hm hg; have HG := Lib.hid (H1.out.taken HO.out hm hg); clear hm hg)
  go_ret
  exact ⟨rfl, HG.out.1, (Only.of_below HB.out).trans HG.out.2⟩

set_option maxHeartbeats 800000 in
theorem frGive_arg (h : FrIs w p um wm F) {k : Int} (hs : F.has k = false) :
    Calls Tryz.prog 110 #[.pointer (some ⟨p, 0, none⟩), .int .i64 k] w (FrStep w p um wm F (.int .i64 2)) := by
  have HM := Lib.hid (frMade_yes h.c2)
  have HH := frHas_any h k
  rw [hs] at HH
  replace HH := Lib.hid HH
  have H := Lib.hid h
  clear h hs
  go_enter Tryz.func110, Tryz.ntmps110
  go_wp2_with fail
  refine HM.out.mono ?_; rintro e w1 ⟨rfl, rfl⟩
  go_wp2_with fail
  refine HH.out.mono ?_; rintro e w1 ⟨rfl, rfl⟩
  go_wp2
  go_ret
  exact ⟨rfl, H.out, Only.refl _ _⟩

set_option maxHeartbeats 800000 in
theorem frGive_any (h : FrIs w p um wm F) {k : Int} (hk : F.has k = true) :
    Calls Tryz.prog 110 #[.pointer (some ⟨p, 0, none⟩), .int .i64 k] w (FrStep w p um wm (if F.st k = 2 then F.drop k else F) (if F.st k = 2 then .int .i64 0 else .int .i64 13)) := by
  have HM := Lib.hid (frMade_yes h.c2)
  have HH := frHas_any h k
  rw [hk] at HH
  replace HH := Lib.hid HH
  by_cases hs : F.st k = 2
  · have HD := Lib.hid (frDrop_yes h hs)
    simp only [hs, if_true]
    clear h hk hs
    go_enter Tryz.func110, Tryz.ntmps110
    go_wp2_with fail
    refine HM.out.mono ?_; rintro e w1 ⟨rfl, rfl⟩
    go_wp2_with fail
    refine HH.out.mono ?_; rintro e w1 ⟨rfl, rfl⟩
    go_wp2_with fail
    refine HD.out.mono ?_; rintro e w1 ⟨rfl, hd⟩
    have HD1 := Lib.hid hd
    clear hd
    go_wp2
    go_ret
    exact ⟨rfl, HD1.out⟩
  · have HD := Lib.hid (frDrop_no h hs)
    simp only [hs, if_false]
    clear h hk hs
    go_enter Tryz.func110, Tryz.ntmps110
    go_wp2_with fail
    refine HM.out.mono ?_; rintro e w1 ⟨rfl, rfl⟩
    go_wp2_with fail
    refine HH.out.mono ?_; rintro e w1 ⟨rfl, rfl⟩
    go_wp2_with fail
    refine HD.out.mono ?_; rintro e w1 ⟨rfl, hd⟩
    have HD1 := Lib.hid hd
    clear hd
    go_wp2
    go_ret
    exact ⟨rfl, HD1.out⟩

set_option maxHeartbeats 800000 in
theorem frLater_arg (h : FrIs w p um wm F) {k g : Int} (hs : F.has k = false ∨ g < 0) :
    Calls Tryz.prog 243 #[.pointer (some ⟨p, 0, none⟩), .int .i64 k, .int .i64 g] w (FrStep w p um wm F (.int .i64 2)) := by
  have HM := Lib.hid (frMade_yes h.c2)
  have HH := frHas_any h k
  have H := Lib.hid h
  clear h
  cases hk : F.has k
  · rw [hk] at HH
    replace HH := Lib.hid HH
    clear hs hk
    go_enter Tryz.func243, Tryz.ntmps243
    go_wp2_with fail
    refine HM.out.mono ?_; rintro e w1 ⟨rfl, rfl⟩
    go_wp2_with fail
    refine HH.out.mono ?_; rintro e w1 ⟨rfl, rfl⟩
    go_wp2
    go_ret
    exact ⟨rfl, H.out, Only.refl _ _⟩
  · have hg : decide (g < 0) = true := decide_eq_true (by rcases hs with hs | hs; rw [hk] at hs; cases hs; exact hs)
    rw [hk] at HH
    replace HH := Lib.hid HH
    clear hs hk
    go_enter Tryz.func243, Tryz.ntmps243
    go_wp2_with fail
    refine HM.out.mono ?_; rintro e w1 ⟨rfl, rfl⟩
    go_wp2_with fail
    refine HH.out.mono ?_; rintro e w1 ⟨rfl, rfl⟩
    go_wp2
    go_ret
    exact ⟨rfl, H.out, Only.refl _ _⟩

set_option maxHeartbeats 800000 in
theorem frLater_any (h : FrIs w p um wm F) {k g : Int} (hk : F.has k = true) (hg : 0 ≤ g) :
    Calls Tryz.prog 243 #[.pointer (some ⟨p, 0, none⟩), .int .i64 k, .int .i64 g] w (FrStep w p um wm (if F.st k = 2 then F.late k g else F) (if F.st k = 2 then .int .i64 0 else .int .i64 13)) := by
  have HM := Lib.hid (frMade_yes h.c2)
  have HH := frHas_any h k
  rw [hk] at HH
  replace HH := Lib.hid HH
  have hd : decide (g < 0) = false := decide_eq_false (by omega)
  have HK := Lib.hid hk
  by_cases hs : F.st k = 2
  · have HD := Lib.hid (frDrop_yes h hs)
    have HO := Lib.hid h.ok
    simp only [hs, if_true]
    clear h hk hs
    go_enter Tryz.func243, Tryz.ntmps243
    go_wp2_with fail
    refine HM.out.mono ?_; rintro e w1 ⟨rfl, rfl⟩
    go_wp2_with fail
    refine HH.out.mono ?_; rintro e w1 ⟨rfl, rfl⟩
    go_wp2_with fail
    refine HD.out.mono ?_; rintro e w1 ⟨rfl, h1, ho⟩
    have H1 := Lib.hid h1
    have HB := Lib.hid ho
    have c3 := h1.c3
    clear h1 ho
    go_wp2_with (at_mapUpdate; refine st_store rfl _ _ _ _ 3 3 rfl Tryz.underlying196 Tryz.underlying3 rfl H1.out.mw rfl rfl ?_; intro w2 hm hg; have HG := Lib.hid (FrIs.waited H1.out HK.out HO.out hm hg); clear hm hg)
    go_ret
    exact ⟨rfl, HG.out.1, HB.out.trans HG.out.2⟩
  · have HD := Lib.hid (frDrop_no h hs)
    simp only [hs, if_false]
    clear h hk hs
    go_enter Tryz.func243, Tryz.ntmps243
    go_wp2_with fail
    refine HM.out.mono ?_; rintro e w1 ⟨rfl, rfl⟩
    go_wp2_with fail
    refine HH.out.mono ?_; rintro e w1 ⟨rfl, rfl⟩
    go_wp2_with fail
    refine HD.out.mono ?_; rintro e w1 ⟨rfl, hd⟩
    have HD1 := Lib.hid hd
    clear hd
    go_wp2
    go_ret
    exact ⟨rfl, HD1.out⟩
end

def FrNewPost (w : World) (lo hi : Int) (e : Ending) (w' : World) : Prop :=
  ∃ p um wm, e = .returned (.tuple #[.pointer (some ⟨p, 0, none⟩), .int .i64 0]) ∧ FrIs w' p um wm (FL.new lo hi) ∧ Below w.heap.size w w' ∧ w.heap.size ≤ p ∧ w.heap.size ≤ um ∧ w.heap.size ≤ wm

set_option maxHeartbeats 800000 in
theorem frNew_yes {w : World} {lo hi : Int} (h0 : 0 ≤ lo) (h1 : lo ≤ hi) (h2 : hi ≤ 4096) :
    Calls Tryz.prog 78 #[.int .i64 lo, .int .i64 hi] w (FrNewPost w lo hi) := by
  have hfin : ∀ w', w' = (((w.alloc (.map #[] 0)).alloc (.map #[] 0)).alloc (.cells #[.int .i64 lo, .int .i64 hi, .map (some w.heap.size), .map (some (w.heap.size + 1))] 198)) → FrIs w' (w.heap.size + 2) w.heap.size (w.heap.size + 1) (FL.new lo hi) ∧ Below w.heap.size w w' := by
    rintro w' rfl
    obtain ⟨b0, b1, b2, _⟩ := sbox3_heap w (.map #[] 0) (.map #[] 0) (.cells #[.int .i64 lo, .int .i64 hi, .map (some w.heap.size), .map (some (w.heap.size + 1))] 198)
    exact ⟨⟨b2, MapSt.new b0, MapSt.new b1, by omega, FL.Ok.new h0 h1 h2⟩, sbox3 _ _ _ _⟩
  have HF := Lib.hid hfin
  have d0 : decide (lo < 0) = false := decide_eq_false (by omega)
  have d1 : decide (hi < lo) = false := decide_eq_false (by omega)
  have d2 : decide (4096 < hi) = false := decide_eq_false (by omega)
  clear hfin h0 h1 h2
  have hmm := @run_makeMap Tryz.prog
  go_enter Tryz.func78, Tryz.ntmps78
  go_wp2
  go_ret2
  exact ⟨_, _, _, rfl, (HF.out _ rfl).1, (HF.out _ rfl).2, by omega, Nat.le_refl _, by omega⟩

end Go.Proofs.YtngnmakeaniapaaGreatDoor

