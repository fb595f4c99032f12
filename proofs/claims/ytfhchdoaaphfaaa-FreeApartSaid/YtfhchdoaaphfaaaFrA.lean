/-
  free: New, has, State, drop, Use, Give, Later of a list that a call made.
-/
import Derived.Test.YtfhchdoaaphfaaaFrSpec
import Derived.Test.YtfhchdoaaphfaaaFrNo
set_option linter.unusedVariables false
set_option maxRecDepth 100000
namespace Go.Proofs.Ytfhchdoaaphfaaa
open Go.RowKit

theorem zero_unit (w : World) : (zeroValue 48).run Try.prog w = .ok (.agg #[]) w := by kernel_rfl
theorem zero_int (w : World) : (zeroValue 3).run Try.prog w = .ok (.int .i64 0) w := by kernel_rfl

section
variable {w : World} {ops : Array Oper} {rest : List Oper} {o : Oper} {a : Act} {Q : Exit → Act → World → Prop} {b : Nat} {f : Int → Option Value}

/-- _, ok := used[k] -/
theorem fr_look (hg : o.guard = none) (m x : Operand) (hop : o.op = Op.lookup 23 m x true) (hm : a.eval m = .map (some b)) {u : Int → Bool} (h : MapSt w b fun k => if u k = true then some (.agg #[]) else none) {k : Int} (hx : a.eval x = .int .i64 k)
    (hK : wpList Try.prog ops Q rest (a.put o.dst (.tuple #[.agg #[], .bool (u k)])) w) : wpList Try.prog ops Q (o :: rest) a w := by
  refine map_look hg m x _ 3 48 true hop Try.underlying23 Try.underlying3 (zero_unit w) hm h.is hx ?_
  have e : (if true then Value.tuple #[((fun k => if u k = true then some (Value.agg #[]) else none) k).getD (.agg #[]), .bool ((fun k => if u k = true then some (Value.agg #[]) else none) k).isSome] else ((fun k => if u k = true then some (Value.agg #[]) else none) k).getD (.agg #[])) = .tuple #[.agg #[], .bool (u k)] := by
    cases hu : u k <;> simp [hu]
  rw [e]
  exact hK

/-- g, ok := waits[k] -/
theorem fr_look2 (hg : o.guard = none) (m x : Operand) (hop : o.op = Op.lookup 24 m x true) (hm : a.eval m = .map (some b)) {g : Int → Option Int} (h : MapSt w b fun k => (g k).map (Value.int .i64)) {k : Int} (hx : a.eval x = .int .i64 k)
    (hK : wpList Try.prog ops Q rest (a.put o.dst (.tuple #[.int .i64 ((g k).getD 0), .bool (g k).isSome])) w) : wpList Try.prog ops Q (o :: rest) a w := by
  refine map_look hg m x _ 3 3 true hop Try.underlying24 Try.underlying3 (zero_int w) hm h.is hx ?_
  have e : (if true then Value.tuple #[((fun k => (g k).map (Value.int .i64)) k).getD (.int .i64 0), .bool ((fun k => (g k).map (Value.int .i64)) k).isSome] else ((fun k => (g k).map (Value.int .i64)) k).getD (.int .i64 0)) = .tuple #[.int .i64 ((g k).getD 0), .bool (g k).isSome] := by
    cases hu : g k <;> simp [hu]
  rw [e]
  exact hK
end

section
variable {w : World} {p um wm : Nat} {F : FL}

theorem FrIs.c0 (h : FrIs w p um wm F) : w.cell? ⟨p, 0, none⟩ = some (.int .i64 F.lo) := (Joins.cell_of_block h.blk 0).trans rfl
theorem FrIs.c1 (h : FrIs w p um wm F) : w.cell? ⟨p, 1, none⟩ = some (.int .i64 F.hi) := (Joins.cell_of_block h.blk 1).trans rfl
theorem FrIs.c2 (h : FrIs w p um wm F) : w.cell? ⟨p, 2, none⟩ = some (.map (some um)) := (Joins.cell_of_block h.blk 2).trans rfl
theorem FrIs.c3 (h : FrIs w p um wm F) : w.cell? ⟨p, 3, none⟩ = some (.map (some wm)) := (Joins.cell_of_block h.blk 3).trans rfl

set_option maxHeartbeats 400000 in
theorem frHas_any (h : FrIs w p um wm F) (k : Int) :
    Calls Try.prog 20 #[.pointer (some ⟨p, 0, none⟩), .int .i64 k] w fun e w' => e = .returned (.bool (F.has k)) ∧ w = w' := by
  have c0 := h.c0
  have c1 := h.c1
  unfold FL.has
  clear h
  generalize F.lo = lo at *
  generalize F.hi = hi at *
  by_cases h0 : lo ≤ k
  · have h1 : decide (lo ≤ k) = true := decide_eq_true h0
    go_enter Try.func20, Try.ntmps20
    go_wp2
    all_goals (go_ret; exact ⟨by simp_all, rfl⟩)
  · have h1 : decide (lo ≤ k) = false := decide_eq_false h0
    go_enter Try.func20, Try.ntmps20
    go_wp2
    all_goals (go_ret; exact ⟨by simp_all, rfl⟩)

set_option maxHeartbeats 800000 in
theorem frState_any (h : FrIs w p um wm F) (k : Int) :
    Calls Try.prog 15 #[.pointer (some ⟨p, 0, none⟩), .int .i64 k] w fun e w' => e = .returned (.int .i64 (F.st k)) ∧ Below w.heap.size w w' := by
  have HM := Lib.hid (frMade_yes h.c2)
  have HH := frHas_any h k
  have c2 := h.c2
  have c3 := h.c3
  have HU := Lib.hid h.mu
  have c3' : (w.alloc (.cells #[] 48)).cell? ⟨p, 3, none⟩ = some (.map (some wm)) := by
    rw [(sbox1 w (.cells #[] 48)).cell (p := ⟨p, 3, none⟩) (World.block_lt_of_cell? _ _ c3)]
    exact c3
  have HW : Hid (MapSt (w.alloc (.cells #[] 48)) wm fun k => (F.waits k).map (Value.int .i64)) := Lib.hid (h.mw.block ((sbox1 w _).block _ h.mw.lt))
  have HB : Hid (Below w.heap.size w (w.alloc (.cells #[] 48))) := Lib.hid (sbox1 w _)
  clear h
  cases hk : F.has k
  · rw [hk] at HH
    replace HH := Lib.hid HH
    have hs : F.st k = 0 := by simp [FL.st, hk]
    rw [hs]
    clear hs hk
    go_enter Try.func15, Try.ntmps15
    go_wp2_with fail
    refine HM.out.mono ?_; rintro e w1 ⟨rfl, rfl⟩
    go_wp2_with fail
    refine HH.out.mono ?_; rintro e w1 ⟨rfl, rfl⟩
    go_wp2
    go_ret
    exact ⟨rfl, Below.refl _ _⟩
  · rw [hk] at HH
    replace HH := Lib.hid HH
    cases hu : F.used k
    · obtain ⟨s, hs2⟩ : ∃ s, s = (F.waits k).isSome := ⟨_, rfl⟩
      have hs : F.st k = if s then 3 else 1 := by simp [FL.st, hk, hu, hs2]
      rw [hs]
      clear hs hk
      have HS := Lib.hid hs2
      clear hs2
      have HN := Lib.hid hu
      clear hu
      cases s
      all_goals
        go_enter Try.func15, Try.ntmps15
        go_wp2_with fail
        refine HM.out.mono ?_; rintro e w1 ⟨rfl, rfl⟩
        go_wp2_with fail
        refine HH.out.mono ?_; rintro e w1 ⟨rfl, rfl⟩
        go_wp2_with (first | (at_lookup; refine fr_look rfl _ _ rfl rfl HU.out rfl ?_; rw [HN.out]) | (at_lookup; refine fr_look2 rfl _ _ rfl rfl HW.out rfl ?_; rw [← HS.out]))
        go_ret
        exact ⟨rfl, HB.out⟩
    · have hs : F.st k = 2 := by simp [FL.st, hk, hu]
      rw [hs]
      clear hs hk
      have HN := Lib.hid hu
      clear hu
      go_enter Try.func15, Try.ntmps15
      go_wp2_with fail
      refine HM.out.mono ?_; rintro e w1 ⟨rfl, rfl⟩
      go_wp2_with fail
      refine HH.out.mono ?_; rintro e w1 ⟨rfl, rfl⟩
      go_wp2_with (at_lookup; refine fr_look rfl _ _ rfl rfl HU.out rfl ?_; rw [HN.out])
      go_ret
      exact ⟨rfl, HB.out⟩
end

end Go.Proofs.Ytfhchdoaaphfaaa
