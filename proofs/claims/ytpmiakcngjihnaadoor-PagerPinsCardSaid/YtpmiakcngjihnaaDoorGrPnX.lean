/-
  What PagerPins says of a pager, plain.
-/
import Derived.Test.YtpmiakcngjihnaaDoorGmc
import Derived.Test.YtpmiakcngjihnaaDoorGmd
set_option linter.unusedVariables false
set_option maxRecDepth 100000
namespace Go.Proofs.YtpmiakcngjihnaaDoor
open Go.RowKit

/-- The page of a round of the first. -/
def pnPage (j : Nat) : List UInt8 := pageB 5 (2 + j) 3 [UInt8.ofNat j]
theorem pnPage_length (j : Nat) : (pnPage j).length = 512 := pageB_length (by simp)

/-- What stays through the law; m pages are there to be read; g the generation; the pins. -/
structure PnC (X : PG) (g m : Nat) (ops : Int) (ps : List (Int × Int)) : Prop where
  lo : X.F.lo = 2
  hi : X.F.hi = 100
  g : X.g = g
  n : X.n = 1
  d : X.d = 1
  fl : X.failed = false
  ps : X.pins = ps
  left : X.S.left = -1
  ops : X.S.ops ≤ ops
  size : X.S.size = 100
  rd : ∀ j, j < m → X.S.read ((2 + j : Nat) : Int) = pnPage j

/-- The pages from a on are in use up to b; those from l on are laid; those ahead of a wait. -/
structure PnX (X : PG) (g m a l b : Nat) (ops : Int) (ps : List (Int × Int)) : Prop where
  c : PnC X g m ops ps
  us : ∀ x, X.F.used x = (decide ((a : Int) ≤ x) && decide (x < (b : Int)))
  L : ∀ x, X.L x = (decide ((l : Int) ≤ x) && decide (x < (b : Int)))
  w1 : ∀ x, (X.F.waits x).isSome = (decide ((2 : Int) ≤ x) && decide (x < (a : Int)))
  w2 : ∀ x w, X.F.waits x = some w → 4 ≤ w ∧ w ≤ (g : Int) + 1 ∧ (l = b → w ≤ (g : Int))
  al : 2 ≤ a ∧ a ≤ l ∧ l ≤ b ∧ b < 100

theorem PnX.least {X : PG} {g m a l b : Nat} {ops : Int} {ps : List (Int × Int)} (h : PnX X g m a l b ops ps) : X.F.least = some (b : Int) := by
  obtain ⟨a1, a2, a3, a4⟩ := h.al
  have hw : ∀ x : Int, (a : Int) ≤ x → X.F.waits x = none := fun x hx => by
    have := h.w1 x
    rw [decide_eq_false (show ¬ x < (a : Int) by omega), Bool.and_false] at this
    cases hw : X.F.waits x with
    | none => rfl
    | some w => rw [hw] at this; cases this
  refine FL.least_is ?_ fun j h1 h2 h3 => ?_
  · unfold FL.st FL.has
    rw [h.us, hw _ (by omega), h.c.lo, h.c.hi, decide_eq_true (show (2 : Int) ≤ (b : Int) by omega), decide_eq_true (show (b : Int) < 100 by omega), decide_eq_false (show ¬ (b : Int) < (b : Int) by omega), Bool.and_false]
    rfl
  · obtain ⟨h4, h5, _⟩ := FL.free_used h3
    have hlo := h.c.lo
    by_cases hja : j < (a : Int)
    · have := h.w1 j
      rw [h5, decide_eq_true (show (2 : Int) ≤ j by omega), decide_eq_true hja] at this
      cases this
    · rw [h.us, decide_eq_true (show (a : Int) ≤ j by omega), decide_eq_true h2] at h4
      cases h4

theorem PnX.st {X : PG} {g m a l b : Nat} {ops : Int} {ps : List (Int × Int)} (h : PnX X g m a l b ops ps) {x : Int} (h1 : (a : Int) ≤ x) (h2 : x < (b : Int)) : X.F.st x = 2 := by
  obtain ⟨a1, a2, a3, a4⟩ := h.al
  refine FL.st_two.2 ⟨FL.has_iff.2 ?_, ?_⟩
  · rw [h.c.lo, h.c.hi]; omega
  · rw [h.us, decide_eq_true h1, decide_eq_true h2]; rfl
theorem PnX.st_any {X : PG} {g m a l b : Nat} {ops : Int} {ps : List (Int × Int)} (h : PnX X g m a l b ops ps) {x : Int} (h1 : (2 : Int) ≤ x) (h2 : x < (b : Int)) : X.F.st x ≠ 0 := by
  obtain ⟨a1, a2, a3, a4⟩ := h.al
  have hh : X.F.has x = true := FL.has_iff.2 (by rw [h.c.lo, h.c.hi]; omega)
  unfold FL.st
  rw [if_pos hh]
  split
  · decide
  · split <;> decide
theorem PnX.laid {X : PG} {g m a l b : Nat} {ops : Int} {ps : List (Int × Int)} (h : PnX X g m a l b ops ps) (k : Int) (hk : X.L k = true) : X.F.st k = 2 := by
  rw [h.L, Bool.and_eq_true, decide_eq_true_iff, decide_eq_true_iff] at hk
  exact h.st (by have := h.al; omega) hk.2

theorem PnX.lay {X : PG} {g m a l b : Nat} {ops : Int} {ps : List (Int × Int)} (h : PnX X g m a l b ops ps) (hb : b + 1 < 100) {pg : List UInt8} (hp : pg.length = 512) {m' : Nat} (hm : m' = m ∧ m + 2 ≤ b ∨ m' = m + 1 ∧ b = 2 + m ∧ pg = pnPage m) : PnX (X.lay (b : Int) pg) g m' a l (b + 1) (ops + 1) ps := by
  obtain ⟨⟨c1, c2, c3, c4, c5, c6, c7, c8, c9, c10, c11⟩, h2, h3, h4, h5, a1, a2, a3, a4⟩ := h
  refine ⟨⟨c1, c2, c3, c4, c5, c6, c7, SD.tick_left c8, by show X.S.ops + 1 ≤ _; omega, c10, fun j hj => ?_⟩, fun x => ?_, fun x => ?_, h4, fun x w hx => ⟨(h5 x w hx).1, (h5 x w hx).2.1, fun e => by omega⟩, by omega⟩
  · rw [PG.lay_read X hp]
    rcases hm with ⟨rfl, hmb⟩ | ⟨rfl, rfl, rfl⟩
    · rw [if_neg (by omega)]
      exact c11 j hj
    · by_cases hjm : j = m
      · rw [if_pos (by omega), hjm]
      · rw [if_neg (by omega)]
        exact c11 j (by omega)
  · show (if x = (b : Int) then true else X.F.used x) = _
    rw [h2]
    by_cases hx : x = (b : Int)
    · rw [if_pos hx, decide_eq_true (by omega), decide_eq_true (by omega)]; rfl
    · rw [if_neg hx]
      by_cases h1 : x < (b : Int)
      · rw [decide_eq_true h1, decide_eq_true (show x < ((b + 1 : Nat) : Int) by omega)]
      · rw [decide_eq_false h1, decide_eq_false (show ¬ x < ((b + 1 : Nat) : Int) by omega)]
  · show (if x = (b : Int) then true else X.L x) = _
    rw [h3]
    by_cases hx : x = (b : Int)
    · rw [if_pos hx, decide_eq_true (by omega), decide_eq_true (by omega)]; rfl
    · rw [if_neg hx]
      by_cases h1 : x < (b : Int)
      · rw [decide_eq_true h1, decide_eq_true (show x < ((b + 1 : Nat) : Int) by omega)]
      · rw [decide_eq_false h1, decide_eq_false (show ¬ x < ((b + 1 : Nat) : Int) by omega)]

theorem PnX.drop {X : PG} {g m a l b : Nat} {ops : Int} {ps : List (Int × Int)} (h : PnX X g m a l b ops ps) (ha : a < l) (hlb : l < b) (hg : 3 ≤ g) : PnX (X.drop (a : Int)) g m (a + 1) l b ops ps ∧ X.dropE (a : Int) = 0 := by
  have hst := h.st (x := (a : Int)) (by omega) (by have := h.al; omega)
  obtain ⟨⟨c1, c2, c3, c4, c5, c6, c7, c8, c9, c10, c11⟩, h2, h3, h4, h5, a1, a2, a3, a4⟩ := h
  have hL : ¬ X.L (a : Int) = true := by
    rw [h3, decide_eq_false (show ¬ (l : Int) ≤ (a : Int) by omega)]
    simp
  unfold PG.drop PG.dropE
  rw [if_neg hL, if_pos hst, if_neg hL, if_pos hst]
  refine ⟨⟨⟨c1, c2, c3, c4, c5, c6, c7, c8, c9, c10, c11⟩, fun x => ?_, h3, fun x => ?_, fun x w hx => ?_, by omega⟩, rfl⟩
  · show (if x = (a : Int) then false else X.F.used x) = _
    rw [h2]
    by_cases hx : x = (a : Int)
    · rw [if_pos hx, decide_eq_false (show ¬ ((a + 1 : Nat) : Int) ≤ x by omega)]; rfl
    · rw [if_neg hx]
      by_cases h1 : (a : Int) ≤ x
      · rw [decide_eq_true h1, decide_eq_true (show ((a + 1 : Nat) : Int) ≤ x by omega)]
      · rw [decide_eq_false h1, decide_eq_false (show ¬ ((a + 1 : Nat) : Int) ≤ x by omega)]
  · show (if x = (a : Int) then some ((X.g : Int) + 1) else X.F.waits x).isSome = _
    by_cases hx : x = (a : Int)
    · rw [if_pos hx, decide_eq_true (by omega), decide_eq_true (by omega)]; rfl
    · rw [if_neg hx, h4]
      by_cases h1 : x < (a : Int)
      · rw [decide_eq_true h1, decide_eq_true (show x < ((a + 1 : Nat) : Int) by omega)]
      · rw [decide_eq_false h1, decide_eq_false (show ¬ x < ((a + 1 : Nat) : Int) by omega)]
  · have hx' : (if x = (a : Int) then some ((X.g : Int) + 1) else X.F.waits x) = some w := hx
    by_cases e : x = (a : Int)
    · rw [if_pos e, c3] at hx'
      cases hx'
      exact ⟨by omega, by omega, fun e => by omega⟩
    · rw [if_neg e] at hx'
      exact h5 x w hx'

theorem PnX.follows {X : PG} {g m a l b : Nat} {ops : Int} {ps : List (Int × Int)} (h : PnX X g m a l b ops ps) {r : Nat} (h1 : a ≤ r) (h2 : r < b) (hg : g ≤ 1000) : Follows X r 1 1 := by
  obtain ⟨a1, a2, a3, a4⟩ := h.al
  refine ⟨.inr ⟨by omega, h.st (by omega) (by omega)⟩, ?_, by rw [h.c.n]; decide, by rw [h.c.d]; decide⟩
  rw [h.c.g]
  exact MRight.mk' (by omega)

/-- A commit, where what waits is kept: by a pin of 3, or as nothing waits. -/
theorem PnX.commit {X : PG} {g m a l b : Nat} {ops : Int} {ps : List (Int × Int)} (h : PnX X g m a l b ops ps) (hk : ps = [(3, 1)] ∨ a = 2) (r : Nat) : PnX (X.commit r 1 1) (g + 1) m a b b (ops + 3) ps := by
  obtain ⟨⟨c1, c2, c3, c4, c5, c6, c7, c8, c9, c10, c11⟩, h2, h3, h4, h5, a1, a2, a3, a4⟩ := h
  have hw : ∀ x, (X.commit r 1 1).F.waits x = X.F.waits x := fun x => by
    show (match X.F.waits x with | some g => if decide (g ≤ (X.com0 r 1 1).low) then none else some g | none => none) = _
    cases hx : X.F.waits x with
    | none => rfl
    | some w =>
      have h6 := (h5 x w hx).1
      rcases hk with hk | hk
      · have e : (X.com0 r 1 1).low = 3 := by unfold PG.low; rw [show (X.com0 r 1 1).pins = X.pins from rfl, c7, hk]
        simp only [e]
        rw [decide_eq_false (by omega)]
        rfl
      · have := h4 x
        rw [hx, hk] at this
        exfalso
        have hh : (decide ((2 : Int) ≤ x) && decide (x < ((2 : Nat) : Int))) = true := this.symm
        rw [Bool.and_eq_true, decide_eq_true_iff, decide_eq_true_iff] at hh
        omega
  refine ⟨⟨c1, c2, by show X.g + 1 = _; omega, rfl, rfl, c6, c7, PG.comS_left c8 _ _ _, ?_, c10, fun j hj => ?_⟩, h2, fun x => ?_, fun x => by rw [hw]; exact h4 x, fun x w hx => by
    rw [hw] at hx
    have h6 := h5 x w hx
    exact ⟨h6.1, by omega, fun _ => by omega⟩, by omega⟩
  · show (X.comS r 1 1).ops ≤ _
    rw [PG.comS_ops]
    omega
  · show (X.comS r 1 1).read _ = _
    rw [PG.comS_read X r 1 1 (by omega)]
    exact c11 j hj
  · show false = _
    by_cases h1 : (b : Int) ≤ x
    · rw [decide_eq_false (show ¬ x < (b : Int) by omega), Bool.and_false]
    · rw [decide_eq_false h1]; rfl

/-- With another list of pins. -/
theorem PnX.pins {X : PG} {g m a l b : Nat} {ops : Int} {ps qs : List (Int × Int)} (h : PnX X g m a l b ops ps) : PnX { X with pins := qs } g m a l b ops qs :=
  ⟨⟨h.c.lo, h.c.hi, h.c.g, h.c.n, h.c.d, h.c.fl, rfl, h.c.left, h.c.ops, h.c.size, h.c.rd⟩, h.us, h.L, h.w1, h.w2, h.al⟩

theorem upFrom_used {X : PG} {g m a l b : Nat} {ops : Int} {ps : List (Int × Int)} (h : PnX X g m a l b ops ps) (hF : X.F.Ok) : X.F.nUsed = b - a ∧ X.F.nWaits = a - 2 := by
  obtain ⟨a1, a2, a3, a4⟩ := h.al
  constructor
  · rw [hF.used_len (upFrom_nodup a (b - a)) fun k => ?_, upFrom_length]
    rw [mem_upFrom, h.us, Bool.and_eq_true, decide_eq_true_iff, decide_eq_true_iff]
    omega
  · unfold FL.nWaits
    rw [countP_list (m := upFrom 2 (a - 2)) _ X.F.pages_nodup (upFrom_nodup 2 (a - 2)) fun k => ?_, upFrom_length]
    rw [mem_upFrom, h.w1, Bool.and_eq_true, decide_eq_true_iff, decide_eq_true_iff, FL.mem_pages, h.c.lo, h.c.hi]
    omega

/-- Behind the last Unpin nothing waits. -/
theorem settle_free {X : PG} {g m a l b : Nat} {ops : Int} {ps : List (Int × Int)} (h : PnX X g m a l b ops ps) (hps : X.pins = []) (hw : ∀ x w, X.F.waits x = some w → w ≤ (g : Int)) (hF : X.settle.F.Ok) : X.settle.F.nUsed = b - a ∧ X.settle.F.nWaits = 0 ∧ X.settle.F.nFree = 98 - (b - a : Nat) := by
  obtain ⟨a1, a2, a3, a4⟩ := h.al
  have hlow : X.low = (g : Int) := by unfold PG.low; rw [hps, h.c.g]
  have h0 : ∀ k, X.settle.F.waits k = none := fun k => by
    show (match X.F.waits k with | some g => if decide (g ≤ X.low) then none else some g | none => none) = none
    cases hk : X.F.waits k with
    | none => rfl
    | some w =>
      simp only
      rw [hlow, decide_eq_true (hw k w hk)]
      rfl
  have hu : X.settle.F.nUsed = b - a := by
    rw [hF.used_len (upFrom_nodup a (b - a)) fun k => ?_, upFrom_length]
    rw [mem_upFrom]
    show _ ↔ X.F.used k = true
    rw [h.us, Bool.and_eq_true, decide_eq_true_iff, decide_eq_true_iff]
    omega
  have hnw := FL.no_waits h0
  refine ⟨hu, hnw, ?_⟩
  unfold FL.nFree
  rw [hu, hnw]
  show X.F.hi - X.F.lo - _ - _ = _
  rw [h.c.lo, h.c.hi]
  omega

theorem PnX.new {S : SD} (hz : S.size = 100) (hl : S.left = -1) (ho : S.ops ≤ 10) : PnX (PG.new S 2 0 1 1) 2 0 2 2 2 10 [] := by
  have hf : ∀ x : Int, false = (decide ((2 : Int) ≤ x) && decide (x < (2 : Int))) := fun x => by
    by_cases h1 : (2 : Int) ≤ x
    · rw [decide_eq_false (show ¬ x < (2 : Int) by omega), Bool.and_false]
    · rw [decide_eq_false h1, Bool.false_and]
  exact ⟨⟨rfl, hz, rfl, rfl, rfl, rfl, rfl, hl, ho, hz, fun j hj => by omega⟩, fun x => hf x, fun x => hf x, fun x => hf x, fun x w hx => (by cases hx), by omega⟩

end Go.Proofs.YtpmiakcngjihnaaDoor
