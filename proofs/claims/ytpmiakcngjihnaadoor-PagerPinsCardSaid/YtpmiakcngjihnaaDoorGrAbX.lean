/-
  What PagerAborts says of a pager, plain.
-/
import Derived.Test.YtpmiakcngjihnaaDoorGmc
set_option linter.unusedVariables false
set_option maxRecDepth 100000
namespace Go.Proofs.YtpmiakcngjihnaaDoor
open Go.RowKit

/-- The page of a round. -/
def abPage (j : Nat) : List UInt8 := pageB 5 (2 + j) 3 [UInt8.ofNat j]
theorem abPage_length (j : Nat) : (abPage j).length = 512 := pageB_length (by simp)

/-- What stays through the law; m pages are there to be read. -/
structure AbC (X : PG) (g m : Nat) (ops : Int) : Prop where
  lo : X.F.lo = 2
  hi : X.F.hi = 60
  g : X.g = g
  n : X.n = 1
  d : X.d = 1
  fl : X.failed = false
  ps : X.pins = []
  left : X.S.left = -1
  ops : X.S.ops ≤ ops
  size : X.S.size = 60
  rd : ∀ j, j < m → X.S.read ((2 + j : Nat) : Int) = abPage j

/-- i pages are in use, none waits; all are laid, or none. -/
structure AbX (X : PG) (g i : Nat) (fl : Bool) (ops : Int) : Prop where
  c : AbC X g i ops
  us : ∀ x, X.F.used x = (decide (2 ≤ x) && decide (x < 2 + (i : Int)))
  ws : ∀ x, X.F.waits x = none
  L : ∀ x, X.L x = (fl && (decide (2 ≤ x) && decide (x < 2 + (i : Int))))

theorem AbX.least {X : PG} {g i : Nat} {fl : Bool} {ops : Int} (h : AbX X g i fl ops) (hi : i < 50) : X.F.least = some ((2 + i : Nat) : Int) := by
  refine FL.least_is ?_ fun j h1 h2 h3 => ?_
  · unfold FL.st FL.has
    rw [h.us, h.ws, h.c.lo, h.c.hi]
    have a1 : decide ((2 : Int) ≤ ((2 + i : Nat) : Int)) = true := decide_eq_true (by omega)
    have a2 : decide (((2 + i : Nat) : Int) < 60) = true := decide_eq_true (by omega)
    have a3 : decide (((2 + i : Nat) : Int) < 2 + (i : Int)) = false := decide_eq_false (by omega)
    rw [a1, a2, a3]
    rfl
  · obtain ⟨h4, _⟩ := FL.free_used h3
    rw [h.us, h.c.lo] at *
    have a1 : decide ((2 : Int) ≤ j) = true := decide_eq_true (by have := h.c.lo; omega)
    have a2 : decide (j < 2 + (i : Int)) = true := decide_eq_true (by omega)
    rw [a1, a2] at h4
    cases h4
theorem AbX.st {X : PG} {g i : Nat} {fl : Bool} {ops : Int} (h : AbX X g i fl ops) {j : Nat} (hj : j < i) (hi : i < 50) : X.F.st ((2 + j : Nat) : Int) = 2 := by
  refine FL.st_two.2 ⟨FL.has_iff.2 ?_, ?_⟩
  · rw [h.c.lo, h.c.hi]; omega
  · rw [h.us, decide_eq_true (show (2 : Int) ≤ ((2 + j : Nat) : Int) by omega), decide_eq_true (show ((2 + j : Nat) : Int) < 2 + (i : Int) by omega)]
    rfl

theorem AbX.lay {X : PG} {i : Nat} {ops : Int} (h : AbX X 2 i true ops) {pg : List UInt8} (hp : pg = abPage i) : AbX (X.lay ((2 + i : Nat) : Int) pg) 2 (i + 1) true (ops + 1) := by
  obtain ⟨⟨c1, c2, c3, c4, c5, c6, c7, c8, c9, c10, c11⟩, h2, h3, h4⟩ := h
  have hl : pg.length = 512 := by rw [hp]; exact abPage_length i
  refine ⟨⟨c1, c2, c3, c4, c5, c6, c7, SD.tick_left c8, by show X.S.ops + 1 ≤ _; omega, c10, fun j hj => ?_⟩, fun x => ?_, h3, fun x => ?_⟩
  · rw [PG.lay_read X hl]
    by_cases hji : j = i
    · rw [if_pos (by omega), hp, hji]
    · rw [if_neg (by omega)]
      exact c11 j (by omega)
  · show (if x = ((2 + i : Nat) : Int) then true else X.F.used x) = _
    rw [h2]
    by_cases hx : x = ((2 + i : Nat) : Int)
    · rw [if_pos hx, decide_eq_true (by omega), decide_eq_true (by omega)]; rfl
    · rw [if_neg hx]
      by_cases h1 : x < 2 + (i : Int)
      · rw [decide_eq_true h1, decide_eq_true (show x < 2 + ((i + 1 : Nat) : Int) by omega)]
      · rw [decide_eq_false h1, decide_eq_false (show ¬ x < 2 + ((i + 1 : Nat) : Int) by omega)]
  · show (if x = ((2 + i : Nat) : Int) then true else X.L x) = _
    rw [h4]
    by_cases hx : x = ((2 + i : Nat) : Int)
    · rw [if_pos hx, decide_eq_true (by omega), decide_eq_true (by omega)]; rfl
    · rw [if_neg hx]
      by_cases h1 : x < 2 + (i : Int)
      · rw [decide_eq_true h1, decide_eq_true (show x < 2 + ((i + 1 : Nat) : Int) by omega)]
      · rw [decide_eq_false h1, decide_eq_false (show ¬ x < 2 + ((i + 1 : Nat) : Int) by omega)]

theorem AbX.follows {X : PG} {i : Nat} {ops : Int} (h : AbX X 2 i true ops) (h1 : 1 ≤ i) (hi : i < 50) : Follows X 2 1 1 := by
  refine ⟨.inr ⟨by decide, ?_⟩, ?_, by rw [h.c.n]; decide, by rw [h.c.d]; decide⟩
  · exact h.st (j := 0) (by omega) hi
  · rw [h.c.g]
    exact MRight.mk' (by omega)

theorem AbX.commit {X : PG} {i : Nat} {ops : Int} (h : AbX X 2 i true ops) : AbX (X.commit 2 1 1) 3 i false (ops + 3) := by
  obtain ⟨⟨c1, c2, c3, c4, c5, c6, c7, c8, c9, c10, c11⟩, h2, h3, h4⟩ := h
  have e : (X.commit 2 1 1).F = X.F := FL.leave_of_none (F := X.F) h3 _
  refine ⟨⟨by rw [e]; exact c1, by rw [e]; exact c2, by show X.g + 1 = 3; omega, rfl, rfl, c6, c7, PG.comS_left c8 _ _ _, ?_, c10, fun j hj => ?_⟩, fun x => by rw [e]; exact h2 x, fun x => by rw [e]; exact h3 x, fun x => rfl⟩
  · show (X.comS 2 1 1).ops ≤ _
    rw [PG.comS_ops]
    omega
  · show (X.comS 2 1 1).read _ = _
    rw [PG.comS_read X 2 1 1 (by omega)]
    exact c11 j hj

/-- One page more was laid, and some were dropped. -/
structure AbD (X : PG) (i : Nat) (ops : Int) : Prop where
  c : AbC X 3 i ops
  L : ∀ x, X.L x = true → x = 2 + (i : Int) ∧ X.F.used x = true
  us : ∀ x, X.F.used x = true → 2 ≤ x ∧ x ≤ 2 + (i : Int) ∧ (x = 2 + (i : Int) → X.L x = true)
  al : ∀ x, 2 ≤ x → x < 2 + (i : Int) → X.F.used x = true ∨ X.F.waits x = some 4
  ws : ∀ x g, X.F.waits x = some g → g = 4 ∧ 2 ≤ x ∧ x < 2 + (i : Int)

theorem AbX.lay2 {X : PG} {i : Nat} {ops : Int} (h : AbX X 3 i false ops) {pg : List UInt8} (hl : pg.length = 512) : AbD (X.lay ((2 + i : Nat) : Int) pg) i (ops + 1) := by
  obtain ⟨⟨c1, c2, c3, c4, c5, c6, c7, c8, c9, c10, c11⟩, h2, h3, h4⟩ := h
  have hu : ∀ x, (X.lay ((2 + i : Nat) : Int) pg).F.used x = if x = ((2 + i : Nat) : Int) then true else X.F.used x := fun x => rfl
  have hL : ∀ x, (X.lay ((2 + i : Nat) : Int) pg).L x = if x = ((2 + i : Nat) : Int) then true else X.L x := fun x => rfl
  refine ⟨⟨c1, c2, c3, c4, c5, c6, c7, SD.tick_left c8, by show X.S.ops + 1 ≤ _; omega, c10, fun j hj => ?_⟩, fun x hx => ?_, fun x hx => ?_, fun x h1 h5 => ?_, fun x g hx => ?_⟩
  · rw [PG.lay_read X hl, if_neg (by omega)]
    exact c11 j hj
  · rw [hL] at hx
    by_cases e : x = ((2 + i : Nat) : Int)
    · exact ⟨by omega, by rw [hu, if_pos e]⟩
    · rw [if_neg e, h4] at hx
      cases hx
  · rw [hu] at hx
    by_cases e : x = ((2 + i : Nat) : Int)
    · exact ⟨by omega, by omega, fun _ => by rw [hL, if_pos e]⟩
    · rw [if_neg e, h2, Bool.and_eq_true, decide_eq_true_iff, decide_eq_true_iff] at hx
      exact ⟨hx.1, by omega, fun h => by omega⟩
  · left
    rw [hu]
    split
    · rfl
    · rw [h2, decide_eq_true h1, decide_eq_true h5]; rfl
  · have h6 : X.F.waits x = some g := hx
    rw [h3] at h6
    cases h6

theorem AbD.drop {X : PG} {i : Nat} {ops : Int} (h : AbD X i ops) (k : Int) : AbD (X.drop k) i ops := by
  obtain ⟨⟨c1, c2, c3, c4, c5, c6, c7, c8, c9, c10, c11⟩, h2, h3, h4, h5⟩ := h
  unfold PG.drop
  by_cases hL : X.L k = true
  · rw [if_pos hL]
    obtain ⟨hk, _⟩ := h2 k hL
    refine ⟨⟨c1, c2, c3, c4, c5, c6, c7, c8, c9, c10, c11⟩, fun x hx => ?_, fun x hx => ?_, fun x a1 a2 => ?_, h5⟩
    · simp only [FL.drop] at hx ⊢
      by_cases e : x = k
      · simp [e] at hx
      · simp only [e, if_false] at hx ⊢; exact h2 x hx
    · simp only [FL.drop] at hx ⊢
      by_cases e : x = k
      · simp [e] at hx
      · simp only [e, if_false] at hx ⊢; exact h3 x hx
    · simp only [FL.drop]
      rw [if_neg (by omega)]
      exact h4 x a1 a2
  · rw [if_neg hL]
    by_cases hs : X.F.st k = 2
    · rw [if_pos hs]
      obtain ⟨_, hu⟩ := FL.st_two.1 hs
      obtain ⟨k1, k2, k3⟩ := h3 k hu
      have hk : k < 2 + (i : Int) := by
        rcases Int.lt_or_eq_of_le k2 with h | h
        · exact h
        · exact absurd (k3 h) hL
      refine ⟨⟨c1, c2, c3, c4, c5, c6, c7, c8, c9, c10, c11⟩, fun x hx => ?_, fun x hx => ?_, fun x a1 a2 => ?_, fun x g hx => ?_⟩
      · obtain ⟨a1, a2⟩ := h2 x hx
        refine ⟨a1, ?_⟩
        simp only [FL.late, FL.drop]
        rw [if_neg (by omega)]
        exact a2
      · simp only [FL.late, FL.drop] at hx
        by_cases e : x = k
        · simp [e] at hx
        · simp only [e, if_false] at hx; exact h3 x hx
      · simp only [FL.late, FL.drop]
        by_cases e : x = k
        · right; rw [if_pos e, c3]; rfl
        · rw [if_neg e, if_neg e]; exact h4 x a1 a2
      · simp only [FL.late, FL.drop] at hx
        by_cases e : x = k
        · rw [if_pos e, c3] at hx
          cases hx
          exact ⟨rfl, by omega, by omega⟩
        · rw [if_neg e] at hx; exact h5 x g hx
    · rw [if_neg hs]
      exact ⟨⟨c1, c2, c3, c4, c5, c6, c7, c8, c9, c10, c11⟩, h2, h3, h4, h5⟩
theorem AbD.laid {X : PG} {i : Nat} {ops : Int} (h : AbD X i ops) (hi : i < 50) (k : Int) (hk : X.L k = true) : X.F.st k = 2 := by
  obtain ⟨h1, h2⟩ := h.L k hk
  exact FL.st_two.2 ⟨FL.has_iff.2 (by rw [h.c.lo, h.c.hi]; omega), h2⟩

theorem AbD.abort {X : PG} {i : Nat} {ops : Int} (h : AbD X i ops) : AbX X.abort 3 i false ops := by
  obtain ⟨⟨c1, c2, c3, c4, c5, c6, c7, c8, c9, c10, c11⟩, h2, h3, h4, h5⟩ := h
  have hg : ((X.g : Nat) : Int) + 1 = 4 := by rw [c3]; rfl
  refine ⟨⟨c1, c2, c3, c4, c5, c6, c7, c8, c9, c10, c11⟩, fun x => ?_, fun x => ?_, fun x => rfl⟩
  · show ((X.F.used x && !X.L x) || (match X.F.waits x with | some g => g == (X.g : Int) + 1 | none => false)) = _
    rw [hg]
    by_cases hx : 2 ≤ x ∧ x < 2 + (i : Int)
    · rw [decide_eq_true hx.1, decide_eq_true hx.2]
      rcases h4 x hx.1 hx.2 with h6 | h6
      · have hL : X.L x = false := by
          cases hL : X.L x
          · rfl
          · have := (h2 x hL).1; omega
        rw [h6, hL]; rfl
      · rw [h6]; simp
    · have e : (decide (2 ≤ x) && decide (x < 2 + (i : Int))) = false := by
        rw [Bool.and_eq_false_iff, decide_eq_false_iff_not, decide_eq_false_iff_not]
        omega
      rw [e]
      have hw : X.F.waits x = none := by
        cases hw : X.F.waits x with
        | none => rfl
        | some g => exact absurd (h5 x g hw).2 hx
      rw [hw]
      cases hu : X.F.used x
      · rfl
      · obtain ⟨a1, a2, a3⟩ := h3 x hu
        rw [a3 (by omega)]
        rfl
  · show (match X.F.waits x with | some g => if (g == (X.g : Int) + 1) then none else some g | none => none) = none
    rw [hg]
    cases hw : X.F.waits x with
    | none => rfl
    | some g =>
      obtain ⟨rfl, _⟩ := h5 x g hw
      rfl

theorem AbX.counts {X : PG} {g i : Nat} {fl : Bool} {ops : Int} (h : AbX X g i fl ops) (hF : X.F.Ok) : X.F.nUsed = i ∧ X.F.nWaits = 0 := by
  refine ⟨?_, FL.no_waits h.ws⟩
  rw [hF.used_len (upFrom_nodup 2 i) fun k => ?_, upFrom_length]
  rw [mem_upFrom, h.us, Bool.and_eq_true, decide_eq_true_iff, decide_eq_true_iff]

theorem AbX.new {S : SD} (hz : S.size = 60) (hl : S.left = -1) (ho : S.ops ≤ 10) : AbX (PG.new S 2 0 1 1) 2 0 true 10 := by
  refine ⟨⟨rfl, hz, rfl, rfl, rfl, rfl, rfl, hl, ho, hz, fun j hj => by omega⟩, fun x => ?_, fun x => rfl, fun x => ?_⟩
  · show false = _
    by_cases h1 : (2 : Int) ≤ x
    · rw [decide_eq_false (show ¬ x < 2 + ((0 : Nat) : Int) by omega)]; simp
    · rw [decide_eq_false h1]; rfl
  · show false = _
    by_cases h1 : (2 : Int) ≤ x
    · rw [decide_eq_false (show ¬ x < 2 + ((0 : Nat) : Int) by omega)]; simp
    · rw [decide_eq_false h1]; rfl

end Go.Proofs.YtpmiakcngjihnaaDoor
