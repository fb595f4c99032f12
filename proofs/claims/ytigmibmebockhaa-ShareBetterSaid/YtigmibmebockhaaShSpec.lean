/-
  Where sizes are cut, plain: the best cut of those ahead of n.
-/
import Derived.Test.YtigmibmebockhaaBase
set_option linter.unusedVariables false
set_option maxRecDepth 100000
namespace Go.Proofs.Ytigmibmebockhaa

/-- What stands ahead of a cut, and behind it, together. -/
def shP (l : List Int) (k : Nat) : Int := (l.take k).sum
def shQ (l : List Int) (k : Nat) : Int := (l.drop k).sum
theorem shPQ (l : List Int) (k : Nat) : shP l k + shQ l k = l.sum := by
  unfold shP shQ
  rw [← List.sum_append, List.take_append_drop]
def shG (l : List Int) (k : Nat) : Int := if shP l k ≤ shQ l k then shQ l k - shP l k else shP l k - shQ l k
def ShFit (l : List Int) (most : Int) (k : Nat) : Prop := shP l k ≤ most ∧ shQ l k ≤ most
instance (l : List Int) (most : Int) (k : Nat) : Decidable (ShFit l most k) := inferInstanceAs (Decidable (_ ∧ _))

theorem shP_zero (l : List Int) : shP l 0 = 0 := by simp [shP]
theorem shP_succ {l : List Int} {k : Nat} {x : Int} (h : l[k]? = some x) : shP l (k + 1) = shP l k + x := by
  unfold shP
  rw [List.take_add_one, h]
  simp
theorem shG_le (l : List Int) (k : Nat) : 0 ≤ shG l k := by unfold shG; split <;> omega

/-- The best cut of those from 1 on, below n. -/
structure ShBest (l : List Int) (most : Int) (n b : Nat) (d : Int) (f : Bool) : Prop where
  no : f = false → b = 0 ∧ d = 0 ∧ ∀ i, 1 ≤ i → i < n → ¬ ShFit l most i
  yes : f = true → 1 ≤ b ∧ b < n ∧ ShFit l most b ∧ d = shG l b ∧ ∀ i, 1 ≤ i → i < n → ShFit l most i → shG l b ≤ shG l i ∧ (i < b → shG l b < shG l i)

theorem ShBest.one (l : List Int) (most : Int) : ShBest l most 1 0 0 false := ⟨fun _ => ⟨rfl, rfl, fun i h1 h2 => by omega⟩, fun h => by cases h⟩
theorem ShBest.zero {l : List Int} {most : Int} {b : Nat} {d : Int} {f : Bool} (h : ShBest l most 1 b d f) : ShBest l most 0 b d f := by
  cases f
  · obtain ⟨h1, h2, h3⟩ := h.no rfl
    exact ⟨fun _ => ⟨h1, h2, fun i h4 h5 => by omega⟩, fun h => by cases h⟩
  · obtain ⟨h1, h2, _⟩ := h.yes rfl
    omega
theorem ShBest.skip {l : List Int} {most : Int} {n b : Nat} {d : Int} {f : Bool} (h : ShBest l most n b d f) (hs : ¬ ShFit l most n ∨ (f = true ∧ d ≤ shG l n)) : ShBest l most (n + 1) b d f := by
  cases f
  · obtain ⟨h1, h2, h3⟩ := h.no rfl
    have h4 : ¬ ShFit l most n := by rcases hs with h | ⟨h, _⟩; exact h; cases h
    refine ⟨fun _ => ⟨h1, h2, fun i h5 h6 => ?_⟩, fun h => by cases h⟩
    rcases Nat.lt_or_ge i n with h7 | h7
    · exact h3 i h5 h7
    · obtain rfl : i = n := by omega
      exact h4
  · obtain ⟨h1, h2, h3, h4, h5⟩ := h.yes rfl
    refine ⟨fun h => (by cases h), fun _ => ⟨h1, by omega, h3, h4, fun i h6 h7 h8 => ?_⟩⟩
    rcases Nat.lt_or_ge i n with h9 | h9
    · exact h5 i h6 h9 h8
    · obtain rfl : i = n := by omega
      rcases hs with h | ⟨_, h⟩
      · exact absurd h8 h
      · exact ⟨by omega, by omega⟩
theorem ShBest.take {l : List Int} {most : Int} {n b : Nat} {d : Int} {f : Bool} (h : ShBest l most n b d f) (hn : 1 ≤ n) (hf : ShFit l most n) (hs : f = false ∨ shG l n < d) : ShBest l most (n + 1) n (shG l n) true := by
  refine ⟨fun h => (by cases h), fun _ => ⟨hn, by omega, hf, rfl, fun i h6 h7 h8 => ?_⟩⟩
  rcases Nat.lt_or_ge i n with h9 | h9
  · cases f
    · exact absurd h8 ((h.no rfl).2.2 i h6 h9)
    · obtain ⟨h1, h2, h3, h4, h5⟩ := h.yes rfl
      have := (h5 i h6 h9 h8).1
      rcases hs with h | h
      · cases h
      · exact ⟨by omega, by omega⟩
  · obtain rfl : i = n := by omega
    exact ⟨by omega, by omega⟩
theorem ShBest.only {l : List Int} {most : Int} {n b b' : Nat} {d d' : Int} {f f' : Bool} (h : ShBest l most n b d f) (h' : ShBest l most n b' d' f') : b = b' ∧ f = f' := by
  cases f <;> cases f'
  · exact ⟨(h.no rfl).1.trans (h'.no rfl).1.symm, rfl⟩
  · obtain ⟨h1, h2, h3, h4, h5⟩ := h'.yes rfl
    exact absurd h3 ((h.no rfl).2.2 _ h1 h2)
  · obtain ⟨h1, h2, h3, h4, h5⟩ := h.yes rfl
    exact absurd h3 ((h'.no rfl).2.2 _ h1 h2)
  · obtain ⟨h1, h2, h3, h4, h5⟩ := h.yes rfl
    obtain ⟨g1, g2, g3, g4, g5⟩ := h'.yes rfl
    obtain ⟨a1, a2⟩ := h5 _ g1 g2 g3
    obtain ⟨c1, c2⟩ := g5 _ h1 h2 h3
    refine ⟨?_, rfl⟩
    rcases Nat.lt_trichotomy b b' with h | h | h
    · have := c2 h; omega
    · exact h
    · have := a2 h; omega

/-- What Cut answers. -/
def shRight (l : List Int) : Prop := l.length ≤ 4096 ∧ ∀ x ∈ l, 0 ≤ x ∧ x ≤ 1048576
instance (l : List Int) : Decidable (shRight l) := inferInstanceAs (Decidable (_ ∧ _))
def ShCut (l : List Int) (most : Int) (b : Nat) (f : Bool) : Prop :=
  (0 ≤ most ∧ shRight l → ∃ d, ShBest l most l.length b d f) ∧ (¬ (0 ≤ most ∧ shRight l) → b = 0 ∧ f = false)
theorem ShCut.only {l : List Int} {most : Int} {b b' : Nat} {f f' : Bool} (h : ShCut l most b f) (h' : ShCut l most b' f') : b = b' ∧ f = f' := by
  by_cases hc : 0 ≤ most ∧ shRight l
  · obtain ⟨d, h1⟩ := h.1 hc
    obtain ⟨d', h2⟩ := h'.1 hc
    exact h1.only h2
  · obtain ⟨rfl, rfl⟩ := h.2 hc
    obtain ⟨rfl, rfl⟩ := h'.2 hc
    exact ⟨rfl, rfl⟩
/-- A cut that is the only one, or the best by trial. -/
theorem ShCut.is {l : List Int} {most : Int} {b k : Nat} {f : Bool} (h : ShCut l most b f) (h0 : 0 ≤ most) (hr : shRight l) (hk : 1 ≤ k) (hkn : k < l.length) (hf : ShFit l most k)
    (hall : ∀ i, 1 ≤ i → i < l.length → i ≠ k → shG l k < shG l i) : b = k ∧ f = true := by
  obtain ⟨d, h1⟩ := h.1 ⟨h0, hr⟩
  cases f
  · exact absurd hf ((h1.no rfl).2.2 k hk hkn)
  · obtain ⟨g1, g2, g3, g4, g5⟩ := h1.yes rfl
    refine ⟨?_, rfl⟩
    rcases Nat.decEq b k with hne | he
    · have := hall b g1 g2 hne
      have := (g5 k hk hkn hf).1
      omega
    · exact he
theorem ShCut.two {x y most : Int} {b : Nat} {f : Bool} (h : ShCut [x, y] most b f) (h0 : 0 ≤ most) (hx : 0 ≤ x ∧ x ≤ most ∧ x ≤ 1048576) (hy : 0 ≤ y ∧ y ≤ most ∧ y ≤ 1048576) : b = 1 ∧ f = true :=
  h.is h0 ⟨by simp, by simp; omega⟩ (Nat.le_refl 1) (by simp) (by simp [ShFit, shP, shQ]; omega) (fun i h1 h2 h3 => by simp at h2; omega)
theorem ShCut.three {b : Nat} {f : Bool} (h : ShCut [3, 3, 4] 7 b f) : b = 2 ∧ f = true :=
  h.is (by decide) ⟨by decide, by decide⟩ (by decide) (by decide) (by decide) (fun i h1 h2 h3 => by
    obtain rfl : i = 1 := by simp at h2; omega
    decide)

theorem sum_bounds {l : List Int} {B : Int} (h : ∀ x ∈ l, 0 ≤ x ∧ x ≤ B) : 0 ≤ l.sum ∧ l.sum ≤ l.length * B := by
  induction l with
  | nil => simp
  | cons x t ih =>
    have h1 := h x (by simp)
    have h2 := ih fun y hy => h y (by simp [hy])
    have h3 : ((x :: t).length : Int) * B = t.length * B + B := by simp [Int.add_mul]
    rw [List.sum_cons]
    omega
theorem shP_bounds {l : List Int} {B : Int} (h : ∀ x ∈ l, 0 ≤ x ∧ x ≤ B) (hB : 0 ≤ B) (k : Nat) : 0 ≤ shP l k ∧ shP l k ≤ l.length * B := by
  have h1 := sum_bounds (l := l.take k) fun x hx => h x (List.mem_of_mem_take hx)
  have h2 := sum_bounds (l := l.drop k) fun x hx => h x (List.mem_of_mem_drop hx)
  have h3 := shPQ l k
  have h4 := sum_bounds h
  unfold shP shQ at *
  omega
theorem shQ_bounds {l : List Int} {B : Int} (h : ∀ x ∈ l, 0 ≤ x ∧ x ≤ B) (hB : 0 ≤ B) (k : Nat) : 0 ≤ shQ l k ∧ shQ l k ≤ l.length * B := by
  have h1 := sum_bounds (l := l.take k) fun x hx => h x (List.mem_of_mem_take hx)
  have h2 := sum_bounds (l := l.drop k) fun x hx => h x (List.mem_of_mem_drop hx)
  have h3 := shPQ l k
  have h4 := sum_bounds h
  unfold shP shQ at *
  omega

/-- Things of at most a third each, together above the most, without the last one not: both parts of the best cut are at least a third. -/
theorem sh_halves {l : List Int} {most b : Int} {k : Nat} {f : Bool} (h : ShCut l most k f) (h9 : 9 ≤ most) (hm : most ≤ 1048576) (hl : l.length ≤ 4096) (ht : ∀ x ∈ l, 0 ≤ x ∧ x ≤ most / 3) (ha : most < l.sum) (hb : l.sum ≤ most + most / 3) :
    f = true ∧ 1 ≤ k ∧ k < l.length ∧ shP l k ≤ most ∧ shQ l k ≤ most ∧ most - 2 ≤ 3 * shP l k ∧ most - 2 ≤ 3 * shQ l k := by
  obtain ⟨d, h1⟩ := h.1 ⟨by omega, hl, fun x hx => ⟨(ht x hx).1, by have := (ht x hx).2; omega⟩⟩
  -- the first cut whose part is at least a half
  have hex : ∃ i, i ≤ l.length ∧ l.sum ≤ 2 * shP l i ∧ ∀ j, j < i → 2 * shP l j < l.sum := by
    have key : ∀ n, n ≤ l.length → (∃ i, i ≤ n ∧ l.sum ≤ 2 * shP l i ∧ ∀ j, j < i → 2 * shP l j < l.sum) ∨ ∀ j, j ≤ n → 2 * shP l j < l.sum := by
      intro n
      induction n with
      | zero => intro _; refine .inr fun j hj => ?_; obtain rfl : j = 0 := by omega
                rw [shP_zero]; omega
      | succ n ih =>
        intro hn
        rcases ih (by omega) with ⟨i, h2, h3⟩ | h2
        · exact .inl ⟨i, by omega, h3⟩
        · rcases Int.lt_or_le (2 * shP l (n + 1)) l.sum with h3 | h3
          · refine .inr fun j hj => ?_
            rcases Nat.lt_or_ge n j with h4 | h4
            · obtain rfl : j = n + 1 := by omega
              exact h3
            · exact h2 j h4
          · exact .inl ⟨n + 1, Nat.le_refl _, h3, fun j hj => h2 j (by omega)⟩
    rcases key l.length (Nat.le_refl _) with h2 | h2
    · exact h2
    · have := h2 l.length (Nat.le_refl _)
      have h3 : shP l l.length = l.sum := by simp [shP]
      omega
  obtain ⟨i, hi, hi1, hi2⟩ := hex
  have hi0 : 1 ≤ i := by
    rcases Nat.eq_zero_or_pos i with h | h
    · subst h; rw [shP_zero] at hi1; omega
    · exact h
  obtain ⟨x, hx⟩ : ∃ x, l[i - 1]? = some x := ⟨_, List.getElem?_eq_getElem (by omega)⟩
  have hxm := ht x (List.mem_of_getElem? hx)
  have hs : shP l i = shP l (i - 1) + x := by
    have := shP_succ hx
    rwa [Nat.sub_add_cancel hi0] at this
  have hp := hi2 (i - 1) (by omega)
  have ex : ∃ j, 1 ≤ j ∧ j < l.length ∧ ShFit l most j ∧ shG l j ≤ most / 3 := by
    have go : ∀ j, j ≤ l.length → shG l j ≤ most / 3 → ∃ j, 1 ≤ j ∧ j < l.length ∧ ShFit l most j ∧ shG l j ≤ most / 3 := by
      intro j hj hg
      have e := shPQ l j
      have hg' := hg
      unfold shG at hg'
      refine ⟨j, ?_, ?_, ?_, hg⟩
      · rcases Nat.eq_zero_or_pos j with h | h
        · subst h; rw [shP_zero] at e hg'; split at hg' <;> omega
        · exact h
      · rcases Nat.lt_or_ge j l.length with h | h
        · exact h
        · have : shP l j = l.sum := by simp [shP, List.take_of_length_le h]
          split at hg' <;> omega
      · unfold ShFit
        split at hg' <;> omega
    have e1 := shPQ l i
    have e2 := shPQ l (i - 1)
    rcases Int.le_total (2 * shP l i - l.sum) (most / 3) with h | h
    · refine go i hi ?_
      unfold shG
      split <;> omega
    · refine go (i - 1) (by omega) ?_
      unfold shG
      split <;> omega
  obtain ⟨j, hj1, hj2, hj3, hj4⟩ := ex
  cases f
  · exact absurd hj3 ((h1.no rfl).2.2 j hj1 hj2)
  · obtain ⟨g1, g2, g3, g4, g5⟩ := h1.yes rfl
    have g6 := (g5 j hj1 hj2 hj3).1
    have e := shPQ l k
    have g7 : shG l k ≤ most / 3 := by omega
    unfold shG at g7
    unfold ShFit at g3
    refine ⟨rfl, g1, g2, g3.1, g3.2, ?_, ?_⟩ <;> split at g7 <;> omega
/-- Where all may stand together, there is a cut as soon as there are two. -/
theorem sh_small {l : List Int} {most : Int} {k : Nat} {f : Bool} (h : ShCut l most k f) (h0 : 0 ≤ most) (hl : l.length ≤ 4096) (ht : ∀ x ∈ l, 0 ≤ x ∧ x ≤ 1048576) (ha : l.sum ≤ most) : f = decide (1 < l.length) := by
  obtain ⟨d, h1⟩ := h.1 ⟨h0, hl, ht⟩
  cases f
  · have h2 := (h1.no rfl).2.2
    by_cases h3 : 1 < l.length
    · have h4 := h2 1 (Nat.le_refl _) h3
      exfalso
      apply h4
      have e := shPQ l 1
      have h5 := shP_bounds ht (by decide) 1
      have h6 := shQ_bounds ht (by decide) 1
      exact ⟨by omega, by omega⟩
    · simp [h3]
  · obtain ⟨g1, g2, _⟩ := h1.yes rfl
    simp; omega
end Go.Proofs.Ytigmibmebockhaa
