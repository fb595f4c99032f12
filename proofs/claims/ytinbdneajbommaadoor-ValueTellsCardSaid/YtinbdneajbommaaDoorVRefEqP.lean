/-
  What the reference's Equal tells is what Equal tells: plain facts.
-/
import Derived.Test.YtinbdneajbommaaDoorVRefCmpV
import Derived.Test.YtinbdneajbommaaDoorVRefSame
set_option linter.unusedVariables false
set_option maxRecDepth 100000
namespace Go.Proofs.YtinbdneajbommaaDoor
open Go.RowKit

/-- Two atoms in the reference's loop. -/
def pairR (a b : At) : Bool := !(a.k == 0) && (!(b.k == 0) && sameR a b)
/-- What the reference's Equal tells. -/
def equalR (a : At) (l : List At) (b : At) (r : List At) : Int :=
  if (!validV a l || (!validV b r || (a.k == 0 || b.k == 0))) = true then 2
  else if (a.k != 6 || b.k != 6) = true then ansI (sameR a b)
  else if l.length ≠ r.length then 0 else ansI ((l.zip r).all fun p => pairR p.1 p.2)

theorem like_rank {a b : At} (h : weighA a b = 0) : rankA a.k = rankA b.k := by
  unfold weighA at h
  by_cases hc : cmpI (rankA a.k) (rankA b.k) = 0
  · exact cmpI_eq hc
  · rw [if_pos hc] at h
    exact absurd h hc
theorem sameR_eq {a b : At} (ga : good a) (gb : good b) : sameR a b = (!nanA a.k a.f && (!nanA b.k b.f && likeA a b)) := by
  unfold sameR likeA
  by_cases hn : (nanA a.k a.f || nanA b.k b.f) = true
  · rw [if_pos hn]
    revert hn
    cases nanA a.k a.f <;> cases nanA b.k b.f <;> simp
  · rw [if_neg hn]
    have e : (!nanA a.k a.f && (!nanA b.k b.f && (weighA a b == 0))) = (weighA a b == 0) := by
      revert hn
      cases nanA a.k a.f <;> cases nanA b.k b.f <;> simp
    rw [e, atomsR_eq ga gb]
    by_cases h2 : (isNum2 a.k && isNum2 b.k) = true
    · rw [if_pos h2]
      simp only [Bool.and_eq_true] at h2
      have r1 : rankA a.k = 2 := by have := h2.1; rw [isNum2_rank] at this; simpa using this
      have r2 : rankA b.k = 2 := by have := h2.2; rw [isNum2_rank] at this; simpa using this
      have e2 : weighA a b = weighN a.k a.n a.f b.k b.n b.f := by unfold weighA; rw [if_neg (by simpa using cmpI_zero (r1.trans r2.symm)), if_pos h2.1]
      rw [e2, numbersR_eq (by have := h2.1; rw [isNum2_eq] at this; simpa using this) (by have := h2.2; rw [isNum2_eq] at this; simpa using this)]
    · rw [if_neg h2, Bool.eq_iff_iff]
      simp only [beq_iff_eq]
      constructor
      · intro h
        exact (orI_eq h).1
      · intro h
        have hrk := like_rank h
        have hk : a.k = b.k := by
          rw [rankA_eq, rankA_eq] at hrk
          have h4 : ¬ ((a.k = 2 ∨ a.k = 3) ∧ (b.k = 2 ∨ b.k = 3)) := fun h => h2 (by rw [isNum2_eq, isNum2_eq]; simpa using h)
          split at hrk <;> split at hrk <;> omega
        unfold cmpA
        rw [h, cmpI_zero hk]
        rfl

theorem pairR_eq {a b : At} (ga : good a) (gb : good b) : pairR a b = (!noneA a && (!noneA b && likeA a b)) := by
  unfold pairR noneA
  rw [sameR_eq ga gb]
  cases (a.k == 0) <;> cases (b.k == 0) <;> cases nanA a.k a.f <;> cases nanA b.k b.f <;> simp
theorem pairs_eq : ∀ {l r : List At}, l.length = r.length → (∀ x ∈ l, good x) → (∀ x ∈ r, good x) → ((l.zip r).all fun p => pairR p.1 p.2) = (!l.any noneA && (!r.any noneA && ((l.zip r).all fun p => likeA p.1 p.2)))
  | [], [], _, _, _ => rfl
  | a :: l, b :: r, h, h1, h2 => by
    have ih := pairs_eq (l := l) (r := r) (by simpa using h) (fun x hx => h1 x (by simp [hx])) (fun x hx => h2 x (by simp [hx]))
    simp only [List.zip_cons_cons, List.all_cons, List.any_cons, ih, pairR_eq (h1 a (by simp)) (h2 b (by simp))]
    cases noneA a <;> cases noneA b <;> cases likeA a b <;> cases l.any noneA <;> cases r.any noneA <;> simp

theorem like_self_six {a b : At} {l r : List At} (va : validV a l = true) (vb : validV b r = true) (h1 : a.k = 6) (h2 : b.k = 6) : likeA a b = true := by
  obtain ⟨a1, a2, a3⟩ := head_six va h1
  obtain ⟨b1, b2, b3⟩ := head_six vb h2
  have e : a = b := by
    obtain ⟨k, n, f, s⟩ := a
    obtain ⟨k', n', g, t⟩ := b
    simp only at *
    rw [h1, h2, a1, b1, a2, b2, str_eq (a3.trans b3.symm)]
  rw [e]
  have hn : isNum2 b.k = false := by rw [h2]; rfl
  unfold likeA weighA
  rw [if_neg (by simp [cmpI_zero]), if_neg (by rw [hn]; decide), cmpI_zero rfl, IsCmp.str.self]
  rfl
theorem nan_six {k : Int} {f : Nat} (h : k = 6) : nanA k f = false := by subst h; rfl

theorem equalR_eq {a b : At} {l r : List At} : equalR a l b r = equalV a l b r := by
  unfold equalR equalV
  by_cases hv : validV a l = true ∧ validV b r = true
  · obtain ⟨va, vb⟩ := hv
    obtain ⟨ga, gl⟩ := valid_good va
    obtain ⟨gb, gr⟩ := valid_good vb
    have hun : (unkV a l || unkV b r) = (a.k == 0 || b.k == 0) := by unfold unkV; rw [va, vb]; simp
    rw [hun, va, vb]
    by_cases h0 : (a.k == 0 || b.k == 0) = true
    · rw [if_pos h0, if_pos (by simpa using h0)]
    · rw [if_neg h0, if_neg (by simpa using h0)]
      have h0' : ¬ a.k = 0 ∧ ¬ b.k = 0 := by simpa using h0
      have e1 : noneA a = nanA a.k a.f := by unfold noneA; simp [h0'.1]
      have e2 : noneA b = nanA b.k b.f := by unfold noneA; simp [h0'.2]
      unfold noneV
      rw [e1, e2]
      by_cases h6 : a.k = 6 ∧ b.k = 6
      · rw [if_neg (by simp [h6]), nan_six h6.1, nan_six h6.2, like_self_six va vb h6.1 h6.2]
        unfold likeLs
        by_cases hl : l.length = r.length
        · rw [if_neg (by simpa using hl), pairs_eq hl (fun x hx => .inl (gl x hx)) (fun x hx => .inl (gr x hx))]
          simp only [hl, decide_true, Bool.true_and, Bool.false_or]
          cases l.any noneA <;> cases r.any noneA <;> first | rfl | simp [ansI]
        · rw [if_pos hl]
          simp only [hl, decide_false, Bool.false_and, Bool.and_false]
          split <;> rfl
      · rw [if_pos (by simp only [Bool.or_eq_true, bne_iff_ne, ne_eq]; omega), sameR_eq ga gb]
        by_cases hk : a.k = 6
        · have hb : b.k ≠ 6 := fun h => h6 ⟨hk, h⟩
          have hlike : likeA a b = false := by
            cases hl : likeA a b
            · rfl
            · exfalso
              have hw : weighA a b = 0 := by unfold likeA at hl; simpa using hl
              have hrk := like_rank hw
              rw [rankA_eq, rankA_eq, hk] at hrk
              split at hrk <;> split at hrk <;> omega
          rw [hlike]
          simp only [Bool.and_false, Bool.false_and]
          split <;> rfl
        · by_cases hk' : b.k = 6
          · have hlike : likeA a b = false := by
              cases hl : likeA a b
              · rfl
              · exfalso
                have hw : weighA a b = 0 := by unfold likeA at hl; simpa using hl
                have hrk := like_rank hw
                rw [rankA_eq, rankA_eq, hk'] at hrk
                split at hrk <;> split at hrk <;> omega
            rw [hlike]
            simp only [Bool.and_false, Bool.false_and]
            split <;> rfl
          · rw [not_six va hk, not_six vb hk']
            have e3 : likeLs [] [] = true := rfl
            rw [e3]
            cases nanA a.k a.f <;> cases nanA b.k b.f <;> cases likeA a b <;> simp [ansI]
  · have h1 : (unkV a l || unkV b r) = true := by
      unfold unkV
      by_cases h : validV a l = true
      · have h' : validV b r = false := by
          cases hb : validV b r
          · rfl
          · exact absurd ⟨h, hb⟩ hv
        simp [h']
      · simp [h]
    have h2 : (!validV a l || (!validV b r || (a.k == 0 || b.k == 0))) = true := by
      by_cases h : validV a l = true
      · have h' : validV b r = false := by
          cases hb : validV b r
          · rfl
          · exact absurd ⟨h, hb⟩ hv
        simp [h']
      · simp [h]
    rw [if_pos h1, if_pos h2]

end Go.Proofs.YtinbdneajbommaaDoor
