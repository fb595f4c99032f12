/-
  A region that draws its order, by an invariant over its states, up to a state that is named.
-/
import Derived.Test.YtigmibmebockhaaOrdInv
set_option linter.unusedVariables false
namespace Go.Proofs.Ytigmibmebockhaa

variable {P : Program} {ops : Array Oper} {Q : Exit → Act → World → Prop} {md : Region.Mode} {S : World → Prop}

def unl (listed : Array Bool) : Nat := (listed.toList.filter (fun b => !b)).length

theorem wpAnyH_upto {a0 : Act} {w0 : World} {listed0 : Array Bool} {fuel0 : Nat} (I : Act → Array Bool → Act → World → Prop) (D : Array Bool)
    (hstep : ∀ (listed : Array Bool) a w i, I a0 listed a w → listed ≠ D → i ∈ Region.ready md ops listed → wpOp P ops Q i (fun a' w' => S w' ∧ I a0 (listed.setIfInBounds i true) a' w') a w)
    (hnone : ∀ (listed : Array Bool) a w, I a0 listed a w → listed ≠ D → Region.ready md ops listed = [] → False)
    (hend : ∀ a w fuel, I a0 D a w → unl D ≤ fuel → wpAnyH P md ops Q S fuel D a w)
    (hc : unl listed0 ≤ fuel0) (h0 : I a0 listed0 a0 w0) : wpAnyH P md ops Q S fuel0 listed0 a0 w0 := by
  have key : ∀ (fuel : Nat) (listed : Array Bool) a w, unl listed ≤ fuel → I a0 listed a w → wpAnyH P md ops Q S fuel listed a w := by
    intro fuel
    induction fuel with
    | zero =>
      intro listed a w hc h
      by_cases hD : listed = D
      · subst hD
        exact hend a w 0 h hc
      · have hr : Region.ready md ops listed = [] := by
          rw [List.eq_nil_iff_forall_not_mem]
          intro j hj
          have := unlisted_pos (getD_false (mem_ready.1 hj).1)
          unfold unl at hc
          omega
        exact absurd hr (fun hr => hnone listed a w h hD hr)
    | succ fuel ih =>
      intro listed a w hc h
      by_cases hD : listed = D
      · subst hD
        exact hend a w (fuel + 1) h hc
      · refine ⟨fun hr => absurd hr (fun hr => hnone listed a w h hD hr), fun i hi => wpOp_mono (fun a' w' h' => ⟨h'.1, ih _ a' w' ?_ h'.2⟩) (hstep listed a w i h hD hi)⟩
        have hg := getD_false (mem_ready.1 hi).1
        have := unlisted_set listed.toList i hg
        unfold unl at hc ⊢
        rw [Array.toList_setIfInBounds]
        omega
  exact key _ _ _ _ hc h0

/-- One operation that is carried out. -/
theorem wpOp_of_step {i : Nat} {o : Oper} {K : Act → World → Prop} {a : Act} {w : World} (hi : ops[i]? = some o)
    (h : if Region.wanted o (yielded ops a.tmps) = true then Oper.wp P o a w K Q else K (a.put o.dst undef) w) : wpOp P ops Q i K a w := by
  unfold wpOp
  rw [hi]
  split at h
  · rename_i hw
    simp only [hw, if_true]
    exact .inl h
  · rename_i hw
    simp only [hw, Bool.false_eq_true, if_false]
    exact h
theorem wpOp_step {i : Nat} {o : Oper} {K : Act → World → Prop} {a : Act} {w : World} (hi : ops[i]? = some o)
    (h : ∀ K' : Act → World → Prop, (∀ a' w', K a' w' → K' a' w') → if Region.wanted o (yielded ops a.tmps) = true then Oper.wp P o a w K' Q else K' (a.put o.dst undef) w) : wpOp P ops Q i K a w :=
  wpOp_of_step hi (h K fun _ _ h => h)

end Go.Proofs.Ytigmibmebockhaa
