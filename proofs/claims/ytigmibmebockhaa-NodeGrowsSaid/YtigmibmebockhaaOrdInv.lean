/-
  A region that draws its order, by an invariant over its states: for regions with so many orders that no walk can branch over them.
-/
import Derived.OrdersHeld
set_option linter.unusedVariables false
namespace Go.Proofs.Ytigmibmebockhaa

theorem unlisted_set : ∀ (l : List Bool) (i : Nat), l[i]? = some false → ((l.set i true).filter (fun b => !b)).length + 1 = (l.filter (fun b => !b)).length
  | [], i, h => by simp at h
  | b :: l, 0, h => by
    obtain rfl : b = false := by simpa using h
    simp
  | b :: l, i + 1, h => by
    have ih := unlisted_set l i (by simpa using h)
    cases b <;> simp <;> omega
theorem unlisted_pos {l : List Bool} {i : Nat} (h : l[i]? = some false) : 0 < (l.filter (fun b => !b)).length := by
  have := unlisted_set l i h
  omega
theorem getD_false {listed : Array Bool} {i : Nat} (h : listed.getD i true = false) : listed.toList[i]? = some false := by
  rw [Array.getD_eq_getD_getElem?] at h
  rw [Array.getElem?_toList]
  cases hc : listed[i]? with
  | none => rw [hc] at h; cases h
  | some b => rw [hc] at h; simp only [Option.getD_some] at h; rw [h]

variable {P : Program} {ops : Array Oper} {Q : Exit → Act → World → Prop} {md : Region.Mode} {S : World → Prop}

/-- Inv holds in each state of the region, whatever comes up: each operation that may come up keeps it. -/
theorem wpAnyH_inv (Inv : Array Bool → Act → World → Prop)
    (hstep : ∀ (listed : Array Bool) a w i, Inv listed a w → i ∈ Region.ready md ops listed → wpOp P ops Q i (fun a' w' => S w' ∧ Inv (listed.setIfInBounds i true) a' w') a w)
    (hend : ∀ (listed : Array Bool) a w, Inv listed a w → Region.ready md ops listed = [] → Q .normal a w) :
    ∀ (fuel : Nat) (listed : Array Bool) a w, (listed.toList.filter (fun b => !b)).length ≤ fuel → Inv listed a w → wpAnyH P md ops Q S fuel listed a w := by
  intro fuel
  induction fuel with
  | zero =>
    intro listed a w hc h
    have hr : Region.ready md ops listed = [] := by
      rw [List.eq_nil_iff_forall_not_mem]
      intro j hj
      have := unlisted_pos (getD_false (mem_ready.1 hj).1)
      omega
    exact ⟨hr, hend listed a w h hr⟩
  | succ fuel ih =>
    intro listed a w hc h
    refine ⟨hend listed a w h, fun i hi => wpOp_mono (fun a' w' h' => ⟨h'.1, ih _ a' w' ?_ h'.2⟩) (hstep listed a w i h hi)⟩
    have hg := getD_false (mem_ready.1 hi).1
    have := unlisted_set listed.toList i hg
    rw [Array.toList_setIfInBounds]
    omega

end Go.Proofs.Ytigmibmebockhaa
