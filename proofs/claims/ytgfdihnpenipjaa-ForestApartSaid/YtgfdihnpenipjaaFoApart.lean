/-
  Keys of one tree are in their order, and a key is in the span of a tree just if it is that of the tree, and within. Conditions: none.
-/
import Derived.Test.YtgfdihnpenipjaaLawFoApart
import Derived.Test.YtgfdihnpenipjaaRowS2
set_option linter.unusedVariables false
namespace Go.Proofs.Ytgfdihnpenipjaa.foapart
open Go.ChangeShapes Go.WideShapes Go.ChangeAt Go.RowKit
open Go.ChangeMaps (open_string shut_string)

set_option maxHeartbeats 800000 in
set_option maxRecDepth 100000 in
theorem lifted (os : Os) (started : os.Started) (H : Type) (enc : TypeId × Value → H) :
    ReturnsInHanded {} Try.checked os 4 .any (Rows.forestApartSpec.pre6 enc Try.prog Try.f4 Rows.forestApartRow.domain false) (Rows.forestApartSpec.post enc Try.prog Try.f4 false true false false) := by
  refine returnsInHanded_of_change (C := Try.checked) own started (by kernel_rfl) Try.func4
    (ChangeSpec.witness6 (enc := enc) (C := Try.checked) false ⟨#[], #[.agg #[.string ByteArray.empty, .string ByteArray.empty], .agg #[.slice none 0 0, .slice none 0 0], .agg #[.slice none 0 0, .slice none 0 0]], []⟩ 8 (by kernel_rfl) (by kernel_rfl) (by kernel_rfl) (by kernel_rfl)) ?_
  intro W base args ds gs before hval0 hW _ _
  have hval : ∀ (j : Nat) t v, Try.f4.params[j]? = some t → args[j]? = some v → Value.okWide Try.prog W .any base t v := hval0
  have hW' := hW
  obtain ⟨p, q, hA0, hV, rfl, _, _⟩ := hW
  have hA : DataW.TrodAll enc Try.prog W 0 (fun _ => true) true Try.f4.params.toList args.toList ds p := hA0
  rw [Try.params4] at hA hval
  obtain ⟨v0, v1, v2, d0, d1, d2, p0, p1, p2, rfl, rfl, rfl, h0, h1, h2⟩ := trodAll_three hA
  obtain ⟨rfl, rfl⟩ := trodVars_none hV
  simp only [List.append_nil] at hW'
  obtain ⟨u0a, u0b, ⟨d0a, p0a⟩, ⟨d0b, p0b⟩, mm0, rfl, rfl, rfl, ka0, kb0⟩ := open_arr2 Try.underlying39 cells_str cells_str2 (hval 0 39 v0 rfl rfl) h0
  obtain ⟨s0a, e0a, _, hs0a⟩ := DataW.trod_string Try.underlying9 ka0
  simp only [List.cons.injEq, and_true] at e0a
  subst e0a
  obtain ⟨s0b, e0b, _, hs0b⟩ := DataW.trod_string Try.underlying9 kb0
  simp only [List.cons.injEq, and_true] at e0b
  subst e0b
  obtain ⟨u1a, u1b, ⟨d1a, p1a⟩, ⟨d1b, p1b⟩, mm1, rfl, rfl, rfl, ka1, kb1⟩ := open_arr2 Try.underlying23 cells_sl cells_sl2 (hval 1 23 v1 rfl rfl) h1
  obtain ⟨a1a, len1a, cap1a, e1a⟩ := Joins.slice_form Try.underlying22 ka1
  obtain ⟨a1b, len1b, cap1b, e1b⟩ := Joins.slice_form Try.underlying22 kb1
  simp only [List.cons.injEq, and_true] at e1a e1b
  subst e1a e1b
  obtain ⟨b1a, hl11a, hl21a, hl31a, hl41a, hl51a, _⟩ := opened ⟨mm1, ka1⟩
  obtain ⟨b1b, hl11b, hl21b, hl31b, hl41b, hl51b, _⟩ := opened ⟨mm1, kb1⟩
  obtain ⟨u2a, u2b, ⟨d2a, p2a⟩, ⟨d2b, p2b⟩, mm2, rfl, rfl, rfl, ka2, kb2⟩ := open_arr2 Try.underlying23 cells_sl cells_sl2 (hval 2 23 v2 rfl rfl) h2
  obtain ⟨a2a, len2a, cap2a, e2a⟩ := Joins.slice_form Try.underlying22 ka2
  obtain ⟨a2b, len2b, cap2b, e2b⟩ := Joins.slice_form Try.underlying22 kb2
  simp only [List.cons.injEq, and_true] at e2a e2b
  subst e2a e2b
  obtain ⟨b2a, hl12a, hl22a, hl32a, hl42a, hl52a, _⟩ := opened ⟨mm2, ka2⟩
  obtain ⟨b2b, hl12b, hl22b, hl32b, hl42b, hl52b, _⟩ := opened ⟨mm2, kb2⟩
  have hlt : ∀ x ∈ (p0a ++ p0b) ++ (p1a ++ p1b) ++ (p2a ++ p2b), x.block < W.heap.size := fun x hx => by simpa using hW'.lt x (by simpa using hx)
  clear hA0 hval0
  refine (lawFoApart (w := W) s0a s0b hs0a hs0b _ _ _ _ _ _ _ _ hl41a hl11a hl51a hl41b hl11b hl51b hl42a hl12a hl52a hl42b hl12b hl52b).mono fun e W' ⟨he, hb⟩ => ?_
  subst he
  have harg0 := Below.trod laidOut (by kernel_rfl) (of_decide_eq_true (by kernel_rfl)) h0 hb (fun x hx => hlt x (by simp only [List.mem_append] at hx ⊢; rcases hx with hx | hx <;> simp [hx]))
  have harg1 := Below.trod laidOut (by kernel_rfl) (of_decide_eq_true (by kernel_rfl)) h1 hb (fun x hx => hlt x (by simp only [List.mem_append] at hx ⊢; rcases hx with hx | hx <;> simp [hx]))
  have harg2 := Below.trod laidOut (by kernel_rfl) (of_decide_eq_true (by kernel_rfl)) h2 hb (fun x hx => hlt x (by simp only [List.mem_append] at hx ⊢; rcases hx with hx | hx <;> simp [hx]))
  exact ⟨_, rfl, _, _, _, [], _, [], hW', trodAll_mk1 (shut_bool Try.underlying4 _), trodAll_mk3 harg0 harg1 harg2, rfl, hb.frame _, fun h => by cases h⟩

theorem holds : Rows.ForestApartSaid :=
  OpenClaim.holds_of_wide 4 Try.f4 rfl rfl rfl rfl rfl rfl rfl ⟨rfl, rfl, rfl, rfl, rfl⟩ rfl rfl rfl rfl rfl (by kernel_rfl) Try.func4 (by kernel_rfl)
    (of_decide_eq_true (by kernel_rfl)) (by unfold Func.isWrapper; first | (rw [if_pos (by decide +kernel)]; kernel_rfl) | (rw [if_neg (by decide +kernel)]; exact ⟨rfl, rfl⟩))
    (fun os started H enc _ => lifted os started H enc)

end Go.Proofs.Ytgfdihnpenipjaa.foapart
