/-
  Any name and keys have the key and the span of the document, or its error, and any bytes are its name and key, or none. Conditions: none.
-/
import Derived.Test.YtgfdihnpenipjaaLawFoTells
import Derived.Test.YtgfdihnpenipjaaRow2B
import Derived.Test.YtgfdihnpenipjaaFRow
import Derived.Test.YtgfdihnpenipjaaRow
set_option linter.unusedVariables false
namespace Go.Proofs.Ytgfdihnpenipjaa.fotells
open Go.ChangeShapes Go.WideShapes Go.ChangeAt Go.RowKit
open Go.ChangeMaps (open_string shut_string)

set_option maxHeartbeats 800000 in
set_option maxRecDepth 100000 in
theorem lifted (os : Os) (started : os.Started) (H : Type) (enc : TypeId × Value → H) :
    ReturnsInHanded {} Try.checked os 3 .any (Rows.forestTellsSpec.pre6 enc Try.prog Try.f3 Rows.forestTellsRow.domain false) (Rows.forestTellsSpec.post enc Try.prog Try.f3 false true false false) := by
  refine returnsInHanded_of_change (C := Try.checked) own started (by kernel_rfl) Try.func3
    (ChangeSpec.witness6 (enc := enc) (C := Try.checked) false ⟨#[], #[.string ByteArray.empty, .agg #[.slice none 0 0, .slice none 0 0], .slice none 0 0], []⟩ 8 (by kernel_rfl) (by kernel_rfl) (by kernel_rfl) (by kernel_rfl)) ?_
  intro W base args ds gs before hval0 hW _ _
  have hval : ∀ (j : Nat) t v, Try.f3.params[j]? = some t → args[j]? = some v → Value.okWide Try.prog W .any base t v := hval0
  have hW' := hW
  obtain ⟨p, q, hA0, hV, rfl, _, _⟩ := hW
  have hA : DataW.TrodAll enc Try.prog W 0 (fun _ => true) true Try.f3.params.toList args.toList ds p := hA0
  rw [Try.params3] at hA hval
  obtain ⟨v0, v1, v2, d0, d1, d2, p0, p1, p2, rfl, rfl, rfl, h0, h1, h2⟩ := trodAll_three hA
  obtain ⟨rfl, rfl⟩ := trodVars_none hV
  simp only [List.append_nil] at hW'
  obtain ⟨s0, rfl, rfl, rfl, hs0⟩ := open_string Try.underlying9 (hval 0 9 v0 rfl rfl) h0
  obtain ⟨u1a, u1b, ⟨d1a, p1a⟩, ⟨d1b, p1b⟩, mm1, rfl, rfl, rfl, ka1, kb1⟩ := open_arr2 Try.underlying23 cells_sl cells_sl2 (hval 1 23 v1 rfl rfl) h1
  obtain ⟨a1a, len1a, cap1a, e1a⟩ := Joins.slice_form Try.underlying22 ka1
  obtain ⟨a1b, len1b, cap1b, e1b⟩ := Joins.slice_form Try.underlying22 kb1
  simp only [List.cons.injEq, and_true] at e1a e1b
  subst e1a e1b
  obtain ⟨b1a, hl11a, hl21a, hl31a, hl41a, hl51a, _⟩ := opened ⟨mm1, ka1⟩
  obtain ⟨b1b, hl11b, hl21b, hl31b, hl41b, hl51b, _⟩ := opened ⟨mm1, kb1⟩
  obtain ⟨a2, len2, cap2, rfl⟩ := okWide_slice Try.underlying22 (hval 2 22 v2 rfl rfl)
  obtain ⟨b2, hl12, hl22, hl32, hl42, hl52, _⟩ := opened h2
  simp only [List.nil_append] at hW'
  have hlt : ∀ x ∈ (p1a ++ p1b) ++ p2, x.block < W.heap.size := fun x hx => by simpa using hW'.lt x (by simpa using hx)
  clear hA0 hval0
  refine (lawFoTells (w := W) s0 hs0 _ _ _ _ _ _ hl41a hl11a hl51a hl41b hl11b hl51b hl42 hl12 hl22 hl32 (by omega) (by omega)).mono fun e W' ⟨he, hb⟩ => ?_
  subst he
  have harg1 := Below.trod laidOut (by kernel_rfl) (of_decide_eq_true (by kernel_rfl)) h1 hb (fun x hx => hlt x (by simp only [List.mem_append] at hx ⊢; rcases hx with hx | hx <;> simp [hx]))
  have harg2 := Below.trod laidOut (by kernel_rfl) (of_decide_eq_true (by kernel_rfl)) h2 hb (fun x hx => hlt x (by simp [hx]))
  exact ⟨_, rfl, _, _, _, [], _, [], hW', trodAll_mk1 (shut_bool Try.underlying4 _), trodAll_mk3 (shut_string Try.underlying9 hs0) harg1 harg2, rfl, hb.frame _, fun h => by cases h⟩

theorem holds : Rows.ForestTellsSaid :=
  OpenClaim.holds_of_wide 3 Try.f3 rfl rfl rfl rfl rfl rfl rfl ⟨rfl, rfl, rfl, rfl, rfl⟩ rfl rfl rfl rfl rfl (by kernel_rfl) Try.func3 (by kernel_rfl)
    (of_decide_eq_true (by kernel_rfl)) (by unfold Func.isWrapper; first | (rw [if_pos (by decide +kernel)]; kernel_rfl) | (rw [if_neg (by decide +kernel)]; exact ⟨rfl, rfl⟩))
    (fun os started H enc _ => lifted os started H enc)

end Go.Proofs.Ytgfdihnpenipjaa.fotells
