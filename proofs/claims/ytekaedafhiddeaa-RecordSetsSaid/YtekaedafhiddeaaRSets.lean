/-
  RecordSets: any properties are asked for, and set, as the document says. Conditions: none.
-/
import Derived.Test.YtekaedafhiddeaaRow
import Derived.Test.YtekaedafhiddeaaRRow
import Derived.Test.YtekaedafhiddeaaRSized
import Derived.Test.YtekaedafhiddeaaLawRSets
set_option linter.unusedVariables false
namespace Go.Proofs.Ytekaedafhiddeaa.rsets
open Go.ChangeShapes Go.WideShapes Go.ChangeAt Go.RowKit
open Go.ChangeMaps (open_string shut_string)

set_option maxHeartbeats 800000 in
set_option maxRecDepth 100000 in
theorem lifted (os : Os) (started : os.Started) (H : Type) (enc : TypeId × Value → H) :
    ReturnsInHanded {} Try.checked os 4 .any (Rows.recordSetsSpec.pre6 enc Try.prog Try.f4 Rows.recordSetsRow.domain false) (Rows.recordSetsSpec.post enc Try.prog Try.f4 false true false false) := by
  refine returnsInHanded_of_change_sized (C := Try.checked) own started (by kernel_rfl) Try.func4
    (ChangeSpec.witness6 (enc := enc) (C := Try.checked) false ⟨#[], #[.slice none 0 0, .string ByteArray.empty, .agg #[.int .i64 0, .int .i64 0, .float .f64 0, .string ByteArray.empty, .slice none 0 0]], []⟩ 8 (by kernel_rfl) (by kernel_rfl) (by kernel_rfl) (by kernel_rfl)) ?_
  intro W base args ds gs before hval0 hW _ hsz0 _
  have hval : ∀ (j : Nat) t v, Try.f4.params[j]? = some t → args[j]? = some v → Value.okWide Try.prog W .any base t v := hval0
  have hW' := hW
  obtain ⟨p, q, hA0, hV, rfl, _, _⟩ := hW
  have hA : DataW.TrodAll enc Try.prog W 0 (fun _ => true) true Try.f4.params.toList args.toList ds p := hA0
  have hsz : (DataW.weightsEach Try.prog (Try.f4.params.toList ++ Rows.recordSetsSpec.plain.varTypes Try.prog) (ds ++ gs)).all (· ≤ reachBytes) = true := hsz0
  rw [Try.params4] at hA hval hsz
  obtain ⟨v0, v1, v2, d0, d1, d2, p0, p1, p2, rfl, rfl, rfl, h0, h1, h2⟩ := trodAll_three hA
  obtain ⟨rfl, rfl⟩ := trodVars_none hV
  have hw0 : ∀ n ∈ d0.weights Try.prog 23, n ≤ reachBytes := fun n hn => by simpa using List.all_eq_true.1 hsz _ (DataW.weights_mem_each (j := 0) (t := 23) rfl rfl n hn)
  have hw1 : ∀ n ∈ d1.weights Try.prog 9, n ≤ reachBytes := fun n hn => by simpa using List.all_eq_true.1 hsz _ (DataW.weights_mem_each (j := 1) (t := 9) rfl rfl n hn)
  have hw2 : ∀ n ∈ d2.weights Try.prog 46, n ≤ reachBytes := fun n hn => by simpa using List.all_eq_true.1 hsz _ (DataW.weights_mem_each (j := 2) (t := 46) rfl rfl n hn)
  obtain ⟨fu0, hf0⟩ := id h0
  obtain ⟨q0, m0, c0, l0, e0, g0⟩ := open_props hf0
  obtain ⟨a0, len0, cap0, rfl⟩ := okWide_slice Try.underlying23 (hval 0 23 v0 rfl rfl)
  obtain ⟨rfl, rfl, rfl⟩ : a0 = q0 ∧ len0 = m0 ∧ cap0 = c0 := by simpa [Value.cells] using e0
  obtain ⟨s0, s1⟩ := props_small hf0 g0 hw0
  obtain ⟨k2, n2, f2, t2, q2, m2, c2, l2, rfl, g2⟩ := open_value (hval 2 46 v2 rfl rfl) h2
  obtain ⟨fu2, hf2⟩ := id h2
  have s2 : Va.Small ⟨⟨k2, n2, f2, t2⟩, q2, m2, c2, l2⟩ := value_small (v := ⟨⟨k2, n2, f2, t2⟩, q2, m2, c2, l2⟩) hf2 g2.hl g2.hn hw2
  have z2 := val_zero h2
  have hlt : ∀ x ∈ p0 ++ (p1 ++ p2), x.block < W.heap.size := fun x hx => by simpa using hW'.lt x (by simpa using hx)
  have h1' := h1
  obtain ⟨nm, rfl, rfl, rfl, hs1⟩ := open_string Try.underlying9 (hval 1 9 v1 rfl rfl) h1
  have s3 : nm.size ≤ 140737488351232 := hw1 nm.data.toList.length (by simp [DataW.weights])
  clear hA0 hval0 hsz hsz0
  refine (lawRSets_any g0 s0 s1 nm s3 (v := ⟨⟨k2, n2, f2, t2⟩, q2, m2, c2, l2⟩) g2 z2 s2).mono fun e W' ⟨he, hb⟩ => ?_
  subst he
  have harg0 := Below.trod laidOut (by kernel_rfl) (of_decide_eq_true (by kernel_rfl)) h0 hb (fun x hx => hlt x (by simp [hx]))
  have harg2 := Below.trod laidOut (by kernel_rfl) (of_decide_eq_true (by kernel_rfl)) h2 hb (fun x hx => hlt x (by simp [hx]))
  exact ⟨_, rfl, _, _, _, [], _, [], hW', trodAll_mk1 (shut_bool Try.underlying4 _), trodAll_mk3 harg0 (shut_string Try.underlying9 hs1) harg2, rfl, hb.frame _, fun h => by cases h⟩

theorem holds : Rows.RecordSetsSaid :=
  OpenClaim.holds_of_wide 4 Try.f4 rfl rfl rfl rfl rfl rfl rfl ⟨rfl, rfl, rfl, rfl, rfl⟩ rfl rfl rfl rfl rfl (by kernel_rfl) Try.func4 (by kernel_rfl)
    (of_decide_eq_true (by kernel_rfl)) (by unfold Func.isWrapper; first | (rw [if_pos (by decide +kernel)]; kernel_rfl) | (rw [if_neg (by decide +kernel)]; exact ⟨rfl, rfl⟩))
    (fun os started H enc _ => lifted os started H enc)

end Go.Proofs.Ytekaedafhiddeaa.rsets
