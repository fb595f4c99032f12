/-
  OrderJoins: of pairs of texts, put one behind the other, the order is that of the first ones, and, where these are the same, of the second ones. Conditions: none.
-/
import Derived.Test.YtlonbkkalnobeaaRow
import Derived.Test.YtlonbkkalnobeaaLawJoins
set_option linter.unusedVariables false
namespace Go.Proofs.Ytlonbkkalnobeaa.joins
open Go.ChangeShapes Go.WideShapes Go.ChangeAt Go.RowKit

set_option maxHeartbeats 800000 in
set_option maxRecDepth 100000 in
theorem lifted (os : Os) (started : os.Started) (H : Type) (enc : TypeId × Value → H) :
    ReturnsInHanded {} Try.checked os 10 .any (Rows.orderJoinsSpec.pre6 enc Try.prog Try.f10 Rows.orderJoinsRow.domain false) (Rows.orderJoinsSpec.post enc Try.prog Try.f10 false true false false) := by
  refine returnsInHanded_of_change_sized (C := Try.checked) own started (by kernel_rfl) Try.func10
    (ChangeSpec.witness6 (enc := enc) (C := Try.checked) false ⟨#[], #[.agg #[.string ByteArray.empty, .string ByteArray.empty], .agg #[.string ByteArray.empty, .string ByteArray.empty]], []⟩ 8 (by kernel_rfl) (by kernel_rfl) (by kernel_rfl) (by kernel_rfl)) ?_
  intro W base args ds gs before hval0 hW _ hsz0 _
  have hval : ∀ (j : Nat) t v, Try.f10.params[j]? = some t → args[j]? = some v → Value.okWide Try.prog W .any base t v := hval0
  have hW' := hW
  obtain ⟨p, q, hA0, hV, rfl, _, _⟩ := hW
  have hA : DataW.TrodAll enc Try.prog W 0 (fun _ => true) true Try.f10.params.toList args.toList ds p := hA0
  have hsz : (DataW.weightsEach Try.prog (Try.f10.params.toList ++ Rows.orderJoinsSpec.plain.varTypes Try.prog) (ds ++ gs)).all (· ≤ reachBytes) = true := hsz0
  rw [Try.params10] at hA hval hsz
  obtain ⟨v0, v1, d0, d1, p0, p1, rfl, rfl, rfl, h0, h1⟩ := trodAll_two hA
  obtain ⟨rfl, rfl⟩ := trodVars_none hV
  obtain ⟨u0, u1, y0, y1, n0, rfl, rfl, rfl, k0, k1⟩ := open_arr2 Try.underlying42 cells_str cells_str2 (hval 0 42 v0 rfl rfl) h0
  obtain ⟨u2, u3, y2, y3, n1, rfl, rfl, rfl, k2, k3⟩ := open_arr2 Try.underlying42 cells_str cells_str2 (hval 1 42 v1 rfl rfl) h1
  obtain ⟨s0, e0, rfl, _⟩ := DataW.trod_string Try.underlying9 k0
  obtain ⟨s1, e1, rfl, _⟩ := DataW.trod_string Try.underlying9 k1
  obtain ⟨s2, e2, rfl, _⟩ := DataW.trod_string Try.underlying9 k2
  obtain ⟨s3, e3, rfl, _⟩ := DataW.trod_string Try.underlying9 k3
  simp only [List.cons.injEq, and_true] at e0 e1 e2 e3
  subst e0 e1 e2 e3
  clear hA0 hval0
  simp only [List.append_nil] at hW'
  have hr := reachBytes_lt
  have z0 := List.all_eq_true.1 hsz _ (DataW.weights_mem_each (j := 0) (t := 42) rfl rfl s0.data.toList.length (by simp [DataW.weights, DataW.weightsAll, Try.underlying42]))
  have z1 := List.all_eq_true.1 hsz _ (DataW.weights_mem_each (j := 0) (t := 42) rfl rfl s1.data.toList.length (by simp [DataW.weights, DataW.weightsAll, Try.underlying42]))
  have z2 := List.all_eq_true.1 hsz _ (DataW.weights_mem_each (j := 1) (t := 42) rfl rfl s2.data.toList.length (by simp [DataW.weights, DataW.weightsAll, Try.underlying42]))
  have z3 := List.all_eq_true.1 hsz _ (DataW.weights_mem_each (j := 1) (t := 42) rfl rfl s3.data.toList.length (by simp [DataW.weights, DataW.weightsAll, Try.underlying42]))
  simp only [decide_eq_true_eq] at z0 z1 z2 z3
  have zs : ∀ s : ByteArray, s.data.toList.length = s.size := fun _ => rfl
  rw [zs] at z0 z1 z2 z3
  refine (lawJoins_any s0 s1 s2 s3 (by omega) (by omega) (by omega) (by omega)).mono fun e W' ⟨he, hb⟩ => ?_
  subst he
  have harg0 := Below.trod laidOut (by kernel_rfl) (of_decide_eq_true (by kernel_rfl)) h0 hb (fun x hx => by cases hx)
  have harg1 := Below.trod laidOut (by kernel_rfl) (of_decide_eq_true (by kernel_rfl)) h1 hb (fun x hx => by cases hx)
  exact ⟨_, rfl, _, _, _, [], _, [], hW', trodAll_mk1 (shut_bool Try.underlying4 _), trodAll_mk2 harg0 harg1, rfl, hb.frame _, fun h => by cases h⟩

theorem holds : Rows.OrderJoinsSaid :=
  OpenClaim.holds_of_wide 10 Try.f10 rfl rfl rfl rfl rfl rfl rfl ⟨rfl, rfl, rfl, rfl, rfl⟩ rfl rfl rfl rfl rfl (by kernel_rfl) Try.func10 (by kernel_rfl)
    (of_decide_eq_true (by kernel_rfl)) (by unfold Func.isWrapper; first | (rw [if_pos (by decide +kernel)]; kernel_rfl) | (rw [if_neg (by decide +kernel)]; exact ⟨rfl, rfl⟩))
    (fun os started H enc _ => lifted os started H enc)

end Go.Proofs.Ytlonbkkalnobeaa.joins
