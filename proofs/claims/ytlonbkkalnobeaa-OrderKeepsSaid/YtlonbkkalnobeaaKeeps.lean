/-
  OrderKeeps: any two numbers, and any two texts, are in the order of what is put, whatever stands behind. Conditions: none.
-/
import Derived.Test.YtlonbkkalnobeaaRow
import Derived.Test.YtlonbkkalnobeaaLawKeeps
set_option linter.unusedVariables false
namespace Go.Proofs.Ytlonbkkalnobeaa.keeps
open Go.ChangeShapes Go.WideShapes Go.ChangeAt Go.RowKit

set_option maxHeartbeats 800000 in
set_option maxRecDepth 100000 in
theorem lifted (os : Os) (started : os.Started) (H : Type) (enc : TypeId × Value → H) :
    ReturnsInHanded {} Try.checked os 8 .any (Rows.orderKeepsSpec.pre6 enc Try.prog Try.f8 Rows.orderKeepsRow.domain false) (Rows.orderKeepsSpec.post enc Try.prog Try.f8 false true false false) := by
  refine returnsInHanded_of_change_sized (C := Try.checked) own started (by kernel_rfl) Try.func8
    (ChangeSpec.witness6 (enc := enc) (C := Try.checked) false ⟨#[], #[.agg #[.int .i64 0, .int .i64 0], .agg #[.string ByteArray.empty, .string ByteArray.empty], .agg #[.slice none 0 0, .slice none 0 0]], []⟩ 8 (by kernel_rfl) (by kernel_rfl) (by kernel_rfl) (by kernel_rfl)) ?_
  intro W base args ds gs before hval0 hW _ hsz0 _
  have hval : ∀ (j : Nat) t v, Try.f8.params[j]? = some t → args[j]? = some v → Value.okWide Try.prog W .any base t v := hval0
  have hW' := hW
  obtain ⟨p, q, hA0, hV, rfl, _, _⟩ := hW
  have hA : DataW.TrodAll enc Try.prog W 0 (fun _ => true) true Try.f8.params.toList args.toList ds p := hA0
  have hsz : (DataW.weightsEach Try.prog (Try.f8.params.toList ++ Rows.orderKeepsSpec.plain.varTypes Try.prog) (ds ++ gs)).all (· ≤ reachBytes) = true := hsz0
  rw [Try.params8] at hA hval hsz
  obtain ⟨v0, v1, v2, d0, d1, d2, p0, p1, p2, rfl, rfl, rfl, h0, h1, h2⟩ := trodAll_three hA
  obtain ⟨rfl, rfl⟩ := trodVars_none hV
  obtain ⟨u0, u1, y0, y1, m0, rfl, rfl, rfl, k0, k1⟩ := open_arr2 Try.underlying41 cells_int cells_int2 (hval 0 41 v0 rfl rfl) h0
  obtain ⟨u2, u3, y2, y3, m1, rfl, rfl, rfl, k2, k3⟩ := open_arr2 Try.underlying42 cells_str cells_str2 (hval 1 42 v1 rfl rfl) h1
  obtain ⟨u4, u5, ⟨d4, p4⟩, ⟨d5, p5⟩, m2, rfl, rfl, rfl, k4, k5⟩ := open_arr2 Try.underlying43 cells_sl cells_sl2 (hval 2 43 v2 rfl rfl) h2
  obtain ⟨n0, e0, rfl, w0⟩ := DataW.trod_int Try.underlying3 k0
  obtain ⟨n1, e1, rfl, w1⟩ := DataW.trod_int Try.underlying3 k1
  obtain ⟨s0, e2, rfl, _⟩ := DataW.trod_string Try.underlying9 k2
  obtain ⟨s1, e3, rfl, _⟩ := DataW.trod_string Try.underlying9 k3
  obtain ⟨q0, c0, f0, e4⟩ := Joins.slice_form Try.underlying22 k4
  obtain ⟨q1, c1, f1, e5⟩ := Joins.slice_form Try.underlying22 k5
  simp only [List.cons.injEq, and_true] at e0 e1 e2 e3 e4 e5
  subst e0 e1 e2 e3 e4 e5
  obtain ⟨l0, hl1, hl2, hl3, hl4, hl5, hl6⟩ := opened ⟨m2, k4⟩
  obtain ⟨l1, hm1, hm2, hm3, hm4, hm5, hm6⟩ := opened ⟨m2, k5⟩
  clear hA0 hval0
  simp only [List.append_nil] at hW'
  have hr := reachBytes_lt
  have z0 := List.all_eq_true.1 hsz _ (DataW.weights_mem_each (j := 1) (t := 42) rfl rfl s0.data.toList.length (by simp [DataW.weights, DataW.weightsAll, Try.underlying42]))
  have z1 := List.all_eq_true.1 hsz _ (DataW.weights_mem_each (j := 1) (t := 42) rfl rfl s1.data.toList.length (by simp [DataW.weights, DataW.weightsAll, Try.underlying42]))
  have z2 : f0 ≤ 140737488355328 := by
    rcases hl6 with h | ⟨elems, spare, hd, h⟩
    · omega
    · have z := List.all_eq_true.1 hsz _ (DataW.weights_mem_each (j := 2) (t := 43) rfl rfl ((elems.length + spare.length) * Try.prog.bytesOf 5) (by simp [DataW.weights, DataW.weightsAll, Try.underlying43, Try.underlying22, hd]))
      rw [bytesU8] at z
      simp only [decide_eq_true_eq] at z
      omega
  have z3 : f1 ≤ 140737488355328 := by
    rcases hm6 with h | ⟨elems, spare, hd, h⟩
    · omega
    · have z := List.all_eq_true.1 hsz _ (DataW.weights_mem_each (j := 2) (t := 43) rfl rfl ((elems.length + spare.length) * Try.prog.bytesOf 5) (by simp [DataW.weights, DataW.weightsAll, Try.underlying43, Try.underlying22, hd]))
      rw [bytesU8] at z
      simp only [decide_eq_true_eq] at z
      omega
  simp only [decide_eq_true_eq] at z0 z1
  have zs : ∀ s : ByteArray, s.data.toList.length = s.size := fun _ => rfl
  rw [zs] at z0 z1
  refine (lawKeeps_any n0 n1 (i64_bounds w0).1 (i64_bounds w0).2 (i64_bounds w1).1 (i64_bounds w1).2 s0 s1 c0 f0 c1 f1 hl1 hm1 hl4 hm4 hl5 hm5 (by omega) (by omega) (by omega) (by omega)).mono fun e W' ⟨he, hb⟩ => ?_
  subst he
  have harg0 := Below.trod laidOut (by kernel_rfl) (of_decide_eq_true (by kernel_rfl)) h0 hb (fun x hx => by cases hx)
  have harg1 := Below.trod laidOut (by kernel_rfl) (of_decide_eq_true (by kernel_rfl)) h1 hb (fun x hx => by cases hx)
  have harg2 := Below.trod laidOut (by kernel_rfl) (of_decide_eq_true (by kernel_rfl)) h2 hb (fun x hx => by simpa using hW'.lt x (by simpa using hx))
  exact ⟨_, rfl, _, _, _, [], _, [], hW', trodAll_mk1 (shut_bool Try.underlying4 _), trodAll_mk3 harg0 harg1 harg2, rfl, hb.frame _, fun h => by cases h⟩

theorem holds : Rows.OrderKeepsSaid :=
  OpenClaim.holds_of_wide 8 Try.f8 rfl rfl rfl rfl rfl rfl rfl ⟨rfl, rfl, rfl, rfl, rfl⟩ rfl rfl rfl rfl rfl (by kernel_rfl) Try.func8 (by kernel_rfl)
    (of_decide_eq_true (by kernel_rfl)) (by unfold Func.isWrapper; first | (rw [if_pos (by decide +kernel)]; kernel_rfl) | (rw [if_neg (by decide +kernel)]; exact ⟨rfl, rfl⟩))
    (fun os started H enc _ => lifted os started H enc)

end Go.Proofs.Ytlonbkkalnobeaa.keeps
