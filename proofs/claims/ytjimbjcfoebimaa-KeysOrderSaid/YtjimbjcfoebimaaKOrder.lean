/-
  KeysOrder: the order of what is put, whatever stands behind, is that of the values, also of whole numbers among floats. Conditions: none.
-/
import Derived.Test.YtjimbjcfoebimaaRow2B
import Derived.Test.YtjimbjcfoebimaaVRow
import Derived.Test.YtjimbjcfoebimaaLawKOrder
set_option linter.unusedVariables false
namespace Go.Proofs.Ytjimbjcfoebimaa.korder
open Go.ChangeShapes Go.WideShapes Go.ChangeAt Go.RowKit
open Go.ChangeMaps (open_string shut_string)

set_option maxHeartbeats 800000 in
set_option maxRecDepth 100000 in
theorem lifted (os : Os) (started : os.Started) (H : Type) (enc : TypeId × Value → H) :
    ReturnsInHanded {} Try.checked os 5 .any (Rows.keysOrderSpec.pre6 enc Try.prog Try.f5 Rows.keysOrderRow.domain false) (Rows.keysOrderSpec.post enc Try.prog Try.f5 false true false false) := by
  refine returnsInHanded_of_change (C := Try.checked) own started (by kernel_rfl) Try.func5
    (ChangeSpec.witness6 (enc := enc) (C := Try.checked) false ⟨#[], #[.agg #[.int .i64 0, .int .i64 0, .float .f64 0, .string ByteArray.empty, .slice none 0 0], .agg #[.int .i64 0, .int .i64 0, .float .f64 0, .string ByteArray.empty, .slice none 0 0], .agg #[.slice none 0 0, .slice none 0 0]], []⟩ 8 (by kernel_rfl) (by kernel_rfl) (by kernel_rfl) (by kernel_rfl)) ?_
  intro W base args ds gs before hval0 hW _ _
  have hval : ∀ (j : Nat) t v, Try.f5.params[j]? = some t → args[j]? = some v → Value.okWide Try.prog W .any base t v := hval0
  have hW' := hW
  obtain ⟨p, q, hA0, hV, rfl, _, _⟩ := hW
  have hA : DataW.TrodAll enc Try.prog W 0 (fun _ => true) true Try.f5.params.toList args.toList ds p := hA0
  rw [Try.params5] at hA hval
  obtain ⟨v0, v1, v2, d0, d1, d2, p0, p1, p2, rfl, rfl, rfl, h0, h1, h2⟩ := trodAll_three hA
  obtain ⟨rfl, rfl⟩ := trodVars_none hV
  simp only [List.append_nil] at hW'
  obtain ⟨k0, n0, f0, s0, q0, m0, c0, l0, rfl, g0⟩ := open_value (hval 0 27 v0 rfl rfl) h0
  obtain ⟨k1, n1, f1, s1, q1, m1, c1, l1, rfl, g1⟩ := open_value (hval 1 27 v1 rfl rfl) h1
  obtain ⟨u2a, u2b, ⟨d2a, p2a⟩, ⟨d2b, p2b⟩, mm2, rfl, rfl, rfl, ka2, kb2⟩ := open_arr2 Try.underlying36 cells_sl cells_sl2 (hval 2 36 v2 rfl rfl) h2
  obtain ⟨a2a, len2a, cap2a, e2a⟩ := Joins.slice_form Try.underlying33 ka2
  obtain ⟨a2b, len2b, cap2b, e2b⟩ := Joins.slice_form Try.underlying33 kb2
  simp only [List.cons.injEq, and_true] at e2a e2b
  subst e2a e2b
  obtain ⟨b2a, hl12a, hl22a, hl32a, hl42a, hl52a, _⟩ := opened ⟨mm2, ka2⟩
  obtain ⟨b2b, hl12b, hl22b, hl32b, hl42b, hl52b, _⟩ := opened ⟨mm2, kb2⟩
  have hlt : ∀ x ∈ p0 ++ p1 ++ (p2a ++ p2b), x.block < W.heap.size := fun x hx => by simpa using hW'.lt x (by simpa using hx)
  clear hA0 hval0
  refine (lawOrder4_any g0 g1 hl42a hl12a hl22a hl32a hl52a hl42b hl12b hl22b hl32b hl52b).mono fun e W' ⟨he, hb⟩ => ?_
  subst he
  have harg0 := Below.trod laidOut (by kernel_rfl) (of_decide_eq_true (by kernel_rfl)) h0 hb (fun x hx => hlt x (by simp [hx]))
  have harg1 := Below.trod laidOut (by kernel_rfl) (of_decide_eq_true (by kernel_rfl)) h1 hb (fun x hx => hlt x (by simp [hx]))
  have harg2 := Below.trod laidOut (by kernel_rfl) (of_decide_eq_true (by kernel_rfl)) h2 hb (fun x hx => hlt x (by simp [hx]))
  exact ⟨_, rfl, _, _, _, [], _, [], hW', trodAll_mk1 (shut_bool Try.underlying4 _), trodAll_mk3 harg0 harg1 harg2, rfl, hb.frame _, fun h => by cases h⟩

theorem holds : Rows.KeysOrderSaid :=
  OpenClaim.holds_of_wide 5 Try.f5 rfl rfl rfl rfl rfl rfl rfl ⟨rfl, rfl, rfl, rfl, rfl⟩ rfl rfl rfl rfl rfl (by kernel_rfl) Try.func5 (by kernel_rfl)
    (of_decide_eq_true (by kernel_rfl)) (by unfold Func.isWrapper; first | (rw [if_pos (by decide +kernel)]; kernel_rfl) | (rw [if_neg (by decide +kernel)]; exact ⟨rfl, rfl⟩))
    (fun os started H enc _ => lifted os started H enc)

end Go.Proofs.Ytjimbjcfoebimaa.korder
