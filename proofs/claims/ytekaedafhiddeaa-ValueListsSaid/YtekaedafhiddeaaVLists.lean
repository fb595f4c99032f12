/-
  ValueLists: lists are in order atom by atom: what begins a list is below it, and what stands ahead decides. Conditions: none.
-/
import Derived.Test.YtekaedafhiddeaaRowV
import Derived.Test.YtekaedafhiddeaaLawVListsB
set_option linter.unusedVariables false
set_option maxRecDepth 100000
namespace Go.Proofs.Ytekaedafhiddeaa.vlists
open Go.ChangeShapes Go.WideShapes Go.ChangeAt Go.RowKit

/-- A list that is handed in. -/
theorem open_listz {H : Type} {enc : TypeId × Value → H} {W : World} {fuel : Nat} {cs : List Value} {x : DataW H × List MemPlace}
    (h : DataW.trod enc Try.prog W 0 (fun _ => true) true fuel 44 cs = some x) :
    ∃ (q : Option Addr) (m c : Nat) (l : List At), cs = [.slice q m c] ∧ m = l.length ∧ m ≤ c ∧ c ≤ 9223372036854775807 ∧ As W q l ∧ (∀ a ∈ l, a.Ok) ∧ (q = none → c = 0) := by
  obtain ⟨q, m, c, l, hcs, h1, h2, h3, h4, h5⟩ := open_list h
  refine ⟨q, m, c, l, hcs, h1, h2, h3, h4, h5, fun hq => ?_⟩
  rcases Deep.open_slice Try.underlying44 h with ⟨hcs', _⟩ | ⟨a, len, cap, m, n, D, Pl, hcs', _, hl, hm, hmm, hx, hi⟩
  · rw [hcs] at hcs'
    simp only [List.cons.injEq, Value.slice.injEq, and_true] at hcs'
    omega
  · rw [hcs, hq] at hcs'
    simp at hcs'

/-- An atom that is handed in. -/
theorem open_atomv {H : Type} {enc : TypeId × Value → H} {W : World} {r : Reach} {b0 : Nat} {v : Value} {d : DataW H} {p : List MemPlace}
    (hv : Value.okWide Try.prog W r b0 43 v) (h : DataW.Trod enc Try.prog W 0 (fun _ => true) true 43 v d p) :
    ∃ a : At, v = .agg #[.int .i64 a.k, .int .i64 a.n, .float .f64 a.f, .string a.s] ∧ a.Ok := by
  obtain ⟨cs, rfl, hsz⟩ := okWide_struct Try.underlying43 hv
  obtain ⟨l⟩ := cs
  obtain ⟨fuel, hf⟩ := h
  obtain ⟨a, ha, e⟩ := open_atom hf
  have e' : l = _ := e
  exact ⟨a, by rw [e'], ha⟩

set_option maxHeartbeats 800000 in
set_option maxRecDepth 100000 in
theorem lifted (os : Os) (started : os.Started) (H : Type) (enc : TypeId × Value → H) :
    ReturnsInHanded {} Try.checked os 5 .any (Rows.valueListsSpec.pre6 enc Try.prog Try.f5 Rows.valueListsRow.domain false) (Rows.valueListsSpec.post enc Try.prog Try.f5 false true false false) := by
  refine returnsInHanded_of_change (C := Try.checked) own started (by kernel_rfl) Try.func5
    (ChangeSpec.witness6 (enc := enc) (C := Try.checked) false ⟨#[], #[.slice none 0 0, .agg #[.int .i64 0, .int .i64 0, .float .f64 0, .string ByteArray.empty], .agg #[.int .i64 0, .int .i64 0, .float .f64 0, .string ByteArray.empty]], []⟩ 8 (by kernel_rfl) (by kernel_rfl) (by kernel_rfl) (by kernel_rfl)) ?_
  intro W base args ds gs before hval0 hW _ _
  have hval : ∀ (j : Nat) t v, Try.f5.params[j]? = some t → args[j]? = some v → Value.okWide Try.prog W .any base t v := hval0
  have hW' := hW
  obtain ⟨p, q, hA0, hV, rfl, _, _⟩ := hW
  have hA : DataW.TrodAll enc Try.prog W 0 (fun _ => true) true Try.f5.params.toList args.toList ds p := hA0
  rw [Try.params5] at hA hval
  obtain ⟨v0, v1, v2, d0, d1, d2, p0, p1, p2, rfl, rfl, rfl, h0, h1, h2⟩ := trodAll_three hA
  obtain ⟨rfl, rfl⟩ := trodVars_none hV
  simp only [List.append_nil] at hW'
  obtain ⟨fu0, hf0⟩ := id h0
  obtain ⟨q0, m0, c0, l0, e0, g1, g2, g3, g4, g5, g6⟩ := open_listz hf0
  obtain ⟨a0, len0, cap0, rfl⟩ := okWide_slice Try.underlying44 (hval 0 44 v0 rfl rfl)
  obtain ⟨rfl, rfl, rfl⟩ : a0 = q0 ∧ len0 = m0 ∧ cap0 = c0 := by simpa [Value.cells] using e0
  obtain ⟨b, rfl, hb'⟩ := open_atomv (hval 1 43 v1 rfl rfl) h1
  obtain ⟨c, rfl, hc'⟩ := open_atomv (hval 2 43 v2 rfl rfl) h2
  have hlt : ∀ x ∈ p0 ++ p1 ++ p2, x.block < W.heap.size := fun x hx => by simpa using hW'.lt x (by simpa using hx)
  clear hA0 hval0
  refine (lawVLists_any g4 g1 g2 g3 g6 g5 hb' hc').mono fun e W' ⟨he, hb⟩ => ?_
  subst he
  have harg0 := Below.trod laidOut (by kernel_rfl) (of_decide_eq_true (by kernel_rfl)) h0 hb (fun x hx => hlt x (by simp [hx]))
  have harg1 := Below.trod laidOut (by kernel_rfl) (of_decide_eq_true (by kernel_rfl)) h1 hb (fun x hx => hlt x (by simp [hx]))
  have harg2 := Below.trod laidOut (by kernel_rfl) (of_decide_eq_true (by kernel_rfl)) h2 hb (fun x hx => hlt x (by simp [hx]))
  exact ⟨_, rfl, _, _, _, [], _, [], hW', trodAll_mk1 (shut_bool Try.underlying4 _), trodAll_mk3 harg0 harg1 harg2, rfl, hb.frame _, fun h => by cases h⟩

theorem holds : Rows.ValueListsSaid :=
  OpenClaim.holds_of_wide 5 Try.f5 rfl rfl rfl rfl rfl rfl rfl ⟨rfl, rfl, rfl, rfl, rfl⟩ rfl rfl rfl rfl rfl (by kernel_rfl) Try.func5 (by kernel_rfl)
    (of_decide_eq_true (by kernel_rfl)) (by unfold Func.isWrapper; first | (rw [if_pos (by decide +kernel)]; kernel_rfl) | (rw [if_neg (by decide +kernel)]; exact ⟨rfl, rfl⟩))
    (fun os started H enc _ => lifted os started H enc)

end Go.Proofs.Ytekaedafhiddeaa.vlists
