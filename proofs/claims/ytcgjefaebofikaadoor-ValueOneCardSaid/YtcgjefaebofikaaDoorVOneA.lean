/-
  What the law ValueOne calls where Read fails: contracts.
-/
import Derived.Test.YtcgjefaebofikaaDoorVRead
import Derived.Test.YtcgjefaebofikaaDoorVRdE
import Derived.Test.YtcgjefaebofikaaDoorVSame
import Derived.Test.YtcgjefaebofikaaDoorVValid
import Derived.Deep.RegionHeld3
set_option linter.unusedVariables false
set_option linter.unusedSimpArgs false
set_option maxRecDepth 100000
namespace Go.Proofs.YtcgjefaebofikaaDoor
open Go.RowKit

theorem read_a {w : World} (hW : RW w) : Calls Tryd.prog 5 #[.string ⟨#[34, 97, 34]⟩] w fun e w' => (∃ p c, e = .returned (.tuple #[.agg #[.int .i64 4, .int .i64 0, .float .f64 0, .string ⟨#[97]⟩, .slice p 0 c], .int .i64 3, .int .i64 0])) ∧ Below w.heap.size w w' := by
  have h := read_any hW ⟨#[34, 97, 34]⟩ (by decide)
  rw [show (⟨#[34, 97, 34]⟩ : ByteArray).data.toList = [34, 97, 34] from rfl, valueR_a] at h
  refine h.mono fun e w' hp => ?_
  obtain ⟨⟨v, rfl, ho⟩, hb⟩ := hp
  obtain ⟨p, c, rfl, _, _, _⟩ := ho.form (n := 0) rfl
  exact ⟨⟨p, c, rfl⟩, hb⟩
theorem zeroOkR (w : World) : VaOk w ⟨0, 0, 0, ⟨#[]⟩⟩ none 0 0 [] :=
  ⟨at_ok (by decide) (by decide) (by decide) (by decide) (by decide) (by decide), rfl, Nat.le_refl _, by decide, As.nil _ _, by simp⟩
theorem sameZero (w : World) : Calls Tryd.prog 7 #[.agg #[.int .i64 0, .int .i64 0, .float .f64 0, .string ⟨#[]⟩, .slice none 0 0], .agg #[.int .i64 0, .int .i64 0, .float .f64 0, .string ⟨#[]⟩, .slice none 0 0]] w fun e w' => e = .returned (.bool true) ∧ Below w.heap.size w w' := by
  have h := same_any (zeroOkR w) (zeroOkR w)
  have e : sameV ⟨0, 0, 0, ⟨#[]⟩⟩ [] ⟨0, 0, 0, ⟨#[]⟩⟩ [] = true := by simp [sameV, sameA, ByteArray.toList_eq]
  rw [e] at h
  exact h

end Go.Proofs.YtcgjefaebofikaaDoor
