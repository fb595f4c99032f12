/-
  Read's errors (plain): ErrForm or ErrBig, no other; what it reads of one letter's text.
-/
import Derived.Test.YtckmajcophpddaaDoorVRdB
set_option linter.unusedVariables false
set_option linter.unusedSimpArgs false
set_option maxRecDepth 100000
namespace Go.Proofs.YtckmajcophpddaaDoor
open Go.RowKit

def RErr (x : Int) : Prop := x = 3 ∨ x = 11
theorem codeR_err {l : List UInt8} {x : Int} (h : codeR l = .error x) : RErr x := by
  rcases l with _ | ⟨a, _ | ⟨b, k⟩⟩
  · cases h; exact .inr rfl
  · cases h; exact .inr rfl
  · rw [codeR_two] at h
    split at h
    · cases h
    · cases h; exact .inr rfl
theorem charR_err {l : List UInt8} {x : Int} (h : charR l = .error x) : RErr x := by
  unfold charR at h
  split at h
  · exact codeR_err h
  · rcases ht : Lib.trimPrefix l [92] with _ | ⟨d, k⟩
    · rw [ht] at h; cases h; exact .inr rfl
    · rw [ht, plainR_cons] at h
      split at h
      · cases h; exact .inr rfl
      · cases h
theorem textR_err (k : Nat) : ∀ (acc l : List UInt8) {x : Int}, textR k acc l = .error x → RErr x := by
  induction k with
  | zero =>
    intro acc l x h
    cases hp : Lib.hasPrefix l [34]
    · rcases hc : charR l with y | ⟨c, n⟩
      · rw [textR_bad _ _ _ hp hc] at h; cases h; exact charR_err hc
      · rw [textR_big _ _ hp hc] at h; cases h; exact .inl rfl
    · rw [textR_end _ _ _ hp] at h; cases h
  | succ k ih =>
    intro acc l x h
    cases hp : Lib.hasPrefix l [34]
    · rcases hc : charR l with y | ⟨c, n⟩
      · rw [textR_bad _ _ _ hp hc] at h; cases h; exact charR_err hc
      · rw [textR_next _ _ _ hp hc] at h
        exact ih _ _ h
    · rw [textR_end _ _ _ hp] at h; cases h
theorem floatR_err {l : List UInt8} {x : Int} (h : floatR l = .error x) : RErr x := by
  unfold floatR at h
  split at h
  · cases h
  · rename_i h0
    rcases parB_err (l.take 16) with e | e
    · exact absurd e h0
    · rw [e] at h; cases h; exact .inr rfl
theorem wholeR_err {l : List UInt8} {x : Int} (h : wholeR l = .error x) : RErr x := by
  unfold wholeR at h
  split at h
  · split at h
    · cases h
    · cases h; exact .inr rfl
  · cases h; exact .inr rfl
theorem map_err {α β : Type} {y : Except Int α} {f : α → β} {x : Int} (h : y.map f = .error x) : y = .error x := by
  rcases y with e | a
  · cases h; rfl
  · cases h
theorem atomR_err {l : List UInt8} {x : Int} (h : atomR l = .error x) : RErr x := by
  unfold atomR at h
  split at h
  · cases h
  split at h
  · cases h
  split at h
  · cases h
  split at h
  · exact floatR_err (map_err h)
  split at h
  · exact textR_err _ _ _ (map_err h)
  split at h
  · exact textR_err _ _ _ (map_err h)
  · exact wholeR_err (map_err h)
theorem listR_err : ∀ (k : Nat) (acc : List At) (l : List UInt8) {x : Int}, listR k acc l = .error x → RErr x
  | 0, _, _, x, h => by cases h; exact .inl rfl
  | k + 1, acc, l, x, h => by
    rcases ha : atomR l with y | ⟨a, n⟩
    · rw [listR_bad _ _ ha] at h; cases h; exact atomR_err ha
    · cases h2 : Lib.hasPrefix n [93]
      · cases h3 : Lib.hasPrefix n [44, 32]
        · rw [listR_form _ _ ha h2 h3] at h; cases h; exact .inr rfl
        · rw [listR_next _ _ ha h2 h3] at h
          exact listR_err k _ _ h
      · rw [listR_end _ _ ha h2] at h; cases h
theorem valueR_err {l : List UInt8} {x : Int} (h : valueR l = .error x) : x = 3 ∨ x = 11 := by
  unfold valueR at h
  split at h
  · have h1 := map_err h
    unfold listsR at h1
    split at h1
    · cases h1
    · exact listR_err _ _ _ h1
  · exact atomR_err (map_err h)
theorem valueR_a : valueR [34, 97, 34] = .ok ((⟨4, 0, 0, ⟨#[97]⟩⟩, []), []) := rfl
/-- What is read has a length. -/
theorem prV_ne {a : At} {ls : List At} (h : validV a ls = true) : 0 < (prV a ls).length := by
  have hA : ∀ (k n : Int) (f : Nat) (s : ByteArray), 0 < (prA k n f s).length ∨ (k = 2 ∧ prA k n f s = Lib.itoa n) := fun k n f s => by
    unfold prA
    split
    · left; simp
    split
    · left; split <;> simp
    split
    · right; exact ⟨‹_›, rfl⟩
    split
    · left; simp
    split
    · left; simp
    · left; simp
  unfold prV
  rw [if_pos h]
  split
  · simp
  · rcases hA a.k a.n a.f a.s with h1 | ⟨_, h1⟩
    · exact h1
    · unfold prAt
      rw [h1]
      unfold Lib.itoa
      split
      · simp
      · rw [Lib.decDigits]
        split <;> simp

end Go.Proofs.YtckmajcophpddaaDoor
