/-
  Two lists side by side: plain facts.
-/
import Derived.Test.YtmcfeibfbamncaaVAt
set_option linter.unusedVariables false
set_option maxRecDepth 100000
namespace Go.Proofs.Ytmcfeibfbamncaa

theorem all_zip_take {α : Type} {p : α × α → Bool} {l r : List α} {j : Nat} {a b : α} (ha : l[j]? = some a) (hb : r[j]? = some b) :
    ((l.zip r).take (j + 1)).all p = (((l.zip r).take j).all p && p (a, b)) := by
  have h : (l.zip r)[j]? = some (a, b) := by simp [List.getElem?_zip_eq_some, ha, hb]
  rw [List.take_add_one, h]
  simp
theorem all_zip_false {α : Type} {p : α × α → Bool} {l r : List α} {j : Nat} {a b : α} (ha : l[j]? = some a) (hb : r[j]? = some b) (h : p (a, b) = false) : (l.zip r).all p = false := by
  have h1 : (l.zip r)[j]? = some (a, b) := by simp [List.getElem?_zip_eq_some, ha, hb]
  rw [List.all_eq_false]
  exact ⟨(a, b), List.mem_of_getElem? h1, by rw [h]; decide⟩

end Go.Proofs.Ytmcfeibfbamncaa
