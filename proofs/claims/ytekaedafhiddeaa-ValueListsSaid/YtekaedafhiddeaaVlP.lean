/-
  ValueLists: what is plain of lists that have the same atoms ahead.
-/
import Derived.Test.YtekaedafhiddeaaVOrd
set_option linter.unusedVariables false
set_option maxRecDepth 100000
namespace Go.Proofs.Ytekaedafhiddeaa
open Go.RowKit

theorem listC_app {α : Type} {c : α → α → Int} (h : ∀ a, c a a = 0) (r s : List α) : ∀ l, listC c (l ++ r) (l ++ s) = listC c r s
  | [] => rfl
  | a :: l => by
    simp only [List.cons_append, listC]
    rw [h a, orI_zero, listC_app h r s l]
theorem hd_ok : (⟨6, 0, 0, ⟨#[]⟩⟩ : At).Ok := ⟨by dsimp only; omega, by dsimp only; omega, by dsimp only; omega, by dsimp only; omega, by dsimp only; omega, by show 0 ≤ _; omega⟩
theorem ok_app {l r : List At} (hl : ∀ x ∈ l, x.Ok) (hr : ∀ x ∈ r, x.Ok) : ∀ x ∈ l ++ r, x.Ok := fun x hx => (List.mem_append.1 hx).elim (hl x) (hr x)
theorem vlMem {b : At} {l : List At} (h : validV ⟨6, 0, 0, ⟨#[]⟩⟩ l = true) (hm : b ∈ l) : validV b [] = true := by
  have hv := (valid_good h).2 b hm
  by_cases h6 : b.k = 6
  · unfold At.valid validA at hv
    rw [h6] at hv
    simp at hv
  · unfold validV
    rw [if_neg h6, hv]
    rfl
theorem vl_xy {al : List At} {b : At} (hal : ∀ x ∈ al, x.Ok) (hb : b.Ok) (vx : validV ⟨6, 0, 0, ⟨#[]⟩⟩ al = true) (vy : validV ⟨6, 0, 0, ⟨#[]⟩⟩ (al ++ [b]) = true) : cmpV ⟨6, 0, 0, ⟨#[]⟩⟩ al ⟨6, 0, 0, ⟨#[]⟩⟩ (al ++ [b]) = -1 := by
  rw [cmpV_key hd_ok hal hd_ok (ok_app hal (by simpa using hb)) vx vy]
  show orI (cmpK ⟨6, 0, 0, ⟨#[]⟩⟩ ⟨6, 0, 0, ⟨#[]⟩⟩) (listC cmpK al (al ++ [b])) = -1
  rw [cmpK_is.self, orI_zero]
  have h := listC_app cmpK_is.self [] [b] al
  rw [List.append_nil] at h
  rw [h]
  rfl
theorem vl_yz {al : List At} {b c : At} (hal : ∀ x ∈ al, x.Ok) (hb : b.Ok) (hc : c.Ok) (vy : validV ⟨6, 0, 0, ⟨#[]⟩⟩ (al ++ [b]) = true) (vz : validV ⟨6, 0, 0, ⟨#[]⟩⟩ (al ++ [c, b]) = true) :
    cmpV ⟨6, 0, 0, ⟨#[]⟩⟩ (al ++ [b]) ⟨6, 0, 0, ⟨#[]⟩⟩ (al ++ [c, b]) = orI (cmpV b [] c []) (-1) := by
  have hcb : ∀ x ∈ [c, b], x.Ok := fun x hx => by
    rcases List.mem_cons.1 hx with rfl | hx
    · exact hc
    · obtain rfl := List.mem_singleton.1 hx
      exact hb
  rw [cmpV_key hd_ok (ok_app hal (by simpa using hb)) hd_ok (ok_app hal hcb) vy vz]
  show orI (cmpK ⟨6, 0, 0, ⟨#[]⟩⟩ ⟨6, 0, 0, ⟨#[]⟩⟩) (listC cmpK (al ++ [b]) (al ++ [c, b])) = _
  rw [cmpK_is.self, orI_zero, listC_app cmpK_is.self, cmpV_key hb (by simp) hc (by simp) (vlMem vy (by simp)) (vlMem vz (by simp))]
  show orI (cmpK b c) (listC cmpK [] [b]) = orI (orI (cmpK b c) (listC cmpK [] [])) (-1)
  rw [orI_assoc]
  rfl
theorem vlOne (n : Int) : validV ⟨2, n, 0, ⟨#[]⟩⟩ [] = true := by
  unfold validV At.valid validA
  simp [toList_data]
theorem vlInts (a b : Int) : cmpV ⟨2, a, 0, ⟨#[]⟩⟩ [] ⟨2, b, 0, ⟨#[]⟩⟩ [] = cmpI a b := by
  unfold cmpV
  rw [if_pos ⟨vlOne a, vlOne b⟩]
  have h : cmpA ⟨2, a, 0, ⟨#[]⟩⟩ ⟨2, b, 0, ⟨#[]⟩⟩ = orI (cmpI a b) 0 := rfl
  rw [h]
  unfold orI cmpLs
  repeat' split
  all_goals first | rfl | (exfalso; omega) | omega
theorem vlInt (w : World) (n : Int) (h1 : -9223372036854775808 ≤ n) (h2 : n ≤ 9223372036854775807) : VaOk w ⟨2, n, 0, ⟨#[]⟩⟩ none 0 0 [] :=
  ⟨⟨by dsimp only; omega, by dsimp only; omega, h1, h2, by dsimp only; omega, by show 0 ≤ _; omega⟩, rfl, by omega, by omega, As.nil _ _, fun a h => by cases h⟩

theorem As.take {w : World} {q : Option Addr} {l : List At} (h : As w q l) (k : Nat) : As w q (l.take k) := fun hne => by
  obtain ⟨g, o, e, h⟩ := h (fun e => hne (by rw [e]; exact List.take_nil))
  refine ⟨g, o, e, fun i a hi => h i a ?_⟩
  rw [List.getElem?_take] at hi
  split at hi
  · exact hi
  · cases hi

end Go.Proofs.Ytekaedafhiddeaa
