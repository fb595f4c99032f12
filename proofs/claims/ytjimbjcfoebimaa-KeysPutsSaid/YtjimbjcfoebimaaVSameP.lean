/-
  Values that are like are the same: plain facts.
-/
import Derived.Test.YtjimbjcfoebimaaVOrd
set_option linter.unusedVariables false
set_option maxRecDepth 100000
namespace Go.Proofs.Ytjimbjcfoebimaa
open Go.RowKit

theorem toList_data (s : ByteArray) : s.toList = s.data.toList := ByteArray.toList_eq s
theorem str_eq {s t : ByteArray} (h : s.toList = t.toList) : s = t := by
  rw [toList_data, toList_data] at h
  apply ByteArray.ext
  apply Array.ext'
  exact h
theorem sameA_iff (a b : At) : sameA a b = true ↔ a = b := by
  obtain ⟨k, n, f, s⟩ := a
  obtain ⟨k', n', g, t⟩ := b
  unfold sameA
  simp only [Bool.and_eq_true, beq_iff_eq, At.mk.injEq]
  exact ⟨fun h => ⟨h.1, h.2.1, by omega, str_eq h.2.2.2⟩, fun h => ⟨h.1, h.2.1, by omega, by rw [h.2.2.2]⟩⟩
theorem zip_same : ∀ {l r : List At}, l.length = r.length → ((l.zip r).all (fun p => sameA p.1 p.2) = true ↔ l = r)
  | [], [], _ => by simp
  | a :: l, b :: r, h => by
    have ih := zip_same (l := l) (r := r) (by simpa using h)
    simp only [List.zip_cons_cons, List.all_cons, Bool.and_eq_true, ih, sameA_iff, List.cons.injEq]
theorem sameV_iff (a b : At) (l r : List At) : sameV a l b r = true ↔ a = b ∧ l = r := by
  unfold sameV
  simp only [Bool.and_eq_true, decide_eq_true_eq, sameA_iff]
  constructor
  · rintro ⟨h1, h2, h3⟩
    exact ⟨h1, (zip_same h2).1 h3⟩
  · rintro ⟨h1, rfl⟩
    exact ⟨h1, rfl, (zip_same rfl).2 rfl⟩

theorem cmpI_eq {a b : Int} (h : cmpI a b = 0) : a = b := by
  unfold cmpI at h
  repeat' split at h
  all_goals omega
theorem orI_eq {x y : Int} (h : orI x y = 0) : x = 0 ∧ y = 0 := by
  unfold orI at h
  split at h
  · exact ⟨by assumption, h⟩
  · exact absurd h (by assumption)
theorem bytes_eq : ∀ {l r : List UInt8}, Lib.compareBytes l r = 0 → l = r
  | [], [], _ => rfl
  | [], _ :: _, h => by simp [Lib.compareBytes] at h
  | _ :: _, [], h => by simp [Lib.compareBytes] at h
  | a :: l, b :: r, h => by
    simp only [Lib.compareBytes] at h
    split at h
    · omega
    · split at h
      · omega
      · rename_i h1 h2
        rw [bytes_eq h]
        have e : a = b := by
          rw [UInt8.lt_iff_toNat_lt] at h1 h2
          exact UInt8.toNat_inj.1 (by omega)
        rw [e]
theorem cmpS_eq {s t : ByteArray} (h : cmpS s t = 0) : s = t := by
  have := bytes_eq h
  apply ByteArray.ext
  apply Array.ext'
  exact this

theorem canon_eq {f g : Nat} (hf : f < 18446744073709551616) (hg : g < 18446744073709551616) (cf : canonT f = true) (cg : canonT g = true) (h : keyB f = keyB g) : f = g := by
  unfold canonT at cf cg
  simp only [beq_iff_eq] at cf cg
  have h1 := uncB_keyB hf
  have h2 := uncB_keyB hg
  rw [h] at h1
  omega

/-- An atom, or a list's own. -/
def good (a : At) : Prop := a.valid = true ∨ (a.k = 6 ∧ validA 0 a.n a.f a.s = true)

theorem cmpK_eq {a b : At} (ha : a.Ok) (hb : b.Ok) (ga : good a) (gb : good b) (h : cmpK a b = 0) : a = b := by
  have hU : (0 : Int) < (U : Int) := by have := U_pos; omega
  unfold cmpK at h
  obtain ⟨_, h⟩ := orI_eq h
  obtain ⟨hc, h⟩ := orI_eq h
  obtain ⟨hv, h⟩ := orI_eq h
  obtain ⟨hs, h⟩ := orI_eq h
  have hk := cmpI_eq h
  have hc := cmpI_eq hc
  have hv := cmpI_eq hv
  have hs := cmpS_eq hs
  clear h
  obtain ⟨k, n, f, s⟩ := a
  obtain ⟨k', n', g, t⟩ := b
  simp only at hk hc hv hs
  subst hk
  have nil : ∀ {s t : ByteArray}, s.toList = [] → t.toList = [] → s = t := fun h1 h2 => str_eq (by rw [h1, h2])
  unfold good At.valid at ga gb
  simp only at ga gb
  have hk : k = 0 ∨ k = 1 ∨ k = 2 ∨ k = 3 ∨ k = 4 ∨ k = 5 ∨ k = 6 := by
    rcases ga with ga | ⟨ga, _⟩
    · apply Classical.byContradiction
      intro hno
      unfold validA at ga
      rw [if_neg (by omega), if_neg (by omega), if_neg (by omega), if_neg (by omega), if_neg (by omega)] at ga
      cases ga
    · omega
  rcases hk with rfl | rfl | rfl | rfl | rfl | rfl | rfl
  all_goals simp [validA, isNum2] at ga gb hc hv hs
  all_goals simp only [At.mk.injEq, true_and]
  · exact ⟨by omega, by omega, nil ga.2 gb.2⟩
  · exact ⟨hv, by omega, nil ga.2 gb.2⟩
  · refine ⟨?_, by omega, nil ga.2 gb.2⟩
    unfold valA at hv
    rw [if_neg (by decide), if_neg (by decide)] at hv
    exact Int.eq_of_mul_eq_mul_right (by omega) hv
  · refine ⟨by omega, ?_, nil ga.2 gb.2⟩
    refine canon_eq ha.f1 hb.f1 ga.1.2 gb.1.2 ?_
    have h1 := weighN_real ha.f1 hb.f1
    simp only at h1
    rw [hc, valA_n (n := n) (n' := 0) rfl] at *
    rw [valA_n (n := n') (n' := 0) rfl] at hv
    rw [hv, cmpI_zero rfl, cmpI_zero rfl, orI_zero] at h1
    have := cmpI_eq h1
    omega
  · exact ⟨by omega, by omega, hs⟩
  · exact ⟨by omega, by omega, hs⟩
  · exact ⟨by omega, by omega, nil ga.2 gb.2⟩

theorem cmpK_zero {a b : At} (ha : a.Ok) (hb : b.Ok) (ga : good a) (gb : good b) : cmpK a b = 0 ↔ a = b :=
  ⟨cmpK_eq ha hb ga gb, fun h => by rw [h]; exact cmpK_is.self b⟩
theorem listC_zero : ∀ {l r : List At}, (∀ x ∈ l, x.Ok ∧ x.valid = true) → (∀ x ∈ r, x.Ok ∧ x.valid = true) → (listC cmpK l r = 0 ↔ l = r)
  | [], [], _, _ => by simp [listC]
  | [], _ :: _, _, _ => by simp [listC]
  | _ :: _, [], _, _ => by simp [listC]
  | a :: l, b :: r, h1, h2 => by
    have ih := listC_zero (l := l) (r := r) (fun x hx => h1 x (by simp [hx])) (fun x hx => h2 x (by simp [hx]))
    have g1 := h1 a (by simp)
    have g2 := h2 b (by simp)
    have hz := cmpK_zero g1.1 g2.1 (.inl g1.2) (.inl g2.2)
    simp only [listC, List.cons.injEq]
    constructor
    · intro h
      obtain ⟨e1, e2⟩ := orI_eq h
      exact ⟨hz.1 e1, ih.1 e2⟩
    · rintro ⟨e1, e2⟩
      rw [hz.2 e1, ih.2 e2]
      rfl

theorem valid_good {a : At} {l : List At} (h : validV a l = true) : good a ∧ ∀ x ∈ l, x.valid = true := by
  unfold validV at h
  split at h
  · rename_i h6
    simp only [Bool.and_eq_true, Bool.not_eq_true', List.any_eq_false] at h
    refine ⟨.inr ⟨h6, h.1⟩, fun x hx => ?_⟩
    have := h.2.2 x hx
    simpa using this
  · simp only [Bool.and_eq_true, beq_iff_eq] at h
    refine ⟨.inl h.2, fun x hx => ?_⟩
    have hl := List.eq_nil_of_length_eq_zero (by omega : l.length = 0)
    subst hl
    cases hx

theorem cmpV_zero {a b : At} {l r : List At} (ha : a.Ok) (hl : ∀ x ∈ l, x.Ok) (hb : b.Ok) (hr : ∀ x ∈ r, x.Ok) (va : validV a l = true) (vb : validV b r = true) : cmpV a l b r = 0 ↔ sameV a l b r = true := by
  obtain ⟨g1, g2⟩ := valid_good va
  obtain ⟨g3, g4⟩ := valid_good vb
  rw [cmpV_key ha hl hb hr va vb, sameV_iff]
  unfold cmpVK
  constructor
  · intro h
    obtain ⟨e1, e2⟩ := orI_eq h
    exact ⟨cmpK_eq ha hb g1 g3 e1, (listC_zero (fun x hx => ⟨hl x hx, g2 x hx⟩) (fun x hx => ⟨hr x hx, g4 x hx⟩)).1 e2⟩
  · rintro ⟨e1, e2⟩
    rw [(cmpK_zero ha hb g1 g3).2 e1, (listC_zero (fun x hx => ⟨hl x hx, g2 x hx⟩) (fun x hx => ⟨hr x hx, g4 x hx⟩)).2 e2]
    rfl

theorem cmpN_rng (n : Int) (g : Nat) : cmpN n g = -1 ∨ cmpN n g = 0 ∨ cmpN n g = 1 := by
  unfold cmpN cmpI
  repeat' split
  all_goals omega
/-- What the order's walk asks. -/
def OrdF (x y z x' : Int) (u : Bool) : Prop := (x = -1 ∨ x = 0 ∨ x = 1) ∧ (y = -1 ∨ y = 0 ∨ y = 1) ∧ (z = -1 ∨ z = 0 ∨ z = 1) ∧ x' = -x ∧ (x = 0 ↔ u = true) ∧ (x ≤ 0 → y ≤ 0 → z ≤ 0) ∧ (x < 0 → y ≤ 0 → z < 0)
theorem cmpI_rng (a b : Int) : cmpI a b = -1 ∨ cmpI a b = 0 ∨ cmpI a b = 1 := by
  unfold cmpI
  repeat' split
  all_goals omega
theorem orI_rng {x y : Int} (h1 : x = -1 ∨ x = 0 ∨ x = 1) (h2 : y = -1 ∨ y = 0 ∨ y = 1) : orI x y = -1 ∨ orI x y = 0 ∨ orI x y = 1 := by
  unfold orI
  split <;> assumption
theorem listC_rng {α : Type} {c : α → α → Int} (h : ∀ a b, c a b = -1 ∨ c a b = 0 ∨ c a b = 1) : ∀ l r, listC c l r = -1 ∨ listC c l r = 0 ∨ listC c l r = 1
  | [], [] => .inr (.inl rfl)
  | [], _ :: _ => .inl rfl
  | _ :: _, [] => .inr (.inr rfl)
  | a :: l, b :: r => orI_rng (h a b) (listC_rng h l r)
theorem cmpS_rng (s t : ByteArray) : cmpS s t = -1 ∨ cmpS s t = 0 ∨ cmpS s t = 1 := by
  unfold cmpS
  rw [compareBytes_list]
  exact listC_rng (fun a b => cmpI_rng _ _) _ _
theorem cmpK_rng (a b : At) : cmpK a b = -1 ∨ cmpK a b = 0 ∨ cmpK a b = 1 :=
  orI_rng (cmpI_rng _ _) (orI_rng (cmpI_rng _ _) (orI_rng (cmpI_rng _ _) (orI_rng (cmpS_rng _ _) (cmpI_rng _ _))))
theorem cmpVK_rng (x y : At × List At) : cmpVK x y = -1 ∨ cmpVK x y = 0 ∨ cmpVK x y = 1 := orI_rng (cmpK_rng _ _) (listC_rng cmpK_rng _ _)
theorem ordF {w : World} {a b d : At} {q1 q2 q3 : Option Addr} {m1 c1 m2 c2 m3 c3 : Nat} {l r s : List At} (h1 : VaOk w a q1 m1 c1 l) (h2 : VaOk w b q2 m2 c2 r) (h3 : VaOk w d q3 m3 c3 s)
    (va : validV a l = true) (vb : validV b r = true) (vd : validV d s = true) : OrdF (cmpV a l b r) (cmpV b r d s) (cmpV a l d s) (cmpV b r a l) (sameV a l b r) := by
  have hz := cmpV_zero h1.ok h1.hok h2.ok h2.hok va vb
  rw [cmpV_key h1.ok h1.hok h2.ok h2.hok va vb] at hz ⊢
  rw [cmpV_key h2.ok h2.hok h3.ok h3.hok vb vd, cmpV_key h1.ok h1.hok h3.ok h3.hok va vd, cmpV_key h2.ok h2.hok h1.ok h1.hok vb va]
  exact ⟨cmpVK_rng _ _, cmpVK_rng _ _, cmpVK_rng _ _, cmpVK_is.anti _ _, hz, fun h1 h2 => (cmpVK_is.tr _ _ _ h1 h2).1, fun h1 h2 => (cmpVK_is.tr _ _ _ (by omega) h2).2.1 h1⟩
theorem cmpV_self {w : World} {a : At} {q : Option Addr} {m c : Nat} {l : List At} (h : VaOk w a q m c l) : cmpV a l a l = 0 := by
  by_cases hv : validV a l = true
  · rw [cmpV_key h.ok h.hok h.ok h.hok hv hv]
    exact cmpVK_is.self _
  · unfold cmpV
    rw [if_neg (fun h => hv h.1)]

end Go.Proofs.Ytjimbjcfoebimaa
