/-
  Many trees in one: keys of named trees, their spans, and what bytes are split into; plain facts.
-/
import Derived.Test.YtgfdihnpenipjaaNmSpec
set_option linter.unusedVariables false
set_option maxRecDepth 100000
namespace Go.Proofs.Ytgfdihnpenipjaa
open Go.RowKit
open Go.Lib (compareBytes)

/-- What all keys of a named tree begin with. -/
def headF (n : List UInt8) : List UInt8 := UInt8.ofNat n.length :: n
/-- How many bytes a key of a named tree may have. -/
def mostF (n : List UInt8) : Nat := if nameL n = true then 71 - n.length else 0
def keyF (n k : List UInt8) : List UInt8 := headF n ++ k
/-- Up to which key a span goes. -/
def spanB (n t : List UInt8) : List UInt8 := if t = [] then aft (headF n) else keyF n t

theorem headF_length (n : List UInt8) : (headF n).length = n.length + 1 := rfl
theorem keyF_length (n k : List UInt8) : (keyF n k).length = 1 + n.length + k.length := by
  unfold keyF; rw [List.length_append, headF_length]; omega

theorem headF_ok {n : List UInt8} (h : nameL n = true) : aftOk (headF n) = true := by
  cases hh : aftOk (headF n)
  · exfalso
    have h1 := aft_none_ff (l := headF n) hh (i := 0) (by rw [headF_length]; omega)
    have h2 : (headF n)[0]'(by rw [headF_length]; omega) = UInt8.ofNat n.length := rfl
    rw [h2] at h1
    have h3 := congrArg UInt8.toNat h1
    have h4 := (nameL_len h).2
    rw [UInt8.toNat_ofNat'] at h3
    have h5 : (255 : UInt8).toNat = 255 := rfl
    rw [h5] at h3
    omega
  · rfl

theorem cmp_same_len : ∀ (l m u v : List UInt8), l.length = m.length → l ≠ m → compareBytes (l ++ u) (m ++ v) = compareBytes l m ∧ compareBytes l m ≠ 0
  | [], [], _, _, _, h => absurd rfl h
  | [], _ :: _, _, _, h, _ => by simp at h
  | _ :: _, [], _, _, h, _ => by simp at h
  | c :: l, d :: m, u, v, h, hne => by
    by_cases hcd : c = d
    · subst hcd
      have ih := cmp_same_len l m u v (by simpa using h) (fun e => hne (by rw [e]))
      simp only [List.cons_append, cmp_cons_eq]
      exact ih
    · rcases UInt8.lt_or_lt_of_ne hcd with hlt | hlt
      · simp only [List.cons_append]
        rw [cmp_cons_lt _ _ hlt, cmp_cons_lt _ _ hlt]
        exact ⟨rfl, by decide⟩
      · simp only [List.cons_append]
        rw [cmp_cons_gt _ _ hlt, cmp_cons_gt _ _ hlt]
        exact ⟨rfl, by decide⟩

theorem head_apart {n m : List UInt8} (hn : nameL n = true) (hm : nameL m = true) (hne : n ≠ m) (u v : List UInt8) :
    compareBytes (headF n ++ u) (headF m ++ v) = compareBytes (headF n) (headF m) ∧ compareBytes (headF n) (headF m) ≠ 0 := by
  by_cases hl : n.length = m.length
  · exact cmp_same_len _ _ u v (by rw [headF_length, headF_length, hl]) (fun e => hne (by unfold headF at e; exact (List.cons.inj e).2))
  · have h1 := (nameL_len hn).2
    have h2 := (nameL_len hm).2
    have e1 : (UInt8.ofNat n.length).toNat = n.length := by rw [UInt8.toNat_ofNat']; omega
    have e2 : (UInt8.ofNat m.length).toNat = m.length := by rw [UInt8.toNat_ofNat']; omega
    unfold headF
    simp only [List.cons_append]
    rcases Nat.lt_or_gt_of_ne hl with hlt | hlt
    · have hlt' : UInt8.ofNat n.length < UInt8.ofNat m.length := by rw [UInt8.lt_iff_toNat_lt, e1, e2]; exact hlt
      rw [cmp_cons_lt _ _ hlt', cmp_cons_lt _ _ hlt']
      exact ⟨rfl, by decide⟩
    · have hlt' : UInt8.ofNat m.length < UInt8.ofNat n.length := by rw [UInt8.lt_iff_toNat_lt, e1, e2]; exact hlt
      rw [cmp_cons_gt _ _ hlt', cmp_cons_gt _ _ hlt']
      exact ⟨rfl, by decide⟩

theorem headF_take {n m k : List UInt8} (hn : nameL n = true) (hm : nameL m = true) (hne : n ≠ m) :
    ¬ ((headF n).length ≤ (keyF m k).length ∧ (keyF m k).take (headF n).length = headF n) := by
  rintro ⟨_, h⟩
  have h0 := (head_apart hm hn (Ne.symm hne) k ((keyF m k).drop (headF n).length))
  have h1 : headF n ++ (keyF m k).drop (headF n).length = keyF m k := by
    conv => rhs; rw [← List.take_append_drop (headF n).length (keyF m k)]
    rw [h]
  rw [h1] at h0
  have h2 : compareBytes (headF m ++ k) (keyF m k) = 0 := cmp_self _
  rw [h2] at h0
  exact h0.2 h0.1.symm

/-- A key of the tree is in the span just if it is within. -/
theorem span_own {n : List UInt8} (hn : nameL n = true) (k f t : List UInt8) :
    (0 ≤ compareBytes (keyF n k) (keyF n f) ∧ compareBytes (keyF n k) (spanB n t) < 0) ↔ (0 ≤ compareBytes k f ∧ (t = [] ∨ compareBytes k t < 0)) := by
  unfold keyF spanB
  rw [cmp_common]
  by_cases ht : t = []
  · rw [if_pos ht, aft_above k (headF_ok hn)]
    exact ⟨fun h => ⟨h.1, .inl ht⟩, fun h => ⟨h.1, by decide⟩⟩
  · rw [if_neg ht]
    unfold keyF
    rw [cmp_common]
    exact ⟨fun h => ⟨h.1, .inr h.2⟩, fun h => ⟨h.1, h.2.resolve_left ht⟩⟩

/-- No other tree's key is in the span. -/
theorem span_other {n m : List UInt8} (hn : nameL n = true) (hm : nameL m = true) (hne : n ≠ m) (k f t : List UInt8) :
    ¬ (0 ≤ compareBytes (keyF m k) (keyF n f) ∧ compareBytes (keyF m k) (spanB n t) < 0) := by
  rintro ⟨h1, h2⟩
  have ha := head_apart hm hn (Ne.symm hne) k f
  unfold keyF spanB at *
  rw [ha.1] at h1
  by_cases ht : t = []
  · rw [if_pos ht] at h2
    have hx := aft_least (l := headF n) (x := headF m ++ k) (headF_ok hn) (by
      have := (head_apart hm hn (Ne.symm hne) k []).1
      rw [List.append_nil] at this
      rw [this]; exact h1) (headF_take hn hm hne)
    omega
  · rw [if_neg ht] at h2
    unfold keyF at h2
    rw [(head_apart hm hn (Ne.symm hne) k t).1] at h2
    omega

/-- The name and the key whose key bytes are. -/
def splitF (b : List UInt8) : Option (List UInt8 × List UInt8) :=
  match b with
  | [] => none
  | c :: r => if r.length ≤ 71 ∧ c.toNat ≤ r.length ∧ nameL (r.take c.toNat) = true then some (r.take c.toNat, r.drop c.toNat) else none

theorem split_key {n k : List UInt8} (hn : nameL n = true) (hk : k.length ≤ 71 - n.length) : splitF (keyF n k) = some (n, k) := by
  have h1 := (nameL_len hn).2
  have e1 : (UInt8.ofNat n.length).toNat = n.length := by rw [UInt8.toNat_ofNat']; omega
  have e2 : (n ++ k).take n.length = n := by simp
  have e3 : (n ++ k).drop n.length = k := by simp
  show (if (n ++ k).length ≤ 71 ∧ (UInt8.ofNat n.length).toNat ≤ (n ++ k).length ∧ nameL ((n ++ k).take (UInt8.ofNat n.length).toNat) = true then some ((n ++ k).take (UInt8.ofNat n.length).toNat, (n ++ k).drop (UInt8.ofNat n.length).toNat) else none) = _
  rw [e1, e2, e3, if_pos ⟨by rw [List.length_append]; omega, by rw [List.length_append]; omega, hn⟩]

end Go.Proofs.Ytgfdihnpenipjaa
