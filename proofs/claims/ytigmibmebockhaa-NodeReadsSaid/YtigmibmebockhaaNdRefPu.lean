/-
  What stands behind the entries that were read, of a right node's bytes. Plain.
-/
import Derived.Test.YtigmibmebockhaaNdParse
set_option linter.unusedVariables false
set_option linter.unusedSimpArgs false
set_option maxRecDepth 100000
namespace Go.Proofs.Ytigmibmebockhaa

/-- What stands behind j entries. -/
def restS (s : NdS) (j : Nat) : List UInt8 := if s.leaf then entsL (s.ks.drop j) (s.vs.drop j) else entsB (s.ks.drop j) (s.is.drop (j + 1))
theorem put_restS (s : NdS) : s.put = [UInt8.ofNat s.ks.length] ++ ((if s.leaf then [] else two (s.is.headD 0).toNat) ++ restS s 0) := by
  unfold NdS.put restS
  cases s.leaf
  · simp [List.drop_one]
  · simp
theorem restS_leaf {s : NdS} (hl : s.leaf = true) {j : Nat} {k : List UInt8} {v : VlS} (h : s.ks[j]? = some k) (h' : s.vs[j]? = some v) : restS s j = txtB k ++ (valB v ++ restS s (j + 1)) := by
  unfold restS
  rw [hl, if_pos rfl, if_pos rfl, entsL_drop h h', List.append_assoc]
theorem restS_branch {s : NdS} (hl : s.leaf = false) {j : Nat} {k : List UInt8} {i : Int} (h : s.ks[j]? = some k) (h' : s.is[j + 1]? = some i) : restS s j = txtB k ++ (two i.toNat ++ restS s (j + 1)) := by
  have h2 : (s.is.drop 1)[j]? = some i := by rw [List.getElem?_drop, Nat.add_comm]; exact h'
  have h3 := entsB_drop h h2
  rw [List.drop_drop, List.drop_drop] at h3
  unfold restS
  rw [hl, if_neg (by simp), if_neg (by simp), show j + 1 = 1 + j by omega, h3, List.append_assoc, show 1 + j + 1 = 1 + (1 + j) by omega, show 1 + j = j + 1 by omega]
theorem restS_end {s : NdS} {j : Nat} (h : s.ks.length ≤ j) : restS s j = [] := by
  unfold restS
  rw [List.drop_eq_nil_of_le h]
  split <;> rfl
theorem key_at {s : NdS} (h : s.Right) {j : Nat} (hj : j < s.ks.length) : ∃ k, s.ks[j]? = some k ∧ k.length ≤ 72 :=
  ⟨_, List.getElem?_eq_getElem hj, (h.rise j _ (List.getElem?_eq_getElem hj)).1⟩
theorem val_at {s : NdS} (h : s.Right) (hl : s.leaf = true) {j : Nat} (hj : j < s.ks.length) : ∃ v, s.vs[j]? = some v ∧ v.Right := by
  obtain ⟨h1, _, h3⟩ := h.leaf hl
  have h4 := List.getElem?_eq_getElem (show j < s.vs.length by omega)
  exact ⟨_, h4, h3 _ (List.mem_of_getElem? h4)⟩
theorem kid_at {s : NdS} (h : s.Right) (hl : s.leaf = false) {j : Nat} (hj : j < s.ks.length) : ∃ i, s.is[j + 1]? = some i ∧ PageOk i := by
  obtain ⟨h1, _, h3⟩ := h.branch hl
  have h4 := List.getElem?_eq_getElem (show j + 1 < s.is.length by omega)
  exact ⟨_, h4, h3 _ (List.mem_of_getElem? h4)⟩
theorem kid_first {s : NdS} (h : s.Right) (hl : s.leaf = false) : ∃ i, s.is[0]? = some i ∧ s.is.headD 0 = i ∧ PageOk i := by
  obtain ⟨h1, _, h3⟩ := h.branch hl
  cases hi : s.is with
  | nil => rw [hi] at h1; simp at h1
  | cons a l => exact ⟨a, rfl, rfl, h3 a (by rw [hi]; exact List.mem_cons_self)⟩
theorem readS_kind {k : Nat} {b : List UInt8} {s : NdS} (h : readS k b s) : (k = 2 ∧ s.leaf = true ∨ k = 3 ∧ s.leaf = false) ∧ b.length ≤ 493 := by
  obtain ⟨h1, _, _⟩ := h
  unfold preS at h1
  split at h1
  · cases h1
  · split at h1
    · cases h1
      exact ⟨.inl ⟨‹_›, rfl⟩, by omega⟩
    · split at h1
      · cases h1
        exact ⟨.inr ⟨‹_›, rfl⟩, by omega⟩
      · cases h1

/-- So far as j entries were read. -/
structure Fol (s : NdS) (j : Nat) (n : NdS) (l : List UInt8) : Prop where
  ks : n.ks = s.ks.take j
  vs : n.vs = s.vs.take j
  is : n.is = s.is.take (j + 1)
  l : l = restS s j
theorem take_more {α : Type} {l : List α} {j : Nat} {x : α} (h : l[j]? = some x) : l.take (j + 1) = l.take j ++ [x] := by
  rw [List.take_add_one, h]
  rfl
theorem Fol.end {s n : NdS} {j : Nat} {l : List UInt8} (h : Fol s j n l) (hr : s.Right) (hj : s.ks.length ≤ j) (hl : n.leaf = s.leaf) : n = s ∧ l = [] := by
  have h1 := h.ks
  have h2 := h.vs
  have h3 := h.is
  rw [List.take_of_length_le hj] at h1
  have hv : s.vs.length ≤ j := by
    cases hsl : s.leaf
    · obtain ⟨_, e, _⟩ := hr.branch hsl; rw [e]; exact Nat.zero_le _
    · obtain ⟨e, _, _⟩ := hr.leaf hsl; omega
  have hi : s.is.length ≤ j + 1 := by
    cases hsl : s.leaf
    · obtain ⟨e, _, _⟩ := hr.branch hsl; omega
    · obtain ⟨_, e, _⟩ := hr.leaf hsl; rw [e]; exact Nat.zero_le _
  rw [List.take_of_length_le hv] at h2
  rw [List.take_of_length_le hi] at h3
  refine ⟨?_, h.l.trans (restS_end hj)⟩
  obtain ⟨a, b, c, d⟩ := n
  obtain ⟨a', b', c', d'⟩ := s
  dsimp only at hl h1 h2 h3
  rw [hl, h1, h2, h3]
/-- An entry of a branch more. -/
theorem Fol.branch {s n : NdS} {j : Nat} {l : List UInt8} (h : Fol s j n l) (hr : s.Right) (hl : s.leaf = false) (hj : j < s.ks.length) : ∃ k i, k.length ≤ 72 ∧ PageOk i ∧ l = txtB k ++ (two i.toNat ++ restS s (j + 1)) ∧ ∀ n' : NdS, n'.ks = n.ks ++ [k] → n'.vs = n.vs → n'.is = n.is ++ [i] → Fol s (j + 1) n' (restS s (j + 1)) := by
  obtain ⟨k, hk, hk2⟩ := key_at hr hj
  obtain ⟨i, hi, hi2⟩ := kid_at hr hl hj
  obtain ⟨_, e, _⟩ := hr.branch hl
  refine ⟨k, i, hk2, hi2, h.l.trans (restS_branch hl hk hi), fun n' h1 h2 h3 => ⟨by rw [h1, h.ks, take_more hk], ?_, by rw [h3, h.is, take_more hi], rfl⟩⟩
  rw [h2, h.vs, e]
  simp
/-- An entry of a leaf more. -/
theorem Fol.leaf {s n : NdS} {j : Nat} {l : List UInt8} (h : Fol s j n l) (hr : s.Right) (hl : s.leaf = true) (hj : j < s.ks.length) : ∃ k v, k.length ≤ 72 ∧ v.Right ∧ l = txtB k ++ (valB v ++ restS s (j + 1)) ∧ ∀ n' : NdS, n'.ks = n.ks ++ [k] → n'.vs = n.vs ++ [v] → n'.is = n.is → Fol s (j + 1) n' (restS s (j + 1)) := by
  obtain ⟨k, hk, hk2⟩ := key_at hr hj
  obtain ⟨v, hv, hv2⟩ := val_at hr hl hj
  obtain ⟨_, e, _⟩ := hr.leaf hl
  refine ⟨k, v, hk2, hv2, h.l.trans (restS_leaf hl hk hv), fun n' h1 h2 h3 => ⟨by rw [h1, h.ks, take_more hk], by rw [h2, h.vs, take_more hv], ?_, rfl⟩⟩
  rw [h3, h.is, e]
  simp

end Go.Proofs.Ytigmibmebockhaa
