/-
  A tree's node, plain: its sizes, whether it is right, its bytes.
-/
import Derived.Test.YtigmibmebockhaaBytes
set_option linter.unusedVariables false
set_option maxRecDepth 100000
namespace Go.Proofs.Ytigmibmebockhaa
open Go.RowKit

/-- A value; a node. -/
structure VlS where
  l : List UInt8
  g : Int
  p : Int
structure NdS where
  leaf : Bool
  ks : List (List UInt8)
  vs : List VlS
  is : List Int
def VlS.zero : VlS := ⟨[], 0, 0⟩
def NdS.zero : NdS := ⟨false, [], [], []⟩

def entS (k : List UInt8) (v : VlS) : Nat := if v.p = 0 then k.length + v.l.length + 2 else k.length + 6
def sizeL : List (List UInt8) → List VlS → Nat
  | [], _ => 0
  | k :: ks, [] => entS k .zero + sizeL ks []
  | k :: ks, v :: vs => entS k v + sizeL ks vs
def sizeB : List (List UInt8) → Nat
  | [] => 0
  | k :: ks => k.length + 3 + sizeB ks
def NdS.size (n : NdS) : Nat := if n.leaf then 1 + sizeL n.ks n.vs else 3 + sizeB n.ks

theorem sizeL_drop {ks : List (List UInt8)} {vs : List VlS} {j : Nat} {k : List UInt8} (h : ks[j]? = some k) :
    sizeL (ks.drop j) (vs.drop j) = entS k (vs[j]?.getD .zero) + sizeL (ks.drop (j + 1)) (vs.drop (j + 1)) := by
  rw [drop_get h]
  cases hv : vs[j]? with
  | none =>
    have hl : vs.length ≤ j := List.getElem?_eq_none_iff.1 hv
    rw [List.drop_eq_nil_of_le hl, (List.drop_eq_nil_of_le (Nat.le_succ_of_le hl) : vs.drop (j + 1) = [])]
    rfl
  | some v =>
    rw [drop_get hv]
    rfl
theorem sizeB_drop {ks : List (List UInt8)} {j : Nat} {k : List UInt8} (h : ks[j]? = some k) : sizeB (ks.drop j) = k.length + 3 + sizeB (ks.drop (j + 1)) := by
  rw [drop_get h]
  rfl

/-- How much there is of it. -/
def lens {α : Type} (f : α → List UInt8) : List α → Nat
  | [] => 0
  | a :: l => (f a).length + lens f l
theorem lens_mem {α : Type} {f : α → List UInt8} : ∀ {l : List α} {a : α}, a ∈ l → (f a).length ≤ lens f l
  | b :: l, a, h => by
    rcases List.mem_cons.1 h with rfl | h
    · exact Nat.le_add_right _ _
    · exact Nat.le_trans (lens_mem h) (Nat.le_add_left _ _)
theorem lens_take {α : Type} {f : α → List UInt8} : ∀ {l : List α} {j : Nat} {a : α}, l[j]? = some a → lens f (l.take (j + 1)) = lens f (l.take j) + (f a).length
  | b :: l, 0, a, h => by
    simp only [List.getElem?_cons_zero, Option.some.injEq] at h
    subst h
    simp [lens]
  | b :: l, j + 1, a, h => by
    have := lens_take (f := f) (l := l) (j := j) (a := a) (by simpa using h)
    simp only [List.take_succ_cons, lens] at this ⊢
    omega
theorem lens_append {α : Type} {f : α → List UInt8} : ∀ (l m : List α), lens f (l ++ m) = lens f l + lens f m
  | [], m => by simp [lens]
  | a :: l, m => by simp only [List.cons_append, lens, lens_append l m]; omega
def NdS.count (n : NdS) : Nat := n.ks.length + n.vs.length + n.is.length + lens id n.ks + lens VlS.l n.vs

theorem sizeL_le : ∀ (ks : List (List UInt8)) (vs : List VlS), sizeL ks vs ≤ 6 * ks.length + lens id ks + lens VlS.l vs
  | [], vs => by simp [sizeL]
  | k :: ks, [] => by
    have := sizeL_le ks []
    simp only [sizeL, entS, VlS.zero, if_true, List.length_nil, List.length_cons, lens, id] at this ⊢
    omega
  | k :: ks, v :: vs => by
    have := sizeL_le ks vs
    simp only [sizeL, entS, List.length_cons, lens, id]
    split <;> omega
theorem sizeB_le : ∀ (ks : List (List UInt8)), sizeB ks ≤ 3 * ks.length + lens id ks
  | [] => by simp [sizeB]
  | k :: ks => by
    have := sizeB_le ks
    simp only [sizeB, List.length_cons, lens, id]
    omega
theorem NdS.size_le (n : NdS) : n.size ≤ 3 + 6 * n.count := by
  unfold NdS.size NdS.count
  have h1 := sizeL_le n.ks n.vs
  have h2 := sizeB_le n.ks
  split <;> omega

/-- The keys rise. -/
def Rise (ks : List (List UInt8)) : Prop := ∀ i k, ks[i]? = some k → k.length ≤ 72 ∧ ∀ k', 0 < i → ks[i - 1]? = some k' → Lib.compareBytes k' k < 0
def PageOk (i : Int) : Prop := 2 ≤ i ∧ i < 4096
def VlS.Right (v : VlS) : Prop := (v.p = 0 ∧ v.g = 0 ∧ v.l.length ≤ 64) ∨ (PageOk v.p ∧ 65 ≤ v.g ∧ v.g ≤ 4096 ∧ v.l = [])
def NdS.LeafRight (n : NdS) : Prop := n.vs.length = n.ks.length ∧ n.is = [] ∧ ∀ v ∈ n.vs, v.Right
def NdS.BranchRight (n : NdS) : Prop := n.is.length = n.ks.length + 1 ∧ n.vs = [] ∧ ∀ i ∈ n.is, PageOk i
structure NdS.Right (n : NdS) : Prop where
  many : n.ks.length ≤ 250
  rise : Rise n.ks
  leaf : n.leaf = true → n.LeafRight
  branch : n.leaf = false → n.BranchRight
  size : n.size ≤ 493

/-- Its bytes. -/
def two (n : Nat) : List UInt8 := [UInt8.ofNat n, UInt8.ofNat (n / 256)]
def txtB (l : List UInt8) : List UInt8 := UInt8.ofNat l.length :: l
def valB (v : VlS) : List UInt8 := if v.p = 0 then txtB v.l else 255 :: (two v.g.toNat ++ two v.p.toNat)
def entsL : List (List UInt8) → List VlS → List UInt8
  | k :: ks, v :: vs => txtB k ++ valB v ++ entsL ks vs
  | _, _ => []
def entsB : List (List UInt8) → List Int → List UInt8
  | k :: ks, i :: is => txtB k ++ two i.toNat ++ entsB ks is
  | _, _ => []
def NdS.put (n : NdS) : List UInt8 := UInt8.ofNat n.ks.length :: (if n.leaf then entsL n.ks n.vs else two (n.is.headD 0).toNat ++ entsB n.ks n.is.tail)

theorem entsL_drop {ks : List (List UInt8)} {vs : List VlS} {j : Nat} {k : List UInt8} {v : VlS} (h : ks[j]? = some k) (h' : vs[j]? = some v) :
    entsL (ks.drop j) (vs.drop j) = txtB k ++ valB v ++ entsL (ks.drop (j + 1)) (vs.drop (j + 1)) := by
  rw [drop_get h, drop_get h']
  rfl
theorem entsB_drop {ks : List (List UInt8)} {is : List Int} {j : Nat} {k : List UInt8} {i : Int} (h : ks[j]? = some k) (h' : is[j]? = some i) :
    entsB (ks.drop j) (is.drop j) = txtB k ++ two i.toNat ++ entsB (ks.drop (j + 1)) (is.drop (j + 1)) := by
  rw [drop_get h, drop_get h']
  rfl
theorem entsL_length : ∀ {ks : List (List UInt8)} {vs : List VlS}, vs.length = ks.length → (entsL ks vs).length = sizeL ks vs
  | [], [], _ => rfl
  | k :: ks, v :: vs, h => by
    have := entsL_length (ks := ks) (vs := vs) (by simpa using h)
    simp only [entsL, sizeL, List.length_append, this, txtB, valB, entS, List.length_cons]
    split
    all_goals
      simp [two]
      try omega
  | [], _ :: _, h => by simp at h
  | _ :: _, [], h => by simp at h
theorem entsB_length : ∀ {ks : List (List UInt8)} {is : List Int}, is.length = ks.length → (entsB ks is).length = sizeB ks
  | [], [], _ => rfl
  | k :: ks, v :: vs, h => by
    have := entsB_length (ks := ks) (is := vs) (by simpa using h)
    simp [entsB, sizeB, this, txtB, two]
    try omega
  | [], _ :: _, h => by simp at h
  | _ :: _, [], h => by simp at h
theorem NdS.Right.length {n : NdS} (h : n.Right) : n.put.length = n.size := by
  unfold NdS.put NdS.size
  cases hl : n.leaf
  · obtain ⟨h1, _, _⟩ := h.branch hl
    rw [if_neg (by simp), if_neg (by simp), List.length_cons, List.length_append, entsB_length (by rw [List.length_tail]; omega)]
    simp only [two, List.length_cons, List.length_nil]
    omega
  · obtain ⟨h1, _, _⟩ := h.leaf hl
    rw [if_pos rfl, if_pos rfl, List.length_cons, entsL_length h1]
    omega

end Go.Proofs.Ytigmibmebockhaa
