/-
  Plain facts on lists of bytes, for the statements of layer 1: the order, what is above all that begin so, texts put and read.
-/
import Derived.Lib.Bytealg
set_option linter.unusedVariables false
set_option maxRecDepth 100000
namespace Go.Proofs.Ytjimbjcfoebimaa
open Go.Lib (compareBytes)

theorem cmp_drop {l m : List UInt8} {k : Nat} (hl : k < l.length) (hm : k < m.length) :
    compareBytes (l.drop k) (m.drop k) = if l[k] < m[k] then -1 else if m[k] < l[k] then 1 else compareBytes (l.drop (k + 1)) (m.drop (k + 1)) := by
  rw [List.drop_eq_getElem_cons hl, List.drop_eq_getElem_cons hm]
  rfl
theorem cmp_lt {l m : List UInt8} {k : Nat} (hl : k < l.length) (hm : k < m.length) (h : (l[k].toNat : Int) < (m[k].toNat : Int)) : compareBytes (l.drop k) (m.drop k) = -1 := by
  rw [cmp_drop hl hm, if_pos (by rw [UInt8.lt_iff_toNat_lt]; omega)]
theorem cmp_gt {l m : List UInt8} {k : Nat} (hl : k < l.length) (hm : k < m.length) (h : (m[k].toNat : Int) < (l[k].toNat : Int)) : compareBytes (l.drop k) (m.drop k) = 1 := by
  rw [cmp_drop hl hm, if_neg (by rw [UInt8.lt_iff_toNat_lt]; omega), if_pos (by rw [UInt8.lt_iff_toNat_lt]; omega)]
theorem cmp_eq {l m : List UInt8} {k : Nat} (hl : k < l.length) (hm : k < m.length) (h : l[k].toNat = m[k].toNat) : compareBytes (l.drop k) (m.drop k) = compareBytes (l.drop (k + 1)) (m.drop (k + 1)) := by
  rw [cmp_drop hl hm, if_neg (by rw [UInt8.lt_iff_toNat_lt]; omega), if_neg (by rw [UInt8.lt_iff_toNat_lt]; omega)]
theorem cmp_nil_nil : compareBytes [] [] = 0 := rfl
theorem cmp_end {l m : List UInt8} {k : Nat} (h : l.length ≤ k ∨ m.length ≤ k) (hkl : k ≤ l.length) (hkm : k ≤ m.length) :
    compareBytes (l.drop k) (m.drop k) = if l.length < m.length then -1 else if m.length < l.length then 1 else 0 := by
  rcases Nat.lt_or_ge k l.length with h1 | h1
  · rw [show m.drop k = [] from List.drop_eq_nil_of_le (by omega), List.drop_eq_getElem_cons h1, if_neg (by omega), if_pos (by omega)]
    rfl
  · rw [show l.drop k = [] from List.drop_eq_nil_of_le h1]
    rcases Nat.lt_or_ge k m.length with h2 | h2
    · rw [List.drop_eq_getElem_cons h2, if_pos (by omega)]
      rfl
    · rw [show m.drop k = [] from List.drop_eq_nil_of_le h2, if_neg (by omega), if_neg (by omega)]
      rfl

/-- How many bytes are left of the first n, without the bytes ff at their end. -/
def cutN (l : List UInt8) : Nat → Nat
  | 0 => 0
  | n + 1 => if l.getD n 0 = 255 then cutN l n else n + 1
theorem cutN_le (l : List UInt8) : ∀ n, cutN l n ≤ n
  | 0 => Nat.le_refl _
  | n + 1 => by
    unfold cutN
    split
    · exact Nat.le_succ_of_le (cutN_le l n)
    · exact Nat.le_refl _
theorem cutN_ff {l : List UInt8} : ∀ {n i : Nat}, cutN l n ≤ i → i < n → l.getD i 0 = 255
  | 0, i, _, h => absurd h (Nat.not_lt_zero _)
  | n + 1, i, h1, h2 => by
    unfold cutN at h1
    split at h1
    · rename_i h
      rcases Nat.lt_or_ge i n with h3 | h3
      · exact cutN_ff h1 h3
      · obtain rfl : i = n := by omega
        exact h
    · omega
theorem cutN_last {l : List UInt8} : ∀ {n j : Nat}, cutN l n = j + 1 → l.getD j 0 ≠ 255
  | 0, j, h => by cases h
  | n + 1, j, h => by
    unfold cutN at h
    split at h
    · exact cutN_last h
    · rename_i hne
      obtain rfl : n = j := by omega
      exact hne
theorem cutN_yes {l : List UInt8} {n : Nat} (h : l.getD n 0 = 255) : cutN l (n + 1) = cutN l n := by
  show (if l.getD n 0 = 255 then cutN l n else n + 1) = _
  rw [if_pos h]
theorem cutN_no {l : List UInt8} {n : Nat} (h : l.getD n 0 ≠ 255) : cutN l (n + 1) = n + 1 := by
  show (if l.getD n 0 = 255 then cutN l n else n + 1) = _
  rw [if_neg h]
/-- What is above all that begin with l; nothing, where all bytes are ff. -/
def aft (l : List UInt8) : List UInt8 :=
  match cutN l l.length with
  | 0 => []
  | j + 1 => (l.take (j + 1)).set j (l.getD j 0 + 1)
def aftOk (l : List UInt8) : Bool := match cutN l l.length with | 0 => false | _ + 1 => true
theorem aft_zero {l : List UInt8} (h : cutN l l.length = 0) : aft l = [] ∧ aftOk l = false := by unfold aft aftOk; rw [h]; exact ⟨rfl, rfl⟩
theorem aft_succ {l : List UInt8} {j : Nat} (h : cutN l l.length = j + 1) : aft l = (l.take (j + 1)).set j (l.getD j 0 + 1) ∧ aftOk l = true := by unfold aft aftOk; rw [h]; exact ⟨rfl, rfl⟩

/-! ### what is above all that begin so -/

theorem cmp_common : ∀ (p x y : List UInt8), compareBytes (p ++ x) (p ++ y) = compareBytes x y
  | [], _, _ => rfl
  | c :: p, x, y => by
    show (if c < c then -1 else if c < c then 1 else compareBytes (p ++ x) (p ++ y)) = _
    rw [if_neg (UInt8.lt_irrefl c), if_neg (UInt8.lt_irrefl c)]
    exact cmp_common p x y
theorem cmp_cons_lt {c d : UInt8} (x y : List UInt8) (h : c < d) : compareBytes (c :: x) (d :: y) = -1 := by
  show (if c < d then (-1 : Int) else _) = _
  rw [if_pos h]
theorem cmp_cons_gt {c d : UInt8} (x y : List UInt8) (h : d < c) : compareBytes (c :: x) (d :: y) = 1 := by
  show (if c < d then (-1 : Int) else if d < c then 1 else _) = _
  rw [if_neg (by rw [UInt8.lt_iff_toNat_lt] at *; omega), if_pos h]
theorem cmp_cons_eq (c : UInt8) (x y : List UInt8) : compareBytes (c :: x) (c :: y) = compareBytes x y := cmp_common [c] x y

/-- What begins with bytes that are all ff is all that is not below them. -/
theorem ff_begins : ∀ (r x : List UInt8), (∀ u ∈ r, u = 255) → 0 ≤ compareBytes x r → r <+: x
  | [], x, _, _ => List.nil_prefix
  | c :: r, [], _, h => by
    have : compareBytes [] (c :: r) = -1 := rfl
    omega
  | c :: r, d :: x, hr, h => by
    have hc : c = 255 := hr c (List.mem_cons_self ..)
    subst hc
    rcases Nat.lt_trichotomy d.toNat 255 with h1 | h1 | h1
    · rw [cmp_cons_lt x r (by rw [UInt8.lt_iff_toNat_lt]; exact h1)] at h
      omega
    · have hd : d = 255 := by rw [← UInt8.toNat_inj]; exact h1
      subst hd
      rw [cmp_cons_eq] at h
      have := ff_begins r x (fun u hu => hr u (List.mem_cons_of_mem _ hu)) h
      exact List.cons_prefix_cons.2 ⟨rfl, this⟩
    · have := d.toNat_lt
      omega

theorem above_all : ∀ (p : List UInt8) (c : UInt8) (r x : List UInt8), (∀ u ∈ r, u = 255) → c ≠ 255 → 0 ≤ compareBytes x (p ++ c :: r) → ¬ (p ++ c :: r) <+: x → 0 ≤ compareBytes x (p ++ [c + 1])
  | [], c, r, [], _, _, h, _ => by
    have : compareBytes [] ([] ++ c :: r) = -1 := rfl
    omega
  | [], c, r, d :: x, hr, hc, h, hx => by
    simp only [List.nil_append] at *
    have hc' : c.toNat ≠ 255 := fun h => hc (by rw [← UInt8.toNat_inj]; exact h)
    have h255 := c.toNat_lt
    have hs : (c + 1).toNat = c.toNat + 1 := by
      rw [UInt8.toNat_add]
      have h1 : (1 : UInt8).toNat = 1 := rfl
      rw [h1]
      omega
    rcases Nat.lt_trichotomy d.toNat c.toNat with h1 | h1 | h1
    · rw [cmp_cons_lt x r (by rw [UInt8.lt_iff_toNat_lt]; exact h1)] at h
      omega
    · have hd : d = c := by rw [← UInt8.toNat_inj]; exact h1
      subst hd
      rw [cmp_cons_eq] at h
      exact absurd (List.cons_prefix_cons.2 ⟨rfl, ff_begins r x hr h⟩) hx
    · rcases Nat.lt_or_ge (c + 1).toNat d.toNat with h2 | h2
      · rw [cmp_cons_gt x [] (by rw [UInt8.lt_iff_toNat_lt]; exact h2)]
        decide
      · have hd : d = c + 1 := by rw [← UInt8.toNat_inj]; omega
        subst hd
        rw [cmp_cons_eq]
        cases x with
        | nil => decide
        | cons e x => show (0 : Int) ≤ 1; decide
  | e :: p, c, r, [], _, _, h, _ => by
    have : compareBytes [] (e :: p ++ c :: r) = -1 := rfl
    omega
  | e :: p, c, r, d :: x, hr, hc, h, hx => by
    simp only [List.cons_append] at *
    rcases Nat.lt_trichotomy d.toNat e.toNat with h1 | h1 | h1
    · rw [cmp_cons_lt _ _ (by rw [UInt8.lt_iff_toNat_lt]; exact h1)] at h
      omega
    · have hd : d = e := by rw [← UInt8.toNat_inj]; exact h1
      subst hd
      rw [cmp_cons_eq] at h ⊢
      exact above_all p c r x hr hc h (fun hh => hx (List.cons_prefix_cons.2 ⟨rfl, hh⟩))
    · rw [cmp_cons_gt _ _ (by rw [UInt8.lt_iff_toNat_lt]; exact h1)]
      decide

/-- l, taken apart at the last byte that is not ff. -/
theorem aft_parts {l : List UInt8} (h : aftOk l = true) : ∃ p c r, l = p ++ c :: r ∧ (∀ u ∈ r, u = 255) ∧ c ≠ 255 ∧ aft l = p ++ [c + 1] := by
  unfold aftOk at h
  have hle := cutN_le l l.length
  cases hj : cutN l l.length with
  | zero => rw [hj] at h; cases h
  | succ j =>
    have hlj : j < l.length := by omega
    have hg : l.getD j 0 = l[j] := by simp [List.getD, hlj]
    refine ⟨l.take j, l[j], l.drop (j + 1), ?_, ?_, ?_, ?_⟩
    · rw [← List.drop_eq_getElem_cons hlj, List.take_append_drop]
    · intro u hu
      obtain ⟨i, hi, rfl⟩ := List.mem_iff_getElem.1 hu
      rw [List.getElem_drop]
      have hi' : j + 1 + i < l.length := by simp at hi; omega
      have := cutN_ff (l := l) (n := l.length) (i := j + 1 + i) (by omega) hi'
      simpa [List.getD, hi'] using this
    · have := cutN_last hj
      rwa [hg] at this
    · rw [(aft_succ hj).1, hg, List.take_add_one, List.getElem?_eq_getElem hlj]
      simp only [Option.toList_some]
      rw [List.set_append_right _ _ (by simp; omega)]
      have : (l.take j).length = j := by simp; omega
      rw [this, Nat.sub_self]
      rfl

theorem aft_above {l : List UInt8} (more : List UInt8) (h : aftOk l = true) : compareBytes (l ++ more) (aft l) = -1 := by
  obtain ⟨p, c, r, rfl, _, hc, ha⟩ := aft_parts h
  have hc' : c.toNat ≠ 255 := fun h => hc (by rw [← UInt8.toNat_inj]; exact h)
  have h255 := c.toNat_lt
  rw [ha, List.append_assoc, cmp_common, List.cons_append]
  refine cmp_cons_lt _ _ ?_
  rw [UInt8.lt_iff_toNat_lt, UInt8.toNat_add]
  have h1 : (1 : UInt8).toNat = 1 := rfl
  rw [h1]
  omega
theorem aft_length {l : List UInt8} (h : aftOk l = true) : 0 < (aft l).length ∧ (aft l).length ≤ l.length := by
  obtain ⟨p, c, r, rfl, _, _, ha⟩ := aft_parts h
  rw [ha]
  simp
theorem aft_least {l x : List UInt8} (h : aftOk l = true) (hx : 0 ≤ compareBytes x l) (hn : ¬ (l.length ≤ x.length ∧ x.take l.length = l)) : 0 ≤ compareBytes x (aft l) := by
  obtain ⟨p, c, r, hl, hr, hc, ha⟩ := aft_parts h
  rw [ha]
  rw [hl] at hx
  refine above_all p c r x hr hc hx (fun hp => hn ?_)
  rw [← hl] at hp
  exact ⟨hp.length_le, (List.prefix_iff_eq_take.1 hp).symm⟩
theorem aft_none {l : List UInt8} (h : aftOk l = false) : cutN l l.length = 0 := by
  unfold aftOk at h
  cases hj : cutN l l.length with
  | zero => rfl
  | succ j => rw [hj] at h; cases h
theorem aft_none_ff {l : List UInt8} (h : aftOk l = false) {i : Nat} (hi : i < l.length) : l[i] = 255 := by
  have := cutN_ff (l := l) (n := l.length) (i := i) (by rw [aft_none h]; omega) hi
  simpa [List.getD, hi] using this

end Go.Proofs.Ytjimbjcfoebimaa
