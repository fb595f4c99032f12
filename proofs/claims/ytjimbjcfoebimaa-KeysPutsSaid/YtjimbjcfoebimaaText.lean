/-
  Plain facts on texts put and read: what a text is put as, and what bytes are read as.
-/
namespace Go.Proofs.Ytjimbjcfoebimaa

/-- Where the first zero byte stands; the length, where there is none. -/
def fz : List UInt8 → Nat
  | [] => 0
  | c :: r => if c = 0 then 0 else fz r + 1
theorem fz_le : ∀ l : List UInt8, fz l ≤ l.length
  | [] => Nat.le_refl _
  | c :: r => by
    unfold fz
    split
    · exact Nat.zero_le _
    · have := fz_le r
      simp only [List.length_cons]
      omega
theorem fz_ne : ∀ {l : List UInt8} {i : Nat} (hi : i < l.length), i < fz l → l[i] ≠ 0
  | [], i, hi, _ => absurd hi (Nat.not_lt_zero _)
  | c :: r, i, hi, h => by
    unfold fz at h
    split at h
    · exact absurd h (Nat.not_lt_zero _)
    · rename_i hc
      cases i with
      | zero => exact hc
      | succ i =>
        simp only [List.length_cons] at hi
        exact fz_ne (l := r) (by omega) (by omega)
theorem fz_eq : ∀ {l : List UInt8} (hi : fz l < l.length), l[fz l] = 0
  | [], hi => absurd hi (Nat.not_lt_zero _)
  | c :: r, hi => by
    by_cases hc : c = 0
    · subst hc
      rfl
    · have h1 : fz (c :: r) = fz r + 1 := by
        show (if c = 0 then 0 else fz r + 1) = _
        rw [if_neg hc]
      have h2 : fz r < r.length := by
        rw [h1] at hi
        simp only [List.length_cons] at hi
        omega
      simp only [h1, List.getElem_cons_succ]
      exact fz_eq h2
theorem fz_up {l : List UInt8} {j : Nat} (hj : j ≤ fz l) (hl : j < l.length) (h : l[j] ≠ 0) : j + 1 ≤ fz l := by
  rcases Nat.lt_or_ge j (fz l) with h1 | h1
  · exact h1
  · obtain rfl : j = fz l := by omega
    exact absurd (fz_eq hl) h
theorem fz_here {l : List UInt8} {j : Nat} (hj : j ≤ fz l) (hl : j < l.length) (h : l[j] = 0) : j = fz l := by
  rcases Nat.lt_or_ge j (fz l) with h1 | h1
  · exact absurd h (fz_ne hl h1)
  · omega

/-- A text's bytes, each zero followed by ff. -/
def esc : List UInt8 → List UInt8
  | [] => []
  | c :: r => if c = 0 then 0 :: 255 :: esc r else c :: esc r
theorem esc_append (l m : List UInt8) : esc (l ++ m) = esc l ++ esc m := by
  induction l with
  | nil => rfl
  | cons c r ih =>
    simp only [List.cons_append, esc, ih]
    split <;> rfl
theorem esc_length (l : List UInt8) : (esc l).length ≤ 2 * l.length := by
  induction l with
  | nil => exact Nat.le_refl _
  | cons c r ih =>
    simp only [esc]
    split <;> simp only [List.length_cons] <;> omega
theorem esc_ge (l : List UInt8) : l.length ≤ (esc l).length := by
  induction l with
  | nil => exact Nat.le_refl _
  | cons c r ih =>
    simp only [esc]
    split <;> simp only [List.length_cons] <;> omega
theorem esc_take {l : List UInt8} {j : Nat} (h : j < l.length) : esc (l.take (j + 1)) = esc (l.take j) ++ if l[j] = 0 then [0, 255] else [l[j]] := by
  rw [List.take_succ_eq_append_getElem h, esc_append]
  simp only [esc]
/-- A text, as it is put. -/
def txt (l : List UInt8) : List UInt8 := esc l ++ [0, 1]

/-- Bytes read as a text, with what was read before (acc, pos): the error (0: none), the text, how many bytes. -/
def rdA (acc : List UInt8) (pos : Nat) : List UInt8 → Int × List UInt8 × Nat
  | [] => (10, [], 0)
  | [c] => if c = 0 then (10, [], 0) else (10, [], 0)
  | c :: d :: r => if c = 0 then (if d = 1 then (0, acc, pos + 2) else if d = 255 then rdA (acc ++ [0]) (pos + 2) r else (11, [], 0)) else rdA (acc ++ [c]) (pos + 1) (d :: r)
def rdT (l : List UInt8) : Int × List UInt8 × Nat := rdA [] 0 l

theorem rdA_nil (acc : List UInt8) (pos : Nat) : rdA acc pos [] = (10, [], 0) := rfl
theorem rdA_one (acc : List UInt8) (pos : Nat) (c : UInt8) : rdA acc pos [c] = (10, [], 0) := by
  show (if c = 0 then _ else _) = _
  split <;> rfl
theorem rdA_cons (acc : List UInt8) (pos : Nat) {c : UInt8} (r : List UInt8) (h : c ≠ 0) : rdA acc pos (c :: r) = rdA (acc ++ [c]) (pos + 1) r := by
  cases r with
  | nil => rw [rdA_one, rdA_nil]
  | cons d r =>
    show (if c = 0 then _ else _) = _
    rw [if_neg h]
theorem rdA_end (acc : List UInt8) (pos : Nat) (r : List UInt8) : rdA acc pos (0 :: 1 :: r) = (0, acc, pos + 2) := rfl
theorem rdA_zero (acc : List UInt8) (pos : Nat) (r : List UInt8) : rdA acc pos (0 :: 255 :: r) = rdA (acc ++ [0]) (pos + 2) r := rfl
theorem rdA_form (acc : List UInt8) (pos : Nat) {d : UInt8} (r : List UInt8) (h1 : d ≠ 1) (h2 : d ≠ 255) : rdA acc pos (0 :: d :: r) = (11, [], 0) := by
  show (if (0 : UInt8) = 0 then (if d = 1 then _ else if d = 255 then _ else _) else _) = _
  rw [if_pos rfl, if_neg h1, if_neg h2]
/-- All that stands before the first zero is text. -/
theorem rdA_upto : ∀ (l acc : List UInt8) (pos : Nat), rdA acc pos l = rdA (acc ++ l.take (fz l)) (pos + fz l) (l.drop (fz l))
  | [], acc, pos => by simp [fz]
  | c :: r, acc, pos => by
    by_cases hc : c = 0
    · simp [fz, hc]
    · rw [rdA_cons acc pos r hc, rdA_upto r]
      simp only [fz, if_neg hc, List.take_succ_cons, List.drop_succ_cons, List.append_assoc, List.singleton_append]
      rw [show pos + 1 + fz r = pos + (fz r + 1) from by omega]
theorem rdA_none {l : List UInt8} (acc : List UInt8) (pos : Nat) (h : l.length ≤ fz l + 1) : rdA acc pos l = (10, [], 0) := by
  have := fz_le l
  rw [rdA_upto]
  have h2 : (l.drop (fz l)).length ≤ 1 := by simp; omega
  match hd : l.drop (fz l), h2 with
  | [], _ => rfl
  | [c], _ => exact rdA_one _ _ c

/-! ### what is put is read; what is read is put so -/

theorem rdA_txt : ∀ (t acc : List UInt8) (pos : Nat) (more : List UInt8), rdA acc pos (esc t ++ (0 :: 1 :: more)) = (0, acc ++ t, pos + (esc t).length + 2)
  | [], acc, pos, more => by simp [esc, rdA_end]
  | c :: t, acc, pos, more => by
    by_cases hc : c = 0
    · subst hc
      have h : esc (0 :: t) = 0 :: 255 :: esc t := rfl
      rw [h, List.cons_append, List.cons_append, rdA_zero, rdA_txt t]
      simp only [List.append_assoc, List.singleton_append, List.length_cons]
      rw [show pos + 2 + (esc t).length + 2 = pos + ((esc t).length + 1 + 1) + 2 from by omega]
    · have h : esc (c :: t) = c :: esc t := by simp only [esc, if_neg hc]
      rw [h, List.cons_append, rdA_cons acc pos _ hc, rdA_txt t]
      simp only [List.append_assoc, List.singleton_append, List.length_cons]
      rw [show pos + 1 + (esc t).length + 2 = pos + ((esc t).length + 1) + 2 from by omega]
theorem rdA_cut : ∀ (t acc : List UInt8) (pos : Nat), rdA acc pos (esc t ++ [0]) = (10, [], 0)
  | [], acc, pos => rdA_one acc pos 0
  | c :: t, acc, pos => by
    by_cases hc : c = 0
    · subst hc
      have h : esc (0 :: t) = 0 :: 255 :: esc t := rfl
      rw [h, List.cons_append, List.cons_append, rdA_zero, rdA_cut t]
    · have h : esc (c :: t) = c :: esc t := by simp only [esc, if_neg hc]
      rw [h, List.cons_append, rdA_cons acc pos _ hc, rdA_cut t]
theorem txt_length (t : List UInt8) : (txt t).length = (esc t).length + 2 := by simp [txt]
theorem rdT_txt (t more : List UInt8) : rdT (txt t ++ more) = (0, t, (txt t).length) := by
  unfold rdT
  have h : txt t ++ more = esc t ++ (0 :: 1 :: more) := by simp [txt]
  rw [h, rdA_txt, txt_length]
  simp
theorem rdT_cut (t : List UInt8) : rdT ((txt t).take ((txt t).length - 1)) = (10, [], 0) := by
  unfold rdT
  have h : (txt t).take ((txt t).length - 1) = esc t ++ [0] := by
    rw [txt_length, show (esc t).length + 2 - 1 = (esc t).length + 1 from by omega, txt, List.take_length_add_append]
    rfl
  rw [h, rdA_cut]

theorem txt_cons_zero (t : List UInt8) : txt (0 :: t) = 0 :: 255 :: txt t := rfl
theorem txt_cons {c : UInt8} (t : List UInt8) (h : c ≠ 0) : txt (c :: t) = c :: txt t := by simp only [txt, esc, if_neg h, List.cons_append]

theorem rdA_sound : ∀ (n : Nat) (l acc : List UInt8) (pos : Nat), l.length ≤ n →
    ((rdA acc pos l).1 ≠ 0 ∧ (rdA acc pos l).2.1 = [] ∧ (rdA acc pos l).2.2 = 0) ∨
    ((rdA acc pos l).1 = 0 ∧ ∃ t m, (rdA acc pos l).2.1 = acc ++ t ∧ (rdA acc pos l).2.2 = pos + m ∧ 2 ≤ m ∧ m ≤ l.length ∧ txt t = l.take m)
  | _, [], acc, pos, _ => by rw [rdA_nil]; exact .inl ⟨by decide, rfl, rfl⟩
  | 0, c :: r, acc, pos, h => by simp at h
  | n + 1, [c], acc, pos, _ => by rw [rdA_one]; exact .inl ⟨by decide, rfl, rfl⟩
  | n + 1, c :: d :: r, acc, pos, h => by
    simp only [List.length_cons] at h
    by_cases hc : c = 0
    · subst hc
      by_cases h1 : d = 1
      · subst h1
        rw [rdA_end]
        exact .inr ⟨rfl, [], 2, by simp, rfl, by omega, by simp, rfl⟩
      · by_cases h2 : d = 255
        · subst h2
          rw [rdA_zero]
          rcases rdA_sound n r (acc ++ [0]) (pos + 2) (by omega) with h3 | ⟨h3, t, m, h4, h5, h6, h7, h8⟩
          · exact .inl h3
          · refine .inr ⟨h3, 0 :: t, m + 2, by rw [h4]; simp, by omega, by omega, by simp only [List.length_cons]; omega, ?_⟩
            rw [txt_cons_zero, h8]
            rfl
        · rw [rdA_form acc pos r h1 h2]
          exact .inl ⟨by decide, rfl, rfl⟩
    · rw [rdA_cons acc pos _ hc]
      rcases rdA_sound n (d :: r) (acc ++ [c]) (pos + 1) (by simp only [List.length_cons]; omega) with h3 | ⟨h3, t, m, h4, h5, h6, h7, h8⟩
      · exact .inl h3
      · refine .inr ⟨h3, c :: t, m + 1, by rw [h4]; simp, by omega, by omega, by simp only [List.length_cons] at h7 ⊢; omega, ?_⟩
        rw [txt_cons t hc, h8]
        rfl
theorem rdT_sound (l : List UInt8) : ((rdT l).1 ≠ 0 ∧ (rdT l).2.1 = [] ∧ (rdT l).2.2 = 0) ∨ ((rdT l).1 = 0 ∧ 2 ≤ (rdT l).2.2 ∧ (rdT l).2.2 ≤ l.length ∧ txt (rdT l).2.1 = l.take (rdT l).2.2) := by
  rcases rdA_sound l.length l [] 0 (Nat.le_refl _) with h | ⟨h3, t, m, h4, h5, h6, h7, h8⟩
  · exact .inl h
  · refine .inr ⟨h3, ?_⟩
    unfold rdT
    rw [h4, h5, Nat.zero_add, List.nil_append]
    exact ⟨h6, h7, h8⟩

end Go.Proofs.Ytjimbjcfoebimaa
