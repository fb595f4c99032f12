/-
  Keys: the bytes of atoms and values, and their order; plain facts.
-/
import Derived.Test.YtekaedafhiddeaaVOrd
import Derived.Test.YtekaedafhiddeaaOrd
set_option linter.unusedVariables false
set_option maxRecDepth 100000
namespace Go.Proofs.Ytekaedafhiddeaa
open Go.RowKit
open Go.Lib (compareBytes)

/-- The bytes of a number: its mark, the key, the rest, the form. -/
def tailK (r : Int) (fm : UInt8) : List UInt8 := [UInt8.ofNat (r.toNat / 256), UInt8.ofNat r.toNat, fm]
def numK (k : Nat) (r : Int) (fm : UInt8) : List UInt8 := 32 :: (be8 k ++ tailK r fm)
/-- An atom's bytes. -/
def atomK (a : At) : List UInt8 :=
  if a.k = 0 then [5] else if a.k = 1 then (if a.n = 0 then [16] else [17])
  else if a.k = 4 then 48 :: txt a.s.data.toList else if a.k = 5 then 49 :: txt a.s.data.toList
  else if a.k = 2 then numK (keyB (fltB (a.n - restI a.n))) (restI a.n) 0 else numK (keyB a.f) 0 1
def atomsK : List At → List UInt8
  | [] => []
  | a :: l => atomK a ++ atomsK l
/-- A value's bytes. -/
def valK (a : At) (l : List At) : List UInt8 := if a.k = 6 then 64 :: (atomsK l ++ [0]) else atomK a
/-- P4.1. -/
def putK (a : At) (l : List At) : List UInt8 := if validV a l = true then valK a l else []

theorem atomsK_append (l m : List At) : atomsK (l ++ m) = atomsK l ++ atomsK m := by
  induction l with
  | nil => rfl
  | cons a l ih => simp only [List.cons_append, atomsK, ih, List.append_assoc]

/-- Bytes that stand so to others, whatever stands behind. -/
def Sep (x y : List UInt8) (c : Int) : Prop := if c = 0 then x = y else ∀ u v, compareBytes (x ++ u) (y ++ v) = c
theorem Sep.same (x : List UInt8) : Sep x x 0 := by unfold Sep; rw [if_pos rfl]
theorem Sep.of {x y : List UInt8} {c : Int} (h0 : c ≠ 0) (h : ∀ u v, compareBytes (x ++ u) (y ++ v) = c) : Sep x y c := by unfold Sep; rw [if_neg h0]; exact h
theorem Sep.eq {x y : List UInt8} {c : Int} (h : Sep x y c) (h0 : c = 0) : x = y := by unfold Sep at h; rwa [if_pos h0] at h
theorem Sep.ne {x y : List UInt8} {c : Int} (h : Sep x y c) (h0 : c ≠ 0) (u v : List UInt8) : compareBytes (x ++ u) (y ++ v) = c := by unfold Sep at h; rw [if_neg h0] at h; exact h u v
theorem Sep.cmp {x y : List UInt8} {c : Int} (h : Sep x y c) : compareBytes x y = c := by
  by_cases h0 : c = 0
  · rw [h.eq h0, h0]; exact cmp_self y
  · have := h.ne h0 [] []
    rwa [List.append_nil, List.append_nil] at this
theorem Sep.app {x y x' y' : List UInt8} {c c' : Int} (h : Sep x y c) (h' : Sep x' y' c') : Sep (x ++ x') (y ++ y') (orI c c') := by
  by_cases h0 : c = 0
  · subst h0
    rw [orI_zero, h.eq rfl]
    by_cases h1 : c' = 0
    · subst h1
      rw [h'.eq rfl]
      exact Sep.same _
    · refine Sep.of h1 fun u v => ?_
      rw [List.append_assoc, List.append_assoc, cmp_common]
      exact h'.ne h1 u v
  · rw [orI_ne h0]
    refine Sep.of h0 fun u v => ?_
    rw [List.append_assoc, List.append_assoc]
    exact h.ne h0 _ _
theorem Sep.flip {x y : List UInt8} {c : Int} (h : Sep x y c) : Sep y x (-c) := by
  by_cases h0 : c = 0
  · subst h0
    rw [h.eq rfl]
    exact Sep.same _
  · refine Sep.of (by omega) fun u v => ?_
    rw [cmp_neg, h.ne h0]
theorem Sep.lt {c d : UInt8} (h : c < d) (x y : List UInt8) : Sep (c :: x) (d :: y) (-1) := Sep.of (by decide) fun u v => cmp_cons_lt _ _ h
theorem Sep.gt {c d : UInt8} (h : d < c) (x y : List UInt8) : Sep (c :: x) (d :: y) 1 := Sep.of (by decide) fun u v => cmp_cons_gt _ _ h
theorem Sep.cons {x y : List UInt8} {c : Int} (h : Sep x y c) (b : UInt8) : Sep (b :: x) (b :: y) c := by
  have := (Sep.same [b]).app h
  rwa [orI_zero] at this
theorem sep_u8 (c d : UInt8) : Sep [c] [d] (cmpI (c.toNat : Int) (d.toNat : Int)) := by
  rcases Nat.lt_trichotomy c.toNat d.toNat with h | h | h
  · rw [cmpI_neg (by omega)]
    exact Sep.lt (by rw [UInt8.lt_iff_toNat_lt]; exact h) _ _
  · obtain rfl : c = d := by rw [← UInt8.toNat_inj]; exact h
    rw [cmpI_zero rfl]
    exact Sep.same _
  · rw [cmpI_pos (by omega)]
    exact Sep.gt (by rw [UInt8.lt_iff_toNat_lt]; exact h) _ _
theorem sep_num {l m : List UInt8} (hl : l.length = m.length) (hn : num l = num m → l = m) : Sep l m (cmpI (num l : Int) (num m : Int)) := by
  rcases Nat.lt_trichotomy (num l) (num m) with h | h | h
  · rw [cmpI_neg (by omega)]
    exact Sep.of (by decide) fun u v => cmp_num l m u v hl h
  · rw [cmpI_zero (by omega), hn h]
    exact Sep.same _
  · rw [cmpI_pos (by omega)]
    refine Sep.of (by decide) fun u v => ?_
    rw [cmp_neg, cmp_num m l v u hl.symm h]
    rfl
theorem sep_be8 {a b : Nat} (ha : a < 18446744073709551616) (hb : b < 18446744073709551616) : Sep (be8 a) (be8 b) (cmpI (a : Int) (b : Int)) := by
  have h := sep_num (l := be8 a) (m := be8 b) rfl (by rw [num_be8 ha, num_be8 hb]; intro h; rw [h])
  rwa [num_be8 ha, num_be8 hb] at h
theorem num_two {r : Int} (h1 : 0 ≤ r) (h2 : r ≤ 2047) : num [UInt8.ofNat (r.toNat / 256), UInt8.ofNat r.toNat] = r.toNat := by
  simp only [num, List.foldl_cons, List.foldl_nil, UInt8.toNat_ofNat']
  omega
theorem sep_tail {r s : Int} (h1 : 0 ≤ r) (h2 : r ≤ 2047) (h3 : 0 ≤ s) (h4 : s ≤ 2047) (fm fm' : UInt8) : Sep (tailK r fm) (tailK s fm') (orI (cmpI r s) (cmpI (fm.toNat : Int) (fm'.toNat : Int))) := by
  have h := sep_num (l := [UInt8.ofNat (r.toNat / 256), UInt8.ofNat r.toNat]) (m := [UInt8.ofNat (s.toNat / 256), UInt8.ofNat s.toNat]) rfl (by
    rw [num_two h1 h2, num_two h3 h4]
    intro h
    rw [h])
  rw [num_two h1 h2, num_two h3 h4] at h
  have e : cmpI (r.toNat : Int) (s.toNat : Int) = cmpI r s := by rw [Int.toNat_of_nonneg h1, Int.toNat_of_nonneg h3]
  rw [e] at h
  exact h.app (sep_u8 fm fm')
theorem sep_numK {k k' : Nat} (hk : k < 18446744073709551616) (hk' : k' < 18446744073709551616) {r s : Int} (h1 : 0 ≤ r) (h2 : r ≤ 2047) (h3 : 0 ≤ s) (h4 : s ≤ 2047) (fm fm' : UInt8) :
    Sep (numK k r fm) (numK k' s fm') (orI (cmpI (k : Int) (k' : Int)) (orI (cmpI r s) (cmpI (fm.toNat : Int) (fm'.toNat : Int)))) :=
  ((sep_be8 hk hk').app (sep_tail h1 h2 h3 h4 fm fm')).cons 32

theorem flt_key_lt (n : Int) (h1 : -9223372036854775808 ≤ n) (h2 : n ≤ 9223372036854775807) : keyB (fltB (n - restI n)) < 18446744073709551616 := keyB_lt (flt_lt64 _)

/-- Whole numbers are in the order of their floors, and of the rests. -/
theorem cmp_floors {n m : Int} (h1 : -9223372036854775808 ≤ n) (h2 : n ≤ 9223372036854775807) (h3 : -9223372036854775808 ≤ m) (h4 : m ≤ 9223372036854775807) :
    cmpI n m = orI (cmpI (keyB (fltB (n - restI n))) (keyB (fltB (m - restI m)))) (cmpI (restI n) (restI m)) := by
  obtain ⟨r0, r1, r2, r3, r4, r5⟩ := rest_facts h1 h2
  obtain ⟨s0, s1, s2, s3, s4, s5⟩ := rest_facts h3 h4
  obtain ⟨fa, va⟩ := floor_flt h1 h2
  obtain ⟨fb, vb⟩ := floor_flt h3 h4
  obtain ⟨k1, k2⟩ := keyB_fval (flt_lt64 _) (flt_lt64 _) fa.num fb.num
  obtain ⟨k3, k4⟩ := keyB_fval (flt_lt64 _) (flt_lt64 _) fb.num fa.num
  have hU : (0 : Int) < (U : Int) := by have := U_pos; omega
  rw [va, vb] at k1 k2
  rw [va, vb] at k4
  have l1 : keyB (fltB (n - restI n)) < keyB (fltB (m - restI m)) ↔ n - restI n < m - restI m :=
    k2.trans ⟨fun h => Int.lt_of_mul_lt_mul_right h (Int.le_of_lt hU), fun h => Int.mul_lt_mul_of_pos_right h hU⟩
  have l2 : keyB (fltB (m - restI m)) < keyB (fltB (n - restI n)) ↔ m - restI m < n - restI n :=
    k4.trans ⟨fun h => Int.lt_of_mul_lt_mul_right h (Int.le_of_lt hU), fun h => Int.mul_lt_mul_of_pos_right h hU⟩
  have gn : n - restI n < m - restI m → n < m - restI m := by
    intro h
    have := floor_gap h1 h2 fb (by rw [vb]; exact Int.mul_lt_mul_of_pos_right h hU)
    rw [vb] at this
    exact Int.lt_of_mul_lt_mul_right this (Int.le_of_lt hU)
  have gm : m - restI m < n - restI n → m < n - restI n := by
    intro h
    have := floor_gap h3 h4 fa (by rw [va]; exact Int.mul_lt_mul_of_pos_right h hU)
    rw [va] at this
    exact Int.lt_of_mul_lt_mul_right this (Int.le_of_lt hU)
  clear k1 k2 k3 k4 va vb fa fb r2 s2
  generalize keyB (fltB (n - restI n)) = x at *
  generalize keyB (fltB (m - restI m)) = y at *
  generalize restI n = r at *
  generalize restI m = s at *
  rcases Nat.lt_trichotomy x y with h | h | h
  · have := gn (l1.1 h)
    rw [cmpI_neg (a := (x : Int)) (by omega), orI_ne (by decide), cmpI_neg (by omega)]
  · have e : n - r = m - s := by
      rcases Int.lt_trichotomy (n - r) (m - s) with g | g | g
      · have := l1.2 g; omega
      · exact g
      · have := l2.2 g; omega
    rw [cmpI_zero (a := (x : Int)) (by omega), orI_zero]
    exact cmpI_eq_of ⟨fun h => by omega, fun h => by omega⟩ ⟨fun h => by omega, fun h => by omega⟩
  · have := gm (l2.1 h)
    rw [cmpI_pos (a := (x : Int)) (by omega), orI_ne (by decide), cmpI_pos (by omega)]

/-- A valid atom's kind. -/
theorem kind_valid {a : At} (h : a.valid = true) : a.k = 0 ∨ a.k = 1 ∨ a.k = 2 ∨ a.k = 3 ∨ a.k = 4 ∨ a.k = 5 := by
  rcases Decidable.em (a.k = 0 ∨ a.k = 1 ∨ a.k = 2 ∨ a.k = 3 ∨ a.k = 4 ∨ a.k = 5) with h1 | h1
  · exact h1
  · unfold At.valid validA at h
    rw [if_neg (by omega), if_neg (by omega), if_neg (by omega), if_neg (by omega), if_neg (by omega)] at h
    cases h

/-- The first byte of an atom. -/
def headK (a : At) : UInt8 := if a.k = 0 then 5 else if a.k = 1 then (if a.n = 0 then 16 else 17) else if a.k = 4 then 48 else if a.k = 5 then 49 else 32
theorem atomK_head (a : At) : ∃ t, atomK a = headK a :: t := by
  unfold atomK headK numK
  repeat' split
  all_goals exact ⟨_, rfl⟩

theorem none_num {a : At} (h : a.valid = true) (hk : a.k = 0 ∨ a.k = 3 ∨ a.k = 4 ∨ a.k = 5) : a.n = 0 := by
  unfold At.valid validA at h
  rcases hk with hk | hk | hk | hk
  all_goals
    rw [hk] at h
    simp at h
    omega
theorem none_text {a : At} (h : a.valid = true) (hk : a.k = 0 ∨ a.k = 1 ∨ a.k = 2 ∨ a.k = 3) : a.s.data.toList = [] := by
  unfold At.valid validA at h
  rcases hk with hk | hk | hk | hk
  all_goals
    rw [hk] at h
    simp [toList_data] at h
    simp [h]
theorem bool_num {a : At} (h : a.valid = true) (hk : a.k = 1) : a.n = 0 ∨ a.n = 1 := by
  unfold At.valid validA at h
  rw [hk] at h
  simp at h
  omega
theorem cmpI_self (a : Int) : cmpI a a = 0 := cmpI_zero rfl
theorem cmpS_nil {s t : ByteArray} (h : s.data.toList = []) (h' : t.data.toList = []) : cmpS s t = 0 := by unfold cmpS; rw [h, h']; rfl

/-- Atoms of different ranks. -/
theorem sep_ranks {a b : At} (va : a.valid = true) (vb : b.valid = true) (h : rankA a.k ≠ rankA b.k) : Sep (atomK a) (atomK b) (cmpA a b) := by
  have hne : cmpI (rankA a.k) (rankA b.k) ≠ 0 := cmpI_ne h
  have hc : cmpA a b = cmpI (rankA a.k) (rankA b.k) := by
    unfold cmpA weighA
    rw [if_pos hne, orI_ne hne]
  rw [hc]
  obtain ⟨t, ht⟩ := atomK_head a
  obtain ⟨t', ht'⟩ := atomK_head b
  rw [ht, ht']
  have hr : ∀ {x : At}, x.valid = true → (x.k = 0 ∧ rankA x.k = 0 ∧ headK x = 5) ∨ (x.k = 1 ∧ rankA x.k = 1 ∧ (headK x = 16 ∨ headK x = 17)) ∨ (rankA x.k = 2 ∧ headK x = 32) ∨ (rankA x.k = 4 ∧ headK x = 48) ∨ (rankA x.k = 5 ∧ headK x = 49) := by
    intro x vx
    unfold headK
    rcases kind_valid vx with e | e | e | e | e | e
    · exact .inl ⟨e, by rw [e]; rfl, by rw [e]; rfl⟩
    · refine .inr (.inl ⟨e, by rw [e]; rfl, ?_⟩)
      rw [e]
      by_cases h0 : x.n = 0
      · exact .inl (by rw [if_neg (by omega), if_pos rfl, if_pos h0])
      · exact .inr (by rw [if_neg (by omega), if_pos rfl, if_neg h0])
    · exact .inr (.inr (.inl ⟨by rw [e]; rfl, by rw [e]; rfl⟩))
    · exact .inr (.inr (.inl ⟨by rw [e]; rfl, by rw [e]; rfl⟩))
    · exact .inr (.inr (.inr (.inl ⟨by rw [e]; rfl, by rw [e]; rfl⟩)))
    · exact .inr (.inr (.inr (.inr ⟨by rw [e]; rfl, by rw [e]; rfl⟩)))
  have ha := hr va
  have hb := hr vb
  generalize headK a = c at *
  generalize headK b = d at *
  generalize rankA a.k = x at *
  generalize rankA b.k = y at *
  clear hc hne hr ht ht' va vb
  have key : (x < y ∧ c < d) ∨ (y < x ∧ d < c) := by
    rcases ha with ⟨_, rfl, rfl⟩ | ⟨_, rfl, rfl | rfl⟩ | ⟨rfl, rfl⟩ | ⟨rfl, rfl⟩ | ⟨rfl, rfl⟩ <;> rcases hb with ⟨_, rfl, rfl⟩ | ⟨_, rfl, rfl | rfl⟩ | ⟨rfl, rfl⟩ | ⟨rfl, rfl⟩ | ⟨rfl, rfl⟩
    all_goals first | (exfalso; omega) | exact .inl ⟨by omega, by decide⟩ | exact .inr ⟨by omega, by decide⟩
  rcases key with ⟨h1, h2⟩ | ⟨h1, h2⟩
  · rw [cmpI_neg h1]; exact Sep.lt h2 _ _
  · rw [cmpI_pos h1]; exact Sep.gt h2 _ _

theorem cmpA_same {a b : At} (h : rankA a.k = rankA b.k) : cmpA a b = orI (if isNum2 a.k = true then weighN a.k a.n a.f b.k b.n b.f else orI (cmpI a.n b.n) (cmpS a.s b.s)) (cmpI a.k b.k) := by
  unfold cmpA weighA
  rw [if_neg (by rw [h, cmpI_self]; simp)]

theorem sep_nums {a b : At} (ha : a.Ok) (hb : b.Ok) (ka : a.k = 2 ∨ a.k = 3) (kb : b.k = 2 ∨ b.k = 3) : Sep (atomK a) (atomK b) (cmpA a b) := by
  have hr : rankA a.k = rankA b.k := by rcases ka with h | h <;> rcases kb with h' | h' <;> rw [h, h'] <;> rfl
  rw [cmpA_same hr]
  have hn : isNum2 a.k = true := by rcases ka with h | h <;> rw [h] <;> rfl
  rw [if_pos hn]
  clear hr hn
  rcases ka with h | h <;> rcases kb with h' | h'
  · obtain ⟨r0, r1, _⟩ := rest_facts ha.n1 ha.n2
    obtain ⟨s0, s1, _⟩ := rest_facts hb.n1 hb.n2
    have e1 : atomK a = numK (keyB (fltB (a.n - restI a.n))) (restI a.n) 0 := by unfold atomK; rw [if_neg (by omega), if_neg (by omega), if_neg (by omega), if_neg (by omega), if_pos h]
    have e2 : atomK b = numK (keyB (fltB (b.n - restI b.n))) (restI b.n) 0 := by unfold atomK; rw [if_neg (by omega), if_neg (by omega), if_neg (by omega), if_neg (by omega), if_pos h']
    have e3 : weighN a.k a.n a.f b.k b.n b.f = cmpI a.n b.n := by unfold weighN; rw [if_neg (by omega), if_neg (by omega)]
    rw [e1, e2, e3, h, h', cmp_floors ha.n1 ha.n2 hb.n1 hb.n2]
    have := sep_numK (flt_key_lt a.n ha.n1 ha.n2) (flt_key_lt b.n hb.n1 hb.n2) r0 r1 s0 s1 0 0
    rw [orI_assoc]
    exact this
  · obtain ⟨r0, r1, _⟩ := rest_facts ha.n1 ha.n2
    have e1 : atomK a = numK (keyB (fltB (a.n - restI a.n))) (restI a.n) 0 := by unfold atomK; rw [if_neg (by omega), if_neg (by omega), if_neg (by omega), if_neg (by omega), if_pos h]
    have e2 : atomK b = numK (keyB b.f) 0 1 := by unfold atomK; rw [if_neg (by omega), if_neg (by omega), if_neg (by omega), if_neg (by omega), if_neg (by omega)]
    have e3 : weighN a.k a.n a.f b.k b.n b.f = cmpN a.n b.f := by unfold weighN; rw [if_neg (by omega), if_pos h']
    rw [e1, e2, e3, h, h']
    have := sep_numK (flt_key_lt a.n ha.n1 ha.n2) (keyB_lt hb.f1) r0 r1 (by omega : (0:Int) ≤ 0) (by omega) 0 1
    have e4 : cmpN a.n b.f = orI (cmpI (keyB (fltB (a.n - restI a.n))) (keyB b.f)) (cmpI (restI a.n) 0) := by
      unfold cmpN
      by_cases hk : keyB (fltB (a.n - restI a.n)) = keyB b.f
      · rw [if_pos hk, cmpI_zero (a := ((keyB (fltB (a.n - restI a.n)) : Nat) : Int)) (by omega), orI_zero]
      · rw [if_neg hk, orI_ne (cmpI_ne (by omega))]
    rw [e4, orI_assoc]
    exact this
  · obtain ⟨s0, s1, _⟩ := rest_facts hb.n1 hb.n2
    have e1 : atomK a = numK (keyB a.f) 0 1 := by unfold atomK; rw [if_neg (by omega), if_neg (by omega), if_neg (by omega), if_neg (by omega), if_neg (by omega)]
    have e2 : atomK b = numK (keyB (fltB (b.n - restI b.n))) (restI b.n) 0 := by unfold atomK; rw [if_neg (by omega), if_neg (by omega), if_neg (by omega), if_neg (by omega), if_pos h']
    have e3 : weighN a.k a.n a.f b.k b.n b.f = -cmpN b.n a.f := by unfold weighN; rw [if_pos h, if_neg (by omega)]
    rw [e1, e2, e3, h, h']
    have := (sep_numK (flt_key_lt b.n hb.n1 hb.n2) (keyB_lt ha.f1) s0 s1 (by omega : (0:Int) ≤ 0) (by omega) 0 1).flip
    have e4 : cmpN b.n a.f = orI (cmpI (keyB (fltB (b.n - restI b.n))) (keyB a.f)) (cmpI (restI b.n) 0) := by
      unfold cmpN
      by_cases hk : keyB (fltB (b.n - restI b.n)) = keyB a.f
      · rw [if_pos hk, cmpI_zero (a := ((keyB (fltB (b.n - restI b.n)) : Nat) : Int)) (by omega), orI_zero]
      · rw [if_neg hk, orI_ne (cmpI_ne (by omega))]
    have e5 : ∀ x y : Int, -orI x (orI y (-1)) = orI (-orI x y) 1 := by
      intro x y
      unfold orI
      repeat' split
      all_goals first | rfl | omega
    have e6 : cmpI ((0 : UInt8).toNat : Int) ((1 : UInt8).toNat : Int) = -1 := rfl
    have e7 : cmpI 3 2 = 1 := rfl
    rw [e6, e5] at this
    rw [e4, e7]
    exact this
  · have e1 : atomK a = numK (keyB a.f) 0 1 := by unfold atomK; rw [if_neg (by omega), if_neg (by omega), if_neg (by omega), if_neg (by omega), if_neg (by omega)]
    have e2 : atomK b = numK (keyB b.f) 0 1 := by unfold atomK; rw [if_neg (by omega), if_neg (by omega), if_neg (by omega), if_neg (by omega), if_neg (by omega)]
    have e3 : weighN a.k a.n a.f b.k b.n b.f = cmpI (keyB a.f) (keyB b.f) := by unfold weighN; rw [if_pos h, if_pos h']
    rw [e1, e2, e3, h, h']
    have := sep_numK (keyB_lt ha.f1) (keyB_lt hb.f1) (by omega : (0:Int) ≤ 0) (by omega) (by omega : (0:Int) ≤ 0) (by omega) 1 1
    exact this

theorem sep_txt (s t : ByteArray) : Sep (txt s.data.toList) (txt t.data.toList) (cmpS s t) := by
  by_cases h : s.data.toList = t.data.toList
  · have e : cmpS s t = 0 := by unfold cmpS; rw [h]; exact cmp_self _
    rw [e, h]
    exact Sep.same _
  · have h0 : cmpS s t ≠ 0 := fun e => h (cmp_zero _ _ e)
    exact Sep.of h0 fun u v => cmp_txt _ _ u v h

/-- Atoms are in the order of their bytes, whatever stands behind. -/
theorem sep_atoms {a b : At} (ha : a.Ok) (hb : b.Ok) (va : a.valid = true) (vb : b.valid = true) : Sep (atomK a) (atomK b) (cmpA a b) := by
  by_cases hr : rankA a.k = rankA b.k
  · rcases kind_valid va with h | h | h | h | h | h <;> rcases kind_valid vb with h' | h' | h' | h' | h' | h'
    all_goals first
      | (exfalso; rw [h, h'] at hr; revert hr; decide)
      | exact sep_nums ha hb (by omega) (by omega)
      | skip
    · have e : cmpA a b = 0 := by
        rw [cmpA_same hr, h, h', if_neg (by decide), none_num va (by omega), none_num vb (by omega), cmpS_nil (none_text va (by omega)) (none_text vb (by omega))]
        rfl
      have e1 : atomK a = [5] := by unfold atomK; rw [if_pos h]
      have e2 : atomK b = [5] := by unfold atomK; rw [if_pos h']
      rw [e, e1, e2]
      exact Sep.same _
    · have e : cmpA a b = cmpI a.n b.n := by
        rw [cmpA_same hr, h, h', if_neg (by decide), cmpS_nil (none_text va (by omega)) (none_text vb (by omega)), cmpI_self]
        unfold orI
        repeat' split
        all_goals omega
      have e1 : atomK a = if a.n = 0 then [16] else [17] := by unfold atomK; rw [if_neg (by omega), if_pos h]
      have e2 : atomK b = if b.n = 0 then [16] else [17] := by unfold atomK; rw [if_neg (by omega), if_pos h']
      rw [e, e1, e2]
      rcases bool_num va h with g | g <;> rcases bool_num vb h' with g' | g' <;> rw [g, g']
      · exact Sep.same _
      · exact sep_u8 16 17
      · exact sep_u8 17 16
      · exact Sep.same _
    all_goals
      have e : cmpA a b = cmpS a.s b.s := by
        rw [cmpA_same hr, h, h', if_neg (by decide), none_num va (by omega), none_num vb (by omega), cmpI_self, cmpI_self, orI_zero]
        unfold orI
        repeat' split
        all_goals omega
    · have e1 : atomK a = 48 :: txt a.s.data.toList := by unfold atomK; rw [if_neg (by omega), if_neg (by omega), if_pos h]
      have e2 : atomK b = 48 :: txt b.s.data.toList := by unfold atomK; rw [if_neg (by omega), if_neg (by omega), if_pos h']
      rw [e, e1, e2]
      exact (sep_txt _ _).cons 48
    · have e1 : atomK a = 49 :: txt a.s.data.toList := by unfold atomK; rw [if_neg (by omega), if_neg (by omega), if_neg (by omega), if_pos h]
      have e2 : atomK b = 49 :: txt b.s.data.toList := by unfold atomK; rw [if_neg (by omega), if_neg (by omega), if_neg (by omega), if_pos h']
      rw [e, e1, e2]
      exact (sep_txt _ _).cons 49
  · exact sep_ranks va vb hr

theorem headK_pos {a : At} : 0 < headK a ∧ headK a < 64 := by
  unfold headK
  repeat' split
  all_goals decide

theorem sep_lists : ∀ {l r : List At}, (∀ x ∈ l, x.Ok ∧ x.valid = true) → (∀ x ∈ r, x.Ok ∧ x.valid = true) → Sep (atomsK l ++ [0]) (atomsK r ++ [0]) (cmpLs l r)
  | [], [], _, _ => Sep.same _
  | [], b :: r, _, _ => by
    obtain ⟨t, ht⟩ := atomK_head b
    simp only [atomsK, ht]
    exact Sep.lt headK_pos.1 _ _
  | a :: l, [], _, _ => by
    obtain ⟨t, ht⟩ := atomK_head a
    simp only [atomsK, ht]
    exact Sep.gt headK_pos.1 _ _
  | a :: l, b :: r, hl, hr => by
    simp only [atomsK, cmpLs]
    rw [List.append_assoc, List.append_assoc]
    exact (sep_atoms (hl a (by simp)).1 (hr b (by simp)).1 (hl a (by simp)).2 (hr b (by simp)).2).app (sep_lists (fun x hx => hl x (by simp [hx])) fun x hx => hr x (by simp [hx]))

theorem valid_parts {a : At} {l : List At} (h : validV a l = true) : (a.k = 6 ∧ a.n = 0 ∧ a.f = 0 ∧ a.s.data.toList = [] ∧ l.length ≤ 16 ∧ ∀ x ∈ l, x.valid = true) ∨ (a.k ≠ 6 ∧ l = [] ∧ a.valid = true) := by
  unfold validV at h
  by_cases hk : a.k = 6
  · rw [if_pos hk] at h
    simp only [Bool.and_eq_true, Bool.not_eq_true', List.any_eq_false, decide_eq_true_eq] at h
    obtain ⟨h1, h2, h3⟩ := h
    unfold validA at h1
    rw [if_pos rfl] at h1
    simp [toList_data] at h1
    refine .inl ⟨hk, by omega, by omega, by simp [h1], by omega, fun x hx => ?_⟩
    have := h3 x hx
    simpa using this
  · rw [if_neg hk] at h
    simp only [Bool.and_eq_true, beq_iff_eq] at h
    exact .inr ⟨hk, List.eq_nil_of_length_eq_zero (by omega), h.2⟩

/-- Values are in the order of their bytes, whatever stands behind. -/
theorem sep_vals {a b : At} {l r : List At} (ha : a.Ok) (hl : ∀ x ∈ l, x.Ok) (hb : b.Ok) (hr : ∀ x ∈ r, x.Ok) (va : validV a l = true) (vb : validV b r = true) : Sep (valK a l) (valK b r) (cmpV a l b r) := by
  unfold cmpV
  rw [if_pos ⟨va, vb⟩]
  rcases valid_parts va with ⟨ka, na, fa, sa, _, la⟩ | ⟨ka, la, va'⟩ <;> rcases valid_parts vb with ⟨kb, nb, fb, sb, _, lb⟩ | ⟨kb, lb, vb'⟩
  · have e : cmpA a b = 0 := by
      rw [cmpA_same (by rw [ka, kb]), ka, kb, if_neg (by decide), na, nb, cmpS_nil sa sb]
      rfl
    unfold valK
    rw [e, orI_zero, if_pos ka, if_pos kb]
    exact (sep_lists (fun x hx => ⟨hl x hx, la x hx⟩) fun x hx => ⟨hr x hx, lb x hx⟩).cons 64
  · have hlt : rankA b.k < rankA a.k := by
      rcases kind_valid vb' with h | h | h | h | h | h <;> rw [ka, h] <;> decide
    have e : cmpA a b = 1 := by
      unfold cmpA weighA
      rw [cmpI_pos hlt, if_pos (by decide), orI_ne (by decide)]
    obtain ⟨t, ht⟩ := atomK_head b
    unfold valK
    rw [e, orI_ne (by decide), if_pos ka, if_neg kb, ht]
    exact Sep.gt headK_pos.2 _ _
  · have hlt : rankA a.k < rankA b.k := by
      rcases kind_valid va' with h | h | h | h | h | h <;> rw [kb, h] <;> decide
    have e : cmpA a b = -1 := by
      unfold cmpA weighA
      rw [cmpI_neg hlt, if_pos (by decide), orI_ne (by decide)]
    obtain ⟨t, ht⟩ := atomK_head a
    unfold valK
    rw [e, orI_ne (by decide), if_neg ka, if_pos kb, ht]
    exact Sep.lt headK_pos.2 _ _
  · subst la lb
    have e : orI (cmpA a b) (cmpLs [] []) = cmpA a b := by
      unfold orI cmpLs
      split <;> omega
    unfold valK
    rw [e, if_neg ka, if_neg kb]
    exact sep_atoms ha hb va' vb'

end Go.Proofs.Ytekaedafhiddeaa
