/-
  What the reference's order of atoms tells, as plain functions; on what is valid it is the order of atoms.
  The reference's order of atoms: contracts for the walks.
  The reference's order of atoms, whole, and its same: contracts for the walks.
-/
import Derived.Test.YtinbdneajbommaaDoorVOrd
import Derived.Test.YtinbdneajbommaaDoorVAskP
import Derived.Test.YtinbdneajbommaaDoorVAt
import Derived.Test.YtinbdneajbommaaDoorVRefV
import Derived.Test.YtinbdneajbommaaDoorFRef
import Derived.Test.YtinbdneajbommaaDoorFWholeR
import Derived.Test.YtinbdneajbommaaDoorFRefC
import Derived.WalkLawsBesides
set_option linter.unusedVariables false
set_option maxRecDepth 100000
namespace Go.Proofs.YtinbdneajbommaaDoor
open Go.RowKit

def rankR (k : Int) : Int := if 3 ≤ k then k - 1 else k
def numbersR (k n : Int) (f : Nat) (k' n' : Int) (g : Nat) : Int :=
  if k = 2 then (if k' = 2 then cmpI n n' else cmpN n g) else if k' = 2 then -cmpN n' f else cmpI (keyB f) (keyB g)
def strLt (s t : ByteArray) : Bool := decide (cmpS s t < 0)
def textR (a b : At) : Int := if decide (a.n < b.n) = true ∨ strLt a.s b.s = true then -1 else if decide (b.n < a.n) = true ∨ strLt b.s a.s = true then 1 else 0
def atomsR (a b : At) : Int :=
  if rankR a.k < rankR b.k then -1 else if rankR b.k < rankR a.k then 1
  else if rankR a.k = 2 then (if numbersR a.k a.n a.f b.k b.n b.f = 0 ∧ a.k ≠ b.k then a.k - b.k else numbersR a.k a.n a.f b.k b.n b.f)
  else textR a b

theorem isNum2_eq (k : Int) : isNum2 k = decide (k = 2 ∨ k = 3) := by
  unfold isNum2
  rw [Bool.eq_iff_iff]
  simp

theorem rankA_eq (k : Int) : rankA k = if k = 3 then 2 else k := by
  unfold rankA
  rw [isNum2_eq]
  by_cases h3 : k = 3
  · subst h3; rfl
  · rw [if_neg h3]
    by_cases h2 : k = 2
    · subst h2; rfl
    · rw [if_neg (by simp [h2, h3])]
theorem rank_vals (k : Int) : (k ≤ 2 ∧ rankR k = k ∧ rankA k = k) ∨ (k = 3 ∧ rankR k = 2 ∧ rankA k = 2) ∨ (4 ≤ k ∧ rankR k = k - 1 ∧ rankA k = k) := by
  rw [rankA_eq]
  unfold rankR
  by_cases h1 : k ≤ 2
  · exact .inl ⟨h1, if_neg (by omega), if_neg (by omega)⟩
  · by_cases h3 : k = 3
    · subst h3
      exact .inr (.inl ⟨rfl, rfl, rfl⟩)
    · exact .inr (.inr ⟨by omega, if_pos (by omega), if_neg h3⟩)
theorem rank_lt (k k' : Int) : rankR k < rankR k' ↔ rankA k < rankA k' := by
  have h1 := rank_vals k
  have h2 := rank_vals k'
  generalize rankR k = a at *
  generalize rankR k' = b at *
  generalize rankA k = c at *
  generalize rankA k' = d at *
  constructor
  · intro h
    rcases h1 with ⟨h1, rfl, rfl⟩ | ⟨h1, rfl, rfl⟩ | ⟨h1, rfl, rfl⟩ <;> rcases h2 with ⟨h2, rfl, rfl⟩ | ⟨h2, rfl, rfl⟩ | ⟨h2, rfl, rfl⟩ <;> omega
  · intro h
    rcases h1 with ⟨h1, rfl, rfl⟩ | ⟨h1, rfl, rfl⟩ | ⟨h1, rfl, rfl⟩ <;> rcases h2 with ⟨h2, rfl, rfl⟩ | ⟨h2, rfl, rfl⟩ | ⟨h2, rfl, rfl⟩ <;> omega
theorem rankR_cmp (k k' : Int) : cmpI (rankR k) (rankR k') = cmpI (rankA k) (rankA k') := cmpI_eq_of (rank_lt _ _) (rank_lt _ _)
theorem rankR_two (k : Int) : rankR k = 2 ↔ isNum2 k = true := by
  rw [isNum2_eq, decide_eq_true_eq]
  have h1 := rank_vals k
  generalize rankR k = a at *
  constructor
  · intro h
    omega
  · intro h
    omega
theorem numbersR_eq {k n : Int} {f : Nat} {k' n' : Int} {g : Nat} (h : k = 2 ∨ k = 3) (h' : k' = 2 ∨ k' = 3) : numbersR k n f k' n' g = weighN k n f k' n' g := by
  unfold numbersR weighN
  rcases h with h | h <;> rcases h' with h' | h'
  · rw [if_pos h, if_pos h', if_neg (by omega), if_neg (by omega)]
  · rw [if_pos h, if_neg (by omega), if_neg (by omega), if_pos h']
  · rw [if_neg (by omega), if_pos h', if_pos h, if_neg (by omega)]
  · rw [if_neg (by omega), if_neg (by omega), if_pos h, if_pos h']

theorem strLt_iff (s t : ByteArray) : strLt s t = true ↔ cmpS s t < 0 := by unfold strLt; simp
theorem textR_eq {a b : At} (h : (a.n = b.n) ∨ cmpS a.s b.s = 0) : textR a b = orI (cmpI a.n b.n) (cmpS a.s b.s) := by
  have hr := cmpS_rng a.s b.s
  have ha := IsCmp.str.anti a.s b.s
  unfold textR
  simp only [strLt_iff, decide_eq_true_eq]
  rcases h with h | h
  · rw [cmpI_zero h, orI_zero]
    rcases hr with hr | hr | hr
    · rw [if_pos (.inr (by omega)), hr]
    · rw [if_neg (by omega), if_neg (by omega), hr]
    · rw [if_neg (by omega), if_pos (.inr (by omega)), hr]
  · have h' : cmpS b.s a.s = 0 := by omega
    rcases Int.lt_trichotomy a.n b.n with h3 | h3 | h3
    · rw [if_pos (.inl h3), cmpI_neg h3]
      rfl
    · rw [if_neg (by omega), if_neg (by omega), cmpI_zero h3, h]
      rfl
    · rw [if_neg (by omega), if_pos (.inl h3), cmpI_pos h3]
      rfl

theorem less_cmp : ∀ l r : List UInt8, Op.bytesLess l r = decide (Lib.compareBytes l r < 0)
  | [], [] => rfl
  | [], _ :: _ => rfl
  | _ :: _, [] => rfl
  | a :: l, b :: r => by
    have ih := less_cmp l r
    simp only [Op.bytesLess, Lib.compareBytes, ih]
    by_cases h1 : a < b
    · simp [h1]
    · by_cases h2 : b < a
      · have hne : a ≠ b := fun h => by rw [h] at h2; exact absurd h2 (by rw [UInt8.lt_iff_toNat_lt]; omega)
        simp [h1, h2, hne]
      · have he : a = b := by
          rw [UInt8.lt_iff_toNat_lt] at h1 h2
          exact UInt8.toNat_inj.1 (by omega)
        simp [he]
theorem less_str (s t : ByteArray) : Op.bytesLess s.toList t.toList = strLt s t := by
  rw [toList_data, toList_data, less_cmp]
  rfl
theorem str_same (s t : ByteArray) : (s.toList == t.toList) = decide (cmpS s t = 0) := by
  rw [Bool.eq_iff_iff]
  simp only [beq_iff_eq, decide_eq_true_eq]
  constructor
  · intro h
    rw [str_eq h]
    exact IsCmp.str.self _
  · intro h
    rw [cmpS_eq h]

theorem strLt_flip (s t : ByteArray) : strLt t s = !(Op.bytesLess s.toList t.toList || s.toList == t.toList) := by
  have hr := cmpS_rng s t
  have ha := IsCmp.str.anti s t
  rw [less_str, str_same, Bool.eq_iff_iff]
  unfold strLt
  simp only [decide_eq_true_eq, Bool.not_eq_true', Bool.or_eq_false_iff, decide_eq_false_iff_not]
  omega

/-- What is good has no number or no text: kinds 0, 1, 2, 3, 6 have no text; 4 and 5 have no number. -/
theorem good_ns {a : At} (g : good a) : a.n = 0 ∨ (a.s.toList = [] ∧ a.k ≠ 4 ∧ a.k ≠ 5) := by
  obtain ⟨k, n, f, s⟩ := a
  unfold good At.valid at g
  simp only at g ⊢
  have hk : k = 0 ∨ k = 1 ∨ k = 2 ∨ k = 3 ∨ k = 4 ∨ k = 5 ∨ k = 6 := by
    rcases g with ga | ⟨ga, _⟩
    · apply Classical.byContradiction
      intro hno
      unfold validA at ga
      rw [if_neg (by omega), if_neg (by omega), if_neg (by omega), if_neg (by omega), if_neg (by omega)] at ga
      cases ga
    · omega
  rcases hk with rfl | rfl | rfl | rfl | rfl | rfl | rfl
  all_goals simp [validA] at g
  · exact .inl g.1.1
  · exact .inr ⟨g.2, by decide, by decide⟩
  · exact .inr ⟨g.2, by decide, by decide⟩
  · exact .inl g.1.1
  · exact .inl g.1.1
  · exact .inl g.1.1
  · exact .inl g.1.1
theorem good_s {a : At} (g : good a) (h4 : a.k ≠ 4) (h5 : a.k ≠ 5) : a.s.toList = [] := by
  obtain ⟨k, n, f, s⟩ := a
  unfold good At.valid at g
  simp only at g h4 h5 ⊢
  have hk : k = 0 ∨ k = 1 ∨ k = 2 ∨ k = 3 ∨ k = 6 := by
    rcases g with ga | ⟨ga, _⟩
    · apply Classical.byContradiction
      intro hno
      unfold validA at ga
      rw [if_neg (by omega), if_neg (by omega), if_neg (by omega), if_neg (by omega), if_neg (by omega)] at ga
      cases ga
    · omega
  rcases hk with rfl | rfl | rfl | rfl | rfl
  all_goals simp [validA] at g
  all_goals exact g.2

/-- On atoms that are good the reference's order is the order of atoms. -/
theorem atomsR_eq {a b : At} (ga : good a) (gb : good b) : atomsR a b = cmpA a b := by
  have hr := rankR_cmp a.k b.k
  unfold atomsR cmpA weighA
  rcases Int.lt_trichotomy (rankR a.k) (rankR b.k) with h | h | h
  · rw [if_pos h]
    rw [cmpI_neg h] at hr
    rw [← hr, if_pos (by decide), orI_ne (by decide)]
  · rw [if_neg (by omega : ¬ rankR a.k < rankR b.k), if_neg (by omega : ¬ rankR b.k < rankR a.k)]
    rw [cmpI_zero h] at hr
    rw [← hr, if_neg (by decide : ¬ (0 : Int) ≠ 0)]
    by_cases h2 : rankR a.k = 2
    · have n1 := (rankR_two a.k).1 h2
      have n2 := (rankR_two b.k).1 (by omega)
      simp only [if_pos h2, if_pos n1]
      have k1 : a.k = 2 ∨ a.k = 3 := by rw [isNum2_eq] at n1; simpa using n1
      have k2 : b.k = 2 ∨ b.k = 3 := by rw [isNum2_eq] at n2; simpa using n2
      rw [numbersR_eq k1 k2]
      generalize weighN a.k a.n a.f b.k b.n b.f = c
      by_cases hc : c = 0
      · rw [hc, orI_zero]
        by_cases hk : a.k = b.k
        · rw [if_neg (fun h => h.2 hk), cmpI_zero hk]
        · rw [if_pos ⟨rfl, hk⟩]
          unfold cmpI
          split <;> (try split) <;> omega
      · rw [if_neg (fun h => hc h.1), orI_ne hc]
    · have n1 : ¬ isNum2 a.k = true := fun h' => h2 ((rankR_two a.k).2 h')
      simp only [if_neg h2, if_neg n1]
      have hk : a.k = b.k := by
        unfold rankR at h h2
        split at h <;> split at h <;> omega
      have hns : a.n = b.n ∨ cmpS a.s b.s = 0 := by
        by_cases h45 : a.k = 4 ∨ a.k = 5
        · have g1 := (good_ns ga).resolve_right (fun h => by omega)
          have g2 := (good_ns gb).resolve_right (fun h => by omega)
          exact .inl (by omega)
        · have g1 := good_s ga (by omega) (by omega)
          have g2 := good_s gb (by omega) (by omega)
          have e : a.s = b.s := str_eq (by rw [g1, g2])
          rw [e]
          exact .inr (IsCmp.str.self _)
      rw [textR_eq hns, cmpI_zero hk]
      unfold orI
      split <;> (try split) <;> omega
  · rw [if_neg (by omega), if_pos h]
    rw [cmpI_pos h] at hr
    rw [← hr, if_pos (by decide), orI_ne (by decide)]

end Go.Proofs.YtinbdneajbommaaDoor

set_option linter.unusedVariables false
set_option maxRecDepth 100000
namespace Go.Proofs.YtinbdneajbommaaDoor
open Go.RowKit

set_option maxHeartbeats 400000 in
theorem refRank_any {w : World} (k : Int) (h1 : -9223372036854775808 ≤ k) (h2 : k ≤ 9223372036854775807) :
    Calls Tryd.prog 37 #[.int .i64 k] w fun e w' => e = .returned (.int .i64 (rankR k)) ∧ w = w' := by
  have HE : Hid (rankR k = if 3 ≤ k then k - 1 else k) := Lib.hid rfl
  generalize rankR k = r at *
  by_cases h : 3 ≤ k
  · have H := Lib.hid h
    go_enter Tryd.func37, Tryd.ntmps37
    go_wp2
    go_ret
    exact ⟨ret_int (by rw [HE.out, if_pos H.out]), rfl⟩
  · have H := Lib.hid h
    go_enter Tryd.func37, Tryd.ntmps37
    go_wp2
    go_ret
    exact ⟨ret_int (by rw [HE.out, if_neg (by have := H.out; omega)]), rfl⟩

set_option maxHeartbeats 800000 in
theorem refNumbers_any {w : World} (k n : Int) (f : Nat) (s : ByteArray) (k' n' : Int) (g : Nat) (t : ByteArray) (hn1 : -9223372036854775808 ≤ n) (hn2 : n ≤ 9223372036854775807) (hf : f < 18446744073709551616)
    (hn1' : -9223372036854775808 ≤ n') (hn2' : n' ≤ 9223372036854775807) (hg : g < 18446744073709551616) :
    Calls Tryd.prog 40 #[.agg #[.int .i64 k, .int .i64 n, .float .f64 f, .string s], .agg #[.int .i64 k', .int .i64 n', .float .f64 g, .string t]] w fun e w' => e = .returned (.int .i64 (numbersR k n f k' n' g)) ∧ Below w.heap.size w w' := by
  have HX := Lib.hid (fun (w : World) (f : Nat) => vBits_any (w := w) f)
  have H1 : Hid (∀ w, Calls Tryd.prog 61 #[.int .i64 n, .int .u64 (g : Int)] w fun e w' => e = .returned (.int .i64 (cmpN n g)) ∧ ∃ k, w' = w.drewN k) := Lib.hid fun w => refCompareInt_any (w := w) n hn1 hn2 g hg
  have H2 : Hid (∀ w, Calls Tryd.prog 61 #[.int .i64 n', .int .u64 (f : Int)] w fun e w' => e = .returned (.int .i64 (cmpN n' f)) ∧ ∃ k, w' = w.drewN k) := Lib.hid fun w => refCompareInt_any (w := w) n' hn1' hn2' f hf
  have H3 := Lib.hid (fun w => refCompare_any (w := w) f g hf hg)
  have hb : -1 ≤ cmpN n' f ∧ cmpN n' f ≤ 1 := by rcases cmpN_rng n' f with h | h | h <;> omega
  have HE : Hid (numbersR k n f k' n' g = if k = 2 then (if k' = 2 then cmpI n n' else cmpN n g) else if k' = 2 then -cmpN n' f else cmpI (keyB f) (keyB g)) := Lib.hid rfl
  have HI : Hid (cmpI n n' = if n < n' then -1 else if n' < n then 1 else 0) := Lib.hid rfl
  clear hn1 hn2 hf hn1' hn2' hg
  generalize numbersR k n f k' n' g = r at *
  generalize cmpI (keyB f) (keyB g) = a1 at *
  generalize cmpN n' f = a2 at *
  generalize cmpN n g = a3 at *
  generalize cmpI n n' = a4 at *
  by_cases h : k = 2
  · have h' : (k == 2) = true := by simpa using h
    have HK := Lib.hid h
    clear h
    by_cases h : k' = 2
    · have h'' : (k' == 2) = true := by simpa using h
      have HK' := Lib.hid h
      clear h
      rcases Int.lt_trichotomy n n' with h3 | h3 | h3
      · have H4 := Lib.hid h3
        go_enter Tryd.func40, Tryd.ntmps40
        go_wp2
        go_ret
        exact ⟨ret_int (by rw [HE.out, if_pos HK.out, if_pos HK'.out, HI.out, if_pos H4.out]), box2_below (Below.refl _ _)⟩
      · have h4 : ¬ n < n' := by omega
        have h5 : ¬ n' < n := by omega
        have H4 := Lib.hid h4
        have H5 := Lib.hid h5
        clear h3
        go_enter Tryd.func40, Tryd.ntmps40
        go_wp2
        go_ret
        exact ⟨ret_int (by rw [HE.out, if_pos HK.out, if_pos HK'.out, HI.out, if_neg (by have := H4.out; omega), if_neg (by have := H5.out; omega)]), box2_below (Below.refl _ _)⟩
      · have h4 : ¬ n < n' := by omega
        have H4 := Lib.hid h4
        have H5 := Lib.hid h3
        go_enter Tryd.func40, Tryd.ntmps40
        go_wp2
        go_ret
        exact ⟨ret_int (by rw [HE.out, if_pos HK.out, if_pos HK'.out, HI.out, if_neg (by have := H4.out; omega), if_pos H5.out]), box2_below (Below.refl _ _)⟩
    · have h'' : (k' == 2) = false := by simpa using h
      have HK' := Lib.hid h
      clear h
      go_enter Tryd.func40, Tryd.ntmps40
      go_wp2
      go_quiet ((first | (go_at_call 24; exact Calls.quiet_of_same (HX.out _ _)) | (go_at_call 61; exact Calls.quiet_of (H1.out _))))
      go_wp2
      go_ret
      exact ⟨ret_int (by rw [HE.out, if_pos HK.out, if_neg HK'.out]), belowN (box2_below (Below.refl _ _)) _⟩
  · have h' : (k == 2) = false := by simpa using h
    have HK := Lib.hid h
    clear h
    by_cases h : k' = 2
    · have h'' : (k' == 2) = true := by simpa using h
      have HK' := Lib.hid h
      clear h
      go_enter Tryd.func40, Tryd.ntmps40
      go_wp2
      go_quiet ((first | (go_at_call 24; exact Calls.quiet_of_same (HX.out _ _)) | (go_at_call 61; exact Calls.quiet_of (H2.out _))))
      go_wp2
      go_ret
      refine ⟨ret_int ?_, belowN (box2_below (Below.refl _ _)) _⟩
      rw [HE.out, if_neg HK.out, if_pos HK'.out]
      try (rw [IntKind.wrap_i64]; omega)
    · have h'' : (k' == 2) = false := by simpa using h
      have HK' := Lib.hid h
      clear h
      go_enter Tryd.func40, Tryd.ntmps40
      go_wp2
      go_quiet ((first | (go_at_call 24; exact Calls.quiet_of_same (HX.out _ _)) | (go_at_call 62; exact Calls.quiet_of_same ((H3.out _).mono fun e w' h => ⟨h.1, h.2.symm⟩))))
      go_wp2
      go_ret
      exact ⟨ret_int (by rw [HE.out, if_neg HK.out, if_neg HK'.out]), belowN (box2_below (Below.refl _ _)) _⟩

set_option maxHeartbeats 1600000 in
theorem refAtoms_ne {w : World} (k n : Int) (f : Nat) (s : ByteArray) (k' n' : Int) (g : Nat) (t : ByteArray) (hk1 : -9223372036854775808 ≤ k) (hk2 : k ≤ 9223372036854775807) (hk1' : -9223372036854775808 ≤ k') (hk2' : k' ≤ 9223372036854775807) (hn1 : -9223372036854775808 ≤ n) (hn2 : n ≤ 9223372036854775807) (hf : f < 18446744073709551616) (hn1' : -9223372036854775808 ≤ n') (hn2' : n' ≤ 9223372036854775807) (hg : g < 18446744073709551616) (hne : rankR k ≠ rankR k') :
    Calls Tryd.prog 27 #[.agg #[.int .i64 k, .int .i64 n, .float .f64 f, .string s], .agg #[.int .i64 k', .int .i64 n', .float .f64 g, .string t]] w fun e w' => e = .returned (.int .i64 (atomsR ⟨k, n, f, s⟩ ⟨k', n', g, t⟩)) ∧ Below w.heap.size w w' := by
  have R1 := Lib.hid (fun (w : World) => refRank_any (w := w) k hk1 hk2)
  have R2 := Lib.hid (fun (w : World) => refRank_any (w := w) k' hk1' hk2')
  have HE : Hid (rankR k < rankR k' → atomsR ⟨k, n, f, s⟩ ⟨k', n', g, t⟩ = -1) := Lib.hid fun h => by unfold atomsR; rw [if_pos h]
  have HF : Hid (rankR k' < rankR k → atomsR ⟨k, n, f, s⟩ ⟨k', n', g, t⟩ = 1) := Lib.hid fun h => by unfold atomsR; rw [if_neg (by dsimp only; omega), if_pos h]
  clear hk1 hk2 hk1' hk2' hn1 hn2 hf hn1' hn2' hg
  generalize atomsR ⟨k, n, f, s⟩ ⟨k', n', g, t⟩ = c at *
  generalize rankR k = r at *
  generalize rankR k' = r' at *
  rcases Int.lt_or_gt_of_ne hne with h | h
  · have H := Lib.hid h
    clear hne
    go_enter Tryd.func27, Tryd.ntmps27
    go_wp2_with fail
    refine (R1.out _).mono ?_; rintro e w1 ⟨rfl, rfl⟩
    go_wp2_with fail
    refine (R2.out _).mono ?_; rintro e w1 ⟨rfl, rfl⟩
    go_wp2
    go_ret
    exact ⟨ret_int (HE.out H.out).symm, box2_below (Below.refl _ _)⟩
  · have h' : ¬ r < r' := by omega
    have H := Lib.hid h
    clear hne
    go_enter Tryd.func27, Tryd.ntmps27
    go_wp2_with fail
    refine (R1.out _).mono ?_; rintro e w1 ⟨rfl, rfl⟩
    go_wp2_with fail
    refine (R2.out _).mono ?_; rintro e w1 ⟨rfl, rfl⟩
    go_wp2
    go_ret
    exact ⟨ret_int (HF.out H.out).symm, box2_below (Below.refl _ _)⟩

set_option maxHeartbeats 1600000 in
theorem refAtoms_num {w : World} (k n : Int) (f : Nat) (s : ByteArray) (k' n' : Int) (g : Nat) (t : ByteArray) (hk1 : -9223372036854775808 ≤ k) (hk2 : k ≤ 9223372036854775807) (hk1' : -9223372036854775808 ≤ k') (hk2' : k' ≤ 9223372036854775807) (hn1 : -9223372036854775808 ≤ n) (hn2 : n ≤ 9223372036854775807) (hf : f < 18446744073709551616) (hn1' : -9223372036854775808 ≤ n') (hn2' : n' ≤ 9223372036854775807) (hg : g < 18446744073709551616) (heq : rankR k = rankR k') (h2 : rankR k = 2) :
    Calls Tryd.prog 27 #[.agg #[.int .i64 k, .int .i64 n, .float .f64 f, .string s], .agg #[.int .i64 k', .int .i64 n', .float .f64 g, .string t]] w fun e w' => e = .returned (.int .i64 (atomsR ⟨k, n, f, s⟩ ⟨k', n', g, t⟩)) ∧ Below w.heap.size w w' := by
  have R1 := fun (w : World) => refRank_any (w := w) k hk1 hk2
  have R2 := fun (w : World) => refRank_any (w := w) k' hk1' hk2'
  rw [← heq, h2] at R2
  rw [h2] at R1
  replace R1 := Lib.hid R1
  replace R2 := Lib.hid R2
  have HN := Lib.hid (fun (w : World) => refNumbers_any (w := w) k n f s k' n' g t hn1 hn2 hf hn1' hn2' hg)
  have HE : Hid (atomsR ⟨k, n, f, s⟩ ⟨k', n', g, t⟩ = if numbersR k n f k' n' g = 0 ∧ k ≠ k' then k - k' else numbersR k n f k' n' g) := Lib.hid (by unfold atomsR; rw [if_neg (by dsimp only; omega), if_neg (by dsimp only; omega), if_pos h2])
  have hk : (k = 2 ∨ k = 3) ∧ (k' = 2 ∨ k' = 3) := by
    have a1 := (rankR_two k).1 h2
    have a2 := (rankR_two k').1 (by omega)
    rw [isNum2_eq] at a1 a2
    simp only [decide_eq_true_eq] at a1 a2
    exact ⟨a1, a2⟩
  have HKK := Lib.hid hk
  clear hk1 hk2 hk1' hk2' hn1 hn2 hf hn1' hn2' hg heq h2 hk
  generalize atomsR ⟨k, n, f, s⟩ ⟨k', n', g, t⟩ = c at *
  generalize numbersR k n f k' n' g = z at *
  obtain ⟨W, hW⟩ : ∃ W, W = (w.alloc (.cells #[.int .i64 k, .int .i64 n, .float .f64 f, .string s] 24)).alloc (.cells #[.int .i64 k', .int .i64 n', .float .f64 g, .string t] 24) := ⟨_, rfl⟩
  by_cases hz : z = 0
  · have hz' : (z == 0) = true := by simpa using hz
    by_cases hkk : k = k'
    · have hkk' : (k != k') = false := by simpa using hkk
      have HZ := Lib.hid hz
      have H3 := Lib.hid hkk
      clear hz hkk
      go_enter Tryd.func27, Tryd.ntmps27
      go_wp2_with fail
      refine (R1.out _).mono ?_; rintro e w1 ⟨rfl, rfl⟩
      go_wp2_with fail
      refine (R2.out _).mono ?_; rintro e w1 ⟨rfl, rfl⟩
      go_wp2_with fail
      refine (HN.out _).mono ?_; rintro e w1 ⟨rfl, hb1⟩
      obtain ⟨c0, d0⟩ := box2_cell hb1 0
      have HB1 := Lib.hid (box2_below hb1)
      clear hb1
      go_wp2
      go_ret
      exact ⟨ret_int (by rw [HE.out, if_neg (fun h => h.2 H3.out)]), HB1.out⟩
    · have hkk' : (k != k') = true := by simpa using hkk
      have HZ := Lib.hid hz
      have H3 := Lib.hid hkk
      clear hz hkk
      go_enter Tryd.func27, Tryd.ntmps27
      go_wp2_with fail
      refine (R1.out _).mono ?_; rintro e w1 ⟨rfl, rfl⟩
      go_wp2_with fail
      refine (R2.out _).mono ?_; rintro e w1 ⟨rfl, rfl⟩
      go_wp2_with fail
      refine (HN.out _).mono ?_; rintro e w1 ⟨rfl, hb1⟩
      obtain ⟨c0, d0⟩ := box2_cell hb1 0
      have HB1 := Lib.hid (box2_below hb1)
      clear hb1
      go_wp2
      go_ret
      refine ⟨ret_int ?_, HB1.out⟩
      have := HKK.out
      rw [HE.out, if_pos ⟨HZ.out, H3.out⟩]
      try (unfold wrap64; omega)
  · have hz' : (z == 0) = false := by simpa using hz
    have HZ := Lib.hid hz
    clear hz
    go_enter Tryd.func27, Tryd.ntmps27
    go_wp2_with fail
    refine (R1.out _).mono ?_; rintro e w1 ⟨rfl, rfl⟩
    go_wp2_with fail
    refine (R2.out _).mono ?_; rintro e w1 ⟨rfl, rfl⟩
    go_wp2_with fail
    refine (HN.out _).mono ?_; rintro e w1 ⟨rfl, hb1⟩
    obtain ⟨c0, d0⟩ := box2_cell hb1 0
    have HB1 := Lib.hid (box2_below hb1)
    clear hb1
    go_wp2
    go_ret
    exact ⟨ret_int (by rw [HE.out, if_neg (fun h => HZ.out h.1)]), HB1.out⟩

end Go.Proofs.YtinbdneajbommaaDoor

set_option linter.unusedVariables false
set_option maxRecDepth 100000
namespace Go.Proofs.YtinbdneajbommaaDoor
open Go.RowKit

set_option maxHeartbeats 800000 in
theorem refAtoms_text {w : World} (k n : Int) (f : Nat) (s : ByteArray) (k' n' : Int) (g : Nat) (t : ByteArray) (hk1 : -9223372036854775808 ≤ k) (hk2 : k ≤ 9223372036854775807) (hk1' : -9223372036854775808 ≤ k') (hk2' : k' ≤ 9223372036854775807) (heq : rankR k = rankR k') (h2 : rankR k ≠ 2) :
    Calls Tryd.prog 27 #[.agg #[.int .i64 k, .int .i64 n, .float .f64 f, .string s], .agg #[.int .i64 k', .int .i64 n', .float .f64 g, .string t]] w fun e w' => e = .returned (.int .i64 (atomsR ⟨k, n, f, s⟩ ⟨k', n', g, t⟩)) ∧ Below w.heap.size w w' := by
  have R1 := fun (w : World) => refRank_any (w := w) k hk1 hk2
  have R2 := fun (w : World) => refRank_any (w := w) k' hk1' hk2'
  rw [← heq] at R2
  replace R1 := Lib.hid R1
  replace R2 := Lib.hid R2
  have HE : Hid (atomsR ⟨k, n, f, s⟩ ⟨k', n', g, t⟩ = if decide (n < n') = true ∨ strLt s t = true then -1 else if decide (n' < n) = true ∨ strLt t s = true then 1 else 0) := Lib.hid (by unfold atomsR; rw [if_neg (by dsimp only; omega), if_neg (by dsimp only; omega), if_neg h2]; rfl)
  rw [← less_str s t, strLt_flip s t] at HE
  obtain ⟨x, hx⟩ : ∃ x, Op.bytesLess s.toList t.toList = x := ⟨_, rfl⟩
  obtain ⟨y, hy⟩ : ∃ y, (s.toList == t.toList) = y := ⟨_, rfl⟩
  rw [hx, hy] at HE
  generalize atomsR ⟨k, n, f, s⟩ ⟨k', n', g, t⟩ = c at *
  have h2' : (rankR k == 2) = false := by simpa using h2
  clear h2 heq
  generalize rankR k = r at *
  have hz : (s.toList == t.toList) = y → (!s.toList == t.toList) = !y := fun h => by rw [h]
  have hz' := hz hy
  clear hz
  have h3 : (n < n' ∧ ¬ n' < n) ∨ (¬ n < n' ∧ ¬ n' < n) ∨ (¬ n < n' ∧ n' < n) := by omega
  rcases h3 with ⟨h3, h4⟩ | ⟨h3, h4⟩ | ⟨h3, h4⟩ <;> cases x <;> cases y
  all_goals
    have HN := Lib.hid (And.intro h3 h4)
    go_enter Tryd.func27, Tryd.ntmps27
    go_wp2_with fail
    refine (R1.out _).mono ?_; rintro e w1 ⟨rfl, rfl⟩
    go_wp2_with fail
    refine (R2.out _).mono ?_; rintro e w1 ⟨rfl, rfl⟩
    go_wp2
    go_ret
    refine ⟨ret_int ?_, box2_below (Below.refl _ _)⟩
    have h5 := HN.out
    have he := HE.out
    clear HE R1 R2
    rw [he]
    clear he
    simp
    all_goals first | omega | (split <;> (try split) <;> omega)

theorem refAtoms_any {w : World} {k n : Int} {f : Nat} {s : ByteArray} {k' n' : Int} {g : Nat} {t : ByteArray} (h : At.Ok ⟨k, n, f, s⟩) (h' : At.Ok ⟨k', n', g, t⟩) :
    Calls Tryd.prog 27 #[.agg #[.int .i64 k, .int .i64 n, .float .f64 f, .string s], .agg #[.int .i64 k', .int .i64 n', .float .f64 g, .string t]] w fun e w' => e = .returned (.int .i64 (atomsR ⟨k, n, f, s⟩ ⟨k', n', g, t⟩)) ∧ Below w.heap.size w w' := by
  by_cases heq : rankR k = rankR k'
  · by_cases h2 : rankR k = 2
    · exact refAtoms_num k n f s k' n' g t h.k1 h.k2 h'.k1 h'.k2 h.n1 h.n2 h.f1 h'.n1 h'.n2 h'.f1 heq h2
    · exact refAtoms_text k n f s k' n' g t h.k1 h.k2 h'.k1 h'.k2 heq h2
  · exact refAtoms_ne k n f s k' n' g t h.k1 h.k2 h'.k1 h'.k2 h.n1 h.n2 h.f1 h'.n1 h'.n2 h'.f1 heq

end Go.Proofs.YtinbdneajbommaaDoor

