/-
  value.rank, weighNumbers, cmp.Or, strings.Compare: contracts for the walks.
-/
import Derived.Test.YtmcfeibfbamncaaVBox
import Derived.Test.YtmcfeibfbamncaaVCmpS
set_option linter.unusedVariables false
set_option maxRecDepth 100000
namespace Go.Proofs.Ytmcfeibfbamncaa
open Go.RowKit

set_option maxHeartbeats 400000 in
theorem isNumber_any {w : World} (k n : Int) (f : Nat) (s : ByteArray) :
    Calls Try.prog 44 #[.agg #[.int .i64 k, .int .i64 n, .float .f64 f, .string s]] w fun e w' => e = .returned (.bool (isNum2 k)) ∧ Below w.heap.size w w' := by
  unfold isNum2
  obtain ⟨x, hx⟩ : ∃ x, (k == 2) = x := ⟨_, rfl⟩
  rw [hx]
  cases x
  all_goals
    go_enter Try.func44, Try.ntmps44
    go_wp2
    go_ret
    exact ⟨rfl, box_below (Below.refl _ _)⟩

set_option maxHeartbeats 400000 in
theorem rank_any {w : World} (k n : Int) (f : Nat) (s : ByteArray) :
    Calls Try.prog 27 #[.agg #[.int .i64 k, .int .i64 n, .float .f64 f, .string s]] w fun e w' => e = .returned (.int .i64 (rankA k)) ∧ Below w.heap.size w w' := by
  have HN := Lib.hid (fun w => isNumber_any (w := w) k n f s)
  have e : rankA k = if isNum2 k = true then 2 else k := rfl
  rw [e]
  clear e
  generalize isNum2 k = x at *
  cases x
  all_goals
    go_enter Try.func27, Try.ntmps27
    go_wp2_with fail
    refine (HN.out _).mono ?_; rintro e w1 ⟨rfl, hb1⟩
    have c0 := box_cell hb1 0
    have HB1 := Lib.hid hb1
    clear hb1
    go_wp2
    go_ret
    exact ⟨rfl, box_below HB1.out⟩

set_option maxHeartbeats 400000 in
theorem cmpStr_any {w : World} (s t : ByteArray) :
    Calls Try.prog 47 #[.string s, .string t] w fun e w' => e = .returned (.int .i64 (cmpS s t)) ∧ w = w' := by
  have hx : ∀ w, (callFunc 59 #[.string s, .string t]).run Try.prog w = .ok (.value (.int .i64 (cmpS s t))) w := by
    intro w
    rw [run_callFunc_extern Try.func59 (by kernel_rfl) (by kernel_rfl) (by kernel_rfl) (e := Extern.BytealgCompare.compare) (by kernel_rfl), Lib.run_compareString]
    rfl
  generalize cmpS s t = r at *
  have HC : ∀ w, Calls Try.prog 55 #[.string s, .string t] w fun e w' => e = .returned (.int .i64 r) ∧ w = w' := by
    intro w
    go_enter Try.func55, Try.ntmps55
    go_wp2
    go_ret
    exact ⟨rfl, rfl⟩
  replace HC := Lib.hid HC
  clear hx
  go_enter Try.func47, Try.ntmps47
  go_wp2_with fail
  refine (HC.out _).mono ?_; rintro e w' ⟨rfl, rfl⟩
  go_wp2
  go_ret
  exact ⟨rfl, rfl⟩

set_option maxHeartbeats 800000 in
theorem or_any {w : World} (b o : Nat) (x y : Int) (h0 : w.cell? ⟨b, o, none⟩ = some (.int .i64 x)) (h1 : w.cell? ⟨b, o + 1, none⟩ = some (.int .i64 y)) :
    Calls Try.prog 39 #[.slice (some ⟨b, o, none⟩) 2 2] w fun e w' => e = .returned (.int .i64 (orI x y)) ∧ w = w' := by
  have HE : Hid (orI x y = if x = 0 then y else x) := Lib.hid rfl
  generalize orI x y = r at *
  by_cases hx : x = 0
  · have hx' : (x != 0) = false := by simpa using hx
    have HX := Lib.hid hx
    clear hx
    by_cases hy : y = 0
    · have hy' : (y != 0) = false := by simpa using hy
      have HY := Lib.hid hy
      clear hy
      go_enter Try.func39, Try.ntmps39
      go_wp2
      go_loop [8] (fun i => i = .int .i64 0 ∨ i = .int .i64 1 ∨ i = .int .i64 2) (fun i => 2 - (intOf i).toNat)
      case atStart => exact .inl rfl
      case round =>
        rcases hrel with rfl | rfl | rfl
        · go_wp2
          go_round
          case rel => exact .inr (.inl rfl)
          case measure => simp [intOf]
        · go_wp2
          go_round
          case rel => exact .inr (.inr rfl)
          case measure => simp [intOf]
        · go_wp2
          go_ret
          refine ⟨ret_int ?_, rfl⟩
          have h2 := HE.out
          rw [if_pos HX.out, HY.out] at h2
          exact h2.symm
    · have hy' : (y != 0) = true := by simpa using hy
      go_enter Try.func39, Try.ntmps39
      go_wp2
      go_loop [8] (fun i => i = .int .i64 0 ∨ i = .int .i64 1) (fun i => 2 - (intOf i).toNat)
      case atStart => exact .inl rfl
      case round =>
        rcases hrel with rfl | rfl
        · go_wp2
          go_round
          case rel => exact .inr rfl
          case measure => simp [intOf]
        · go_wp2
          go_ret
          refine ⟨ret_int ?_, rfl⟩
          have h2 := HE.out
          rw [if_pos HX.out] at h2
          exact h2.symm
  · have hx' : (x != 0) = true := by simpa using hx
    have HX := Lib.hid hx
    clear hx
    go_enter Try.func39, Try.ntmps39
    go_wp2
    go_loop [8] (fun i => i = .int .i64 0) (fun i => 2 - (intOf i).toNat)
    case atStart => rfl
    case round =>
      subst hrel
      go_wp2
      go_ret
      refine ⟨ret_int ?_, rfl⟩
      have h2 := HE.out
      rw [if_neg HX.out] at h2
      exact h2.symm

set_option maxHeartbeats 1600000 in
theorem weighNumbers_any {w : World} (k n : Int) (f : Nat) (s : ByteArray) (k' n' : Int) (g : Nat) (t : ByteArray) (hn1 : -9223372036854775808 ≤ n) (hn2 : n ≤ 9223372036854775807) (hf : f < 18446744073709551616)
    (hn1' : -9223372036854775808 ≤ n') (hn2' : n' ≤ 9223372036854775807) (hg : g < 18446744073709551616) :
    Calls Try.prog 46 #[.agg #[.int .i64 k, .int .i64 n, .float .f64 f, .string s], .agg #[.int .i64 k', .int .i64 n', .float .f64 g, .string t]] w fun e w' => e = .returned (.int .i64 (weighN k n f k' n' g)) ∧ Below w.heap.size w w' := by
  have H1 := Lib.hid (fun w => compare_any (w := w) f g hf hg)
  have H2 := Lib.hid (fun w => compareInt_any (w := w) n' hn1' hn2' f hf)
  have H3 := Lib.hid (fun w => compareInt_any (w := w) n hn1 hn2 g hg)
  have H4 := Lib.hid (fun w => cmpInt_any (w := w) n n')
  have hb : -1 ≤ cmpN n' f ∧ cmpN n' f ≤ 1 := by
    unfold cmpN cmpI
    repeat' split
    all_goals omega
  have HE : Hid (weighN k n f k' n' g = if k = 3 then (if k' = 3 then cmpI (keyB f) (keyB g) else -cmpN n' f) else if k' = 3 then cmpN n g else cmpI n n') := Lib.hid rfl
  clear hn1 hn2 hf hn1' hn2' hg
  generalize weighN k n f k' n' g = r at *
  generalize cmpI (keyB f) (keyB g) = a1 at *
  generalize cmpN n' f = a2 at *
  generalize cmpN n g = a3 at *
  generalize cmpI n n' = a4 at *
  by_cases h : k = 3
  · have h' : (k == 3) = true := by simpa using h
    have HK := Lib.hid h
    clear h
    by_cases h : k' = 3
    · have h'' : (k' == 3) = true := by simpa using h
      have HK' := Lib.hid h
      clear h
      go_enter Try.func46, Try.ntmps46
      go_wp2_with fail
      refine (H1.out _).mono ?_; rintro e w1 ⟨rfl, rfl⟩
      go_wp2
      go_ret
      exact ⟨ret_int (by rw [HE.out, if_pos HK.out, if_pos HK'.out]), box2_below (Below.refl _ _)⟩
    · have h'' : (k' == 3) = false := by simpa using h
      have HK' := Lib.hid h
      clear h
      go_enter Try.func46, Try.ntmps46
      go_wp2_with fail
      refine (H2.out _).mono ?_; rintro e w1 ⟨rfl, rfl⟩
      go_wp2
      go_ret
      refine ⟨ret_int ?_, box2_below (Below.refl _ _)⟩
      rw [HE.out, if_pos HK.out, if_neg HK'.out]
      try (unfold wrap64; omega)
  · have h' : (k == 3) = false := by simpa using h
    have HK := Lib.hid h
    clear h
    by_cases h : k' = 3
    · have h'' : (k' == 3) = true := by simpa using h
      have HK' := Lib.hid h
      clear h
      go_enter Try.func46, Try.ntmps46
      go_wp2_with fail
      refine (H3.out _).mono ?_; rintro e w1 ⟨rfl, rfl⟩
      go_wp2
      go_ret
      exact ⟨ret_int (by rw [HE.out, if_neg HK.out, if_pos HK'.out]), box2_below (Below.refl _ _)⟩
    · have h'' : (k' == 3) = false := by simpa using h
      have HK' := Lib.hid h
      clear h
      go_enter Try.func46, Try.ntmps46
      go_wp2_with fail
      refine (H4.out _).mono ?_; rintro e w1 ⟨rfl, rfl⟩
      go_wp2
      go_ret
      exact ⟨ret_int (by rw [HE.out, if_neg HK.out, if_neg HK'.out]), box2_below (Below.refl _ _)⟩

end Go.Proofs.Ytmcfeibfbamncaa
