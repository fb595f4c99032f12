/-
  The reference's Valid and Same, and what they call: contracts for the walks.
-/
import Derived.Test.YtcgjefaebofikaaGreatDoorVAt
import Derived.Test.YtcgjefaebofikaaGreatDoorVRefB
import Derived.Test.YtcgjefaebofikaaGreatDoorFRefN
set_option linter.unusedVariables false
set_option maxRecDepth 100000
namespace Go.Proofs.YtcgjefaebofikaaGreatDoor
open Go.RowKit

theorem size_empty {s : ByteArray} (h : s.toList.isEmpty = true) : s.size ≤ 256 := by
  have h1 : s.toList = [] := by simpa using h
  have h2 : s.data.toList = [] := by rw [← ByteArray.toList_eq] at *; exact h1
  have h3 : s.size = s.data.toList.length := rfl
  rw [h3, h2]
  decide

set_option maxHeartbeats 1600000 in
theorem refAtom_lit {w : World} (k n : Int) (f : Nat) (s : ByteArray) (hk : k = 0 ∨ k = 2 ∨ k = 4 ∨ k = 5) :
    Calls Tryz.prog 12 #[.agg #[.int .i64 k, .int .i64 n, .float .f64 f, .string s]] w fun e w' => e = .returned (.bool (validA k n f s)) ∧ Below w.heap.size w w' := by
  have HX := Lib.hid (fun (w : World) (f : Nat) => vBits_any (w := w) f)
  have HS := Lib.hid (fun h : s.toList = [] => size_empty (s := s) (by simp [h]))
  rcases hk with rfl | rfl | rfl | rfl
  all_goals
    go_enter Tryz.func12, Tryz.ntmps12
    go_wp2_with (go_at_call 13; refine (HX.out _ _).mono ?_; rintro e w' ⟨rfl, rfl⟩)
    all_goals
      first
        | (go_ret
           refine ⟨ret_bool ?_, (Below.refl _ _).alloc (Nat.le_refl _) _⟩
           simp_all [validA])
        | (go_quiet (fail)
           go_wp2
           go_ret
           refine ⟨ret_bool ?_, belowN ((Below.refl _ _).alloc (Nat.le_refl _) _) _⟩
           first | (simp_all [validA]; done) | (have h2 := HS.out (by first | assumption | simp_all); simp_all [validA]; omega) | (simp_all [validA]; omega))

set_option maxHeartbeats 1600000 in
theorem refAtom_bool {w : World} (n : Int) (f : Nat) (s : ByteArray) :
    Calls Tryz.prog 12 #[.agg #[.int .i64 1, .int .i64 n, .float .f64 f, .string s]] w fun e w' => e = .returned (.bool (validA 1 n f s)) ∧ Below w.heap.size w w' := by
  have HX := Lib.hid (fun (w : World) (f : Nat) => vBits_any (w := w) f)
  have HS := Lib.hid (fun h : s.toList = [] => size_empty (s := s) (by simp [h]))
  have h3 : n = 0 ∨ n = 1 ∨ (n ≠ 0 ∧ n ≠ 1) := by omega
  rcases h3 with rfl | rfl | ⟨h0, h1⟩
  all_goals
    try have g0 : (n != 0) = true := by simpa using h0
    try have g1 : (n != 1) = true := by simpa using h1
    try have G0 := Lib.hid h0
    try have G1 := Lib.hid h1
    try clear h0 h1
    go_enter Tryz.func12, Tryz.ntmps12
    go_wp2_with (go_at_call 13; refine (HX.out _ _).mono ?_; rintro e w' ⟨rfl, rfl⟩)
    all_goals
      first
        | (go_ret
           refine ⟨ret_bool ?_, (Below.refl _ _).alloc (Nat.le_refl _) _⟩
           simp_all [validA])
        | (go_quiet (fail)
           go_wp2
           go_ret
           refine ⟨ret_bool ?_, belowN ((Below.refl _ _).alloc (Nat.le_refl _) _) _⟩
           first | (simp_all [validA]; done) | (have h2 := HS.out (by first | assumption | simp_all); simp_all [validA]; omega) | (simp_all [validA]; omega))

set_option maxHeartbeats 1600000 in
theorem refAtom_real {w : World} (n : Int) (f : Nat) (s : ByteArray) (hf : f < 18446744073709551616) :
    Calls Tryz.prog 12 #[.agg #[.int .i64 3, .int .i64 n, .float .f64 f, .string s]] w fun e w' => e = .returned (.bool (validA 3 n f s)) ∧ Below w.heap.size w w' := by
  have HX := Lib.hid (fun (w : World) (f : Nat) => vBits_any (w := w) f)
  have HC := Lib.hid (fun w => refCanon_any (w := w) f hf)
  have HS := Lib.hid (fun h : s.toList = [] => size_empty (s := s) (by simp [h]))
  clear hf
  have e : validA 3 n f s = (n == 0 && canonT f && s.toList.isEmpty) := rfl
  rw [e]
  unfold canonT
  generalize canonB f = g at *
  obtain ⟨y, hy⟩ : ∃ y, (((g : Int) == (f : Int))) = y := ⟨_, rfl⟩
  have hy' : (((g : Int) != (f : Int))) = !y := by rw [← hy]; rfl
  cases y
  all_goals
    go_enter Tryz.func12, Tryz.ntmps12
    go_wp2_with (go_at_call 13; refine (HX.out _ _).mono ?_; rintro e w' ⟨rfl, rfl⟩)
    all_goals
      first
        | (go_ret
           refine ⟨ret_bool ?_, (Below.refl _ _).alloc (Nat.le_refl _) _⟩
           simp_all)
        | (go_quiet ((first | (go_at_call 13; exact Calls.quiet_of_same (HX.out _ _)) | (go_at_call 26; exact Calls.quiet_of_same ((HC.out _).mono fun e w' h => ⟨h.1, h.2.symm⟩))))
           go_wp2
           go_ret
           refine ⟨ret_bool ?_, belowN ((Below.refl _ _).alloc (Nat.le_refl _) _) _⟩
           first | (simp_all; done) | (have h2 := HS.out (by first | assumption | simp_all); simp_all; omega) | (simp_all; omega))

set_option maxHeartbeats 1600000 in
theorem refAtom_no {w : World} (k n : Int) (f : Nat) (s : ByteArray) (h : k < 0 ∨ 5 < k) :
    Calls Tryz.prog 12 #[.agg #[.int .i64 k, .int .i64 n, .float .f64 f, .string s]] w fun e w' => e = .returned (.bool (validA k n f s)) ∧ Below w.heap.size w w' := by
  have e : validA k n f s = false := by
    unfold validA
    rw [if_neg (by omega), if_neg (by omega), if_neg (by omega), if_neg (by omega), if_neg (by omega)]
  rw [e]
  clear e
  rcases h with h | h
  · go_enter Tryz.func12, Tryz.ntmps12
    go_wp2
    go_ret
    exact ⟨rfl, (Below.refl _ _).alloc (Nat.le_refl _) _⟩
  · have h' : ¬ k < 0 := by omega
    go_enter Tryz.func12, Tryz.ntmps12
    go_wp2
    go_ret
    exact ⟨rfl, (Below.refl _ _).alloc (Nat.le_refl _) _⟩

theorem refAtom_any {w : World} (k n : Int) (f : Nat) (s : ByteArray) (hf : f < 18446744073709551616) :
    Calls Tryz.prog 12 #[.agg #[.int .i64 k, .int .i64 n, .float .f64 f, .string s]] w fun e w' => e = .returned (.bool (validA k n f s)) ∧ Below w.heap.size w w' := by
  by_cases h : k < 0 ∨ 5 < k
  · exact refAtom_no k n f s h
  by_cases h1 : k = 1
  · subst h1; exact refAtom_bool n f s
  by_cases h3 : k = 3
  · subst h3; exact refAtom_real n f s hf
  · exact refAtom_lit k n f s (by omega)

end Go.Proofs.YtcgjefaebofikaaGreatDoor
