/-
  free, plain: counts of pages in use and waiting; and low bits of a number.
-/
import Derived.Test.YtpmiakcngjihnaaDoorFrD
set_option linter.unusedVariables false
set_option linter.unusedSimpArgs false
set_option maxRecDepth 100000
namespace Go.Proofs.YtpmiakcngjihnaaDoor
open Go.RowKit

/-- The low bits of a number. -/
theorem andLow {n : Int} {M b : Nat} (hM : M = 2 ^ b - 1) (hb : b ≤ 11) : bits BinOp.and IntKind.i64 n (M : Int) = n % 2 ^ b := by
  have hlt : M < 18446744073709551616 := by
    have : 2 ^ b ≤ 2 ^ 11 := Nat.pow_le_pow_right (by decide) hb
    omega
  have h1 : (BitVec.ofInt 64 n).toNat = (n % 18446744073709551616).toNat := by
    rw [BitVec.toNat_ofInt]
    rfl
  have h2 : (BitVec.ofInt 64 (M : Int)).toNat = M := by
    rw [BitVec.ofInt_natCast, BitVec.toNat_ofNat]
    exact Nat.mod_eq_of_lt hlt
  have h3 : bits BinOp.and IntKind.i64 n (M : Int) = IntKind.i64.wrap (((BitVec.ofInt 64 n &&& BitVec.ofInt 64 (M : Int)).toNat : Nat) : Int) := rfl
  rw [h3, BitVec.toNat_and, h1, h2, hM, Nat.and_two_pow_sub_one_eq_mod, IntKind.wrap_i64]
  have hcases : b = 0 ∨ b = 1 ∨ b = 2 ∨ b = 3 ∨ b = 4 ∨ b = 5 ∨ b = 6 ∨ b = 7 ∨ b = 8 ∨ b = 9 ∨ b = 10 ∨ b = 11 := by omega
  clear h1 h2 h3 hlt hM
  rcases hcases with rfl | rfl | rfl | rfl | rfl | rfl | rfl | rfl | rfl | rfl | rfl | rfl <;> omega
theorem and7 (x : Int) : bits BinOp.and IntKind.i64 x 7 = x % 8 := andLow (M := 7) (b := 3) rfl (by omega)
theorem and15 (x : Int) : bits BinOp.and IntKind.i64 x 15 = x % 16 := andLow (M := 15) (b := 4) rfl (by omega)
theorem and31 (x : Int) : bits BinOp.and IntKind.i64 x 31 = x % 32 := andLow (M := 31) (b := 5) rfl (by omega)

theorem FL.back_used {F : FL} (h : F.Ok) (such : Int → Bool) : (F.back such).nUsed = F.nUsed + F.nSuch such := by
  unfold FL.nUsed FL.nSuch
  show List.countP _ F.pages = List.countP _ F.pages + _
  induction F.pages with
  | nil => rfl
  | cons x l ih =>
    simp only [List.countP_cons, ih]
    cases hu : F.used x
    · cases hw : F.waits x with
      | none => simp [FL.back, hu, hw]
      | some g => cases hg : such g <;> simp [FL.back, hu, hw, hg] <;> omega
    · have := h.ha hu
      simp [FL.back, hu, this]
      omega
theorem FL.back_waits (F : FL) (such : Int → Bool) : (F.back such).nWaits = (F.leave such).nWaits := rfl
theorem FL.back_such (F : FL) (such s2 : Int → Bool) : (F.back such).nSuch s2 = (F.leave such).nSuch s2 := rfl
theorem FL.leave_used (F : FL) (such : Int → Bool) : (F.leave such).nUsed = F.nUsed := rfl
theorem FL.leave_such (F : FL) (s1 s2 : Int → Bool) : (F.leave s1).nSuch s2 = F.nSuch fun g => !s1 g && s2 g := by
  unfold FL.nSuch
  show List.countP _ F.pages = _
  refine List.countP_congr fun x _ => ?_
  cases hw : F.waits x with
  | none => simp [FL.leave, hw]
  | some g => cases h1 : s1 g <;> simp [FL.leave, hw, h1]
theorem FL.such_none {F : FL} {such : Int → Bool} (h : ∀ g, such g = false) : F.nSuch such = 0 := by
  unfold FL.nSuch
  rw [List.countP_eq_zero]
  intro x _
  cases hw : F.waits x <;> simp [h]

theorem FL.same {F G : FL} (h1 : F.lo = G.lo) (h2 : F.hi = G.hi) (h3 : ∀ x, F.used x = G.used x) (h4 : ∀ x, F.waits x = G.waits x) : F = G := by
  obtain ⟨a, b, c, d⟩ := F
  obtain ⟨a', b', c', d'⟩ := G
  obtain rfl : a = a' := h1
  obtain rfl : b = b' := h2
  obtain rfl : c = c' := funext h3
  obtain rfl : d = d' := funext h4
  rfl

/-- The first pages wait, those behind them are in use: of n pages from 0 on. -/
def FL.row (n : Nat) (L : List Int) : FL := ⟨0, n, fun x => decide ((L.length : Int) ≤ x) && decide (x < n), fun x => if 0 ≤ x then L[x.toNat]? else none⟩

theorem FL.row_ok {n : Nat} {L : List Int} (hn : n ≤ 4096) (hL : L.length ≤ n) : (FL.row n L).Ok := by
  refine ⟨Int.le_refl _, by show (0 : Int) ≤ n; omega, by show (n : Int) ≤ 4096; omega, fun {x} hx => ?_, fun {x} hx => ?_, fun {x} hx => ?_⟩
  · simp only [FL.row, Bool.and_eq_true, decide_eq_true_eq] at hx ⊢
    omega
  · simp only [FL.row] at hx ⊢
    by_cases h : 0 ≤ x
    · rw [if_pos h] at hx
      obtain ⟨v, hv⟩ := Option.isSome_iff_exists.1 hx
      have := (List.getElem?_eq_some_iff.1 hv).1
      omega
    · rw [if_neg h] at hx; cases hx
  · simp only [FL.row, Bool.and_eq_true, decide_eq_true_eq] at hx ⊢
    rw [if_pos (by omega)]
    exact List.getElem?_eq_none (by omega)

theorem FL.row_pages (n : Nat) (L : List Int) : (FL.row n L).pages = (List.range n).map fun (i : Nat) => (i : Int) := by
  unfold FL.pages FL.row
  simp

theorem FL.row_such (n : Nat) {L : List Int} (such : Int → Bool) : L.length ≤ n → (FL.row n L).nSuch such = L.countP such := by
  intro hL
  unfold FL.nSuch
  rw [FL.row_pages, List.countP_map]
  have : ∀ m, (List.range m).countP ((fun k => match (FL.row n L).waits k with | some g => such g | none => false) ∘ fun (i : Nat) => (i : Int)) = (L.take m).countP such := by
    intro m
    induction m with
    | zero => rfl
    | succ m ih =>
      rw [List.range_succ, List.countP_append, ih, List.take_add_one, List.countP_append]
      congr 1
      have e : (FL.row n L).waits (m : Int) = L[m]? := by simp [FL.row]
      cases hm : L[m]? with
      | none => simp [List.countP_cons, e, hm]
      | some g => simp [List.countP_cons, e, hm]
  refine (this n).trans ?_
  rw [List.take_of_length_le hL]
theorem FL.row_waits (n : Nat) {L : List Int} (hL : L.length ≤ n) : (FL.row n L).nWaits = L.length := by
  have h := FL.row_such n (fun _ => true) hL
  rw [List.countP_true] at h
  rw [← h]
  unfold FL.nWaits FL.nSuch
  refine List.countP_congr fun x _ => ?_
  cases (FL.row n L).waits x <;> simp
theorem FL.row_used {n : Nat} {L : List Int} (hL : L.length ≤ n) : (FL.row n L).nUsed = n - L.length := by
  unfold FL.nUsed
  rw [FL.row_pages, List.countP_map]
  have : ∀ m, m ≤ n → (List.range m).countP ((FL.row n L).used ∘ fun (i : Nat) => (i : Int)) = m - L.length := by
    intro m
    induction m with
    | zero => intro _; simp
    | succ m ih =>
      intro hm
      rw [List.range_succ, List.countP_append, ih (by omega)]
      by_cases h : L.length ≤ m
      · have e : (FL.row n L).used (m : Int) = true := by
          simp only [FL.row, Bool.and_eq_true, decide_eq_true_eq]
          omega
        simp [List.countP_cons, e]
        omega
      · have e : (FL.row n L).used (m : Int) = false := by
          simp only [FL.row, Bool.and_eq_false_iff, decide_eq_false_iff_not]
          omega
        simp [List.countP_cons, e]
        omega
  exact this n (Nat.le_refl _)
theorem FL.row_late {n : Nat} {L : List Int} (g : Int) : (FL.row n L).late L.length g = FL.row n (L ++ [g]) := by
  refine FL.same rfl rfl (fun x => ?_) (fun x => ?_)
  · show (if x = (L.length : Int) then false else (decide ((L.length : Int) ≤ x) && decide (x < n))) = (decide (((L ++ [g]).length : Int) ≤ x) && decide (x < n))
    by_cases hx : x = L.length
    · subst hx
      simp
      omega
    · simp only [hx, if_false, List.length_append, List.length_singleton]
      congr 1
      simp only [decide_eq_decide]
      omega
  · show (if x = (L.length : Int) then some g else if 0 ≤ x then L[x.toNat]? else none) = if 0 ≤ x then (L ++ [g])[x.toNat]? else none
    by_cases hx : x = L.length
    · subst hx
      simp
    · simp only [hx, if_false]
      by_cases h0 : 0 ≤ x
      · simp only [h0, if_true]
        by_cases h1 : x < L.length
        · rw [List.getElem?_append_left (by omega)]
        · rw [List.getElem?_eq_none (by omega), List.getElem?_eq_none (by simp; omega)]
      · simp only [h0, if_false]
theorem FL.row_st {n : Nat} {L : List Int} (hL : L.length < n) : (FL.row n L).has L.length = true ∧ (FL.row n L).st L.length = 2 := by
  have h1 : (FL.row n L).has L.length = true := by
    rw [FL.has_iff]
    simp only [FL.row]
    omega
  refine ⟨h1, FL.st_two.2 ⟨h1, ?_⟩⟩
  simp only [FL.row, Bool.and_eq_true, decide_eq_true_eq]
  omega

/-- The first i of n pages are in use, none waits. -/
def FL.upto (n i : Nat) : FL := ⟨0, n, fun x => decide (0 ≤ x) && decide (x < i), fun _ => none⟩
theorem FL.upto_zero (n : Nat) : FL.upto n 0 = FL.new 0 n := by
  unfold FL.upto FL.new
  congr 1
  funext x
  by_cases h : 0 ≤ x
  · simp [h]
  · simp [h]
theorem FL.upto_all (n : Nat) : FL.upto n n = FL.row n [] := by
  unfold FL.upto FL.row
  congr 1
  funext x
  by_cases h : 0 ≤ x <;> simp [h]
theorem FL.upto_least {n i : Nat} (hi : i < n) : (FL.upto n i).least = some (i : Int) := by
  have hst : ∀ k : Int, 0 ≤ k → k < n → (FL.upto n i).st k = if k < i then 2 else 1 := by
    intro k h0 h1
    have hh : (FL.upto n i).has k = true := FL.has_iff.2 ⟨h0, h1⟩
    unfold FL.st
    rw [hh]
    by_cases hk : k < i
    · simp [FL.upto, hk, h0]
    · simp [FL.upto, hk]
  cases hl : (FL.upto n i).least with
  | none =>
    have := FL.least_none hl (i : Int)
    rw [hst i (by omega) (by omega)] at this
    simp at this
  | some k =>
    obtain ⟨h1, h2⟩ := FL.least_some hl
    have hk : (FL.upto n i).has k = true := by
      cases hh : (FL.upto n i).has k
      · simp [FL.st, hh] at h1
      · rfl
    have hk2 := FL.has_iff.1 hk
    have hk3 : 0 ≤ k ∧ k < n := hk2
    rw [hst k hk3.1 hk3.2] at h1
    by_cases hki : k < i
    · rw [if_pos hki] at h1; cases h1
    · by_cases e : k = i
      · rw [e]
      · exfalso
        refine h2 i (by show (0 : Int) ≤ i; omega) (by omega) ?_
        rw [hst i (by omega) (by omega), if_neg (by omega)]
theorem FL.upto_alloc {n i : Nat} (hi : i < n) : (FL.upto n i).alloc = FL.upto n (i + 1) ∧ (FL.upto n i).allocV = .tuple #[.int .i64 i, .int .i64 0] := by
  unfold FL.alloc FL.allocV
  rw [FL.upto_least hi]
  refine ⟨?_, rfl⟩
  show (FL.upto n i).take i = _
  unfold FL.take FL.upto
  congr 1
  funext x
  by_cases hx : x = i
  · subst hx
    simp
    omega
  · simp only [hx, if_false]
    congr 1
    simp only [decide_eq_decide]
    omega

end Go.Proofs.YtpmiakcngjihnaaDoor
