/-
  Equal and Less, as plain functions.
  What ValueAsks asks of numbers: plain facts.
-/
import Derived.Test.YtinbdneajbommaaDoorVCmpS
import Derived.Test.YtinbdneajbommaaDoorVOrd
set_option linter.unusedVariables false
set_option maxRecDepth 100000
namespace Go.Proofs.YtinbdneajbommaaDoor
open Go.RowKit

def nanB (f : Nat) : Bool := FloatKind.f64.format.order f f != some Ordering.eq
def nanA (k : Int) (f : Nat) : Bool := k == 3 && nanB f
def noneA (a : At) : Bool := a.k == 0 || nanA a.k a.f
def noneV (a : At) (l : List At) : Bool := noneA a || l.any noneA
def unkV (a : At) (l : List At) : Bool := a.k == 0 || !validV a l
def likeA (a b : At) : Bool := weighA a b == 0
def likeLs (l r : List At) : Bool := decide (l.length = r.length) && (l.zip r).all fun p => likeA p.1 p.2
def ansI (b : Bool) : Int := if b = true then 1 else 0
/-- P3.3. -/
def equalV (a : At) (l : List At) (b : At) (r : List At) : Int :=
  if (unkV a l || unkV b r) = true then 2 else if (noneV a l || noneV b r) = true then 0 else ansI (likeA a b && likeLs l r)
def lessV (a : At) (l : List At) (b : At) (r : List At) : Int :=
  if (unkV a l || (unkV b r || (rankA a.k != rankA b.k || a.k == 6))) = true then 2 else if (nanA a.k a.f || nanA b.k b.f) = true then 0 else ansI (decide (weighA a b < 0))

end Go.Proofs.YtinbdneajbommaaDoor

set_option linter.unusedVariables false
set_option maxRecDepth 100000
namespace Go.Proofs.YtinbdneajbommaaDoor
open Go.RowKit

theorem valid_int (n : Int) : validV ⟨2, n, 0, ⟨#[]⟩⟩ [] = true := by
  unfold validV At.valid validA
  simp [toList_data]
theorem valid_real {f : Nat} : validV ⟨3, 0, canonB f, ⟨#[]⟩⟩ [] = true := by
  unfold validV At.valid validA canonT
  simp [toList_data, canonB_idem]
theorem valid_yes : validV ⟨1, 1, 0, ⟨#[]⟩⟩ [] = true := by
  unfold validV At.valid validA
  simp [toList_data]
theorem valid_text : validV ⟨4, 0, 0, ⟨#[]⟩⟩ [] = true := by
  unfold validV At.valid validA
  simp
  exact Nat.zero_le _
theorem vaOk_int (w : World) (n : Int) (h1 : -9223372036854775808 ≤ n) (h2 : n ≤ 9223372036854775807) : VaOk w ⟨2, n, 0, ⟨#[]⟩⟩ none 0 0 [] :=
  ⟨⟨by dsimp only; omega, by dsimp only; omega, h1, h2, by dsimp only; omega, by show 0 ≤ _; omega⟩, rfl, by omega, by omega, As.nil _ _, fun a h => by cases h⟩
theorem vaOk_real (w : World) (f : Nat) (hf : f < 18446744073709551616) : VaOk w ⟨3, 0, f, ⟨#[]⟩⟩ none 0 0 [] :=
  ⟨⟨by dsimp only; omega, by dsimp only; omega, by dsimp only; omega, by dsimp only; omega, hf, by show 0 ≤ _; omega⟩, rfl, by omega, by omega, As.nil _ _, fun a h => by cases h⟩
theorem vaOk_yes (w : World) : VaOk w ⟨1, 1, 0, ⟨#[]⟩⟩ none 0 0 [] :=
  ⟨⟨by dsimp only; omega, by dsimp only; omega, by dsimp only; omega, by dsimp only; omega, by dsimp only; omega, by show 0 ≤ _; omega⟩, rfl, by omega, by omega, As.nil _ _, fun a h => by cases h⟩
theorem vaOk_text (w : World) : VaOk w ⟨4, 0, 0, ⟨#[]⟩⟩ none 0 0 [] :=
  ⟨⟨by dsimp only; omega, by dsimp only; omega, by dsimp only; omega, by dsimp only; omega, by dsimp only; omega, by show 0 ≤ _; omega⟩, rfl, by omega, by omega, As.nil _ _, fun a h => by cases h⟩

theorem nanB_num {f : Nat} (hf : f < 18446744073709551616) (h : isNum f) : nanB f = false := by
  unfold nanB
  rw [fmt64, order_keys hf hf h h, Int.compare_eq_eq.2 rfl]
  rfl
theorem nanB_nan {f : Nat} (h : ¬ isNum f) : nanB f = true := by
  unfold nanB
  rw [fmt64, order_nan (.inl h)]
  rfl
theorem isNum_canon (f : Nat) : isNum (canonB f) ↔ isNum f := by
  unfold isNum canonB
  repeat' split
  all_goals omega

/-- The answers of a whole number and a float that is no NaN, by how they stand. -/
theorem ask_num {n : Int} {f : Nat} (hf : f < 18446744073709551616) (h : isNum f) :
    lessV ⟨2, n, 0, ⟨#[]⟩⟩ [] ⟨3, 0, canonB f, ⟨#[]⟩⟩ [] = ansI (decide (cmpN n (canonB f) < 0)) ∧ equalV ⟨2, n, 0, ⟨#[]⟩⟩ [] ⟨3, 0, canonB f, ⟨#[]⟩⟩ [] = ansI (cmpN n (canonB f) == 0) ∧
    lessV ⟨3, 0, canonB f, ⟨#[]⟩⟩ [] ⟨2, n, 0, ⟨#[]⟩⟩ [] = ansI (decide (-cmpN n (canonB f) < 0)) := by
  have hn : nanB (canonB f) = false := nanB_num (canonB_lt hf) ((isNum_canon f).2 h)
  have v1 := valid_int n
  have v2 := valid_real (f := f)
  have w1 : weighA ⟨2, n, 0, ⟨#[]⟩⟩ ⟨3, 0, canonB f, ⟨#[]⟩⟩ = cmpN n (canonB f) := rfl
  have w2 : weighA ⟨3, 0, canonB f, ⟨#[]⟩⟩ ⟨2, n, 0, ⟨#[]⟩⟩ = -cmpN n (canonB f) := rfl
  have hr : (rankA 2 != rankA 3) = false := by decide
  have hr' : (rankA 3 != rankA 2) = false := by decide
  refine ⟨?_, ?_, ?_⟩
  · unfold lessV unkV nanA
    simp only [v1, v2, hn, w1, hr]
    simp
  · unfold equalV unkV noneV noneA nanA likeA likeLs
    simp only [v1, v2, hn, w1]
    simp
  · unfold lessV unkV nanA
    simp only [v1, v2, hn, w2, hr']
    simp
theorem ask_nan {n : Int} {f : Nat} (hf : f < 18446744073709551616) (h : ¬ isNum f) :
    lessV ⟨2, n, 0, ⟨#[]⟩⟩ [] ⟨3, 0, canonB f, ⟨#[]⟩⟩ [] = 0 ∧ equalV ⟨2, n, 0, ⟨#[]⟩⟩ [] ⟨3, 0, canonB f, ⟨#[]⟩⟩ [] = 0 ∧ lessV ⟨3, 0, canonB f, ⟨#[]⟩⟩ [] ⟨2, n, 0, ⟨#[]⟩⟩ [] = 0 ∧
    equalV ⟨3, 0, canonB f, ⟨#[]⟩⟩ [] ⟨3, 0, canonB f, ⟨#[]⟩⟩ [] = 0 := by
  have hn : nanB (canonB f) = true := nanB_nan (mt (isNum_canon f).1 h)
  have v1 := valid_int n
  have v2 := valid_real (f := f)
  have hr : (rankA 2 != rankA 3) = false := by decide
  have hr' : (rankA 3 != rankA 2) = false := by decide
  refine ⟨?_, ?_, ?_, ?_⟩
  · unfold lessV unkV nanA
    simp only [v1, v2, hn, hr]
    simp
  · unfold equalV unkV noneV noneA nanA
    simp only [v1, v2, hn]
    simp
  · unfold lessV unkV nanA
    simp only [v1, v2, hn, hr']
    simp
  · unfold equalV unkV noneV noneA nanA
    simp only [v2, hn]
    simp
theorem ask_self (n : Int) : equalV ⟨2, n, 0, ⟨#[]⟩⟩ [] ⟨2, n, 0, ⟨#[]⟩⟩ [] = 1 := by
  have v1 := valid_int n
  have w1 : weighA ⟨2, n, 0, ⟨#[]⟩⟩ ⟨2, n, 0, ⟨#[]⟩⟩ = cmpI n n := rfl
  unfold equalV unkV noneV noneA nanA likeA likeLs
  simp only [v1, w1, cmpI_zero]
  simp [ansI]
theorem ask_yes : equalV ⟨1, 1, 0, ⟨#[]⟩⟩ [] ⟨1, 1, 0, ⟨#[]⟩⟩ [] = 1 := by
  have v1 := valid_yes
  have w1 : weighA ⟨1, 1, 0, ⟨#[]⟩⟩ ⟨1, 1, 0, ⟨#[]⟩⟩ = 0 := rfl
  unfold equalV unkV noneV noneA nanA likeA likeLs
  simp only [v1, w1]
  simp [ansI]
theorem ask_text (n : Int) : lessV ⟨2, n, 0, ⟨#[]⟩⟩ [] ⟨4, 0, 0, ⟨#[]⟩⟩ [] = 2 := by
  have v1 := valid_int n
  have v2 := valid_text
  have hr : (rankA 2 != rankA 4) = true := by decide
  unfold lessV unkV
  simp only [v1, v2, hr]
  simp

theorem fval_canon {f : Nat} (hf : f < 18446744073709551616) (h : isNum f) : fval (canonB f) = fval f := by
  rw [canonB_num h]
  split
  · rename_i h0
    have : srung 0 = srung f := by
      unfold srung
      repeat' split
      all_goals omega
    exact (fval_eq (by omega) hf).2 this
  · rfl
theorem isFin_canon {f : Nat} (h : isNum f) : isFin (canonB f) ↔ isFin f := by
  rw [canonB_num h]
  unfold isFin
  split <;> omega
/-- A float that is no NaN stands like a whole number just where it is that number. -/
theorem whole_iff {n : Int} {f : Nat} (h1 : -9223372036854775808 ≤ n) (h2 : n ≤ 9223372036854775807) (hf : f < 18446744073709551616) (h : isNum f) :
    cmpN n (canonB f) = 0 ↔ (wholeB f).2 = true ∧ (wholeB f).1 = n := by
  have hc := canonB_lt hf
  constructor
  · intro hz
    have hfin : isFin (canonB f) := by
      rcases clsA_cases hc with ⟨g, _⟩ | ⟨g, _⟩ | ⟨g, _⟩ | ⟨g, _⟩
      · exact g
      · rw [cmpN_up h1 h2 (.inl g)] at hz; omega
      · rw [cmpN_up h1 h2 (.inr g)] at hz; omega
      · rw [cmpN_down h1 h2 hc g] at hz; omega
    rw [cmpN_fin h1 h2 hc hfin] at hz
    have hv := cmpI_eq hz
    rw [fval_canon hf h] at hv
    rw [whole_of hf h hv.symm h1 h2]
    exact ⟨rfl, rfl⟩
  · rintro ⟨g1, g2⟩
    by_cases hin : inR f ∧ fval f = trB f * (U : Int)
    · rw [wholeB_yes hin.1 hin.2] at g2
      have hfin := hin.1.fin hf
      rw [cmpN_fin h1 h2 hc ((isFin_canon h).2 hfin), fval_canon hf h, hin.2, ← g2]
      exact cmpI_zero rfl
    · rw [wholeB_no hin] at g1
      cases g1

end Go.Proofs.YtinbdneajbommaaDoor

