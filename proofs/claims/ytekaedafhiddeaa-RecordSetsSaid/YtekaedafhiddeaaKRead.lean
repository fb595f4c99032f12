/-
  Keys: what bytes are read as; what is put is read, what is read is put so; plain facts.
-/
import Derived.Test.YtekaedafhiddeaaKSpec
import Derived.Test.YtekaedafhiddeaaFGap
set_option linter.unusedVariables false
set_option maxRecDepth 100000
namespace Go.Proofs.Ytekaedafhiddeaa
open Go.RowKit

def at0 : At := ⟨0, 0, 0, ⟨#[]⟩⟩
def str0 : ByteArray := ⟨#[]⟩

/-- The number that Floor splits into a float and a rest, if there is one. -/
noncomputable def wholeK (f : Nat) (r : Int) : Int × Bool :=
  if (wholeB f).2 = true ∧ (wholeB f).1 ≤ 9223372036854775807 - r then ((wholeB f).1 + r, decide (restI ((wholeB f).1 + r) = r)) else (0, false)
/-- The number of a key, a rest and a form. -/
noncomputable def numberK (k : Nat) (r : Int) (fm : UInt8) : At × Bool :=
  if (ofB k).2 = false then (at0, false)
  else if fm = 0 then (⟨2, (wholeK (ofB k).1 r).1, 0, str0⟩, (wholeK (ofB k).1 r).2)
  else if fm = 1 then (⟨3, 0, (ofB k).1, str0⟩, decide (r = 0))
  else (at0, false)
/-- The number that bytes begin with, behind their mark: error, atom, bytes with the mark. -/
noncomputable def rdNum (l : List UInt8) : Int × At × Nat :=
  if l.length < 11 then (10, at0, 0)
  else if (numberK (num (l.take 8)) ((l.getD 8 0).toNat * 256 + (l.getD 9 0).toNat : Nat) (l.getD 10 0)).2 = true then (0, (numberK (num (l.take 8)) ((l.getD 8 0).toNat * 256 + (l.getD 9 0).toNat : Nat) (l.getD 10 0)).1, 12) else (11, at0, 0)
/-- A text behind its mark. -/
def rdStr (k : Int) (l : List UInt8) : Int × At × Nat :=
  if (rdT l).1 ≠ 0 then ((rdT l).1, at0, 0) else if 256 < (rdT l).2.1.length then (11, at0, 0) else (0, ⟨k, 0, 0, ⟨(rdT l).2.1.toArray⟩⟩, 1 + (rdT l).2.2)
/-- The atom that bytes begin with: the error (0: none), the atom, how many bytes. -/
noncomputable def rdAt : List UInt8 → Int × At × Nat
  | [] => (10, at0, 0)
  | c :: r => if c = 5 then (0, at0, 1) else if c = 16 then (0, ⟨1, 0, 0, str0⟩, 1) else if c = 17 then (0, ⟨1, 1, 0, str0⟩, 1)
    else if c = 32 then rdNum r else if c = 48 then rdStr 4 r else if c = 49 then rdStr 5 r else (11, at0, 0)
/-- The atoms of a list up to its end. -/
noncomputable def rdLs : Nat → List At → Nat → List UInt8 → Int × List At × Nat
  | 0, _, _, _ => (11, [], 0)
  | _ + 1, _, _, [] => (10, [], 0)
  | n + 1, acc, pos, c :: r => if c = 0 then (0, acc, pos + 1) else if (rdAt (c :: r)).1 ≠ 0 then ((rdAt (c :: r)).1, [], 0)
    else if acc.length = 16 then (11, [], 0) else rdLs n (acc ++ [(rdAt (c :: r)).2.1]) (pos + (rdAt (c :: r)).2.2) ((c :: r).drop (rdAt (c :: r)).2.2)
/-- P4.2: the error, the value, how many bytes. -/
noncomputable def rdV : List UInt8 → Int × At × List At × Nat
  | [] => (10, at0, [], 0)
  | c :: r => if c = 64 then (if (rdLs 17 [] 1 r).1 ≠ 0 then ((rdLs 17 [] 1 r).1, at0, [], 0) else (0, ⟨6, 0, 0, str0⟩, (rdLs 17 [] 1 r).2.1, (rdLs 17 [] 1 r).2.2)) else ((rdAt (c :: r)).1, (rdAt (c :: r)).2.1, [], (rdAt (c :: r)).2.2)

theorem rdAt_cons (c : UInt8) (r : List UInt8) : rdAt (c :: r) = if c = 5 then (0, at0, 1) else if c = 16 then (0, ⟨1, 0, 0, str0⟩, 1) else if c = 17 then (0, ⟨1, 1, 0, str0⟩, 1)
    else if c = 32 then rdNum r else if c = 48 then rdStr 4 r else if c = 49 then rdStr 5 r else (11, at0, 0) := rfl
theorem rdLs_cons (n : Nat) (acc : List At) (pos : Nat) (c : UInt8) (r : List UInt8) : rdLs (n + 1) acc pos (c :: r) = if c = 0 then (0, acc, pos + 1) else if (rdAt (c :: r)).1 ≠ 0 then ((rdAt (c :: r)).1, [], 0)
    else if acc.length = 16 then (11, [], 0) else rdLs n (acc ++ [(rdAt (c :: r)).2.1]) (pos + (rdAt (c :: r)).2.2) ((c :: r).drop (rdAt (c :: r)).2.2) := rfl
theorem rdV_cons (c : UInt8) (r : List UInt8) : rdV (c :: r) = if c = 64 then (if (rdLs 17 [] 1 r).1 ≠ 0 then ((rdLs 17 [] 1 r).1, at0, [], 0) else (0, ⟨6, 0, 0, str0⟩, (rdLs 17 [] 1 r).2.1, (rdLs 17 [] 1 r).2.2)) else ((rdAt (c :: r)).1, (rdAt (c :: r)).2.1, [], (rdAt (c :: r)).2.2) := rfl

/-! ### what is read is put so -/

theorem wholeK_ok {f : Nat} (hf : f < 18446744073709551616) {r : Int} (h0 : 0 ≤ r) (h : (wholeK f r).2 = true) :
    -9223372036854775808 ≤ (wholeK f r).1 ∧ (wholeK f r).1 ≤ 9223372036854775807 ∧ restI (wholeK f r).1 = r ∧ keyB (fltB ((wholeK f r).1 - r)) = keyB f := by
  unfold wholeK at *
  by_cases hw : (wholeB f).2 = true ∧ (wholeB f).1 ≤ 9223372036854775807 - r
  · rw [if_pos hw] at h ⊢
    have hr : restI ((wholeB f).1 + r) = r := by simpa using h
    obtain ⟨w1, w2⟩ := hw
    have hin : inR f ∧ fval f = trB f * (U : Int) := by
      by_cases hh : inR f ∧ fval f = trB f * (U : Int)
      · exact hh
      · rw [wholeB_no hh] at w1; cases w1
    have he := wholeB_yes hin.1 hin.2
    have hb := hin.1.bound hf
    obtain ⟨t1, t2, t3⟩ := flt_tr hf hin.1
    rw [he] at w2 hr ⊢
    dsimp only at w2 hr ⊢
    refine ⟨by omega, by omega, hr, ?_⟩
    have e : trB f + r - r = trB f := by omega
    rw [e]
    exact ((keyB_fval t1 hf t2.num hin.1.1).1).2 (by rw [t3, hin.2])
  · rw [if_neg hw] at h; cases h

theorem numberK_ok {k : Nat} (hk : k < 18446744073709551616) {r : Int} (h0 : 0 ≤ r) (h1 : r ≤ 65535) {fm : UInt8} (h : (numberK k r fm).2 = true) :
    (numberK k r fm).1.Ok ∧ (numberK k r fm).1.valid = true ∧ atomK (numberK k r fm).1 = numK k r fm ∧ (numberK k r fm).1.k ≠ 6 := by
  unfold numberK at *
  have hof : (ofB k).2 = true → keyB (ofB k).1 = k ∧ canonB (ofB k).1 = (ofB k).1 ∧ (ofB k).1 < 18446744073709551616 := by
    unfold ofB
    by_cases hh : keyB (canonB (uncB k)) = k
    · rw [if_pos hh]
      exact fun _ => ⟨hh, canonB_idem _, canonB_lt (uncB_lt hk)⟩
    · rw [if_neg hh]
      intro h; cases h
  by_cases h2 : (ofB k).2 = false
  · rw [if_pos h2] at h; cases h
  rw [if_neg h2] at h ⊢
  obtain ⟨k1, k2, k3⟩ := hof (by simpa using h2)
  by_cases f0 : fm = 0
  · subst f0
    rw [if_pos rfl] at h ⊢
    dsimp only at h ⊢
    obtain ⟨b1, b2, b3, b4⟩ := wholeK_ok k3 h0 h
    generalize (wholeK (ofB k).1 r).1 = n at *
    refine ⟨⟨by (try dsimp only); omega, by (try dsimp only); omega, b1, b2, by (try dsimp only); omega, by show 0 ≤ _; omega⟩, ?_, ?_, by (try dsimp only); omega⟩
    · show validA 2 n 0 str0 = true
      unfold validA
      simp [toList_data, str0]
    · show numK (keyB (fltB (n - restI n))) (restI n) 0 = _
      rw [b3, b4, k1]
  · rw [if_neg f0] at h ⊢
    by_cases f1 : fm = 1
    · subst f1
      rw [if_pos rfl] at h ⊢
      dsimp only at h ⊢
      have hr : r = 0 := by simpa using h
      subst hr
      refine ⟨⟨by (try dsimp only); omega, by (try dsimp only); omega, by (try dsimp only); omega, by (try dsimp only); omega, k3, by show 0 ≤ _; omega⟩, ?_, ?_, by (try dsimp only); omega⟩
      · show validA 3 0 (ofB k).1 str0 = true
        unfold validA canonT
        simp [toList_data, str0, k2]
      · show numK (keyB (ofB k).1) 0 1 = _
        rw [k1]
    · rw [if_neg f1] at h; cases h

theorem be8_num : ∀ {l : List UInt8}, l.length = 8 → be8 (num l) = l
  | [a, b, c, d, e, f, g, h], _ => by
    have := a.toNat_lt
    have := b.toNat_lt
    have := c.toNat_lt
    have := d.toNat_lt
    have := e.toNat_lt
    have := f.toNat_lt
    have := g.toNat_lt
    have := h.toNat_lt
    simp only [be8, num, List.foldl_cons, List.foldl_nil]
    refine List.cons_eq_cons.2 ⟨?_, List.cons_eq_cons.2 ⟨?_, List.cons_eq_cons.2 ⟨?_, List.cons_eq_cons.2 ⟨?_, List.cons_eq_cons.2 ⟨?_, List.cons_eq_cons.2 ⟨?_, List.cons_eq_cons.2 ⟨?_, List.cons_eq_cons.2 ⟨?_, rfl⟩⟩⟩⟩⟩⟩⟩⟩
    all_goals
      rw [← UInt8.toNat_inj, UInt8.toNat_ofNat']
      omega

theorem eleven {l : List UInt8} (h : 11 ≤ l.length) : ∃ a b c d e f g i x y z r, l = a :: b :: c :: d :: e :: f :: g :: i :: x :: y :: z :: r := by
  match l, h with
  | a :: b :: c :: d :: e :: f :: g :: i :: x :: y :: z :: r, _ => exact ⟨a, b, c, d, e, f, g, i, x, y, z, r, rfl⟩

def RdOk (l : List UInt8) (r : Int × At × Nat) : Prop := r.1 = 0 → r.2.1.Ok ∧ r.2.1.valid = true ∧ 1 ≤ r.2.2 ∧ r.2.2 ≤ l.length ∧ atomK r.2.1 = l.take r.2.2
/-- With an error nothing is told. -/
def RdNo (r : Int × At × Nat) : Prop := r.1 ≠ 0 → r.2.1 = at0 ∧ r.2.2 = 0

theorem rdNum_no (l : List UInt8) : RdNo (rdNum l) := by
  unfold RdNo rdNum
  repeat' split
  all_goals first | exact fun _ => ⟨rfl, rfl⟩ | exact fun h => absurd rfl h
theorem rdStr_no (k : Int) (l : List UInt8) : RdNo (rdStr k l) := by
  unfold RdNo rdStr
  repeat' split
  all_goals first | exact fun _ => ⟨rfl, rfl⟩ | exact fun h => absurd rfl h
theorem rdAt_no (l : List UInt8) : RdNo (rdAt l) := by
  cases l with
  | nil => exact fun _ => ⟨rfl, rfl⟩
  | cons c r =>
    rw [rdAt_cons]
    repeat' split
    all_goals first | exact rdNum_no _ | exact rdStr_no _ _ | exact fun _ => ⟨rfl, rfl⟩ | exact fun h => absurd rfl h

theorem rdNum_ok (l : List UInt8) : RdOk (32 :: l) (rdNum l) := by
  unfold RdOk
  intro h
  by_cases hl : l.length < 11
  · unfold rdNum at h; rw [if_pos hl] at h; cases h
  obtain ⟨a, b, c, d, e, f, g, i, x, y, z, r, rfl⟩ := eleven (by omega : 11 ≤ l.length)
  unfold rdNum at h ⊢
  rw [if_neg hl] at h ⊢
  have hk : num [a, b, c, d, e, f, g, i] < 18446744073709551616 := num_lt8 (by simp)
  have hx := x.toNat_lt
  have hy := y.toNat_lt
  have ht : (a :: b :: c :: d :: e :: f :: g :: i :: x :: y :: z :: r).take 8 = [a, b, c, d, e, f, g, i] := rfl
  have g8 : (a :: b :: c :: d :: e :: f :: g :: i :: x :: y :: z :: r).getD 8 0 = x := rfl
  have g9 : (a :: b :: c :: d :: e :: f :: g :: i :: x :: y :: z :: r).getD 9 0 = y := rfl
  have g10 : (a :: b :: c :: d :: e :: f :: g :: i :: x :: y :: z :: r).getD 10 0 = z := rfl
  rw [ht, g8, g9, g10] at h ⊢
  by_cases hn : (numberK (num [a, b, c, d, e, f, g, i]) ((x.toNat * 256 + y.toNat : Nat) : Int) z).2 = true
  · rw [if_pos hn]
    obtain ⟨n1, n2, n3, n4⟩ := numberK_ok hk (by omega) (by omega) hn
    refine ⟨n1, n2, by (try dsimp only); omega, by simp only [List.length_cons]; omega, ?_⟩
    rw [n3]
    unfold numK tailK
    rw [be8_num rfl]
    have e1 : UInt8.ofNat ((((x.toNat * 256 + y.toNat : Nat) : Int)).toNat / 256) = x := by
      rw [← UInt8.toNat_inj, UInt8.toNat_ofNat']
      omega
    have e2 : UInt8.ofNat (((x.toNat * 256 + y.toNat : Nat) : Int)).toNat = y := by
      rw [← UInt8.toNat_inj, UInt8.toNat_ofNat']
      omega
    rw [e1, e2]
    rfl
  · rw [if_neg hn] at h; cases h

theorem rdStr_ok (l : List UInt8) {k : Int} {c : UInt8} (hk : k = 4 ∧ c = 48 ∨ k = 5 ∧ c = 49) : RdOk (c :: l) (rdStr k l) := by
  unfold RdOk
  intro h
  unfold rdStr at h ⊢
  rcases rdT_sound l with ⟨h1, _, _⟩ | ⟨h1, h2, h3, h4⟩
  · rw [if_pos h1] at h; exact absurd h h1
  rw [if_neg (by simpa using h1)] at h ⊢
  by_cases h5 : 256 < (rdT l).2.1.length
  · rw [if_pos h5] at h; cases h
  rw [if_neg h5]
  have hs : (⟨(rdT l).2.1.toArray⟩ : ByteArray).size = (rdT l).2.1.length := rfl
  refine ⟨⟨by (try dsimp only); omega, by (try dsimp only); omega, by (try dsimp only); omega, by (try dsimp only); omega, by (try dsimp only); omega, by (try dsimp only); rw [hs]; omega⟩, ?_, by (try dsimp only); omega, by simp only [List.length_cons]; omega, ?_⟩
  · unfold At.valid validA
    rcases hk with ⟨rfl, rfl⟩ | ⟨rfl, rfl⟩
    all_goals
      dsimp only
      rw [hs]
      simp
      omega
  · have e : (c :: l).take (1 + (rdT l).2.2) = c :: l.take (rdT l).2.2 := by rw [Nat.add_comm]; rfl
    rw [e, ← h4]
    rcases hk with ⟨rfl, rfl⟩ | ⟨rfl, rfl⟩ <;> rfl

theorem rdAt_ok (l : List UInt8) : RdOk l (rdAt l) := by
  cases l with
  | nil => intro h; cases h
  | cons c r =>
    rw [rdAt_cons]
    have one : ∀ a : At, a.Ok → a.valid = true → atomK a = [c] → RdOk (c :: r) (0, a, 1) := fun a h1 h2 h3 _ => ⟨h1, h2, Nat.le_refl _, by simp, by dsimp only; rw [h3]; rfl⟩
    have ok : ∀ (k n : Int), (k = 0 ∨ k = 1) → (n = 0 ∨ n = 1) → (⟨k, n, 0, str0⟩ : At).Ok := fun k n hk hn => ⟨by (try dsimp only); omega, by (try dsimp only); omega, by (try dsimp only); omega, by (try dsimp only); omega, by (try dsimp only); omega, by show 0 ≤ _; omega⟩
    by_cases h5 : c = 5
    · subst h5; rw [if_pos rfl]; exact one at0 (ok 0 0 (by omega) (by omega)) (by unfold At.valid validA at0; simp [toList_data]) rfl
    rw [if_neg h5]
    by_cases h16 : c = 16
    · subst h16; rw [if_pos rfl]; exact one _ (ok 1 0 (by omega) (by omega)) (by unfold At.valid validA; simp [toList_data, str0]) rfl
    rw [if_neg h16]
    by_cases h17 : c = 17
    · subst h17; rw [if_pos rfl]; exact one _ (ok 1 1 (by omega) (by omega)) (by unfold At.valid validA; simp [toList_data, str0]) rfl
    rw [if_neg h17]
    by_cases h32 : c = 32
    · subst h32; rw [if_pos rfl]; exact rdNum_ok r
    rw [if_neg h32]
    by_cases h48 : c = 48
    · subst h48; rw [if_pos rfl]; exact rdStr_ok r (.inl ⟨rfl, rfl⟩)
    rw [if_neg h48]
    by_cases h49 : c = 49
    · subst h49; rw [if_pos rfl]; exact rdStr_ok r (.inr ⟨rfl, rfl⟩)
    rw [if_neg h49]
    intro h; cases h

theorem rdLs_ok : ∀ (n : Nat) (acc : List At) (pos : Nat) (l : List UInt8), acc.length + n = 17 → (∀ x ∈ acc, x.Ok ∧ x.valid = true) → (rdLs n acc pos l).1 = 0 →
    ∃ m r, (rdLs n acc pos l).2.1 = acc ++ m ∧ (∀ x ∈ m, x.Ok ∧ x.valid = true) ∧ acc.length + m.length ≤ 16 ∧ (rdLs n acc pos l).2.2 = pos + r ∧ r ≤ l.length ∧ atomsK m ++ [0] = l.take r
  | 0, acc, pos, l, hn, _, h => by cases h
  | n + 1, acc, pos, [], _, _, h => by cases h
  | n + 1, acc, pos, c :: r, hn, ha, h => by
    rw [rdLs_cons] at h ⊢
    by_cases hc : c = 0
    · subst hc
      rw [if_pos rfl]
      exact ⟨[], 1, by simp, by simp, by simp; omega, rfl, by simp, rfl⟩
    rw [if_neg hc] at h ⊢
    by_cases he : (rdAt (c :: r)).1 ≠ 0
    · rw [if_pos he] at h; exact absurd h he
    rw [if_neg he] at h ⊢
    by_cases h16 : acc.length = 16
    · rw [if_pos h16] at h; cases h
    rw [if_neg h16] at h ⊢
    obtain ⟨r1, r2, r3, r4, r5⟩ := rdAt_ok (c :: r) (by simpa using he)
    generalize (rdAt (c :: r)).2.1 = a at *
    generalize (rdAt (c :: r)).2.2 = k at *
    obtain ⟨m, r', m1, m2, m3, m4, m5, m6⟩ := rdLs_ok n (acc ++ [a]) (pos + k) ((c :: r).drop k) (by simp; omega) (fun x hx => by
      rcases List.mem_append.1 hx with h | h
      · exact ha x h
      · obtain rfl := List.mem_singleton.1 h; exact ⟨r1, r2⟩) h
    refine ⟨a :: m, k + r', by rw [m1]; simp, fun x hx => ?_, by simp only [List.length_append, List.length_cons, List.length_nil] at m3 ⊢; omega, by rw [m4]; omega, ?_, ?_⟩
    · rcases List.mem_cons.1 hx with rfl | h
      · exact ⟨r1, r2⟩
      · exact m2 x h
    · rw [List.length_drop] at m5; omega
    · simp only [atomsK]
      rw [List.append_assoc, m6, r5, List.take_add]
theorem rdLs_no : ∀ (n : Nat) (acc : List At) (pos : Nat) (l : List UInt8), (rdLs n acc pos l).1 ≠ 0 → (rdLs n acc pos l).2.1 = [] ∧ (rdLs n acc pos l).2.2 = 0
  | 0, acc, pos, l, h => ⟨rfl, rfl⟩
  | n + 1, acc, pos, [], h => ⟨rfl, rfl⟩
  | n + 1, acc, pos, c :: r, h => by
    rw [rdLs_cons] at h ⊢
    by_cases hc : c = 0
    · subst hc
      rw [if_pos rfl] at h
      exact absurd rfl h
    rw [if_neg hc] at h ⊢
    by_cases he : (rdAt (c :: r)).1 ≠ 0
    · rw [if_pos he]; exact ⟨rfl, rfl⟩
    rw [if_neg he] at h ⊢
    by_cases h16 : acc.length = 16
    · rw [if_pos h16]; exact ⟨rfl, rfl⟩
    rw [if_neg h16] at h ⊢
    exact rdLs_no n _ _ _ h

/-- What is read is put as it was. -/
theorem rdV_ok (l : List UInt8) (h : (rdV l).1 = 0) : (rdV l).2.1.Ok ∧ (∀ x ∈ (rdV l).2.2.1, x.Ok) ∧ validV (rdV l).2.1 (rdV l).2.2.1 = true ∧ 1 ≤ (rdV l).2.2.2 ∧ (rdV l).2.2.2 ≤ l.length ∧ valK (rdV l).2.1 (rdV l).2.2.1 = l.take (rdV l).2.2.2 := by
  cases l with
  | nil => cases h
  | cons c r =>
    rw [rdV_cons] at h ⊢
    by_cases h64 : c = 64
    · subst h64
      rw [if_pos rfl] at h ⊢
      by_cases he : (rdLs 17 [] 1 r).1 ≠ 0
      · rw [if_pos he] at h; exact absurd h he
      rw [if_neg he]
      obtain ⟨m, k, m1, m2, m3, m4, m5, m6⟩ := rdLs_ok 17 [] 1 r rfl (by simp) (by simpa using he)
      rw [List.nil_append] at m1
      dsimp only
      rw [m1, m4]
      refine ⟨⟨by (try dsimp only); omega, by (try dsimp only); omega, by (try dsimp only); omega, by (try dsimp only); omega, by (try dsimp only); omega, by show 0 ≤ _; omega⟩, fun x hx => (m2 x hx).1, ?_, by omega, by simp only [List.length_cons]; omega, ?_⟩
      · unfold validV
        rw [if_pos rfl]
        simp only [List.length_nil] at m3
        have v0 : validA 0 0 0 str0 = true := by unfold validA; simp [toList_data, str0]
        have v1 : (m.any fun a => !a.valid) = false := by
          rw [List.any_eq_false]
          intro x hx
          rw [(m2 x hx).2]
          simp
        dsimp only
        rw [v0, v1]
        simp
        omega
      · unfold valK
        rw [if_pos rfl, m6, Nat.add_comm]
        rfl
    · rw [if_neg h64] at h ⊢
      dsimp only at h ⊢
      obtain ⟨r1, r2, r3, r4, r5⟩ := rdAt_ok (c :: r) h
      have hk : (rdAt (c :: r)).2.1.k ≠ 6 := by
        rcases kind_valid r2 with h | h | h | h | h | h <;> omega
      refine ⟨r1, by simp, ?_, r3, r4, ?_⟩
      · unfold validV
        rw [if_neg hk, r2]
        rfl
      · unfold valK
        rw [if_neg hk]
        exact r5
theorem rdV_no (l : List UInt8) (h : (rdV l).1 ≠ 0) : (rdV l).2.1 = at0 ∧ (rdV l).2.2.1 = [] ∧ (rdV l).2.2.2 = 0 := by
  cases l with
  | nil => exact ⟨rfl, rfl, rfl⟩
  | cons c r =>
    rw [rdV_cons] at h ⊢
    by_cases h64 : c = 64
    · subst h64
      rw [if_pos rfl] at h ⊢
      by_cases he : (rdLs 17 [] 1 r).1 ≠ 0
      · rw [if_pos he]; exact ⟨rfl, rfl, rfl⟩
      · rw [if_neg he] at h; exact absurd rfl h
    · rw [if_neg h64] at h ⊢
      obtain ⟨h1, h2⟩ := rdAt_no (c :: r) h
      exact ⟨h1, rfl, h2⟩

/-! ### what is put is read -/

theorem at_ext {a b : At} (h1 : a.k = b.k) (h2 : a.n = b.n) (h3 : a.f = b.f) (h4 : a.s.data.toList = b.s.data.toList) : a = b := by
  obtain ⟨k, n, f, s⟩ := a
  obtain ⟨k', n', f', s'⟩ := b
  dsimp only at h1 h2 h3 h4
  subst h1 h2 h3
  rw [str_eq (s := s) (t := s') (by rw [toList_data, toList_data]; exact h4)]

theorem none_flt {a : At} (h : a.valid = true) (hk : a.k ≠ 3) : a.f = 0 := by
  unfold At.valid validA at h
  rcases kind_valid (a := a) (by unfold At.valid validA; exact h) with e | e | e | e | e | e
  all_goals first
    | exact absurd e hk
    | (rw [e] at h; simp at h; omega)

theorem wholeK_back {n : Int} (h1 : -9223372036854775808 ≤ n) (h2 : n ≤ 9223372036854775807) {f : Nat} (hf : f < 18446744073709551616) (hk : keyB f = keyB (fltB (n - restI n))) (hc : canonB f = f) : wholeK f (restI n) = (n, true) := by
  obtain ⟨fa, va⟩ := floor_flt h1 h2
  obtain ⟨r0, r1, r2, r3, r4, r5⟩ := rest_facts h1 h2
  have hnum : isNum f := by
    by_cases h : isNum f
    · exact h
    · have h3 := keyB_nan h
      have h4 := keyB_num_le (flt_lt64 (n - restI n)) fa.num
      omega
  have hv : fval f = (n - restI n) * (U : Int) := by
    have := ((keyB_fval hf (flt_lt64 _) hnum fa.num).1).1 hk
    rw [this, va]
  have hw := whole_of hf hnum hv r3 r4
  unfold wholeK
  rw [hw]
  dsimp only
  have e : n - restI n + restI n = n := by omega
  rw [if_pos ⟨rfl, by omega⟩, e]
  simp

theorem rdAt_5 (r : List UInt8) : rdAt (5 :: r) = (0, at0, 1) := by rw [rdAt_cons, if_pos rfl]
theorem rdAt_16 (r : List UInt8) : rdAt (16 :: r) = (0, ⟨1, 0, 0, str0⟩, 1) := by rw [rdAt_cons, if_neg (by decide), if_pos rfl]
theorem rdAt_17 (r : List UInt8) : rdAt (17 :: r) = (0, ⟨1, 1, 0, str0⟩, 1) := by rw [rdAt_cons, if_neg (by decide), if_neg (by decide), if_pos rfl]
theorem rdAt_32 (r : List UInt8) : rdAt (32 :: r) = rdNum r := by rw [rdAt_cons, if_neg (by decide), if_neg (by decide), if_neg (by decide), if_pos rfl]
theorem rdAt_48 (r : List UInt8) : rdAt (48 :: r) = rdStr 4 r := by rw [rdAt_cons, if_neg (by decide), if_neg (by decide), if_neg (by decide), if_neg (by decide), if_pos rfl]
theorem rdAt_49 (r : List UInt8) : rdAt (49 :: r) = rdStr 5 r := by rw [rdAt_cons, if_neg (by decide), if_neg (by decide), if_neg (by decide), if_neg (by decide), if_neg (by decide), if_pos rfl]

theorem rdNum_back {k : Nat} (hk : k < 18446744073709551616) {r : Int} (h0 : 0 ≤ r) (h1 : r ≤ 2047) (fm : UInt8) {a : At} (hN : numberK k r fm = (a, true)) (more : List UInt8) : rdAt (numK k r fm ++ more) = (0, a, (numK k r fm).length) := by
  have e1 : numK k r fm ++ more = 32 :: (be8 k ++ (tailK r fm ++ more)) := by simp [numK]
  rw [e1, rdAt_32]
  unfold rdNum
  have t0 : ¬ (be8 k ++ (tailK r fm ++ more)).length < 11 := by simp [be8_length, tailK]; omega
  have t1 : (be8 k ++ (tailK r fm ++ more)).take 8 = be8 k := List.take_left' (be8_length k)
  have g : ∀ i, (be8 k ++ (tailK r fm ++ more)).getD (8 + i) 0 = (tailK r fm ++ more).getD i 0 := by
    intro i
    simp only [List.getD_eq_getElem?_getD]
    rw [List.getElem?_append_right (by rw [be8_length]; omega), be8_length]
    simp
  have t2 := g 0
  have t3 := g 1
  have t4 := g 2
  have u2 : (tailK r fm ++ more).getD 0 0 = UInt8.ofNat (r.toNat / 256) := rfl
  have u3 : (tailK r fm ++ more).getD 1 0 = UInt8.ofNat r.toNat := rfl
  have u4 : (tailK r fm ++ more).getD 2 0 = fm := rfl
  rw [u2] at t2
  rw [u3] at t3
  rw [u4] at t4
  rw [if_neg t0, t1, t2, t3, t4, num_be8 hk]
  have er : (((UInt8.ofNat (r.toNat / 256)).toNat * 256 + (UInt8.ofNat r.toNat).toNat : Nat) : Int) = r := by
    rw [UInt8.toNat_ofNat', UInt8.toNat_ofNat']
    omega
  rw [er, hN, if_pos rfl]
  have el : (numK k r fm).length = 12 := rfl
  rw [el]

theorem rdStr_back (s : ByteArray) (hs : s.data.toList.length ≤ 256) (k : Int) (more : List UInt8) : rdStr k (txt s.data.toList ++ more) = (0, ⟨k, 0, 0, s⟩, 1 + (txt s.data.toList).length) := by
  have hr := rdT_txt s.data.toList more
  unfold rdStr
  rw [hr]
  dsimp only
  rw [if_neg (by simp), if_neg (by omega)]

theorem rdAt_back {a : At} (ha : a.Ok) (va : a.valid = true) (more : List UInt8) : rdAt (atomK a ++ more) = (0, a, (atomK a).length) := by
  have hkv := kind_valid va
  rcases hkv with e | e | e | e | e | e
  · have e1 : atomK a = [5] := by unfold atomK; rw [if_pos e]
    have e2 : a = at0 := at_ext e (none_num va (by omega)) (none_flt va (by omega)) (none_text va (by omega))
    rw [e1, e2]
    exact rdAt_5 more
  · have e0 : a = ⟨1, a.n, 0, str0⟩ := at_ext e rfl (none_flt va (by omega)) (none_text va (by omega))
    rcases bool_num va e with g | g
    · have e1 : atomK a = [16] := by unfold atomK; rw [if_neg (by omega), if_pos e, if_pos g]
      rw [g] at e0
      rw [e1, e0]
      exact rdAt_16 more
    · have e1 : atomK a = [17] := by unfold atomK; rw [if_neg (by omega), if_pos e, if_neg (by omega)]
      rw [g] at e0
      rw [e1, e0]
      exact rdAt_17 more
  · have e0 : a = ⟨2, a.n, 0, str0⟩ := at_ext e rfl (none_flt va (by omega)) (none_text va (by omega))
    have e1 : atomK a = numK (keyB (fltB (a.n - restI a.n))) (restI a.n) 0 := by unfold atomK; rw [if_neg (by omega), if_neg (by omega), if_neg (by omega), if_neg (by omega), if_pos e]
    obtain ⟨r0, r1, _⟩ := rest_facts ha.n1 ha.n2
    have hlt := flt_key_lt a.n ha.n1 ha.n2
    have hof := ofB_keyB (flt_lt64 (a.n - restI a.n))
    have hwk := wholeK_back ha.n1 ha.n2 (f := canonB (fltB (a.n - restI a.n))) (canonB_lt (flt_lt64 _)) (keyB_canon _) (canonB_idem _)
    rw [e1]
    refine rdNum_back hlt r0 r1 0 ?_ more
    unfold numberK
    rw [hof]
    dsimp only
    rw [if_neg (by decide), if_pos rfl, hwk, ← e0]
  · have e0 : a = ⟨3, 0, a.f, str0⟩ := at_ext e (none_num va (by omega)) rfl (none_text va (by omega))
    have e1 : atomK a = numK (keyB a.f) 0 1 := by unfold atomK; rw [if_neg (by omega), if_neg (by omega), if_neg (by omega), if_neg (by omega), if_neg (by omega)]
    have hc : canonB a.f = a.f := by
      have := va
      unfold At.valid validA canonT at this
      rw [e] at this
      simp at this
      omega
    have hlt := keyB_lt ha.f1
    have hof := ofB_keyB ha.f1
    rw [hc] at hof
    rw [e1]
    refine rdNum_back hlt (by omega) (by omega) 1 ?_ more
    unfold numberK
    rw [hof]
    dsimp only
    rw [if_neg (by decide), if_neg (by decide), if_pos rfl, ← e0]
    rfl
  all_goals
    have hn := none_num va (by omega)
    have hf := none_flt va (by omega)
    have hs : a.s.data.toList.length ≤ 256 := by
      have := va
      unfold At.valid validA at this
      rw [e] at this
      simp at this
      exact this.2
  · have e1 : atomK a = 48 :: txt a.s.data.toList := by unfold atomK; rw [if_neg (by omega), if_neg (by omega), if_pos e]
    have e0 : a = ⟨4, 0, 0, a.s⟩ := at_ext e hn hf rfl
    rw [e1, List.cons_append, rdAt_48, rdStr_back a.s hs, ← e0, List.length_cons, Nat.add_comm]
  · have e1 : atomK a = 49 :: txt a.s.data.toList := by unfold atomK; rw [if_neg (by omega), if_neg (by omega), if_neg (by omega), if_pos e]
    have e0 : a = ⟨5, 0, 0, a.s⟩ := at_ext e hn hf rfl
    rw [e1, List.cons_append, rdAt_49, rdStr_back a.s hs, ← e0, List.length_cons, Nat.add_comm]

theorem rdLs_back : ∀ (m : List At) (n : Nat) (acc : List At) (pos : Nat) (more : List UInt8), acc.length + n = 17 → acc.length + m.length ≤ 16 → (∀ x ∈ m, x.Ok ∧ x.valid = true) →
    rdLs n acc pos (atomsK m ++ (0 :: more)) = (0, acc ++ m, pos + (atomsK m).length + 1)
  | [], 0, acc, pos, more, h1, h2, _ => by omega
  | [], n + 1, acc, pos, more, h1, h2, _ => by
    simp only [atomsK, List.nil_append]
    rw [rdLs_cons]
    rw [if_pos rfl, List.append_nil]
    rfl
  | a :: m, 0, acc, pos, more, h1, h2, _ => by omega
  | a :: m, n + 1, acc, pos, more, h1, h2, hv => by
    obtain ⟨t, ht⟩ := atomK_head a
    have hb := rdAt_back (hv a (by simp)).1 (hv a (by simp)).2 (atomsK m ++ (0 :: more))
    have hlen : (atomK a).length = t.length + 1 := by rw [ht]; rfl
    simp only [List.length_cons] at h2
    have ih := rdLs_back m n (acc ++ [a]) (pos + (atomK a).length) more (by simp; omega) (by simp; omega) (fun x hx => hv x (by simp [hx]))
    simp only [atomsK]
    rw [List.append_assoc]
    have hdrop : (atomK a ++ (atomsK m ++ 0 :: more)).drop (atomK a).length = atomsK m ++ 0 :: more := List.drop_left
    rw [ht] at hb hdrop ⊢
    simp only [List.cons_append] at hb hdrop ⊢
    rw [rdLs_cons]
    have hne : ¬ headK a = 0 := by
      intro h
      have := (headK_pos (a := a)).1
      rw [h] at this
      exact absurd this (by decide)
    rw [if_neg hne, hb]
    dsimp only
    rw [if_neg (by simp), if_neg (by omega), hdrop, ← ht, ih]
    refine Prod.ext rfl (Prod.ext ?_ ?_)
    · simp
    · show pos + (atomK a).length + (atomsK m).length + 1 = pos + (headK a :: (t ++ atomsK m)).length + 1
      rw [List.length_cons, List.length_append]
      omega

/-- What is put is read as it was. -/
theorem rdV_back {a : At} {l : List At} (ha : a.Ok) (hl : ∀ x ∈ l, x.Ok) (va : validV a l = true) (more : List UInt8) : rdV (valK a l ++ more) = (0, a, l, (valK a l).length) := by
  rcases valid_parts va with ⟨ka, na, fa, sa, l16, la⟩ | ⟨ka, rfl, va'⟩
  · have e0 : a = ⟨6, 0, 0, str0⟩ := at_ext ka na fa (by rw [sa]; rfl)
    have h := rdLs_back l 17 [] 1 more rfl (by simpa using l16) (fun x hx => ⟨hl x hx, la x hx⟩)
    unfold valK
    rw [if_pos ka]
    simp only [List.cons_append, List.append_assoc, List.nil_append]
    rw [rdV_cons]
    rw [if_pos rfl, h]
    dsimp only
    rw [if_neg (by simp), ← e0]
    simp only [List.nil_append, List.length_cons, List.length_append, List.length_nil, Prod.mk.injEq, true_and]
    omega
  · obtain ⟨t, ht⟩ := atomK_head a
    have hb := rdAt_back ha va' more
    unfold valK
    rw [if_neg ka]
    rw [ht] at hb ⊢
    simp only [List.cons_append] at hb ⊢
    rw [rdV_cons]
    have hne : ¬ headK a = 64 := by
      intro h
      have := (headK_pos (a := a)).2
      rw [h] at this
      exact absurd this (by decide)
    rw [if_neg hne, hb]
/-- A byte less is none. -/
theorem rdV_less {a : At} {l : List At} (ha : a.Ok) (hl : ∀ x ∈ l, x.Ok) (va : validV a l = true) {k : Nat} (hk : k < (valK a l).length) : (rdV ((valK a l).take k)).1 ≠ 0 := by
  intro h
  obtain ⟨r1, r2, r3, r4, r5, r6⟩ := rdV_ok _ h
  generalize (rdV ((valK a l).take k)).2.1 = b at *
  generalize (rdV ((valK a l).take k)).2.2.1 = r at *
  generalize (rdV ((valK a l).take k)).2.2.2 = n at *
  have hn : n ≤ k := by rw [List.length_take] at r5; omega
  rw [List.take_take, Nat.min_eq_left hn] at r6
  have h1 := rdV_back r1 r2 r3 ((valK a l).drop n)
  rw [r6, List.take_append_drop] at h1
  have h2 := rdV_back ha hl va []
  rw [List.append_nil, h1] at h2
  simp only [Prod.mk.injEq, true_and, List.length_take] at h2
  omega

end Go.Proofs.Ytekaedafhiddeaa
