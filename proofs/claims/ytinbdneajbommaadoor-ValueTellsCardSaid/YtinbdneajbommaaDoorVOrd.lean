/-
  The order of values is one: plain facts.
  Values that are like are the same: plain facts.
-/
import Derived.Test.YtinbdneajbommaaDoorVCmpS
import Derived.Test.YtinbdneajbommaaDoorFGap
set_option linter.unusedVariables false
set_option maxRecDepth 100000
namespace Go.Proofs.YtinbdneajbommaaDoor
open Go.RowKit

theorem orI_zero (x : Int) : orI 0 x = x := by unfold orI; rw [if_pos rfl]
theorem orI_ne {x : Int} (h : x ≠ 0) (y : Int) : orI x y = x := by unfold orI; rw [if_neg h]

/-- A comparison that is an order. -/
structure IsCmp {α : Type} (c : α → α → Int) : Prop where
  anti : ∀ a b, c a b = - c b a
  tr : ∀ a b d, c a b ≤ 0 → c b d ≤ 0 → c a d ≤ 0 ∧ (c a b < 0 → c a d < 0) ∧ (c b d < 0 → c a d < 0)

theorem IsCmp.self {α : Type} {c : α → α → Int} (h : IsCmp c) (a : α) : c a a = 0 := by have := h.anti a a; omega
theorem IsCmp.int : IsCmp cmpI :=
  ⟨fun a b => by unfold cmpI; repeat' split
                 all_goals omega,
   fun a b d => by
    unfold cmpI
    intro h1 h2
    repeat' split at h1
    all_goals repeat' split at h2
    all_goals repeat' split
    all_goals omega⟩
theorem IsCmp.on {α β : Type} {c : α → α → Int} (h : IsCmp c) (f : β → α) : IsCmp fun a b => c (f a) (f b) :=
  ⟨fun a b => h.anti _ _, fun a b d => h.tr _ _ _⟩
theorem IsCmp.lex {α : Type} {c c' : α → α → Int} (h : IsCmp c) (h' : IsCmp c') : IsCmp fun a b => orI (c a b) (c' a b) := by
  refine ⟨fun a b => ?_, fun a b d => ?_⟩
  · have h1 := h.anti a b
    have h2 := h'.anti a b
    simp only [orI]
    repeat' split
    all_goals omega
  · intro h1 h2
    have t1 := h.tr a b d
    have t2 := h'.tr a b d
    have t3 := h.tr d b a
    have a1 := h.anti a b
    have a2 := h.anti b d
    have a3 := h.anti a d
    simp only [orI] at h1 h2 ⊢
    by_cases e1 : c a b = 0
    · rw [if_pos e1] at h1 ⊢
      by_cases e2 : c b d = 0
      · rw [if_pos e2] at h2 ⊢
        have e3 : c a d = 0 := by
          have := (t1 (by omega) (by omega)).1
          have := (t3 (by omega) (by omega)).1
          omega
        rw [if_pos e3]
        exact t2 h1 h2
      · rw [if_neg e2] at h2 ⊢
        obtain ⟨g1, g2, g3⟩ := t1 (by omega) h2
        have := g3 (by omega)
        rw [if_neg (by omega)]
        omega
    · rw [if_neg e1] at h1 ⊢
      have hb : c b d ≤ 0 := by split at h2 <;> omega
      obtain ⟨g1, g2, g3⟩ := t1 (by omega) hb
      have := g2 (by omega)
      rw [if_neg (by omega)]
      omega

/-- Lists, element by element; the shorter one is below, if it begins the other. -/
def listC {α : Type} (c : α → α → Int) : List α → List α → Int
  | [], [] => 0
  | [], _ :: _ => -1
  | _ :: _, [] => 1
  | a :: l, b :: r => orI (c a b) (listC c l r)
theorem cmpLs_list : ∀ l r : List At, cmpLs l r = listC cmpA l r
  | [], [] => rfl
  | [], _ :: _ => rfl
  | _ :: _, [] => rfl
  | a :: l, b :: r => by simp only [cmpLs, listC, cmpLs_list l r]
theorem IsCmp.list {α : Type} {c : α → α → Int} (h : IsCmp c) : IsCmp (listC c) := by
  have anti : ∀ l r, listC c l r = - listC c r l := by
    intro l
    induction l with
    | nil => intro r; cases r <;> simp [listC]
    | cons a l ih =>
      intro r
      cases r with
      | nil => simp [listC]
      | cons b r =>
        have h1 := h.anti a b
        have h2 := ih r
        simp only [listC, orI]
        repeat' split
        all_goals omega
  refine ⟨anti, ?_⟩
  intro l
  induction l with
  | nil => intro r s; cases r <;> cases s <;> simp [listC]
  | cons a l ih =>
    intro r s
    cases r with
    | nil => cases s <;> simp [listC]
    | cons b r =>
      cases s with
      | nil => simp [listC]
      | cons d s =>
        intro h1 h2
        have t1 := h.tr a b d
        have t2 := ih r s
        have t3 := h.tr d b a
        have a1 := h.anti a b
        have a2 := h.anti b d
        have a3 := h.anti a d
        simp only [listC, orI] at h1 h2 ⊢
        by_cases e1 : c a b = 0
        · rw [if_pos e1] at h1 ⊢
          by_cases e2 : c b d = 0
          · rw [if_pos e2] at h2 ⊢
            have e3 : c a d = 0 := by
              have := (t1 (by omega) (by omega)).1
              have := (t3 (by omega) (by omega)).1
              omega
            rw [if_pos e3]
            exact t2 h1 h2
          · rw [if_neg e2] at h2 ⊢
            obtain ⟨g1, g2, g3⟩ := t1 (by omega) h2
            have := g3 (by omega)
            rw [if_neg (by omega)]
            omega
        · rw [if_neg e1] at h1 ⊢
          have hb : c b d ≤ 0 := by split at h2 <;> omega
          obtain ⟨g1, g2, g3⟩ := t1 (by omega) hb
          have := g2 (by omega)
          rw [if_neg (by omega)]
          omega

theorem compareBytes_list : ∀ l r : List UInt8, Lib.compareBytes l r = listC (fun a b => cmpI (a.toNat : Int) (b.toNat : Int)) l r
  | [], [] => rfl
  | [], _ :: _ => rfl
  | _ :: _, [] => rfl
  | a :: l, b :: r => by
    have ih := compareBytes_list l r
    have e1 : (a < b) ↔ (a.toNat < b.toNat) := UInt8.lt_iff_toNat_lt
    have e2 : (b < a) ↔ (b.toNat < a.toNat) := UInt8.lt_iff_toNat_lt
    simp only [Lib.compareBytes, listC, ih]
    rcases Nat.lt_trichotomy a.toNat b.toNat with h | h | h
    · rw [if_pos (e1.2 h), cmpI_neg (by omega), orI_ne (by omega)]
    · rw [if_neg (fun h' => by have := e1.1 h'; omega), if_neg (fun h' => by have := e2.1 h'; omega), cmpI_zero (by omega), orI_zero]
    · rw [if_neg (fun h' => by have := e1.1 h'; omega), if_pos (e2.2 h), cmpI_pos (by omega), orI_ne (by omega)]
theorem IsCmp.str : IsCmp cmpS := by
  have h := ((IsCmp.int.on (fun a : UInt8 => (a.toNat : Int))).list).on (fun s : ByteArray => s.data.toList)
  have e : (fun s t : ByteArray => listC (fun a b : UInt8 => cmpI (a.toNat : Int) (b.toNat : Int)) s.data.toList t.data.toList) = cmpS := by
    funext s t
    exact (compareBytes_list _ _).symm
  rw [← e]
  exact h

/-- Where a number stands among the infinities and NaN. -/
def clsA (k : Int) (f : Nat) : Int := if k = 3 then (if keyB f = 18446744073709551615 then 2 else if 18442240474082181120 ≤ keyB f then 1 else if keyB f ≤ 4503599627370495 then -1 else 0) else 0
/-- Its value, of the finite ones. -/
def valA (k n : Int) (f : Nat) : Int := if k = 3 then (if clsA 3 f = 0 then fval f else 0) else n * (U : Int)

theorem clsA_cases {f : Nat} (hf : f < 18446744073709551616) :
    (isFin f ∧ clsA 3 f = 0) ∨ (classB f = 0 ∧ clsA 3 f = 2 ∧ keyB f = 18446744073709551615) ∨ (classB f = 5 ∧ clsA 3 f = 1 ∧ keyB f = 18442240474082181120) ∨ (classB f = 1 ∧ clsA 3 f = -1 ∧ keyB f = 4503599627370495) := by
  unfold clsA
  rw [if_pos rfl]
  by_cases h : isNum f
  · rcases classB_inf h with h1 | h1 | h1
    · have := keyB_fin hf h1
      refine .inl ⟨h1, ?_⟩
      rw [if_neg (by omega), if_neg (by omega), if_neg (by omega)]
    · have hu : f = 9218868437227405312 := by
        unfold classB at h1
        repeat' split at h1
        all_goals omega
      have hk : keyB f = 18442240474082181120 := by subst hu; decide +kernel
      refine .inr (.inr (.inl ⟨h1, ?_, hk⟩))
      rw [hk]
      decide
    · have hu : f = 18442240474082181120 := by
        unfold classB at h1
        repeat' split at h1
        all_goals omega
      have hk : keyB f = 4503599627370495 := by subst hu; decide +kernel
      refine .inr (.inr (.inr ⟨h1, ?_, hk⟩))
      rw [hk]
      decide
  · have hk := keyB_nan h
    refine .inr (.inl ⟨classB_0.2 h, ?_, hk⟩)
    rw [hk]
    decide

theorem cmpI_eq_of {a b c d : Int} (h1 : a < b ↔ c < d) (h2 : b < a ↔ d < c) : cmpI a b = cmpI c d := by
  unfold cmpI
  repeat' split
  all_goals omega

theorem weighN_real {f g : Nat} (hf : f < 18446744073709551616) (hg : g < 18446744073709551616) :
    cmpI (keyB f) (keyB g) = orI (cmpI (clsA 3 f) (clsA 3 g)) (cmpI (valA 3 0 f) (valA 3 0 g)) := by
  have hfin : ∀ {x : Nat}, isFin x → x < 18446744073709551616 → 4503599627370495 < keyB x ∧ keyB x < 18442240474082181120 := fun h hx => keyB_fin hx h
  have v0 : ∀ {x : Nat}, clsA 3 x ≠ 0 → valA 3 0 x = 0 := fun h => by unfold valA; rw [if_pos rfl, if_neg h]
  rcases clsA_cases hf with ⟨h1, c1⟩ | ⟨_, c1, k1⟩ | ⟨_, c1, k1⟩ | ⟨_, c1, k1⟩ <;> rcases clsA_cases hg with ⟨h2, c2⟩ | ⟨_, c2, k2⟩ | ⟨_, c2, k2⟩ | ⟨_, c2, k2⟩
  · have hk := keyB_fval hf hg h1.num h2.num
    have hk' := keyB_fval hg hf h2.num h1.num
    have e1 : valA 3 0 f = fval f := by unfold valA; rw [if_pos rfl, if_pos c1]
    have e2 : valA 3 0 g = fval g := by unfold valA; rw [if_pos rfl, if_pos c2]
    rw [c1, c2, e1, e2, cmpI_zero rfl, orI_zero]
    exact cmpI_eq_of ⟨fun h => hk.2.1 (by omega), fun h => by have := hk.2.2 h; omega⟩ ⟨fun h => hk'.2.1 (by omega), fun h => by have := hk'.2.2 h; omega⟩
  all_goals
    try have b1 := hfin h1 hf
    try have b2 := hfin h2 hg
    try rw [c1]
    try rw [c2]
    try rw [v0 (x := f) (by omega)]
    try rw [v0 (x := g) (by omega)]
    unfold orI cmpI
    repeat' split
    all_goals omega

theorem weighN_int {n : Int} (h1 : -9223372036854775808 ≤ n) (h2 : n ≤ 9223372036854775807) {g : Nat} (hg : g < 18446744073709551616) :
    cmpN n g = orI (cmpI 0 (clsA 3 g)) (cmpI (n * (U : Int)) (valA 3 0 g)) := by
  rcases clsA_cases hg with ⟨h, c⟩ | ⟨h, c, _⟩ | ⟨h, c, _⟩ | ⟨h, c, _⟩
  · have e2 : valA 3 0 g = fval g := by unfold valA; rw [if_pos rfl, if_pos c]
    rw [c, e2, cmpI_zero rfl, orI_zero]
    exact cmpN_fin h1 h2 hg h
  · rw [c, cmpN_up h1 h2 (.inl h)]
    rfl
  · rw [c, cmpN_up h1 h2 (.inr h)]
    rfl
  · rw [c, cmpN_down h1 h2 hg h]
    rfl

theorem valA_n {k n n' : Int} {f : Nat} (h : k = 3) : valA k n f = valA 3 n' f := by subst h; rfl

theorem weighN_lex {a b : At} (ha : a.Ok) (hb : b.Ok) : weighN a.k a.n a.f b.k b.n b.f = orI (cmpI (clsA a.k a.f) (clsA b.k b.f)) (cmpI (valA a.k a.n a.f) (valA b.k b.n b.f)) := by
  have hU : (0 : Int) < (U : Int) := by have := U_pos; omega
  unfold weighN
  by_cases h1 : a.k = 3
  · rw [if_pos h1]
    by_cases h2 : b.k = 3
    · rw [if_pos h2, h1, h2, valA_n (n' := 0) rfl, valA_n (n := b.n) (n' := 0) rfl]
      exact weighN_real ha.f1 hb.f1
    · rw [if_neg h2, h1, valA_n (n' := 0) rfl, weighN_int hb.n1 hb.n2 ha.f1]
      have e1 : clsA b.k b.f = 0 := by unfold clsA; rw [if_neg h2]
      have e2 : valA b.k b.n b.f = b.n * (U : Int) := by unfold valA; rw [if_neg h2]
      rw [e1, e2]
      have g1 := IsCmp.int.anti 0 (clsA 3 a.f)
      have g2 := IsCmp.int.anti (b.n * (U : Int)) (valA 3 0 a.f)
      unfold orI
      repeat' split
      all_goals omega
  · rw [if_neg h1]
    have e1 : clsA a.k a.f = 0 := by unfold clsA; rw [if_neg h1]
    have e2 : valA a.k a.n a.f = a.n * (U : Int) := by unfold valA; rw [if_neg h1]
    rw [e1, e2]
    by_cases h2 : b.k = 3
    · rw [if_pos h2, h2, valA_n (n := b.n) (n' := 0) rfl]
      exact weighN_int ha.n1 ha.n2 hb.f1
    · have e3 : clsA b.k b.f = 0 := by unfold clsA; rw [if_neg h2]
      have e4 : valA b.k b.n b.f = b.n * (U : Int) := by unfold valA; rw [if_neg h2]
      rw [if_neg h2, e3, e4, cmpI_zero rfl, orI_zero]
      refine cmpI_eq_of ⟨fun h => Int.mul_lt_mul_of_pos_right h hU, fun h => Int.lt_of_mul_lt_mul_right h (Int.le_of_lt hU)⟩ ⟨fun h => Int.mul_lt_mul_of_pos_right h hU, fun h => Int.lt_of_mul_lt_mul_right h (Int.le_of_lt hU)⟩

/-- The order of atoms, by keys; on what is valid it is cmpA. -/
def cmpK (a b : At) : Int :=
  orI (cmpI (rankA a.k) (rankA b.k)) (orI (cmpI (if isNum2 a.k = true then clsA a.k a.f else 0) (if isNum2 b.k = true then clsA b.k b.f else 0))
    (orI (cmpI (if isNum2 a.k = true then valA a.k a.n a.f else a.n) (if isNum2 b.k = true then valA b.k b.n b.f else b.n))
      (orI (cmpS (if isNum2 a.k = true then .empty else a.s) (if isNum2 b.k = true then .empty else b.s)) (cmpI a.k b.k))))
theorem cmpK_is : IsCmp cmpK :=
  (IsCmp.int.on fun a : At => rankA a.k).lex ((IsCmp.int.on fun a : At => if isNum2 a.k = true then clsA a.k a.f else 0).lex
    ((IsCmp.int.on fun a : At => if isNum2 a.k = true then valA a.k a.n a.f else a.n).lex
      ((IsCmp.str.on fun a : At => if isNum2 a.k = true then .empty else a.s).lex (IsCmp.int.on fun a : At => a.k))))
theorem orI_assoc (x y z : Int) : orI (orI x y) z = orI x (orI y z) := by
  unfold orI
  repeat' split
  all_goals first | rfl | contradiction | (exfalso; omega)
theorem rank_num {k k' : Int} (h : cmpI (rankA k) (rankA k') = 0) (h1 : k ≠ 2 ∨ True) : rankA k = rankA k' := by
  unfold cmpI at h
  repeat' split at h
  all_goals omega
theorem isNum2_rank (k : Int) : isNum2 k = decide (rankA k = 2) := by
  unfold rankA isNum2
  by_cases h2 : k = 2
  · subst h2; rfl
  by_cases h3 : k = 3
  · subst h3; rfl
  · have e2 : (k == 2) = false := by simpa using h2
    have e3 : (k == 3) = false := by simpa using h3
    rw [e2, e3]
    simp [h2]
theorem cmpA_key {a b : At} (ha : a.Ok) (hb : b.Ok) : cmpA a b = cmpK a b := by
  unfold cmpA cmpK weighA
  by_cases hr : cmpI (rankA a.k) (rankA b.k) = 0
  · rw [if_neg (by simpa using hr), hr, orI_zero]
    have hrk := rank_num hr (.inr trivial)
    have hnum : isNum2 a.k = isNum2 b.k := by rw [isNum2_rank, isNum2_rank, hrk]
    rw [← hnum]
    by_cases hn : isNum2 a.k = true
    · rw [if_pos hn, weighN_lex ha hb]
      simp only [if_pos hn]
      rw [orI_assoc, IsCmp.str.self, orI_zero]
    · rw [if_neg hn]
      simp only [if_neg hn]
      rw [cmpI_zero rfl, orI_zero, orI_assoc]
  · rw [if_pos hr, orI_ne hr, orI_ne hr]

theorem listC_congr {α : Type} {c d : α → α → Int} : ∀ {l r : List α}, (∀ a ∈ l, ∀ b ∈ r, c a b = d a b) → listC c l r = listC d l r
  | [], [], _ => rfl
  | [], _ :: _, _ => rfl
  | _ :: _, [], _ => rfl
  | a :: l, b :: r, h => by
    simp only [listC]
    rw [h a (by simp) b (by simp), listC_congr (l := l) (r := r) fun x hx y hy => h x (by simp [hx]) y (by simp [hy])]

/-- The order of values, by keys. -/
def cmpVK (x y : At × List At) : Int := orI (cmpK x.1 y.1) (listC cmpK x.2 y.2)
theorem cmpVK_is : IsCmp cmpVK := (cmpK_is.on fun x : At × List At => x.1).lex (cmpK_is.list.on fun x : At × List At => x.2)
theorem cmpV_key {a b : At} {l r : List At} (ha : a.Ok) (hl : ∀ x ∈ l, x.Ok) (hb : b.Ok) (hr : ∀ x ∈ r, x.Ok) (va : validV a l = true) (vb : validV b r = true) : cmpV a l b r = cmpVK (a, l) (b, r) := by
  unfold cmpV cmpVK
  rw [if_pos ⟨va, vb⟩, cmpA_key ha hb, cmpLs_list, listC_congr fun x hx y hy => cmpA_key (hl x hx) (hr y hy)]

end Go.Proofs.YtinbdneajbommaaDoor

set_option linter.unusedVariables false
set_option maxRecDepth 100000
namespace Go.Proofs.YtinbdneajbommaaDoor
open Go.RowKit

theorem toList_data (s : ByteArray) : s.toList = s.data.toList := ByteArray.toList_eq s
theorem str_eq {s t : ByteArray} (h : s.toList = t.toList) : s = t := by
  rw [toList_data, toList_data] at h
  apply ByteArray.ext
  apply Array.ext'
  exact h
theorem sameA_iff (a b : At) : sameA a b = true ↔ a = b := by
  obtain ⟨k, n, f, s⟩ := a
  obtain ⟨k', n', g, t⟩ := b
  unfold sameA
  simp only [Bool.and_eq_true, beq_iff_eq, At.mk.injEq]
  exact ⟨fun h => ⟨h.1, h.2.1, by omega, str_eq h.2.2.2⟩, fun h => ⟨h.1, h.2.1, by omega, by rw [h.2.2.2]⟩⟩
theorem zip_same : ∀ {l r : List At}, l.length = r.length → ((l.zip r).all (fun p => sameA p.1 p.2) = true ↔ l = r)
  | [], [], _ => by simp
  | a :: l, b :: r, h => by
    have ih := zip_same (l := l) (r := r) (by simpa using h)
    simp only [List.zip_cons_cons, List.all_cons, Bool.and_eq_true, ih, sameA_iff, List.cons.injEq]
theorem sameV_iff (a b : At) (l r : List At) : sameV a l b r = true ↔ a = b ∧ l = r := by
  unfold sameV
  simp only [Bool.and_eq_true, decide_eq_true_eq, sameA_iff]
  constructor
  · rintro ⟨h1, h2, h3⟩
    exact ⟨h1, (zip_same h2).1 h3⟩
  · rintro ⟨h1, rfl⟩
    exact ⟨h1, rfl, (zip_same rfl).2 rfl⟩

theorem cmpI_eq {a b : Int} (h : cmpI a b = 0) : a = b := by
  unfold cmpI at h
  repeat' split at h
  all_goals omega
theorem orI_eq {x y : Int} (h : orI x y = 0) : x = 0 ∧ y = 0 := by
  unfold orI at h
  split at h
  · exact ⟨by assumption, h⟩
  · exact absurd h (by assumption)
theorem bytes_eq : ∀ {l r : List UInt8}, Lib.compareBytes l r = 0 → l = r
  | [], [], _ => rfl
  | [], _ :: _, h => by simp [Lib.compareBytes] at h
  | _ :: _, [], h => by simp [Lib.compareBytes] at h
  | a :: l, b :: r, h => by
    simp only [Lib.compareBytes] at h
    split at h
    · omega
    · split at h
      · omega
      · rename_i h1 h2
        rw [bytes_eq h]
        have e : a = b := by
          rw [UInt8.lt_iff_toNat_lt] at h1 h2
          exact UInt8.toNat_inj.1 (by omega)
        rw [e]
theorem cmpS_eq {s t : ByteArray} (h : cmpS s t = 0) : s = t := by
  have := bytes_eq h
  apply ByteArray.ext
  apply Array.ext'
  exact this

theorem canon_eq {f g : Nat} (hf : f < 18446744073709551616) (hg : g < 18446744073709551616) (cf : canonT f = true) (cg : canonT g = true) (h : keyB f = keyB g) : f = g := by
  unfold canonT at cf cg
  simp only [beq_iff_eq] at cf cg
  have h1 := uncB_keyB hf
  have h2 := uncB_keyB hg
  rw [h] at h1
  omega

/-- An atom, or a list's own. -/
def good (a : At) : Prop := a.valid = true ∨ (a.k = 6 ∧ validA 0 a.n a.f a.s = true)

theorem cmpK_eq {a b : At} (ha : a.Ok) (hb : b.Ok) (ga : good a) (gb : good b) (h : cmpK a b = 0) : a = b := by
  have hU : (0 : Int) < (U : Int) := by have := U_pos; omega
  unfold cmpK at h
  obtain ⟨_, h⟩ := orI_eq h
  obtain ⟨hc, h⟩ := orI_eq h
  obtain ⟨hv, h⟩ := orI_eq h
  obtain ⟨hs, h⟩ := orI_eq h
  have hk := cmpI_eq h
  have hc := cmpI_eq hc
  have hv := cmpI_eq hv
  have hs := cmpS_eq hs
  clear h
  obtain ⟨k, n, f, s⟩ := a
  obtain ⟨k', n', g, t⟩ := b
  simp only at hk hc hv hs
  subst hk
  have nil : ∀ {s t : ByteArray}, s.toList = [] → t.toList = [] → s = t := fun h1 h2 => str_eq (by rw [h1, h2])
  unfold good At.valid at ga gb
  simp only at ga gb
  have hk : k = 0 ∨ k = 1 ∨ k = 2 ∨ k = 3 ∨ k = 4 ∨ k = 5 ∨ k = 6 := by
    rcases ga with ga | ⟨ga, _⟩
    · apply Classical.byContradiction
      intro hno
      unfold validA at ga
      rw [if_neg (by omega), if_neg (by omega), if_neg (by omega), if_neg (by omega), if_neg (by omega)] at ga
      cases ga
    · omega
  rcases hk with rfl | rfl | rfl | rfl | rfl | rfl | rfl
  all_goals simp [validA, isNum2] at ga gb hc hv hs
  all_goals simp only [At.mk.injEq, true_and]
  · exact ⟨by omega, by omega, nil ga.2 gb.2⟩
  · exact ⟨hv, by omega, nil ga.2 gb.2⟩
  · refine ⟨?_, by omega, nil ga.2 gb.2⟩
    unfold valA at hv
    rw [if_neg (by decide), if_neg (by decide)] at hv
    exact Int.eq_of_mul_eq_mul_right (by omega) hv
  · refine ⟨by omega, ?_, nil ga.2 gb.2⟩
    refine canon_eq ha.f1 hb.f1 ga.1.2 gb.1.2 ?_
    have h1 := weighN_real ha.f1 hb.f1
    simp only at h1
    rw [hc, valA_n (n := n) (n' := 0) rfl] at *
    rw [valA_n (n := n') (n' := 0) rfl] at hv
    rw [hv, cmpI_zero rfl, cmpI_zero rfl, orI_zero] at h1
    have := cmpI_eq h1
    omega
  · exact ⟨by omega, by omega, hs⟩
  · exact ⟨by omega, by omega, hs⟩
  · exact ⟨by omega, by omega, nil ga.2 gb.2⟩

theorem cmpK_zero {a b : At} (ha : a.Ok) (hb : b.Ok) (ga : good a) (gb : good b) : cmpK a b = 0 ↔ a = b :=
  ⟨cmpK_eq ha hb ga gb, fun h => by rw [h]; exact cmpK_is.self b⟩
theorem listC_zero : ∀ {l r : List At}, (∀ x ∈ l, x.Ok ∧ x.valid = true) → (∀ x ∈ r, x.Ok ∧ x.valid = true) → (listC cmpK l r = 0 ↔ l = r)
  | [], [], _, _ => by simp [listC]
  | [], _ :: _, _, _ => by simp [listC]
  | _ :: _, [], _, _ => by simp [listC]
  | a :: l, b :: r, h1, h2 => by
    have ih := listC_zero (l := l) (r := r) (fun x hx => h1 x (by simp [hx])) (fun x hx => h2 x (by simp [hx]))
    have g1 := h1 a (by simp)
    have g2 := h2 b (by simp)
    have hz := cmpK_zero g1.1 g2.1 (.inl g1.2) (.inl g2.2)
    simp only [listC, List.cons.injEq]
    constructor
    · intro h
      obtain ⟨e1, e2⟩ := orI_eq h
      exact ⟨hz.1 e1, ih.1 e2⟩
    · rintro ⟨e1, e2⟩
      rw [hz.2 e1, ih.2 e2]
      rfl

theorem valid_good {a : At} {l : List At} (h : validV a l = true) : good a ∧ ∀ x ∈ l, x.valid = true := by
  unfold validV at h
  split at h
  · rename_i h6
    simp only [Bool.and_eq_true, Bool.not_eq_true', List.any_eq_false] at h
    refine ⟨.inr ⟨h6, h.1⟩, fun x hx => ?_⟩
    have := h.2.2 x hx
    simpa using this
  · simp only [Bool.and_eq_true, beq_iff_eq] at h
    refine ⟨.inl h.2, fun x hx => ?_⟩
    have hl := List.eq_nil_of_length_eq_zero (by omega : l.length = 0)
    subst hl
    cases hx

theorem cmpV_zero {a b : At} {l r : List At} (ha : a.Ok) (hl : ∀ x ∈ l, x.Ok) (hb : b.Ok) (hr : ∀ x ∈ r, x.Ok) (va : validV a l = true) (vb : validV b r = true) : cmpV a l b r = 0 ↔ sameV a l b r = true := by
  obtain ⟨g1, g2⟩ := valid_good va
  obtain ⟨g3, g4⟩ := valid_good vb
  rw [cmpV_key ha hl hb hr va vb, sameV_iff]
  unfold cmpVK
  constructor
  · intro h
    obtain ⟨e1, e2⟩ := orI_eq h
    exact ⟨cmpK_eq ha hb g1 g3 e1, (listC_zero (fun x hx => ⟨hl x hx, g2 x hx⟩) (fun x hx => ⟨hr x hx, g4 x hx⟩)).1 e2⟩
  · rintro ⟨e1, e2⟩
    rw [(cmpK_zero ha hb g1 g3).2 e1, (listC_zero (fun x hx => ⟨hl x hx, g2 x hx⟩) (fun x hx => ⟨hr x hx, g4 x hx⟩)).2 e2]
    rfl

theorem cmpN_rng (n : Int) (g : Nat) : cmpN n g = -1 ∨ cmpN n g = 0 ∨ cmpN n g = 1 := by
  unfold cmpN cmpI
  repeat' split
  all_goals omega
/-- What the order's walk asks. -/
def OrdF (x y z x' : Int) (u : Bool) : Prop := (x = -1 ∨ x = 0 ∨ x = 1) ∧ (y = -1 ∨ y = 0 ∨ y = 1) ∧ (z = -1 ∨ z = 0 ∨ z = 1) ∧ x' = -x ∧ (x = 0 ↔ u = true) ∧ (x ≤ 0 → y ≤ 0 → z ≤ 0) ∧ (x < 0 → y ≤ 0 → z < 0)
theorem cmpI_rng (a b : Int) : cmpI a b = -1 ∨ cmpI a b = 0 ∨ cmpI a b = 1 := by
  unfold cmpI
  repeat' split
  all_goals omega
theorem orI_rng {x y : Int} (h1 : x = -1 ∨ x = 0 ∨ x = 1) (h2 : y = -1 ∨ y = 0 ∨ y = 1) : orI x y = -1 ∨ orI x y = 0 ∨ orI x y = 1 := by
  unfold orI
  split <;> assumption
theorem listC_rng {α : Type} {c : α → α → Int} (h : ∀ a b, c a b = -1 ∨ c a b = 0 ∨ c a b = 1) : ∀ l r, listC c l r = -1 ∨ listC c l r = 0 ∨ listC c l r = 1
  | [], [] => .inr (.inl rfl)
  | [], _ :: _ => .inl rfl
  | _ :: _, [] => .inr (.inr rfl)
  | a :: l, b :: r => orI_rng (h a b) (listC_rng h l r)
theorem cmpS_rng (s t : ByteArray) : cmpS s t = -1 ∨ cmpS s t = 0 ∨ cmpS s t = 1 := by
  unfold cmpS
  rw [compareBytes_list]
  exact listC_rng (fun a b => cmpI_rng _ _) _ _
theorem cmpK_rng (a b : At) : cmpK a b = -1 ∨ cmpK a b = 0 ∨ cmpK a b = 1 :=
  orI_rng (cmpI_rng _ _) (orI_rng (cmpI_rng _ _) (orI_rng (cmpI_rng _ _) (orI_rng (cmpS_rng _ _) (cmpI_rng _ _))))
theorem cmpVK_rng (x y : At × List At) : cmpVK x y = -1 ∨ cmpVK x y = 0 ∨ cmpVK x y = 1 := orI_rng (cmpK_rng _ _) (listC_rng cmpK_rng _ _)
theorem ordF {w : World} {a b d : At} {q1 q2 q3 : Option Addr} {m1 c1 m2 c2 m3 c3 : Nat} {l r s : List At} (h1 : VaOk w a q1 m1 c1 l) (h2 : VaOk w b q2 m2 c2 r) (h3 : VaOk w d q3 m3 c3 s)
    (va : validV a l = true) (vb : validV b r = true) (vd : validV d s = true) : OrdF (cmpV a l b r) (cmpV b r d s) (cmpV a l d s) (cmpV b r a l) (sameV a l b r) := by
  have hz := cmpV_zero h1.ok h1.hok h2.ok h2.hok va vb
  rw [cmpV_key h1.ok h1.hok h2.ok h2.hok va vb] at hz ⊢
  rw [cmpV_key h2.ok h2.hok h3.ok h3.hok vb vd, cmpV_key h1.ok h1.hok h3.ok h3.hok va vd, cmpV_key h2.ok h2.hok h1.ok h1.hok vb va]
  exact ⟨cmpVK_rng _ _, cmpVK_rng _ _, cmpVK_rng _ _, cmpVK_is.anti _ _, hz, fun h1 h2 => (cmpVK_is.tr _ _ _ h1 h2).1, fun h1 h2 => (cmpVK_is.tr _ _ _ (by omega) h2).2.1 h1⟩
theorem cmpV_self {w : World} {a : At} {q : Option Addr} {m c : Nat} {l : List At} (h : VaOk w a q m c l) : cmpV a l a l = 0 := by
  by_cases hv : validV a l = true
  · rw [cmpV_key h.ok h.hok h.ok h.hok hv hv]
    exact cmpVK_is.self _
  · unfold cmpV
    rw [if_neg (fun h => hv h.1)]

end Go.Proofs.YtinbdneajbommaaDoor

