/-
  free, plain: counts of pages in use and waiting; and low bits of a number.
  Plain facts on pagers: the least free page, counts, what a disk's sectors have behind a commit.
  What PagerAborts says of a pager, plain.
-/
import Derived.Test.YtmlnpgbnbchbkaaDoorFrD
import Derived.Test.YtmlnpgbnbchbkaaDoorH21
import Derived.Test.YtmlnpgbnbchbkaaDoorH22
set_option linter.unusedVariables false
set_option linter.unusedSimpArgs false
set_option maxRecDepth 100000
namespace Go.Proofs.YtmlnpgbnbchbkaaDoor
open Go.RowKit

/-- The low bits of a number. -/
theorem andLow {n : Int} {M b : Nat} (hM : M = 2 ^ b - 1) (hb : b ≤ 11) : bits BinOp.and IntKind.i64 n (M : Int) = n % 2 ^ b := by
  have hlt : M < 18446744073709551616 := by
    have : 2 ^ b ≤ 2 ^ 11 := Nat.pow_le_pow_right (by decide) hb
    omega
  have h1 : (BitVec.ofInt 64 n).toNat = (n % 18446744073709551616).toNat := by
    rw [BitVec.toNat_ofInt]
    rfl
  have h2 : (BitVec.ofInt 64 (M : Int)).toNat = M := by
    rw [BitVec.ofInt_natCast, BitVec.toNat_ofNat]
    exact Nat.mod_eq_of_lt hlt
  have h3 : bits BinOp.and IntKind.i64 n (M : Int) = IntKind.i64.wrap (((BitVec.ofInt 64 n &&& BitVec.ofInt 64 (M : Int)).toNat : Nat) : Int) := rfl
  rw [h3, BitVec.toNat_and, h1, h2, hM, Nat.and_two_pow_sub_one_eq_mod, IntKind.wrap_i64]
  have hcases : b = 0 ∨ b = 1 ∨ b = 2 ∨ b = 3 ∨ b = 4 ∨ b = 5 ∨ b = 6 ∨ b = 7 ∨ b = 8 ∨ b = 9 ∨ b = 10 ∨ b = 11 := by omega
  clear h1 h2 h3 hlt hM
  rcases hcases with rfl | rfl | rfl | rfl | rfl | rfl | rfl | rfl | rfl | rfl | rfl | rfl <;> omega
theorem and7 (x : Int) : bits BinOp.and IntKind.i64 x 7 = x % 8 := andLow (M := 7) (b := 3) rfl (by omega)
theorem and15 (x : Int) : bits BinOp.and IntKind.i64 x 15 = x % 16 := andLow (M := 15) (b := 4) rfl (by omega)
theorem and31 (x : Int) : bits BinOp.and IntKind.i64 x 31 = x % 32 := andLow (M := 31) (b := 5) rfl (by omega)

theorem FL.back_used {F : FL} (h : F.Ok) (such : Int → Bool) : (F.back such).nUsed = F.nUsed + F.nSuch such := by
  unfold FL.nUsed FL.nSuch
  show List.countP _ F.pages = List.countP _ F.pages + _
  induction F.pages with
  | nil => rfl
  | cons x l ih =>
    simp only [List.countP_cons, ih]
    cases hu : F.used x
    · cases hw : F.waits x with
      | none => simp [FL.back, hu, hw]
      | some g => cases hg : such g <;> simp [FL.back, hu, hw, hg] <;> omega
    · have := h.ha hu
      simp [FL.back, hu, this]
      omega
theorem FL.back_waits (F : FL) (such : Int → Bool) : (F.back such).nWaits = (F.leave such).nWaits := rfl
theorem FL.back_such (F : FL) (such s2 : Int → Bool) : (F.back such).nSuch s2 = (F.leave such).nSuch s2 := rfl
theorem FL.leave_used (F : FL) (such : Int → Bool) : (F.leave such).nUsed = F.nUsed := rfl
theorem FL.leave_such (F : FL) (s1 s2 : Int → Bool) : (F.leave s1).nSuch s2 = F.nSuch fun g => !s1 g && s2 g := by
  unfold FL.nSuch
  show List.countP _ F.pages = _
  refine List.countP_congr fun x _ => ?_
  cases hw : F.waits x with
  | none => simp [FL.leave, hw]
  | some g => cases h1 : s1 g <;> simp [FL.leave, hw, h1]
theorem FL.such_none {F : FL} {such : Int → Bool} (h : ∀ g, such g = false) : F.nSuch such = 0 := by
  unfold FL.nSuch
  rw [List.countP_eq_zero]
  intro x _
  cases hw : F.waits x <;> simp [h]

theorem FL.same {F G : FL} (h1 : F.lo = G.lo) (h2 : F.hi = G.hi) (h3 : ∀ x, F.used x = G.used x) (h4 : ∀ x, F.waits x = G.waits x) : F = G := by
  obtain ⟨a, b, c, d⟩ := F
  obtain ⟨a', b', c', d'⟩ := G
  obtain rfl : a = a' := h1
  obtain rfl : b = b' := h2
  obtain rfl : c = c' := funext h3
  obtain rfl : d = d' := funext h4
  rfl

/-- The first pages wait, those behind them are in use: of n pages from 0 on. -/
def FL.row (n : Nat) (L : List Int) : FL := ⟨0, n, fun x => decide ((L.length : Int) ≤ x) && decide (x < n), fun x => if 0 ≤ x then L[x.toNat]? else none⟩

theorem FL.row_ok {n : Nat} {L : List Int} (hn : n ≤ 4096) (hL : L.length ≤ n) : (FL.row n L).Ok := by
  refine ⟨Int.le_refl _, by show (0 : Int) ≤ n; omega, by show (n : Int) ≤ 4096; omega, fun {x} hx => ?_, fun {x} hx => ?_, fun {x} hx => ?_⟩
  · simp only [FL.row, Bool.and_eq_true, decide_eq_true_eq] at hx ⊢
    omega
  · simp only [FL.row] at hx ⊢
    by_cases h : 0 ≤ x
    · rw [if_pos h] at hx
      obtain ⟨v, hv⟩ := Option.isSome_iff_exists.1 hx
      have := (List.getElem?_eq_some_iff.1 hv).1
      omega
    · rw [if_neg h] at hx; cases hx
  · simp only [FL.row, Bool.and_eq_true, decide_eq_true_eq] at hx ⊢
    rw [if_pos (by omega)]
    exact List.getElem?_eq_none (by omega)

theorem FL.row_pages (n : Nat) (L : List Int) : (FL.row n L).pages = (List.range n).map fun (i : Nat) => (i : Int) := by
  unfold FL.pages FL.row
  simp

theorem FL.row_such (n : Nat) {L : List Int} (such : Int → Bool) : L.length ≤ n → (FL.row n L).nSuch such = L.countP such := by
  intro hL
  unfold FL.nSuch
  rw [FL.row_pages, List.countP_map]
  have : ∀ m, (List.range m).countP ((fun k => match (FL.row n L).waits k with | some g => such g | none => false) ∘ fun (i : Nat) => (i : Int)) = (L.take m).countP such := by
    intro m
    induction m with
    | zero => rfl
    | succ m ih =>
      rw [List.range_succ, List.countP_append, ih, List.take_add_one, List.countP_append]
      congr 1
      have e : (FL.row n L).waits (m : Int) = L[m]? := by simp [FL.row]
      cases hm : L[m]? with
      | none => simp [List.countP_cons, e, hm]
      | some g => simp [List.countP_cons, e, hm]
  refine (this n).trans ?_
  rw [List.take_of_length_le hL]
theorem FL.row_waits (n : Nat) {L : List Int} (hL : L.length ≤ n) : (FL.row n L).nWaits = L.length := by
  have h := FL.row_such n (fun _ => true) hL
  rw [List.countP_true] at h
  rw [← h]
  unfold FL.nWaits FL.nSuch
  refine List.countP_congr fun x _ => ?_
  cases (FL.row n L).waits x <;> simp
theorem FL.row_used {n : Nat} {L : List Int} (hL : L.length ≤ n) : (FL.row n L).nUsed = n - L.length := by
  unfold FL.nUsed
  rw [FL.row_pages, List.countP_map]
  have : ∀ m, m ≤ n → (List.range m).countP ((FL.row n L).used ∘ fun (i : Nat) => (i : Int)) = m - L.length := by
    intro m
    induction m with
    | zero => intro _; simp
    | succ m ih =>
      intro hm
      rw [List.range_succ, List.countP_append, ih (by omega)]
      by_cases h : L.length ≤ m
      · have e : (FL.row n L).used (m : Int) = true := by
          simp only [FL.row, Bool.and_eq_true, decide_eq_true_eq]
          omega
        simp [List.countP_cons, e]
        omega
      · have e : (FL.row n L).used (m : Int) = false := by
          simp only [FL.row, Bool.and_eq_false_iff, decide_eq_false_iff_not]
          omega
        simp [List.countP_cons, e]
        omega
  exact this n (Nat.le_refl _)
theorem FL.row_late {n : Nat} {L : List Int} (g : Int) : (FL.row n L).late L.length g = FL.row n (L ++ [g]) := by
  refine FL.same rfl rfl (fun x => ?_) (fun x => ?_)
  · show (if x = (L.length : Int) then false else (decide ((L.length : Int) ≤ x) && decide (x < n))) = (decide (((L ++ [g]).length : Int) ≤ x) && decide (x < n))
    by_cases hx : x = L.length
    · subst hx
      simp
      omega
    · simp only [hx, if_false, List.length_append, List.length_singleton]
      congr 1
      simp only [decide_eq_decide]
      omega
  · show (if x = (L.length : Int) then some g else if 0 ≤ x then L[x.toNat]? else none) = if 0 ≤ x then (L ++ [g])[x.toNat]? else none
    by_cases hx : x = L.length
    · subst hx
      simp
    · simp only [hx, if_false]
      by_cases h0 : 0 ≤ x
      · simp only [h0, if_true]
        by_cases h1 : x < L.length
        · rw [List.getElem?_append_left (by omega)]
        · rw [List.getElem?_eq_none (by omega), List.getElem?_eq_none (by simp; omega)]
      · simp only [h0, if_false]
theorem FL.row_st {n : Nat} {L : List Int} (hL : L.length < n) : (FL.row n L).has L.length = true ∧ (FL.row n L).st L.length = 2 := by
  have h1 : (FL.row n L).has L.length = true := by
    rw [FL.has_iff]
    simp only [FL.row]
    omega
  refine ⟨h1, FL.st_two.2 ⟨h1, ?_⟩⟩
  simp only [FL.row, Bool.and_eq_true, decide_eq_true_eq]
  omega

/-- The first i of n pages are in use, none waits. -/
def FL.upto (n i : Nat) : FL := ⟨0, n, fun x => decide (0 ≤ x) && decide (x < i), fun _ => none⟩
theorem FL.upto_zero (n : Nat) : FL.upto n 0 = FL.new 0 n := by
  unfold FL.upto FL.new
  congr 1
  funext x
  by_cases h : 0 ≤ x
  · simp [h]
  · simp [h]
theorem FL.upto_all (n : Nat) : FL.upto n n = FL.row n [] := by
  unfold FL.upto FL.row
  congr 1
  funext x
  by_cases h : 0 ≤ x <;> simp [h]
theorem FL.upto_least {n i : Nat} (hi : i < n) : (FL.upto n i).least = some (i : Int) := by
  have hst : ∀ k : Int, 0 ≤ k → k < n → (FL.upto n i).st k = if k < i then 2 else 1 := by
    intro k h0 h1
    have hh : (FL.upto n i).has k = true := FL.has_iff.2 ⟨h0, h1⟩
    unfold FL.st
    rw [hh]
    by_cases hk : k < i
    · simp [FL.upto, hk, h0]
    · simp [FL.upto, hk]
  cases hl : (FL.upto n i).least with
  | none =>
    have := FL.least_none hl (i : Int)
    rw [hst i (by omega) (by omega)] at this
    simp at this
  | some k =>
    obtain ⟨h1, h2⟩ := FL.least_some hl
    have hk : (FL.upto n i).has k = true := by
      cases hh : (FL.upto n i).has k
      · simp [FL.st, hh] at h1
      · rfl
    have hk2 := FL.has_iff.1 hk
    have hk3 : 0 ≤ k ∧ k < n := hk2
    rw [hst k hk3.1 hk3.2] at h1
    by_cases hki : k < i
    · rw [if_pos hki] at h1; cases h1
    · by_cases e : k = i
      · rw [e]
      · exfalso
        refine h2 i (by show (0 : Int) ≤ i; omega) (by omega) ?_
        rw [hst i (by omega) (by omega), if_neg (by omega)]
theorem FL.upto_alloc {n i : Nat} (hi : i < n) : (FL.upto n i).alloc = FL.upto n (i + 1) ∧ (FL.upto n i).allocV = .tuple #[.int .i64 i, .int .i64 0] := by
  unfold FL.alloc FL.allocV
  rw [FL.upto_least hi]
  refine ⟨?_, rfl⟩
  show (FL.upto n i).take i = _
  unfold FL.take FL.upto
  congr 1
  funext x
  by_cases hx : x = i
  · subst hx
    simp
    omega
  · simp only [hx, if_false]
    congr 1
    simp only [decide_eq_decide]
    omega

end Go.Proofs.YtmlnpgbnbchbkaaDoor

set_option linter.unusedVariables false
set_option maxRecDepth 100000
namespace Go.Proofs.YtmlnpgbnbchbkaaDoor
open Go.RowKit

theorem FL.least_is {F : FL} {k : Int} (h : F.st k = 1) (hb : ∀ i, F.lo ≤ i → i < k → F.st i ≠ 1) : F.least = some k := by
  cases hl : F.least with
  | none => exact absurd h (FL.least_none hl k)
  | some j =>
    obtain ⟨h1, h2⟩ := FL.least_some hl
    obtain ⟨_, _, h3, _⟩ := FL.free_used h1
    obtain ⟨_, _, h4, _⟩ := FL.free_used h
    rcases Int.lt_trichotomy j k with h5 | h5 | h5
    · exact absurd h1 (hb j h3 h5)
    · rw [h5]
    · exact absurd h (h2 k h4 h5)

theorem countP_list {l m : List Int} (p : Int → Bool) (hl : l.Nodup) (hm : m.Nodup) (h : ∀ k, k ∈ m ↔ (k ∈ l ∧ p k = true)) : l.countP p = m.length := by
  rw [List.countP_eq_length_filter]
  refine List.Perm.length_eq ?_
  refine (List.perm_ext_iff_of_nodup (hl.filter _) hm).2 fun k => ?_
  rw [List.mem_filter, h]
theorem FL.Ok.used_len {F : FL} (h : F.Ok) {m : List Int} (hm : m.Nodup) (hu : ∀ k, k ∈ m ↔ F.used k = true) : F.nUsed = m.length :=
  countP_list _ F.pages_nodup hm fun k => by
    rw [hu, FL.mem_pages]
    exact ⟨fun hk => ⟨h.hu hk, hk⟩, fun hk => hk.2⟩
theorem FL.no_waits {F : FL} (h : ∀ k, F.waits k = none) : F.nWaits = 0 := by
  unfold FL.nWaits
  rw [List.countP_eq_zero]
  intro k _
  simp [h k]

/-- The whole numbers from a one on, so many. -/
def upFrom (a : Int) (n : Nat) : List Int := (List.range n).map fun (i : Nat) => a + (i : Int)
theorem upFrom_length (a : Int) (n : Nat) : (upFrom a n).length = n := by simp [upFrom]
theorem upFrom_nodup (a : Int) (n : Nat) : (upFrom a n).Nodup := by
  refine List.pairwise_map.2 (List.Pairwise.imp ?_ List.nodup_range)
  intro i j h e
  omega
theorem mem_upFrom {a : Int} {n : Nat} {k : Int} : k ∈ upFrom a n ↔ a ≤ k ∧ k < a + n := by
  simp only [upFrom, List.mem_map, List.mem_range]
  constructor
  · rintro ⟨i, hi, rfl⟩
    omega
  · rintro ⟨h1, h2⟩
    exact ⟨(k - a).toNat, by omega, by omega⟩

theorem PG.comS_read (X : PG) (r n d : Nat) {k : Int} (hk : 2 ≤ k) : (X.comS r n d).read k = X.S.read k := by
  unfold PG.comS
  rw [SD.flush_read, SD.write_read, if_neg (by omega), SD.flush_read]
theorem PG.comS_left {X : PG} (h : X.S.left = -1) (r n d : Nat) : (X.comS r n d).left = -1 :=
  SD.tick_left (S := X.S.flush.write _ _) (SD.tick_left (S := X.S.flush) (SD.tick_left h))
theorem PG.comS_ops (X : PG) (r n d : Nat) : (X.comS r n d).ops = X.S.ops + 3 := by
  show X.S.ops + 1 + 1 + 1 = _
  omega
theorem PG.comS_size (X : PG) (r n d : Nat) : (X.comS r n d).size = X.S.size := rfl
theorem PG.lay_read (X : PG) {k : Int} {pg : List UInt8} (hp : pg.length = 512) (j : Int) : (X.lay k pg).S.read j = if j = k then pg else X.S.read j := by
  show (X.S.write k pg).read j = _
  rw [SD.write_read, pad_same hp]

theorem FL.leave_of_none {F : FL} (h : ∀ k, F.waits k = none) (such : Int → Bool) : F.leave such = F := by
  obtain ⟨lo, hi, u, ws⟩ := F
  simp only [FL.leave, FL.mk.injEq, true_and]
  funext x
  have := h x
  simp only at this
  rw [this]

end Go.Proofs.YtmlnpgbnbchbkaaDoor

set_option linter.unusedVariables false
set_option maxRecDepth 100000
namespace Go.Proofs.YtmlnpgbnbchbkaaDoor
open Go.RowKit

/-- The page of a round. -/
def abPage (j : Nat) : List UInt8 := pageB 5 (2 + j) 3 [UInt8.ofNat j]
theorem abPage_length (j : Nat) : (abPage j).length = 512 := pageB_length (by simp)

/-- What stays through the law; m pages are there to be read. -/
structure AbC (X : PG) (g m : Nat) (ops : Int) : Prop where
  lo : X.F.lo = 2
  hi : X.F.hi = 60
  g : X.g = g
  n : X.n = 1
  d : X.d = 1
  fl : X.failed = false
  ps : X.pins = []
  left : X.S.left = -1
  ops : X.S.ops ≤ ops
  size : X.S.size = 60
  rd : ∀ j, j < m → X.S.read ((2 + j : Nat) : Int) = abPage j

/-- i pages are in use, none waits; all are laid, or none. -/
structure AbX (X : PG) (g i : Nat) (fl : Bool) (ops : Int) : Prop where
  c : AbC X g i ops
  us : ∀ x, X.F.used x = (decide (2 ≤ x) && decide (x < 2 + (i : Int)))
  ws : ∀ x, X.F.waits x = none
  L : ∀ x, X.L x = (fl && (decide (2 ≤ x) && decide (x < 2 + (i : Int))))

theorem AbX.least {X : PG} {g i : Nat} {fl : Bool} {ops : Int} (h : AbX X g i fl ops) (hi : i < 50) : X.F.least = some ((2 + i : Nat) : Int) := by
  refine FL.least_is ?_ fun j h1 h2 h3 => ?_
  · unfold FL.st FL.has
    rw [h.us, h.ws, h.c.lo, h.c.hi]
    have a1 : decide ((2 : Int) ≤ ((2 + i : Nat) : Int)) = true := decide_eq_true (by omega)
    have a2 : decide (((2 + i : Nat) : Int) < 60) = true := decide_eq_true (by omega)
    have a3 : decide (((2 + i : Nat) : Int) < 2 + (i : Int)) = false := decide_eq_false (by omega)
    rw [a1, a2, a3]
    rfl
  · obtain ⟨h4, _⟩ := FL.free_used h3
    rw [h.us, h.c.lo] at *
    have a1 : decide ((2 : Int) ≤ j) = true := decide_eq_true (by have := h.c.lo; omega)
    have a2 : decide (j < 2 + (i : Int)) = true := decide_eq_true (by omega)
    rw [a1, a2] at h4
    cases h4
theorem AbX.st {X : PG} {g i : Nat} {fl : Bool} {ops : Int} (h : AbX X g i fl ops) {j : Nat} (hj : j < i) (hi : i < 50) : X.F.st ((2 + j : Nat) : Int) = 2 := by
  refine FL.st_two.2 ⟨FL.has_iff.2 ?_, ?_⟩
  · rw [h.c.lo, h.c.hi]; omega
  · rw [h.us, decide_eq_true (show (2 : Int) ≤ ((2 + j : Nat) : Int) by omega), decide_eq_true (show ((2 + j : Nat) : Int) < 2 + (i : Int) by omega)]
    rfl

theorem AbX.lay {X : PG} {i : Nat} {ops : Int} (h : AbX X 2 i true ops) {pg : List UInt8} (hp : pg = abPage i) : AbX (X.lay ((2 + i : Nat) : Int) pg) 2 (i + 1) true (ops + 1) := by
  obtain ⟨⟨c1, c2, c3, c4, c5, c6, c7, c8, c9, c10, c11⟩, h2, h3, h4⟩ := h
  have hl : pg.length = 512 := by rw [hp]; exact abPage_length i
  refine ⟨⟨c1, c2, c3, c4, c5, c6, c7, SD.tick_left c8, by show X.S.ops + 1 ≤ _; omega, c10, fun j hj => ?_⟩, fun x => ?_, h3, fun x => ?_⟩
  · rw [PG.lay_read X hl]
    by_cases hji : j = i
    · rw [if_pos (by omega), hp, hji]
    · rw [if_neg (by omega)]
      exact c11 j (by omega)
  · show (if x = ((2 + i : Nat) : Int) then true else X.F.used x) = _
    rw [h2]
    by_cases hx : x = ((2 + i : Nat) : Int)
    · rw [if_pos hx, decide_eq_true (by omega), decide_eq_true (by omega)]; rfl
    · rw [if_neg hx]
      by_cases h1 : x < 2 + (i : Int)
      · rw [decide_eq_true h1, decide_eq_true (show x < 2 + ((i + 1 : Nat) : Int) by omega)]
      · rw [decide_eq_false h1, decide_eq_false (show ¬ x < 2 + ((i + 1 : Nat) : Int) by omega)]
  · show (if x = ((2 + i : Nat) : Int) then true else X.L x) = _
    rw [h4]
    by_cases hx : x = ((2 + i : Nat) : Int)
    · rw [if_pos hx, decide_eq_true (by omega), decide_eq_true (by omega)]; rfl
    · rw [if_neg hx]
      by_cases h1 : x < 2 + (i : Int)
      · rw [decide_eq_true h1, decide_eq_true (show x < 2 + ((i + 1 : Nat) : Int) by omega)]
      · rw [decide_eq_false h1, decide_eq_false (show ¬ x < 2 + ((i + 1 : Nat) : Int) by omega)]

theorem AbX.follows {X : PG} {i : Nat} {ops : Int} (h : AbX X 2 i true ops) (h1 : 1 ≤ i) (hi : i < 50) : Follows X 2 1 1 := by
  refine ⟨.inr ⟨by decide, ?_⟩, ?_, by rw [h.c.n]; decide, by rw [h.c.d]; decide⟩
  · exact h.st (j := 0) (by omega) hi
  · rw [h.c.g]
    exact MRight.mk' (by omega)

theorem AbX.commit {X : PG} {i : Nat} {ops : Int} (h : AbX X 2 i true ops) : AbX (X.commit 2 1 1) 3 i false (ops + 3) := by
  obtain ⟨⟨c1, c2, c3, c4, c5, c6, c7, c8, c9, c10, c11⟩, h2, h3, h4⟩ := h
  have e : (X.commit 2 1 1).F = X.F := FL.leave_of_none (F := X.F) h3 _
  refine ⟨⟨by rw [e]; exact c1, by rw [e]; exact c2, by show X.g + 1 = 3; omega, rfl, rfl, c6, c7, PG.comS_left c8 _ _ _, ?_, c10, fun j hj => ?_⟩, fun x => by rw [e]; exact h2 x, fun x => by rw [e]; exact h3 x, fun x => rfl⟩
  · show (X.comS 2 1 1).ops ≤ _
    rw [PG.comS_ops]
    omega
  · show (X.comS 2 1 1).read _ = _
    rw [PG.comS_read X 2 1 1 (by omega)]
    exact c11 j hj

/-- One page more was laid, and some were dropped. -/
structure AbD (X : PG) (i : Nat) (ops : Int) : Prop where
  c : AbC X 3 i ops
  L : ∀ x, X.L x = true → x = 2 + (i : Int) ∧ X.F.used x = true
  us : ∀ x, X.F.used x = true → 2 ≤ x ∧ x ≤ 2 + (i : Int) ∧ (x = 2 + (i : Int) → X.L x = true)
  al : ∀ x, 2 ≤ x → x < 2 + (i : Int) → X.F.used x = true ∨ X.F.waits x = some 4
  ws : ∀ x g, X.F.waits x = some g → g = 4 ∧ 2 ≤ x ∧ x < 2 + (i : Int)

theorem AbX.lay2 {X : PG} {i : Nat} {ops : Int} (h : AbX X 3 i false ops) {pg : List UInt8} (hl : pg.length = 512) : AbD (X.lay ((2 + i : Nat) : Int) pg) i (ops + 1) := by
  obtain ⟨⟨c1, c2, c3, c4, c5, c6, c7, c8, c9, c10, c11⟩, h2, h3, h4⟩ := h
  have hu : ∀ x, (X.lay ((2 + i : Nat) : Int) pg).F.used x = if x = ((2 + i : Nat) : Int) then true else X.F.used x := fun x => rfl
  have hL : ∀ x, (X.lay ((2 + i : Nat) : Int) pg).L x = if x = ((2 + i : Nat) : Int) then true else X.L x := fun x => rfl
  refine ⟨⟨c1, c2, c3, c4, c5, c6, c7, SD.tick_left c8, by show X.S.ops + 1 ≤ _; omega, c10, fun j hj => ?_⟩, fun x hx => ?_, fun x hx => ?_, fun x h1 h5 => ?_, fun x g hx => ?_⟩
  · rw [PG.lay_read X hl, if_neg (by omega)]
    exact c11 j hj
  · rw [hL] at hx
    by_cases e : x = ((2 + i : Nat) : Int)
    · exact ⟨by omega, by rw [hu, if_pos e]⟩
    · rw [if_neg e, h4] at hx
      cases hx
  · rw [hu] at hx
    by_cases e : x = ((2 + i : Nat) : Int)
    · exact ⟨by omega, by omega, fun _ => by rw [hL, if_pos e]⟩
    · rw [if_neg e, h2, Bool.and_eq_true, decide_eq_true_iff, decide_eq_true_iff] at hx
      exact ⟨hx.1, by omega, fun h => by omega⟩
  · left
    rw [hu]
    split
    · rfl
    · rw [h2, decide_eq_true h1, decide_eq_true h5]; rfl
  · have h6 : X.F.waits x = some g := hx
    rw [h3] at h6
    cases h6

theorem AbD.drop {X : PG} {i : Nat} {ops : Int} (h : AbD X i ops) (k : Int) : AbD (X.drop k) i ops := by
  obtain ⟨⟨c1, c2, c3, c4, c5, c6, c7, c8, c9, c10, c11⟩, h2, h3, h4, h5⟩ := h
  unfold PG.drop
  by_cases hL : X.L k = true
  · rw [if_pos hL]
    obtain ⟨hk, _⟩ := h2 k hL
    refine ⟨⟨c1, c2, c3, c4, c5, c6, c7, c8, c9, c10, c11⟩, fun x hx => ?_, fun x hx => ?_, fun x a1 a2 => ?_, h5⟩
    · simp only [FL.drop] at hx ⊢
      by_cases e : x = k
      · simp [e] at hx
      · simp only [e, if_false] at hx ⊢; exact h2 x hx
    · simp only [FL.drop] at hx ⊢
      by_cases e : x = k
      · simp [e] at hx
      · simp only [e, if_false] at hx ⊢; exact h3 x hx
    · simp only [FL.drop]
      rw [if_neg (by omega)]
      exact h4 x a1 a2
  · rw [if_neg hL]
    by_cases hs : X.F.st k = 2
    · rw [if_pos hs]
      obtain ⟨_, hu⟩ := FL.st_two.1 hs
      obtain ⟨k1, k2, k3⟩ := h3 k hu
      have hk : k < 2 + (i : Int) := by
        rcases Int.lt_or_eq_of_le k2 with h | h
        · exact h
        · exact absurd (k3 h) hL
      refine ⟨⟨c1, c2, c3, c4, c5, c6, c7, c8, c9, c10, c11⟩, fun x hx => ?_, fun x hx => ?_, fun x a1 a2 => ?_, fun x g hx => ?_⟩
      · obtain ⟨a1, a2⟩ := h2 x hx
        refine ⟨a1, ?_⟩
        simp only [FL.late, FL.drop]
        rw [if_neg (by omega)]
        exact a2
      · simp only [FL.late, FL.drop] at hx
        by_cases e : x = k
        · simp [e] at hx
        · simp only [e, if_false] at hx; exact h3 x hx
      · simp only [FL.late, FL.drop]
        by_cases e : x = k
        · right; rw [if_pos e, c3]; rfl
        · rw [if_neg e, if_neg e]; exact h4 x a1 a2
      · simp only [FL.late, FL.drop] at hx
        by_cases e : x = k
        · rw [if_pos e, c3] at hx
          cases hx
          exact ⟨rfl, by omega, by omega⟩
        · rw [if_neg e] at hx; exact h5 x g hx
    · rw [if_neg hs]
      exact ⟨⟨c1, c2, c3, c4, c5, c6, c7, c8, c9, c10, c11⟩, h2, h3, h4, h5⟩
theorem AbD.laid {X : PG} {i : Nat} {ops : Int} (h : AbD X i ops) (hi : i < 50) (k : Int) (hk : X.L k = true) : X.F.st k = 2 := by
  obtain ⟨h1, h2⟩ := h.L k hk
  exact FL.st_two.2 ⟨FL.has_iff.2 (by rw [h.c.lo, h.c.hi]; omega), h2⟩

theorem AbD.abort {X : PG} {i : Nat} {ops : Int} (h : AbD X i ops) : AbX X.abort 3 i false ops := by
  obtain ⟨⟨c1, c2, c3, c4, c5, c6, c7, c8, c9, c10, c11⟩, h2, h3, h4, h5⟩ := h
  have hg : ((X.g : Nat) : Int) + 1 = 4 := by rw [c3]; rfl
  refine ⟨⟨c1, c2, c3, c4, c5, c6, c7, c8, c9, c10, c11⟩, fun x => ?_, fun x => ?_, fun x => rfl⟩
  · show ((X.F.used x && !X.L x) || (match X.F.waits x with | some g => g == (X.g : Int) + 1 | none => false)) = _
    rw [hg]
    by_cases hx : 2 ≤ x ∧ x < 2 + (i : Int)
    · rw [decide_eq_true hx.1, decide_eq_true hx.2]
      rcases h4 x hx.1 hx.2 with h6 | h6
      · have hL : X.L x = false := by
          cases hL : X.L x
          · rfl
          · have := (h2 x hL).1; omega
        rw [h6, hL]; rfl
      · rw [h6]; simp
    · have e : (decide (2 ≤ x) && decide (x < 2 + (i : Int))) = false := by
        rw [Bool.and_eq_false_iff, decide_eq_false_iff_not, decide_eq_false_iff_not]
        omega
      rw [e]
      have hw : X.F.waits x = none := by
        cases hw : X.F.waits x with
        | none => rfl
        | some g => exact absurd (h5 x g hw).2 hx
      rw [hw]
      cases hu : X.F.used x
      · rfl
      · obtain ⟨a1, a2, a3⟩ := h3 x hu
        rw [a3 (by omega)]
        rfl
  · show (match X.F.waits x with | some g => if (g == (X.g : Int) + 1) then none else some g | none => none) = none
    rw [hg]
    cases hw : X.F.waits x with
    | none => rfl
    | some g =>
      obtain ⟨rfl, _⟩ := h5 x g hw
      rfl

theorem AbX.counts {X : PG} {g i : Nat} {fl : Bool} {ops : Int} (h : AbX X g i fl ops) (hF : X.F.Ok) : X.F.nUsed = i ∧ X.F.nWaits = 0 := by
  refine ⟨?_, FL.no_waits h.ws⟩
  rw [hF.used_len (upFrom_nodup 2 i) fun k => ?_, upFrom_length]
  rw [mem_upFrom, h.us, Bool.and_eq_true, decide_eq_true_iff, decide_eq_true_iff]

theorem AbX.new {S : SD} (hz : S.size = 60) (hl : S.left = -1) (ho : S.ops ≤ 10) : AbX (PG.new S 2 0 1 1) 2 0 true 10 := by
  refine ⟨⟨rfl, hz, rfl, rfl, rfl, rfl, rfl, hl, ho, hz, fun j hj => by omega⟩, fun x => ?_, fun x => rfl, fun x => ?_⟩
  · show false = _
    by_cases h1 : (2 : Int) ≤ x
    · rw [decide_eq_false (show ¬ x < 2 + ((0 : Nat) : Int) by omega)]; simp
    · rw [decide_eq_false h1]; rfl
  · show false = _
    by_cases h1 : (2 : Int) ≤ x
    · rw [decide_eq_false (show ¬ x < 2 + ((0 : Nat) : Int) by omega)]; simp
    · rw [decide_eq_false h1]; rfl

end Go.Proofs.YtmlnpgbnbchbkaaDoor

