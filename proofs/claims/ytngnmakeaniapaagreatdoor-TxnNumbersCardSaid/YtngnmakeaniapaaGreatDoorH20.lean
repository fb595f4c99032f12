/-
  free, plain: counts of pages in use and waiting; and low bits of a number.
  tree: a look (LookAt: the pager, and the map of the pages that were read); made, lookAt, look.page.
  node.Child, Entry, val, Size: contracts.
-/
import Derived.Test.YtngnmakeaniapaaGreatDoorH09
import Derived.Test.YtngnmakeaniapaaGreatDoorH19
import Derived.Test.YtngnmakeaniapaaGreatDoorH16
import Derived.Deep.QuietTactic
import Derived.BigQuiet
set_option linter.unusedVariables false
set_option linter.unusedSimpArgs false
set_option maxRecDepth 100000
namespace Go.Proofs.YtngnmakeaniapaaGreatDoor
open Go.RowKit

/-- The low bits of a number. -/
theorem andLow {n : Int} {M b : Nat} (hM : M = 2 ^ b - 1) (hb : b ≤ 11) : bits BinOp.and IntKind.i64 n (M : Int) = n % 2 ^ b := by
  have hlt : M < 18446744073709551616 := by
    have : 2 ^ b ≤ 2 ^ 11 := Nat.pow_le_pow_right (by decide) hb
    omega
  have h1 : (BitVec.ofInt 64 n).toNat = (n % 18446744073709551616).toNat := by
    rw [BitVec.toNat_ofInt]
    rfl
  have h2 : (BitVec.ofInt 64 (M : Int)).toNat = M := by
    rw [BitVec.ofInt_natCast, BitVec.toNat_ofNat]
    exact Nat.mod_eq_of_lt hlt
  have h3 : bits BinOp.and IntKind.i64 n (M : Int) = IntKind.i64.wrap (((BitVec.ofInt 64 n &&& BitVec.ofInt 64 (M : Int)).toNat : Nat) : Int) := rfl
  rw [h3, BitVec.toNat_and, h1, h2, hM, Nat.and_two_pow_sub_one_eq_mod, IntKind.wrap_i64]
  have hcases : b = 0 ∨ b = 1 ∨ b = 2 ∨ b = 3 ∨ b = 4 ∨ b = 5 ∨ b = 6 ∨ b = 7 ∨ b = 8 ∨ b = 9 ∨ b = 10 ∨ b = 11 := by omega
  clear h1 h2 h3 hlt hM
  rcases hcases with rfl | rfl | rfl | rfl | rfl | rfl | rfl | rfl | rfl | rfl | rfl | rfl <;> omega
theorem and7 (x : Int) : bits BinOp.and IntKind.i64 x 7 = x % 8 := andLow (M := 7) (b := 3) rfl (by omega)
theorem and15 (x : Int) : bits BinOp.and IntKind.i64 x 15 = x % 16 := andLow (M := 15) (b := 4) rfl (by omega)
theorem and31 (x : Int) : bits BinOp.and IntKind.i64 x 31 = x % 32 := andLow (M := 31) (b := 5) rfl (by omega)

theorem FL.back_used {F : FL} (h : F.Ok) (such : Int → Bool) : (F.back such).nUsed = F.nUsed + F.nSuch such := by
  unfold FL.nUsed FL.nSuch
  show List.countP _ F.pages = List.countP _ F.pages + _
  induction F.pages with
  | nil => rfl
  | cons x l ih =>
    simp only [List.countP_cons, ih]
    cases hu : F.used x
    · cases hw : F.waits x with
      | none => simp [FL.back, hu, hw]
      | some g => cases hg : such g <;> simp [FL.back, hu, hw, hg] <;> omega
    · have := h.ha hu
      simp [FL.back, hu, this]
      omega
theorem FL.back_waits (F : FL) (such : Int → Bool) : (F.back such).nWaits = (F.leave such).nWaits := rfl
theorem FL.back_such (F : FL) (such s2 : Int → Bool) : (F.back such).nSuch s2 = (F.leave such).nSuch s2 := rfl
theorem FL.leave_used (F : FL) (such : Int → Bool) : (F.leave such).nUsed = F.nUsed := rfl
theorem FL.leave_such (F : FL) (s1 s2 : Int → Bool) : (F.leave s1).nSuch s2 = F.nSuch fun g => !s1 g && s2 g := by
  unfold FL.nSuch
  show List.countP _ F.pages = _
  refine List.countP_congr fun x _ => ?_
  cases hw : F.waits x with
  | none => simp [FL.leave, hw]
  | some g => cases h1 : s1 g <;> simp [FL.leave, hw, h1]
theorem FL.such_none {F : FL} {such : Int → Bool} (h : ∀ g, such g = false) : F.nSuch such = 0 := by
  unfold FL.nSuch
  rw [List.countP_eq_zero]
  intro x _
  cases hw : F.waits x <;> simp [h]

theorem FL.same {F G : FL} (h1 : F.lo = G.lo) (h2 : F.hi = G.hi) (h3 : ∀ x, F.used x = G.used x) (h4 : ∀ x, F.waits x = G.waits x) : F = G := by
  obtain ⟨a, b, c, d⟩ := F
  obtain ⟨a', b', c', d'⟩ := G
  obtain rfl : a = a' := h1
  obtain rfl : b = b' := h2
  obtain rfl : c = c' := funext h3
  obtain rfl : d = d' := funext h4
  rfl

/-- The first pages wait, those behind them are in use: of n pages from 0 on. -/
def FL.row (n : Nat) (L : List Int) : FL := ⟨0, n, fun x => decide ((L.length : Int) ≤ x) && decide (x < n), fun x => if 0 ≤ x then L[x.toNat]? else none⟩

theorem FL.row_ok {n : Nat} {L : List Int} (hn : n ≤ 4096) (hL : L.length ≤ n) : (FL.row n L).Ok := by
  refine ⟨Int.le_refl _, by show (0 : Int) ≤ n; omega, by show (n : Int) ≤ 4096; omega, fun {x} hx => ?_, fun {x} hx => ?_, fun {x} hx => ?_⟩
  · simp only [FL.row, Bool.and_eq_true, decide_eq_true_eq] at hx ⊢
    omega
  · simp only [FL.row] at hx ⊢
    by_cases h : 0 ≤ x
    · rw [if_pos h] at hx
      obtain ⟨v, hv⟩ := Option.isSome_iff_exists.1 hx
      have := (List.getElem?_eq_some_iff.1 hv).1
      omega
    · rw [if_neg h] at hx; cases hx
  · simp only [FL.row, Bool.and_eq_true, decide_eq_true_eq] at hx ⊢
    rw [if_pos (by omega)]
    exact List.getElem?_eq_none (by omega)

theorem FL.row_pages (n : Nat) (L : List Int) : (FL.row n L).pages = (List.range n).map fun (i : Nat) => (i : Int) := by
  unfold FL.pages FL.row
  simp

theorem FL.row_such (n : Nat) {L : List Int} (such : Int → Bool) : L.length ≤ n → (FL.row n L).nSuch such = L.countP such := by
  intro hL
  unfold FL.nSuch
  rw [FL.row_pages, List.countP_map]
  have : ∀ m, (List.range m).countP ((fun k => match (FL.row n L).waits k with | some g => such g | none => false) ∘ fun (i : Nat) => (i : Int)) = (L.take m).countP such := by
    intro m
    induction m with
    | zero => rfl
    | succ m ih =>
      rw [List.range_succ, List.countP_append, ih, List.take_add_one, List.countP_append]
      congr 1
      have e : (FL.row n L).waits (m : Int) = L[m]? := by simp [FL.row]
      cases hm : L[m]? with
      | none => simp [List.countP_cons, e, hm]
      | some g => simp [List.countP_cons, e, hm]
  refine (this n).trans ?_
  rw [List.take_of_length_le hL]
theorem FL.row_waits (n : Nat) {L : List Int} (hL : L.length ≤ n) : (FL.row n L).nWaits = L.length := by
  have h := FL.row_such n (fun _ => true) hL
  rw [List.countP_true] at h
  rw [← h]
  unfold FL.nWaits FL.nSuch
  refine List.countP_congr fun x _ => ?_
  cases (FL.row n L).waits x <;> simp
theorem FL.row_used {n : Nat} {L : List Int} (hL : L.length ≤ n) : (FL.row n L).nUsed = n - L.length := by
  unfold FL.nUsed
  rw [FL.row_pages, List.countP_map]
  have : ∀ m, m ≤ n → (List.range m).countP ((FL.row n L).used ∘ fun (i : Nat) => (i : Int)) = m - L.length := by
    intro m
    induction m with
    | zero => intro _; simp
    | succ m ih =>
      intro hm
      rw [List.range_succ, List.countP_append, ih (by omega)]
      by_cases h : L.length ≤ m
      · have e : (FL.row n L).used (m : Int) = true := by
          simp only [FL.row, Bool.and_eq_true, decide_eq_true_eq]
          omega
        simp [List.countP_cons, e]
        omega
      · have e : (FL.row n L).used (m : Int) = false := by
          simp only [FL.row, Bool.and_eq_false_iff, decide_eq_false_iff_not]
          omega
        simp [List.countP_cons, e]
        omega
  exact this n (Nat.le_refl _)
theorem FL.row_late {n : Nat} {L : List Int} (g : Int) : (FL.row n L).late L.length g = FL.row n (L ++ [g]) := by
  refine FL.same rfl rfl (fun x => ?_) (fun x => ?_)
  · show (if x = (L.length : Int) then false else (decide ((L.length : Int) ≤ x) && decide (x < n))) = (decide (((L ++ [g]).length : Int) ≤ x) && decide (x < n))
    by_cases hx : x = L.length
    · subst hx
      simp
      omega
    · simp only [hx, if_false, List.length_append, List.length_singleton]
      congr 1
      simp only [decide_eq_decide]
      omega
  · show (if x = (L.length : Int) then some g else if 0 ≤ x then L[x.toNat]? else none) = if 0 ≤ x then (L ++ [g])[x.toNat]? else none
    by_cases hx : x = L.length
    · subst hx
      simp
    · simp only [hx, if_false]
      by_cases h0 : 0 ≤ x
      · simp only [h0, if_true]
        by_cases h1 : x < L.length
        · rw [List.getElem?_append_left (by omega)]
        · rw [List.getElem?_eq_none (by omega), List.getElem?_eq_none (by simp; omega)]
      · simp only [h0, if_false]
theorem FL.row_st {n : Nat} {L : List Int} (hL : L.length < n) : (FL.row n L).has L.length = true ∧ (FL.row n L).st L.length = 2 := by
  have h1 : (FL.row n L).has L.length = true := by
    rw [FL.has_iff]
    simp only [FL.row]
    omega
  refine ⟨h1, FL.st_two.2 ⟨h1, ?_⟩⟩
  simp only [FL.row, Bool.and_eq_true, decide_eq_true_eq]
  omega

/-- The first i of n pages are in use, none waits. -/
def FL.upto (n i : Nat) : FL := ⟨0, n, fun x => decide (0 ≤ x) && decide (x < i), fun _ => none⟩
theorem FL.upto_zero (n : Nat) : FL.upto n 0 = FL.new 0 n := by
  unfold FL.upto FL.new
  congr 1
  funext x
  by_cases h : 0 ≤ x
  · simp [h]
  · simp [h]
theorem FL.upto_all (n : Nat) : FL.upto n n = FL.row n [] := by
  unfold FL.upto FL.row
  congr 1
  funext x
  by_cases h : 0 ≤ x <;> simp [h]
theorem FL.upto_least {n i : Nat} (hi : i < n) : (FL.upto n i).least = some (i : Int) := by
  have hst : ∀ k : Int, 0 ≤ k → k < n → (FL.upto n i).st k = if k < i then 2 else 1 := by
    intro k h0 h1
    have hh : (FL.upto n i).has k = true := FL.has_iff.2 ⟨h0, h1⟩
    unfold FL.st
    rw [hh]
    by_cases hk : k < i
    · simp [FL.upto, hk, h0]
    · simp [FL.upto, hk]
  cases hl : (FL.upto n i).least with
  | none =>
    have := FL.least_none hl (i : Int)
    rw [hst i (by omega) (by omega)] at this
    simp at this
  | some k =>
    obtain ⟨h1, h2⟩ := FL.least_some hl
    have hk : (FL.upto n i).has k = true := by
      cases hh : (FL.upto n i).has k
      · simp [FL.st, hh] at h1
      · rfl
    have hk2 := FL.has_iff.1 hk
    have hk3 : 0 ≤ k ∧ k < n := hk2
    rw [hst k hk3.1 hk3.2] at h1
    by_cases hki : k < i
    · rw [if_pos hki] at h1; cases h1
    · by_cases e : k = i
      · rw [e]
      · exfalso
        refine h2 i (by show (0 : Int) ≤ i; omega) (by omega) ?_
        rw [hst i (by omega) (by omega), if_neg (by omega)]
theorem FL.upto_alloc {n i : Nat} (hi : i < n) : (FL.upto n i).alloc = FL.upto n (i + 1) ∧ (FL.upto n i).allocV = .tuple #[.int .i64 i, .int .i64 0] := by
  unfold FL.alloc FL.allocV
  rw [FL.upto_least hi]
  refine ⟨?_, rfl⟩
  show (FL.upto n i).take i = _
  unfold FL.take FL.upto
  congr 1
  funext x
  by_cases hx : x = i
  · subst hx
    simp
    omega
  · simp only [hx, if_false]
    congr 1
    simp only [decide_eq_decide]
    omega

end Go.Proofs.YtngnmakeaniapaaGreatDoor

set_option linter.unusedVariables false
set_option linter.unusedSimpArgs false
set_option maxRecDepth 100000
namespace Go.Proofs.YtngnmakeaniapaaGreatDoor
open Go.RowKit

/-- What a look's calls leave: all but the look's own map stays. -/
structure LStep (sm : Nat) (w w' : World) : Prop where
  below : Below sm w w'
  keeps : Keeps (isMaps [sm]) w w'
theorem LStep.of {sm : Nat} {w w' : World} (hb : Below w.heap.size w w') (h : sm ≤ w.heap.size) : LStep sm w w' := ⟨hb.mono h, Keeps.below hb⟩
theorem LStep.trans {sm : Nat} {w w1 w2 : World} (h : LStep sm w w1) (h' : LStep sm w1 w2) : LStep sm w w2 := ⟨h.below.trans h'.below, h.keeps.trans h'.keeps⟩
theorem LStep.size {sm : Nat} {w w' : World} (h : LStep sm w w') : w.heap.size ≤ w'.heap.size := h.keeps.size
theorem isMaps_cells (bs : List Nat) (i : Nat) (c : Array Value) (t : TypeId) (f : Nat × Nat) : isMaps bs i (.cells c t f) = false := rfl

structure LookAt (w : World) (B P pd sm : Nat) (X : PG) (seen : Int → Bool) : Prop where
  T : Tab w
  g : ∃ lm fm pl um wm la v, GrIs w B P pd lm fm pl um wm la v X ∧ lm ≠ sm ∧ fm ≠ sm ∧ um ≠ sm ∧ wm ≠ sm ∧ la ≠ sm
  z : X.F.hi = X.S.size
  m : MapSt w sm (setOf seen)
  tb : 1 < B

theorem Tab.keeps {w w' : World} (h : Tab w) {bs : List Nat} (hk : Keeps (isMaps bs) w w') : Tab w' := by
  obtain ⟨t, fr, h⟩ := h
  exact ⟨t, fr, hk.stay h rfl⟩
section
variable {w w' : World} {B P pd sm : Nat} {X : PG} {seen seen' : Int → Bool}
theorem LookAt.lt (h : LookAt w B P pd sm X seen) : sm < w.heap.size := h.m.lt
theorem LookAt.keeps (h : LookAt w B P pd sm X seen) (hk : Keeps (isMaps [sm]) w w') (hm : MapSt w' sm (setOf seen')) : LookAt w' B P pd sm X seen' := by
  obtain ⟨hT, ⟨lm, fm, pl, um, wm, la, v, hg, n1, n2, n3, n4, n5⟩, hz, hm0, hb⟩ := h
  have hq : ∀ {b : Nat}, b ≠ sm → ∀ es c, isMaps [sm] b (.map es c) = false := fun {b} hb es c => by simp [isMaps, hb]
  exact ⟨hT.keeps hk, ⟨lm, fm, pl, um, wm, la, v, ⟨hk.stay hg.blk rfl, hg.disk.keeps hk (fun _ _ _ => rfl) (fun _ _ _ => rfl) (fun _ _ _ => rfl) (hq n1) (hq n2), hg.list.keeps hk (fun _ => rfl) (hq n3) (hq n4), hg.mla.keeps hk (hq n5), pins_keeps hg.pins hk (fun _ _ _ => rfl), hg.bP, hg.bu, hg.bw, hg.ba, hg.nlm, hg.nfm, hg.nla, hg.g0, hg.mP⟩, n1, n2, n3, n4, n5⟩, hz, hm, hb⟩
theorem LookAt.below (h : LookAt w B P pd sm X seen) (hb : Below w.heap.size w w') : LookAt w' B P pd sm X seen := h.keeps (Keeps.below hb) (h.m.block (hb.block _ h.lt))
theorem LookAt.step (h : LookAt w B P pd sm X seen) (hb : Below w.heap.size w w') : LStep sm w w' := LStep.of hb (Nat.le_of_lt h.lt)

set_option maxHeartbeats 400000 in
theorem trMade_yes (hT : Tab w) {lm fm pl um wm la : Nat} {v : Value} (h : GrIs w B P pd lm fm pl um wm la v X) (hz : X.F.hi = X.S.size) :
    Calls Tryz.prog 79 #[.pointer (some ⟨P, 0, none⟩)] w fun e w' => e = .returned (.bool true) ∧ Below w.heap.size w w' := by
  have H := Lib.hid (grRead_gen hT h hz 0)
  clear h hT hz
  go_enter Tryz.func79, Tryz.ntmps79
  go_wp2_with fail
  refine H.out.mono ?_
  rintro e w1 (⟨kind, l, u, _, rfl, ho, hb⟩ | ⟨_, z, h0, h1, rfl, hb⟩)
  · have HB := Lib.hid hb
    clear ho hb
    go_wp2
    go_ret
    exact ⟨rfl, HB.out⟩
  · have HB := Lib.hid hb
    have hne : (z != 1) = true := by rw [bne_iff_ne]; exact h1
    clear hb
    go_wp2
    go_ret
    exact ⟨rfl, HB.out⟩

def LookV (P sm : Nat) : Value := .agg #[.pointer (some ⟨P, 0, none⟩), .map (some sm)]
def LookPost (w : World) (B P pd : Nat) (X : PG) (e : Ending) (w' : World) : Prop := ∃ sm, e = .returned (.agg #[.pointer (some ⟨P, 0, none⟩), .map (some sm)]) ∧ w.heap.size ≤ sm ∧ LookAt w' B P pd sm X (fun _ => false) ∧ Below w.heap.size w w'

theorem GrIs.mlt {lm fm pl um wm la : Nat} {v : Value} (h : GrIs w B P pd lm fm pl um wm la v X) : lm < w.heap.size ∧ fm < w.heap.size ∧ um < w.heap.size ∧ wm < w.heap.size ∧ la < w.heap.size := by
  obtain ⟨v, ms, fl, ff, hd⟩ := h.disk
  exact ⟨hd.ml.lt, hd.mf.lt, h.list.mu.lt, h.list.mw.lt, h.mla.lt⟩

set_option maxHeartbeats 400000 in
theorem lookAt_any (hT : Tab w) (h : GrAt w B P pd X) (hz : X.F.hi = X.S.size) (ht : 1 < B) :
    Calls Tryz.prog 80 #[.pointer (some ⟨P, 0, none⟩)] w (LookPost w B P pd X) := by
  have hmm := @run_makeMap Tryz.prog
  go_enter Tryz.func80, Tryz.ntmps80
  go_wp2
  obtain ⟨W, hW⟩ : ∃ W, W = (w.alloc (.cells #[.pointer (some ⟨P, 0, none⟩), .map (some (w.heap.size + 1))] 143)).alloc (.map #[] 0) := ⟨_, rfl⟩
  rw [← hW]
  have e1 : (w.alloc (.cells #[.pointer (some ⟨P, 0, none⟩), .map (some (w.heap.size + 1))] 143)).heap.size = w.heap.size + 1 := by simp
  have b1 : W.heap[w.heap.size + 1]? = some (.map #[] 0) := by
    have := heap_alloc_new (w.alloc (.cells #[.pointer (some ⟨P, 0, none⟩), .map (some (w.heap.size + 1))] 143)) (.map #[] 0)
    rw [e1] at this
    rw [hW]
    exact this
  have b0 : W.heap[w.heap.size]? = some (.cells #[.pointer (some ⟨P, 0, none⟩), .map (some (w.heap.size + 1))] 143 (0, 0)) := by
    rw [hW, Below.heap_alloc _ _ _ (by omega)]
    exact heap_alloc_new w _
  have hb : Below w.heap.size w W := by rw [hW]; exact sbox2 _ _ _
  have g0 : W.cell? ⟨w.heap.size, 0, none⟩ = some (.pointer (some ⟨P, 0, none⟩)) := (Joins.cell_of_block b0 0).trans rfl
  have g1 : W.cell? ⟨w.heap.size, 1, none⟩ = some (.map (some (w.heap.size + 1))) := (Joins.cell_of_block b0 1).trans rfl
  refine bodyPost_ret (v := .agg #[.pointer (some ⟨P, 0, none⟩), .map (some (w.heap.size + 1))]) (by simp [results, Tryz.results80, go_sem, g0, g1]) rfl ⟨w.heap.size + 1, rfl, by omega, ⟨hT.below hT.lt hb, ?_, hz, ?_, ht⟩, hb⟩
  · obtain ⟨lm, fm, pl, um, wm, la, v, hg⟩ := h
    obtain ⟨m1, m2, m3, m4, m5⟩ := hg.mlt
    exact ⟨lm, fm, pl, um, wm, la, v, hg.below hb, by omega, by omega, by omega, by omega, by omega⟩
  · have := MapSt.new b1
    have e : setOf (fun _ => false) = fun _ => none := by funext k; simp [setOf]
    rw [e]
    exact this

def add (seen : Int → Bool) (k : Int) : Int → Bool := fun x => if x = k then true else seen x
def PagePost (w : World) (B P pd sm : Nat) (X : PG) (seen : Int → Bool) (k : Int) (e : Ending) (w' : World) : Prop :=
  (∃ kind l v, seen k = false ∧ X.page k = some (kind, l) ∧ e = .returned (.tuple #[.int .u8 (kind.toNat : Int), v, .int .i64 0]) ∧ Own w' w.heap.size v l ∧ LookAt w' B P pd sm X (add seen k) ∧ LStep sm w w') ∨
  (¬ (seen k = false ∧ X.page k ≠ none) ∧ e = .returned (.tuple #[.int .u8 0, .slice none 0 0, .int .i64 18]) ∧ (∃ seen', LookAt w' B P pd sm X seen') ∧ LStep sm w w')

theorem LookAt.stored (h : LookAt w B P pd sm X seen) {k : Int} (hm : MapSt w' sm fun x => if x = k then some (Value.agg #[]) else setOf seen x) (hg : w.grownBy w' (some sm)) : LookAt w' B P pd sm X (add seen k) ∧ LStep sm w w' := by
  obtain ⟨es, c, hb, _⟩ := h.m.st
  have hk : Keeps (isMaps [sm]) w w' := Keeps.of_grown hg hb (by simp [isMaps])
  exact ⟨h.keeps hk ((setOf_add seen k) ▸ hm), (Below.refl sm w).grown hg (Nat.le_of_lt h.lt) (fun k hk => by cases hk; exact Nat.le_refl _), hk⟩
theorem LookAt.read (h : LookAt w B P pd sm X seen) (k : Int) : Calls Tryz.prog 121 #[.pointer (some ⟨P, 0, none⟩), .int .i64 k] w (GrReadPost w X k) := by
  obtain ⟨lm, fm, pl, um, wm, la, v, hg, _⟩ := h.g
  exact grRead_gen h.T hg h.z k

set_option maxHeartbeats 1600000 in
theorem lookPage_any (h : LookAt w B P pd sm X seen) (k : Int) :
    Calls Tryz.prog 126 #[.agg #[.pointer (some ⟨P, 0, none⟩), .map (some sm)], .int .i64 k] w (PagePost w B P pd sm X seen k) := by
  obtain ⟨W, hW⟩ : ∃ W, W = (w.alloc (.cells #[.pointer (some ⟨P, 0, none⟩), .map (some sm)] 143)).alloc (.cells #[] 162) := ⟨_, rfl⟩
  have hbw : Below w.heap.size w W := by rw [hW]; exact sbox2 _ _ _
  have hw0 : (w.alloc (.cells #[.pointer (some ⟨P, 0, none⟩), .map (some sm)] 143)).heap[w.heap.size]? = some (.cells #[.pointer (some ⟨P, 0, none⟩), .map (some sm)] 143 (0, 0)) := heap_alloc_new w _
  have hwB : W.heap[w.heap.size]? = some (.cells #[.pointer (some ⟨P, 0, none⟩), .map (some sm)] 143 (0, 0)) := by
    rw [hW, Below.heap_alloc _ _ _ (by simp)]
    exact hw0
  have HL := Lib.hid (h.below (sbox1 w (.cells #[.pointer (some ⟨P, 0, none⟩), .map (some sm)] 143)))
  have HW := Lib.hid (h.below hbw)
  have HBW := Lib.hid hbw
  have hlt := h.lt
  have HST : Hid (LStep sm w W) := Lib.hid (h.step hbw)
  cases hs : seen k
  · have HS := Lib.hid hs
    have z0 : W.cell? ⟨w.heap.size, 0, none⟩ = some (.pointer (some ⟨P, 0, none⟩)) := (Joins.cell_of_block hwB 0).trans rfl
    have z1 : W.cell? ⟨w.heap.size, 1, none⟩ = some (.map (some sm)) := (Joins.cell_of_block hwB 1).trans rfl
    have HB0 := Lib.hid hwB
    clear h hs hwB hw0
    go_enter Tryz.func126, Tryz.ntmps126
    go_wp2_with (first | (at_lookup; refine fr_look rfl _ _ rfl rfl HL.out.m rfl ?_; rw [HS.out]) | (at_mapUpdate; rw [← hW]; refine st_store rfl _ _ _ _ 3 162 rfl Tryz.underlying135 Tryz.underlying3 rfl HW.out.m rfl rfl ?_; intro w3 hm hg; obtain ⟨l3, s3⟩ := HW.out.stored hm hg; have L3 := Lib.hid l3; have S3 := Lib.hid (HST.out.trans s3); have B3 := Lib.hid (s3.keeps.stay HB0.out rfl); have y0 : w3.cell? ⟨w.heap.size, 0, none⟩ = some (.pointer (some ⟨P, 0, none⟩)) := (Joins.cell_of_block B3.out 0).trans rfl; have y1 : w3.cell? ⟨w.heap.size, 1, none⟩ = some (.map (some sm)) := (Joins.cell_of_block B3.out 1).trans rfl; clear hm hg l3 s3))
    refine (L3.out.read k).mono ?_
    rintro e w4 (⟨kind, l, u, hp, rfl, ho, hb⟩ | ⟨hp, z, h0, h1, rfl, hb⟩)
    · have HP := Lib.hid hp
      have HO := Lib.hid ho
      have HB4 := Lib.hid hb
      clear hp ho hb y0 y1 z0 z1 hlt
      go_wp2
      exact bodyPost_ret (v := .tuple #[.int .u8 (kind.toNat : Int), u, .int .i64 0]) (by simp [results, Tryz.results126, go_sem]) rfl (.inl ⟨kind, l, u, HS.out, HP.out, rfl, HO.out.le S3.out.size, L3.out.below HB4.out, S3.out.trans (L3.out.step HB4.out)⟩)
    · have HP := Lib.hid hp
      have HB4 := Lib.hid hb
      have hne : (z != 0) = true := by rw [bne_iff_ne]; exact h0
      clear hp hb y0 y1 z0 z1 hlt
      go_wp2
      exact bodyPost_ret (v := .tuple #[.int .u8 0, .slice none 0 0, .int .i64 18]) (by simp [results, Tryz.results126, go_sem]) rfl (.inr ⟨(fun hh => hh.2 HP.out), rfl, ⟨_, L3.out.below HB4.out⟩, S3.out.trans (L3.out.step HB4.out)⟩)
  · have HS := Lib.hid hs
    clear h hs hwB hw0
    go_enter Tryz.func126, Tryz.ntmps126
    go_wp2_with (at_lookup; refine fr_look rfl _ _ rfl rfl HL.out.m rfl ?_; rw [HS.out])
    rw [← hW]
    exact bodyPost_ret (v := .tuple #[.int .u8 0, .slice none 0 0, .int .i64 18]) (by simp [results, Tryz.results126, go_sem]) rfl (.inr ⟨(fun hh => by rw [HS.out] at hh; cases hh.1), rfl, ⟨_, HW.out⟩, HST.out⟩)
end

end Go.Proofs.YtngnmakeaniapaaGreatDoor

set_option linter.unusedVariables false
set_option maxRecDepth 100000
namespace Go.Proofs.YtngnmakeaniapaaGreatDoor
open Go.RowKit

theorem child_any {w : World} {q : Option Addr} {n c : Nat} (hn : n ≤ 1000000) :
    Calls Tryz.prog 222 #[.slice q n c] w fun e w' => e = .returned (.int .i64 ((n + 3 : Nat) : Int)) ∧ w' = w := by
  go_enter Tryz.func222, Tryz.ntmps222
  go_wp2
  go_ret
  exact ⟨ret_int (by omega), rfl⟩

theorem entry_any {w : World} {q : Option Addr} {n c : Nat} (hn : n ≤ 1000000) (q' : Option Addr) (c' : Nat) (l : List UInt8) (g p : Int) (hl : l.length ≤ 1000000) (k : List UInt8) (hk : n = k.length) :
    Calls Tryz.prog 220 #[.slice q n c, .agg #[.slice q' l.length c', .int .i64 g, .int .i64 p]] w fun e w' => e = .returned (.int .i64 (entS k ⟨l, g, p⟩ : Nat)) ∧ Below w.heap.size w w' := by
  obtain ⟨m, hm⟩ : ∃ m, m = l.length := ⟨_, rfl⟩
  have HK := Lib.hid hk
  have HM := Lib.hid hm
  rw [← hm] at hl ⊢
  clear hk hm
  by_cases hp : p = 0
  · subst hp
    go_enter Tryz.func220, Tryz.ntmps220
    go_wp2
    go_ret
    refine ⟨ret_int ?_, ((Below.refl _ _).alloc (Nat.le_refl _) _)⟩
    unfold entS
    rw [if_pos rfl, ← HK.out, ← HM.out]
    omega
  · have hpb : (p != 0) = true := by simpa using hp
    have HP := Lib.hid hp
    clear hp
    go_enter Tryz.func220, Tryz.ntmps220
    go_wp2
    go_ret
    refine ⟨ret_int ?_, ((Below.refl _ _).alloc (Nat.le_refl _) _)⟩
    unfold entS
    rw [if_neg HP.out, ← HK.out]
    omega

/-- The value of an entry, or none. -/
def Nd.val (n : Nd) (i : Nat) : Vl := n.vs[i]?.getD ⟨none, 0, [], 0, 0⟩
theorem Nd.val_s (n : Nd) (i : Nat) : (n.val i).s = ((n.s).vs[i]?).getD .zero := by
  unfold Nd.val Nd.s
  simp only [List.getElem?_map]
  cases n.vs[i]? <;> rfl
theorem Nd.val_len (n : Nd) (i : Nat) : (n.val i).l.length ≤ lens Vl.l n.vs := by
  unfold Nd.val
  cases h : n.vs[i]? with
  | none => exact Nat.zero_le _
  | some v => exact lens_mem (f := Vl.l) (List.mem_of_getElem? h)

set_option maxHeartbeats 1600000 in
theorem val_any {w : World} {n : Nd} (h : n.Ok w) (i : Nat) (hi : i ≤ 1000000) :
    Calls Tryz.prog 221 #[n.cell, .int .i64 (i : Int)] w fun e w' => e = .returned (n.val i).cell ∧ Below w.heap.size w w' := by
  obtain ⟨lf, kq, kc, ks, vq, vc, vs, iq, ic, is⟩ := n
  have h1 := h.v1
  have h2 := h.v2
  have HV := Lib.hid h.vl
  dsimp only at h1 h2
  obtain ⟨m, hm⟩ : ∃ m, m = vs.length := ⟨_, rfl⟩
  have HM := Lib.hid hm
  obtain ⟨mk, hmk⟩ : ∃ m, m = ks.length := ⟨_, rfl⟩
  obtain ⟨mi, hmi⟩ : ∃ m, m = is.length := ⟨_, rfl⟩
  unfold Nd.cell
  dsimp only
  rw [← hm] at h1 ⊢
  rw [← hmk, ← hmi]
  clear h hm hmk hmi
  by_cases hlt : i < m
  · obtain ⟨v, hv⟩ : ∃ v, vs[i]? = some v := ⟨_, List.getElem?_eq_getElem (by have := HM.out; omega)⟩
    obtain ⟨b, o, rfl, hb, c0, c1, c2⟩ := (show Vls w vq vs from HV.out).at hv
    have HE : Hid ((Nd.val ⟨lf, kq, kc, ks, some ⟨b, o, none⟩, vc, vs, iq, ic, is⟩ i) = v) := Lib.hid (by unfold Nd.val; rw [hv]; rfl)
    generalize Nd.val ⟨lf, kq, kc, ks, some ⟨b, o, none⟩, vc, vs, iq, ic, is⟩ i = x at *
    clear hv HV HM
    go_enter Tryz.func221, Tryz.ntmps221
    go_wp2
    refine bodyPost_ret (results_cell_row rfl _ _ (w.heap.size + 1) 156 _ (0, 0) _ (by kernel_rfl) (boxes w _ _ _ _).2.1 Tryz.underlying156 rfl (by kernel_rfl)) rfl ?_
    refine ⟨?_, (boxes w _ _ _ _).2.2.1⟩
    rw [HE.out]
    rfl
  · have HE : Hid ((Nd.val ⟨lf, kq, kc, ks, vq, vc, vs, iq, ic, is⟩ i) = ⟨none, 0, [], 0, 0⟩) := Lib.hid (by unfold Nd.val; rw [List.getElem?_eq_none (show vs.length ≤ i by have := HM.out; omega)]; rfl)
    generalize Nd.val ⟨lf, kq, kc, ks, vq, vc, vs, iq, ic, is⟩ i = x at *
    clear HV HM
    go_enter Tryz.func221, Tryz.ntmps221
    go_wp2
    refine bodyPost_ret (results_cell_row rfl _ _ (w.heap.size + 1) 156 _ (0, 0) _ (by kernel_rfl) (boxes w _ _ _ _).2.1 Tryz.underlying156 rfl (by kernel_rfl)) rfl ?_
    refine ⟨?_, (boxes w _ _ _ _).2.2.1⟩
    rw [HE.out]
    rfl

theorem Nd.s_ks (n : Nd) : (n.s).ks = n.ks.map Kb.l := rfl
theorem Nd.few {n : Nd} (hc : n.s.count ≤ 100000) : n.ks.length ≤ 100000 ∧ n.vs.length ≤ 100000 ∧ n.is.length ≤ 100000 ∧ (∀ x ∈ n.ks, x.l.length ≤ 100000) ∧ lens Vl.l n.vs ≤ 100000 := by
  unfold NdS.count Nd.s at hc
  dsimp only at hc
  rw [List.length_map, List.length_map] at hc
  have e1 : lens VlS.l (n.vs.map Vl.s) = lens Vl.l n.vs := by
    induction n.vs with
    | nil => rfl
    | cons a l ih => simp only [List.map_cons, lens, ih]; rfl
  refine ⟨by omega, by omega, by omega, fun x hx => ?_, by omega⟩
  have := lens_mem (f := id) (l := n.ks.map Kb.l) (List.mem_map_of_mem hx)
  simp only [id] at this
  omega

set_option maxHeartbeats 1600000 in
/-- Size, of any node that is not too great to be counted. -/
theorem size_any {w : World} {n : Nd} (h : n.Ok w) (hc : n.s.count ≤ 100000) :
    Calls Tryz.prog 199 #[n.cell] w fun e w' => e = .returned (.int .i64 (n.s.size : Nat)) ∧ Below w.heap.size w w' := by
  obtain ⟨f1, f2, f3, f4, f5⟩ := Nd.few hc
  have hsz : n.s.size ≤ 600003 := Nat.le_trans n.s.size_le (by omega)
  have hk1 := h.k1
  have hk2 := h.k2
  have HOK := Lib.hid h
  have HF4 := Lib.hid f4
  have HF5 := Lib.hid f5
  obtain ⟨m, hm⟩ : ∃ m, m = n.ks.length := ⟨_, rfl⟩
  have HM := Lib.hid hm
  rw [← hm] at hk1 f1
  have hcell : n.cell = .agg #[.bool n.leaf, .slice n.kq m n.kc, .slice n.vq n.vs.length n.vc, .slice n.iq n.is.length n.ic] := by rw [hm]; rfl
  obtain ⟨W, hW⟩ : ∃ W, W = w.alloc (.cells #[.bool n.leaf, .slice n.kq m n.kc, .slice n.vq n.vs.length n.vc, .slice n.iq n.is.length n.ic] 154) := ⟨_, rfl⟩
  have HBW : Hid (Below w.heap.size w W) := Lib.hid (by rw [hW]; exact (Below.refl _ _).alloc (Nat.le_refl _) _)
  have hblk : W.heap[w.heap.size]? = some (.cells #[.bool n.leaf, .slice n.kq m n.kc, .slice n.vq n.vs.length n.vc, .slice n.iq n.is.length n.ic] 154 (0, 0)) := by rw [hW]; exact heap_alloc_new w _
  have HWS : Hid (W.heap.size = w.heap.size + 1) := Lib.hid (by rw [hW]; simp)
  have HC : Hid (∀ w', Below W.heap.size W w' → w'.cell? ⟨w.heap.size, 0, none⟩ = some (.bool n.leaf) ∧ w'.cell? ⟨w.heap.size, 1, none⟩ = some (.slice n.kq m n.kc) ∧ w'.cell? ⟨w.heap.size, 2, none⟩ = some (.slice n.vq n.vs.length n.vc) ∧ w'.cell? ⟨w.heap.size, 3, none⟩ = some (.slice n.iq n.is.length n.ic)) := Lib.hid fun w' hb => by
    have h1 := (hb.block w.heap.size (by rw [HWS.out]; omega)).trans hblk
    exact ⟨Joins.cell_of_block h1 0, Joins.cell_of_block h1 1, Joins.cell_of_block h1 2, Joins.cell_of_block h1 3⟩
  rw [hcell]
  have HCE := Lib.hid hcell
  clear hblk hm hcell h f4 f5 hc
  cases hl : n.leaf
  · have HL := Lib.hid hl
    rw [hl] at HC hW
    have HS : Hid (n.s.size = 3 + sizeB n.s.ks) := Lib.hid (by unfold NdS.size; rw [show n.s.leaf = n.leaf from rfl, HL.out]; rfl)
    have hs3 : 3 + sizeB n.s.ks ≤ 600003 := by rw [← HS.out]; exact hsz
    clear hl hsz
    obtain ⟨c0, c1, c2, c3⟩ := HC.out W (Below.refl _ _)
    go_enter Tryz.func199, Tryz.ntmps199
    go_wp2_with fail
    rw [← hW]
    replace hW := Lib.hid hW
    go_wp2
    go_loopw [3, 14] (fun x i wr => ∃ (j z : Nat), i = .int .i64 (j : Int) ∧ x = .int .i64 (z : Int) ∧ j ≤ m ∧ Below W.heap.size W wr ∧ z + sizeB (n.s.ks.drop j) = 3 + sizeB n.s.ks) (fun _ i _ => m - (intOf i).toNat)
    case atStart => exact ⟨0, 3, rfl, rfl, by omega, Below.refl _ _, rfl⟩
    case round =>
      clear c0 c1 c2 c3
      obtain ⟨j, z, rfl, rfl, hj, hb, hz⟩ := hrel
      have HB := Lib.hid hb
      have HZ := Lib.hid hz
      have hz2 : z ≤ 600003 := by omega
      obtain ⟨c0, c1, c2, c3⟩ := HC.out _ hb
      clear hb hz
      by_cases hlt : j < m
      · obtain ⟨x, hx⟩ : ∃ x, n.ks[j]? = some x := ⟨_, List.getElem?_eq_getElem (by have := HM.out; omega)⟩
        have hm2 := List.mem_of_getElem? hx
        obtain ⟨b, o, hq, hblt, hkc⟩ := (((HOK.out.below HBW.out).below HB.out).kl).at hx
        have hx2 := (HOK.out.ko x hm2).h2
        have hx3 := HF4.out x hm2
        have hx1 := (HOK.out.ko x hm2).h1
        rw [hq] at c1 ⊢
        obtain ⟨kl, hkl⟩ : ∃ k, k = x.l.length := ⟨_, rfl⟩
        have HKL := Lib.hid hkl
        rw [← hkl] at hkc hx3 hx1
        have HD : Hid (sizeB (n.s.ks.drop j) = kl + 3 + sizeB (n.s.ks.drop (j + 1))) := Lib.hid (by rw [HKL.out]; exact sizeB_drop (by rw [Nd.s_ks, List.getElem?_map, hx]; rfl))
        have HCH := Lib.hid (fun w => child_any (w := w) (q := x.q) (n := kl) (c := x.c) (by omega))
        clear hx hm2 hkl hq
        go_wp2_with fail
        refine (HCH.out _).mono ?_
        rintro e w1 ⟨rfl, rfl⟩
        go_wp2
        go_roundw
        case rel => exact ⟨j + 1, z + (kl + 3), by go_num, by go_num, by omega, HB.out, by have := HD.out; have := HZ.out; omega⟩
        case measure => simp [intOf]; omega
      · go_wp2
        go_ret
        refine ⟨ret_int ?_, HBW.out.trans (HB.out.mono (by rw [HWS.out]; omega))⟩
        have h1 := HZ.out
        rw [List.drop_eq_nil_of_le (by rw [Nd.s_ks, List.length_map]; have := HM.out; omega)] at h1
        rw [HS.out]
        simp only [sizeB] at h1
        omega
  · have HL := Lib.hid hl
    rw [hl] at HC hW
    have HS : Hid (n.s.size = 1 + sizeL n.s.ks n.s.vs) := Lib.hid (by unfold NdS.size; rw [show n.s.leaf = n.leaf from rfl, HL.out]; rfl)
    have hs3 : 1 + sizeL n.s.ks n.s.vs ≤ 600003 := by rw [← HS.out]; exact hsz
    clear hl hsz
    obtain ⟨c0, c1, c2, c3⟩ := HC.out W (Below.refl _ _)
    go_enter Tryz.func199, Tryz.ntmps199
    go_wp2_with fail
    rw [← hW]
    replace hW := Lib.hid hW
    go_wp2
    go_loopw [3, 14] (fun x i wr => ∃ (j z : Nat), i = .int .i64 (j : Int) ∧ x = .int .i64 (z : Int) ∧ j ≤ m ∧ Below W.heap.size W wr ∧ z + sizeL (n.s.ks.drop j) (n.s.vs.drop j) = 1 + sizeL n.s.ks n.s.vs) (fun _ i _ => m - (intOf i).toNat)
    case atStart => exact ⟨0, 1, rfl, rfl, by omega, Below.refl _ _, rfl⟩
    case round =>
      clear c0 c1 c2 c3
      obtain ⟨j, z, rfl, rfl, hj, hb, hz⟩ := hrel
      have HB := Lib.hid hb
      have HZ := Lib.hid hz
      have hz2 : z ≤ 600003 := by omega
      obtain ⟨c0, c1, c2, c3⟩ := HC.out _ hb
      clear hb hz
      by_cases hlt : j < m
      · obtain ⟨x, hx⟩ : ∃ x, n.ks[j]? = some x := ⟨_, List.getElem?_eq_getElem (by have := HM.out; omega)⟩
        have hm2 := List.mem_of_getElem? hx
        obtain ⟨b, o, hq, hblt, hkc⟩ := (((HOK.out.below HBW.out).below HB.out).kl).at hx
        have hx2 := (HOK.out.ko x hm2).h2
        have hx3 := HF4.out x hm2
        have hx1 := (HOK.out.ko x hm2).h1
        rw [hq] at c1 ⊢
        obtain ⟨kl, hkl⟩ : ∃ k, k = x.l.length := ⟨_, rfl⟩
        have HKL := Lib.hid hkl
        rw [← hkl] at hkc hx3 hx1
        have HD : Hid (sizeL (n.s.ks.drop j) (n.s.vs.drop j) = entS x.l (n.val j).s + sizeL (n.s.ks.drop (j + 1)) (n.s.vs.drop (j + 1))) := Lib.hid (by rw [Nd.val_s]; exact sizeL_drop (by rw [Nd.s_ks, List.getElem?_map, hx]; rfl))
        have HVL := Lib.hid (Nat.le_trans (n.val_len j) HF5.out)
        have HCV := Lib.hid (val_any ((HOK.out.below HBW.out).below HB.out) j (by omega))
        rw [HCE.out, hq, HL.out] at HCV
        clear hx hm2 hkl hq
        go_wp2_with fail

        with_reducible refine HCV.out.mono ?_
        rintro e w1 ⟨rfl, hb1⟩
        have HB1 := Lib.hid (HB.out.trans (hb1.mono HB.out.size))
        clear hb1
        generalize n.val j = y at *
        obtain ⟨yq, yc, yl, yg, yp⟩ := y
        have HCH := Lib.hid (fun w => entry_any (w := w) (q := x.q) (n := kl) (c := x.c) (by omega) yq yc yl yg yp (Nat.le_trans HVL.out (by omega)) x.l HKL.out)
        obtain ⟨es, hes⟩ : ∃ s, s = entS x.l ⟨yl, yg, yp⟩ := ⟨_, rfl⟩
        have HES := Lib.hid hes
        have hes2 : es ≤ 200006 := by
          rw [hes]
          have h1 := HVL.out
          have h2 := HKL.out
          unfold entS
          dsimp only at h1 ⊢
          split <;> omega
        rw [← hes] at HCH
        clear hes
        go_wp2_with fail
        refine (HCH.out _).mono ?_
        rintro e w2 ⟨rfl, hb2⟩
        have HB2 := Lib.hid (HB1.out.trans (hb2.mono HB1.out.size))
        clear hb2
        go_wp2
        go_roundw
        case rel => exact ⟨j + 1, z + es, by go_num, by go_num, by omega, HB2.out, by have h1 := HD.out; have := HZ.out; have h3 := HES.out; dsimp only [Vl.s] at h1; rw [← h3] at h1; omega⟩
        case measure => simp [intOf]; omega
      · go_wp2
        go_ret
        refine ⟨ret_int ?_, HBW.out.trans (HB.out.mono (by rw [HWS.out]; omega))⟩
        have h1 := HZ.out
        rw [(List.drop_eq_nil_of_le (by rw [Nd.s_ks, List.length_map]; have := HM.out; omega) : n.s.ks.drop j = [])] at h1
        rw [HS.out]
        simp only [sizeL] at h1
        omega

end Go.Proofs.YtngnmakeaniapaaGreatDoor

