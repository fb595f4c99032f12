/-
  What PagerPins says of a pager, plain.
  What a law's own memory stays by, while a pager changes: whole numbers that lie there; append to slices of the law's own.
-/
import Derived.Test.YtmlnpgbnbchbkaaDoorH23
import Derived.Test.YtmlnpgbnbchbkaaDoorGrPinB
import Derived.Test.YtmlnpgbnbchbkaaDoorH24
set_option linter.unusedVariables false
set_option maxRecDepth 100000
namespace Go.Proofs.YtmlnpgbnbchbkaaDoor
open Go.RowKit

/-- The page of a round of the first. -/
def pnPage (j : Nat) : List UInt8 := pageB 5 (2 + j) 3 [UInt8.ofNat j]
theorem pnPage_length (j : Nat) : (pnPage j).length = 512 := pageB_length (by simp)

/-- What stays through the law; m pages are there to be read; g the generation; the pins. -/
structure PnC (X : PG) (g m : Nat) (ops : Int) (ps : List (Int × Int)) : Prop where
  lo : X.F.lo = 2
  hi : X.F.hi = 100
  g : X.g = g
  n : X.n = 1
  d : X.d = 1
  fl : X.failed = false
  ps : X.pins = ps
  left : X.S.left = -1
  ops : X.S.ops ≤ ops
  size : X.S.size = 100
  rd : ∀ j, j < m → X.S.read ((2 + j : Nat) : Int) = pnPage j

/-- The pages from a on are in use up to b; those from l on are laid; those ahead of a wait. -/
structure PnX (X : PG) (g m a l b : Nat) (ops : Int) (ps : List (Int × Int)) : Prop where
  c : PnC X g m ops ps
  us : ∀ x, X.F.used x = (decide ((a : Int) ≤ x) && decide (x < (b : Int)))
  L : ∀ x, X.L x = (decide ((l : Int) ≤ x) && decide (x < (b : Int)))
  w1 : ∀ x, (X.F.waits x).isSome = (decide ((2 : Int) ≤ x) && decide (x < (a : Int)))
  w2 : ∀ x w, X.F.waits x = some w → 4 ≤ w ∧ w ≤ (g : Int) + 1 ∧ (l = b → w ≤ (g : Int))
  al : 2 ≤ a ∧ a ≤ l ∧ l ≤ b ∧ b < 100

theorem PnX.least {X : PG} {g m a l b : Nat} {ops : Int} {ps : List (Int × Int)} (h : PnX X g m a l b ops ps) : X.F.least = some (b : Int) := by
  obtain ⟨a1, a2, a3, a4⟩ := h.al
  have hw : ∀ x : Int, (a : Int) ≤ x → X.F.waits x = none := fun x hx => by
    have := h.w1 x
    rw [decide_eq_false (show ¬ x < (a : Int) by omega), Bool.and_false] at this
    cases hw : X.F.waits x with
    | none => rfl
    | some w => rw [hw] at this; cases this
  refine FL.least_is ?_ fun j h1 h2 h3 => ?_
  · unfold FL.st FL.has
    rw [h.us, hw _ (by omega), h.c.lo, h.c.hi, decide_eq_true (show (2 : Int) ≤ (b : Int) by omega), decide_eq_true (show (b : Int) < 100 by omega), decide_eq_false (show ¬ (b : Int) < (b : Int) by omega), Bool.and_false]
    rfl
  · obtain ⟨h4, h5, _⟩ := FL.free_used h3
    have hlo := h.c.lo
    by_cases hja : j < (a : Int)
    · have := h.w1 j
      rw [h5, decide_eq_true (show (2 : Int) ≤ j by omega), decide_eq_true hja] at this
      cases this
    · rw [h.us, decide_eq_true (show (a : Int) ≤ j by omega), decide_eq_true h2] at h4
      cases h4

theorem PnX.st {X : PG} {g m a l b : Nat} {ops : Int} {ps : List (Int × Int)} (h : PnX X g m a l b ops ps) {x : Int} (h1 : (a : Int) ≤ x) (h2 : x < (b : Int)) : X.F.st x = 2 := by
  obtain ⟨a1, a2, a3, a4⟩ := h.al
  refine FL.st_two.2 ⟨FL.has_iff.2 ?_, ?_⟩
  · rw [h.c.lo, h.c.hi]; omega
  · rw [h.us, decide_eq_true h1, decide_eq_true h2]; rfl
theorem PnX.st_any {X : PG} {g m a l b : Nat} {ops : Int} {ps : List (Int × Int)} (h : PnX X g m a l b ops ps) {x : Int} (h1 : (2 : Int) ≤ x) (h2 : x < (b : Int)) : X.F.st x ≠ 0 := by
  obtain ⟨a1, a2, a3, a4⟩ := h.al
  have hh : X.F.has x = true := FL.has_iff.2 (by rw [h.c.lo, h.c.hi]; omega)
  unfold FL.st
  rw [if_pos hh]
  split
  · decide
  · split <;> decide
theorem PnX.laid {X : PG} {g m a l b : Nat} {ops : Int} {ps : List (Int × Int)} (h : PnX X g m a l b ops ps) (k : Int) (hk : X.L k = true) : X.F.st k = 2 := by
  rw [h.L, Bool.and_eq_true, decide_eq_true_iff, decide_eq_true_iff] at hk
  exact h.st (by have := h.al; omega) hk.2

theorem PnX.lay {X : PG} {g m a l b : Nat} {ops : Int} {ps : List (Int × Int)} (h : PnX X g m a l b ops ps) (hb : b + 1 < 100) {pg : List UInt8} (hp : pg.length = 512) {m' : Nat} (hm : m' = m ∧ m + 2 ≤ b ∨ m' = m + 1 ∧ b = 2 + m ∧ pg = pnPage m) : PnX (X.lay (b : Int) pg) g m' a l (b + 1) (ops + 1) ps := by
  obtain ⟨⟨c1, c2, c3, c4, c5, c6, c7, c8, c9, c10, c11⟩, h2, h3, h4, h5, a1, a2, a3, a4⟩ := h
  refine ⟨⟨c1, c2, c3, c4, c5, c6, c7, SD.tick_left c8, by show X.S.ops + 1 ≤ _; omega, c10, fun j hj => ?_⟩, fun x => ?_, fun x => ?_, h4, fun x w hx => ⟨(h5 x w hx).1, (h5 x w hx).2.1, fun e => by omega⟩, by omega⟩
  · rw [PG.lay_read X hp]
    rcases hm with ⟨rfl, hmb⟩ | ⟨rfl, rfl, rfl⟩
    · rw [if_neg (by omega)]
      exact c11 j hj
    · by_cases hjm : j = m
      · rw [if_pos (by omega), hjm]
      · rw [if_neg (by omega)]
        exact c11 j (by omega)
  · show (if x = (b : Int) then true else X.F.used x) = _
    rw [h2]
    by_cases hx : x = (b : Int)
    · rw [if_pos hx, decide_eq_true (by omega), decide_eq_true (by omega)]; rfl
    · rw [if_neg hx]
      by_cases h1 : x < (b : Int)
      · rw [decide_eq_true h1, decide_eq_true (show x < ((b + 1 : Nat) : Int) by omega)]
      · rw [decide_eq_false h1, decide_eq_false (show ¬ x < ((b + 1 : Nat) : Int) by omega)]
  · show (if x = (b : Int) then true else X.L x) = _
    rw [h3]
    by_cases hx : x = (b : Int)
    · rw [if_pos hx, decide_eq_true (by omega), decide_eq_true (by omega)]; rfl
    · rw [if_neg hx]
      by_cases h1 : x < (b : Int)
      · rw [decide_eq_true h1, decide_eq_true (show x < ((b + 1 : Nat) : Int) by omega)]
      · rw [decide_eq_false h1, decide_eq_false (show ¬ x < ((b + 1 : Nat) : Int) by omega)]

theorem PnX.drop {X : PG} {g m a l b : Nat} {ops : Int} {ps : List (Int × Int)} (h : PnX X g m a l b ops ps) (ha : a < l) (hlb : l < b) (hg : 3 ≤ g) : PnX (X.drop (a : Int)) g m (a + 1) l b ops ps ∧ X.dropE (a : Int) = 0 := by
  have hst := h.st (x := (a : Int)) (by omega) (by have := h.al; omega)
  obtain ⟨⟨c1, c2, c3, c4, c5, c6, c7, c8, c9, c10, c11⟩, h2, h3, h4, h5, a1, a2, a3, a4⟩ := h
  have hL : ¬ X.L (a : Int) = true := by
    rw [h3, decide_eq_false (show ¬ (l : Int) ≤ (a : Int) by omega)]
    simp
  unfold PG.drop PG.dropE
  rw [if_neg hL, if_pos hst, if_neg hL, if_pos hst]
  refine ⟨⟨⟨c1, c2, c3, c4, c5, c6, c7, c8, c9, c10, c11⟩, fun x => ?_, h3, fun x => ?_, fun x w hx => ?_, by omega⟩, rfl⟩
  · show (if x = (a : Int) then false else X.F.used x) = _
    rw [h2]
    by_cases hx : x = (a : Int)
    · rw [if_pos hx, decide_eq_false (show ¬ ((a + 1 : Nat) : Int) ≤ x by omega)]; rfl
    · rw [if_neg hx]
      by_cases h1 : (a : Int) ≤ x
      · rw [decide_eq_true h1, decide_eq_true (show ((a + 1 : Nat) : Int) ≤ x by omega)]
      · rw [decide_eq_false h1, decide_eq_false (show ¬ ((a + 1 : Nat) : Int) ≤ x by omega)]
  · show (if x = (a : Int) then some ((X.g : Int) + 1) else X.F.waits x).isSome = _
    by_cases hx : x = (a : Int)
    · rw [if_pos hx, decide_eq_true (by omega), decide_eq_true (by omega)]; rfl
    · rw [if_neg hx, h4]
      by_cases h1 : x < (a : Int)
      · rw [decide_eq_true h1, decide_eq_true (show x < ((a + 1 : Nat) : Int) by omega)]
      · rw [decide_eq_false h1, decide_eq_false (show ¬ x < ((a + 1 : Nat) : Int) by omega)]
  · have hx' : (if x = (a : Int) then some ((X.g : Int) + 1) else X.F.waits x) = some w := hx
    by_cases e : x = (a : Int)
    · rw [if_pos e, c3] at hx'
      cases hx'
      exact ⟨by omega, by omega, fun e => by omega⟩
    · rw [if_neg e] at hx'
      exact h5 x w hx'

theorem PnX.follows {X : PG} {g m a l b : Nat} {ops : Int} {ps : List (Int × Int)} (h : PnX X g m a l b ops ps) {r : Nat} (h1 : a ≤ r) (h2 : r < b) (hg : g ≤ 1000) : Follows X r 1 1 := by
  obtain ⟨a1, a2, a3, a4⟩ := h.al
  refine ⟨.inr ⟨by omega, h.st (by omega) (by omega)⟩, ?_, by rw [h.c.n]; decide, by rw [h.c.d]; decide⟩
  rw [h.c.g]
  exact MRight.mk' (by omega)

/-- A commit, where what waits is kept: by a pin of 3, or as nothing waits. -/
theorem PnX.commit {X : PG} {g m a l b : Nat} {ops : Int} {ps : List (Int × Int)} (h : PnX X g m a l b ops ps) (hk : ps = [(3, 1)] ∨ a = 2) (r : Nat) : PnX (X.commit r 1 1) (g + 1) m a b b (ops + 3) ps := by
  obtain ⟨⟨c1, c2, c3, c4, c5, c6, c7, c8, c9, c10, c11⟩, h2, h3, h4, h5, a1, a2, a3, a4⟩ := h
  have hw : ∀ x, (X.commit r 1 1).F.waits x = X.F.waits x := fun x => by
    show (match X.F.waits x with | some g => if decide (g ≤ (X.com0 r 1 1).low) then none else some g | none => none) = _
    cases hx : X.F.waits x with
    | none => rfl
    | some w =>
      have h6 := (h5 x w hx).1
      rcases hk with hk | hk
      · have e : (X.com0 r 1 1).low = 3 := by unfold PG.low; rw [show (X.com0 r 1 1).pins = X.pins from rfl, c7, hk]
        simp only [e]
        rw [decide_eq_false (by omega)]
        rfl
      · have := h4 x
        rw [hx, hk] at this
        exfalso
        have hh : (decide ((2 : Int) ≤ x) && decide (x < ((2 : Nat) : Int))) = true := this.symm
        rw [Bool.and_eq_true, decide_eq_true_iff, decide_eq_true_iff] at hh
        omega
  refine ⟨⟨c1, c2, by show X.g + 1 = _; omega, rfl, rfl, c6, c7, PG.comS_left c8 _ _ _, ?_, c10, fun j hj => ?_⟩, h2, fun x => ?_, fun x => by rw [hw]; exact h4 x, fun x w hx => by
    rw [hw] at hx
    have h6 := h5 x w hx
    exact ⟨h6.1, by omega, fun _ => by omega⟩, by omega⟩
  · show (X.comS r 1 1).ops ≤ _
    rw [PG.comS_ops]
    omega
  · show (X.comS r 1 1).read _ = _
    rw [PG.comS_read X r 1 1 (by omega)]
    exact c11 j hj
  · show false = _
    by_cases h1 : (b : Int) ≤ x
    · rw [decide_eq_false (show ¬ x < (b : Int) by omega), Bool.and_false]
    · rw [decide_eq_false h1]; rfl

/-- With another list of pins. -/
theorem PnX.pins {X : PG} {g m a l b : Nat} {ops : Int} {ps qs : List (Int × Int)} (h : PnX X g m a l b ops ps) : PnX { X with pins := qs } g m a l b ops qs :=
  ⟨⟨h.c.lo, h.c.hi, h.c.g, h.c.n, h.c.d, h.c.fl, rfl, h.c.left, h.c.ops, h.c.size, h.c.rd⟩, h.us, h.L, h.w1, h.w2, h.al⟩

theorem upFrom_used {X : PG} {g m a l b : Nat} {ops : Int} {ps : List (Int × Int)} (h : PnX X g m a l b ops ps) (hF : X.F.Ok) : X.F.nUsed = b - a ∧ X.F.nWaits = a - 2 := by
  obtain ⟨a1, a2, a3, a4⟩ := h.al
  constructor
  · rw [hF.used_len (upFrom_nodup a (b - a)) fun k => ?_, upFrom_length]
    rw [mem_upFrom, h.us, Bool.and_eq_true, decide_eq_true_iff, decide_eq_true_iff]
    omega
  · unfold FL.nWaits
    rw [countP_list (m := upFrom 2 (a - 2)) _ X.F.pages_nodup (upFrom_nodup 2 (a - 2)) fun k => ?_, upFrom_length]
    rw [mem_upFrom, h.w1, Bool.and_eq_true, decide_eq_true_iff, decide_eq_true_iff, FL.mem_pages, h.c.lo, h.c.hi]
    omega

/-- Behind the last Unpin nothing waits. -/
theorem settle_free {X : PG} {g m a l b : Nat} {ops : Int} {ps : List (Int × Int)} (h : PnX X g m a l b ops ps) (hps : X.pins = []) (hw : ∀ x w, X.F.waits x = some w → w ≤ (g : Int)) (hF : X.settle.F.Ok) : X.settle.F.nUsed = b - a ∧ X.settle.F.nWaits = 0 ∧ X.settle.F.nFree = 98 - (b - a : Nat) := by
  obtain ⟨a1, a2, a3, a4⟩ := h.al
  have hlow : X.low = (g : Int) := by unfold PG.low; rw [hps, h.c.g]
  have h0 : ∀ k, X.settle.F.waits k = none := fun k => by
    show (match X.F.waits k with | some g => if decide (g ≤ X.low) then none else some g | none => none) = none
    cases hk : X.F.waits k with
    | none => rfl
    | some w =>
      simp only
      rw [hlow, decide_eq_true (hw k w hk)]
      rfl
  have hu : X.settle.F.nUsed = b - a := by
    rw [hF.used_len (upFrom_nodup a (b - a)) fun k => ?_, upFrom_length]
    rw [mem_upFrom]
    show _ ↔ X.F.used k = true
    rw [h.us, Bool.and_eq_true, decide_eq_true_iff, decide_eq_true_iff]
    omega
  have hnw := FL.no_waits h0
  refine ⟨hu, hnw, ?_⟩
  unfold FL.nFree
  rw [hu, hnw]
  show X.F.hi - X.F.lo - _ - _ = _
  rw [h.c.lo, h.c.hi]
  omega

theorem PnX.new {S : SD} (hz : S.size = 100) (hl : S.left = -1) (ho : S.ops ≤ 10) : PnX (PG.new S 2 0 1 1) 2 0 2 2 2 10 [] := by
  have hf : ∀ x : Int, false = (decide ((2 : Int) ≤ x) && decide (x < (2 : Int))) := fun x => by
    by_cases h1 : (2 : Int) ≤ x
    · rw [decide_eq_false (show ¬ x < (2 : Int) by omega), Bool.and_false]
    · rw [decide_eq_false h1, Bool.false_and]
  exact ⟨⟨rfl, hz, rfl, rfl, rfl, rfl, rfl, hl, ho, hz, fun j hj => by omega⟩, fun x => hf x, fun x => hf x, fun x => hf x, fun x w hx => (by cases hx), by omega⟩

end Go.Proofs.YtmlnpgbnbchbkaaDoor

set_option linter.unusedVariables false
set_option maxRecDepth 100000
namespace Go.Proofs.YtmlnpgbnbchbkaaDoor
open Go.RowKit

/-- The types of a pager's blocks. -/
def grTypes : List TypeId := [71, 86, 94, 5, 103, 82]

theorem GrIs.types {w w' : World} {B P pd lm fm pl um wm la : Nat} {v : Value} {X : PG} {K : Nat → Obj → Bool} (h : GrIs w B P pd lm fm pl um wm la v X) (hk : Keeps K w w') (h1 : ∀ t ∈ grTypes, ∀ i c f, K i (.cells c t f) = false) (h2 : ∀ i es c, K i (.map es c) = false) : GrIs w' B P pd lm fm pl um wm la v X :=
  ⟨hk.stay h.blk (h1 _ (by simp [grTypes]) _ _ _), h.disk.keeps hk (fun _ _ _ => h1 _ (by simp [grTypes]) _ _ _) (fun _ _ _ => h1 _ (by simp [grTypes]) _ _ _) (fun _ _ _ => h1 _ (by simp [grTypes]) _ _ _) (fun _ _ => h2 _ _ _) (fun _ _ => h2 _ _ _), h.list.keeps hk (fun _ => h1 _ (by simp [grTypes]) _ _ _) (fun _ _ => h2 _ _ _) (fun _ _ => h2 _ _ _), h.mla.keeps hk (fun _ _ => h2 _ _ _), pins_keeps h.pins hk (fun _ _ _ => h1 _ (by simp [grTypes]) _ _ _), h.bP, h.bu, h.bw, h.ba, h.nlm, h.nfm, h.nla, h.g0⟩
theorem isTy_off {T : TypeId} (hT : T ∉ grTypes) : ∀ t ∈ grTypes, ∀ i c f, isTy T i (.cells c t f) = false := fun t ht i c f => by
  show (t == T) = false
  rw [beq_eq_false_iff_ne]
  rintro rfl
  exact hT ht

/-- What lies below a block stays, but for a pager's. -/
structure Stay (B : Nat) (w w' : World) : Prop where
  size : w.heap.size ≤ w'.heap.size
  stay : ∀ {i : Nat} {o : Obj}, i < B → w.heap[i]? = some o → ofGr i o = false → w'.heap[i]? = some o
theorem Stay.refl (B : Nat) (w : World) : Stay B w w := ⟨Nat.le_refl _, fun _ h _ => h⟩
theorem Stay.trans {B : Nat} {w w1 w2 : World} (h : Stay B w w1) (h' : Stay B w1 w2) : Stay B w w2 := ⟨Nat.le_trans h.size h'.size, fun hi h1 h2 => h'.stay hi (h.stay hi h1 h2) h2⟩
theorem Stay.keeps {B : Nat} {w w' : World} (h : Keeps ofGr w w') : Stay B w w' := ⟨h.size, fun _ h1 h2 => h.stay h1 h2⟩
theorem Stay.below {B : Nat} {w w' : World} (h : Below w.heap.size w w') : Stay B w w' := Stay.keeps (Keeps.below h)
theorem Stay.grown {B : Nat} {w w' : World} {row : Option Nat} (h : w.grownBy w' row) (hr : ∀ b, row = some b → B ≤ b) : Stay B w w' :=
  ⟨h.size, fun {i o} hi h1 _ => by
    rw [h.block i (Array.getElem?_eq_some_iff.1 h1).1 (fun e => by have := hr i e.symm; omega)]
    exact h1⟩

/-- Whole numbers that lie in blocks below B. -/
def Lie (B : Nat) (w : World) (v : Value) (l : List Int) : Prop := ∃ q c, v = .slice q l.length c ∧ l.length ≤ c ∧ c ≤ 9223372036854775807 ∧ ∀ i x, l[i]? = some x → ∃ b o cs fr, q = some ⟨b, o, none⟩ ∧ b < B ∧ w.heap[b]? = some (.cells cs 3 fr) ∧ cs[o + i]? = some (.int .i64 x)
theorem ofGr_int (i : Nat) (c : Array Value) (f : Nat × Nat) : ofGr i (.cells c 3 f) = false := by
  show ((3 : TypeId) == 86 || (3 : TypeId) == 94 || (3 : TypeId) == 71 || (3 : TypeId) == 82) = false
  decide
theorem Lie.stay {B : Nat} {w w' : World} {v : Value} {l : List Int} (h : Lie B w v l) (hs : Stay B w w') : Lie B w' v l := by
  obtain ⟨q, c, hv, hc, hm, h1⟩ := h
  refine ⟨q, c, hv, hc, hm, fun i x hx => ?_⟩
  obtain ⟨b, o, cs, fr, h2, h3, h4, h5⟩ := h1 i x hx
  exact ⟨b, o, cs, fr, h2, h3, hs.stay h3 h4 (ofGr_int _ _ _), h5⟩
theorem Lie.mono {B B' : Nat} {w : World} {v : Value} {l : List Int} (h : Lie B w v l) (hB : B ≤ B') : Lie B' w v l := by
  obtain ⟨q, c, hv, hc, hm, h1⟩ := h
  refine ⟨q, c, hv, hc, hm, fun i x hx => ?_⟩
  obtain ⟨b, o, cs, fr, h2, h3, h4⟩ := h1 i x hx
  exact ⟨b, o, cs, fr, h2, by omega, h4⟩
theorem Lie.at {B : Nat} {w : World} {q : Option Addr} {n c : Nat} {l : List Int} (h : Lie B w (.slice q n c) l) {i : Nat} {x : Int} (hx : l[i]? = some x) : ∃ b o, q = some ⟨b, o, none⟩ ∧ w.cell? ⟨b, o + i, none⟩ = some (.int .i64 x) := by
  obtain ⟨q', c', hv, _, _, h1⟩ := h
  cases hv
  obtain ⟨b, o, cs, fr, h2, _, h4, h5⟩ := h1 i x hx
  exact ⟨b, o, h2, by rw [Joins.cell_of_block h4]; exact h5⟩
theorem Lie.form {B : Nat} {w : World} {v : Value} {l : List Int} (h : Lie B w v l) : ∃ q n c, v = .slice q n c ∧ n = l.length ∧ n ≤ c ∧ c ≤ 9223372036854775807 := by
  obtain ⟨q, c, hv, hc, hm, _⟩ := h
  exact ⟨q, _, c, hv, rfl, hc, hm⟩
theorem OwnI.lie {w : World} {B : Nat} {v : Value} {l : List Int} (h : OwnI w B v l) : Lie w.heap.size w v l := by
  rcases h.2 with ⟨rfl, h0⟩ | ⟨g, cap, cur, rfl, hb, hg, hnc, hcm, hcs, htake⟩
  · obtain rfl := List.eq_nil_of_length_eq_zero h0
    exact ⟨none, 0, rfl, Nat.le_refl _, by omega, fun i x hx => by simp at hx⟩
  · refine ⟨some ⟨g, 0, none⟩, cap, rfl, hnc, by unfold maxLen at hcm; omega, fun i x hx => ⟨g, 0, cur, (0, 0), rfl, (Array.getElem?_eq_some_iff.1 hg).1, hg, ?_⟩⟩
    have h1 := h.cells (g := g) rfl i (.int .i64 x) (by simp [i64s, hx])
    rw [Addr.add_lit, Nat.zero_add, Joins.cell_of_block hg] at h1
    rw [Nat.zero_add]
    exact h1
theorem OwnI.keepsG {w w' : World} {B : Nat} {v : Value} {l : List Int} (h : OwnI w B v l) (hk : Keeps ofGr w w') : OwnI w' B v l := by
  refine ⟨h.1, ?_⟩
  rcases h.2 with h0 | ⟨g, cap, cur, hv, h1, hg, h2⟩
  · exact .inl h0
  · exact .inr ⟨g, cap, cur, hv, h1, hk.stay hg (ofGr_int _ _ _), h2⟩
theorem OwnI.block {w : World} {B : Nat} {v : Value} {l : List Int} (h : OwnI w B v l) {b : Nat} (hb : v.ownBlock = some b) : B ≤ b ∧ ∃ cur, w.heap[b]? = some (.cells cur 3 (0, 0)) := by
  rcases h.2 with ⟨rfl, _⟩ | ⟨g, cap, cur, rfl, h1, h2, _⟩
  · cases hb
  · cases hb
    exact ⟨h1, _, h2⟩
theorem int_off : 3 ∉ grTypes := by decide
/-- An int was appended. -/
theorem AbM.app {w wr w' : World} {P p B : Nat} {X : PG} (h : AbM w wr P p X) {v : Value} {l : List Int} (ho : OwnI wr B v l) (hB : w.heap.size ≤ B) (hg : wr.grownBy w' v.ownBlock) : AbM w w' P p X := by
  obtain ⟨lm, fm, pl, um, wm, la, vv, hI⟩ := h.at_
  have hk : Keeps (isTy 3) wr w' := Keeps.grown hg fun b o hb ho' => by
    obtain ⟨_, cur, hc⟩ := ho.block hb
    rw [hc] at ho'
    cases ho'
    simp [isTy]
  exact ⟨⟨lm, fm, pl, um, wm, la, vv, hI.types hk (isTy_off int_off) (fun _ _ _ => rfl)⟩, h.below.grown hg h.below.size fun k hk' => by have := (ho.block hk').1; omega⟩

/-- A step, with what stays. -/
structure AbS (w wr w' : World) (P p : Nat) (X : PG) : Prop where
  m : AbM w w' P p X
  k : Keeps ofGr wr w'
theorem AbM.stepS {w wr w' : World} {P p : Nat} {X Y : PG} (h : AbM w wr P p X) (hs : GrStep wr w' w.heap.size P p Y) : AbS w wr w' P p Y := ⟨h.step hs, hs.keeps⟩

theorem PnX.fit {X : PG} {g m a l b : Nat} {ops : Int} {ps : List (Int × Int)} (h : PnX X g m a l b ops ps) (ho : ops ≤ 10000) : Fit X.S 999999990 :=
  ⟨by rw [h.c.left]; decide, by rw [h.c.left]; decide, by have := h.c.ops; omega⟩

theorem pn_lay {w wr : World} (hT : Tab w) {P p : Nat} {X : PG} (h : AbM w wr P p X) {g m a l b : Nat} {ops : Int} {ps : List (Int × Int)} (ha : PnX X g m a l b ops ps) (ho : ops ≤ 10000) (hg : g ≤ 1000) {q : Option Addr} {n c : Nat} {bs : List UInt8} (hl : GBytes wr w.heap.size q bs) (hn : n = bs.length) (hnc : n ≤ c) (hc : c ≤ 9223372036854775807) (h493 : n ≤ 493) :
    Calls Tryd.prog 8 #[.pointer (some ⟨P, 0, none⟩), .int .u8 5, .slice q n c] wr fun e w' => e = .returned (.tuple #[.int .i64 (b : Int), .int .i64 0]) ∧ AbS w wr w' P p (X.lay (b : Int) (pageB 5 b (X.g + 1) bs)) := by
  obtain ⟨lm, fm, pl, um, wm, la, v, hI⟩ := h.at_
  have hh := grLay_ok (k := b) (hT.below hT.lt h.below) hT.lt hI ha.c.fl ha.least (by rw [ha.c.left]; decide) (by rw [ha.c.left]; decide) (by rw [ha.c.left]; decide) (by have := ha.c.ops; omega) (by rw [ha.c.hi, ha.c.size]) (by rw [ha.c.g]; omega) 5 hl hn hnc hc h493
  exact hh.mono fun e w' ⟨he, hs⟩ => ⟨he, h.stepS hs⟩
theorem pn_drop {w wr : World} {P p : Nat} {X : PG} (h : AbM w wr P p X) {g m a l b : Nat} {ops : Int} {ps : List (Int × Int)} (ha : PnX X g m a l b ops ps) (hal : a < l) (hlb : l < b) (hg : 3 ≤ g) :
    Calls Tryd.prog 9 #[.pointer (some ⟨P, 0, none⟩), .int .i64 (a : Int)] wr fun e w' => e = .returned (.int .i64 0) ∧ AbS w wr w' P p (X.drop (a : Int)) := by
  obtain ⟨lm, fm, pl, um, wm, la, v, hI⟩ := h.at_
  have hh := grDrop_any hI (ha.laid (a : Int))
  rw [(ha.drop hal hlb hg).2] at hh
  exact hh.mono fun e w' ⟨he, hs⟩ => ⟨he, h.stepS hs⟩
theorem pn_commit {w wr : World} (hT : Tab w) {P p : Nat} {X : PG} (h : AbM w wr P p X) {g m a l b : Nat} {ops : Int} {ps : List (Int × Int)} (ha : PnX X g m a l b ops ps) (ho : ops ≤ 10000) (hg : g ≤ 1000) {r : Nat} (h1 : a ≤ r) (h2 : r < b) :
    Calls Tryd.prog 10 #[.pointer (some ⟨P, 0, none⟩), .int .i64 (r : Int), .int .i64 1, .int .i64 1] wr fun e w' => e = .returned (.int .i64 0) ∧ AbS w wr w' P p (X.commit r 1 1) := by
  obtain ⟨lm, fm, pl, um, wm, la, v, hI⟩ := h.at_
  exact (grCommit_ok (hT.below hT.lt h.below) hT.lt hI ha.c.fl (ha.fit ho) (by rw [ha.c.size]; decide) ha.c.left (ha.follows h1 h2 hg)).mono fun e w' ⟨he, hs⟩ => ⟨he, h.stepS hs⟩
theorem pn_pin {w wr : World} {P p : Nat} {X : PG} (h : AbM w wr P p X) {m a l b : Nat} {ops : Int} (ha : PnX X 3 m a l b ops []) :
    Calls Tryd.prog 14 #[.pointer (some ⟨P, 0, none⟩)] wr fun e w' => e = .returned (.tuple #[.int .i64 3, .int .i64 0]) ∧ AbS w wr w' P p { X with pins := [(3, 1)] } := by
  obtain ⟨lm, fm, pl, um, wm, la, v, hI⟩ := h.at_
  have hh := grPin_new hI (by rw [ha.c.ps]; rfl) (by rw [ha.c.ps]; decide)
  have hg3 : ((X.g : Nat) : Int) = 3 := by rw [ha.c.g]; rfl
  rw [ha.c.ps, hg3] at hh
  exact hh.mono fun e w' ⟨he, hs⟩ => ⟨he, h.stepS hs⟩
theorem pn_read {w wr : World} (hT : Tab w) {P p : Nat} {X : PG} (h : AbM w wr P p X) {g m a l b : Nat} {ops : Int} {ps : List (Int × Int)} (ha : PnX X g m a l b ops ps) {j : Nat} (hj : j < m) (hb : 2 + j < b) :
    Calls Tryd.prog 45 #[.pointer (some ⟨P, 0, none⟩), .int .i64 ((2 + j : Nat) : Int)] wr (PgReadPost wr 5 [UInt8.ofNat j]) := by
  obtain ⟨lm, fm, pl, um, wm, la, v, hI⟩ := h.at_
  exact grRead (k := 2 + j) (kind := 5) (gen := 3) (l := [UInt8.ofNat j]) (hT.below hT.lt h.below) hI (ha.st_any (by omega) (by omega)) (by rw [ha.c.size]; have := ha.al; omega) (ha.c.rd j hj) (by simp) (by omega)
theorem pn_counts {w wr : World} {P p : Nat} {X : PG} (h : AbM w wr P p X) {g m a l b : Nat} {ops : Int} {ps : List (Int × Int)} (ha : PnX X g m a l b ops ps) :
    Calls Tryd.prog 21 #[.pointer (some ⟨P, 0, none⟩)] wr fun e w' => e = .returned (.int .i64 ((a - 2 : Nat) : Int)) ∧ wr = w' := by
  obtain ⟨lm, fm, pl, um, wm, la, v, hI⟩ := h.at_
  have r := grWaiting hI
  rw [(upFrom_used ha hI.list.ok).2] at r
  exact r
/-- Unpin of the one pin, and what is told behind it. -/
structure PnEnd (w wr : World) (P p : Nat) (Y : PG) (n : Nat) : Prop where
  m : AbM w wr P p Y
  un : Calls Tryd.prog 16 #[.pointer (some ⟨P, 0, none⟩), .int .i64 3] wr fun e w' => e = .returned (.int .i64 13) ∧ Below wr.heap.size wr w'
  wt : ∀ w', Below wr.heap.size wr w' → Calls Tryd.prog 21 #[.pointer (some ⟨P, 0, none⟩)] w' fun e w2 => e = .returned (.int .i64 0) ∧ w' = w2
  us : ∀ w', Below wr.heap.size wr w' → Calls Tryd.prog 20 #[.pointer (some ⟨P, 0, none⟩)] w' fun e w2 => e = .returned (.int .i64 (n : Int)) ∧ w' = w2
  fr : ∀ w', Below wr.heap.size wr w' → Calls Tryd.prog 19 #[.pointer (some ⟨P, 0, none⟩)] w' fun e w2 => e = .returned (.int .i64 (98 - (n : Int))) ∧ Below w'.heap.size w' w2
theorem pn_unpin {w wr : World} {P p : Nat} {X : PG} (h : AbM w wr P p X) {g m a b : Nat} {ops : Int} (ha : PnX X g m a b b ops [(3, 1)]) :
    Calls Tryd.prog 16 #[.pointer (some ⟨P, 0, none⟩), .int .i64 3] wr fun e w' => e = .returned (.int .i64 0) ∧ ∃ Y, PnEnd w w' P p Y (b - a) := by
  obtain ⟨lm, fm, pl, um, wm, la, v, hI⟩ := h.at_
  have hh := grUnpin_gone hI (gen := 3) (i := 0) (x := (3, 1)) (by rw [ha.c.ps]; rfl) (by rw [ha.c.ps]; rfl) rfl
  refine hh.mono fun e w' ⟨he, hs⟩ => ⟨he, ?_⟩
  rw [ha.c.ps] at hs
  have hM := h.step hs
  obtain ⟨lm, fm, pl, um, wm, la, v, hJ⟩ := hM.at_
  obtain ⟨u1, u2, u3⟩ := settle_free (X := { X with pins := [] }) ha.pins rfl (fun x w hw => (ha.w2 x w hw).2.2 rfl) hJ.list.ok
  refine ⟨_, hM, grUnpin_none hJ rfl, fun w2 hb => ?_, fun w2 hb => ?_, fun w2 hb => ?_⟩
  · have r := grWaiting (hJ.below hb)
    change Calls _ _ _ _ (fun e w3 => e = .returned (.int .i64 (({ X with pins := [] } : PG).settle.F.nWaits : Int)) ∧ w2 = w3) at r
    rw [u2] at r
    exact r
  · have r := grUsed (hJ.below hb)
    change Calls _ _ _ _ (fun e w3 => e = .returned (.int .i64 (({ X with pins := [] } : PG).settle.F.nUsed : Int)) ∧ w2 = w3) at r
    rw [u1] at r
    exact r
  · have r := grFree (hJ.below hb)
    change Calls _ _ _ _ (fun e w3 => e = .returned (.int .i64 ({ X with pins := [] } : PG).settle.F.nFree) ∧ Below w2.heap.size w2 w3) at r
    rw [u3] at r
    exact r

end Go.Proofs.YtmlnpgbnbchbkaaDoor

