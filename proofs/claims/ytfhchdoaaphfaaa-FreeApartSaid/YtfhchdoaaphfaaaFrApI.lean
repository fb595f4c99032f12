/-
  FreeApart: the law's own arrays, and how they follow the list.
-/
import Derived.Test.YtfhchdoaaphfaaaFrPure
import Derived.Test.YtfhchdoaaphfaaaFrActs
set_option linter.unusedVariables false
set_option linter.unusedSimpArgs false
set_option maxRecDepth 100000
namespace Go.Proofs.Ytfhchdoaaphfaaa
open Go.RowKit

/-- An array of 40 ints of the law's own. -/
def Arr (w : World) (b : Nat) (S : List Int) : Prop := w.heap[b]? = some (.cells (i64s S).toArray 39 (0, 0)) ∧ S.length = 40

theorem Arr.cell {w : World} {b : Nat} {S : List Int} (h : Arr w b S) {k : Nat} {x : Int} (hk : S[k]? = some x) : w.cell? ⟨b, k, none⟩ = some (.int .i64 x) := by
  rw [Joins.cell_of_block h.1]
  simp [i64s, hk]
theorem Arr.unfrozen {w : World} {b : Nat} {S : List Int} (h : Arr w b S) (k : Nat) : w.frozen? ⟨b, k, none⟩ = false := Joins.unfrozen_of_block h.1 k
theorem Arr.set {w : World} {b : Nat} {S : List Int} (h : Arr w b S) (k : Nat) (v : Int) : Arr (w.setCell ⟨b, k, none⟩ (.int .i64 v)) b (S.set k v) ∧ w.grownBy (w.setCell ⟨b, k, none⟩ (.int .i64 v)) (some b) := by
  rw [setCell_eq_setRow w b k _ _ (0, 0) _ h.1]
  refine ⟨⟨?_, by rw [List.length_set]; exact h.2⟩, ⟨rfl, rfl, rfl, by simp [World.setRow], fun i _ hi => setRow_other w b i _ (fun e => hi (by rw [e]))⟩⟩
  rw [setRow_heap w b _ _ _ _ h.1]
  simp [i64s, List.map_set]
theorem Arr.only {w w' : World} {b : Nat} {S : List Int} {bs : List Nat} (h : Arr w b S) (ho : Only bs w w') (hb : b ∉ bs) : Arr w' b S :=
  ⟨by rw [ho.block (Array.getElem?_eq_some_iff.1 h.1).1 hb]; exact h.1, h.2⟩
theorem Arr.start : (i64s (List.replicate 40 0)).toArray = #[.int .i64 0, .int .i64 0, .int .i64 0, .int .i64 0, .int .i64 0, .int .i64 0, .int .i64 0, .int .i64 0, .int .i64 0, .int .i64 0, .int .i64 0, .int .i64 0, .int .i64 0, .int .i64 0, .int .i64 0, .int .i64 0, .int .i64 0, .int .i64 0, .int .i64 0, .int .i64 0, .int .i64 0, .int .i64 0, .int .i64 0, .int .i64 0, .int .i64 0, .int .i64 0, .int .i64 0, .int .i64 0, .int .i64 0, .int .i64 0, .int .i64 0, .int .i64 0, .int .i64 0, .int .i64 0, .int .i64 0, .int .i64 0, .int .i64 0, .int .i64 0, .int .i64 0, .int .i64 0] := rfl

/-- What the law's array says of a page. -/
def stOf (F : FL) (k : Int) : Int := if F.used k = true then 1 else if (F.waits k).isSome = true then 2 else 0

structure ApI (w wr : World) (p um wm ps pg N : Nat) (F : FL) (S G : List Int) : Prop where
  fr : FrIs wr p um wm F
  lo : F.lo = 2
  hi : F.hi = 2 + (N : Int)
  sa : Arr wr ps S
  sg : Arr wr pg G
  sy : ∀ k : Nat, 2 ≤ k → k < 2 + N → S[k]? = some (stOf F k)
  gy : ∀ (k : Nat) (g : Int), 2 ≤ k → k < 2 + N → F.waits k = some g → G[k]? = some g
  below : Below w.heap.size w wr
  hp : w.heap.size ≤ p ∧ w.heap.size ≤ um ∧ w.heap.size ≤ wm ∧ w.heap.size ≤ ps ∧ w.heap.size ≤ pg
  ne : ps ≠ pg

theorem Arr.ne_map {w : World} {b u : Nat} {S : List Int} {f : Int → Option Value} (h : Arr w b S) (hm : MapSt w u f) : b ≠ u := by
  rintro rfl
  obtain ⟨⟨_, _, hu, _⟩, _⟩ := hm
  rw [h.1] at hu
  cases hu

/-- The arrays stay where the list changes. -/
theorem ApI.stay {w wr w2 : World} {p um wm ps pg N : Nat} {F : FL} {S G : List Int} (h : ApI w wr p um wm ps pg N F S G) (ho : Only [um, wm] wr w2) : Arr w2 ps S ∧ Arr w2 pg G ∧ Below w.heap.size w w2 := by
  have h1 := h.sa.ne_map h.fr.mu
  have h2 := h.sa.ne_map h.fr.mw
  have h3 := h.sg.ne_map h.fr.mu
  have h4 := h.sg.ne_map h.fr.mw
  obtain ⟨q1, q2, q3, q4, q5⟩ := h.hp
  exact ⟨h.sa.only ho (by simp [h1, h2]), h.sg.only ho (by simp [h3, h4]), h.below.trans (ho.below h.below.size (by simp; omega))⟩

/-- Blocks of the law's own change nothing. -/
theorem ApI.on {w wr w2 : World} {p um wm ps pg N : Nat} {F : FL} {S G : List Int} (h : ApI w wr p um wm ps pg N F S G) (hb : Below wr.heap.size wr w2) : ApI w w2 p um wm ps pg N F S G := by
  obtain ⟨a1, a2, a3⟩ := h.stay (Only.of_below hb)
  exact ⟨h.fr.below hb, h.lo, h.hi, a1, a2, h.sy, h.gy, a3, h.hp, h.ne⟩

theorem ApI.start {w w1 : World} {p um wm N : Nat} (hf : FrIs w1 p um wm (FL.new 2 (2 + (N : Int)))) (hN : N ≤ 32) (hb : Below w.heap.size w w1) (hp : w.heap.size ≤ p ∧ w.heap.size ≤ um ∧ w.heap.size ≤ wm) {o o' : Obj}
    (h1 : o = .cells (i64s (List.replicate 40 0)).toArray 39 (0, 0)) (h2 : o' = .cells (i64s (List.replicate 40 0)).toArray 39 (0, 0)) :
    ApI w ((w1.alloc o).alloc o') p um wm w1.heap.size (w1.heap.size + 1) N (FL.new 2 (2 + (N : Int))) (List.replicate 40 0) (List.replicate 40 0) := by
  subst h1 h2
  have hs := hb.size
  have e1 : (w1.alloc (.cells (i64s (List.replicate 40 0)).toArray 39 (0, 0))).heap.size = w1.heap.size + 1 := by simp
  refine ⟨hf.below (sbox2 _ _ _), rfl, rfl, ⟨?_, rfl⟩, ⟨?_, rfl⟩, fun k h1 h2 => ?_, fun k g _ _ h => by simp [FL.new] at h, hb.trans ((sbox2 _ _ _).mono hs), ⟨hp.1, hp.2.1, hp.2.2, hs, by omega⟩, by omega⟩
  · rw [Below.heap_alloc _ _ _ (by omega)]
    exact heap_alloc_new w1 _
  · have := heap_alloc_new (w1.alloc (.cells (i64s (List.replicate 40 0)).toArray 39 (0, 0))) (.cells (i64s (List.replicate 40 0)).toArray 39 (0, 0))
    rw [e1] at this
    exact this
  · have : k < 40 := by omega
    rw [List.getElem?_replicate, if_pos this]
    rfl

/-- What the state of a page says of the law's array. -/
theorem stOf_st {F : FL} {k : Int} (h : F.has k = true) : F.st k = (if stOf F k = 1 then 2 else if stOf F k = 2 then 3 else 1) := by
  unfold FL.st stOf
  rw [h]
  cases F.used k <;> cases (F.waits k).isSome <;> simp
theorem stOf_cases (F : FL) (k : Int) : stOf F k = 0 ∨ stOf F k = 1 ∨ stOf F k = 2 := by
  unfold stOf
  cases F.used k <;> cases (F.waits k).isSome <;> simp
theorem stOf_take (F : FL) (k x : Int) : stOf (F.take k) x = if x = k then 1 else stOf F x := by
  unfold stOf FL.take
  by_cases h : x = k <;> simp [h]
theorem stOf_drop {F : FL} (hF : F.Ok) {k : Int} (hk : F.used k = true) (x : Int) : stOf (F.drop k) x = if x = k then 0 else stOf F x := by
  unfold stOf FL.drop
  by_cases h : x = k
  · simp [h, hF.ha hk]
  · simp [h]
theorem stOf_late {F : FL} (k g x : Int) : stOf (F.late k g) x = if x = k then 2 else stOf F x := by
  unfold stOf FL.late FL.drop
  by_cases h : x = k <;> simp [h]
theorem stOf_leave (F : FL) (such : Int → Bool) (x : Int) : stOf (F.leave such) x = if stOf F x = 2 ∧ F.isSuch such x = true then 0 else stOf F x := by
  unfold stOf FL.leave FL.isSuch
  cases hu : F.used x
  · cases hw : F.waits x with
    | none => simp [hw]
    | some g => cases hg : such g <;> simp [hw, hg]
  · simp

section
variable {w wr : World} {p um wm ps pg N : Nat} {F : FL} {S G : List Int}

theorem ApI.has (h : ApI w wr p um wm ps pg N F S G) {k : Nat} (h1 : 2 ≤ k) (h2 : k < 2 + N) : F.has k = true := by
  rw [FL.has_iff, h.lo, h.hi]
  omega
theorem ApI.cell (h : ApI w wr p um wm ps pg N F S G) {k : Nat} (h1 : 2 ≤ k) (h2 : k < 2 + N) : wr.cell? ⟨ps, k, none⟩ = some (.int .i64 (stOf F k)) := h.sa.cell (h.sy k h1 h2)
theorem ApI.two (h : ApI w wr p um wm ps pg N F S G) {k : Nat} (h1 : 2 ≤ k) (h2 : k < 2 + N) : F.st k = 2 ↔ stOf F k = 1 := by
  rw [stOf_st (h.has h1 h2)]
  rcases stOf_cases F k with e | e | e <;> simp [e]
theorem ApI.one (h : ApI w wr p um wm ps pg N F S G) {k : Nat} (h1 : 2 ≤ k) (h2 : k < 2 + N) : F.st k = 1 ↔ stOf F k = 0 := by
  rw [stOf_st (h.has h1 h2)]
  rcases stOf_cases F k with e | e | e <;> simp [e]
theorem ApI.least_none (h : ApI w wr p um wm ps pg N F S G) (hl : F.least = none) {k : Nat} (h1 : 2 ≤ k) (h2 : k < 2 + N) : stOf F k ≠ 0 := fun e => FL.least_none hl k ((h.one h1 h2).2 e)
theorem ApI.least_some (h : ApI w wr p um wm ps pg N F S G) {x : Int} (hl : F.least = some x) : ∃ K : Nat, x = (K : Int) ∧ 2 ≤ K ∧ K < 2 + N ∧ stOf F K = 0 ∧ ∀ k : Nat, 2 ≤ k → k < K → stOf F k ≠ 0 := by
  obtain ⟨h1, h2⟩ := FL.least_some hl
  have hh : F.has x = true := by
    cases hh : F.has x
    · simp [FL.st, hh] at h1
    · rfl
  have hb := FL.has_iff.1 hh
  rw [h.lo, h.hi] at hb
  obtain ⟨K, rfl⟩ : ∃ K : Nat, x = (K : Int) := ⟨x.toNat, by omega⟩
  refine ⟨K, rfl, by omega, by omega, (h.one (by omega) (by omega)).1 h1, fun k hk1 hk2 e => ?_⟩
  exact h2 k (by rw [h.lo]; omega) (by omega) ((h.one hk1 (by omega)).2 e)

/-- The list changes, the array follows at one place. -/
theorem ApI.put {w2 : World} {F' : FL} {K : Nat} {v : Int} (h : ApI w wr p um wm ps pg N F S G) (hf : FrIs w2 p um wm F') (ho : Only [um, wm] wr w2) (hlo : F'.lo = F.lo) (hhi : F'.hi = F.hi) (hK : K < 2 + N) (hN : N ≤ 32)
    (hst : ∀ x : Nat, stOf F' x = if x = K then v else stOf F x) (hg : ∀ (k : Nat) (g : Int), 2 ≤ k → k < 2 + N → F'.waits k = some g → G[k]? = some g) :
    ApI w (w2.setCell ⟨ps, K, none⟩ (.int .i64 v)) p um wm ps pg N F' (S.set K v) G := by
  obtain ⟨a1, a2, a3⟩ := h.stay ho
  obtain ⟨b1, b2⟩ := a1.set K v
  have hps := a1.ne_map hf.mu
  have hps2 := a1.ne_map hf.mw
  have hpp : p ≠ ps := by
    rintro rfl
    have h1 := hf.blk
    rw [a1.1] at h1
    simp at h1
  refine ⟨hf.only (Only.of_grown b2) (by simpa using hpp) (by simpa using Ne.symm hps) (by simpa using Ne.symm hps2), hlo.trans h.lo, hhi.trans h.hi, b1, a2.only (Only.of_grown b2) (by simpa using Ne.symm h.ne), fun k h1 h2 => ?_, hg, a3.trans ((Only.of_grown b2).below a3.size (by simpa using h.hp.2.2.2.1)), h.hp, h.ne⟩
  rw [hst, List.getElem?_set]
  by_cases e : K = k
  · subst e
    simp [h.sa.2]
    omega
  · rw [if_neg e, if_neg (Ne.symm e)]
    exact h.sy k h1 h2
/-- The list changes, the array needs nothing. -/
theorem ApI.same {w2 : World} (h : ApI w wr p um wm ps pg N F S G) (hf : FrIs w2 p um wm F) (ho : Only [um, wm] wr w2) : ApI w w2 p um wm ps pg N F S G := by
  obtain ⟨a1, a2, a3⟩ := h.stay ho
  exact ⟨hf, h.lo, h.hi, a1, a2, h.sy, h.gy, a3, h.hp, h.ne⟩
/-- A page waits: both arrays follow. -/
theorem ApI.wait {w2 : World} {K : Nat} {g : Int} (h : ApI w wr p um wm ps pg N F S G) (hf : FrIs w2 p um wm (F.late K g)) (ho : Only [um, wm] wr w2) (hK : K < 2 + N) (hN : N ≤ 32) :
    ApI w ((w2.setCell ⟨ps, K, none⟩ (.int .i64 2)).setCell ⟨pg, K, none⟩ (.int .i64 g)) p um wm ps pg N (F.late K g) (S.set K 2) (G.set K g) := by
  obtain ⟨a1, a2, a3⟩ := h.stay ho
  obtain ⟨b1, b2⟩ := a1.set K 2
  have a2' := a2.only (Only.of_grown b2) (by simpa using Ne.symm h.ne)
  obtain ⟨c1, c2⟩ := a2'.set K g
  have hps := a1.ne_map hf.mu
  have hps2 := a1.ne_map hf.mw
  have hpg := a2.ne_map hf.mu
  have hpg2 := a2.ne_map hf.mw
  have hpp : p ≠ ps := by
    rintro rfl
    have h1 := hf.blk
    rw [a1.1] at h1
    simp at h1
  have hpp2 : p ≠ pg := by
    rintro rfl
    have h1 := hf.blk
    rw [a2.1] at h1
    simp at h1
  have o1 := (Only.of_grown b2).mono (cs := [ps, pg]) (by simp)
  have o2 := (Only.of_grown c2).mono (cs := [ps, pg]) (by simp)
  have o := o1.trans o2
  refine ⟨hf.only o (by simp [hpp, hpp2]) (by simp [Ne.symm hps, Ne.symm hpg]) (by simp [Ne.symm hps2, Ne.symm hpg2]), h.lo, h.hi, b1.only (Only.of_grown c2) (by simpa using h.ne), c1, fun k h1 h2 => ?_, fun k y h1 h2 hy => ?_, a3.trans (o.below a3.size (by simpa using ⟨h.hp.2.2.2.1, h.hp.2.2.2.2⟩)), h.hp, h.ne⟩
  · rw [stOf_late, List.getElem?_set]
    by_cases e : K = k
    · subst e
      simp [h.sa.2]
      omega
    · rw [if_neg e, if_neg (by omega)]
      exact h.sy k h1 h2
  · rw [List.getElem?_set]
    by_cases e : K = k
    · subst e
      simp only [FL.late, if_true, Option.some.injEq] at hy
      subst hy
      simp [h.sg.2]
      omega
    · rw [if_neg e]
      refine h.gy k y h1 h2 ?_
      simp only [FL.late] at hy
      rw [if_neg (by omega)] at hy
      exact hy

/-- How many are in use, as the law counts. -/
def cntU (F : FL) (k : Nat) : Nat := (List.range k).countP fun (i : Nat) => decide (stOf F (2 + (i : Int)) = 1)
theorem cntU_succ (F : FL) (k : Nat) : cntU F (k + 1) = cntU F k + if stOf F (2 + (k : Int)) = 1 then 1 else 0 := by
  unfold cntU
  rw [List.range_succ, List.countP_append]
  by_cases h : stOf F (2 + (k : Int)) = 1 <;> simp [List.countP_cons, h]
theorem cntU_le (F : FL) (k : Nat) : cntU F k ≤ k := Nat.le_trans List.countP_le_length (by simp)
theorem ApI.used (h : ApI w wr p um wm ps pg N F S G) : cntU F N = F.nUsed := by
  unfold cntU FL.nUsed FL.pages
  rw [h.lo, h.hi, List.countP_map]
  have e : (2 + (N : Int) - 2).toNat = N := by omega
  rw [e]
  refine List.countP_congr fun i _ => ?_
  unfold stOf
  cases hu : F.used (2 + (i : Int)) <;> cases (F.waits (2 + (i : Int))).isSome <;> simp [hu]
theorem ApI.sums (h : ApI w wr p um wm ps pg N F S G) : ∃ (f : Int) (nu nw : Nat), F.nFree = f ∧ F.nUsed = nu ∧ F.nWaits = nw ∧ 0 ≤ f ∧ f + nu + nw = N := by
  have := h.fr.ok.count
  rw [h.lo, h.hi] at this
  refine ⟨_, _, _, rfl, rfl, rfl, ?_, ?_⟩ <;> (unfold FL.nFree; rw [h.lo, h.hi]; omega)

/-- Settle, as the law's array follows: the first k pages have been looked at. -/
structure SetI (w wr : World) (p um wm ps pg N : Nat) (F F' : FL) (G : List Int) (k : Nat) : Prop where
  ex : ∃ S, Arr wr ps S ∧ ∀ i : Nat, 2 ≤ i → i < 2 + N → S[i]? = some (if i < 2 + k then stOf F' i else stOf F i)
  fr : FrIs wr p um wm F'
  lo : F'.lo = 2
  hi : F'.hi = 2 + (N : Int)
  sg : Arr wr pg G
  gy : ∀ (k : Nat) (g : Int), 2 ≤ k → k < 2 + N → F.waits k = some g → G[k]? = some g
  below : Below w.heap.size w wr
  hp : w.heap.size ≤ p ∧ w.heap.size ≤ um ∧ w.heap.size ≤ wm ∧ w.heap.size ≤ ps ∧ w.heap.size ≤ pg
  ne : ps ≠ pg

theorem SetI.start {w2 : World} {such : Int → Bool} (h : ApI w wr p um wm ps pg N F S G) (hf : FrIs w2 p um wm (F.leave such)) (ho : Only [um, wm] wr w2) : SetI w w2 p um wm ps pg N F (F.leave such) G 0 := by
  obtain ⟨a1, a2, a3⟩ := h.stay ho
  exact ⟨⟨S, a1, fun i h1 h2 => by rw [if_neg (by omega)]; exact h.sy i h1 h2⟩, hf, h.lo, h.hi, a2, h.gy, a3, h.hp, h.ne⟩
theorem SetI.ends {such : Int → Bool} (h : SetI w wr p um wm ps pg N F (F.leave such) G N) : ∃ S, ApI w wr p um wm ps pg N (F.leave such) S G := by
  obtain ⟨S, h1, h2⟩ := h.ex
  refine ⟨S, h.fr, h.lo, h.hi, h1, h.sg, fun k a b => by rw [h2 k a b, if_pos b], fun k g a b hw => h.gy k g a b ?_, h.below, h.hp, h.ne⟩
  simp only [FL.leave] at hw
  cases hf : F.waits k with
  | none => rw [hf] at hw; cases hw
  | some y =>
    rw [hf] at hw
    simp only at hw
    by_cases hy : such y = true
    · rw [if_pos hy] at hw; cases hw
    · rw [if_neg hy] at hw; exact hw
theorem SetI.cell {F' : FL} {k : Nat} (h : SetI w wr p um wm ps pg N F F' G k) (hk : k < N) : wr.cell? ⟨ps, 2 + k, none⟩ = some (.int .i64 (stOf F ((2 + k : Nat) : Int))) := by
  obtain ⟨S, h1, h2⟩ := h.ex
  have := h2 (2 + k) (by omega) (by omega)
  rw [if_neg (by omega)] at this
  exact h1.cell this
theorem SetI.stays {F' : FL} {k : Nat} (h : SetI w wr p um wm ps pg N F F' G k) (he : stOf F' ((2 + k : Nat) : Int) = stOf F ((2 + k : Nat) : Int)) : SetI w wr p um wm ps pg N F F' G (k + 1) := by
  obtain ⟨S, h1, h2⟩ := h.ex
  refine ⟨⟨S, h1, fun i a b => ?_⟩, h.fr, h.lo, h.hi, h.sg, h.gy, h.below, h.hp, h.ne⟩
  rw [h2 i a b]
  by_cases e : i = 2 + k
  · subst e
    rw [if_neg (by omega), if_pos (by omega), he]
  · by_cases e2 : i < 2 + k
    · rw [if_pos e2, if_pos (by omega)]
    · rw [if_neg e2, if_neg (by omega)]
theorem SetI.goes {F' : FL} {k : Nat} (h : SetI w wr p um wm ps pg N F F' G k) (hN : N ≤ 32) (hk : k < N) (he : stOf F' ((2 + k : Nat) : Int) = 0) : SetI w (wr.setCell ⟨ps, 2 + k, none⟩ (.int .i64 0)) p um wm ps pg N F F' G (k + 1) := by
  obtain ⟨S, h1, h2⟩ := h.ex
  obtain ⟨b1, b2⟩ := h1.set (2 + k) 0
  have hps := h1.ne_map h.fr.mu
  have hps2 := h1.ne_map h.fr.mw
  have hpp : p ≠ ps := by
    rintro rfl
    have h1 := h.fr.blk
    rw [(by assumption : Arr wr p S).1] at h1
    simp at h1
  refine ⟨⟨_, b1, fun i a b => ?_⟩, h.fr.only (Only.of_grown b2) (by simpa using hpp) (by simpa using Ne.symm hps) (by simpa using Ne.symm hps2), h.lo, h.hi, h.sg.only (Only.of_grown b2) (by simpa using Ne.symm h.ne), h.gy, h.below.trans ((Only.of_grown b2).below h.below.size (by simpa using h.hp.2.2.2.1)), h.hp, h.ne⟩
  rw [List.getElem?_set]
  by_cases e : 2 + k = i
  · subst e
    have hl := h1.2
    rw [if_pos rfl, if_pos (by omega), if_pos (by omega), he]
  · rw [if_neg e, h2 i a b]
    by_cases e2 : i < 2 + k
    · rw [if_pos e2, if_pos (by omega)]
    · rw [if_neg e2, if_neg (by omega)]
end

/-- The law's page. -/
theorem page_of {pa : Int} {N : Nat} (h1 : -9223372036854775808 ≤ pa) (h2 : pa ≤ 9223372036854775807) (hN : 1 ≤ N) (hN2 : N ≤ 32) :
    ∃ P : Nat, wrap64 (2 + (wrap64 (pa.tmod N + N)).tmod N) = (P : Int) ∧ 2 ≤ P ∧ P < 2 + N := by
  have a1 := Int.tmod_lt_of_pos pa (show (0 : Int) < N by omega)
  have a2 := Int.lt_tmod_of_pos pa (show (0 : Int) < N by omega)
  have e1 : wrap64 (pa.tmod N + N) = pa.tmod N + N := IntWalk.wrap64_in _ (by omega)
  rw [e1]
  have h0 : 0 ≤ pa.tmod N + N := by omega
  have b1 := Int.tmod_lt_of_pos (pa.tmod N + N) (show (0 : Int) < N by omega)
  have b2 := Int.tmod_nonneg (b := (N : Int)) h0
  obtain ⟨t, ht⟩ : ∃ t, t = (pa.tmod N + N).tmod N := ⟨_, rfl⟩
  rw [← ht] at b1 b2 ⊢
  exact ⟨(2 + t).toNat, by rw [IntWalk.wrap64_in _ (by omega)]; omega, by omega, by omega⟩

end Go.Proofs.Ytfhchdoaaphfaaa
