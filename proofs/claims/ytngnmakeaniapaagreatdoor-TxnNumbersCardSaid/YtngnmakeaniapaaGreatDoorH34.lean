/-
  What stays true of a pager, plain: what was committed, what is now, and what is pinned.
  What stays true of a pager: a commit, a cut, a pin, and one that goes; and what is found behind a crash.
  What stays true of a pager: a state is pinned, and goes.
  What is true of a pager that was just made.
-/
import Derived.Test.YtngnmakeaniapaaGreatDoorH33
set_option linter.unusedVariables false
set_option maxRecDepth 100000
namespace Go.Proofs.YtngnmakeaniapaaGreatDoor
open Go.RowKit

/-- A page that a state of generation h has is in use and elder than what was laid, or waits for a later one. -/
def HeldAt (X : PG) (h k : Int) : Prop := (X.F.used k = true ∧ X.L k = false) ∨ ∃ w, X.F.waits k = some w ∧ h < w

/-- Of pins: rising, each as often as there are states of its generation. -/
structure PinsOk (ps : List (Int × Int)) (gens : List Int) (g : Nat) : Prop where
  rise : ps.Pairwise fun a b => a.1 < b.1
  cnt : ∀ x ∈ ps, x.2 = (gens.count x.1 : Int) ∧ 1 ≤ x.2
  mem : ∀ h ∈ gens, ∃ x ∈ ps, x.1 = h
  le : ∀ h ∈ gens, h ≤ (g : Int)

structure PInv (X : PG) (done now : List Page) (pins : List (List Page)) (gens : List Int) : Prop where
  D : DInv X.S X.g X.r X.n X.d done
  ok : X.F.Ok
  failed : X.failed = false
  lo : X.F.lo = 2
  hi : X.F.hi = X.S.size
  used : ∀ k, X.F.used k = true ↔ k ∈ pnos now
  nd : (pnos now).Nodup
  laid : ∀ k, X.L k = true → X.F.used k = true ∧ k ∉ pnos done ∧ ∀ p ∈ pins, k ∉ pnos p
  old : ∀ k, X.F.used k = true → X.L k = false → k ∈ pnos done
  wt : ∀ k w, X.F.waits k = some w → w ≤ (X.g : Int) + 1 ∧ (w = (X.g : Int) + 1 → k ∈ pnos done)
  dn : ∀ k ∈ pnos done, (X.F.used k = true ∧ X.L k = false) ∨ X.F.waits k = some ((X.g : Int) + 1)
  len : pins.length = gens.length
  pin : ∀ (i : Nat) (p : List Page) (h : Int), pins[i]? = some p → gens[i]? = some h → ∀ k ∈ pnos p, HeldAt X h k
  po : PinsOk X.pins gens X.g
  pd : PagesIn X done
  pn : PagesIn X now
  pp : ∀ p ∈ pins, PagesIn X p

theorem PInv.lt {X : PG} {done now : List Page} {pins : List (List Page)} {gens : List Int} (h : PInv X done now pins gens) {p : List Page} (hp : p ∈ pins) {k : Int} (hk : k ∈ pnos p) : X.F.used k = true ∨ (X.F.waits k).isSome = true := by
  obtain ⟨i, hi⟩ := List.getElem?_of_mem hp
  have hl : i < gens.length := by rw [← h.len]; exact (List.getElem?_eq_some_iff.1 hi).1
  rcases h.pin i p gens[i] hi (List.getElem?_eq_getElem hl) k hk with h1 | ⟨w, h1, _⟩
  · exact .inl h1.1
  · exact .inr (by rw [h1]; rfl)

theorem FL.st_free {F : FL} {k : Int} (h : F.st k = 1) : F.lo ≤ k ∧ k < F.hi ∧ F.used k = false ∧ F.waits k = none := by
  have hk : F.has k = true := by
    cases hh : F.has k
    · simp [FL.st, hh] at h
    · rfl
  have hu : F.used k = false := by
    cases hh : F.used k
    · rfl
    · simp [FL.st, hk, hh] at h
  have hw : F.waits k = Option.none := by
    cases hh : F.waits k
    · rfl
    · simp [FL.st, hk, hu, hh] at h
  exact ⟨(FL.has_iff.1 hk).1, (FL.has_iff.1 hk).2, hu, hw⟩
theorem FL.st_any {F : FL} {k : Int} : F.st k ≠ 0 ↔ F.lo ≤ k ∧ k < F.hi := by
  rw [← FL.has_iff]
  unfold FL.st
  cases F.has k <;> cases F.used k <;> cases (F.waits k).isSome <;> simp

/-- Pages stay in where what is read of them is the same, and the list has as many. -/
theorem PagesIn.to {X Y : PG} {ps : List Page} (h : PagesIn X ps) (hs : Y.S.size = X.S.size) (hl : Y.F.lo = X.F.lo) (hh : Y.F.hi = X.F.hi) (hr : ∀ x ∈ ps, Y.S.read x.no = X.S.read x.no) : PagesIn Y ps := by
  intro x hx
  obtain ⟨a1, a2, gen, a3, a4, a5⟩ := h x hx
  exact ⟨by rw [hs]; exact a1, a2, gen, a3, by rw [hr x hx]; exact a4, by rw [FL.st_any, hl, hh]; exact FL.st_any.1 a5⟩

/-- A page is laid. -/
theorem PInv.lay {X : PG} {done now : List Page} {pins : List (List Page)} {gens : List Int} (h : PInv X done now pins gens) {k : Nat} (hk : X.F.least = some (k : Int)) {b : List UInt8} (hb : b.length ≤ 493) (hg : X.g + 1 ≤ 1152921504606846976) :
    PInv (X.lay k (pageB 5 k (X.g + 1) b)) done (now ++ [⟨k, b⟩]) pins gens := by
  obtain ⟨k1, k2, k3, k4⟩ := FL.st_free (FL.least_some hk).1
  have hlo := h.lo
  have hhi := h.hi
  have hlen : (pageB 5 k (X.g + 1) b).length = 512 := pageB_length hb
  have hpn : pnos (now ++ [⟨k, b⟩]) = pnos now ++ [(k : Int)] := by simp [pnos]
  have nn : (k : Int) ∉ pnos now := fun e => by rw [(h.used k).2 e] at k3; cases k3
  have ndn : (k : Int) ∉ pnos done := fun e => by
    rcases h.dn k e with e1 | e1
    · rw [e1.1] at k3; cases k3
    · rw [e1] at k4; cases k4
  have npn : ∀ p ∈ pins, (k : Int) ∉ pnos p := fun p hp e => by
    rcases h.lt hp e with e1 | e1
    · rw [e1] at k3; cases k3
    · rw [k4] at e1; cases e1
  have hread : ∀ j : Int, j ≠ k → (X.lay k (pageB 5 k (X.g + 1) b)).S.read j = X.S.read j := fun j hj => by rw [PG.lay_read X hlen, if_neg hj]
  have hto : ∀ ps, (k : Int) ∉ pnos ps → PagesIn X ps → PagesIn (X.lay k (pageB 5 k (X.g + 1) b)) ps := fun ps hn hp => hp.to rfl rfl rfl fun x hx => hread _ fun e => hn (by rw [← e]; exact mem_pnos.2 ⟨x, hx, rfl⟩)
  have hu : ∀ x, (X.lay k (pageB 5 k (X.g + 1) b)).F.used x = if x = k then true else X.F.used x := fun x => rfl
  have hL : ∀ x, (X.lay k (pageB 5 k (X.g + 1) b)).L x = if x = k then true else X.L x := fun x => rfl
  refine ⟨h.D.write ⟨by omega, by omega⟩ ndn (by omega), h.ok.take (FL.least_some hk).1, h.failed, h.lo, h.hi, fun x => ?_, ?_, fun x hx => ?_, fun x hx hx2 => ?_, h.wt, fun x hx => ?_, h.len, fun i p g hp hi x hx => ?_, h.po, hto _ ndn h.pd, fun x hx => ?_, fun p hp => hto _ (npn p hp) (h.pp p hp)⟩
  · rw [hu, hpn, List.mem_append, List.mem_singleton]
    by_cases e : x = k
    · simp [e]
    · rw [if_neg e, h.used]; simp [e]
  · rw [hpn, List.nodup_append]
    refine ⟨h.nd, by simp, fun x hx y hy e => ?_⟩
    rw [List.mem_singleton] at hy
    exact nn (by rw [← hy, ← e]; exact hx)
  · rw [hL] at hx
    rw [hu]
    by_cases e : x = k
    · rw [if_pos e, e]; exact ⟨rfl, ndn, npn⟩
    · rw [if_neg e] at hx ⊢; exact h.laid x hx
  · rw [hu] at hx
    rw [hL] at hx2
    by_cases e : x = k
    · rw [if_pos e] at hx2; cases hx2
    · rw [if_neg e] at hx hx2; exact h.old x hx hx2
  · have e : x ≠ k := fun e => ndn (e ▸ hx)
    rw [hu, hL, if_neg e, if_neg e]
    exact h.dn x hx
  · have e : x ≠ k := fun e => npn p (List.mem_of_getElem? hp) (e ▸ hx)
    rcases h.pin i p g hp hi x hx with h1 | h1
    · exact .inl (by rw [hu, hL, if_neg e, if_neg e]; exact h1)
    · exact .inr h1
  · rcases List.mem_append.1 hx with hx | hx
    · exact hto _ nn h.pn x hx
    · rw [List.mem_singleton] at hx
      subst hx
      refine ⟨by show (k : Int) < X.S.size; omega, hb, X.g + 1, hg, ?_, FL.st_any.2 ⟨k1, k2⟩⟩
      rw [PG.lay_read X hlen, if_pos rfl]

theorem pnos_erase (now : List Page) (j : Nat) : pnos (now.eraseIdx j) = (pnos now).eraseIdx j := by
  induction now generalizing j with
  | nil => rfl
  | cons y l ih =>
    cases j with
    | zero => rfl
    | succ j => exact congrArg ((y.no : Int) :: ·) (ih j)
theorem mem_eraseIdx_nodup {l : List Int} (h : l.Nodup) {j : Nat} {k : Int} (hj : l[j]? = some k) (x : Int) : x ∈ l.eraseIdx j ↔ x ∈ l ∧ x ≠ k := by
  induction l generalizing j with
  | nil => simp at hj
  | cons y l ih =>
    rw [List.nodup_cons] at h
    cases j with
    | zero =>
      simp only [List.getElem?_cons_zero, Option.some.injEq] at hj
      subst hj
      rw [List.eraseIdx_cons_zero, List.mem_cons]
      constructor
      · intro hx
        exact ⟨.inr hx, fun e => h.1 (e ▸ hx)⟩
      · rintro ⟨hx | hx, h2⟩
        · exact absurd hx h2
        · exact hx
    | succ j =>
      rw [List.getElem?_cons_succ] at hj
      rw [List.eraseIdx_cons_succ, List.mem_cons, List.mem_cons, ih h.2 hj]
      constructor
      · rintro (hx | hx)
        · exact ⟨.inl hx, fun e => h.1 (by rw [← hx, e]; exact List.mem_of_getElem? hj)⟩
        · exact ⟨.inr hx.1, hx.2⟩
      · rintro ⟨hx | hx, h2⟩
        · exact .inl hx
        · exact .inr ⟨hx, h2⟩

/-- A page is dropped. -/
theorem PInv.drop {X : PG} {done now : List Page} {pins : List (List Page)} {gens : List Int} (h : PInv X done now pins gens) {j : Nat} {y : Page} (hj : now[j]? = some y) :
    X.F.st y.no = 2 ∧ X.dropE y.no = 0 ∧ PInv (X.drop y.no) done (now.eraseIdx j) pins gens := by
  have hpj : (pnos now)[j]? = some (y.no : Int) := by unfold pnos; rw [List.getElem?_map, hj]; rfl
  have hu : X.F.used y.no = true := (h.used _).2 (List.mem_of_getElem? hpj)
  have hst : X.F.st y.no = 2 := FL.st_two.2 ⟨FL.has_iff.2 (h.ok.hu hu), hu⟩
  have hmem : ∀ x, x ∈ pnos (now.eraseIdx j) ↔ x ∈ pnos now ∧ x ≠ (y.no : Int) := fun x => by rw [pnos_erase]; exact mem_eraseIdx_nodup h.nd hpj x
  have hnd : (pnos (now.eraseIdx j)).Nodup := by rw [pnos_erase]; exact h.nd.sublist (List.eraseIdx_sublist _ _)
  have hpn : ∀ {Y : PG}, PagesIn Y now → PagesIn Y (now.eraseIdx j) := fun hp x hx => hp x ((List.eraseIdx_sublist _ _).subset hx)
  refine ⟨hst, ?_, ?_⟩
  · unfold PG.dropE
    rw [hst]
    cases X.L y.no <;> rfl
  · unfold PG.drop
    by_cases hL : X.L y.no = true
    · rw [if_pos hL]
      obtain ⟨_, l2, l3⟩ := h.laid _ hL
      have hto : ∀ ps, PagesIn X ps → PagesIn { X with L := fun x => if x = (y.no : Int) then false else X.L x, F := X.F.drop y.no } ps := fun ps hp => hp.to rfl rfl rfl fun x hx => rfl
      refine ⟨h.D, h.ok.drop _, h.failed, h.lo, h.hi, fun x => ?_, hnd, fun x hx => ?_, fun x hx hx2 => ?_, h.wt, fun x hx => ?_, h.len, fun i p g hp hi x hx => ?_, h.po, hto _ h.pd, hpn (hto _ h.pn), fun p hp => hto _ (h.pp p hp)⟩
      · show (if x = (y.no : Int) then false else X.F.used x) = true ↔ _
        rw [hmem]
        by_cases e : x = y.no
        · simp [e]
        · rw [if_neg e, h.used]; simp [e]
      · have hx' : (if x = (y.no : Int) then false else X.L x) = true := hx
        by_cases e : x = y.no
        · rw [if_pos e] at hx'; cases hx'
        · rw [if_neg e] at hx'
          refine ⟨?_, (h.laid x hx').2⟩
          show (if x = (y.no : Int) then false else X.F.used x) = true
          rw [if_neg e]; exact (h.laid x hx').1
      · have hx' : (if x = (y.no : Int) then false else X.F.used x) = true := hx
        have hx2' : (if x = (y.no : Int) then false else X.L x) = false := hx2
        by_cases e : x = y.no
        · rw [if_pos e] at hx'; cases hx'
        · rw [if_neg e] at hx' hx2'; exact h.old x hx' hx2'
      · have e : x ≠ y.no := fun e => l2 (e ▸ hx)
        show ((if x = (y.no : Int) then false else X.F.used x) = true ∧ (if x = (y.no : Int) then false else X.L x) = false) ∨ _
        rw [if_neg e, if_neg e]
        exact h.dn x hx
      · have e : x ≠ y.no := fun e => l3 p (List.mem_of_getElem? hp) (e ▸ hx)
        show ((if x = (y.no : Int) then false else X.F.used x) = true ∧ (if x = (y.no : Int) then false else X.L x) = false) ∨ _
        rw [if_neg e, if_neg e]
        exact h.pin i p g hp hi x hx
    · rw [if_neg hL, if_pos hst]
      have hL' : X.L y.no = false := by cases e : X.L y.no <;> simp_all
      have hd := h.old _ hu hL'
      have hto : ∀ ps, PagesIn X ps → PagesIn { X with F := X.F.late y.no ((X.g : Int) + 1) } ps := fun ps hp => hp.to rfl rfl rfl fun x hx => rfl
      refine ⟨h.D, h.ok.late _ (FL.has_iff.2 (h.ok.hu hu)), h.failed, h.lo, h.hi, fun x => ?_, hnd, fun x hx => ?_, fun x hx hx2 => ?_, fun x w hx => ?_, fun x hx => ?_, h.len, fun i p g hp hi x hx => ?_, h.po, hto _ h.pd, hpn (hto _ h.pn), fun p hp => hto _ (h.pp p hp)⟩
      · show (if x = (y.no : Int) then false else X.F.used x) = true ↔ _
        rw [hmem]
        by_cases e : x = y.no
        · simp [e]
        · rw [if_neg e, h.used]; simp [e]
      · have e : x ≠ y.no := fun e => hL (e ▸ hx)
        refine ⟨?_, (h.laid x hx).2⟩
        show (if x = (y.no : Int) then false else X.F.used x) = true
        rw [if_neg e]; exact (h.laid x hx).1
      · have hx' : (if x = (y.no : Int) then false else X.F.used x) = true := hx
        by_cases e : x = y.no
        · rw [if_pos e] at hx'; cases hx'
        · rw [if_neg e] at hx'; exact h.old x hx' hx2
      · have hx' : (if x = (y.no : Int) then some ((X.g : Int) + 1) else X.F.waits x) = some w := hx
        by_cases e : x = y.no
        · rw [if_pos e] at hx'
          cases hx'
          exact ⟨Int.le_refl _, fun _ => by rw [e]; exact hd⟩
        · rw [if_neg e] at hx'; exact h.wt x w hx'
      · show ((if x = (y.no : Int) then false else X.F.used x) = true ∧ X.L x = false) ∨ (if x = (y.no : Int) then some ((X.g : Int) + 1) else X.F.waits x) = some ((X.g : Int) + 1)
        by_cases e : x = y.no
        · right; rw [if_pos e]
        · rw [if_neg e, if_neg e]; exact h.dn x hx
      · show ((if x = (y.no : Int) then false else X.F.used x) = true ∧ X.L x = false) ∨ ∃ w, (if x = (y.no : Int) then some ((X.g : Int) + 1) else X.F.waits x) = some w ∧ g < w
        by_cases e : x = y.no
        · right
          have := h.po.le g (List.mem_of_getElem? hi)
          exact ⟨_, if_pos e, by omega⟩
        · rw [if_neg e, if_neg e]; exact h.pin i p g hp hi x hx

/-- The state is given up. -/
theorem PInv.abort {X : PG} {done now : List Page} {pins : List (List Page)} {gens : List Int} (h : PInv X done now pins gens) : PInv X.abort done done pins gens := by
  have hto : ∀ ps, PagesIn X ps → PagesIn X.abort ps := fun ps hp => hp.to rfl rfl rfl fun x hx => rfl
  have hok : (X.F.less X.L).Ok := ⟨h.ok.h0, h.ok.h1, h.ok.h2, fun {x} hx => h.ok.hu (k := x) (by have : (X.F.used x && !X.L x) = true := hx; rw [Bool.and_eq_true] at this; exact this.1), h.ok.hw, fun {x} hx => h.ok.ha (k := x) (by have : (X.F.used x && !X.L x) = true := hx; rw [Bool.and_eq_true] at this; exact this.1)⟩
  have hu : ∀ x, X.abort.F.used x = ((X.F.used x && !X.L x) || (match X.F.waits x with | some g => g == (X.g : Int) + 1 | none => false)) := fun x => rfl
  have hw : ∀ x, X.abort.F.waits x = (match X.F.waits x with | some g => if (g == (X.g : Int) + 1) then none else some g | none => none) := fun x => rfl
  have huse : ∀ x, X.abort.F.used x = true ↔ (X.F.used x = true ∧ X.L x = false) ∨ X.F.waits x = some ((X.g : Int) + 1) := fun x => by
    rw [hu]
    cases e : X.F.waits x with
    | none => simp
    | some w => simp
  refine ⟨h.D, hok.back _, h.failed, h.lo, h.hi, fun x => ?_, h.D.nd, fun x hx => ?_, fun x hx hx2 => ?_, fun x w hx => ?_, fun x hx => ?_, h.len, fun i p g hp hi x hx => ?_, h.po, hto _ h.pd, hto _ h.pd, fun p hp => hto _ (h.pp p hp)⟩
  · rw [huse]
    constructor
    · rintro (hx | hx)
      · exact h.old x hx.1 hx.2
      · exact (h.wt x _ hx).2 rfl
    · exact h.dn x
  · cases hx
  · rcases (huse x).1 hx with hx | hx
    · exact h.old x hx.1 hx.2
    · exact (h.wt x _ hx).2 rfl
  · rw [hw] at hx
    cases e : X.F.waits x with
    | none => rw [e] at hx; cases hx
    | some v =>
      rw [e] at hx
      simp only at hx
      split at hx
      · cases hx
      · cases hx; exact h.wt x _ e
  · exact .inl ⟨(huse x).2 (h.dn x hx), rfl⟩
  · rcases h.pin i p g hp hi x hx with h1 | ⟨w, h1, h2⟩
    · exact .inl ⟨(huse x).2 (.inl h1), rfl⟩
    · by_cases e : w = (X.g : Int) + 1
      · exact .inl ⟨(huse x).2 (.inr (by rw [h1, e])), rfl⟩
      · refine .inr ⟨w, ?_, h2⟩
        rw [hw, h1]
        simp [e]

end Go.Proofs.YtngnmakeaniapaaGreatDoor

set_option linter.unusedVariables false
set_option maxRecDepth 100000
namespace Go.Proofs.YtngnmakeaniapaaGreatDoor
open Go.RowKit

theorem SD.cut_read (S : SD) (m k : Int) : (S.cut m).read k = S.read k := rfl

theorem DInv.cut {S : SD} {g r n d : Nat} {done : List Page} (h : DInv S g r n d done) (m : Int) : DInv (S.cut m) g r n d done :=
  ⟨⟨h.ok.s1, h.ok.s2, h.ok.l, h.ok.w, h.ok.n, h.ok.o1⟩, h.size, h.right, h.rs, h.m1, h.m2, h.ws, h.nd, h.pg⟩

/-- The disk is cut. -/
theorem PInv.cut {X : PG} {done now : List Page} {pins : List (List Page)} {gens : List Int} (h : PInv X done now pins gens) (m : Int) : PInv { X with S := X.S.cut m } done now pins gens :=
  have hto : ∀ ps, PagesIn X ps → PagesIn { X with S := X.S.cut m } ps := fun ps hp => hp.to rfl rfl rfl fun x hx => rfl
  ⟨h.D.cut m, h.ok, h.failed, h.lo, h.hi, h.used, h.nd, h.laid, h.old, h.wt, h.dn, h.len, h.pin, h.po, hto _ h.pd, hto _ h.pn, fun p hp => hto _ (h.pp p hp)⟩

/-- The low end is at most each pin's. -/
theorem PinsOk.low {X : PG} {gens : List Int} (h : PinsOk X.pins gens X.g) : X.low ≤ X.g ∧ ∀ g ∈ gens, X.low ≤ g := by
  unfold PG.low
  cases hp : X.pins with
  | nil =>
    refine ⟨Int.le_refl _, fun g hg => ?_⟩
    obtain ⟨x, hx, _⟩ := h.mem g hg
    rw [hp] at hx
    cases hx
  | cons y ps =>
    have hr := h.rise
    rw [hp, List.pairwise_cons] at hr
    have hall : ∀ g ∈ gens, y.1 ≤ g := fun g hg => by
      obtain ⟨x, hx, rfl⟩ := h.mem g hg
      rw [hp, List.mem_cons] at hx
      rcases hx with rfl | hx
      · exact Int.le_refl _
      · have := hr.1 x hx; omega
    refine ⟨?_, hall⟩
    have hy := h.cnt y (by rw [hp]; simp)
    have hc : 0 < gens.count y.1 := by omega
    exact h.le _ (List.count_pos_iff.1 hc)

/-- What waits no more when the list is settled: pages that no state has. -/
theorem PInv.settle {X : PG} {done now : List Page} {pins : List (List Page)} {gens : List Int} (h : PInv X done now pins gens) : PInv X.settle done now pins gens := by
  obtain ⟨hl1, hl2⟩ := h.po.low
  have hto : ∀ ps, PagesIn X ps → PagesIn X.settle ps := fun ps hp => hp.to rfl rfl rfl fun x hx => rfl
  have hw : ∀ x, X.settle.F.waits x = (match X.F.waits x with | some g => if decide (g ≤ X.low) then none else some g | none => none) := fun x => rfl
  have hk : ∀ x w, X.F.waits x = some w → X.low < w → X.settle.F.waits x = some w := fun x w hx hlw => by
    rw [hw, hx]
    simp only
    rw [decide_eq_false (by omega)]
    rfl
  refine ⟨h.D, h.ok.leave _, h.failed, h.lo, h.hi, h.used, h.nd, h.laid, h.old, fun x w hx => ?_, fun x hx => ?_, h.len, fun i p g hp hi x hx => ?_, h.po, hto _ h.pd, hto _ h.pn, fun p hp => hto _ (h.pp p hp)⟩
  · rw [hw] at hx
    cases e : X.F.waits x with
    | none => rw [e] at hx; cases hx
    | some v =>
      rw [e] at hx
      simp only at hx
      split at hx
      · cases hx
      · cases hx; exact h.wt x _ e
  · rcases h.dn x hx with h1 | h1
    · exact .inl h1
    · exact .inr (hk x _ h1 (show X.low < (X.g : Int) + 1 by omega))
  · rcases h.pin i p g hp hi x hx with h1 | ⟨w, h1, h2⟩
    · exact .inl h1
    · have := hl2 g (List.mem_of_getElem? hi)
      exact .inr ⟨w, hk x w h1 (by omega), h2⟩

/-- The state is committed. -/
theorem PInv.commit {X : PG} {done now : List Page} {pins : List (List Page)} {gens : List Int} (h : PInv X done now pins gens) {r n d : Nat} (hr : MRight ((X.g + 1 : Nat) : Int) r n d) (hrs : (r : Int) < X.S.size) : PInv (X.commit r n d) now now pins gens := by
  have hpg : ∀ x ∈ now, 2 ≤ x.no ∧ (x.no : Int) < X.S.size ∧ x.b.length ≤ 493 ∧ ∃ gen, gen ≤ 1152921504606846976 ∧ X.S.read x.no = pageB 5 x.no gen x.b := fun x hx => by
    obtain ⟨a1, a2, gen, a3, a4, a5⟩ := h.pn x hx
    have := FL.st_any.1 a5
    have := h.lo
    exact ⟨by omega, a1, a2, gen, a3, a4⟩
  have hD := h.D.commit hr hrs h.nd hpg
  have hto : ∀ ps, PagesIn X ps → PagesIn (X.com0 r n d) ps := fun ps hp => hp.to rfl rfl rfl fun x hx => by
    obtain ⟨_, _, _, _, _, a5⟩ := hp x hx
    have := FL.st_any.1 a5
    have := h.lo
    exact X.comS_read r n d (by omega)
  have hc : PInv (X.com0 r n d) now now pins gens := by
    refine ⟨hD, h.ok, h.failed, h.lo, h.hi, h.used, h.nd, (fun x hx => by cases hx), fun x hx _ => (h.used x).1 hx, fun x w hx => ?_, fun x hx => .inl ⟨(h.used x).2 hx, rfl⟩, h.len, fun i p g hp hi x hx => ?_, ⟨h.po.rise, h.po.cnt, h.po.mem, fun g hg => ?_⟩, hto _ h.pn, hto _ h.pn, fun p hp => hto _ (h.pp p hp)⟩
    · have h1 := (h.wt x w hx).1
      have e : (((X.com0 r n d).g : Nat) : Int) = (X.g : Int) + 1 := by show ((X.g + 1 : Nat) : Int) = _; omega
      rw [e]
      exact ⟨by omega, fun e => by omega⟩
    · rcases h.pin i p g hp hi x hx with h1 | h1
      · exact .inl ⟨h1.1, rfl⟩
      · exact .inr h1
    · have := h.po.le g hg
      show g ≤ ((X.g + 1 : Nat) : Int)
      omega
  exact hc.settle

/-- A commit follows what was. -/
theorem PInv.follows {X : PG} {done now : List Page} {pins : List (List Page)} {gens : List Int} (h : PInv X done now pins gens) {r n d : Nat} (hr : MRight ((X.g + 1 : Nat) : Int) r n d) (h0 : r = 0 ∨ (r : Int) ∈ pnos now) (hn : X.n ≤ n) (hd : X.d ≤ d) : Follows X r n d ∧ (r : Int) < X.S.size := by
  have hsz := h.D.size
  rcases h0 with h0 | h0
  · exact ⟨⟨.inl h0, hr, hn, hd⟩, by omega⟩
  · have hu := (h.used r).2 h0
    have hh := h.ok.hu hu
    have := h.lo
    have := h.hi
    exact ⟨⟨.inr ⟨by omega, FL.st_two.2 ⟨FL.has_iff.2 hh, hu⟩⟩, hr, hn, hd⟩, by omega⟩

/-- Behind a crash at any time: what was committed. -/
theorem PInv.found {X : PG} {done now : List Page} {pins : List (List Page)} {gens : List Int} (h : PInv X done now pins gens) (keep : List Int) : FoundOn (X.S.crash keep) X.g X.r X.n X.d done := h.D.found keep

/-- Behind a commit that was cut: what was committed, or what was to be. -/
theorem PInv.torn {X : PG} {done now : List Page} {pins : List (List Page)} {gens : List Int} (h : PInv X done now pins gens) {r n d : Nat} (hr : MRight ((X.g + 1 : Nat) : Int) r n d) (hrs : (r : Int) < X.S.size) {S : SD} (hS : CutS X r n d S) (keep : List Int) :
    FoundOn (S.crash keep) X.g X.r X.n X.d done ∨ (FoundOn (S.crash keep) (X.g + 1) r n d now ∧ FoundOn (S.crash keep) (X.g + 1) r n d done) := by
  have hpg : ∀ x ∈ now, 2 ≤ x.no ∧ (x.no : Int) < X.S.size ∧ x.b.length ≤ 493 ∧ ∃ gen, gen ≤ 1152921504606846976 ∧ X.S.read x.no = pageB 5 x.no gen x.b := fun x hx => by
    obtain ⟨a1, a2, gen, a3, a4, a5⟩ := h.pn x hx
    have := FL.st_any.1 a5
    have := h.lo
    exact ⟨by omega, a1, a2, gen, a3, a4⟩
  rcases hS with rfl | rfl | rfl
  · exact .inl (h.D.found keep)
  · exact .inl (h.D.flush.found keep)
  · exact h.D.torn hr hrs h.nd hpg keep

end Go.Proofs.YtngnmakeaniapaaGreatDoor

set_option linter.unusedVariables false
set_option maxRecDepth 100000
namespace Go.Proofs.YtngnmakeaniapaaGreatDoor
open Go.RowKit

theorem count_eraseIdx_int {l : List Int} {j : Nat} {v : Int} (hj : l[j]? = some v) (a : Int) : (l.eraseIdx j).count a + (if v = a then 1 else 0) = l.count a := by
  induction l generalizing j with
  | nil => simp at hj
  | cons y l ih =>
    cases j with
    | zero =>
      simp only [List.getElem?_cons_zero, Option.some.injEq] at hj
      subst hj
      rw [List.eraseIdx_cons_zero, List.count_cons]
      simp
    | succ j =>
      rw [List.getElem?_cons_succ] at hj
      rw [List.eraseIdx_cons_succ, List.count_cons, List.count_cons, ← ih hj]
      omega

theorem rise_idx {ps : List (Int × Int)} (h : ps.Pairwise fun a b => a.1 < b.1) {i k : Nat} {x y : Int × Int} (hi : ps[i]? = some x) (hk : ps[k]? = some y) (e : x.1 = y.1) : i = k := by
  obtain ⟨i1, rfl⟩ := List.getElem?_eq_some_iff.1 hi
  obtain ⟨k1, rfl⟩ := List.getElem?_eq_some_iff.1 hk
  rw [List.pairwise_iff_getElem] at h
  rcases Nat.lt_trichotomy i k with h1 | h1 | h1
  · have := h i k i1 k1 h1; omega
  · exact h1
  · have := h k i k1 i1 h1; omega

theorem incAt_get (ps : List (Int × Int)) (i : Nat) (d : Int) (k : Nat) : (incAt ps i d)[k]? = (ps[k]?).map fun x => if i = k then (x.1, x.2 + d) else x := by
  unfold incAt
  rw [List.getElem?_modify]
  by_cases e : i = k
  · subst e; cases ps[i]? <;> simp
  · cases ps[k]? <;> simp [e]
theorem incAt_fst (ps : List (Int × Int)) (i : Nat) (d : Int) : (incAt ps i d).map (·.1) = ps.map (·.1) := by
  apply List.ext_getElem?
  intro k
  rw [List.getElem?_map, List.getElem?_map, incAt_get]
  cases ps[k]? with
  | none => rfl
  | some x => show some _ = some _; split <;> rfl
theorem rise_fst {ps : List (Int × Int)} : (ps.Pairwise fun a b => a.1 < b.1) ↔ (ps.map (·.1)).Pairwise (· < ·) := by rw [List.pairwise_map]

theorem pidx_get {ps : List (Int × Int)} {g : Int} {i : Nat} (h : pidx ps g = some i) : ∃ x, ps[i]? = some x ∧ x.1 = g := by
  unfold pidx at h
  rw [List.findIdx?_eq_some_iff_getElem] at h
  obtain ⟨h1, h2, _⟩ := h
  exact ⟨ps[i], List.getElem?_eq_getElem h1, by simpa using h2⟩
theorem pidx_not {ps : List (Int × Int)} {g : Int} (h : pidx ps g = none) : ∀ x ∈ ps, x.1 ≠ g := by
  unfold pidx at h
  rw [List.findIdx?_eq_none_iff] at h
  intro x hx
  simpa using h x hx

/-- One more of the newest. -/
theorem PinsOk.pin {ps : List (Int × Int)} {gens : List Int} {g : Nat} (h : PinsOk ps gens g) : PinsOk (match pidx ps g with | some i => incAt ps i 1 | none => ps ++ [((g : Int), 1)]) (gens ++ [(g : Int)]) g := by
  have hle : ∀ a ∈ gens ++ [(g : Int)], a ≤ (g : Int) := fun a ha => by
    rcases List.mem_append.1 ha with ha | ha
    · exact h.le a ha
    · rw [List.mem_singleton] at ha; omega
  have hcnt : ∀ a : Int, (gens ++ [(g : Int)]).count a = gens.count a + (if (g : Int) = a then 1 else 0) := fun a => by
    rw [List.count_append, List.count_singleton]
    simp
  have hpos : ∀ x ∈ ps, x.1 ≤ (g : Int) := fun x hx => h.le _ (List.count_pos_iff.1 (by have := h.cnt x hx; omega))
  cases hp : pidx ps g with
  | some i =>
    obtain ⟨x, hx, hxg⟩ := pidx_get hp
    refine ⟨by rw [rise_fst, incAt_fst, ← rise_fst]; exact h.rise, fun y hy => ?_, fun a ha => ?_, hle⟩
    · obtain ⟨k, hk⟩ := List.getElem?_of_mem hy
      rw [incAt_get] at hk
      cases hz : ps[k]? with
      | none => rw [hz] at hk; cases hk
      | some z =>
        rw [hz] at hk
        have hk' : (if i = k then (z.1, z.2 + 1) else z) = y := Option.some.inj hk
        obtain ⟨c1, c2⟩ := h.cnt z (List.mem_of_getElem? hz)
        by_cases e : i = k
        · rw [if_pos e] at hk'
          subst hk'
          subst e
          rw [hx] at hz
          cases hz
          show x.2 + 1 = (((gens ++ [(g : Int)]).count x.1 : Nat) : Int) ∧ 1 ≤ x.2 + 1
          rw [hcnt, if_pos hxg.symm]
          omega
        · rw [if_neg e] at hk'
          subst hk'
          have : (g : Int) ≠ z.1 := fun e2 => e (rise_idx h.rise hx hz (hxg.trans e2))
          rw [hcnt, if_neg this]
          exact ⟨c1, c2⟩
    · have hex : ∃ y ∈ ps, y.1 = a := by
        rcases List.mem_append.1 ha with ha | ha
        · exact h.mem a ha
        · rw [List.mem_singleton] at ha
          exact ⟨x, List.mem_of_getElem? hx, by rw [hxg, ha]⟩
      obtain ⟨y, hy, hya⟩ := hex
      have : a ∈ (incAt ps i 1).map (·.1) := by rw [incAt_fst]; exact List.mem_map.2 ⟨y, hy, hya⟩
      exact List.mem_map.1 this
  | none =>
    have hn := pidx_not hp
    have hlt : ∀ x ∈ ps, x.1 < (g : Int) := fun x hx => by
      have := hpos x hx
      have := hn x hx
      omega
    refine ⟨?_, fun y hy => ?_, fun a ha => ?_, hle⟩
    · rw [List.pairwise_append]
      exact ⟨h.rise, by simp, fun x hx y hy => by rw [List.mem_singleton] at hy; rw [hy]; exact hlt x hx⟩
    · rcases List.mem_append.1 hy with hy | hy
      · rw [hcnt, if_neg (fun e => hn y hy e.symm)]
        exact h.cnt y hy
      · rw [List.mem_singleton] at hy
        subst hy
        have h0 : gens.count (g : Int) = 0 := List.count_eq_zero.2 fun hm => by
          obtain ⟨x, hx, hxg⟩ := h.mem _ hm
          exact hn x hx hxg
        show (1 : Int) = (((gens ++ [(g : Int)]).count (g : Int) : Nat) : Int) ∧ _
        rw [hcnt, h0, if_pos rfl]
        exact ⟨rfl, by omega⟩
    · rcases List.mem_append.1 ha with ha | ha
      · obtain ⟨x, hx, hxa⟩ := h.mem a ha
        exact ⟨x, List.mem_append_left _ hx, hxa⟩
      · rw [List.mem_singleton] at ha
        exact ⟨((g : Int), 1), by simp, ha.symm⟩

/-- What is known of a pin that is to go. -/
theorem PinsOk.at {ps : List (Int × Int)} {gens : List Int} {g : Nat} (h : PinsOk ps gens g) {j : Nat} {v : Int} (hj : gens[j]? = some v) : ∃ i x, pidx ps v = some i ∧ ps[i]? = some x ∧ x.1 = v ∧ x.2 = (gens.count v : Int) ∧ 1 ≤ x.2 := by
  cases hp : pidx ps v with
  | none =>
    obtain ⟨x, hx, hxv⟩ := h.mem v (List.mem_of_getElem? hj)
    exact absurd hxv (pidx_not hp x hx)
  | some i =>
    obtain ⟨x, hx, hxv⟩ := pidx_get hp
    have := h.cnt x (List.mem_of_getElem? hx)
    rw [hxv] at this
    exact ⟨i, x, rfl, hx, hxv, this.1, this.2⟩

theorem mem_of_eraseIdx {l : List Int} {j : Nat} {a : Int} (h : a ∈ l.eraseIdx j) : a ∈ l := (List.eraseIdx_sublist _ _).subset h

/-- One of many goes. -/
theorem PinsOk.less {ps : List (Int × Int)} {gens : List Int} {g : Nat} (h : PinsOk ps gens g) {j : Nat} {v : Int} (hj : gens[j]? = some v) {i : Nat} {x : Int × Int} (hx : ps[i]? = some x) (hxv : x.1 = v) (h2 : 2 ≤ x.2) : PinsOk (incAt ps i (-1)) (gens.eraseIdx j) g := by
  refine ⟨by rw [rise_fst, incAt_fst, ← rise_fst]; exact h.rise, fun y hy => ?_, fun a ha => ?_, fun a ha => h.le a (mem_of_eraseIdx ha)⟩
  · obtain ⟨k, hk⟩ := List.getElem?_of_mem hy
    rw [incAt_get] at hk
    cases hz : ps[k]? with
    | none => rw [hz] at hk; cases hk
    | some z =>
      rw [hz] at hk
      have hk' : (if i = k then (z.1, z.2 + (-1)) else z) = y := Option.some.inj hk
      obtain ⟨c1, c2⟩ := h.cnt z (List.mem_of_getElem? hz)
      have hc := count_eraseIdx_int hj z.1
      by_cases e : i = k
      · rw [if_pos e] at hk'
        subst hk'
        subst e
        rw [hx] at hz
        cases hz
        rw [if_pos hxv.symm] at hc
        show x.2 + (-1) = (((gens.eraseIdx j).count x.1 : Nat) : Int) ∧ 1 ≤ x.2 + (-1)
        omega
      · rw [if_neg e] at hk'
        subst hk'
        rw [if_neg (fun e2 => e (rise_idx h.rise hx hz (hxv.trans e2)))] at hc
        omega
  · obtain ⟨y, hy, hya⟩ := h.mem a (mem_of_eraseIdx ha)
    have : a ∈ (incAt ps i (-1)).map (·.1) := by rw [incAt_fst]; exact List.mem_map.2 ⟨y, hy, hya⟩
    exact List.mem_map.1 this

/-- The last one goes. -/
theorem PinsOk.gone {ps : List (Int × Int)} {gens : List Int} {g : Nat} (h : PinsOk ps gens g) {j : Nat} {v : Int} (hj : gens[j]? = some v) {i : Nat} {x : Int × Int} (hx : ps[i]? = some x) (hxv : x.1 = v) (h1 : x.2 = 1) : PinsOk (ps.eraseIdx i) (gens.eraseIdx j) g := by
  have hne : ∀ {k z}, k ≠ i → ps[k]? = some z → v ≠ z.1 := fun {k z} hk hz e => hk (rise_idx h.rise hz hx (by rw [hxv, e]))
  refine ⟨h.rise.sublist (List.eraseIdx_sublist _ _), fun y hy => ?_, fun a ha => ?_, fun a ha => h.le a (mem_of_eraseIdx ha)⟩
  · rw [List.mem_eraseIdx_iff_getElem?] at hy
    obtain ⟨k, hk, hz⟩ := hy
    obtain ⟨c1, c2⟩ := h.cnt y (List.mem_of_getElem? hz)
    have hc := count_eraseIdx_int hj y.1
    rw [if_neg (hne hk hz)] at hc
    omega
  · have hav : a ≠ v := fun e => by
      subst e
      have hc := count_eraseIdx_int hj a
      rw [if_pos rfl] at hc
      have := (h.cnt x (List.mem_of_getElem? hx)).1
      rw [hxv] at this
      have := List.count_pos_iff.2 ha
      omega
    obtain ⟨y, hy, hya⟩ := h.mem a (mem_of_eraseIdx ha)
    obtain ⟨k, hk⟩ := List.getElem?_of_mem hy
    refine ⟨y, ?_, hya⟩
    rw [List.mem_eraseIdx_iff_getElem?]
    refine ⟨k, fun e => hav ?_, hk⟩
    subst e
    rw [hx] at hk
    cases hk
    rw [← hya, hxv]

/-- What was committed is pinned. -/
theorem PInv.pinned {X : PG} {done now : List Page} {pins : List (List Page)} {gens : List Int} (h : PInv X done now pins gens) : PInv X.pin done now (pins ++ [done]) (gens ++ [(X.g : Int)]) := by
  have hto : ∀ qs, PInv { X with pins := qs } done now pins gens ∨ True := fun _ => .inr trivial
  have key : ∀ qs, PinsOk qs (gens ++ [(X.g : Int)]) X.g → PInv { X with pins := qs } done now (pins ++ [done]) (gens ++ [(X.g : Int)]) := fun qs hq => by
    have hto : ∀ ps, PagesIn X ps → PagesIn { X with pins := qs } ps := fun ps hp => hp.to rfl rfl rfl fun x hx => rfl
    refine ⟨h.D, h.ok, h.failed, h.lo, h.hi, h.used, h.nd, fun k hk => ?_, h.old, h.wt, h.dn, by simp [h.len], fun i p g hp hi k hk => ?_, hq, hto _ h.pd, hto _ h.pn, fun p hp => ?_⟩
    · obtain ⟨l1, l2, l3⟩ := h.laid k hk
      refine ⟨l1, l2, fun p hp => ?_⟩
      rcases List.mem_append.1 hp with hp | hp
      · exact l3 p hp
      · rw [List.mem_singleton] at hp; rw [hp]; exact l2
    · by_cases e : i < pins.length
      · rw [List.getElem?_append_left e] at hp
        rw [List.getElem?_append_left (by rw [← h.len]; exact e)] at hi
        exact h.pin i p g hp hi k hk
      · have e2 : i = pins.length := by
          have := (List.getElem?_eq_some_iff.1 hp).1
          rw [List.length_append] at this
          simp at this
          omega
        subst e2
        rw [List.getElem?_append_right (Nat.le_refl _), Nat.sub_self] at hp
        rw [List.getElem?_append_right (by rw [h.len]; exact Nat.le_refl _), h.len, Nat.sub_self] at hi
        cases hp
        cases hi
        rcases h.dn k hk with h1 | h1
        · exact .inl h1
        · exact .inr ⟨_, h1, by omega⟩
    · rcases List.mem_append.1 hp with hp | hp
      · exact hto _ (h.pp p hp)
      · rw [List.mem_singleton] at hp; rw [hp]; exact hto _ h.pd
  have hq := h.po.pin
  unfold PG.pin
  cases e : pidx X.pins X.g with
  | some i => rw [e] at hq; exact key _ hq
  | none => rw [e] at hq; exact key _ hq

/-- A pinned state goes. -/
theorem PInv.unpin {X : PG} {done now : List Page} {pins : List (List Page)} {gens : List Int} (h : PInv X done now pins gens) {j : Nat} {v : Int} (hj : gens[j]? = some v) :
    ∃ i x, pidx X.pins v = some i ∧ X.pins[i]? = some x ∧ 1 ≤ x.2 ∧ x.2 ≤ gens.length ∧
      (2 ≤ x.2 → PInv ({ X with pins := incAt X.pins i (-1) } : PG).settle done now (pins.eraseIdx j) (gens.eraseIdx j)) ∧
      (x.2 = 1 → PInv ({ X with pins := X.pins.eraseIdx i } : PG).settle done now (pins.eraseIdx j) (gens.eraseIdx j)) := by
  obtain ⟨i, x, h1, h2, h3, h4, h5⟩ := h.po.at hj
  have hjl := (List.getElem?_eq_some_iff.1 hj).1
  have key : ∀ qs, PinsOk qs (gens.eraseIdx j) X.g → PInv ({ X with pins := qs } : PG).settle done now (pins.eraseIdx j) (gens.eraseIdx j) := fun qs hq => by
    have hto : ∀ ps, PagesIn X ps → PagesIn { X with pins := qs } ps := fun ps hp => hp.to rfl rfl rfl fun x hx => rfl
    refine PInv.settle ⟨h.D, h.ok, h.failed, h.lo, h.hi, h.used, h.nd, fun k hk => ?_, h.old, h.wt, h.dn, ?_, fun i p g hp hi k hk => ?_, hq, hto _ h.pd, hto _ h.pn, fun p hp => hto _ (h.pp p ((List.eraseIdx_sublist _ _).subset hp))⟩
    · obtain ⟨l1, l2, l3⟩ := h.laid k hk
      exact ⟨l1, l2, fun p hp => l3 p ((List.eraseIdx_sublist _ _).subset hp)⟩
    · rw [List.length_eraseIdx, List.length_eraseIdx, h.len]
    · rw [List.getElem?_eraseIdx] at hp hi
      by_cases e : i < j
      · rw [if_pos e] at hp hi; exact h.pin i p g hp hi k hk
      · rw [if_neg e] at hp hi; exact h.pin (i + 1) p g hp hi k hk
  refine ⟨i, x, h1, h2, h5, ?_, fun hx => key _ (h.po.less hj h2 h3 hx), fun hx => key _ (h.po.gone hj h2 h3 hx)⟩
  have := List.count_le_length (a := v) (l := gens)
  omega

end Go.Proofs.YtngnmakeaniapaaGreatDoor

set_option linter.unusedVariables false
set_option maxRecDepth 100000
namespace Go.Proofs.YtngnmakeaniapaaGreatDoor
open Go.RowKit

theorem PInv.start {S : SD} (h4 : 4 ≤ S.size) (hok : (fmtS S 2).flush.Ok) (hF : (PG.new (fmtS S 2).flush 2 0 1 1).F.Ok) : PInv { PG.new (fmtS S 2).flush 2 0 1 1 with kept := true, F := (PG.new (fmtS S 2).flush 2 0 1 1).F.takes [] } [] [] [] [] := by
  have hz : (fmtS S 2).flush.size = S.size := fmtS_size (S := S) 2
  obtain ⟨r0, r1⟩ := fmt_read (S := S)
  have e : (PG.new (fmtS S 2).flush 2 0 1 1).F.takes [] = FL.new 2 (fmtS S 2).flush.size := rfl
  rw [e]
  have hlr : ∀ k, (fmtS S 2).flush.lasts k = (fmtS S 2).flush.read k := fun k => by rw [flush_lasts, SD.flush_read]
  have hm : MRight (2 : Nat) (0 : Nat) (1 : Nat) (1 : Nat) := fmt_right (by omega) (by omega)
  have hm1 : MRight (1 : Nat) (0 : Nat) (1 : Nat) (1 : Nat) := fmt_right (by omega) (by omega)
  have hD : DInv (fmtS S 2).flush 2 0 1 1 [] := ⟨hok, by rw [hz]; omega, hm, by rw [hz]; omega, (hlr _).trans r0, ⟨1, 0, 1, 1, hm1, rfl, (hlr _).trans r1⟩, (fun x hx => by cases hx), List.nodup_nil, (fun x hx => by cases hx)⟩
  refine ⟨hD, hF, rfl, rfl, rfl, fun k => ?_, List.nodup_nil, (fun k hk => by cases hk), (fun k hk => by cases hk), (fun k w hk => by cases hk), (fun k hk => by cases hk), rfl, (fun i p g hp => by cases hp), ⟨List.Pairwise.nil, (fun x hx => by cases hx), (fun x hx => by cases hx), (fun x hx => by cases hx)⟩, (fun x hx => by cases hx), (fun x hx => by cases hx), (fun x hx => by cases hx)⟩
  constructor
  · intro h; cases h
  · intro h; cases h

/-- The counts. -/
theorem PInv.counts {X : PG} {done now : List Page} {pins : List (List Page)} {gens : List Int} (h : PInv X done now pins gens) : X.F.nUsed = now.length ∧ X.F.nFree + X.F.nUsed + X.F.nWaits = X.S.size - 2 := by
  refine ⟨?_, ?_⟩
  · rw [h.ok.used_len h.nd fun k => (h.used k).symm]
    simp [pnos]
  · have := h.lo
    have := h.hi
    unfold FL.nFree
    omega

/-- How far a pager has come when i calls were made. -/
structure PBnd (X : PG) (i : Nat) : Prop where
  left : -1 ≤ X.S.left ∧ X.S.left ≤ 31
  ops : X.S.ops ≤ 20 + 3 * i
  g : X.g ≤ 2 + i
  n : X.n ≤ i + 1
  d : X.d ≤ 1

theorem tick_bnd {S : SD} (h : -1 ≤ S.left ∧ S.left ≤ 31) : -1 ≤ S.tick.left ∧ S.tick.left ≤ 31 := by
  show -1 ≤ (if 0 < S.left then S.left - 1 else S.left) ∧ (if 0 < S.left then S.left - 1 else S.left) ≤ 31
  split <;> omega
theorem PBnd.up {X : PG} {i : Nat} (h : PBnd X i) : PBnd X (i + 1) := ⟨h.left, by have := h.ops; omega, by have := h.g; omega, by have := h.n; omega, h.d⟩
theorem PBnd.lay {X : PG} {i : Nat} (h : PBnd X i) (k : Int) (pg : List UInt8) : PBnd (X.lay k pg) (i + 1) := by
  refine ⟨tick_bnd h.left, ?_, ?_, ?_, h.d⟩
  · show X.S.ops + 1 ≤ _
    have := h.ops
    omega
  · show X.g ≤ _
    have := h.g
    omega
  · show X.n ≤ _
    have := h.n
    omega
theorem PBnd.drop {X : PG} {i : Nat} (h : PBnd X i) (k : Int) : PBnd (X.drop k) (i + 1) := by
  have h := h.up
  unfold PG.drop
  split
  · exact ⟨h.left, h.ops, h.g, h.n, h.d⟩
  · split
    · exact ⟨h.left, h.ops, h.g, h.n, h.d⟩
    · exact h
theorem PBnd.abort {X : PG} {i : Nat} (h : PBnd X i) : PBnd X.abort (i + 1) := ⟨h.up.left, h.up.ops, h.up.g, h.up.n, h.up.d⟩
theorem PBnd.pin {X : PG} {i : Nat} (h : PBnd X i) : PBnd X.pin (i + 1) := by
  have h := h.up
  unfold PG.pin
  split <;> exact ⟨h.left, h.ops, h.g, h.n, h.d⟩
theorem PBnd.settled {X : PG} {i : Nat} (h : PBnd X i) (qs : List (Int × Int)) : PBnd ({ X with pins := qs } : PG).settle (i + 1) := ⟨h.up.left, h.up.ops, h.up.g, h.up.n, h.up.d⟩
theorem PBnd.cut {X : PG} {i : Nat} (h : PBnd X i) {m : Int} (hm : 0 ≤ m ∧ m ≤ 31) : PBnd { X with S := X.S.cut m } (i + 1) := by
  refine ⟨?_, h.up.ops, h.up.g, h.up.n, h.d⟩
  show -1 ≤ max m (-1) ∧ max m (-1) ≤ 31
  omega
theorem PBnd.commit {X : PG} {i : Nat} (h : PBnd X i) (r : Nat) : PBnd (X.commit r (1 + i) 1) (i + 1) := by
  refine ⟨?_, ?_, ?_, ?_, Nat.le_refl _⟩
  · exact tick_bnd (S := X.S.flush.write (((X.g + 1) % 2 : Nat) : Int) (mPage (X.g + 1) r (1 + i) 1)) (tick_bnd (S := X.S.flush) (tick_bnd (S := X.S) h.left))
  · show (X.comS r (1 + i) 1).ops ≤ _
    rw [PG.comS_ops]
    have := h.ops
    omega
  · show X.g + 1 ≤ _
    have := h.g
    omega
  · show 1 + i ≤ _
    omega

end Go.Proofs.YtngnmakeaniapaaGreatDoor

