/-
  What stays true of a pager.
  What is put is read.
  TxnPins.
-/
import Derived.Test.YtbbgdbnjmonbgaaGreatDoorH00
import Derived.Test.YtbbgdbnjmonbgaaGreatDoorH31
import Derived.Test.YtbbgdbnjmonbgaaGreatDoorH20
import Derived.Test.YtbbgdbnjmonbgaaGreatDoorH29
import Derived.Test.YtbbgdbnjmonbgaaGreatDoorH24
set_option linter.unusedVariables false
set_option linter.unusedSimpArgs false
set_option maxRecDepth 100000
namespace Go.Proofs.YtbbgdbnjmonbgaaGreatDoor
open Go.RowKit
structure TPg where
 no : Nat
 b : List UInt8
 kd : UInt8
def TPgsIn (X : PG) (ps : List TPg) : Prop := ∀ x ∈ ps, (x.no : Int) < X.S.size ∧ x.b.length ≤ 493 ∧ ∃ gen, gen ≤ 1152921504606846976 ∧ X.S.read x.no = pageB x.kd x.no gen x.b ∧ X.F.st x.no ≠ 0
def tnos (ps : List TPg) : List Int := ps.map fun x => (x.no : Int)
theorem T_mem_pnos {ps : List TPg} {k : Int} : k ∈ tnos ps ↔ ∃ x ∈ ps, (x.no : Int) = k := by simp [tnos]
structure TDInv (S : SD) (g r n d : Nat) (done : List TPg) : Prop where
 ok : S.Ok
 size : 4 ≤ S.size
 right : MRight g r n d
 rs : (r : Int) < S.size
 m1 : S.lasts ((g % 2 : Nat) : Int) = mPage g r n d
 m2 : ∃ g' r' n' d' : Nat, MRight g' r' n' d' ∧ g = g' + 1 ∧ S.lasts ((g' % 2 : Nat) : Int) = mPage g' r' n' d'
 ws : ∀ x ∈ S.waits, 2 ≤ x.k ∧ x.k ∉ tnos done
 nd : (tnos done).Nodup
 pg : ∀ x ∈ done, 2 ≤ x.no ∧ (x.no : Int) < S.size ∧ x.b.length ≤ 493 ∧ ∃ gen, gen ≤ 1152921504606846976 ∧ S.lasts x.no = pageB x.kd x.no gen x.b
theorem TDInv.write {S : SD} {g r n d : Nat} {done : List TPg} (h : TDInv S g r n d done) {k : Nat} (hk : 2 ≤ k ∧ (k : Int) < S.size) (hn : (k : Int) ∉ tnos done) {b : List UInt8} (hb : b.length ≤ 512) : TDInv (S.write k b) g r n d done := by
 refine ⟨h.ok.write' (by omega) hb, h.size, h.right, h.rs, h.m1, h.m2, fun x hx => ?_, h.nd, h.pg⟩
 rcases List.mem_append.1 hx with hx | hx
 ·
  exact h.ws x hx
 ·
  obtain rfl := List.mem_singleton.1 hx
  exact ⟨by show (2 : Int) ≤ (k : Int); omega, hn⟩
theorem TDInv.commit {S : SD} {g r n d r2 n2 d2 : Nat} {done now : List TPg} (h : TDInv S g r n d done) (hr : MRight ((g + 1 : Nat) : Int) r2 n2 d2) (hrs : (r2 : Int) < S.size) (hnd : (tnos now).Nodup)
  (hpg : ∀ x ∈ now, 2 ≤ x.no ∧ (x.no : Int) < S.size ∧ x.b.length ≤ 493 ∧ ∃ gen, gen ≤ 1152921504606846976 ∧ S.read x.no = pageB x.kd x.no gen x.b) :
  TDInv ((S.flush.write (((g + 1) % 2 : Nat) : Int) (mPage (g + 1) r2 n2 d2)).flush) (g + 1) r2 n2 d2 now := by
 have hl : ∀ k, ((S.flush.write (((g + 1) % 2 : Nat) : Int) (mPage (g + 1) r2 n2 d2)).flush).lasts k = if k = (((g + 1) % 2 : Nat) : Int) then mPage (g + 1) r2 n2 d2 else S.read k := fun k => by
  rw [flush_lasts, SD.write_read, mPage_pad, SD.flush_read]
 refine ⟨((h.ok.flush').write' (by show (0 : Int) ≤ _ ∧ _ < S.size; have := h.size; omega) (by rw [mPage_length]; omega)).flush', h.size, hr, hrs, by rw [hl, if_pos rfl], ⟨g, r, n, d, h.right, rfl, ?_⟩, by simp [SD.flush], hnd, fun x hx => ?_⟩
 ·
  rw [hl, if_neg (by omega), ← flush_lasts, flush_other fun x hx => by have := (h.ws x hx).1; omega]
  exact h.m1
 ·
  obtain ⟨a1, a2, a3, gen, a4, a5⟩ := hpg x hx
  refine ⟨a1, a2, a3, gen, a4, ?_⟩
  rw [hl, if_neg (by omega)]
  exact a5
structure TInv (X : PG) (done now : List TPg) (pins : List (List TPg)) (gens : List Int) : Prop where
 D : TDInv X.S X.g X.r X.n X.d done
 ok : X.F.Ok
 failed : X.failed = false
 lo : X.F.lo = 2
 hi : X.F.hi = X.S.size
 used : ∀ k, X.F.used k = true ↔ k ∈ tnos now
 nd : (tnos now).Nodup
 laid : ∀ k, X.L k = true → X.F.used k = true ∧ k ∉ tnos done ∧ ∀ p ∈ pins, k ∉ tnos p
 old : ∀ k, X.F.used k = true → X.L k = false → k ∈ tnos done
 wt : ∀ k w, X.F.waits k = some w → w ≤ (X.g : Int) + 1 ∧ (w = (X.g : Int) + 1 → k ∈ tnos done)
 dn : ∀ k ∈ tnos done, (X.F.used k = true ∧ X.L k = false) ∨ X.F.waits k = some ((X.g : Int) + 1)
 len : pins.length = gens.length
 pin : ∀ (i : Nat) (p : List TPg) (h : Int), pins[i]? = some p → gens[i]? = some h → ∀ k ∈ tnos p, HeldAt X h k
 po : PinsOk X.pins gens X.g
 pd : TPgsIn X done
 pn : TPgsIn X now
 pp : ∀ p ∈ pins, TPgsIn X p
theorem TInv.lt {X : PG} {done now : List TPg} {pins : List (List TPg)} {gens : List Int} (h : TInv X done now pins gens) {p : List TPg} (hp : p ∈ pins) {k : Int} (hk : k ∈ tnos p) : X.F.used k = true ∨ (X.F.waits k).isSome = true := by
 obtain ⟨i, hi⟩ := List.getElem?_of_mem hp
 have hl : i < gens.length := by rw [← h.len]; exact (List.getElem?_eq_some_iff.1 hi).1
 rcases h.pin i p gens[i] hi (List.getElem?_eq_getElem hl) k hk with h1 | ⟨w, h1, _⟩
 ·
  exact .inl h1.1
 ·
  exact .inr (by rw [h1]; rfl)
theorem TPgsIn.to {X Y : PG} {ps : List TPg} (h : TPgsIn X ps) (hs : Y.S.size = X.S.size) (hl : Y.F.lo = X.F.lo) (hh : Y.F.hi = X.F.hi) (hr : ∀ x ∈ ps, Y.S.read x.no = X.S.read x.no) : TPgsIn Y ps := by
 intro x hx
 obtain ⟨a1, a2, gen, a3, a4, a5⟩ := h x hx
 exact ⟨by rw [hs]; exact a1, a2, gen, a3, by rw [hr x hx]; exact a4, by rw [FL.st_any, hl, hh]; exact FL.st_any.1 a5⟩
theorem TInv.lay {X : PG} {done now : List TPg} {pins : List (List TPg)} {gens : List Int} (h : TInv X done now pins gens) {k : Nat} (hk : X.F.least = some (k : Int)) {b : List UInt8} (kd : UInt8) (hb : b.length ≤ 493) (hg : X.g + 1 ≤ 1152921504606846976) :
  TInv (X.lay k (pageB kd k (X.g + 1) b)) done (now ++ [⟨k, b, kd⟩]) pins gens := by
 obtain ⟨k1, k2, k3, k4⟩ := FL.st_free (FL.least_some hk).1
 have hlo := h.lo
 have hhi := h.hi
 have hlen : (pageB kd k (X.g + 1) b).length = 512 := pageB_length hb
 have hpn : tnos (now ++ [⟨k, b, kd⟩]) = tnos now ++ [(k : Int)] := by simp [tnos]
 have nn : (k : Int) ∉ tnos now := fun e => by rw [(h.used k).2 e] at k3; cases k3
 have ndn : (k : Int) ∉ tnos done := fun e => by
  rcases h.dn k e with e1 | e1
  ·
   rw [e1.1] at k3; cases k3
  ·
   rw [e1] at k4; cases k4
 have npn : ∀ p ∈ pins, (k : Int) ∉ tnos p := fun p hp e => by
  rcases h.lt hp e with e1 | e1
  ·
   rw [e1] at k3; cases k3
  ·
   rw [k4] at e1; cases e1
 have hread : ∀ j : Int, j ≠ k → (X.lay k (pageB kd k (X.g + 1) b)).S.read j = X.S.read j := fun j hj => by rw [PG.lay_read X hlen, if_neg hj]
 have hto : ∀ ps, (k : Int) ∉ tnos ps → TPgsIn X ps → TPgsIn (X.lay k (pageB kd k (X.g + 1) b)) ps := fun ps hn hp => hp.to rfl rfl rfl fun x hx => hread _ fun e => hn (by rw [← e]; exact T_mem_pnos.2 ⟨x, hx, rfl⟩)
 have hu : ∀ x, (X.lay k (pageB kd k (X.g + 1) b)).F.used x = if x = k then true else X.F.used x := fun x => rfl
 have hL : ∀ x, (X.lay k (pageB kd k (X.g + 1) b)).L x = if x = k then true else X.L x := fun x => rfl
 refine ⟨h.D.write ⟨by omega, by omega⟩ ndn (by omega), h.ok.take (FL.least_some hk).1, h.failed, h.lo, h.hi, fun x => ?_, ?_, fun x hx => ?_, fun x hx hx2 => ?_, h.wt, fun x hx => ?_, h.len, fun i p g hp hi x hx => ?_, h.po, hto _ ndn h.pd, fun x hx => ?_, fun p hp => hto _ (npn p hp) (h.pp p hp)⟩
 ·
  rw [hu, hpn, List.mem_append, List.mem_singleton]
  by_cases e : x = k
  ·
   simp [e]
  ·
   rw [if_neg e, h.used]; simp [e]
 ·
  rw [hpn, List.nodup_append]
  refine ⟨h.nd, by simp, fun x hx y hy e => ?_⟩
  rw [List.mem_singleton] at hy
  exact nn (by rw [← hy, ← e]; exact hx)
 ·
  rw [hL] at hx
  rw [hu]
  by_cases e : x = k
  ·
   rw [if_pos e, e]; exact ⟨rfl, ndn, npn⟩
  ·
   rw [if_neg e] at hx ⊢; exact h.laid x hx
 ·
  rw [hu] at hx
  rw [hL] at hx2
  by_cases e : x = k
  ·
   rw [if_pos e] at hx2; cases hx2
  ·
   rw [if_neg e] at hx hx2; exact h.old x hx hx2
 ·
  have e : x ≠ k := fun e => ndn (e ▸ hx)
  rw [hu, hL, if_neg e, if_neg e]
  exact h.dn x hx
 ·
  have e : x ≠ k := fun e => npn p (List.mem_of_getElem? hp) (e ▸ hx)
  rcases h.pin i p g hp hi x hx with h1 | h1
  ·
   exact .inl (by rw [hu, hL, if_neg e, if_neg e]; exact h1)
  ·
   exact .inr h1
 ·
  rcases List.mem_append.1 hx with hx | hx
  ·
   exact hto _ nn h.pn x hx
  ·
   rw [List.mem_singleton] at hx
   subst hx
   refine ⟨by show (k : Int) < X.S.size; omega, hb, X.g + 1, hg, ?_, FL.st_any.2 ⟨k1, k2⟩⟩
   rw [PG.lay_read X hlen, if_pos rfl]
theorem T_pnos_erase (now : List TPg) (j : Nat) : tnos (now.eraseIdx j) = (tnos now).eraseIdx j := by
 induction now generalizing j with
 | nil => rfl
 | cons y l ih =>
  cases j with
  | zero => rfl
  | succ j => exact congrArg ((y.no : Int) :: ·) (ih j)
theorem TInv.drop {X : PG} {done now : List TPg} {pins : List (List TPg)} {gens : List Int} (h : TInv X done now pins gens) {j : Nat} {y : TPg} (hj : now[j]? = some y) :
  X.F.st y.no = 2 ∧ X.dropE y.no = 0 ∧ TInv (X.drop y.no) done (now.eraseIdx j) pins gens := by
 have hpj : (tnos now)[j]? = some (y.no : Int) := by unfold tnos; rw [List.getElem?_map, hj]; rfl
 have hu : X.F.used y.no = true := (h.used _).2 (List.mem_of_getElem? hpj)
 have hst : X.F.st y.no = 2 := FL.st_two.2 ⟨FL.has_iff.2 (h.ok.hu hu), hu⟩
 have hmem : ∀ x, x ∈ tnos (now.eraseIdx j) ↔ x ∈ tnos now ∧ x ≠ (y.no : Int) := fun x => by rw [T_pnos_erase]; exact mem_eraseIdx_nodup h.nd hpj x
 have hnd : (tnos (now.eraseIdx j)).Nodup := by rw [T_pnos_erase]; exact h.nd.sublist (List.eraseIdx_sublist _ _)
 have hpn : ∀ {Y : PG}, TPgsIn Y now → TPgsIn Y (now.eraseIdx j) := fun hp x hx => hp x ((List.eraseIdx_sublist _ _).subset hx)
 refine ⟨hst, ?_, ?_⟩
 ·
  unfold PG.dropE
  rw [hst]
  cases X.L y.no <;> rfl
 ·
  unfold PG.drop
  by_cases hL : X.L y.no = true
  ·
   rw [if_pos hL]
   obtain ⟨_, l2, l3⟩ := h.laid _ hL
   have hto : ∀ ps, TPgsIn X ps → TPgsIn { X with L := fun x => if x = (y.no : Int) then false else X.L x, F := X.F.drop y.no } ps := fun ps hp => hp.to rfl rfl rfl fun x hx => rfl
   refine ⟨h.D, h.ok.drop _, h.failed, h.lo, h.hi, fun x => ?_, hnd, fun x hx => ?_, fun x hx hx2 => ?_, h.wt, fun x hx => ?_, h.len, fun i p g hp hi x hx => ?_, h.po, hto _ h.pd, hpn (hto _ h.pn), fun p hp => hto _ (h.pp p hp)⟩
   ·
    show (if x = (y.no : Int) then false else X.F.used x) = true ↔ _
    rw [hmem]
    by_cases e : x = y.no
    ·
     simp [e]
    ·
     rw [if_neg e, h.used]; simp [e]
   ·
    have hx' : (if x = (y.no : Int) then false else X.L x) = true := hx
    by_cases e : x = y.no
    ·
     rw [if_pos e] at hx'; cases hx'
    ·
     rw [if_neg e] at hx'
     refine ⟨?_, (h.laid x hx').2⟩
     show (if x = (y.no : Int) then false else X.F.used x) = true
     rw [if_neg e]; exact (h.laid x hx').1
   ·
    have hx' : (if x = (y.no : Int) then false else X.F.used x) = true := hx
    have hx2' : (if x = (y.no : Int) then false else X.L x) = false := hx2
    by_cases e : x = y.no
    ·
     rw [if_pos e] at hx'; cases hx'
    ·
     rw [if_neg e] at hx' hx2'; exact h.old x hx' hx2'
   ·
    have e : x ≠ y.no := fun e => l2 (e ▸ hx)
    show ((if x = (y.no : Int) then false else X.F.used x) = true ∧ (if x = (y.no : Int) then false else X.L x) = false) ∨ _
    rw [if_neg e, if_neg e]
    exact h.dn x hx
   ·
    have e : x ≠ y.no := fun e => l3 p (List.mem_of_getElem? hp) (e ▸ hx)
    show ((if x = (y.no : Int) then false else X.F.used x) = true ∧ (if x = (y.no : Int) then false else X.L x) = false) ∨ _
    rw [if_neg e, if_neg e]
    exact h.pin i p g hp hi x hx
  ·
   rw [if_neg hL, if_pos hst]
   have hL' : X.L y.no = false := by cases e : X.L y.no <;> simp_all
   have hd := h.old _ hu hL'
   have hto : ∀ ps, TPgsIn X ps → TPgsIn { X with F := X.F.late y.no ((X.g : Int) + 1) } ps := fun ps hp => hp.to rfl rfl rfl fun x hx => rfl
   refine ⟨h.D, h.ok.late _ (FL.has_iff.2 (h.ok.hu hu)), h.failed, h.lo, h.hi, fun x => ?_, hnd, fun x hx => ?_, fun x hx hx2 => ?_, fun x w hx => ?_, fun x hx => ?_, h.len, fun i p g hp hi x hx => ?_, h.po, hto _ h.pd, hpn (hto _ h.pn), fun p hp => hto _ (h.pp p hp)⟩
   ·
    show (if x = (y.no : Int) then false else X.F.used x) = true ↔ _
    rw [hmem]
    by_cases e : x = y.no
    ·
     simp [e]
    ·
     rw [if_neg e, h.used]; simp [e]
   ·
    have e : x ≠ y.no := fun e => hL (e ▸ hx)
    refine ⟨?_, (h.laid x hx).2⟩
    show (if x = (y.no : Int) then false else X.F.used x) = true
    rw [if_neg e]; exact (h.laid x hx).1
   ·
    have hx' : (if x = (y.no : Int) then false else X.F.used x) = true := hx
    by_cases e : x = y.no
    ·
     rw [if_pos e] at hx'; cases hx'
    ·
     rw [if_neg e] at hx'; exact h.old x hx' hx2
   ·
    have hx' : (if x = (y.no : Int) then some ((X.g : Int) + 1) else X.F.waits x) = some w := hx
    by_cases e : x = y.no
    ·
     rw [if_pos e] at hx'
     cases hx'
     exact ⟨Int.le_refl _, fun _ => by rw [e]; exact hd⟩
    ·
     rw [if_neg e] at hx'; exact h.wt x w hx'
   ·
    show ((if x = (y.no : Int) then false else X.F.used x) = true ∧ X.L x = false) ∨ (if x = (y.no : Int) then some ((X.g : Int) + 1) else X.F.waits x) = some ((X.g : Int) + 1)
    by_cases e : x = y.no
    ·
     right; rw [if_pos e]
    ·
     rw [if_neg e, if_neg e]; exact h.dn x hx
   ·
    show ((if x = (y.no : Int) then false else X.F.used x) = true ∧ X.L x = false) ∨ ∃ w, (if x = (y.no : Int) then some ((X.g : Int) + 1) else X.F.waits x) = some w ∧ g < w
    by_cases e : x = y.no
    ·
     right
     have := h.po.le g (List.mem_of_getElem? hi)
     exact ⟨_, if_pos e, by omega⟩
    ·
     rw [if_neg e, if_neg e]; exact h.pin i p g hp hi x hx
theorem TInv.settle {X : PG} {done now : List TPg} {pins : List (List TPg)} {gens : List Int} (h : TInv X done now pins gens) : TInv X.settle done now pins gens := by
 obtain ⟨hl1, hl2⟩ := h.po.low
 have hto : ∀ ps, TPgsIn X ps → TPgsIn X.settle ps := fun ps hp => hp.to rfl rfl rfl fun x hx => rfl
 have hw : ∀ x, X.settle.F.waits x = (match X.F.waits x with | some g => if decide (g ≤ X.low) then none else some g | none => none) := fun x => rfl
 have hk : ∀ x w, X.F.waits x = some w → X.low < w → X.settle.F.waits x = some w := fun x w hx hlw => by
  rw [hw, hx]
  simp only
  rw [decide_eq_false (by omega)]
  rfl
 refine ⟨h.D, h.ok.leave _, h.failed, h.lo, h.hi, h.used, h.nd, h.laid, h.old, fun x w hx => ?_, fun x hx => ?_, h.len, fun i p g hp hi x hx => ?_, h.po, hto _ h.pd, hto _ h.pn, fun p hp => hto _ (h.pp p hp)⟩
 ·
  rw [hw] at hx
  cases e : X.F.waits x with
  | none => rw [e] at hx; cases hx
  | some v =>
   rw [e] at hx
   simp only at hx
   split at hx
   ·
    cases hx
   ·
    cases hx; exact h.wt x _ e
 ·
  rcases h.dn x hx with h1 | h1
  ·
   exact .inl h1
  ·
   exact .inr (hk x _ h1 (show X.low < (X.g : Int) + 1 by omega))
 ·
  rcases h.pin i p g hp hi x hx with h1 | ⟨w, h1, h2⟩
  ·
   exact .inl h1
  ·
   have := hl2 g (List.mem_of_getElem? hi)
   exact .inr ⟨w, hk x w h1 (by omega), h2⟩
theorem TInv.commit {X : PG} {done now : List TPg} {pins : List (List TPg)} {gens : List Int} (h : TInv X done now pins gens) {r n d : Nat} (hr : MRight ((X.g + 1 : Nat) : Int) r n d) (hrs : (r : Int) < X.S.size) : TInv (X.commit r n d) now now pins gens := by
 have hpg : ∀ x ∈ now, 2 ≤ x.no ∧ (x.no : Int) < X.S.size ∧ x.b.length ≤ 493 ∧ ∃ gen, gen ≤ 1152921504606846976 ∧ X.S.read x.no = pageB x.kd x.no gen x.b := fun x hx => by
  obtain ⟨a1, a2, gen, a3, a4, a5⟩ := h.pn x hx
  have := FL.st_any.1 a5
  have := h.lo
  exact ⟨by omega, a1, a2, gen, a3, a4⟩
 have hD := h.D.commit hr hrs h.nd hpg
 have hto : ∀ ps, TPgsIn X ps → TPgsIn (X.com0 r n d) ps := fun ps hp => hp.to rfl rfl rfl fun x hx => by
  obtain ⟨_, _, _, _, _, a5⟩ := hp x hx
  have := FL.st_any.1 a5
  have := h.lo
  exact X.comS_read r n d (by omega)
 have hc : TInv (X.com0 r n d) now now pins gens := by
  refine ⟨hD, h.ok, h.failed, h.lo, h.hi, h.used, h.nd, (fun x hx => by cases hx), fun x hx _ => (h.used x).1 hx, fun x w hx => ?_, fun x hx => .inl ⟨(h.used x).2 hx, rfl⟩, h.len, fun i p g hp hi x hx => ?_, ⟨h.po.rise, h.po.cnt, h.po.mem, fun g hg => ?_⟩, hto _ h.pn, hto _ h.pn, fun p hp => hto _ (h.pp p hp)⟩
  ·
   have h1 := (h.wt x w hx).1
   have e : (((X.com0 r n d).g : Nat) : Int) = (X.g : Int) + 1 := by show ((X.g + 1 : Nat) : Int) = _; omega
   rw [e]
   exact ⟨by omega, fun e => by omega⟩
  ·
   rcases h.pin i p g hp hi x hx with h1 | h1
   ·
    exact .inl ⟨h1.1, rfl⟩
   ·
    exact .inr h1
  ·
   have := h.po.le g hg
   show g ≤ ((X.g + 1 : Nat) : Int)
   omega
 exact hc.settle
theorem TInv.follows {X : PG} {done now : List TPg} {pins : List (List TPg)} {gens : List Int} (h : TInv X done now pins gens) {r n d : Nat} (hr : MRight ((X.g + 1 : Nat) : Int) r n d) (h0 : r = 0 ∨ (r : Int) ∈ tnos now) (hn : X.n ≤ n) (hd : X.d ≤ d) : Follows X r n d ∧ (r : Int) < X.S.size := by
 have hsz := h.D.size
 rcases h0 with h0 | h0
 ·
  exact ⟨⟨.inl h0, hr, hn, hd⟩, by omega⟩
 ·
  have hu := (h.used r).2 h0
  have hh := h.ok.hu hu
  have := h.lo
  have := h.hi
  exact ⟨⟨.inr ⟨by omega, FL.st_two.2 ⟨FL.has_iff.2 hh, hu⟩⟩, hr, hn, hd⟩, by omega⟩
theorem TInv.pinned {X : PG} {done now : List TPg} {pins : List (List TPg)} {gens : List Int} (h : TInv X done now pins gens) : TInv X.pin done now (pins ++ [done]) (gens ++ [(X.g : Int)]) := by
 have hto : ∀ qs, TInv { X with pins := qs } done now pins gens ∨ True := fun _ => .inr trivial
 have key : ∀ qs, PinsOk qs (gens ++ [(X.g : Int)]) X.g → TInv { X with pins := qs } done now (pins ++ [done]) (gens ++ [(X.g : Int)]) := fun qs hq => by
  have hto : ∀ ps, TPgsIn X ps → TPgsIn { X with pins := qs } ps := fun ps hp => hp.to rfl rfl rfl fun x hx => rfl
  refine ⟨h.D, h.ok, h.failed, h.lo, h.hi, h.used, h.nd, fun k hk => ?_, h.old, h.wt, h.dn, by simp [h.len], fun i p g hp hi k hk => ?_, hq, hto _ h.pd, hto _ h.pn, fun p hp => ?_⟩
  ·
   obtain ⟨l1, l2, l3⟩ := h.laid k hk
   refine ⟨l1, l2, fun p hp => ?_⟩
   rcases List.mem_append.1 hp with hp | hp
   ·
    exact l3 p hp
   ·
    rw [List.mem_singleton] at hp; rw [hp]; exact l2
  ·
   by_cases e : i < pins.length
   ·
    rw [List.getElem?_append_left e] at hp
    rw [List.getElem?_append_left (by rw [← h.len]; exact e)] at hi
    exact h.pin i p g hp hi k hk
   ·
    have e2 : i = pins.length := by
     have := (List.getElem?_eq_some_iff.1 hp).1
     rw [List.length_append] at this
     simp at this
     omega
    subst e2
    rw [List.getElem?_append_right (Nat.le_refl _), Nat.sub_self] at hp
    rw [List.getElem?_append_right (by rw [h.len]; exact Nat.le_refl _), h.len, Nat.sub_self] at hi
    cases hp
    cases hi
    rcases h.dn k hk with h1 | h1
    ·
     exact .inl h1
    ·
     exact .inr ⟨_, h1, by omega⟩
  ·
   rcases List.mem_append.1 hp with hp | hp
   ·
    exact hto _ (h.pp p hp)
   ·
    rw [List.mem_singleton] at hp; rw [hp]; exact hto _ h.pd
 have hq := h.po.pin
 unfold PG.pin
 cases e : pidx X.pins X.g with
 | some i => rw [e] at hq; exact key _ hq
 | none => rw [e] at hq; exact key _ hq
theorem TInv.unpin {X : PG} {done now : List TPg} {pins : List (List TPg)} {gens : List Int} (h : TInv X done now pins gens) {j : Nat} {v : Int} (hj : gens[j]? = some v) :
  ∃ i x, pidx X.pins v = some i ∧ X.pins[i]? = some x ∧ 1 ≤ x.2 ∧ x.2 ≤ gens.length ∧
   (2 ≤ x.2 → TInv ({ X with pins := incAt X.pins i (-1) } : PG).settle done now (pins.eraseIdx j) (gens.eraseIdx j)) ∧
   (x.2 = 1 → TInv ({ X with pins := X.pins.eraseIdx i } : PG).settle done now (pins.eraseIdx j) (gens.eraseIdx j)) := by
 obtain ⟨i, x, h1, h2, h3, h4, h5⟩ := h.po.at hj
 have hjl := (List.getElem?_eq_some_iff.1 hj).1
 have key : ∀ qs, PinsOk qs (gens.eraseIdx j) X.g → TInv ({ X with pins := qs } : PG).settle done now (pins.eraseIdx j) (gens.eraseIdx j) := fun qs hq => by
  have hto : ∀ ps, TPgsIn X ps → TPgsIn { X with pins := qs } ps := fun ps hp => hp.to rfl rfl rfl fun x hx => rfl
  refine TInv.settle ⟨h.D, h.ok, h.failed, h.lo, h.hi, h.used, h.nd, fun k hk => ?_, h.old, h.wt, h.dn, ?_, fun i p g hp hi k hk => ?_, hq, hto _ h.pd, hto _ h.pn, fun p hp => hto _ (h.pp p ((List.eraseIdx_sublist _ _).subset hp))⟩
  ·
   obtain ⟨l1, l2, l3⟩ := h.laid k hk
   exact ⟨l1, l2, fun p hp => l3 p ((List.eraseIdx_sublist _ _).subset hp)⟩
  ·
   rw [List.length_eraseIdx, List.length_eraseIdx, h.len]
  ·
   rw [List.getElem?_eraseIdx] at hp hi
   by_cases e : i < j
   ·
    rw [if_pos e] at hp hi; exact h.pin i p g hp hi k hk
   ·
    rw [if_neg e] at hp hi; exact h.pin (i + 1) p g hp hi k hk
 refine ⟨i, x, h1, h2, h5, ?_, fun hx => key _ (h.po.less hj h2 h3 hx), fun hx => key _ (h.po.gone hj h2 h3 hx)⟩
 have := List.count_le_length (a := v) (l := gens)
 omega
theorem TInv.start {S : SD} (h4 : 4 ≤ S.size) (hok : (fmtS S 2).flush.Ok) (hF : (PG.new (fmtS S 2).flush 2 0 1 1).F.Ok) : TInv { PG.new (fmtS S 2).flush 2 0 1 1 with kept := true, F := (PG.new (fmtS S 2).flush 2 0 1 1).F.takes [] } [] [] [] [] := by
 have hz : (fmtS S 2).flush.size = S.size := fmtS_size (S := S) 2
 obtain ⟨r0, r1⟩ := fmt_read (S := S)
 have e : (PG.new (fmtS S 2).flush 2 0 1 1).F.takes [] = FL.new 2 (fmtS S 2).flush.size := rfl
 rw [e]
 have hlr : ∀ k, (fmtS S 2).flush.lasts k = (fmtS S 2).flush.read k := fun k => by rw [flush_lasts, SD.flush_read]
 have hm : MRight (2 : Nat) (0 : Nat) (1 : Nat) (1 : Nat) := fmt_right (by omega) (by omega)
 have hm1 : MRight (1 : Nat) (0 : Nat) (1 : Nat) (1 : Nat) := fmt_right (by omega) (by omega)
 have hD : TDInv (fmtS S 2).flush 2 0 1 1 [] := ⟨hok, by rw [hz]; omega, hm, by rw [hz]; omega, (hlr _).trans r0, ⟨1, 0, 1, 1, hm1, rfl, (hlr _).trans r1⟩, (fun x hx => by cases hx), List.nodup_nil, (fun x hx => by cases hx)⟩
 refine ⟨hD, hF, rfl, rfl, rfl, fun k => ?_, List.nodup_nil, (fun k hk => by cases hk), (fun k hk => by cases hk), (fun k w hk => by cases hk), (fun k hk => by cases hk), rfl, (fun i p g hp => by cases hp), ⟨List.Pairwise.nil, (fun x hx => by cases hx), (fun x hx => by cases hx), (fun x hx => by cases hx)⟩, (fun x hx => by cases hx), (fun x hx => by cases hx), (fun x hx => by cases hx)⟩
 constructor
 ·
  intro h; cases h
 ·
  intro h; cases h
theorem TInv.counts {X : PG} {done now : List TPg} {pins : List (List TPg)} {gens : List Int} (h : TInv X done now pins gens) : X.F.nUsed = now.length ∧ X.F.nFree + X.F.nUsed + X.F.nWaits = X.S.size - 2 := by
 refine ⟨?_, ?_⟩
 ·
  rw [h.ok.used_len h.nd fun k => (h.used k).symm]
  simp [tnos]
 ·
  have := h.lo
  have := h.hi
  unfold FL.nFree
  omega
end Go.Proofs.YtbbgdbnjmonbgaaGreatDoor

set_option linter.unusedVariables false
set_option linter.unusedSimpArgs false
set_option maxRecDepth 100000
namespace Go.Proofs.YtbbgdbnjmonbgaaGreatDoor
open Go.RowKit
theorem byte_nat {n : Nat} (h : n < 256) : (UInt8.ofNat n).toNat = n := by rw [UInt8.toNat_ofNat']; omega
theorem leN_txt (k y : List UInt8) (h : k.length < 256) : leN ((txtB k ++ y).take 1) = k.length := by
 simp only [txtB, List.cons_append, List.take_succ_cons, List.take_zero, leN, byte_nat h]
 omega
theorem textR_put (k y : List UInt8) (h : k.length < 256) : textR (txtB k ++ y) = (k, y) := by
 unfold textR
 rw [leN_txt k y h]
 simp [txtB]
theorem leN_two' (n : Nat) (y : List UInt8) (h : n < 65536) : leN ((two n ++ y).take 2) = n := by
 have h1 : (UInt8.ofNat n).toNat = n % 256 := by rw [UInt8.toNat_ofNat']
 have h2 : (UInt8.ofNat (n / 256)).toNat = n / 256 := byte_nat (by omega)
 simp only [two, List.cons_append, List.take_succ_cons, List.take_zero, leN, h1, h2]
 omega
theorem drop_two (n : Nat) (y : List UInt8) : (two n ++ y).drop 2 = y := rfl
theorem valR_put (v : VlS) (y : List UInt8) (h : v.Right) : valR (valB v ++ y) = (v, y) := by
 obtain ⟨l, g, p⟩ := v
 unfold VlS.Right at h
 dsimp only at h
 rcases h with ⟨rfl, rfl, h64⟩ | ⟨⟨p1, p2⟩, g1, g2, rfl⟩
 ·
  have e : valB ⟨l, 0, 0⟩ = txtB l := by unfold valB; rw [if_pos rfl]
  rw [e]
  unfold valR
  rw [leN_txt l y (by omega), if_neg (by omega)]
  simp [txtB]
 ·
  have e : valB ⟨[], g, p⟩ = 255 :: (two g.toNat ++ two p.toNat) := by unfold valB; rw [if_neg (by dsimp only; omega)]
  rw [e]
  have e1 : leN ((255 :: (two g.toNat ++ two p.toNat) ++ y).take 1) = 255 := rfl
  unfold valR
  rw [e1, if_pos rfl]
  have e2 : (255 :: (two g.toNat ++ two p.toNat) ++ y).drop 1 = two g.toNat ++ (two p.toNat ++ y) := by simp
  rw [e2, leN_two' _ _ (by omega), drop_two, leN_two' _ _ (by omega), drop_two]
  simp only [Prod.mk.injEq, VlS.mk.injEq, true_and, and_true]
  omega
theorem rdL_put (x : List UInt8) : ∀ (ks : List (List UInt8)) (vs : List VlS), vs.length = ks.length → (∀ k ∈ ks, k.length ≤ 72) → (∀ v ∈ vs, v.Right) → (rdL ks.length (entsL ks vs ++ x)).map Prod.fst = ks ∧ (rdL ks.length (entsL ks vs ++ x)).map Prod.snd = vs
 | [], [], _, _, _ => ⟨rfl, rfl⟩
 | k :: ks, v :: vs, h, hk, hv => by
  obtain ⟨h1, h2⟩ := rdL_put x ks vs (by simpa using h) (fun a ha => hk a (List.mem_cons_of_mem _ ha)) (fun a ha => hv a (List.mem_cons_of_mem _ ha))
  have hk72 := hk k List.mem_cons_self
  have e : entsL (k :: ks) (v :: vs) ++ x = txtB k ++ (valB v ++ (entsL ks vs ++ x)) := by simp [entsL]
  rw [e, List.length_cons, rdL, if_neg (by simp [txtB]), textR_put _ _ (by omega), valR_put _ _ (hv v List.mem_cons_self)]
  simp [h1, h2]
 | [], _ :: _, h, _, _ => by simp at h
 | _ :: _, [], h, _, _ => by simp at h
theorem rdB_put (x : List UInt8) : ∀ (ks : List (List UInt8)) (is : List Int), is.length = ks.length → (∀ k ∈ ks, k.length ≤ 72) → (∀ i ∈ is, PageOk i) → (rdB ks.length (entsB ks is ++ x)).map Prod.fst = ks ∧ (rdB ks.length (entsB ks is ++ x)).map Prod.snd = is
 | [], [], _, _, _ => ⟨rfl, rfl⟩
 | k :: ks, i :: is, h, hk, hv => by
  obtain ⟨h1, h2⟩ := rdB_put x ks is (by simpa using h) (fun a ha => hk a (List.mem_cons_of_mem _ ha)) (fun a ha => hv a (List.mem_cons_of_mem _ ha))
  have hk72 := hk k List.mem_cons_self
  obtain ⟨i1, i2⟩ := hv i List.mem_cons_self
  have e : entsB (k :: ks) (i :: is) ++ x = txtB k ++ (two i.toNat ++ (entsB ks is ++ x)) := by simp [entsB]
  rw [e, List.length_cons, rdB, if_neg (by simp [txtB]), textR_put _ _ (by omega)]
  dsimp only
  have e3 : num2 (two i.toNat ++ (entsB ks is ++ x)) = i := by unfold num2; rw [leN_two' _ _ (by omega)]; omega
  rw [drop_two, e3]
  simp [h1, h2]
 | [], _ :: _, h, _, _ => by simp at h
 | _ :: _, [], h, _, _ => by simp at h
theorem put_head (n : NdS) (h : n.Right) (x : List UInt8) : leN ((n.put ++ x).take 1) = n.ks.length := by
 have := h.many
 unfold NdS.put
 simp only [List.cons_append, List.take_succ_cons, List.take_zero, leN, byte_nat (show n.ks.length < 256 by omega)]
 omega
theorem rise_len {n : NdS} (h : n.Right) : ∀ k ∈ n.ks, k.length ≤ 72 := fun k hk => by
 obtain ⟨i, hi, rfl⟩ := List.mem_iff_getElem.1 hk
 exact (h.rise i _ (List.getElem?_eq_getElem hi)).1
theorem leafS_put {n : NdS} (h : n.Right) (hl : n.leaf = true) (x : List UInt8) : leafS (n.put ++ x) = n := by
 obtain ⟨h1, h2, h3⟩ := h.leaf hl
 have hd : (n.put ++ x).drop 1 = entsL n.ks n.vs ++ x := by
  unfold NdS.put
  rw [hl, if_pos rfl]
  rfl
 obtain ⟨e1, e2⟩ := rdL_put x n.ks n.vs h1 (rise_len h) h3
 unfold leafS
 rw [put_head n h, hd, e1, e2]
 obtain ⟨lf, ks, vs, is⟩ := n
 dsimp only at hl h2
 rw [hl, h2]
theorem branchS_put {n : NdS} (h : n.Right) (hl : n.leaf = false) (x : List UInt8) : branchS (n.put ++ x) = n := by
 obtain ⟨h1, h2, h3⟩ := h.branch hl
 obtain ⟨i, is, hi⟩ : ∃ i is, n.is = i :: is := by
  cases hn : n.is with
  | nil => rw [hn] at h1; simp at h1
  | cons a l => exact ⟨a, l, rfl⟩
 have hpi := h3 i (by rw [hi]; exact List.mem_cons_self)
 obtain ⟨p1, p2⟩ := hpi
 have hd : (n.put ++ x).drop 1 = two i.toNat ++ (entsB n.ks is ++ x) := by
  unfold NdS.put
  rw [hl, if_neg (by simp), hi]
  simp
 obtain ⟨e1, e2⟩ := rdB_put x n.ks is (by rw [hi] at h1; simpa using h1) (rise_len h) (fun j hj => h3 j (by rw [hi]; exact List.mem_cons_of_mem _ hj))
 unfold branchS
 rw [put_head n h, hd, drop_two, e1, e2]
 have e3 : num2 (two i.toNat ++ (entsB n.ks is ++ x)) = i := by unfold num2; rw [leN_two' _ _ (by omega)]; omega
 rw [e3]
 obtain ⟨lf, ks, vs, is'⟩ := n
 dsimp only at hl h2 hi
 rw [hl, h2, hi]
def NdS.kind (n : NdS) : Nat := if n.leaf then 2 else 3
theorem readS_put {n : NdS} (h : n.Right) : readS n.kind n.put n := by
 refine ⟨?_, h, rfl⟩
 have hl := h.length
 have hs := h.size
 unfold preS NdS.kind
 rw [if_neg (by omega)]
 cases hlf : n.leaf
 ·
  have := branchS_put h hlf []
  rw [List.append_nil] at this
  simp [this]
 ·
  have := leafS_put h hlf []
  rw [List.append_nil] at this
  simp [this]
end Go.Proofs.YtbbgdbnjmonbgaaGreatDoor

set_option linter.unusedVariables false
set_option linter.unusedSimpArgs false
set_option maxRecDepth 100000
namespace Go.Proofs.YtbbgdbnjmonbgaaGreatDoor
open Go.RowKit
def pnK : Key := [1, 97, 107]
def pnL (b : UInt8) : NdS := ⟨true, [pnK], [⟨[b], 0, 0⟩], []⟩
def pnP (l : Nat) (b : UInt8) : TPg := ⟨l, (pnL b).put, 2⟩
theorem pnL_right (b : UInt8) : (pnL b).Right := by
 refine ⟨by show 1 ≤ 250; omega, fun i k hk => ?_, fun _ => ⟨rfl, rfl, fun v hv => ?_⟩, (fun h => by cases h), by show 7 ≤ 493; omega⟩
 ·
  match i, hk with
  | 0, hk =>
   cases hk
   exact ⟨by decide, fun k' h => absurd h (Nat.lt_irrefl 0)⟩
  | i + 1, hk => cases hk
 ·
  obtain rfl := List.mem_singleton.1 hv
  exact .inl ⟨rfl, rfl, by show 1 ≤ 64; omega⟩
theorem pnL_put (b : UInt8) : (pnL b).put.length = 7 := rfl
theorem pnL_size (b : UInt8) : (pnL b).size = 7 := rfl
theorem pnL_count (b : UInt8) : (pnL b).count ≤ 100000 := by show 6 ≤ 100000; omega
theorem pnL_new (b : UInt8) : putL ⟨true, [], [], []⟩ 0 false pnK ⟨[b], 0, 0⟩ = pnL b := rfl
theorem pnL_again (b c : UInt8) : putL (pnL c) 0 true pnK ⟨[b], 0, 0⟩ = pnL b := rfl
theorem pnP_node {X : PG} {l : Nat} {b : UInt8} (h : TPgsIn X [pnP l b]) (hz : X.S.size ≤ 4096) : NodeIs X l (pnL b) := by
 obtain ⟨h1, h2, gen, h3, h4, h5⟩ := h _ (List.mem_singleton.2 rfl)
 have h1 : (l : Int) < X.S.size := h1
 refine ⟨2, (pnL b).put, X.page_is (k := l) h5 (by omega) h4 h2 h3, ?_⟩
 exact readS_put (pnL_right b)
theorem pn_at : At1 [pnK] pnK 0 true := ⟨Nat.zero_le _, (fun p hp => by cases hp), (fun p hp => by obtain rfl := List.mem_singleton.1 hp; unfold KLe; rw [kc_self]; omega), (by simp)⟩
theorem nodup_le : ∀ {l m : List Int}, l.Nodup → (∀ x ∈ l, x ∈ m) → l.length ≤ m.length
 | [], m, _, _ => Nat.zero_le _
 | x :: l, m, hl, hs => by
  have hx := hs x (List.mem_cons_self ..)
  obtain ⟨h1, h2⟩ := List.nodup_cons.1 hl
  have := nodup_le (l := l) (m := m.erase x) h2 fun y hy => (List.mem_erase_of_ne (by rintro rfl; exact h1 hy)).2 (hs y (List.mem_cons_of_mem _ hy))
  rw [List.length_erase_of_mem hx] at this
  have := List.length_pos_of_mem hx
  rw [List.length_cons]
  omega
theorem least_ex {F : FL} (hok : F.Ok) {U W : List Int} (hu : ∀ k, F.used k = true → k ∈ U) (hw : ∀ k w, F.waits k = some w → k ∈ W) (hlen : (U.length : Int) + W.length < F.hi - F.lo) : ∃ k : Nat, F.least = some (k : Int) := by
 cases e : F.least with
 | none =>
  exfalso
  have hn := FL.least_none e
  have := nodup_le F.pages_nodup (m := U ++ W) fun x hx => by
   obtain ⟨h1, h2⟩ := FL.mem_pages.1 hx
   have h3 := hn x
   unfold FL.st at h3
   rw [if_pos (FL.has_iff.2 ⟨h1, h2⟩)] at h3
   cases hus : F.used x with
   | true => exact List.mem_append_left _ (hu x hus)
   | false =>
    cases hwx : F.waits x with
    | none => rw [hus, hwx] at h3; exact absurd rfl h3
    | some w => exact List.mem_append_right _ (hw x w hwx)
  have hl : F.pages.length = (F.hi - F.lo).toNat := by simp [FL.pages]
  rw [hl, List.length_append] at this
  omega
 | some k =>
  obtain ⟨h1, h2, h3, h4⟩ := FL.st_free (FL.least_some e).1
  have := hok.h0
  exact ⟨k.toNat, congrArg some (by omega)⟩
def PnNow (X : PG) (now : List TPg) : Prop := (now = [] ∧ X.r = 0) ∨ ∃ l b, now = [pnP l b] ∧ X.r = l
structure PX (X : PG) (i : Nat) (now : List TPg) (pins : List (List TPg)) (gens : List Int) (W : List Int) : Prop where
 v : TInv X now now pins gens
 nw : PnNow X now
 ws : ∀ k w, X.F.waits k = some w → k ∈ W
 wl : W.length ≤ i
 n : X.n = 1
 d : X.d = 1
 lf : X.S.left = -1
 o : X.S.ops ≤ 100 + 10 * i
 g : X.g = 2 + i
 z : X.S.size = 300
 pl : X.pins.length ≤ i
section
variable {X : PG} {i : Nat} {now : List TPg} {pins : List (List TPg)} {gens W : List Int}
theorem PnNow.len (h : PnNow X now) : now.length ≤ 1 := by
 rcases h with ⟨rfl, _⟩ | ⟨l, b, rfl, _⟩
 ·
  exact Nat.zero_le _
 ·
  exact Nat.le_refl _
theorem PX.lays (h : PX X i now pins gens W) (hi : i ≤ 20) : ∃ k : Nat, Lays X k := by
 have hl := h.nw.len
 have hw := h.wl
 have hz := h.z
 have hg := h.g
 have ho := h.o
 obtain ⟨k, hk⟩ := least_ex h.v.ok (U := tnos now) (W := W) (fun k hk => (h.v.used k).1 hk) h.ws (by
  rw [h.v.lo, h.v.hi]
  have : (tnos now).length = now.length := by simp [tnos]
  omega)
 exact ⟨k, h.v.failed, hk, by rw [h.lf]; decide, by rw [h.lf]; decide, by rw [h.lf]; decide, by omega, by omega⟩
theorem PX.one (h : PX X i now pins gens W) : ∃ s j t, OneLeaf X X.r s pnK j t ∧ ∀ b, putL s j t pnK ⟨[b], 0, 0⟩ = pnL b := by
 have hz := h.z
 rcases h.nw with ⟨rfl, hr⟩ | ⟨l, b, rfl, hr⟩
 ·
  exact ⟨_, _, _, .inl ⟨by rw [hr]; rfl, rfl, rfl, rfl⟩, pnL_new⟩
 ·
  obtain ⟨h1, h2, _⟩ := h.v.D.pg _ (List.mem_singleton.2 rfl)
  have h1 : 2 ≤ l := h1
  have h2 : (l : Int) < X.S.size := h2
  rw [hr]
  refine ⟨pnL b, 0, true, .inr ⟨by omega, by omega, by omega, pnP_node h.v.pn (by omega), rfl, rfl, pnL_right b, pn_at, fun _ => ⟨_, rfl, rfl, ?_, ?_⟩⟩, fun c => pnL_again c b⟩
  ·
   show (0 : Int) ≤ 0; omega
  ·
   show (0 : Int) ≤ 4096; omega
theorem one_list {r : Int} {l : List Int} (hl : l.Nodup) (hm : ∀ y, y ∈ l ↔ (r ≠ 0 ∧ y = r)) : l = if r = 0 then [] else [r] := by
 by_cases h0 : r = 0
 ·
  rw [if_pos h0]
  exact List.eq_nil_iff_forall_not_mem.2 fun y hy => ((hm y).1 hy).1 h0
 ·
  rw [if_neg h0]
  match l, hl, hm with
  | [], _, hm => exact absurd ((hm r).2 ⟨h0, rfl⟩) (by simp)
  | [x], _, hm => rw [((hm x).1 (List.mem_singleton.2 rfl)).2]
  | x :: y :: m, hl, hm =>
   have e1 := ((hm x).1 (List.mem_cons_self ..)).2
   have e2 := ((hm y).1 (List.mem_cons_of_mem _ (List.mem_cons_self ..))).2
   have := (List.nodup_cons.1 hl).1
   rw [e1, e2] at this
   exact absurd (List.mem_cons_self ..) this
structure PY (Z : PG) (i : Nat) (k : Nat) (b : UInt8) (now : List TPg) (pins : List (List TPg)) (gens W : List Int) : Prop where
 v : TInv Z now [pnP k b] pins gens
 ws : ∀ x w, Z.F.waits x = some w → x ∈ W
 wl : W.length ≤ i + 1
 n : Z.n = 1
 d : Z.d = 1
 lf : Z.S.left = -1
 o : Z.S.ops ≤ 101 + 10 * i
 g : Z.g = 2 + i
 z : Z.S.size = 300
 pl : Z.pins.length ≤ i
 k : 2 ≤ k ∧ k < 300
theorem drop_same (X : PG) (k : Int) : (X.drop k).S = X.S ∧ (X.drop k).g = X.g ∧ (X.drop k).n = X.n ∧ (X.drop k).d = X.d ∧ (X.drop k).pins = X.pins ∧ (X.drop k).r = X.r := by
 unfold PG.drop
 split
 ·
  exact ⟨rfl, rfl, rfl, rfl, rfl, rfl⟩
 ·
  split <;> exact ⟨rfl, rfl, rfl, rfl, rfl, rfl⟩
theorem PX.put (h : PX X i now pins gens W) (hi : i ≤ 20) {k : Nat} (hk : Lays X k) (b : UInt8) {l : List Int} (hl : l.Nodup) (hm : ∀ y, y ∈ l ↔ ((X.r : Int) ≠ 0 ∧ y = X.r)) :
  DropsOk (X.lay k (pageB 2 k (X.g + 1) (pnL b).put)) l ∧ ∃ W', PY ((X.lay k (pageB 2 k (X.g + 1) (pnL b).put)).drops l) i k b now pins gens W' := by
 have hz := h.z
 have hg := h.g
 have hV := h.v.lay (b := (pnL b).put) hk.l 2 (by rw [pnL_put]; omega) hk.g
 have hkk := FL.st_free (FL.least_some hk.l).1
 have hlo := h.v.lo
 have hhi := h.v.hi
 rw [one_list hl hm]
 have ho := h.o
 have hwl := h.wl
 rcases h.nw with ⟨rfl, hr⟩ | ⟨l0, b0, rfl, hr⟩
 ·
  rw [hr, if_pos (by rfl)]
  exact ⟨trivial, W, hV, h.ws, by omega, h.n, h.d, SD.tick_left h.lf, by show X.S.ops + 1 ≤ _; omega, hg, hz, h.pl, by omega, by omega⟩
 ·
  obtain ⟨h1, h2, _⟩ := h.v.D.pg _ (List.mem_singleton.2 rfl)
  have h1 : 2 ≤ l0 := h1
  rw [hr, if_neg (by omega)]
  obtain ⟨d1, d2, d3⟩ := hV.drop (j := 0) rfl
  refine ⟨⟨fun _ => d1, d2, trivial⟩, (l0 : Int) :: W, d3, ?_, by rw [List.length_cons]; omega, ?_, ?_, ?_, ?_, ?_, ?_, ?_, by omega, by omega⟩
  ·
   show ∀ x w, ((X.lay k (pageB 2 k (X.g + 1) (pnL b).put)).drop (l0 : Int)).F.waits x = some w → _
   unfold PG.drop
   intro x w hx
   split at hx
   ·
    exact List.mem_cons_of_mem _ (h.ws x w hx)
   ·
    split at hx
    ·
     have hx' : (if x = (l0 : Int) then some ((X.g : Int) + 1) else X.F.waits x) = some w := hx
     by_cases e : x = (l0 : Int)
     ·
      rw [e]; exact List.mem_cons_self ..
     ·
      rw [if_neg e] at hx'; exact List.mem_cons_of_mem _ (h.ws x w hx')
    ·
     exact List.mem_cons_of_mem _ (h.ws x w hx)
  all_goals
   obtain ⟨q1, q2, q3, q4, q5, q6⟩ := drop_same (X.lay k (pageB 2 k (X.g + 1) (pnL b).put)) (l0 : Int)
  ·
   exact q3.trans h.n
  ·
   exact q4.trans h.d
  ·
   rw [show ((X.lay k (pageB 2 k (X.g + 1) (pnL b).put)).drops [(l0 : Int)]).S = _ from q1]; exact SD.tick_left h.lf
  ·
   rw [show ((X.lay k (pageB 2 k (X.g + 1) (pnL b).put)).drops [(l0 : Int)]).S = _ from q1]; show X.S.ops + 1 ≤ _; omega
  ·
   exact q2.trans hg
  ·
   rw [show ((X.lay k (pageB 2 k (X.g + 1) (pnL b).put)).drops [(l0 : Int)]).S = _ from q1]; exact hz
  ·
   rw [show ((X.lay k (pageB 2 k (X.g + 1) (pnL b).put)).drops [(l0 : Int)]).pins = _ from q5]; exact h.pl
theorem PY.commit {Z : PG} {k : Nat} {b : UInt8} (h : PY Z i k b now pins gens W) (hi : i ≤ 20) :
  Follows Z k 1 1 ∧ Fit Z.S 999999990 ∧ Z.failed = false ∧ (Z.commit k 1 1).r = k ∧ (Z.commit k 1 1).g = Z.g + 1 ∧ pidx (Z.commit k 1 1).pins (Z.commit k 1 1).g = none ∧ (Z.commit k 1 1).pins.length ≤ 1000000 ∧
  PX { Z.commit k 1 1 with pins := (Z.commit k 1 1).pins ++ [(((Z.commit k 1 1).g : Int), 1)] } (i + 1) [pnP k b] (pins ++ [[pnP k b]]) (gens ++ [((Z.commit k 1 1).g : Int)]) W := by
 have hg := h.g
 have hk := h.k
 have ho := h.o
 have hz := h.z
 have hpl := h.pl
 have hm : MRight ((Z.g + 1 : Nat) : Int) k (1 : Nat) (1 : Nat) := by
  refine ⟨⟨?_, ?_⟩, ?_, ⟨?_, ?_⟩, ⟨?_, ?_⟩⟩ <;> first | omega | (right; omega)
 obtain ⟨f1, f2⟩ := h.v.follows hm (.inr (T_mem_pnos.2 ⟨_, List.mem_singleton.2 rfl, rfl⟩)) (by rw [h.n]; exact Nat.le_refl _) (by rw [h.d]; exact Nat.le_refl _)
 have hc := h.v.commit hm f2
 have hpn : pidx (Z.commit k 1 1).pins (Z.commit k 1 1).g = none := by
  cases e : pidx (Z.commit k 1 1).pins (Z.commit k 1 1).g with
  | none => rfl
  | some j =>
   exfalso
   obtain ⟨x, hx, hxg⟩ := pidx_get e
   obtain ⟨c1, c2⟩ := h.v.po.cnt x (List.mem_of_getElem? hx)
   have := h.v.po.le x.1 (List.count_pos_iff.1 (by omega))
   have e2 : (((Z.commit k 1 1).g : Nat) : Int) = (Z.g : Int) + 1 := by show ((Z.g + 1 : Nat) : Int) = _; omega
   omega
 have hp := hc.pinned
 unfold PG.pin at hp
 rw [hpn] at hp
 refine ⟨f1, ⟨by rw [h.lf]; omega, by rw [h.lf]; omega, by omega⟩, h.v.failed, rfl, rfl, hpn, by show Z.pins.length ≤ _; omega, hp, .inr ⟨k, b, rfl, rfl⟩, fun x w hx => ?_, h.wl, rfl, rfl, PG.comS_left h.lf _ _ _, ?_, by show Z.g + 1 = _; omega, hz, ?_⟩
 ·
  have hx' : (match Z.F.waits x with | some g => if decide (g ≤ (Z.com0 k 1 1).low) then none else some g | none => none) = some w := hx
  cases e : Z.F.waits x with
  | none => rw [e] at hx'; cases hx'
  | some v => exact h.ws x v e
 ·
  show (Z.comS k 1 1).ops ≤ _
  rw [PG.comS_ops]
  omega
 ·
  show (Z.pins ++ _).length ≤ _
  rw [List.length_append]
  show Z.pins.length + 1 ≤ _
  omega
end
end Go.Proofs.YtbbgdbnjmonbgaaGreatDoor

