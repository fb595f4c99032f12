/-
  TxnPins.
  Two rows of ints that are two.
-/
import Derived.Test.YtbbgdbnjmonbgaaGreatDoorH00
import Derived.Test.YtbbgdbnjmonbgaaGreatDoorH32
import Derived.Test.YtbbgdbnjmonbgaaGreatDoorH26
import Derived.Test.YtbbgdbnjmonbgaaGreatDoorH12
import Derived.Deep.AppendLies
set_option linter.unusedVariables false
set_option linter.unusedSimpArgs false
set_option maxRecDepth 100000
namespace Go.Proofs.YtbbgdbnjmonbgaaGreatDoor
open Go.RowKit
structure VF (f : Int → Option (Int × Int)) (pins : List (List TPg)) (gens : List Int) (bs : List UInt8) : Prop where
 at_ : ∀ (j : Nat) (g : Int), gens[j]? = some g → ∃ (l : Nat) (b : UInt8), pins[j]? = some [pnP l b] ∧ bs[j]? = some b ∧ f g = some ((l : Int), 1)
 fn : ∀ x, x ∉ gens → f x = none
 nd : gens.Nodup
 lo : ∀ g ∈ gens, 3 ≤ g
 lp : pins.length = gens.length
 lb : bs.length = gens.length
theorem VF.start : VF (fun _ => none) [] [] [] := ⟨(fun j g h => by cases h), (fun _ _ => rfl), List.nodup_nil, (fun g h => by cases h), rfl, rfl⟩
section
variable {f : Int → Option (Int × Int)} {X : PG} {now : List TPg} {pins : List (List TPg)} {gens W : List Int} {bs : List UInt8} {i : Nat}
theorem VF.pin (h : VF f pins gens bs) {g : Int} (hg : g ∉ gens) (h3 : 3 ≤ g) (k : Nat) (b : UInt8) : VF (fun x => if x = g then some ((k : Int), 1) else f x) (pins ++ [[pnP k b]]) (gens ++ [g]) (bs ++ [b]) := by
 refine ⟨fun j x hx => ?_, fun x hx => ?_, ?_, fun x hx => ?_, by simp [h.lp], by simp [h.lb]⟩
 ·
  by_cases e : j < gens.length
  ·
   rw [List.getElem?_append_left e] at hx
   obtain ⟨l, c, h1, h2, h4⟩ := h.at_ j x hx
   refine ⟨l, c, by rw [List.getElem?_append_left (by rw [h.lp]; exact e)]; exact h1, by rw [List.getElem?_append_left (by rw [h.lb]; exact e)]; exact h2, ?_⟩
   rw [if_neg (by rintro rfl; exact hg (List.mem_of_getElem? hx))]
   exact h4
  ·
   have e2 : j = gens.length := by
    have := (List.getElem?_eq_some_iff.1 hx).1
    rw [List.length_append] at this
    simp at this
    omega
   subst e2
   rw [List.getElem?_append_right (Nat.le_refl _), Nat.sub_self] at hx
   cases hx
   exact ⟨k, b, by rw [← h.lp]; simp, by rw [← h.lb]; simp, if_pos rfl⟩
 ·
  rw [List.mem_append, List.mem_singleton] at hx
  rw [if_neg fun e => hx (.inr e)]
  exact h.fn x fun e => hx (.inl e)
 ·
  rw [List.nodup_append]
  exact ⟨h.nd, by simp, fun x hx y hy e => by rw [List.mem_singleton] at hy; exact hg (by rw [← hy, ← e]; exact hx)⟩
 ·
  rcases List.mem_append.1 hx with hx | hx
  ·
   exact h.lo x hx
  ·
   rw [List.mem_singleton] at hx; rw [hx]; exact h3
theorem VF.gone (h : VF f pins gens bs) {j : Nat} {v : Int} (hj : gens[j]? = some v) : VF (fun x => if x = v then none else f x) (pins.eraseIdx j) (gens.eraseIdx j) (bs.eraseIdx j) := by
 have hm : ∀ x, x ∈ gens.eraseIdx j ↔ x ∈ gens ∧ x ≠ v := fun x => mem_eraseIdx_nodup h.nd hj x
 refine ⟨fun i x hx => ?_, fun x hx => ?_, h.nd.sublist (List.eraseIdx_sublist _ _), fun x hx => h.lo x ((hm x).1 hx).1, ?_, ?_⟩
 ·
  have hxm := (hm x).1 (List.mem_of_getElem? hx)
  rw [List.getElem?_eraseIdx] at hx
  rw [if_neg hxm.2, List.getElem?_eraseIdx, List.getElem?_eraseIdx]
  by_cases e : i < j
  ·
   rw [if_pos e] at hx ⊢
   rw [if_pos e]
   exact h.at_ i x hx
  ·
   rw [if_neg e] at hx ⊢
   rw [if_neg e]
   exact h.at_ (i + 1) x hx
 ·
  by_cases e : x = v
  ·
   rw [if_pos e]
  ·
   rw [if_neg e]
   exact h.fn x fun hx' => hx ((hm x).2 ⟨hx', e⟩)
 ·
  rw [List.length_eraseIdx, List.length_eraseIdx, h.lp]
 ·
  rw [List.length_eraseIdx, List.length_eraseIdx, h.lb]
structure PQ (X : PG) (now : List TPg) (pins : List (List TPg)) (gens : List Int) : Prop where
 v : TInv X now now pins gens
 ln : now.length ≤ 1
 z : X.S.size = 300
 e : gens = [] → ∀ k, X.F.waits k = none
 l : gens.length ≤ 20
theorem PX.q (h : PX X i now pins gens W) (hi : i ≤ 20) (hl : gens.length = i) : PQ X now pins gens := by
 refine ⟨h.v, h.nw.len, h.z, fun e k => ?_, by omega⟩
 have hw := h.wl
 rw [e] at hl
 have : W = [] := List.eq_nil_of_length_eq_zero (by simp at hl; omega)
 subst this
 cases e2 : X.F.waits k with
 | none => rfl
 | some w => exact absurd (h.ws k w e2) (by simp)
theorem settled_none {Y : PG} (hv : TInv Y now now pins []) (hs : ∀ k w, Y.F.waits k = some w → Y.low < w) (k : Int) : Y.F.waits k = none := by
 cases e : Y.F.waits k with
 | none => rfl
 | some w =>
  exfalso
  have h1 := hs k w e
  have hp : Y.pins = [] := by
   cases ep : Y.pins with
   | nil => rfl
   | cons x l =>
    have := hv.po.cnt x (by rw [ep]; exact List.mem_cons_self ..)
    simp at this
    omega
  have hl : Y.low = Y.g := by unfold PG.low; rw [hp]
  obtain ⟨h2, h3⟩ := hv.wt k w e
  have hk := h3 (by omega)
  have hu := (hv.used k).2 hk
  have := hv.ok.ha hu
  rw [e] at this
  cases this
theorem settle_waits (Z : PG) : ∀ k w, Z.settle.F.waits k = some w → Z.settle.low < w := by
 intro k w hx
 have hx' : (match Z.F.waits k with | some g => if decide (g ≤ Z.low) then none else some g | none => none) = some w := hx
 show Z.low < w
 cases e : Z.F.waits k with
 | none => rw [e] at hx'; cases hx'
 | some v =>
  rw [e] at hx'
  simp only at hx'
  split at hx'
  ·
   cases hx'
  ·
   rename_i hd
   cases hx'
   simp at hd
   exact hd
theorem PQ.unpin (h : PQ X now pins gens) {j : Nat} {v : Int} (hj : gens[j]? = some v) :
  ∃ Y, PQ Y now (pins.eraseIdx j) (gens.eraseIdx j) ∧ ∀ (w : World) (B P pd : Nat), GrAt w B P pd X → Calls Tryz.prog 31 #[.pointer (some ⟨P, 0, none⟩), .int .i64 v] w fun e w' => e = .returned (.int .i64 0) ∧ GrStep w w' B P pd Y := by
 obtain ⟨i, x, h1, h2, h3, h4, h5, h6⟩ := h.v.unpin hj
 have hl : (gens.eraseIdx j).length ≤ 20 := by
  have := (List.eraseIdx_sublist gens j).length_le
  have := h.l
  omega
 have hgl := h.l
 by_cases e : x.2 = 1
 ·
  have hV := h6 e
  refine ⟨_, ⟨hV, h.ln, h.z, fun e2 => ?_, hl⟩, fun w B P pd hg => ?_⟩
  ·
   rw [e2] at hV
   exact settled_none hV (settle_waits _)
  ·
   obtain ⟨lm, fm, pl, um, wm, la, u, hg⟩ := hg
   exact grUnpin_gone hg h1 h2 e
 ·
  have hV := h5 (by omega)
  refine ⟨_, ⟨hV, h.ln, h.z, fun e2 => ?_, hl⟩, fun w B P pd hg => ?_⟩
  ·
   rw [e2] at hV
   exact settled_none hV (settle_waits _)
  ·
   obtain ⟨lm, fm, pl, um, wm, la, u, hg⟩ := hg
   exact grUnpin_less hg h1 h2 ⟨by omega, by omega⟩
theorem PX.start {S : SD} (hz : S.size = 300) (hl : S.left = -1) (ho : S.ops = 0) (hok : (fmtS S 2).flush.Ok) : PX { PG.new (fmtS S 2).flush 2 0 1 1 with kept := true } 0 [] [] [] [] := by
 have hs : (fmtS S 2).flush.size = S.size := fmtS_size (S := S) 2
 have hF : (PG.new (fmtS S 2).flush 2 0 1 1).F.Ok := by
  refine ⟨?_, ?_, ?_, ?_, ?_, ?_⟩
  ·
   show (0 : Int) ≤ 2; omega
  ·
   show (2 : Int) ≤ (fmtS S 2).flush.size; omega
  ·
   show (fmtS S 2).flush.size ≤ 4096; omega
  ·
   intro k hk; cases hk
  ·
   intro k hk; cases hk
  ·
   intro k hk; cases hk
 have h1 := TInv.start (S := S) (by omega) hok hF
 have e : (PG.new (fmtS S 2).flush 2 0 1 1).F.takes [] = (PG.new (fmtS S 2).flush 2 0 1 1).F := rfl
 rw [e] at h1
 refine ⟨h1, .inl ⟨rfl, rfl⟩, (fun k w hk => by cases hk), Nat.le_refl _, rfl, rfl, fmt_flush_left hl, ?_, rfl, hs.trans hz, Nat.le_refl _⟩
 show (fmtS S 2).ops + 1 ≤ _
 have := (fmtS_ops (S := S) 2).1
 omega
theorem PX.got (h : PX X i now pins gens W) : ∃ th, ∀ (w : World) (B P pd : Nat) (k : Kb), Tab w → GrAt w B P pd X → 1 < B → k.Ok w → k.l = pnK →
  Calls Tryz.prog 30 #[.pointer (some ⟨P, 0, none⟩), .int .i64 X.r, .slice k.q k.l.length k.c] w fun e w' => ∃ y : Kb, e = .returned (.tuple #[.slice y.q y.l.length y.c, .bool th, .int .i64 0]) ∧ Below w.heap.size w w' := by
 have hh : X.F.hi = X.S.size := h.v.hi
 have hz := h.z
 rcases h.nw with ⟨rfl, hr⟩ | ⟨l, b, rfl, hr⟩
 ·
  refine ⟨false, fun w B P pd k hT hg ht hk hkl => (trGet_any hT hg hh ht X.r hk (by rw [hkl]; decide)).mono ?_⟩
  rw [hkl, hr]
  have hw : ∀ m, WayR X pnK (fun _ => false) ((0 : Nat) : Int) m → m = [] := fun m hm => by
   unfold WayR at hm
   rw [if_pos (by rfl)] at hm
   exact hm
  rintro e w' ⟨hb, ⟨x, ⟨m, v, ps, hm, ht, _⟩, rfl, hxt⟩ | ⟨hx, rfl⟩ | ⟨hx, _⟩⟩
  ·
   rw [hw m hm] at ht
   cases ht
  ·
   exact ⟨⟨none, 0, []⟩, rfl, hb⟩
  ·
   refine absurd ⟨[], ?_, rfl⟩ (hx none)
   unfold WayR
   rw [if_pos (by rfl)]
 ·
  have hn := pnP_node h.v.pn (by omega)
  obtain ⟨h1, _⟩ := h.v.D.pg _ (List.mem_singleton.2 rfl)
  have h1 : 2 ≤ l := h1
  refine ⟨true, fun w B P pd k hT hg ht hk hkl => (trGet_any hT hg hh ht X.r hk (by rw [hkl]; decide)).mono ?_⟩
  rw [hkl, hr]
  have hw : ∀ m, WayR X pnK (fun _ => false) (l : Int) m ↔ m = [⟨l, 1, SpS.zero, pnL b, 0, true⟩] := fun m => by
   unfold WayR
   rw [if_neg (by omega)]
   exact WayS.leafIff (X := X) (key := pnK) (seen := fun _ => false) (no := l) (deep := 1) (sp := SpS.zero) ⟨rfl, by decide, hn, rfl⟩ rfl pn_at m
  rintro e w' ⟨hb, ⟨x, hx, rfl, hxt⟩ | ⟨⟨m, hm, ht⟩, _⟩ | ⟨hx, _⟩⟩
  ·
   exact ⟨x, rfl, hb⟩
  ·
   rw [(hw m).1 hm] at ht
   cases ht
  ·
   refine absurd ⟨_, ⟨[b], 0, 0⟩, [], (hw _).2 rfl, rfl, rfl, ?_⟩ (hx (some [b]))
   unfold ValS
   rw [if_pos rfl]
   exact ⟨rfl, rfl⟩
theorem PX.round (h : PX X i now pins gens W) (hi : i ≤ 20) (b : UInt8) : ∃ (k : Nat) (Y : PG) (W' : List Int), PY Y i k b now pins gens W' ∧ ∀ (w : World) (B P pd : Nat) (kb val : Kb), Tab w → GrAt w B P pd X → 1 < B → kb.Ok w → kb.l = pnK → val.Ok w → val.l = [b] →
  Calls Tryz.prog 94 #[.pointer (some ⟨P, 0, none⟩), .int .i64 X.r, .slice kb.q kb.l.length kb.c, .slice val.q val.l.length val.c] w fun e w' => e = .returned (.tuple #[.int .i64 k, .int .i64 0]) ∧ GrStep w w' B P pd Y := by
 obtain ⟨k, hk⟩ := h.lays hi
 obtain ⟨s, j, t, ho, hp⟩ := h.one
 have hl : (if (X.r : Int) = 0 then ([] : List Int) else [(X.r : Int)]).Nodup := by split <;> simp
 have hm : ∀ y, y ∈ (if (X.r : Int) = 0 then ([] : List Int) else [(X.r : Int)]) ↔ ((X.r : Int) ≠ 0 ∧ y = X.r) := fun y => by
  by_cases e : (X.r : Int) = 0
  ·
   rw [if_pos e]; simp [e]
  ·
   rw [if_neg e, List.mem_singleton]; exact ⟨fun h => ⟨e, h⟩, fun h => h.2⟩
 obtain ⟨_, W', hY⟩ := h.put hi hk b hl hm
 refine ⟨k, _, W', hY, fun w B P pd kb val hT hg ht hkb hkl hval hvl => ?_⟩
 have hq := hp b
 have hpo := put1_ok hT hg h.v.hi ht hk hkb (by rw [hkl]; decide) hval (by rw [hvl]; show 1 ≤ 64; omega) (by rw [hkl]; exact ho) (by rw [hkl, hvl, hq]; exact pnL_right b) (by rw [hkl, hvl, hq, pnL_size]; omega) (by rw [hkl, hvl, hq]; exact pnL_count b) (fun l hl hm => by rw [hkl, hvl, hq]; exact (h.put hi hk b hl hm).1)
 rw [hkl, hvl, hq] at hpo
 rw [hkl, hvl]
 refine hpo.mono ?_
 rintro e w' ⟨l, hl2, hm2, rfl, hs⟩
 rw [one_list hl2 hm2] at hs
 exact ⟨rfl, hs⟩
theorem PQ.fin (h : PQ X now pins []) : X.F.nWaits = 0 ∧ X.F.nUsed ≤ 1 ∧ X.F.nFree + X.F.nUsed = 298 := by
 obtain ⟨h1, h2⟩ := h.v.counts
 have h3 := FL.no_waits (h.e rfl)
 have hl := h.ln
 have hz := h.z
 refine ⟨h3, by omega, by omega⟩
theorem PQ.get (h : PQ X now pins gens) {j : Nat} {l : Nat} {b : UInt8} (hj : pins[j]? = some [pnP l b]) (o : Option (List UInt8)) : GetR X l pnK o ↔ o = some [b] := by
 have hz := h.z
 have hp := h.v.pp _ (List.mem_of_getElem? hj)
 have hn := pnP_node hp (by omega)
 obtain ⟨i, hi⟩ := List.getElem?_of_mem (List.mem_of_getElem? hj)
 have hl2 : (2 : Int) ≤ l := by
  obtain ⟨_, _, _, _, _, h5⟩ := hp _ (List.mem_singleton.2 rfl)
  have := FL.st_any.1 h5
  have := h.v.lo
  have h6 : X.F.lo ≤ (l : Int) := this.symm ▸ (FL.st_any.1 h5).1
  omega
 have hw : ∀ m, WayR X pnK (fun _ => false) l m ↔ m = [⟨l, 1, SpS.zero, pnL b, 0, true⟩] := fun m => by
  unfold WayR
  rw [if_neg (by omega)]
  exact WayS.leafIff (X := X) (key := pnK) (seen := fun _ => false) (no := l) (deep := 1) (sp := SpS.zero) ⟨rfl, by decide, hn, rfl⟩ rfl pn_at m
 cases o with
 | none =>
  constructor
  ·
   rintro ⟨m, hm, ht⟩
   rw [(hw m).1 hm] at ht
   cases ht
  ·
   intro e; cases e
 | some bs =>
  constructor
  ·
   rintro ⟨m, v, ps, hm, ht, hv, hs⟩
   rw [(hw m).1 hm] at hv
   have hv' : some (⟨[b], 0, 0⟩ : VlS) = some v := hv
   cases hv'
   unfold ValS at hs
   rw [if_pos rfl] at hs
   rw [hs.1]
  ·
   intro e
   cases e
   refine ⟨_, ⟨[b], 0, 0⟩, [], (hw _).2 rfl, rfl, rfl, ?_⟩
   unfold ValS
   rw [if_pos rfl]
   exact ⟨rfl, rfl⟩
theorem PQ.get_ok (h : PQ X now pins gens) {j : Nat} {l : Nat} {b : UInt8} (hj : pins[j]? = some [pnP l b]) {w : World} {B P pd : Nat} (hT : Tab w) (hg : GrAt w B P pd X) (ht : 1 < B) {k : Kb} (hk : k.Ok w) (hkl : k.l = pnK) :
  Calls Tryz.prog 30 #[.pointer (some ⟨P, 0, none⟩), .int .i64 l, .slice k.q k.l.length k.c] w fun e w' => ∃ y : Kb, e = .returned (.tuple #[.slice y.q y.l.length y.c, .bool true, .int .i64 0]) ∧ y.l = [b] ∧ y.Ok w' ∧ Below w.heap.size w w' := by
 have hh : X.F.hi = X.S.size := h.v.hi
 refine (trGet_any hT hg hh ht l hk (by rw [hkl]; decide)).mono ?_
 rw [hkl]
 rintro e w' ⟨hb, ⟨x, hx, rfl, hxt⟩ | ⟨hx, _⟩ | ⟨hx, _⟩⟩
 ·
  have := (h.get hj _).1 hx
  exact ⟨x, rfl, by simpa using this, hxt.ok, hb⟩
 ·
  cases (h.get hj _).1 hx
 ·
  exact absurd ((h.get hj _).2 rfl) (hx _)
end
section
variable {w w' : World} {B P pd s pm : Nat} {X : PG} {f : Int → Option (Int × Int)} {nw : Value} {fl : Bool}
set_option maxHeartbeats 800000 in
theorem txRelease_none (h : TxBox w s P nw pm fl) (hm : PM w P pm f) {g : Int} (hf : f g = none) :
  Calls Tryz.prog 12 #[.pointer (some ⟨s, 0, none⟩), .int .i64 g] w fun e w' => e = .returned (.int .i64 13) ∧ Below w.heap.size w w' := by
 have HM := Hq (txMade_yes h)
 have c2 := h.c2
 have hlk := hm.look g
 rw [hf] at hlk
 simp only [Option.getD_none, Option.isSome_none] at hlk
 clear h hm hf
 go_enter Tryz.func12, Tryz.ntmps12
 go_wp2_with fail
 refine HM.out.mono ?_; rintro e w1 ⟨rfl, rfl⟩
 go_wp2
 go_ret
 exact ⟨rfl, sbox1 _ _⟩
set_option maxHeartbeats 400000 in
theorem txWaiting_yes (h : TxBox w s P nw pm fl) (hg : GrAt w B P pd X) :
  Calls Tryz.prog 13 #[.pointer (some ⟨s, 0, none⟩)] w fun e w' => e = .returned (.int .i64 X.F.nWaits) ∧ w = w' := by
 have H := Hq (txBelow_yes h)
 have HG : Hid (Calls Tryz.prog 33 #[.pointer (some ⟨P, 0, none⟩)] w fun e w' => e = .returned (.int .i64 X.F.nWaits) ∧ w = w') := Hq (by
  obtain ⟨lm, fm, pl, um, wm, la, u, hg⟩ := hg
  exact grWaiting hg)
 clear h hg
 go_enter Tryz.func13, Tryz.ntmps13
 go_wp2_with fail
 refine H.out.mono ?_; rintro e w1 ⟨rfl, rfl⟩
 go_wp2_with fail
 refine HG.out.mono ?_; rintro e w1 ⟨rfl, rfl⟩
 go_wp2
 go_ret
 exact ⟨rfl, rfl⟩
set_option maxHeartbeats 400000 in
theorem txUsed_yes (h : TxBox w s P nw pm fl) (hg : GrAt w B P pd X) :
  Calls Tryz.prog 14 #[.pointer (some ⟨s, 0, none⟩)] w fun e w' => e = .returned (.int .i64 X.F.nUsed) ∧ w = w' := by
 have H := Hq (txBelow_yes h)
 have HG : Hid (Calls Tryz.prog 34 #[.pointer (some ⟨P, 0, none⟩)] w fun e w' => e = .returned (.int .i64 X.F.nUsed) ∧ w = w') := Hq (by
  obtain ⟨lm, fm, pl, um, wm, la, u, hg⟩ := hg
  exact grUsed hg)
 clear h hg
 go_enter Tryz.func14, Tryz.ntmps14
 go_wp2_with fail
 refine H.out.mono ?_; rintro e w1 ⟨rfl, rfl⟩
 go_wp2_with fail
 refine HG.out.mono ?_; rintro e w1 ⟨rfl, rfl⟩
 go_wp2
 go_ret
 exact ⟨rfl, rfl⟩
set_option maxHeartbeats 400000 in
theorem txFree_yes (h : TxBox w s P nw pm fl) (hg : GrAt w B P pd X) :
  Calls Tryz.prog 15 #[.pointer (some ⟨s, 0, none⟩)] w fun e w' => e = .returned (.int .i64 X.F.nFree) ∧ Below w.heap.size w w' := by
 have H := Hq (txBelow_yes h)
 have HG : Hid (Calls Tryz.prog 35 #[.pointer (some ⟨P, 0, none⟩)] w fun e w' => e = .returned (.int .i64 X.F.nFree) ∧ Below w.heap.size w w') := Hq (by
  obtain ⟨lm, fm, pl, um, wm, la, u, hg⟩ := hg
  exact grFree hg)
 clear h hg
 go_enter Tryz.func15, Tryz.ntmps15
 go_wp2_with fail
 refine H.out.mono ?_; rintro e w1 ⟨rfl, rfl⟩
 go_wp2_with fail
 refine HG.out.mono ?_; rintro e w1 ⟨rfl, hb⟩
 go_wp2
 go_ret
 exact ⟨rfl, hb⟩
end
end Go.Proofs.YtbbgdbnjmonbgaaGreatDoor

set_option linter.unusedVariables false
set_option maxRecDepth 100000
namespace Go.Proofs.YtbbgdbnjmonbgaaGreatDoor
open Go.RowKit
structure Two (w : World) (B : Nat) (v : Value) (l : List Int) (u : Value) (m : List Int) : Prop where
 a : OwnI w B v l
 b : OwnI w B u m
 ne : v.ownBlock = none ∨ v.ownBlock ≠ u.ownBlock
section
variable {w w' : World} {B : Nat} {v u : Value} {l m : List Int}
theorem Two.symm (h : Two w B v l u m) : Two w B u m v l := ⟨h.b, h.a, by
 rcases h.ne with h0 | h0
 ·
  cases h1 : u.ownBlock with
  | none => exact .inl rfl
  | some g => exact .inr (by rw [h0]; simp)
 ·
  exact .inr fun e => h0 e.symm⟩
theorem Two.nil : Two w B (.slice none 0 0) [] (.slice none 0 0) [] := ⟨OwnI.nil _ _, OwnI.nil _ _, .inl rfl⟩
theorem Two.low (h : Two w B v l u m) (hb : Below w.heap.size w w') : Two w' B v l u m := ⟨h.a.below hb, h.b.below hb, h.ne⟩
theorem OwnI.keepsK {K : Nat → Obj → Bool} {v : Value} {l : List Int} (h : OwnI w B v l) (hk : Keeps K w w') (hK : ∀ i c f, K i (.cells c 3 f) = false) : OwnI w' B v l := by
 refine ⟨h.1, ?_⟩
 rcases h.2 with h0 | ⟨g, cap, cur, hv, h1, hg, h2⟩
 ·
  exact .inl h0
 ·
  exact .inr ⟨g, cap, cur, hv, h1, hk.stay hg (hK _ _ _), h2⟩
theorem Two.keeps {K : Nat → Obj → Bool} (h : Two w B v l u m) (hk : Keeps K w w') (hK : ∀ i c f, K i (.cells c 3 f) = false) : Two w' B v l u m := ⟨h.a.keepsK hk hK, h.b.keepsK hk hK, h.ne⟩
theorem OwnI.keepsQ {K : Nat → Obj → Bool} {v : Value} {l : List Int} (h : OwnI w B v l) (hk : Keeps K w w') (hK : ∀ i c f, w.heap[i]? = some (.cells c 3 f) → K i (.cells c 3 f) = false) : OwnI w' B v l := by
 refine ⟨h.1, ?_⟩
 rcases h.2 with h0 | ⟨g, cap, cur, hv, h1, hg, h2⟩
 ·
  exact .inl h0
 ·
  exact .inr ⟨g, cap, cur, hv, h1, hk.stay hg (hK _ _ _ hg), h2⟩
theorem Two.keepsQ {K : Nat → Obj → Bool} (h : Two w B v l u m) (hk : Keeps K w w') (hK : ∀ i c f, w.heap[i]? = some (.cells c 3 f) → K i (.cells c 3 f) = false) : Two w' B v l u m := ⟨h.a.keepsQ hk hK, h.b.keepsQ hk hK, h.ne⟩
theorem ofTx_int {P : Nat} (i : Nat) (c : Array Value) (f : Nat × Nat) : ofTx P i (.cells c 3 f) = false := by
 have h1 : ofGrP P i (.cells c 3 f) = false := ofGr_int i c f
 simp only [ofTx, h1]
 rfl
theorem run_two (h : Two w B v l u m) (ty : TypeId) {q : Option Addr} {n c : Nat} {news : List Int} (hsrc : ∃ C, Lie C w (.slice q n c) news) (hlen : l.length + news.length ≤ 1000000000) (hB : B ≤ w.heap.size) :
  ∃ v' w', (Builtin.append_ #[22, 22] ty #[v, .slice q n c]).run Tryz.prog w = .ok v' w' ∧ Two w' B v' (l ++ news) u m ∧ w.grownBy w' v.ownBlock ∧ (v'.ownBlock = v.ownBlock ∨ v'.ownBlock = some w.heap.size) := by
 obtain ⟨C, hsrc⟩ := hsrc
 have hn : n = news.length := by obtain ⟨_, _, hv, _⟩ := hsrc; cases hv; rfl
 obtain ⟨i, hi, hz0, hz1, hz2⟩ := info_parts info_int
 have hub : ∀ g, u.ownBlock = some g → g < w.heap.size := fun g hg => (World.ownsRow.lt h.b g hg).2
 cases q with
 | none =>
  have hnil : news = [] := by
   rcases news with _ | ⟨x, news⟩
   ·
    rfl
   ·
    obtain ⟨b, o, hp, _⟩ := hsrc.at (show (x :: news)[0]? = some x from rfl)
    cases hp
  subst hnil
  have hn0 : n = 0 := hn
  subst hn0
  exact ⟨v, w, run_append_onto_none B 22 ty 3 i 1 c Tryz.underlying22 hi v _ _ h.a, by rw [List.append_nil]; exact h, ⟨rfl, rfl, rfl, Nat.le_refl _, fun _ _ _ => rfl⟩, .inl rfl⟩
 | some ad =>
  have hcells : ∀ (j : Nat) x, (i64s news)[j]? = some x → w.cell? (ad.add j) = some x := by
   intro j x hj
   unfold i64s at hj
   rw [List.getElem?_map] at hj
   cases hm : news[j]? with
   | none => rw [hm] at hj; cases hj
   | some y =>
    rw [hm] at hj
    cases hj
    obtain ⟨b, o, hp, hc⟩ := hsrc.at hm
    obtain rfl := Option.some.inj hp
    rw [Addr.add_lit]
    exact hc
  obtain ⟨v', w', hr, h2, h3, _, h5⟩ := run_append_own_at (P := Tryz.prog) w B 22 ty 3 i (.int .i64 0) 1 8 Tryz.underlying22 hi hz0 hz1 hz2 rfl (by decide) v _ _ h.a ad n c (i64s news) (by rw [hn]; simp [i64s]) hcells (fun x hx => by unfold i64s at hx; obtain ⟨y, _, rfl⟩ := List.mem_map.1 hx; rfl) (by simp only [maxLen]; omega) (by omega) hB
  refine ⟨v', w', hr, ⟨?_, World.ownsRow.kept h.b h3 ?_, ?_⟩, h3, h5⟩
  ·
   unfold OwnI
   rw [List.length_append, ← hn]
   simpa [i64s] using h2
  ·
   exact h.symm.ne
  ·
   cases e : u.ownBlock with
   | none =>
    cases e2 : v'.ownBlock with
    | none => exact .inl rfl
    | some g => exact .inr (by simp)
   | some g =>
    have := hub g e
    rcases h5 with h5 | h5
    ·
     rw [h5]; rw [← e]; exact h.ne
    ·
     exact .inr (by rw [h5]; intro h6; have := Option.some.inj h6; omega)
theorem step_two {ops : Array Oper} {o : Oper} {a : Act} {K : Act → World → Prop} {Q : Exit → Act → World → Prop} {E : Prop} (hg : o.guard = none) (s x : Operand)
  (ho : o.op = .call { callee := .builtin .append, args := #[s, x], argTypes := #[22, 22] })
  (hs : a.eval s = v) (h : Two w B v l u m) {q : Option Addr} {n c : Nat} {news : List Int} (hx : a.eval x = .slice q n c) (hsrc : ∃ C, Lie C w (.slice q n c) news) (hlen : l.length + news.length ≤ 1000000000) (hB : B ≤ w.heap.size)
  (hK : ∀ v' w', Two w' B v' (l ++ news) u m → w.grownBy w' v.ownBlock → K (a.put o.dst v') w') : if Region.wanted o (yielded ops a.tmps) = true then Oper.wp Tryz.prog o a w K Q else E := by
 have hw : Region.wanted o (yielded ops a.tmps) = true := by simp [Region.wanted, hg]
 rw [if_pos hw]
 obtain ⟨v', w', hr, h1, h2, _⟩ := run_two h o.type hsrc hlen hB
 exact Lib.wp_append_run w s x 22 22 ho v _ hs hx v' w' hr (hK v' w' h1 h2)
def Keep9 (w w9 u : World) : Prop := Keeps (fun i o => decide (w.heap.size ≤ i) && isTy 3 i o) w9 u
theorem Keep9.refl (w w9 : World) : Keep9 w w9 w9 := Keeps.refl _ _
theorem Keep9.low {w w9 u u' : World} (h : Keep9 w w9 u) (hb : Below u.heap.size u u') : Keep9 w w9 u' := h.trans (Keeps.below hb)
theorem Keep9.row {w w9 u u' : World} (h : Keep9 w w9 u) {v : Value} {l : List Int} (hg : u.grownBy u' v.ownBlock) (ho : OwnI u w.heap.size v l) : Keep9 w w9 u' := by
 refine h.trans ⟨hg.size, fun {i o} hi hK => ?_⟩
 have hlt := (aL hi)
 rw [hg.block i hlt ?_]
 ·
  exact hi
 ·
  intro e
  obtain ⟨h1, cur, h2⟩ := ho.block e.symm
  rw [h2] at hi
  cases hi
  simp [isTy, h1] at hK
theorem box_row {u u' : World} {v : Value} {b : Nat} {o : Obj} (hg : u.grownBy u' v.ownBlock) (h : u.heap[b]? = some o) (hne : v.ownBlock ≠ some b) : u'.heap[b]? = some o := by
 rw [hg.block b (aL h) fun e => hne e.symm]
 exact h
theorem lie_one {w : World} {b : Nat} {x : Int} (h : w.heap[b]? = some (.cells #[.int .i64 x] 3 (0, 0))) : ∃ C, Lie C w (.slice (some ⟨b, 0, none⟩) 1 1) [x] :=
 ⟨w.heap.size, some ⟨b, 0, none⟩, 1, rfl, Nat.le_refl _, by omega, fun i y hi => by
  match i, hi with
  | 0, hi => cases hi; exact ⟨b, 0, #[.int .i64 x], (0, 0), rfl, (aL h), h, rfl⟩
  | i + 1, hi => cases hi⟩
end
theorem part_head {w : World} {B n s : Nat} {e : TypeId} {g c : Nat} {xs : List Value} (h : w.ownsRow B e s (.slice (some ⟨g, 0, none⟩) n c) n xs) (k : Nat) : ∀ j u, (xs.take k)[j]? = some u → w.cell? ((⟨g, 0, none⟩ : Addr).add j) = some u := fun j u hj => by
 rw [List.getElem?_take] at hj
 split at hj
 ·
  exact h.cells (g := g) rfl j u hj
 ·
  cases hj
theorem part_tail {w : World} {B n s : Nat} {e : TypeId} {g c : Nat} {xs : List Value} (h : w.ownsRow B e s (.slice (some ⟨g, 0, none⟩) n c) n xs) (k : Nat) : ∀ j u, (xs.drop k)[j]? = some u → w.cell? ((⟨g, k, none⟩ : Addr).add j) = some u := fun j u hj => by
 rw [List.getElem?_drop] at hj
 have := h.cells (g := g) rfl _ u hj
 rw [Addr.add_lit] at this ⊢
 rwa [Nat.zero_add] at this
theorem own_block {w : World} {B n s : Nat} {e : TypeId} {g c : Nat} {xs : List Value} (h : w.ownsRow B e s (.slice (some ⟨g, 0, none⟩) n c) n xs) : n ≤ c ∧ c ≤ 9223372036854775807 ∧ ∃ cur, w.heap[g]? = some (.cells cur e (0, 0)) := by
 rcases h.2 with ⟨h0, _⟩ | ⟨g', cap, cur, hv, _, hg, h1, h2, _⟩
 ·
  cases h0
 ·
  cases hv
  exact ⟨h1, by unfold maxLen at h2; omega, cur, hg⟩
theorem lie_head {w : World} {B g n c : Nat} {l : List Int} (h : OwnI w B (.slice (some ⟨g, 0, none⟩) n c) l) (hn : n = l.length) {k : Nat} (hk : k ≤ n) : Lie w.heap.size w (.slice (some ⟨g, 0, none⟩) k c) (l.take k) := by
 subst hn
 obtain ⟨h1, h2, cur, hg⟩ := own_block h
 have hl : (l.take k).length = k := by rw [List.length_take]; omega
 refine ⟨_, c, by rw [hl], by omega, h2, fun i x hx => ⟨g, 0, cur, (0, 0), rfl, (aL hg), hg, ?_⟩⟩
 have h3 := part_head h k i (.int .i64 x) (by rw [i64s, ← List.map_take, List.getElem?_map, hx]; rfl)
 rw [Addr.add_lit, jC hg] at h3
 exact h3
theorem lie_tail {w : World} {B g n c : Nat} {l : List Int} (h : OwnI w B (.slice (some ⟨g, 0, none⟩) n c) l) (hn : n = l.length) {k : Nat} (hk : k + 1 ≤ n) : ∃ A : Addr, (if c = k + 1 then some (⟨g, 0, none⟩ : Addr) else some ⟨g, k + 1, none⟩) = some A ∧ Lie w.heap.size w (.slice (some A) (n - (k + 1)) (c - (k + 1))) (l.drop (k + 1)) := by
 subst hn
 obtain ⟨h1, h2, cur, hg⟩ := own_block h
 have hl : (l.drop (k + 1)).length = l.length - (k + 1) := List.length_drop
 have hb := (aL hg)
 by_cases hc : c = k + 1
 ·
  refine ⟨⟨g, 0, none⟩, by simp [hc], _, _, by rw [hl], by rw [hl]; omega, by omega, fun i x hx => ?_⟩
  have := (List.getElem?_eq_some_iff.1 hx).1
  omega
 ·
  refine ⟨⟨g, k + 1, none⟩, by simp [hc], _, _, by rw [hl], by rw [hl]; omega, by omega, fun i x hx => ⟨g, k + 1, cur, (0, 0), rfl, hb, hg, ?_⟩⟩
  have h3 := part_tail h (k + 1) i (.int .i64 x) (by rw [i64s, ← List.map_drop, List.getElem?_map, hx]; rfl)
  rw [Addr.add_lit, jC hg] at h3
  exact h3
theorem row_zero {w : World} {B b o n c : Nat} {l : List Int} (h : OwnI w B (.slice (some ⟨b, o, none⟩) n c) l) : o = 0 := by
 rcases h.2 with ⟨h0, _⟩ | ⟨g, cap, cur, hv, _⟩
 ·
  cases h0
 ·
  cases hv; rfl
theorem Two.make {w : World} {B : Nat} {u : Value} {m : List Int} (h : Two w B (.slice none 0 0) [] u m) (hB : B ≤ w.heap.size) : Two (w.alloc (.cells #[] 3)) B (.slice (some ⟨w.heap.size, 0, none⟩) 0 0) [] u m := by
 refine ⟨OwnI.made hB, h.b.below (sbox1 _ _), .inr fun e => ?_⟩
 have e : u.ownBlock = some w.heap.size := e.symm
 have := (World.ownsRow.lt h.b _ e).2
 omega
theorem Two.mono {w : World} {B B' : Nat} {v u : Value} {l m : List Int} (h : Two w B v l u m) (hB : B' ≤ B) : Two w B' v l u m := ⟨World.ownsRow.mono h.a hB, World.ownsRow.mono h.b hB, h.ne⟩
end Go.Proofs.YtbbgdbnjmonbgaaGreatDoor

