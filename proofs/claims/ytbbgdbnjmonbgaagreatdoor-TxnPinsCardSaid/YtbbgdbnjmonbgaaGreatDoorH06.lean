/-
  free.
  A page's bytes (plain).
  A Meta's page (plain).
-/
import Derived.Test.YtbbgdbnjmonbgaaGreatDoorH00
import Derived.Test.YtbbgdbnjmonbgaaGreatDoorH05
import Derived.Test.YtbbgdbnjmonbgaaGreatDoorH04
set_option linter.unusedVariables false
set_option linter.unusedSimpArgs false
set_option maxRecDepth 100000
namespace Go.Proofs.YtbbgdbnjmonbgaaGreatDoor
open Go.RowKit
section
variable {w : World} {p um wm : Nat} {F : FL}
def FL.nFree (F : FL) : Int := F.hi - F.lo - F.nUsed - F.nWaits
theorem FL.Ok.count {F : FL} (h : F.Ok) : (F.nUsed : Int) + F.nWaits ≤ F.hi - F.lo := by
  have hl : F.pages.length = (F.hi - F.lo).toNat := by simp [FL.pages]
  have : ∀ l : List Int, l.countP F.used + l.countP (fun k => (F.waits k).isSome) ≤ l.length := by
    intro l
    induction l with
    | nil => simp
    | cons x l ih =>
      simp only [List.countP_cons, List.length_cons]
      cases hu : F.used x
      · cases hw : F.waits x <;> simp <;> omega
      · rw [h.ha hu]
        simp
        omega
  have h2 := this F.pages
  rw [hl] at h2
  have := h.h1
  unfold FL.nUsed FL.nWaits
  omega
set_option maxHeartbeats 800000 in
theorem frFree_any (h : FrIs w p um wm F) :
    Calls Tryz.prog 70 #[.pointer (some ⟨p, 0, none⟩)] w fun e w' => e = .returned (.int .i64 F.nFree) ∧ Below w.heap.size w w' := by
  have HM := Hq (frMade_yes h.c2)
  have c0 := h.c0
  have c1 := h.c1
  have c2 := h.c2
  have c3 := h.c3
  have q0 := h.ok.h0
  have q1 := h.ok.h1
  have q2 := h.ok.h2
  have q3 := h.ok.count
  have hn : F.nFree = F.hi - F.lo - F.nUsed - F.nWaits := rfl
  have e1 : F.nUsed = (F.pages.filter F.used).length := by unfold FL.nUsed; rw [List.countP_eq_length_filter]
  have e2 : F.nWaits = (F.pages.filter fun k => (F.waits k).isSome).length := by unfold FL.nWaits; rw [List.countP_eq_length_filter]
  have l1 : ∀ n ty, (Builtin.len_ #[87] ty #[.map (some um)]).run Tryz.prog (w.drewN n) = .ok (.int .i64 F.nUsed) (w.drewN n) := fun n ty => by
    rw [e1]
    exact (h.mu.is.block (w' := w.drewN n) rfl).len (FL.keys_used h.ok) Tryz.underlying87 ty
  have l2 : ∀ n ty, (Builtin.len_ #[147] ty #[.map (some wm)]).run Tryz.prog (w.drewN n) = .ok (.int .i64 F.nWaits) (w.drewN n) := fun n ty => by
    rw [e2]
    exact (h.mw.is.block (w' := w.drewN n) rfl).len (FL.keys_waits h.ok) Tryz.underlying147 ty
  rw [hn]
  clear h e1 e2 hn
  generalize F.nUsed = nu at *
  generalize F.nWaits = nw at *
  generalize F.lo = lo at *
  generalize F.hi = hi at *
  have w1 : wrap64 (hi - lo) = hi - lo := IntWalk.wrap64_in _ (by omega)
  have w2 : wrap64 (hi - lo - (nu : Int)) = hi - lo - nu := IntWalk.wrap64_in _ (by omega)
  have w3 : wrap64 (hi - lo - (nu : Int) - nw) = hi - lo - nu - nw := IntWalk.wrap64_in _ (by omega)
  go_enter Tryz.func70, Tryz.ntmps70
  go_wp2_with fail
  refine HM.out.mono ?_; rintro e w1 ⟨rfl, rfl⟩
  go_wp2
  go_quiet (fail)
  go_wp2
  go_ret
  exact ⟨rfl, belowN (Below.refl _ _) _⟩
def FL.isSuch (F : FL) (such : Int → Bool) (k : Int) : Bool := match F.waits k with | some g => such g | none => false
def FL.mid (F : FL) (such left : Int → Bool) (k : Int) : Option Int := if left k then F.waits k else (F.leave such).waits k
theorem rangeLeft_kept {w w' : World} {b r : Nat} (hb : w'.heap[b]? = w.heap[b]?) (hr : w'.heap[r]? = w.heap[r]?) : w'.rangeLeft b r = w.rangeLeft b r := by
  simp only [World.rangeLeft, hb, hr]
structure Leaving (w : World) (p um wm : Nat) (F : FL) (such : Int → Bool) (v : Value) (wr : World) (left : Int → Bool) (ks : List Int) : Prop where
  rng : Rng wr wm w.heap.size (fun k => (F.mid such left k).map (Value.int .i64)) left
  nd : ks.Nodup
  mem : ∀ k, k ∈ ks ↔ left k = false ∧ F.isSuch such k = true
  own : OwnI wr w.heap.size v ks
  only : Only [wm] w wr
theorem Leaving.len {w : World} {p um wm : Nat} {F : FL} {such : Int → Bool} {v : Value} {wr : World} {left : Int → Bool} {ks : List Int} (h : Leaving w p um wm F such v wr left ks) (hF : F.Ok) : ks.length ≤ 4096 := by
  have hp : ks.Perm (F.pages.filter fun k => !left k && F.isSuch such k) := by
    refine (List.perm_ext_iff_of_nodup h.nd (F.pages_nodup.filter _)).2 fun k => ?_
    rw [h.mem, List.mem_filter, FL.mem_pages]
    simp only [Bool.and_eq_true, Bool.not_eq_true']
    constructor
    · rintro ⟨h1, h2⟩
      refine ⟨hF.hw ?_, h1, h2⟩
      unfold FL.isSuch at h2
      cases hw : F.waits k
      · rw [hw] at h2; cases h2
      · rfl
    · rintro ⟨_, h⟩; exact h
  have h1 := hp.length_eq
  have h2 := List.length_filter_le (fun k => !left k && F.isSuch such k) F.pages
  have hl : F.pages.length = (F.hi - F.lo).toNat := by simp [FL.pages]
  have h3 := hF.h0
  have h4 := hF.h2
  omega
theorem Leaving.start {w w0 : World} {p um wm : Nat} {F : FL} {such : Int → Bool} (hr : Rng w0 wm w.heap.size (fun k => (F.waits k).map (Value.int .i64)) fun k => ((F.waits k).map (Value.int .i64)).isSome) (hb : Below w.heap.size w w0) :
    Leaving w p um wm F such (.slice none 0 0) w0 (fun k => ((F.waits k).map (Value.int .i64)).isSome) [] := by
  refine ⟨?_, List.nodup_nil, fun k => ?_, OwnI.nil _ _, Only.of_below hb⟩
  · have e : (fun k => (F.mid such (fun k => ((F.waits k).map (Value.int .i64)).isSome) k).map (Value.int .i64)) = fun k => (F.waits k).map (Value.int .i64) := by
      funext k
      unfold FL.mid
      cases hw : F.waits k <;> simp [FL.leave, hw]
    rw [e]
    exact hr
  · unfold FL.isSuch
    cases hw : F.waits k <;> simp
theorem Leaving.stays {w wr w1 : World} {p um wm : Nat} {F : FL} {such : Int → Bool} {v : Value} {left : Int → Bool} {ks : List Int} (h : Leaving w p um wm F such v wr left ks) {k c : Int}
    (hl : left k = true) (hk : F.waits k = some c) (hs : such c = false) (hr : Rng w1 wm w.heap.size (fun k => (F.mid such left k).map (Value.int .i64)) fun x => left x && !(x == k)) (hg : wr.grownBy w1 (some w.heap.size)) :
    Leaving w p um wm F such v w1 (fun x => left x && !(x == k)) ks := by
  have e : (fun x => (F.mid such (fun x => left x && !(x == k)) x).map (Value.int .i64)) = fun x => (F.mid such left x).map (Value.int .i64) := by
    funext x
    unfold FL.mid
    by_cases hx : x = k
    · subst hx
      simp [hl, FL.leave, hk, hs]
    · have : (x == k) = false := by simpa using hx
      simp [this]
  refine ⟨by rw [e]; exact hr, h.nd, fun x => ?_, ?_, ?_⟩
  · rw [h.mem]
    by_cases hx : x = k
    · subst hx
      simp [hl, FL.isSuch, hk, hs]
    · have : (x == k) = false := by simpa using hx
      simp [this]
  · refine h.own.kept hg (.inr ?_)
    obtain ⟨_, _, _, _, _, _, h2, _⟩ := h.rng
    exact h.own.other h2 (by simp)
  · exact h.only.andThen (Only.of_grown hg) (by simp)
theorem Leaving.goes {w wr w2 : World} {p um wm : Nat} {F : FL} {such : Int → Bool} {v v' : Value} {left : Int → Bool} {ks : List Int} (h : Leaving w p um wm F such v wr left ks) {k c : Int}
    (hl : left k = true) (hk : F.waits k = some c) (hs : such c = true) (hr : Rng w2 wm w.heap.size (fun x => if x = k then none else (F.mid such left x).map (Value.int .i64)) fun x => left x && !(x == k)) (hown : OwnI w2 w.heap.size v' (ks ++ [k]))
    (ho2 : Only [wm] w w2) :
    Leaving w p um wm F such v' w2 (fun x => left x && !(x == k)) (ks ++ [k]) := by
  have e : (fun x => (F.mid such (fun x => left x && !(x == k)) x).map (Value.int .i64)) = fun x => if x = k then none else (F.mid such left x).map (Value.int .i64) := by
    funext x
    unfold FL.mid
    by_cases hx : x = k
    · subst hx
      simp [FL.leave, hk, hs]
    · have : (x == k) = false := by simpa using hx
      simp [this, hx]
  have hnk : k ∉ ks := fun hm => by have := ((h.mem k).1 hm).1; rw [hl] at this; cases this
  refine ⟨by rw [e]; exact hr, ?_, fun x => ?_, hown, ho2⟩
  · exact List.nodup_append.2 ⟨h.nd, by simp, fun a ha b hb => by obtain rfl := List.mem_singleton.1 hb; rintro rfl; exact hnk ha⟩
  · rw [List.mem_append, h.mem, List.mem_singleton]
    by_cases hx : x = k
    · subst hx
      simp [FL.isSuch, hk, hs]
    · have : (x == k) = false := by simpa using hx
      simp [this, hx]
def LeavePost (w : World) (p um wm : Nat) (F : FL) (such : Int → Bool) (e : Ending) (w' : World) : Prop :=
  ∃ v ks, e = .returned v ∧ FrIs w' p um wm (F.leave such) ∧ Only [wm] w w' ∧ OwnI w' w.heap.size v ks ∧ ks.Nodup ∧ ∀ k, k ∈ ks ↔ F.isSuch such k = true
theorem Leaving.ends {w wr : World} {p um wm : Nat} {F : FL} {such : Int → Bool} {v : Value} {left : Int → Bool} {ks : List Int} (h : Leaving w p um wm F such v wr left ks) (hl : ∀ k, left k = false) (hf : FrIs w p um wm F) : LeavePost w p um wm F such (.returned v) wr := by
  obtain ⟨q1, q2⟩ := hf.pne
  refine ⟨v, ks, rfl, ⟨?_, ?_, ?_, hf.ne, hf.ok.leave such⟩, h.only, h.own, h.nd, fun k => ?_⟩
  · rw [h.only.block (aL hf.blk) (by simpa using q2)]
    exact hf.blk
  · exact hf.mu.block (h.only.block hf.mu.lt (by simpa using hf.ne))
  · have e : (fun k => (F.mid such left k).map (Value.int .i64)) = fun k => ((F.leave such).waits k).map (Value.int .i64) := by
      funext k
      simp [FL.mid, hl k]
    rw [← e]
    exact h.rng.mst
  · rw [h.mem, hl k]
    simp
theorem Leaving.ahead {w wr w1 w3 : World} {p um wm : Nat} {F : FL} {such : Int → Bool} {v : Value} {left l' : Int → Bool} {ks : List Int} {f : Int → Option Value} (h : Leaving w p um wm F such v wr left ks) (hg1 : wr.grownBy w1 (some w.heap.size)) (hr3 : Rng w3 wm w.heap.size f l') (hg3 : w1.grownBy w3 (some wm)) {k : Int} :
    OwnI (w3.alloc (.cells #[.int .i64 k] 3)) w.heap.size v ks ∧ (w3.alloc (.cells #[.int .i64 k] 3)).cell? ⟨w3.heap.size, 0, none⟩ = some (.int .i64 k) ∧ w.heap.size ≤ (w3.alloc (.cells #[.int .i64 k] 3)).heap.size := by
  have h1 : OwnI w1 w.heap.size v ks := h.own.kept hg1 (.inr (by
    obtain ⟨_, _, _, _, _, _, h2, _⟩ := h.rng
    exact h.own.other h2 (by simp)))
  have hm1 : ∃ es c, w1.heap[wm]? = some (.map es c) := by
    obtain ⟨es, c, _, _, _, h2, h3, _⟩ := h.rng
    refine ⟨es, c, ?_⟩
    rw [hg1.block wm (aL h2) (fun e => by cases e; rw [h2] at h3; cases h3)]
    exact h2
  have h3 : OwnI w3 w.heap.size v ks := h1.kept hg3 (.inr (by
    obtain ⟨es, c, h2⟩ := hm1
    exact h1.other h2 (by simp)))
  refine ⟨h3.below (sbox1 _ _), ?_, ?_⟩
  · rw [jC (heap_alloc_new w3 _)]
    rfl
  · have q1 := h.only.size
    have q2 := hg1.size
    have q3 := hg3.size
    have q4 := (sbox1 w3 (.cells #[.int .i64 k] 3)).size
    omega
theorem Only.own {bs : List Nat} {a w w' : World} (h : Only bs a w) {v : Value} {l : List Int} (ho : OwnI w a.heap.size v l) (hg : w.grownBy w' v.ownBlock) : Only bs a w' :=
  ⟨hg.os.trans h.os, hg.tape.trans h.tape, hg.output.trans h.output, Nat.le_trans h.size hg.size, fun {i} hi hn => (hg.block i (Nat.lt_of_lt_of_le hi h.size) fun e => by
    have := (World.ownsRow.lt ho i e.symm).1
    omega).trans (h.block hi hn)⟩
theorem Leaving.added {w wr w1 w3 w5 : World} {p um wm : Nat} {F : FL} {such : Int → Bool} {v v5 : Value} {left : Int → Bool} {ks : List Int} (h : Leaving w p um wm F such v wr left ks) {k c : Int}
    (hl : left k = true) (hk : F.waits k = some c) (hs : such c = true) (ho1 : Only [wm] w w1) (hr3 : Rng w3 wm w.heap.size (fun x => if x = k then none else (F.mid such left x).map (Value.int .i64)) fun x => left x && !(x == k)) (hg3 : w1.grownBy w3 (some wm))
    (hown : OwnI (w3.alloc (.cells #[.int .i64 k] 3)) w.heap.size v ks) (ho5 : OwnI w5 w.heap.size v5 (ks ++ [k])) (hg5 : (w3.alloc (.cells #[.int .i64 k] 3)).grownBy w5 v.ownBlock) :
    Leaving w p um wm F such v5 w5 (fun x => left x && !(x == k)) (ks ++ [k]) ∧ w5.rangeLeft wm w.heap.size = w3.rangeLeft wm w.heap.size := by
  have hr4 := hr3.below (sbox1 w3 (.cells #[.int .i64 k] 3))
  obtain ⟨_, _, _, _, _, hb4, hi4, _⟩ := id hr4
  have hn1 := hown.other hb4 (by simp)
  have hn2 := hown.other hi4 (by simp)
  have hr5 := hr4.kept hg5 hn1 hn2
  have ho3 : Only [wm] w w3 := ho1.andThen (Only.of_grown hg3) (by simp)
  have ho4 : Only [wm] w (w3.alloc (.cells #[.int .i64 k] 3)) := ho3.trans (Only.of_below (sbox1 _ _))
  refine ⟨h.goes hl hk hs hr5 ho5 (ho4.own hown hg5), ?_⟩
  have e1 : w5.rangeLeft wm w.heap.size = (w3.alloc (.cells #[.int .i64 k] 3)).rangeLeft wm w.heap.size := rangeLeft_kept (hg5.block _ hr4.mst.lt fun e => hn1 e.symm) (hg5.block _ hr4.rlt fun e => hn2 e.symm)
  rw [e1]
  exact rangeLeft_kept ((sbox1 w3 _).block _ hr3.mst.lt) ((sbox1 w3 _).block _ hr3.rlt)
set_option maxHeartbeats 3200000 in
theorem frLeave_any (h : FrIs w p um wm F) {c fn : Nat} {gen : Int} {such : Int → Bool} (hc : w.heap[c]? = some (.cells #[.int .i64 gen] 3 (0, 0)))
    (eg : ∀ args (w : World), (callFunc fn args).run Tryz.prog w = .ok (.enter fn args) w)
    (hS : ∀ (w' : World) (g : Int), w'.cell? ⟨c, 0, none⟩ = some (.int .i64 gen) → Calls Tryz.prog fn #[.int .i64 g, .pointer (some ⟨c, 0, none⟩)] w' fun e w2 => e = .returned (.bool (such g)) ∧ w' = w2) :
    Calls Tryz.prog 98 #[.pointer (some ⟨p, 0, none⟩), .func (.func fn) #[] #[.pointer (some ⟨c, 0, none⟩)]] w (LeavePost w p um wm F such) := by
  have HM := Hq (frMade_yes h.c2)
  have c3 := h.c3
  have HW := Hq h.mw
  have H := Hq h
  have HS := Hq hS
  have HL : Hid (∀ v wr left ks, Leaving w p um wm F such v wr left ks → ks.length ≤ 4096) := Hq fun v wr left ks hl => hl.len h.ok
  have hcw : c ≠ wm := by
    rintro rfl
    obtain ⟨⟨_, _, hw, _⟩, _⟩ := h.mw
    rw [hc] at hw
    cases hw
  have HC : Hid (∀ wr, Only [wm] w wr → wr.cell? ⟨c, 0, none⟩ = some (.int .i64 gen) ∧ wr.cell? ⟨p, 3, none⟩ = some (.map (some wm))) := Hq fun wr ho => by
    constructor
    · have hb := ho.block (aL hc) (by simpa using hcw)
      rw [jC (hb.trans hc)]
      rfl
    · rw [ho.cell (World.block_lt_of_cell? _ _ c3) (by simpa using h.pne.2)]
      exact c3
  have HP : Hid (p ≠ wm) := Hq h.pne.2
  have hlt := h.mw.lt
  clear h hS hc hcw
  go_enter Tryz.func98, Tryz.ntmps98
  go_wp2_with fail
  refine HM.out.mono ?_; rintro e w1 ⟨rfl, rfl⟩
  go_wp2_with (at_range; refine st_range rfl _ _ 3 3 rfl Tryz.underlying147 rfl HW.out ?_; intro w0 hr0 hb0 hs0)
  go_frame
  go_loopw [5] (fun v wr => ∃ left ks, Leaving w p um wm F such v wr left ks) (fun _ wr => wr.rangeLeft wm w.heap.size)
  case atStart => exact ⟨_, _, Leaving.start hr0 hb0⟩
  case round =>
    obtain ⟨left, ks, hl⟩ := hrel
    have HLv := Hq hl
    have hrg := hl.rng
    have hint : ∀ k v, (fun k => (F.mid such left k).map (Value.int .i64)) k = some v → ∃ n, v = .int .i64 n := fun k v hv => by
      simp only [Option.map_eq_some_iff] at hv
      obtain ⟨n, _, e⟩ := hv
      exact ⟨n, e.symm⟩
    have HI := Hq hint
    have HRG := Hq hrg
    clear hl hrg hint
    go_wp2_with (at_next; refine st_next rfl _ rfl rfl HRG.out HI.out ?_ ?_)
    · intro hd
      have HD := Hq hd
      clear hd
      go_wp2
      go_ret
      exact HLv.out.ends HD.out H.out
    · intro k g w1 hlk hfk hrg1 hlt1 hg1 hs1 hen
      have hwk : F.waits k = some g := by
        simp only [FL.mid, hlk, if_true] at hfk
        cases hw : F.waits k with
        | none => rw [hw] at hfk; cases hfk
        | some n =>
          rw [hw] at hfk
          simp only [Option.map_some, Option.some.injEq, Value.int.injEq, true_and] at hfk
          rw [hfk]
      have ho1 := HLv.out.only.andThen (Only.of_grown hg1) (by simp)
      obtain ⟨hc1, hp1⟩ := HC.out w1 ho1
      have HSu := HS.out w1 g hc1
      have HR1 := Hq hrg1
      have HG1 := Hq hg1
      have HT1 := Hq hlt1
      have HWK := Hq hwk
      have HLK := Hq hlk
      have HO1 := Hq ho1
      clear hrg1 hg1 hlt1 hwk hlk ho1 hfk hs1 hc1
      cases hsu : such g
      · rw [hsu] at HSu
        replace HSu := Hq HSu
        have HSG := Hq hsu
        clear hsu
        go_wp2_with fail
        refine HSu.out.mono ?_; rintro e w2 ⟨rfl, rfl⟩
        go_wp2
        go_roundw
        case rel => exact ⟨_, _, HLv.out.stays HLK.out HWK.out HSG.out HR1.out HG1.out⟩
        case measure => exact HT1.out
      · rw [hsu] at HSu
        replace HSu := Hq HSu
        have HSG := Hq hsu
        clear hsu
        have hlk' : (fun x => left x && !(x == k)) k = false := by simp
        have HLK' := Hq hlk'
        clear hlk'
        go_wp2_with fail
        refine HSu.out.mono ?_; rintro e w2 ⟨rfl, rfl⟩
        go_wp2_with (first
          | (at_delete; refine rng_drop rfl _ _ _ 3 3 3 rfl Tryz.underlying147 Tryz.underlying3 rfl HR1.out rfl HLK'.out ?_; intro w3 hr3 hl3 hg3;
             have HA := Hq (HLv.out.ahead HG1.out hr3 hg3 (k := k)); have HR3 := Hq hr3; have HL3 := Hq hl3; have HG3 := Hq hg3; clear hr3 hl3 hg3; go_frame)
          | (at_builtin; refine app_ints rfl _ _ rfl rfl HA.out.1 rfl HA.out.2.1 (by have := HL.out _ _ _ _ HLv.out; omega) HA.out.2.2 ?_; intro v5 w5 hown5 hg5; have HO5 := Hq hown5; have HG5 := Hq hg5; clear hown5 hg5; go_frame))
        go_roundw
        case rel => exact ⟨_, _, (HLv.out.added HLK.out HWK.out HSG.out HO1.out HR3.out HG3.out HA.out.1 HO5.out HG5.out).1⟩
        case measure =>
          have := (HLv.out.added HLK.out HWK.out HSG.out HO1.out HR3.out HG3.out HA.out.1 HO5.out HG5.out).2
          have h1 := HT1.out
          have h2 := HL3.out
          omega
theorem FL.such_length {F : FL} (hF : F.Ok) {such : Int → Bool} {ks : List Int} (hn : ks.Nodup) (hm : ∀ k, k ∈ ks ↔ F.isSuch such k = true) : ks.length = F.nSuch such := by
  have hp : ks.Perm (F.pages.filter (F.isSuch such)) := by
    refine (List.perm_ext_iff_of_nodup hn (F.pages_nodup.filter _)).2 fun k => ?_
    rw [hm, List.mem_filter, FL.mem_pages]
    constructor
    · intro h2
      refine ⟨hF.hw ?_, h2⟩
      unfold FL.isSuch at h2
      cases hw : F.waits k
      · rw [hw] at h2; cases h2
      · rfl
    · rintro ⟨_, h⟩; exact h
  rw [hp.length_eq, ← List.countP_eq_length_filter]
  rfl
set_option maxHeartbeats 400000 in
theorem frUpTo {w : World} {c : Nat} {gen : Int} (h : w.cell? ⟨c, 0, none⟩ = some (.int .i64 gen)) (g : Int) :
    Calls Tryz.prog 120 #[.int .i64 g, .pointer (some ⟨c, 0, none⟩)] w fun e w2 => e = .returned (.bool (decide (g ≤ gen))) ∧ w = w2 := by
  go_enter Tryz.func120, Tryz.ntmps120
  go_wp2
  go_ret
  exact ⟨rfl, rfl⟩
set_option maxHeartbeats 1600000 in
theorem frSettle_any (h : FrIs w p um wm F) (gen : Int) :
    Calls Tryz.prog 96 #[.pointer (some ⟨p, 0, none⟩), .int .i64 gen] w (FrStep w p um wm (F.leave fun g => decide (g ≤ gen)) (.int .i64 (F.nSuch fun g => decide (g ≤ gen)))) := by
  have hmf : ∀ (fn : Fn) (first cap : Array Value) (w : World), (Instr.makeFunc fn first cap).run Tryz.prog w = .ok (.func fn first cap) w := fun _ _ _ _ => rfl
  obtain ⟨W, hW⟩ : ∃ W, W = w.alloc (.cells #[.int .i64 gen] 3) := ⟨_, rfl⟩
  have hbW : Below w.heap.size w W := by rw [hW]; exact sbox1 _ _
  have hcW : W.heap[w.heap.size]? = some (.cells #[.int .i64 gen] 3 (0, 0)) := by rw [hW]; exact heap_alloc_new _ _
  have HL := Hq (frLeave_any (h.below hbW) (such := fun g => decide (g ≤ gen)) hcW (fun _ _ => rfl) (fun w' g hc => frUpTo hc g))
  have HN : Hid (∀ ks : List Int, ks.Nodup → (∀ k, k ∈ ks ↔ F.isSuch (fun g => decide (g ≤ gen)) k = true) → ks.length = F.nSuch fun g => decide (g ≤ gen)) := Hq fun ks hn hm => FL.such_length h.ok hn hm
  have HBW := Hq hbW
  clear h hbW hcW
  go_enter Tryz.func96, Tryz.ntmps96
  go_wp2_with fail
  rw [← hW]
  clear hW
  refine HL.out.mono ?_; rintro e w1 ⟨v, ks, rfl, hf, ho, hown, hn, hm⟩
  have HR := Hq (HN.out ks hn hm)
  obtain ⟨q, c, rfl, _⟩ := hown.form
  have HF := Hq hf
  have HO := Hq ho
  clear hf ho hown hn hm
  go_wp2
  go_ret
  exact ⟨by rw [HR.out]; rfl, HF.out, (Only.of_below HBW.out).trans (HO.out.mono (by simp))⟩
end
end Go.Proofs.YtbbgdbnjmonbgaaGreatDoor

set_option linter.unusedVariables false
set_option maxRecDepth 100000
namespace Go.Proofs.YtbbgdbnjmonbgaaGreatDoor
def headB (kind : UInt8) (no gen : Nat) (l : List UInt8) : List UInt8 := kind :: (leB 4 no ++ (leB 8 gen ++ (leB 2 l.length ++ (l ++ List.replicate (493 - l.length) 0))))
def pageB (kind : UInt8) (no gen : Nat) (l : List UInt8) : List UInt8 := headB kind no gen l ++ leB 4 (sumV (headB kind no gen l))
theorem headB_length {kind : UInt8} {no gen : Nat} {l : List UInt8} (h : l.length ≤ 493) : (headB kind no gen l).length = 508 := by
 simp only [headB, List.length_cons, List.length_append, leB_length, List.length_replicate]
 omega
theorem pageB_length {kind : UInt8} {no gen : Nat} {l : List UInt8} (h : l.length ≤ 493) : (pageB kind no gen l).length = 512 := by
 rw [pageB, List.length_append, headB_length h, leB_length]
theorem pageB_take {kind : UInt8} {no gen : Nat} {l : List UInt8} (h : l.length ≤ 493) : (pageB kind no gen l).take 508 = headB kind no gen l := by
 rw [pageB, List.take_append_of_le_length (by rw [headB_length h]; omega), List.take_of_length_le (by rw [headB_length h]; omega)]
theorem pageB_drop {kind : UInt8} {no gen : Nat} {l : List UInt8} (h : l.length ≤ 493) : (pageB kind no gen l).drop 508 = leB 4 (sumV (headB kind no gen l)) := by
 rw [pageB, List.drop_append, headB_length h, List.drop_eq_nil_of_le (by rw [headB_length h]; omega)]
 rfl
theorem pageB_fits {kind : UInt8} {no gen : Nat} {l : List UInt8} (h : l.length ≤ 493) : Fits (pageB kind no gen l) := by
 have h1 := sumV_lt (headB kind no gen l)
 unfold Fits
 rw [pageB_take h, pageB_drop h, leV_leB]
 exact Nat.mod_eq_of_lt (by omega)
def sealE (no gen : Int) (n : Nat) : Nat := if no < 0 ∨ 4096 ≤ no ∨ gen < 0 ∨ 1152921504606846976 < gen then 2 else if 493 < n then 3 else 0
def fNo (l : List UInt8) : Nat := leV ((l.drop 1).take 4)
def fGen (l : List UInt8) : Nat := leV ((l.drop 5).take 8)
def fLen (l : List UInt8) : Nat := leV ((l.drop 13).take 2)
def fIn (l : List UInt8) : List UInt8 := (l.drop 15).take (fLen l)
def Tail (l : List UInt8) : Prop := ∀ i, 15 + fLen l ≤ i → i < 508 → l[i]? = some 0
def Right (l : List UInt8) (no : Int) : Prop := 0 ≤ no ∧ no < 4096 ∧ (fNo l : Int) = no ∧ fGen l ≤ 1152921504606846976 ∧ fLen l ≤ 493 ∧ Tail l
noncomputable def openE (l : List UInt8) (no : Int) : Nat := open Classical in if l.length ≠ 512 then 11 else if ¬ Fits l then 12 else if Right l no then 0 else 11
theorem openE_zero {l : List UInt8} {no : Int} : openE l no = 0 ↔ l.length = 512 ∧ Fits l ∧ Right l no := by
 unfold openE
 by_cases h1 : l.length = 512 <;> by_cases h2 : Fits l <;> by_cases h3 : Right l no <;> simp [h1, h2, h3]
theorem sub_length {l : List UInt8} {a n : Nat} (h : a + n ≤ l.length) : ((l.drop a).take n).length = n := by
 rw [List.length_take, List.length_drop]
 omega
theorem fIn_length {l : List UInt8} (hl : l.length = 512) (h : fLen l ≤ 493) : (fIn l).length = fLen l := sub_length (by omega)
theorem fNo_lt {l : List UInt8} (hl : l.length = 512) : fNo l < 4294967296 := by
 have := leV_lt ((l.drop 1).take 4)
 rw [sub_length (by omega)] at this
 exact this
theorem fGen_lt {l : List UInt8} (hl : l.length = 512) : fGen l < 18446744073709551616 := by
 have := leV_lt ((l.drop 5).take 8)
 rw [sub_length (by omega)] at this
 exact this
theorem fLen_lt {l : List UInt8} (hl : l.length = 512) : fLen l < 65536 := by
 have := leV_lt ((l.drop 13).take 2)
 rw [sub_length (by omega)] at this
 exact this
theorem cut_take (l : List UInt8) (a n : Nat) : l.drop a = (l.drop a).take n ++ l.drop (a + n) := by
 rw [← List.drop_drop, List.take_append_drop]
theorem split_page {l : List UInt8} (hl : l.length = 512) (k : Nat) (hk : k ≤ 493) :
  l.take 508 = l[0] :: ((l.drop 1).take 4 ++ ((l.drop 5).take 8 ++ ((l.drop 13).take 2 ++ ((l.drop 15).take k ++ (l.drop (15 + k)).take (493 - k))))) := by
 have h0 : l = l[0] :: l.drop 1 := by
  have := List.drop_eq_getElem_cons (l := l) (i := 0) (by omega)
  rwa [List.drop_zero] at this
 have h1 : l.take 508 = l[0] :: (l.drop 1).take 507 := (congrArg (List.take 508) h0).trans rfl
 have h2 : ∀ a m n, (l.drop a).take (m + n) = (l.drop a).take m ++ (l.drop (a + m)).take n := fun a m n => by rw [List.take_add, List.drop_drop]
 have e : 507 = 4 + (8 + (2 + (k + (493 - k)))) := by omega
 rw [h1, e, h2, h2, h2, h2]
theorem tail_iff {l : List UInt8} (hl : l.length = 512) (h : fLen l ≤ 493) : Tail l ↔ List.replicate (493 - fLen l) 0 = (l.drop (15 + fLen l)).take (493 - fLen l) := by
 constructor
 ·
  intro ht
  apply List.ext_getElem?
  intro i
  rw [List.getElem?_replicate, List.getElem?_take, List.getElem?_drop]
  split
  ·
   rw [ht _ (by omega) (by omega)]
  ·
   rfl
 ·
  intro he i h1 h2
  have h3 := congrArg (fun m => m[i - (15 + fLen l)]?) he
  simp only [List.getElem?_replicate, List.getElem?_take, List.getElem?_drop] at h3
  rw [if_pos (by omega), if_pos (by omega)] at h3
  have h4 : 15 + fLen l + (i - (15 + fLen l)) = i := by omega
  rw [h4] at h3
  exact h3.symm
theorem again_iff {l : List UInt8} (hl : l.length = 512) {n : Nat} (hn : n < 4294967296) (h : fLen l ≤ 493) : headB l[0] n (fGen l) (fIn l) = l.take 508 ↔ fNo l = n ∧ Tail l := by
 rw [tail_iff hl h, split_page hl (fLen l) h, headB, fIn_length hl h]
 have e8 : leB 8 (fGen l) = (l.drop 5).take 8 := by
  have := leB_leV ((l.drop 5).take 8)
  rwa [sub_length (by omega)] at this
 have e2 : leB 2 (fLen l) = (l.drop 13).take 2 := by
  have := leB_leV ((l.drop 13).take 2)
  rwa [sub_length (by omega)] at this
 have e4 : leB 4 n = (l.drop 1).take 4 ↔ fNo l = n := by
  have h1 := leB_leV ((l.drop 1).take 4)
  rw [sub_length (by omega)] at h1
  constructor
  ·
   intro h2
   have h3 := fNo_lt hl
   refine (leB_inj (k := 4) hn h3 ?_).symm
   rw [h2]
   exact h1.symm
  ·
   intro h2
   rw [← h1, ← h2]
   rfl
 rw [e8, e2, ← e4]
 constructor
 ·
  intro h1
  have h2 := (List.cons.inj h1).2
  obtain ⟨h3, h4⟩ := List.append_inj h2 (by rw [leB_length, sub_length (by omega)])
  exact ⟨h3, List.append_cancel_left (List.append_cancel_left (List.append_cancel_left h4))⟩
 ·
  rintro ⟨h1, h2⟩
  rw [h1, h2]
  rfl
theorem page_fields {kind : UInt8} {no gen : Nat} {l : List UInt8} (h : l.length ≤ 493) (hno : no < 4294967296) (hg : gen < 18446744073709551616) :
  (pageB kind no gen l)[0]? = some kind ∧ fNo (pageB kind no gen l) = no ∧ fGen (pageB kind no gen l) = gen ∧ fLen (pageB kind no gen l) = l.length ∧ fIn (pageB kind no gen l) = l ∧ Tail (pageB kind no gen l) := by
 have e : pageB kind no gen l = kind :: (leB 4 no ++ (leB 8 gen ++ (leB 2 l.length ++ (l ++ (List.replicate (493 - l.length) 0 ++ leB 4 (sumV (headB kind no gen l))))))) := by
  simp only [pageB, headB, List.cons_append, List.append_assoc]
 generalize leB 4 (sumV (headB kind no gen l)) = s at e
 rw [e]
 have d1 : (kind :: (leB 4 no ++ (leB 8 gen ++ (leB 2 l.length ++ (l ++ (List.replicate (493 - l.length) 0 ++ s)))))).drop 1 = leB 4 no ++ (leB 8 gen ++ (leB 2 l.length ++ (l ++ (List.replicate (493 - l.length) 0 ++ s)))) := rfl
 have step : ∀ (m : List UInt8) (a b : List UInt8) (k n : Nat), m.drop k = a ++ b → a.length = n → m.drop (k + n) = b ∧ (m.drop k).take n = a := by
  intro m a b k n h1 h2
  subst h2
  rw [← List.drop_drop, h1]
  simp
 obtain ⟨d5, t1⟩ := step _ _ _ 1 4 d1 (leB_length 4 no)
 obtain ⟨d13, t5⟩ := step _ _ _ 5 8 d5 (leB_length 8 gen)
 obtain ⟨d15, t13⟩ := step _ _ _ 13 2 d13 (leB_length 2 _)
 obtain ⟨dT, t15⟩ := step _ _ _ 15 l.length d15 rfl
 have f1 : fNo (kind :: (leB 4 no ++ (leB 8 gen ++ (leB 2 l.length ++ (l ++ (List.replicate (493 - l.length) 0 ++ s)))))) = no := by
  unfold fNo
  rw [t1, leV_leB]
  exact Nat.mod_eq_of_lt hno
 have f2 : fGen (kind :: (leB 4 no ++ (leB 8 gen ++ (leB 2 l.length ++ (l ++ (List.replicate (493 - l.length) 0 ++ s)))))) = gen := by
  unfold fGen
  rw [t5, leV_leB]
  exact Nat.mod_eq_of_lt hg
 have f3 : fLen (kind :: (leB 4 no ++ (leB 8 gen ++ (leB 2 l.length ++ (l ++ (List.replicate (493 - l.length) 0 ++ s)))))) = l.length := by
  unfold fLen
  rw [t13, leV_leB]
  exact Nat.mod_eq_of_lt (by omega)
 refine ⟨rfl, f1, f2, f3, ?_, ?_⟩
 ·
  unfold fIn
  rw [f3, t15]
 ·
  intro i h1 h2
  rw [f3] at h1
  have h3 : i = 15 + l.length + (i - (15 + l.length)) := by omega
  rw [h3, ← List.getElem?_drop, dT, List.getElem?_append_left (by rw [List.length_replicate]; omega), List.getElem?_replicate, if_pos (by omega)]
theorem page_right {kind : UInt8} {no gen : Nat} {l : List UInt8} (h : l.length ≤ 493) (hno : no < 4096) (hg : gen ≤ 1152921504606846976) (n : Int) : openE (pageB kind no gen l) n = if n = (no : Int) then 0 else 11 := by
 obtain ⟨_, h1, h2, h3, _, h5⟩ := page_fields (kind := kind) h (no := no) (by omega) (gen := gen) (by omega)
 unfold openE
 rw [if_neg (by rw [pageB_length h]; omega), if_neg (by simpa using pageB_fits h)]
 by_cases hn : n = (no : Int)
 ·
  rw [if_pos hn, if_pos ⟨by omega, by omega, by rw [h1]; exact hn.symm, by rw [h2]; exact hg, by rw [h3]; exact h, h5⟩]
 ·
  rw [if_neg hn, if_neg (by rintro ⟨_, _, h6, _⟩; rw [h1] at h6; exact hn h6.symm)]
theorem open_again {l : List UInt8} {no : Int} (h : openE l no = 0) : ∃ hl : 0 < l.length, pageB l[0] no.toNat (fGen l) (fIn l) = l ∧ sealE no (fGen l) (fIn l).length = 0 ∧ (fIn l).length ≤ 493 := by
 obtain ⟨hl, hf, r1, r2, r3, r4, r5, r6⟩ := openE_zero.1 h
 refine ⟨by omega, ?_, ?_, by rw [fIn_length hl r5]; exact r5⟩
 ·
  have h1 := (again_iff hl (n := no.toNat) (by omega) r5).2 ⟨by omega, r6⟩
  unfold pageB
  rw [h1]
  have h2 : leB 4 (sumV (l.take 508)) = l.drop 508 := by
   rw [← hf]
   have := leB_leV (l.drop 508)
   rwa [List.length_drop, hl] at this
  rw [h2, List.take_append_drop]
 ·
  unfold sealE
  rw [if_neg (by omega), if_neg (by rw [fIn_length hl r5]; omega)]
end Go.Proofs.YtbbgdbnjmonbgaaGreatDoor

set_option linter.unusedVariables false
set_option maxRecDepth 100000
namespace Go.Proofs.YtbbgdbnjmonbgaaGreatDoor
def MNext (n : Int) : Prop := 1 ≤ n ∧ n ≤ 1152921504606846976
def MRoot (n : Int) : Prop := n = 0 ∨ (2 ≤ n ∧ n < 4096)
def MRight (g r n d : Int) : Prop := MNext g ∧ MRoot r ∧ MNext n ∧ MNext d
instance (n : Int) : Decidable (MNext n) := inferInstanceAs (Decidable (_ ∧ _))
instance (n : Int) : Decidable (MRoot n) := inferInstanceAs (Decidable (_ ∨ _))
instance (g r n d : Int) : Decidable (MRight g r n d) := inferInstanceAs (Decidable (_ ∧ _))
theorem MRight.b {g r n d : Nat} (h : MRight g r n d) : 1 ≤ g ∧ g ≤ 1152921504606846976 ∧ (r = 0 ∨ (2 ≤ r ∧ r < 4096)) ∧ 1 ≤ n ∧ n ≤ 1152921504606846976 ∧ 1 ≤ d ∧ d ≤ 1152921504606846976 := by
 obtain ⟨⟨h1, h2⟩, h3, ⟨h4, h5⟩, h6, h7⟩ := h
 have h3' : (r : Int) = 0 ∨ (2 ≤ (r : Int) ∧ (r : Int) < 4096) := h3
 omega
theorem MRight.mk' {g r n d : Nat} (h : 1 ≤ g ∧ g ≤ 1152921504606846976 ∧ (r = 0 ∨ (2 ≤ r ∧ r < 4096)) ∧ 1 ≤ n ∧ n ≤ 1152921504606846976 ∧ 1 ≤ d ∧ d ≤ 1152921504606846976) : MRight g r n d := by
 unfold MRight MNext MRoot
 omega
theorem MRight.nat {g r n d : Int} (h : MRight g r n d) : ∃ g' r' n' d' : Nat, g = g' ∧ r = r' ∧ n = n' ∧ d = d' := by
 obtain ⟨⟨h1, h2⟩, h3, ⟨h4, h5⟩, h6, h7⟩ := h
 have h3' : r = 0 ∨ (2 ≤ r ∧ r < 4096) := h3
 exact ⟨g.toNat, r.toNat, n.toNat, d.toNat, by omega, by omega, by omega, by omega⟩
def metaB (g r n d : Nat) : List UInt8 := leB 8 r ++ (leB 8 n ++ (leB 8 d ++ leB 8 g))
def mPage (g r n d : Nat) : List UInt8 := pageB 1 (g % 2) g (metaB g r n d)
theorem metaB_length (g r n d : Nat) : (metaB g r n d).length = 32 := by simp [metaB, leB_length]
theorem mPage_length (g r n d : Nat) : (mPage g r n d).length = 512 := pageB_length (by rw [metaB_length]; omega)
theorem metaB_parts (g r n d : Nat) : (metaB g r n d).take 8 = leB 8 r ∧ ((metaB g r n d).drop 8).take 8 = leB 8 n ∧ ((metaB g r n d).drop 16).take 8 = leB 8 d ∧ (metaB g r n d).drop 24 = leB 8 g := by
 have hr := leB_length 8 r
 have hn := leB_length 8 n
 have hd := leB_length 8 d
 unfold metaB
 generalize leB 8 r = a at *
 generalize leB 8 n = b at *
 generalize leB 8 d = c at *
 have e1 : (a ++ (b ++ (c ++ leB 8 g))).drop 8 = b ++ (c ++ leB 8 g) := List.drop_left' hr
 have e2 : (a ++ (b ++ (c ++ leB 8 g))).drop 16 = c ++ leB 8 g := by
  have h := List.drop_drop (i := 8) (j := 8) (l := a ++ (b ++ (c ++ leB 8 g)))
  rw [e1] at h
  rw [show (16 : Nat) = 8 + 8 from rfl, ← h]
  exact List.drop_left' hn
 have e3 : (a ++ (b ++ (c ++ leB 8 g))).drop 24 = leB 8 g := by
  have h := List.drop_drop (i := 8) (j := 16) (l := a ++ (b ++ (c ++ leB 8 g)))
  rw [e2] at h
  rw [show (24 : Nat) = 16 + 8 from rfl, ← h]
  exact List.drop_left' hd
 exact ⟨List.take_left' hr, by rw [e1]; exact List.take_left' hn, by rw [e2]; exact List.take_left' hd, e3⟩
theorem metaB_of {x : List UInt8} (hx : x.length = 32) : metaB (leV (x.drop 24)) (leV (x.take 8)) (leV ((x.drop 8).take 8)) (leV ((x.drop 16).take 8)) = x := by
 have back : ∀ m : List UInt8, m.length = 8 → leB 8 (leV m) = m := fun m h => by have := leB_leV m; rwa [h] at this
 have step : ∀ k, (x.drop k).take 8 ++ x.drop (k + 8) = x.drop k := fun k => (cut_take x k 8).symm
 unfold metaB
 rw [back (x.take 8) (by rw [List.length_take]; omega), back ((x.drop 8).take 8) (sub_length (by omega)), back ((x.drop 16).take 8) (sub_length (by omega)), back (x.drop 24) (by rw [List.length_drop]; omega), step 16, step 8, List.take_append_drop]
def fR (l : List UInt8) : Nat := leV ((fIn l).take 8)
def fN (l : List UInt8) : Nat := leV (((fIn l).drop 8).take 8)
def fD (l : List UInt8) : Nat := leV (((fIn l).drop 16).take 8)
def fG (l : List UInt8) : Nat := leV ((fIn l).drop 24)
def MOk (l : List UInt8) (no : Int) : Prop := l[0]? = some 1 ∧ (fIn l).length = 32 ∧ ((fGen l % 2 : Nat) : Int) = no ∧ fG l = fGen l ∧ MRight (fGen l) (fR l) (fN l) (fD l)
noncomputable def mE (l : List UInt8) (no : Int) : Nat := open Classical in if openE l no ≠ 0 then openE l no else if MOk l no then 0 else 11
noncomputable def mG (l : List UInt8) (no : Int) : Nat := if mE l no = 0 then fGen l else 0
noncomputable def mR (l : List UInt8) (no : Int) : Nat := if mE l no = 0 then fR l else 0
noncomputable def mN (l : List UInt8) (no : Int) : Nat := if mE l no = 0 then fN l else 0
noncomputable def mD (l : List UInt8) (no : Int) : Nat := if mE l no = 0 then fD l else 0
theorem mE_zero {l : List UInt8} {no : Int} : mE l no = 0 ↔ openE l no = 0 ∧ MOk l no := by
 unfold mE
 by_cases h1 : openE l no = 0 <;> by_cases h2 : MOk l no <;> simp [h1, h2]
theorem mE_bad {l : List UInt8} {no : Int} (h : openE l no ≠ 0) : mE l no = openE l no := by unfold mE; rw [if_pos h]
theorem mE_not {l : List UInt8} {no : Int} (h : openE l no = 0) (h2 : ¬ MOk l no) : mE l no = 11 := by unfold mE; rw [if_neg (by simpa using h), if_neg h2]
theorem m_none {l : List UInt8} {no : Int} (h : mE l no ≠ 0) : mG l no = 0 ∧ mR l no = 0 ∧ mN l no = 0 ∧ mD l no = 0 := by
 unfold mG mR mN mD
 simp [h]
theorem m_some {l : List UInt8} {no : Int} (h : mE l no = 0) : mG l no = fGen l ∧ mR l no = fR l ∧ mN l no = fN l ∧ mD l no = fD l := by
 unfold mG mR mN mD
 simp [h]
theorem m_gen {l : List UInt8} {no : Int} : mE l no = 0 ↔ mG l no ≠ 0 := by
 constructor
 ·
  intro h
  rw [(m_some h).1]
  have := (mE_zero.1 h).2.2.2.2.2.b
  omega
 ·
  intro h
  by_cases h1 : mE l no = 0
  ·
   exact h1
  ·
   exact absurd (m_none h1).1 h
theorem again_page {l : List UInt8} {no : Int} (h : openE l no = 0) : MOk l no ↔ MRight (fG l) (fR l) (fN l) (fD l) ∧ (fIn l).length = 32 ∧ mPage (fG l) (fR l) (fN l) (fD l) = l := by
 obtain ⟨hl0, h1, _, h3⟩ := open_again h
 obtain ⟨hl, _, r1, r2, r3, r4, r5, r6⟩ := openE_zero.1 h
 constructor
 ·
  rintro ⟨a1, a2, a3, a4, a5⟩
  refine ⟨by rw [a4]; exact a5, a2, ?_⟩
  obtain ⟨_, a1'⟩ := List.getElem?_eq_some_iff.1 a1
  have e : no.toNat = fGen l % 2 := by omega
  rw [a1', e] at h1
  have h4 : metaB (fG l) (fR l) (fN l) (fD l) = fIn l := metaB_of a2
  unfold mPage
  rw [h4, a4]
  exact h1
 ·
  rintro ⟨a1, a2, a3⟩
  have hb := a1.b
  have hp := page_fields (kind := 1) (no := fG l % 2) (gen := fG l) (l := metaB (fG l) (fR l) (fN l) (fD l)) (by rw [metaB_length]; omega) (by omega) (by omega)
  rw [show pageB 1 (fG l % 2) (fG l) (metaB (fG l) (fR l) (fN l) (fD l)) = l from a3] at hp
  obtain ⟨b1, b2, b3, b4, b5, _⟩ := hp
  refine ⟨b1, a2, ?_, b3.symm, by rw [b3]; exact a1⟩
  rw [b3]
  rw [b2] at r3
  exact r3
theorem page_own {g r n d : Nat} (h : MRight g r n d) : fGen (mPage g r n d) = g ∧ fG (mPage g r n d) = g ∧ fR (mPage g r n d) = r ∧ fN (mPage g r n d) = n ∧ fD (mPage g r n d) = d ∧ fIn (mPage g r n d) = metaB g r n d ∧ (mPage g r n d)[0]? = some 1 := by
 have hb := h.b
 obtain ⟨b1, b2, b3, b4, b5, _⟩ := page_fields (kind := 1) (no := g % 2) (gen := g) (l := metaB g r n d) (by rw [metaB_length]; omega) (by omega) (by omega)
 obtain ⟨p1, p2, p3, p4⟩ := metaB_parts g r n d
 have e : ∀ m : Nat, m < 18446744073709551616 → leV (leB 8 m) = m := fun m hm => by rw [leV_leB]; exact Nat.mod_eq_of_lt (by omega)
 unfold fG fR fN fD mPage
 rw [b5, p1, p2, p3, p4]
 exact ⟨b3, e _ (by omega), e _ (by omega), e _ (by omega), e _ (by omega), rfl, b1⟩
theorem page_open {g r n d : Nat} (h : MRight g r n d) (no : Int) : mE (mPage g r n d) no = if no = ((g % 2 : Nat) : Int) then 0 else 11 := by
 have hb := h.b
 have h1 := page_right (kind := 1) (no := g % 2) (gen := g) (l := metaB g r n d) (by rw [metaB_length]; omega) (by omega) (by omega) no
 obtain ⟨q1, q2, q3, q4, q5, q6, q7⟩ := page_own h
 by_cases hn : no = ((g % 2 : Nat) : Int)
 ·
  rw [if_pos hn] at h1 ⊢
  refine mE_zero.2 ⟨h1, q7, by rw [q6, metaB_length], by rw [q1, hn], by rw [q1, q2], by rw [q1, q3, q4, q5]; exact h⟩
 ·
  rw [if_neg hn] at h1 ⊢
  have h2 : openE (mPage g r n d) no = 11 := h1
  rw [mE_bad (by rw [h2]; decide), h2]
theorem page_is {g r n d : Nat} (h : MRight g r n d) {no : Int} (hn : no = ((g % 2 : Nat) : Int)) : mE (mPage g r n d) no = 0 ∧ mG (mPage g r n d) no = g ∧ mR (mPage g r n d) no = r ∧ mN (mPage g r n d) no = n ∧ mD (mPage g r n d) no = d := by
 have h1 := page_open h no
 rw [if_pos hn] at h1
 obtain ⟨s1, s2, s3, s4⟩ := m_some h1
 obtain ⟨q1, q2, q3, q4, q5, q6, q7⟩ := page_own h
 exact ⟨h1, by rw [s1, q1], by rw [s2, q3], by rw [s3, q4], by rw [s4, q5]⟩
noncomputable def newG (a b : List UInt8) : Nat := if mG a 0 < mG b 1 then mG b 1 else mG a 0
noncomputable def newR (a b : List UInt8) : Nat := if mG a 0 < mG b 1 then mR b 1 else mR a 0
noncomputable def newN (a b : List UInt8) : Nat := if mG a 0 < mG b 1 then mN b 1 else mN a 0
noncomputable def newD (a b : List UInt8) : Nat := if mG a 0 < mG b 1 then mD b 1 else mD a 0
end Go.Proofs.YtbbgdbnjmonbgaaGreatDoor

