/-
  free: least, Alloc; Free, Waiting, Used of a list that a call made.
  free: Free; leave, Settle, Forget of a list that a call made.
-/
import Derived.Test.YtngnmakeaniapaaGreatDoorH08
import Derived.Test.YtngnmakeaniapaaGreatDoorH05
import Derived.BigQuiet
set_option linter.unusedVariables false
set_option maxRecDepth 100000
namespace Go.Proofs.YtngnmakeaniapaaGreatDoor
open Go.RowKit

section
variable {w : World} {p um wm : Nat} {F : FL}

/-- The least page that is free, as the search goes: from j on, n steps. -/
def FL.seek (F : FL) : Nat → Int → Option Int
  | 0, _ => none
  | n + 1, j => if F.st j = 1 then some j else F.seek n (j + 1)

def FL.least (F : FL) : Option Int := F.seek (F.hi - F.lo).toNat F.lo

theorem FL.seek_some {F : FL} : ∀ {n : Nat} {j k : Int}, F.seek n j = some k → F.st k = 1 ∧ j ≤ k ∧ k < j + n ∧ ∀ i, j ≤ i → i < k → F.st i ≠ 1
  | 0, j, k, h => by cases h
  | n + 1, j, k, h => by
    unfold FL.seek at h
    by_cases hj : F.st j = 1
    · rw [if_pos hj] at h
      cases h
      exact ⟨hj, by omega, by omega, fun i h1 h2 => by omega⟩
    · rw [if_neg hj] at h
      obtain ⟨h1, h2, h3, h4⟩ := FL.seek_some h
      refine ⟨h1, by omega, by omega, fun i hi hk => ?_⟩
      by_cases e : i = j
      · rw [e]; exact hj
      · exact h4 i (by omega) hk
theorem FL.seek_none {F : FL} : ∀ {n : Nat} {j : Int}, F.seek n j = none → ∀ i, j ≤ i → i < j + n → F.st i ≠ 1
  | 0, j, h, i, h1, h2 => by omega
  | n + 1, j, h, i, h1, h2 => by
    unfold FL.seek at h
    by_cases hj : F.st j = 1
    · rw [if_pos hj] at h
      cases h
    · rw [if_neg hj] at h
      by_cases e : i = j
      · rw [e]; exact hj
      · exact FL.seek_none h i (by omega) (by omega)
theorem FL.least_some {F : FL} {k : Int} (h : F.least = some k) : F.st k = 1 ∧ ∀ i, F.lo ≤ i → i < k → F.st i ≠ 1 := by
  obtain ⟨h1, h2, h3, h4⟩ := FL.seek_some h
  exact ⟨h1, h4⟩
theorem FL.least_none {F : FL} (h : F.least = none) (i : Int) : F.st i ≠ 1 := by
  by_cases hi : F.has i = true
  · have h2 := FL.has_iff.1 hi
    exact FL.seek_none h i h2.1 (by omega)
  · unfold FL.st
    rw [if_neg hi]
    decide

set_option maxHeartbeats 800000 in
/-- The closure of Alloc. -/
theorem frIsFree (h : FrIs w p um wm F) {g : Nat} (hg : w.cell? ⟨g, 0, none⟩ = some (.pointer (some ⟨p, 0, none⟩))) (k : Int) :
    Calls Tryz.prog 249 #[.int .i64 k, .pointer (some ⟨g, 0, none⟩)] w fun e w' => e = .returned (.bool (F.st k == 1)) ∧ Below w.heap.size w w' := by
  have HS := Lib.hid (frState_any h k)
  clear h
  generalize F.st k = s at *
  go_enter Tryz.func249, Tryz.ntmps249
  go_wp2_with fail
  refine HS.out.mono ?_; rintro e w1 ⟨rfl, hb⟩
  have HB := Lib.hid hb
  clear hb
  go_wp2
  go_ret
  exact ⟨rfl, HB.out⟩

def ofOpt (k : Option Int) : Value := match k with | some k => .tuple #[.int .i64 k, .bool true] | none => .tuple #[.int .i64 0, .bool false]
def LeastPost (w : World) (k : Option Int) (e : Ending) (w' : World) : Prop := e = .returned (ofOpt k) ∧ Below w.heap.size w w'

set_option maxHeartbeats 1600000 in
theorem frLeast_any (h : FrIs w p um wm F) {g : Nat} (hg : w.cell? ⟨g, 0, none⟩ = some (.pointer (some ⟨p, 0, none⟩))) :
    Calls Tryz.prog 248 #[.pointer (some ⟨p, 0, none⟩), .func (.func 249) #[] #[.pointer (some ⟨g, 0, none⟩)]] w (LeastPost w F.least) := by
  have hF : ∀ w', Below w.heap.size w w' → FrIs w' p um wm F ∧ w'.cell? ⟨g, 0, none⟩ = some (.pointer (some ⟨p, 0, none⟩)) := fun w' hb =>
    ⟨h.below hb, by rw [hb.cell (p := ⟨g, 0, none⟩) (World.block_lt_of_cell? _ _ hg)]; exact hg⟩
  have eg : ∀ args (w : World), (callFunc 249 args).run Tryz.prog w = .ok (.enter 249 args) w := fun _ _ => rfl
  have HF := Lib.hid hF
  have c0 := h.c0
  obtain ⟨lo, hlo⟩ : ∃ lo, lo = F.lo := ⟨_, rfl⟩
  obtain ⟨hi, hhi⟩ : ∃ hi, hi = F.hi := ⟨_, rfl⟩
  have hr := h.ok.h1
  have h0 := h.ok.h0
  have h2 := h.ok.h2
  have hL : F.least = F.seek (hi - lo).toNat lo := by rw [hlo, hhi]; rfl
  rw [← hlo] at c0 hr h0
  rw [← hhi] at hr h2
  rw [hL]
  have HHI := Lib.hid hhi
  clear hL hlo hhi h hg hF
  go_enter Tryz.func248, Tryz.ntmps248
  go_wp2
  go_loopw [6] (fun i wr => ∃ j : Int, i = .int .i64 j ∧ lo ≤ j ∧ j ≤ hi ∧ F.seek (hi - j).toNat j = F.seek (hi - lo).toNat lo ∧ Below w.heap.size w wr) (fun i _ => (hi - intOf i).toNat)
  case atStart => exact ⟨lo, rfl, by omega, hr, rfl, Below.refl _ _⟩
  case round =>
    obtain ⟨j, rfl, hj1, hj2, hs, hb⟩ := hrel
    obtain ⟨h1, hg1⟩ := HF.out _ hb
    have c1 := h1.c1
    rw [← HHI.out] at c1
    have HB := Lib.hid hb
    have HS := Lib.hid hs
    have HC := Lib.hid (frIsFree h1 hg1 j)
    clear hb hs h1 hg1
    by_cases he : j = hi
    · subst he
      have d : decide (j < j) = false := decide_eq_false (by omega)
      have HN : Hid (F.seek (j - lo).toNat lo = none) := Lib.hid (by rw [← HS.out]; simp [FL.seek])
      go_wp2
      go_ret2
      exact ⟨by rw [HN.out]; rfl, HB.out⟩
    · have d : decide (j < hi) = true := decide_eq_true (by omega)
      by_cases hs1 : F.st j = 1
      · have HN : Hid (F.seek (hi - lo).toNat lo = some j) := Lib.hid (by
          rw [← HS.out]
          obtain ⟨n, hn⟩ : ∃ n, (hi - j).toNat = n + 1 := ⟨(hi - j).toNat - 1, by omega⟩
          rw [hn]
          simp [FL.seek, hs1])
        rw [hs1] at HC
        clear hs1
        go_wp2_with fail
        refine HC.out.mono ?_; rintro e w1 ⟨rfl, hb⟩
        have HB1 := Lib.hid (HB.out.trans (hb.mono HB.out.size))
        clear hb
        go_wp2
        go_ret2
        exact ⟨by rw [HN.out]; rfl, HB1.out⟩
      · have hs2 : (F.st j == 1) = false := by simpa using hs1
        rw [hs2] at HC
        have HN : Hid (F.seek (hi - (j + 1)).toNat (j + 1) = F.seek (hi - lo).toNat lo) := Lib.hid (by
          rw [← HS.out]
          have hn : (hi - j).toNat = (hi - (j + 1)).toNat + 1 := by omega
          rw [hn]
          show _ = (if F.st j = 1 then some j else F.seek (hi - (j + 1)).toNat (j + 1))
          rw [if_neg hs1])
        clear hs1 hs2
        go_wp2_with fail
        refine HC.out.mono ?_; rintro e w1 ⟨rfl, hb⟩
        have HB1 := Lib.hid (HB.out.trans (hb.mono HB.out.size))
        clear hb
        go_wp2
        go_roundw
        case rel => exact ⟨j + 1, by go_num, by omega, by omega, HN.out, HB1.out⟩
        case measure => simp [intOf]; omega

def FL.alloc (F : FL) : FL := match F.least with | some k => F.take k | none => F
def FL.allocV (F : FL) : Value := match F.least with | some k => .tuple #[.int .i64 k, .int .i64 0] | none => .tuple #[.int .i64 0, .int .i64 15]

set_option maxHeartbeats 1600000 in
theorem frAlloc_any (h : FrIs w p um wm F) :
    Calls Tryz.prog 246 #[.pointer (some ⟨p, 0, none⟩)] w (FrStep w p um wm F.alloc F.allocV) := by
  have hmf : ∀ (fn : Fn) (first cap : Array Value) (w : World), (Instr.makeFunc fn first cap).run Tryz.prog w = .ok (.func fn first cap) w := fun _ _ _ _ => rfl
  obtain ⟨W, hW⟩ : ∃ W, W = w.alloc (.cells #[.pointer (some ⟨p, 0, none⟩)] 132) := ⟨_, rfl⟩
  have hbW : Below w.heap.size w W := by rw [hW]; exact sbox1 _ _
  have hcW : W.cell? ⟨w.heap.size, 0, none⟩ = some (.pointer (some ⟨p, 0, none⟩)) := by
    have hn := heap_alloc_new w (.cells #[.pointer (some ⟨p, 0, none⟩)] 132)
    rw [← hW] at hn
    rw [Joins.cell_of_block hn]
    rfl
  have h1 := h.below hbW
  have HM := Lib.hid (frMade_yes h1.c2)
  have HL := Lib.hid (frLeast_any h1 hcW)
  have HC : Hid (∀ w', Below W.heap.size W w' → w'.cell? ⟨w.heap.size, 0, none⟩ = some (.pointer (some ⟨p, 0, none⟩)) ∧ FrIs w' p um wm F) := Lib.hid fun w' hb =>
    ⟨by rw [hb.cell (p := ⟨w.heap.size, 0, none⟩) (World.block_lt_of_cell? _ _ hcW)]; exact hcW, h1.below hb⟩
  have HBW := Lib.hid hbW
  unfold FL.alloc FL.allocV
  have HO : Hid (∀ k, F.least = some k → (F.take k).Ok) := Lib.hid fun k hk => h.ok.take (FL.least_some hk).1
  clear h h1 hbW
  cases hl : F.least with
  | none =>
    rw [hl] at HL
    clear hl
    go_enter Tryz.func246, Tryz.ntmps246
    go_wp2_with fail
    rw [← hW]
    clear hW
    refine HM.out.mono ?_; rintro e w1 ⟨rfl, rfl⟩
    go_wp2_with fail
    refine HL.out.mono ?_; rintro e w1 ⟨rfl, hb⟩
    have HB1 := Lib.hid hb
    clear hb
    unfold ofOpt
    go_wp2
    go_ret2
    exact ⟨rfl, (HC.out _ HB1.out).2, (Only.of_below HBW.out).trans (Only.of_below HB1.out)⟩
  | some k =>
    rw [hl] at HL
    have HOk := Lib.hid (HO.out k hl)
    clear hl
    go_enter Tryz.func246, Tryz.ntmps246
    go_wp2_with fail
    rw [← hW]
    clear hW
    refine HM.out.mono ?_; rintro e w1 ⟨rfl, rfl⟩
    go_wp2_with fail
    refine HL.out.mono ?_; rintro e w1 ⟨rfl, hb⟩
    have HB1 := Lib.hid hb
    obtain ⟨hc1, hf1⟩ := HC.out _ hb
    have H1 := Lib.hid hf1
    have c2 := hf1.c2
    clear hb hf1
    unfold ofOpt
    go_wp2_with (at_mapUpdate; refine st_store rfl _ _ _ _ 3 162 rfl Tryz.underlying135 Tryz.underlying3 rfl H1.out.mu rfl rfl ?_; intro w2 hm hg; have HG := Lib.hid (H1.out.taken HOk.out hm hg); clear hm hg)
    go_ret2
    exact ⟨rfl, HG.out.1, ((Only.of_below HBW.out).trans (Only.of_below HB1.out)).trans HG.out.2⟩

set_option maxHeartbeats 800000 in
theorem frUsed_any (h : FrIs w p um wm F) :
    Calls Tryz.prog 88 #[.pointer (some ⟨p, 0, none⟩)] w fun e w' => e = .returned (.int .i64 F.nUsed) ∧ w = w' := by
  have HM := Lib.hid (frMade_yes h.c2)
  have c2 := h.c2
  have HU := Lib.hid h.mu
  have HK := Lib.hid (FL.keys_used h.ok)
  have e : F.nUsed = (F.pages.filter F.used).length := by unfold FL.nUsed; rw [List.countP_eq_length_filter]
  rw [e]
  clear h e
  go_enter Tryz.func88, Tryz.ntmps88
  go_wp2_with fail
  refine HM.out.mono ?_; rintro e w1 ⟨rfl, rfl⟩
  go_wp2_with (refine st_len rfl _ _ 3 162 rfl Tryz.underlying135 rfl HU.out.is HK.out ?_)
  go_ret
  exact ⟨rfl, rfl⟩

set_option maxHeartbeats 800000 in
theorem frWaiting_any (h : FrIs w p um wm F) :
    Calls Tryz.prog 89 #[.pointer (some ⟨p, 0, none⟩)] w fun e w' => e = .returned (.int .i64 F.nWaits) ∧ w = w' := by
  have HM := Lib.hid (frMade_yes h.c2)
  have c3 := h.c3
  have HU := Lib.hid h.mw
  have HK := Lib.hid (FL.keys_waits h.ok)
  have e : F.nWaits = (F.pages.filter fun k => (F.waits k).isSome).length := by unfold FL.nWaits; rw [List.countP_eq_length_filter]
  rw [e]
  clear h e
  go_enter Tryz.func89, Tryz.ntmps89
  go_wp2_with fail
  refine HM.out.mono ?_; rintro e w1 ⟨rfl, rfl⟩
  go_wp2_with (refine st_len rfl _ _ 3 3 rfl Tryz.underlying196 rfl HU.out.is HK.out ?_)
  go_ret
  exact ⟨rfl, rfl⟩

end
end Go.Proofs.YtngnmakeaniapaaGreatDoor

set_option linter.unusedVariables false
set_option linter.unusedSimpArgs false
set_option maxRecDepth 100000
namespace Go.Proofs.YtngnmakeaniapaaGreatDoor
open Go.RowKit

section
variable {w : World} {p um wm : Nat} {F : FL}

def FL.nFree (F : FL) : Int := F.hi - F.lo - F.nUsed - F.nWaits

theorem FL.Ok.count {F : FL} (h : F.Ok) : (F.nUsed : Int) + F.nWaits ≤ F.hi - F.lo := by
  have hl : F.pages.length = (F.hi - F.lo).toNat := by simp [FL.pages]
  have : ∀ l : List Int, l.countP F.used + l.countP (fun k => (F.waits k).isSome) ≤ l.length := by
    intro l
    induction l with
    | nil => simp
    | cons x l ih =>
      simp only [List.countP_cons, List.length_cons]
      cases hu : F.used x
      · cases hw : F.waits x <;> simp <;> omega
      · rw [h.ha hu]
        simp
        omega
  have h2 := this F.pages
  rw [hl] at h2
  have := h.h1
  unfold FL.nUsed FL.nWaits
  omega

set_option maxHeartbeats 800000 in
theorem frFree_any (h : FrIs w p um wm F) :
    Calls Tryz.prog 90 #[.pointer (some ⟨p, 0, none⟩)] w fun e w' => e = .returned (.int .i64 F.nFree) ∧ Below w.heap.size w w' := by
  have HM := Lib.hid (frMade_yes h.c2)
  have c0 := h.c0
  have c1 := h.c1
  have c2 := h.c2
  have c3 := h.c3
  have q0 := h.ok.h0
  have q1 := h.ok.h1
  have q2 := h.ok.h2
  have q3 := h.ok.count
  have hn : F.nFree = F.hi - F.lo - F.nUsed - F.nWaits := rfl
  have e1 : F.nUsed = (F.pages.filter F.used).length := by unfold FL.nUsed; rw [List.countP_eq_length_filter]
  have e2 : F.nWaits = (F.pages.filter fun k => (F.waits k).isSome).length := by unfold FL.nWaits; rw [List.countP_eq_length_filter]
  have l1 : ∀ n ty, (Builtin.len_ #[135] ty #[.map (some um)]).run Tryz.prog (w.drewN n) = .ok (.int .i64 F.nUsed) (w.drewN n) := fun n ty => by
    rw [e1]
    exact (h.mu.is.block (w' := w.drewN n) rfl).len (FL.keys_used h.ok) Tryz.underlying135 ty
  have l2 : ∀ n ty, (Builtin.len_ #[196] ty #[.map (some wm)]).run Tryz.prog (w.drewN n) = .ok (.int .i64 F.nWaits) (w.drewN n) := fun n ty => by
    rw [e2]
    exact (h.mw.is.block (w' := w.drewN n) rfl).len (FL.keys_waits h.ok) Tryz.underlying196 ty
  rw [hn]
  clear h e1 e2 hn
  generalize F.nUsed = nu at *
  generalize F.nWaits = nw at *
  generalize F.lo = lo at *
  generalize F.hi = hi at *
  have w1 : wrap64 (hi - lo) = hi - lo := IntWalk.wrap64_in _ (by omega)
  have w2 : wrap64 (hi - lo - (nu : Int)) = hi - lo - nu := IntWalk.wrap64_in _ (by omega)
  have w3 : wrap64 (hi - lo - (nu : Int) - nw) = hi - lo - nu - nw := IntWalk.wrap64_in _ (by omega)
  go_enter Tryz.func90, Tryz.ntmps90
  go_wp2_with fail
  refine HM.out.mono ?_; rintro e w1 ⟨rfl, rfl⟩
  go_wp2
  go_quiet (fail)
  go_wp2
  go_ret
  exact ⟨rfl, belowN (Below.refl _ _) _⟩

/-- Does a page wait for such a generation? -/
def FL.isSuch (F : FL) (such : Int → Bool) (k : Int) : Bool := match F.waits k with | some g => such g | none => false

/-- What waits while the list is gone over: 'left' are still to come. -/
def FL.mid (F : FL) (such left : Int → Bool) (k : Int) : Option Int := if left k then F.waits k else (F.leave such).waits k

theorem rangeLeft_kept {w w' : World} {b r : Nat} (hb : w'.heap[b]? = w.heap[b]?) (hr : w'.heap[r]? = w.heap[r]?) : w'.rangeLeft b r = w.rangeLeft b r := by
  simp only [World.rangeLeft, hb, hr]

/-- The loop of leave, under way. -/
structure Leaving (w : World) (p um wm : Nat) (F : FL) (such : Int → Bool) (v : Value) (wr : World) (left : Int → Bool) (ks : List Int) : Prop where
  rng : Rng wr wm w.heap.size (fun k => (F.mid such left k).map (Value.int .i64)) left
  nd : ks.Nodup
  mem : ∀ k, k ∈ ks ↔ left k = false ∧ F.isSuch such k = true
  own : OwnI wr w.heap.size v ks
  only : Only [wm] w wr

theorem Leaving.len {w : World} {p um wm : Nat} {F : FL} {such : Int → Bool} {v : Value} {wr : World} {left : Int → Bool} {ks : List Int} (h : Leaving w p um wm F such v wr left ks) (hF : F.Ok) : ks.length ≤ 4096 := by
  have hp : ks.Perm (F.pages.filter fun k => !left k && F.isSuch such k) := by
    refine (List.perm_ext_iff_of_nodup h.nd (F.pages_nodup.filter _)).2 fun k => ?_
    rw [h.mem, List.mem_filter, FL.mem_pages]
    simp only [Bool.and_eq_true, Bool.not_eq_true']
    constructor
    · rintro ⟨h1, h2⟩
      refine ⟨hF.hw ?_, h1, h2⟩
      unfold FL.isSuch at h2
      cases hw : F.waits k
      · rw [hw] at h2; cases h2
      · rfl
    · rintro ⟨_, h⟩; exact h
  have h1 := hp.length_eq
  have h2 := List.length_filter_le (fun k => !left k && F.isSuch such k) F.pages
  have hl : F.pages.length = (F.hi - F.lo).toNat := by simp [FL.pages]
  have h3 := hF.h0
  have h4 := hF.h2
  omega

theorem Leaving.start {w w0 : World} {p um wm : Nat} {F : FL} {such : Int → Bool} (hr : Rng w0 wm w.heap.size (fun k => (F.waits k).map (Value.int .i64)) fun k => ((F.waits k).map (Value.int .i64)).isSome) (hb : Below w.heap.size w w0) :
    Leaving w p um wm F such (.slice none 0 0) w0 (fun k => ((F.waits k).map (Value.int .i64)).isSome) [] := by
  refine ⟨?_, List.nodup_nil, fun k => ?_, OwnI.nil _ _, Only.of_below hb⟩
  · have e : (fun k => (F.mid such (fun k => ((F.waits k).map (Value.int .i64)).isSome) k).map (Value.int .i64)) = fun k => (F.waits k).map (Value.int .i64) := by
      funext k
      unfold FL.mid
      cases hw : F.waits k <;> simp [FL.leave, hw]
    rw [e]
    exact hr
  · unfold FL.isSuch
    cases hw : F.waits k <;> simp

/-- A page that stays. -/
theorem Leaving.stays {w wr w1 : World} {p um wm : Nat} {F : FL} {such : Int → Bool} {v : Value} {left : Int → Bool} {ks : List Int} (h : Leaving w p um wm F such v wr left ks) {k c : Int}
    (hl : left k = true) (hk : F.waits k = some c) (hs : such c = false) (hr : Rng w1 wm w.heap.size (fun k => (F.mid such left k).map (Value.int .i64)) fun x => left x && !(x == k)) (hg : wr.grownBy w1 (some w.heap.size)) :
    Leaving w p um wm F such v w1 (fun x => left x && !(x == k)) ks := by
  have e : (fun x => (F.mid such (fun x => left x && !(x == k)) x).map (Value.int .i64)) = fun x => (F.mid such left x).map (Value.int .i64) := by
    funext x
    unfold FL.mid
    by_cases hx : x = k
    · subst hx
      simp [hl, FL.leave, hk, hs]
    · have : (x == k) = false := by simpa using hx
      simp [this]
  refine ⟨by rw [e]; exact hr, h.nd, fun x => ?_, ?_, ?_⟩
  · rw [h.mem]
    by_cases hx : x = k
    · subst hx
      simp [hl, FL.isSuch, hk, hs]
    · have : (x == k) = false := by simpa using hx
      simp [this]
  · refine h.own.kept hg (.inr ?_)
    obtain ⟨_, _, _, _, _, _, h2, _⟩ := h.rng
    exact h.own.other h2 (by simp)
  · exact h.only.andThen (Only.of_grown hg) (by simp)

/-- A page that goes. -/
theorem Leaving.goes {w wr w2 : World} {p um wm : Nat} {F : FL} {such : Int → Bool} {v v' : Value} {left : Int → Bool} {ks : List Int} (h : Leaving w p um wm F such v wr left ks) {k c : Int}
    (hl : left k = true) (hk : F.waits k = some c) (hs : such c = true) (hr : Rng w2 wm w.heap.size (fun x => if x = k then none else (F.mid such left x).map (Value.int .i64)) fun x => left x && !(x == k)) (hown : OwnI w2 w.heap.size v' (ks ++ [k]))
    (ho2 : Only [wm] w w2) :
    Leaving w p um wm F such v' w2 (fun x => left x && !(x == k)) (ks ++ [k]) := by
  have e : (fun x => (F.mid such (fun x => left x && !(x == k)) x).map (Value.int .i64)) = fun x => if x = k then none else (F.mid such left x).map (Value.int .i64) := by
    funext x
    unfold FL.mid
    by_cases hx : x = k
    · subst hx
      simp [FL.leave, hk, hs]
    · have : (x == k) = false := by simpa using hx
      simp [this, hx]
  have hnk : k ∉ ks := fun hm => by have := ((h.mem k).1 hm).1; rw [hl] at this; cases this
  refine ⟨by rw [e]; exact hr, ?_, fun x => ?_, hown, ho2⟩
  · exact List.nodup_append.2 ⟨h.nd, by simp, fun a ha b hb => by obtain rfl := List.mem_singleton.1 hb; rintro rfl; exact hnk ha⟩
  · rw [List.mem_append, h.mem, List.mem_singleton]
    by_cases hx : x = k
    · subst hx
      simp [FL.isSuch, hk, hs]
    · have : (x == k) = false := by simpa using hx
      simp [this, hx]

def LeavePost (w : World) (p um wm : Nat) (F : FL) (such : Int → Bool) (e : Ending) (w' : World) : Prop :=
  ∃ v ks, e = .returned v ∧ FrIs w' p um wm (F.leave such) ∧ Only [wm] w w' ∧ OwnI w' w.heap.size v ks ∧ ks.Nodup ∧ ∀ k, k ∈ ks ↔ F.isSuch such k = true

theorem Leaving.ends {w wr : World} {p um wm : Nat} {F : FL} {such : Int → Bool} {v : Value} {left : Int → Bool} {ks : List Int} (h : Leaving w p um wm F such v wr left ks) (hl : ∀ k, left k = false) (hf : FrIs w p um wm F) : LeavePost w p um wm F such (.returned v) wr := by
  obtain ⟨q1, q2⟩ := hf.pne
  refine ⟨v, ks, rfl, ⟨?_, ?_, ?_, hf.ne, hf.ok.leave such⟩, h.only, h.own, h.nd, fun k => ?_⟩
  · rw [h.only.block (Array.getElem?_eq_some_iff.1 hf.blk).1 (by simpa using q2)]
    exact hf.blk
  · exact hf.mu.block (h.only.block hf.mu.lt (by simpa using hf.ne))
  · have e : (fun k => (F.mid such left k).map (Value.int .i64)) = fun k => ((F.leave such).waits k).map (Value.int .i64) := by
      funext k
      simp [FL.mid, hl k]
    rw [← e]
    exact h.rng.mst
  · rw [h.mem, hl k]
    simp

/-- The map behind a delete, the list of pages ahead of its append. -/
theorem Leaving.ahead {w wr w1 w3 : World} {p um wm : Nat} {F : FL} {such : Int → Bool} {v : Value} {left l' : Int → Bool} {ks : List Int} {f : Int → Option Value} (h : Leaving w p um wm F such v wr left ks) (hg1 : wr.grownBy w1 (some w.heap.size)) (hr3 : Rng w3 wm w.heap.size f l') (hg3 : w1.grownBy w3 (some wm)) {k : Int} :
    OwnI (w3.alloc (.cells #[.int .i64 k] 3)) w.heap.size v ks ∧ (w3.alloc (.cells #[.int .i64 k] 3)).cell? ⟨w3.heap.size, 0, none⟩ = some (.int .i64 k) ∧ w.heap.size ≤ (w3.alloc (.cells #[.int .i64 k] 3)).heap.size := by
  have h1 : OwnI w1 w.heap.size v ks := h.own.kept hg1 (.inr (by
    obtain ⟨_, _, _, _, _, _, h2, _⟩ := h.rng
    exact h.own.other h2 (by simp)))
  have hm1 : ∃ es c, w1.heap[wm]? = some (.map es c) := by
    obtain ⟨es, c, _, _, _, h2, h3, _⟩ := h.rng
    refine ⟨es, c, ?_⟩
    rw [hg1.block wm (Array.getElem?_eq_some_iff.1 h2).1 (fun e => by cases e; rw [h2] at h3; cases h3)]
    exact h2
  have h3 : OwnI w3 w.heap.size v ks := h1.kept hg3 (.inr (by
    obtain ⟨es, c, h2⟩ := hm1
    exact h1.other h2 (by simp)))
  refine ⟨h3.below (sbox1 _ _), ?_, ?_⟩
  · rw [Joins.cell_of_block (heap_alloc_new w3 _)]
    rfl
  · have q1 := h.only.size
    have q2 := hg1.size
    have q3 := hg3.size
    have q4 := (sbox1 w3 (.cells #[.int .i64 k] 3)).size
    omega

theorem Only.own {bs : List Nat} {a w w' : World} (h : Only bs a w) {v : Value} {l : List Int} (ho : OwnI w a.heap.size v l) (hg : w.grownBy w' v.ownBlock) : Only bs a w' :=
  ⟨hg.os.trans h.os, hg.tape.trans h.tape, hg.output.trans h.output, Nat.le_trans h.size hg.size, fun {i} hi hn => (hg.block i (Nat.lt_of_lt_of_le hi h.size) fun e => by
    have := (World.ownsRow.lt ho i e.symm).1
    omega).trans (h.block hi hn)⟩

theorem Leaving.added {w wr w1 w3 w5 : World} {p um wm : Nat} {F : FL} {such : Int → Bool} {v v5 : Value} {left : Int → Bool} {ks : List Int} (h : Leaving w p um wm F such v wr left ks) {k c : Int}
    (hl : left k = true) (hk : F.waits k = some c) (hs : such c = true) (ho1 : Only [wm] w w1) (hr3 : Rng w3 wm w.heap.size (fun x => if x = k then none else (F.mid such left x).map (Value.int .i64)) fun x => left x && !(x == k)) (hg3 : w1.grownBy w3 (some wm))
    (hown : OwnI (w3.alloc (.cells #[.int .i64 k] 3)) w.heap.size v ks) (ho5 : OwnI w5 w.heap.size v5 (ks ++ [k])) (hg5 : (w3.alloc (.cells #[.int .i64 k] 3)).grownBy w5 v.ownBlock) :
    Leaving w p um wm F such v5 w5 (fun x => left x && !(x == k)) (ks ++ [k]) ∧ w5.rangeLeft wm w.heap.size = w3.rangeLeft wm w.heap.size := by
  have hr4 := hr3.below (sbox1 w3 (.cells #[.int .i64 k] 3))
  obtain ⟨_, _, _, _, _, hb4, hi4, _⟩ := id hr4
  have hn1 := hown.other hb4 (by simp)
  have hn2 := hown.other hi4 (by simp)
  have hr5 := hr4.kept hg5 hn1 hn2
  have ho3 : Only [wm] w w3 := ho1.andThen (Only.of_grown hg3) (by simp)
  have ho4 : Only [wm] w (w3.alloc (.cells #[.int .i64 k] 3)) := ho3.trans (Only.of_below (sbox1 _ _))
  refine ⟨h.goes hl hk hs hr5 ho5 (ho4.own hown hg5), ?_⟩
  have e1 : w5.rangeLeft wm w.heap.size = (w3.alloc (.cells #[.int .i64 k] 3)).rangeLeft wm w.heap.size := rangeLeft_kept (hg5.block _ hr4.mst.lt fun e => hn1 e.symm) (hg5.block _ hr4.rlt fun e => hn2 e.symm)
  rw [e1]
  exact rangeLeft_kept ((sbox1 w3 _).block _ hr3.mst.lt) ((sbox1 w3 _).block _ hr3.rlt)

set_option maxHeartbeats 3200000 in
theorem frLeave_any (h : FrIs w p um wm F) {c fn : Nat} {gen : Int} {such : Int → Bool} (hc : w.heap[c]? = some (.cells #[.int .i64 gen] 3 (0, 0)))
    (eg : ∀ args (w : World), (callFunc fn args).run Tryz.prog w = .ok (.enter fn args) w)
    (hS : ∀ (w' : World) (g : Int), w'.cell? ⟨c, 0, none⟩ = some (.int .i64 gen) → Calls Tryz.prog fn #[.int .i64 g, .pointer (some ⟨c, 0, none⟩)] w' fun e w2 => e = .returned (.bool (such g)) ∧ w' = w2) :
    Calls Tryz.prog 146 #[.pointer (some ⟨p, 0, none⟩), .func (.func fn) #[] #[.pointer (some ⟨c, 0, none⟩)]] w (LeavePost w p um wm F such) := by
  have HM := Lib.hid (frMade_yes h.c2)
  have c3 := h.c3
  have HW := Lib.hid h.mw
  have H := Lib.hid h
  have HS := Lib.hid hS
  have HL : Hid (∀ v wr left ks, Leaving w p um wm F such v wr left ks → ks.length ≤ 4096) := Lib.hid fun v wr left ks hl => hl.len h.ok
  have hcw : c ≠ wm := by
    rintro rfl
    obtain ⟨⟨_, _, hw, _⟩, _⟩ := h.mw
    rw [hc] at hw
    cases hw
  have HC : Hid (∀ wr, Only [wm] w wr → wr.cell? ⟨c, 0, none⟩ = some (.int .i64 gen) ∧ wr.cell? ⟨p, 3, none⟩ = some (.map (some wm))) := Lib.hid fun wr ho => by
    constructor
    · have hb := ho.block (Array.getElem?_eq_some_iff.1 hc).1 (by simpa using hcw)
      rw [Joins.cell_of_block (hb.trans hc)]
      rfl
    · rw [ho.cell (World.block_lt_of_cell? _ _ c3) (by simpa using h.pne.2)]
      exact c3
  have HP : Hid (p ≠ wm) := Lib.hid h.pne.2
  have hlt := h.mw.lt
  clear h hS hc hcw
  go_enter Tryz.func146, Tryz.ntmps146
  go_wp2_with fail
  refine HM.out.mono ?_; rintro e w1 ⟨rfl, rfl⟩
  go_wp2_with (at_range; refine st_range rfl _ _ 3 3 rfl Tryz.underlying196 rfl HW.out ?_; intro w0 hr0 hb0 hs0)
  go_frame
  go_loopw [5] (fun v wr => ∃ left ks, Leaving w p um wm F such v wr left ks) (fun _ wr => wr.rangeLeft wm w.heap.size)
  case atStart => exact ⟨_, _, Leaving.start hr0 hb0⟩
  case round =>
    obtain ⟨left, ks, hl⟩ := hrel
    have HLv := Lib.hid hl
    have hrg := hl.rng
    have hint : ∀ k v, (fun k => (F.mid such left k).map (Value.int .i64)) k = some v → ∃ n, v = .int .i64 n := fun k v hv => by
      simp only [Option.map_eq_some_iff] at hv
      obtain ⟨n, _, e⟩ := hv
      exact ⟨n, e.symm⟩
    have HI := Lib.hid hint
    have HRG := Lib.hid hrg
    clear hl hrg hint
    go_wp2_with (at_next; refine st_next rfl _ rfl rfl HRG.out HI.out ?_ ?_)
    · intro hd
      have HD := Lib.hid hd
      clear hd
      go_wp2
      go_ret
      exact HLv.out.ends HD.out H.out
    · intro k g w1 hlk hfk hrg1 hlt1 hg1 hs1 hen
      have hwk : F.waits k = some g := by
        simp only [FL.mid, hlk, if_true] at hfk
        cases hw : F.waits k with
        | none => rw [hw] at hfk; cases hfk
        | some n =>
          rw [hw] at hfk
          simp only [Option.map_some, Option.some.injEq, Value.int.injEq, true_and] at hfk
          rw [hfk]
      have ho1 := HLv.out.only.andThen (Only.of_grown hg1) (by simp)
      obtain ⟨hc1, hp1⟩ := HC.out w1 ho1
      have HSu := HS.out w1 g hc1
      have HR1 := Lib.hid hrg1
      have HG1 := Lib.hid hg1
      have HT1 := Lib.hid hlt1
      have HWK := Lib.hid hwk
      have HLK := Lib.hid hlk
      have HO1 := Lib.hid ho1
      clear hrg1 hg1 hlt1 hwk hlk ho1 hfk hs1 hc1
      cases hsu : such g
      · rw [hsu] at HSu
        replace HSu := Lib.hid HSu
        have HSG := Lib.hid hsu
        clear hsu
        go_wp2_with fail
        refine HSu.out.mono ?_; rintro e w2 ⟨rfl, rfl⟩
        go_wp2
        go_roundw
        case rel => exact ⟨_, _, HLv.out.stays HLK.out HWK.out HSG.out HR1.out HG1.out⟩
        case measure => exact HT1.out
      · rw [hsu] at HSu
        replace HSu := Lib.hid HSu
        have HSG := Lib.hid hsu
        clear hsu
        have hlk' : (fun x => left x && !(x == k)) k = false := by simp
        have HLK' := Lib.hid hlk'
        clear hlk'
        go_wp2_with fail
        refine HSu.out.mono ?_; rintro e w2 ⟨rfl, rfl⟩
        go_wp2_with (first
          | (at_delete; refine rng_drop rfl _ _ _ 3 3 3 rfl Tryz.underlying196 Tryz.underlying3 rfl HR1.out rfl HLK'.out ?_; intro w3 hr3 hl3 hg3;
             have HA := Lib.hid (HLv.out.ahead HG1.out hr3 hg3 (k := k)); have HR3 := Lib.hid hr3; have HL3 := Lib.hid hl3; have HG3 := Lib.hid hg3; clear hr3 hl3 hg3; go_frame)
          | (at_builtin; refine app_ints rfl _ _ rfl rfl HA.out.1 rfl HA.out.2.1 (by have := HL.out _ _ _ _ HLv.out; omega) HA.out.2.2 ?_; intro v5 w5 hown5 hg5; have HO5 := Lib.hid hown5; have HG5 := Lib.hid hg5; clear hown5 hg5; go_frame))
        go_roundw
        case rel => exact ⟨_, _, (HLv.out.added HLK.out HWK.out HSG.out HO1.out HR3.out HG3.out HA.out.1 HO5.out HG5.out).1⟩
        case measure =>
          have := (HLv.out.added HLK.out HWK.out HSG.out HO1.out HR3.out HG3.out HA.out.1 HO5.out HG5.out).2
          have h1 := HT1.out
          have h2 := HL3.out
          omega

theorem FL.such_length {F : FL} (hF : F.Ok) {such : Int → Bool} {ks : List Int} (hn : ks.Nodup) (hm : ∀ k, k ∈ ks ↔ F.isSuch such k = true) : ks.length = F.nSuch such := by
  have hp : ks.Perm (F.pages.filter (F.isSuch such)) := by
    refine (List.perm_ext_iff_of_nodup hn (F.pages_nodup.filter _)).2 fun k => ?_
    rw [hm, List.mem_filter, FL.mem_pages]
    constructor
    · intro h2
      refine ⟨hF.hw ?_, h2⟩
      unfold FL.isSuch at h2
      cases hw : F.waits k
      · rw [hw] at h2; cases h2
      · rfl
    · rintro ⟨_, h⟩; exact h
  rw [hp.length_eq, ← List.countP_eq_length_filter]
  rfl

set_option maxHeartbeats 400000 in
theorem frUpTo {w : World} {c : Nat} {gen : Int} (h : w.cell? ⟨c, 0, none⟩ = some (.int .i64 gen)) (g : Int) :
    Calls Tryz.prog 165 #[.int .i64 g, .pointer (some ⟨c, 0, none⟩)] w fun e w2 => e = .returned (.bool (decide (g ≤ gen))) ∧ w = w2 := by
  go_enter Tryz.func165, Tryz.ntmps165
  go_wp2
  go_ret
  exact ⟨rfl, rfl⟩

set_option maxHeartbeats 400000 in
theorem frJust {w : World} {c : Nat} {gen : Int} (h : w.cell? ⟨c, 0, none⟩ = some (.int .i64 gen)) (g : Int) :
    Calls Tryz.prog 147 #[.int .i64 g, .pointer (some ⟨c, 0, none⟩)] w fun e w2 => e = .returned (.bool (g == gen)) ∧ w = w2 := by
  go_enter Tryz.func147, Tryz.ntmps147
  go_wp2
  go_ret
  exact ⟨rfl, rfl⟩

set_option maxHeartbeats 1600000 in
theorem frSettle_any (h : FrIs w p um wm F) (gen : Int) :
    Calls Tryz.prog 144 #[.pointer (some ⟨p, 0, none⟩), .int .i64 gen] w (FrStep w p um wm (F.leave fun g => decide (g ≤ gen)) (.int .i64 (F.nSuch fun g => decide (g ≤ gen)))) := by
  have hmf : ∀ (fn : Fn) (first cap : Array Value) (w : World), (Instr.makeFunc fn first cap).run Tryz.prog w = .ok (.func fn first cap) w := fun _ _ _ _ => rfl
  obtain ⟨W, hW⟩ : ∃ W, W = w.alloc (.cells #[.int .i64 gen] 3) := ⟨_, rfl⟩
  have hbW : Below w.heap.size w W := by rw [hW]; exact sbox1 _ _
  have hcW : W.heap[w.heap.size]? = some (.cells #[.int .i64 gen] 3 (0, 0)) := by rw [hW]; exact heap_alloc_new _ _
  have HL := Lib.hid (frLeave_any (h.below hbW) (such := fun g => decide (g ≤ gen)) hcW (fun _ _ => rfl) (fun w' g hc => frUpTo hc g))
  have HN : Hid (∀ ks : List Int, ks.Nodup → (∀ k, k ∈ ks ↔ F.isSuch (fun g => decide (g ≤ gen)) k = true) → ks.length = F.nSuch fun g => decide (g ≤ gen)) := Lib.hid fun ks hn hm => FL.such_length h.ok hn hm
  have HBW := Lib.hid hbW
  clear h hbW hcW
  go_enter Tryz.func144, Tryz.ntmps144
  go_wp2_with fail
  rw [← hW]
  clear hW
  refine HL.out.mono ?_; rintro e w1 ⟨v, ks, rfl, hf, ho, hown, hn, hm⟩
  have HR := Lib.hid (HN.out ks hn hm)
  obtain ⟨q, c, rfl, _⟩ := hown.form
  have HF := Lib.hid hf
  have HO := Lib.hid ho
  clear hf ho hown hn hm
  go_wp2
  go_ret
  exact ⟨by rw [HR.out]; rfl, HF.out, (Only.of_below HBW.out).trans (HO.out.mono (by simp))⟩

/-- Some of those that were forgotten are in use again. -/
def FL.partly (F : FL) (such : Int → Bool) (l : List Int) : FL := { F.leave such with used := fun x => F.used x || l.contains x }

theorem FL.Ok.partly {F : FL} (h : F.Ok) {such : Int → Bool} {l : List Int} (hl : ∀ k ∈ l, F.isSuch such k = true) : (F.partly such l).Ok := by
  have hs : ∀ {x}, F.isSuch such x = true → (F.waits x).isSome = true ∧ (F.leave such).waits x = Option.none := fun {x} hx => by
    unfold FL.isSuch at hx
    cases hw : F.waits x with
    | none => rw [hw] at hx; cases hx
    | some g =>
      rw [hw] at hx
      simp only at hx
      exact ⟨rfl, by simp [FL.leave, hw, hx]⟩
  refine ⟨h.h0, h.h1, h.h2, fun {x} hx => ?_, fun {x} hx => h.hw (FL.leave_none hx), fun {x} hx => ?_⟩
  · simp only [FL.partly, Bool.or_eq_true, List.contains_iff_mem] at hx
    rcases hx with hx | hx
    · exact h.hu hx
    · exact h.hw (hs (hl x hx)).1
  · simp only [FL.partly, Bool.or_eq_true, List.contains_iff_mem] at hx
    show (F.leave such).waits x = _
    rcases hx with hx | hx
    · simp only [FL.leave]
      rw [h.ha hx]
    · exact (hs (hl x hx)).2
theorem FL.partly_nil (F : FL) (such : Int → Bool) : F.partly such [] = F.leave such := by simp [FL.partly, FL.leave]
theorem FL.partly_snoc (F : FL) (such : Int → Bool) (l : List Int) (k : Int) : (F.partly such l).take k = F.partly such (l ++ [k]) := by
  unfold FL.partly FL.take
  congr 1
  funext x
  by_cases hx : x = k
  · simp [hx]
  · simp [hx]
theorem FL.partly_all {F : FL} {such : Int → Bool} {ks : List Int} (hm : ∀ k, k ∈ ks ↔ F.isSuch such k = true) : F.partly such ks = F.back such := by
  have e : (fun x => F.used x || ks.contains x) = fun x => F.used x || F.isSuch such x := by
    funext x
    have e : ks.contains x = F.isSuch such x := by
      have := hm x
      cases h1 : F.isSuch such x <;> cases h2 : ks.contains x <;> simp_all
    rw [e]
  show ({ F.leave such with used := fun x => F.used x || ks.contains x } : FL) = { F.leave such with used := fun x => F.used x || F.isSuch such x }
  rw [e]

set_option maxHeartbeats 3200000 in
theorem frForget_any (h : FrIs w p um wm F) (gen : Int) :
    Calls Tryz.prog 111 #[.pointer (some ⟨p, 0, none⟩), .int .i64 gen] w (FrStep w p um wm (F.back fun g => g == gen) (.int .i64 (F.nSuch fun g => g == gen))) := by
  have hmf : ∀ (fn : Fn) (first cap : Array Value) (w : World), (Instr.makeFunc fn first cap).run Tryz.prog w = .ok (.func fn first cap) w := fun _ _ _ _ => rfl
  obtain ⟨W, hW⟩ : ∃ W, W = w.alloc (.cells #[.int .i64 gen] 3) := ⟨_, rfl⟩
  have hbW : Below w.heap.size w W := by rw [hW]; exact sbox1 _ _
  have hcW : W.heap[w.heap.size]? = some (.cells #[.int .i64 gen] 3 (0, 0)) := by rw [hW]; exact heap_alloc_new _ _
  obtain ⟨such, hsu⟩ : ∃ such : Int → Bool, such = fun g => g == gen := ⟨_, rfl⟩
  have HL := frLeave_any (h.below hbW) (such := such) hcW (fun _ _ => rfl) (fun w' g hc => by rw [hsu]; exact frJust hc g)
  replace HL := Lib.hid HL
  rw [← hsu]
  have HN : Hid (∀ ks : List Int, ks.Nodup → (∀ k, k ∈ ks ↔ F.isSuch such k = true) → ks.length = F.nSuch such) := Lib.hid fun ks hn hm => FL.such_length h.ok hn hm
  have HK : Hid F.Ok := Lib.hid h.ok
  have HBW := Lib.hid hbW
  have hpu := h.pne.1
  have HPU := Lib.hid hpu
  clear h hbW hcW hsu hpu
  go_enter Tryz.func111, Tryz.ntmps111
  go_wp2_with fail
  rw [← hW]
  clear hW
  refine HL.out.mono ?_; rintro e w1 ⟨v, ks, rfl, hf, ho, hown, hn, hm⟩
  have HR := Lib.hid (HN.out ks hn hm)
  have HM := Lib.hid hm
  obtain ⟨q, c, rfl, hks⟩ := hown.form
  have HKS : Hid (∀ wr, Only [um] w1 wr → Ks wr q ks) := Lib.hid fun wr hor => by
    intro hne
    obtain ⟨b, o, hp, hc⟩ := hks hne
    refine ⟨b, o, hp, fun i x hi => ?_⟩
    have h1 := hc i x hi
    rw [hor.cell (World.block_lt_of_cell? _ _ h1) ?_]
    · exact h1
    · rw [List.mem_singleton]
      intro e
      obtain ⟨⟨_, _, hu, _⟩, _⟩ := hf.mu
      rw [show b = um from e] at h1
      simp [World.cell?, hu] at h1
  have HF := Lib.hid hf
  have HO := Lib.hid ho
  have hlen : ks.length ≤ 4096 := by
    have h1 := HR.out
    have h2 : F.nSuch such ≤ F.pages.length := List.countP_le_length
    have hl : F.pages.length = (F.hi - F.lo).toNat := by simp [FL.pages]
    have h3 := HK.out.h0
    have h4 := HK.out.h2
    omega
  obtain ⟨n, hnl⟩ : ∃ n, n = ks.length := ⟨_, rfl⟩
  rw [← hnl]
  have HNL := Lib.hid hnl
  rw [← hnl] at hlen
  clear hf ho hown hn hm hks hnl
  go_wp2
  go_loopw [13] (fun i wr => ∃ j : Nat, i = .int .i64 j ∧ j ≤ n ∧ FrIs wr p um wm (F.partly such (ks.take j)) ∧ Only [um] w1 wr) (fun i _ => n - (intOf i).toNat)
  case atStart => exact ⟨0, rfl, by omega, by rw [List.take_zero, FL.partly_nil]; exact HF.out, Only.refl _ _⟩
  case round =>
    obtain ⟨j, rfl, hj, hfj, hoj⟩ := hrel
    have c2 := hfj.c2
    have HFJ := Lib.hid hfj
    have HOJ := Lib.hid hoj
    by_cases hjn : j = n
    · subst hjn
      clear hfj hoj
      go_wp2
      go_ret
      refine ⟨by rw [HNL.out, HR.out]; rfl, ?_, (Only.of_below HBW.out).trans ((HO.out.mono (by simp)).trans (HOJ.out.mono (by simp)))⟩
      have h1 := HFJ.out
      rw [HNL.out, List.take_length, FL.partly_all HM.out] at h1
      exact h1
    · have hlt : (j : Int) < n := by omega
      have hlt2 : j < n := by omega
      obtain ⟨k, hk⟩ : ∃ k, ks[j]? = some k := ⟨_, List.getElem?_eq_getElem (by rw [← HNL.out]; exact hlt2)⟩
      have hok : ((F.partly such (ks.take j)).take k).Ok := by
        rw [FL.partly_snoc]
        refine HK.out.partly fun x hx => (HM.out x).1 ?_
        rw [List.mem_append, List.mem_singleton] at hx
        rcases hx with hx | rfl
        · exact List.mem_of_mem_take hx
        · exact List.mem_of_getElem? hk
      have HOK := Lib.hid hok
      obtain ⟨b, o, rfl, hcell⟩ := (HKS.out wr hoj).at hk
      have HKK := Lib.hid hk
      clear hfj hoj hok hk
      go_wp2_with (at_mapUpdate; refine st_store rfl _ _ _ _ 3 162 rfl Tryz.underlying135 Tryz.underlying3 rfl HFJ.out.mu rfl rfl ?_; intro w2 hm hg; have HG := Lib.hid hg; have HT := Lib.hid (HFJ.out.taken HOK.out hm hg); clear hm hg; go_frame)
      go_roundw
      case rel =>
        refine ⟨j + 1, by go_num, by omega, ?_, HOJ.out.trans (Only.of_grown HG.out)⟩
        have h1 := HT.out.1
        rw [FL.partly_snoc] at h1
        rw [List.take_add_one, HKK.out]
        exact h1
      case measure => simp [intOf]; omega

end
end Go.Proofs.YtngnmakeaniapaaGreatDoor

