/-
  free: least, Alloc; Free, Waiting, Used of a list that a call made.
-/
import Derived.Test.YtpmiakcngjihnaaDoorGm5
import Derived.BigQuiet
set_option linter.unusedVariables false
set_option maxRecDepth 100000
namespace Go.Proofs.YtpmiakcngjihnaaDoor
open Go.RowKit

section
variable {w : World} {p um wm : Nat} {F : FL}

/-- The least page that is free, as the search goes: from j on, n steps. -/
def FL.seek (F : FL) : Nat → Int → Option Int
  | 0, _ => none
  | n + 1, j => if F.st j = 1 then some j else F.seek n (j + 1)

def FL.least (F : FL) : Option Int := F.seek (F.hi - F.lo).toNat F.lo

theorem FL.seek_some {F : FL} : ∀ {n : Nat} {j k : Int}, F.seek n j = some k → F.st k = 1 ∧ j ≤ k ∧ k < j + n ∧ ∀ i, j ≤ i → i < k → F.st i ≠ 1
  | 0, j, k, h => by cases h
  | n + 1, j, k, h => by
    unfold FL.seek at h
    by_cases hj : F.st j = 1
    · rw [if_pos hj] at h
      cases h
      exact ⟨hj, by omega, by omega, fun i h1 h2 => by omega⟩
    · rw [if_neg hj] at h
      obtain ⟨h1, h2, h3, h4⟩ := FL.seek_some h
      refine ⟨h1, by omega, by omega, fun i hi hk => ?_⟩
      by_cases e : i = j
      · rw [e]; exact hj
      · exact h4 i (by omega) hk
theorem FL.seek_none {F : FL} : ∀ {n : Nat} {j : Int}, F.seek n j = none → ∀ i, j ≤ i → i < j + n → F.st i ≠ 1
  | 0, j, h, i, h1, h2 => by omega
  | n + 1, j, h, i, h1, h2 => by
    unfold FL.seek at h
    by_cases hj : F.st j = 1
    · rw [if_pos hj] at h
      cases h
    · rw [if_neg hj] at h
      by_cases e : i = j
      · rw [e]; exact hj
      · exact FL.seek_none h i (by omega) (by omega)
theorem FL.least_some {F : FL} {k : Int} (h : F.least = some k) : F.st k = 1 ∧ ∀ i, F.lo ≤ i → i < k → F.st i ≠ 1 := by
  obtain ⟨h1, h2, h3, h4⟩ := FL.seek_some h
  exact ⟨h1, h4⟩
theorem FL.least_none {F : FL} (h : F.least = none) (i : Int) : F.st i ≠ 1 := by
  by_cases hi : F.has i = true
  · have h2 := FL.has_iff.1 hi
    exact FL.seek_none h i h2.1 (by omega)
  · unfold FL.st
    rw [if_neg hi]
    decide

set_option maxHeartbeats 800000 in
/-- The closure of Alloc. -/
theorem frIsFree (h : FrIs w p um wm F) {g : Nat} (hg : w.cell? ⟨g, 0, none⟩ = some (.pointer (some ⟨p, 0, none⟩))) (k : Int) :
    Calls Tryd.prog 67 #[.int .i64 k, .pointer (some ⟨g, 0, none⟩)] w fun e w' => e = .returned (.bool (F.st k == 1)) ∧ Below w.heap.size w w' := by
  have HS := Lib.hid (frState_any h k)
  clear h
  generalize F.st k = s at *
  go_enter Tryd.func67, Tryd.ntmps67
  go_wp2_with fail
  refine HS.out.mono ?_; rintro e w1 ⟨rfl, hb⟩
  have HB := Lib.hid hb
  clear hb
  go_wp2
  go_ret
  exact ⟨rfl, HB.out⟩

def ofOpt (k : Option Int) : Value := match k with | some k => .tuple #[.int .i64 k, .bool true] | none => .tuple #[.int .i64 0, .bool false]
def LeastPost (w : World) (k : Option Int) (e : Ending) (w' : World) : Prop := e = .returned (ofOpt k) ∧ Below w.heap.size w w'

set_option maxHeartbeats 1600000 in
theorem frLeast_any (h : FrIs w p um wm F) {g : Nat} (hg : w.cell? ⟨g, 0, none⟩ = some (.pointer (some ⟨p, 0, none⟩))) :
    Calls Tryd.prog 66 #[.pointer (some ⟨p, 0, none⟩), .func (.func 67) #[] #[.pointer (some ⟨g, 0, none⟩)]] w (LeastPost w F.least) := by
  have hF : ∀ w', Below w.heap.size w w' → FrIs w' p um wm F ∧ w'.cell? ⟨g, 0, none⟩ = some (.pointer (some ⟨p, 0, none⟩)) := fun w' hb =>
    ⟨h.below hb, by rw [hb.cell (p := ⟨g, 0, none⟩) (World.block_lt_of_cell? _ _ hg)]; exact hg⟩
  have eg : ∀ args (w : World), (callFunc 67 args).run Tryd.prog w = .ok (.enter 67 args) w := fun _ _ => rfl
  have HF := Lib.hid hF
  have c0 := h.c0
  obtain ⟨lo, hlo⟩ : ∃ lo, lo = F.lo := ⟨_, rfl⟩
  obtain ⟨hi, hhi⟩ : ∃ hi, hi = F.hi := ⟨_, rfl⟩
  have hr := h.ok.h1
  have h0 := h.ok.h0
  have h2 := h.ok.h2
  have hL : F.least = F.seek (hi - lo).toNat lo := by rw [hlo, hhi]; rfl
  rw [← hlo] at c0 hr h0
  rw [← hhi] at hr h2
  rw [hL]
  have HHI := Lib.hid hhi
  clear hL hlo hhi h hg hF
  go_enter Tryd.func66, Tryd.ntmps66
  go_wp2
  go_loopw [6] (fun i wr => ∃ j : Int, i = .int .i64 j ∧ lo ≤ j ∧ j ≤ hi ∧ F.seek (hi - j).toNat j = F.seek (hi - lo).toNat lo ∧ Below w.heap.size w wr) (fun i _ => (hi - intOf i).toNat)
  case atStart => exact ⟨lo, rfl, by omega, hr, rfl, Below.refl _ _⟩
  case round =>
    obtain ⟨j, rfl, hj1, hj2, hs, hb⟩ := hrel
    obtain ⟨h1, hg1⟩ := HF.out _ hb
    have c1 := h1.c1
    rw [← HHI.out] at c1
    have HB := Lib.hid hb
    have HS := Lib.hid hs
    have HC := Lib.hid (frIsFree h1 hg1 j)
    clear hb hs h1 hg1
    by_cases he : j = hi
    · subst he
      have d : decide (j < j) = false := decide_eq_false (by omega)
      have HN : Hid (F.seek (j - lo).toNat lo = none) := Lib.hid (by rw [← HS.out]; simp [FL.seek])
      go_wp2
      go_ret2
      exact ⟨by rw [HN.out]; rfl, HB.out⟩
    · have d : decide (j < hi) = true := decide_eq_true (by omega)
      by_cases hs1 : F.st j = 1
      · have HN : Hid (F.seek (hi - lo).toNat lo = some j) := Lib.hid (by
          rw [← HS.out]
          obtain ⟨n, hn⟩ : ∃ n, (hi - j).toNat = n + 1 := ⟨(hi - j).toNat - 1, by omega⟩
          rw [hn]
          simp [FL.seek, hs1])
        rw [hs1] at HC
        clear hs1
        go_wp2_with fail
        refine HC.out.mono ?_; rintro e w1 ⟨rfl, hb⟩
        have HB1 := Lib.hid (HB.out.trans (hb.mono HB.out.size))
        clear hb
        go_wp2
        go_ret2
        exact ⟨by rw [HN.out]; rfl, HB1.out⟩
      · have hs2 : (F.st j == 1) = false := by simpa using hs1
        rw [hs2] at HC
        have HN : Hid (F.seek (hi - (j + 1)).toNat (j + 1) = F.seek (hi - lo).toNat lo) := Lib.hid (by
          rw [← HS.out]
          have hn : (hi - j).toNat = (hi - (j + 1)).toNat + 1 := by omega
          rw [hn]
          show _ = (if F.st j = 1 then some j else F.seek (hi - (j + 1)).toNat (j + 1))
          rw [if_neg hs1])
        clear hs1 hs2
        go_wp2_with fail
        refine HC.out.mono ?_; rintro e w1 ⟨rfl, hb⟩
        have HB1 := Lib.hid (HB.out.trans (hb.mono HB.out.size))
        clear hb
        go_wp2
        go_roundw
        case rel => exact ⟨j + 1, by go_num, by omega, by omega, HN.out, HB1.out⟩
        case measure => simp [intOf]; omega

def FL.alloc (F : FL) : FL := match F.least with | some k => F.take k | none => F
def FL.allocV (F : FL) : Value := match F.least with | some k => .tuple #[.int .i64 k, .int .i64 0] | none => .tuple #[.int .i64 0, .int .i64 15]

set_option maxHeartbeats 1600000 in
theorem frAlloc_any (h : FrIs w p um wm F) :
    Calls Tryd.prog 38 #[.pointer (some ⟨p, 0, none⟩)] w (FrStep w p um wm F.alloc F.allocV) := by
  have hmf : ∀ (fn : Fn) (first cap : Array Value) (w : World), (Instr.makeFunc fn first cap).run Tryd.prog w = .ok (.func fn first cap) w := fun _ _ _ _ => rfl
  obtain ⟨W, hW⟩ : ∃ W, W = w.alloc (.cells #[.pointer (some ⟨p, 0, none⟩)] 60) := ⟨_, rfl⟩
  have hbW : Below w.heap.size w W := by rw [hW]; exact sbox1 _ _
  have hcW : W.cell? ⟨w.heap.size, 0, none⟩ = some (.pointer (some ⟨p, 0, none⟩)) := by
    have hn := heap_alloc_new w (.cells #[.pointer (some ⟨p, 0, none⟩)] 60)
    rw [← hW] at hn
    rw [Joins.cell_of_block hn]
    rfl
  have h1 := h.below hbW
  have HM := Lib.hid (frMade_yes h1.c2)
  have HL := Lib.hid (frLeast_any h1 hcW)
  have HC : Hid (∀ w', Below W.heap.size W w' → w'.cell? ⟨w.heap.size, 0, none⟩ = some (.pointer (some ⟨p, 0, none⟩)) ∧ FrIs w' p um wm F) := Lib.hid fun w' hb =>
    ⟨by rw [hb.cell (p := ⟨w.heap.size, 0, none⟩) (World.block_lt_of_cell? _ _ hcW)]; exact hcW, h1.below hb⟩
  have HBW := Lib.hid hbW
  unfold FL.alloc FL.allocV
  have HO : Hid (∀ k, F.least = some k → (F.take k).Ok) := Lib.hid fun k hk => h.ok.take (FL.least_some hk).1
  clear h h1 hbW
  cases hl : F.least with
  | none =>
    rw [hl] at HL
    clear hl
    go_enter Tryd.func38, Tryd.ntmps38
    go_wp2_with fail
    rw [← hW]
    clear hW
    refine HM.out.mono ?_; rintro e w1 ⟨rfl, rfl⟩
    go_wp2_with fail
    refine HL.out.mono ?_; rintro e w1 ⟨rfl, hb⟩
    have HB1 := Lib.hid hb
    clear hb
    unfold ofOpt
    go_wp2
    go_ret2
    exact ⟨rfl, (HC.out _ HB1.out).2, (Only.of_below HBW.out).trans (Only.of_below HB1.out)⟩
  | some k =>
    rw [hl] at HL
    have HOk := Lib.hid (HO.out k hl)
    clear hl
    go_enter Tryd.func38, Tryd.ntmps38
    go_wp2_with fail
    rw [← hW]
    clear hW
    refine HM.out.mono ?_; rintro e w1 ⟨rfl, rfl⟩
    go_wp2_with fail
    refine HL.out.mono ?_; rintro e w1 ⟨rfl, hb⟩
    have HB1 := Lib.hid hb
    obtain ⟨hc1, hf1⟩ := HC.out _ hb
    have H1 := Lib.hid hf1
    have c2 := hf1.c2
    clear hb hf1
    unfold ofOpt
    go_wp2_with (at_mapUpdate; refine st_store rfl _ _ _ _ 3 86 rfl Tryd.underlying61 Tryd.underlying3 rfl H1.out.mu rfl rfl ?_; intro w2 hm hg; have HG := Lib.hid (H1.out.taken HOk.out hm hg); clear hm hg)
    go_ret2
    exact ⟨rfl, HG.out.1, ((Only.of_below HBW.out).trans (Only.of_below HB1.out)).trans HG.out.2⟩

set_option maxHeartbeats 800000 in
theorem frUsed_any (h : FrIs w p um wm F) :
    Calls Tryd.prog 52 #[.pointer (some ⟨p, 0, none⟩)] w fun e w' => e = .returned (.int .i64 F.nUsed) ∧ w = w' := by
  have HM := Lib.hid (frMade_yes h.c2)
  have c2 := h.c2
  have HU := Lib.hid h.mu
  have HK := Lib.hid (FL.keys_used h.ok)
  have e : F.nUsed = (F.pages.filter F.used).length := by unfold FL.nUsed; rw [List.countP_eq_length_filter]
  rw [e]
  clear h e
  go_enter Tryd.func52, Tryd.ntmps52
  go_wp2_with fail
  refine HM.out.mono ?_; rintro e w1 ⟨rfl, rfl⟩
  go_wp2_with (refine st_len rfl _ _ 3 86 rfl Tryd.underlying61 rfl HU.out.is HK.out ?_)
  go_ret
  exact ⟨rfl, rfl⟩

set_option maxHeartbeats 800000 in
theorem frWaiting_any (h : FrIs w p um wm F) :
    Calls Tryd.prog 53 #[.pointer (some ⟨p, 0, none⟩)] w fun e w' => e = .returned (.int .i64 F.nWaits) ∧ w = w' := by
  have HM := Lib.hid (frMade_yes h.c2)
  have c3 := h.c3
  have HU := Lib.hid h.mw
  have HK := Lib.hid (FL.keys_waits h.ok)
  have e : F.nWaits = (F.pages.filter fun k => (F.waits k).isSome).length := by unfold FL.nWaits; rw [List.countP_eq_length_filter]
  rw [e]
  clear h e
  go_enter Tryd.func53, Tryd.ntmps53
  go_wp2_with fail
  refine HM.out.mono ?_; rintro e w1 ⟨rfl, rfl⟩
  go_wp2_with (refine st_len rfl _ _ 3 3 rfl Tryd.underlying109 rfl HU.out.is HK.out ?_)
  go_ret
  exact ⟨rfl, rfl⟩

end
end Go.Proofs.YtpmiakcngjihnaaDoor
