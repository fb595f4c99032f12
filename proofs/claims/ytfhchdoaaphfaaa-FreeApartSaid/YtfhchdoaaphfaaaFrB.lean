/-
  free: New, drop, Use, Give, Later, least, Alloc of a list that a call made.
-/
import Derived.Test.YtfhchdoaaphfaaaFrA
import Derived.LoopTactic
set_option linter.unusedVariables false
set_option maxRecDepth 100000
namespace Go.Proofs.Ytfhchdoaaphfaaa
open Go.RowKit

theorem Only.right {bs : List Nat} {a b c : World} (h : Only bs a b) (k : Only bs b c) : Only bs a c := h.trans k

section
variable {w : World} {p um wm : Nat} {F : FL}

/-- used[k] = struct{}{}: what becomes of the list. -/
theorem FrIs.taken {w' : World} (h : FrIs w p um wm F) {k : Int} (ok : (F.take k).Ok) (hm : MapSt w' um fun x => if x = k then some (.agg #[]) else if F.used x = true then some (.agg #[]) else none) (hg : w.grownBy w' (some um)) : FrIs w' p um wm (F.take k) ∧ Only [um, wm] w w' := by
  have ho := Only.of_grown hg
  obtain ⟨q1, q2⟩ := h.pne
  refine ⟨⟨by rw [ho.block (Array.getElem?_eq_some_iff.1 h.blk).1 (by simpa using q1)]; exact h.blk, ?_, h.mw.block (ho.block h.mw.lt (by simpa using Ne.symm h.ne)), h.ne, ok⟩, ho.mono (by simp)⟩
  have e : (fun x => if x = k then some (Value.agg #[]) else if F.used x = true then some (.agg #[]) else none) = fun x => if (F.take k).used x = true then some (.agg #[]) else none := by
    funext x
    by_cases hx : x = k <;> simp [FL.take, hx]
  rw [← e]
  exact hm

theorem FrIs.dropped {w' : World} (h : FrIs w p um wm F) {k : Int} (hm : MapSt w' um fun x => if x = k then none else if F.used x = true then some (.agg #[]) else none) (hg : w.grownBy w' (some um)) : FrIs w' p um wm (F.drop k) ∧ Only [um, wm] w w' := by
  have ho := Only.of_grown hg
  obtain ⟨q1, q2⟩ := h.pne
  refine ⟨⟨by rw [ho.block (Array.getElem?_eq_some_iff.1 h.blk).1 (by simpa using q1)]; exact h.blk, ?_, h.mw.block (ho.block h.mw.lt (by simpa using Ne.symm h.ne)), h.ne, h.ok.drop k⟩, ho.mono (by simp)⟩
  have e : (fun x => if x = k then none else if F.used x = true then some (Value.agg #[]) else none) = fun x => if (F.drop k).used x = true then some (.agg #[]) else none := by
    funext x
    by_cases hx : x = k <;> simp [FL.drop, hx]
  rw [← e]
  exact hm

theorem FrIs.waited {w' : World} {k g : Int} (h : FrIs w p um wm (F.drop k)) (hk : F.has k = true) (ok : F.Ok) (hm : MapSt w' wm fun x => if x = k then some (.int .i64 g) else (F.waits x).map (Value.int .i64)) (hg : w.grownBy w' (some wm)) : FrIs w' p um wm (F.late k g) ∧ Only [um, wm] w w' := by
  have ho := Only.of_grown hg
  obtain ⟨q1, q2⟩ := h.pne
  refine ⟨⟨by rw [ho.block (Array.getElem?_eq_some_iff.1 h.blk).1 (by simpa using q2)]; exact h.blk, h.mu.block (ho.block h.mu.lt (by simpa using h.ne)), ?_, h.ne, ok.late g hk⟩, ho.mono (by simp)⟩
  have e : (fun x => if x = k then some (Value.int .i64 g) else (F.waits x).map (Value.int .i64)) = fun x => ((F.late k g).waits x).map (Value.int .i64) := by
    funext x
    by_cases hx : x = k <;> simp [FL.late, hx]
  rw [← e]
  exact hm

/-- What a call leaves that changes a list. -/
def FrStep (w : World) (p um wm : Nat) (F : FL) (v : Value) (e : Ending) (w' : World) : Prop := e = .returned v ∧ FrIs w' p um wm F ∧ Only [um, wm] w w'

set_option maxHeartbeats 800000 in
theorem frDrop_no (h : FrIs w p um wm F) {k : Int} (hs : F.st k ≠ 2) :
    Calls Try.prog 21 #[.pointer (some ⟨p, 0, none⟩), .int .i64 k] w (FrStep w p um wm F (.int .i64 13)) := by
  have HS := Lib.hid (frState_any h k)
  have H := Lib.hid h
  have d : (F.st k != 2) = true := by simpa using hs
  clear h hs
  generalize F.st k = s at *
  go_enter Try.func21, Try.ntmps21
  go_wp2_with fail
  refine HS.out.mono ?_; rintro e w1 ⟨rfl, hb⟩
  have HB := Lib.hid hb
  clear hb
  go_wp2
  go_ret
  exact ⟨rfl, H.out.below HB.out, Only.of_below HB.out⟩

set_option maxHeartbeats 800000 in
theorem frDrop_yes (h : FrIs w p um wm F) {k : Int} (hs : F.st k = 2) :
    Calls Try.prog 21 #[.pointer (some ⟨p, 0, none⟩), .int .i64 k] w (FrStep w p um wm (F.drop k) (.int .i64 0)) := by
  have HS := frState_any h k
  rw [hs] at HS
  replace HS := Lib.hid HS
  have H := Lib.hid h
  clear h hs
  go_enter Try.func21, Try.ntmps21
  go_wp2_with fail
  refine HS.out.mono ?_; rintro e w1 ⟨rfl, hb⟩
  have H1 := Lib.hid (H.out.below hb)
  have HB := Lib.hid hb
  have c2 := (H.out.below hb).c2
  clear hb
  go_wp2_with (at_delete; refine st_drop rfl _ _ _ 3 48 3 rfl Try.underlying23 Try.underlying3 rfl H1.out.mu rfl ?_; intro w2 hm hg; have HM := Lib.hid (H1.out.dropped hm hg); clear hm hg)
  go_ret
  exact ⟨rfl, HM.out.1, (Only.of_below HB.out).trans HM.out.2⟩

set_option maxHeartbeats 800000 in
theorem frUse_arg (h : FrIs w p um wm F) {k : Int} (hs : F.has k = false) :
    Calls Try.prog 7 #[.pointer (some ⟨p, 0, none⟩), .int .i64 k] w (FrStep w p um wm F (.int .i64 2)) := by
  have HM := Lib.hid (frMade_yes h.c2)
  have HH := frHas_any h k
  rw [hs] at HH
  replace HH := Lib.hid HH
  have H := Lib.hid h
  clear h hs
  go_enter Try.func7, Try.ntmps7
  go_wp2_with fail
  refine HM.out.mono ?_; rintro e w1 ⟨rfl, rfl⟩
  go_wp2_with fail
  refine HH.out.mono ?_; rintro e w1 ⟨rfl, rfl⟩
  go_wp2
  go_ret
  exact ⟨rfl, H.out, Only.refl _ _⟩

set_option maxHeartbeats 800000 in
theorem frUse_there (h : FrIs w p um wm F) {k : Int} (hk : F.has k = true) (hs : F.st k ≠ 1) :
    Calls Try.prog 7 #[.pointer (some ⟨p, 0, none⟩), .int .i64 k] w (FrStep w p um wm F (.int .i64 14)) := by
  have HM := Lib.hid (frMade_yes h.c2)
  have HH := frHas_any h k
  rw [hk] at HH
  replace HH := Lib.hid HH
  have HS := Lib.hid (frState_any h k)
  have H := Lib.hid h
  have d : (F.st k != 1) = true := by simpa using hs
  clear h hs
  generalize F.st k = s at *
  go_enter Try.func7, Try.ntmps7
  go_wp2_with fail
  refine HM.out.mono ?_; rintro e w1 ⟨rfl, rfl⟩
  go_wp2_with fail
  refine HH.out.mono ?_; rintro e w1 ⟨rfl, rfl⟩
  go_wp2_with fail
  refine HS.out.mono ?_; rintro e w1 ⟨rfl, hb⟩
  have HB := Lib.hid hb
  clear hb
  go_wp2
  go_ret
  exact ⟨rfl, H.out.below HB.out, Only.of_below HB.out⟩

set_option maxHeartbeats 800000 in
theorem frUse_yes (h : FrIs w p um wm F) {k : Int} (hs : F.st k = 1) :
    Calls Try.prog 7 #[.pointer (some ⟨p, 0, none⟩), .int .i64 k] w (FrStep w p um wm (F.take k) (.int .i64 0)) := by
  have HM := Lib.hid (frMade_yes h.c2)
  have hk : F.has k = true := by
    cases hh : F.has k
    · simp [FL.st, hh] at hs
    · rfl
  have HH := frHas_any h k
  rw [hk] at HH
  replace HH := Lib.hid HH
  have HO := Lib.hid (h.ok.take hs)
  have HS := frState_any h k
  rw [hs] at HS
  replace HS := Lib.hid HS
  have H := Lib.hid h
  clear h hs hk
  go_enter Try.func7, Try.ntmps7
  go_wp2_with fail
  refine HM.out.mono ?_; rintro e w1 ⟨rfl, rfl⟩
  go_wp2_with fail
  refine HH.out.mono ?_; rintro e w1 ⟨rfl, rfl⟩
  go_wp2_with fail
  refine HS.out.mono ?_; rintro e w1 ⟨rfl, hb⟩
  have H1 := Lib.hid (H.out.below hb)
  have HB := Lib.hid hb
  have c2 := (H.out.below hb).c2
  clear hb
  go_wp2_with (at_mapUpdate; refine st_store rfl _ _ _ _ 3 48 rfl Try.underlying23 Try.underlying3 rfl H1.out.mu rfl rfl ?_; intro w2 hm hg; have HG := Lib.hid (H1.out.taken HO.out hm hg); clear hm hg)
  go_ret
  exact ⟨rfl, HG.out.1, (Only.of_below HB.out).trans HG.out.2⟩

set_option maxHeartbeats 800000 in
theorem frGive_arg (h : FrIs w p um wm F) {k : Int} (hs : F.has k = false) :
    Calls Try.prog 8 #[.pointer (some ⟨p, 0, none⟩), .int .i64 k] w (FrStep w p um wm F (.int .i64 2)) := by
  have HM := Lib.hid (frMade_yes h.c2)
  have HH := frHas_any h k
  rw [hs] at HH
  replace HH := Lib.hid HH
  have H := Lib.hid h
  clear h hs
  go_enter Try.func8, Try.ntmps8
  go_wp2_with fail
  refine HM.out.mono ?_; rintro e w1 ⟨rfl, rfl⟩
  go_wp2_with fail
  refine HH.out.mono ?_; rintro e w1 ⟨rfl, rfl⟩
  go_wp2
  go_ret
  exact ⟨rfl, H.out, Only.refl _ _⟩

set_option maxHeartbeats 800000 in
theorem frGive_any (h : FrIs w p um wm F) {k : Int} (hk : F.has k = true) :
    Calls Try.prog 8 #[.pointer (some ⟨p, 0, none⟩), .int .i64 k] w (FrStep w p um wm (if F.st k = 2 then F.drop k else F) (if F.st k = 2 then .int .i64 0 else .int .i64 13)) := by
  have HM := Lib.hid (frMade_yes h.c2)
  have HH := frHas_any h k
  rw [hk] at HH
  replace HH := Lib.hid HH
  by_cases hs : F.st k = 2
  · have HD := Lib.hid (frDrop_yes h hs)
    simp only [hs, if_true]
    clear h hk hs
    go_enter Try.func8, Try.ntmps8
    go_wp2_with fail
    refine HM.out.mono ?_; rintro e w1 ⟨rfl, rfl⟩
    go_wp2_with fail
    refine HH.out.mono ?_; rintro e w1 ⟨rfl, rfl⟩
    go_wp2_with fail
    refine HD.out.mono ?_; rintro e w1 ⟨rfl, hd⟩
    have HD1 := Lib.hid hd
    clear hd
    go_wp2
    go_ret
    exact ⟨rfl, HD1.out⟩
  · have HD := Lib.hid (frDrop_no h hs)
    simp only [hs, if_false]
    clear h hk hs
    go_enter Try.func8, Try.ntmps8
    go_wp2_with fail
    refine HM.out.mono ?_; rintro e w1 ⟨rfl, rfl⟩
    go_wp2_with fail
    refine HH.out.mono ?_; rintro e w1 ⟨rfl, rfl⟩
    go_wp2_with fail
    refine HD.out.mono ?_; rintro e w1 ⟨rfl, hd⟩
    have HD1 := Lib.hid hd
    clear hd
    go_wp2
    go_ret
    exact ⟨rfl, HD1.out⟩

set_option maxHeartbeats 800000 in
theorem frLater_arg (h : FrIs w p um wm F) {k g : Int} (hs : F.has k = false ∨ g < 0) :
    Calls Try.prog 9 #[.pointer (some ⟨p, 0, none⟩), .int .i64 k, .int .i64 g] w (FrStep w p um wm F (.int .i64 2)) := by
  have HM := Lib.hid (frMade_yes h.c2)
  have HH := frHas_any h k
  have H := Lib.hid h
  clear h
  cases hk : F.has k
  · rw [hk] at HH
    replace HH := Lib.hid HH
    clear hs hk
    go_enter Try.func9, Try.ntmps9
    go_wp2_with fail
    refine HM.out.mono ?_; rintro e w1 ⟨rfl, rfl⟩
    go_wp2_with fail
    refine HH.out.mono ?_; rintro e w1 ⟨rfl, rfl⟩
    go_wp2
    go_ret
    exact ⟨rfl, H.out, Only.refl _ _⟩
  · have hg : decide (g < 0) = true := decide_eq_true (by rcases hs with hs | hs; rw [hk] at hs; cases hs; exact hs)
    rw [hk] at HH
    replace HH := Lib.hid HH
    clear hs hk
    go_enter Try.func9, Try.ntmps9
    go_wp2_with fail
    refine HM.out.mono ?_; rintro e w1 ⟨rfl, rfl⟩
    go_wp2_with fail
    refine HH.out.mono ?_; rintro e w1 ⟨rfl, rfl⟩
    go_wp2
    go_ret
    exact ⟨rfl, H.out, Only.refl _ _⟩

set_option maxHeartbeats 800000 in
theorem frLater_any (h : FrIs w p um wm F) {k g : Int} (hk : F.has k = true) (hg : 0 ≤ g) :
    Calls Try.prog 9 #[.pointer (some ⟨p, 0, none⟩), .int .i64 k, .int .i64 g] w (FrStep w p um wm (if F.st k = 2 then F.late k g else F) (if F.st k = 2 then .int .i64 0 else .int .i64 13)) := by
  have HM := Lib.hid (frMade_yes h.c2)
  have HH := frHas_any h k
  rw [hk] at HH
  replace HH := Lib.hid HH
  have hd : decide (g < 0) = false := decide_eq_false (by omega)
  have HK := Lib.hid hk
  by_cases hs : F.st k = 2
  · have HD := Lib.hid (frDrop_yes h hs)
    have HO := Lib.hid h.ok
    simp only [hs, if_true]
    clear h hk hs
    go_enter Try.func9, Try.ntmps9
    go_wp2_with fail
    refine HM.out.mono ?_; rintro e w1 ⟨rfl, rfl⟩
    go_wp2_with fail
    refine HH.out.mono ?_; rintro e w1 ⟨rfl, rfl⟩
    go_wp2_with fail
    refine HD.out.mono ?_; rintro e w1 ⟨rfl, h1, ho⟩
    have H1 := Lib.hid h1
    have HB := Lib.hid ho
    have c3 := h1.c3
    clear h1 ho
    go_wp2_with (at_mapUpdate; refine st_store rfl _ _ _ _ 3 3 rfl Try.underlying24 Try.underlying3 rfl H1.out.mw rfl rfl ?_; intro w2 hm hg; have HG := Lib.hid (FrIs.waited H1.out HK.out HO.out hm hg); clear hm hg)
    go_ret
    exact ⟨rfl, HG.out.1, HB.out.trans HG.out.2⟩
  · have HD := Lib.hid (frDrop_no h hs)
    simp only [hs, if_false]
    clear h hk hs
    go_enter Try.func9, Try.ntmps9
    go_wp2_with fail
    refine HM.out.mono ?_; rintro e w1 ⟨rfl, rfl⟩
    go_wp2_with fail
    refine HH.out.mono ?_; rintro e w1 ⟨rfl, rfl⟩
    go_wp2_with fail
    refine HD.out.mono ?_; rintro e w1 ⟨rfl, hd⟩
    have HD1 := Lib.hid hd
    clear hd
    go_wp2
    go_ret
    exact ⟨rfl, HD1.out⟩
end

def FrNewPost (w : World) (lo hi : Int) (e : Ending) (w' : World) : Prop :=
  ∃ p um wm, e = .returned (.tuple #[.pointer (some ⟨p, 0, none⟩), .int .i64 0]) ∧ FrIs w' p um wm (FL.new lo hi) ∧ Below w.heap.size w w' ∧ w.heap.size ≤ p ∧ w.heap.size ≤ um ∧ w.heap.size ≤ wm

set_option maxHeartbeats 800000 in
theorem frNew_yes {w : World} {lo hi : Int} (h0 : 0 ≤ lo) (h1 : lo ≤ hi) (h2 : hi ≤ 4096) :
    Calls Try.prog 16 #[.int .i64 lo, .int .i64 hi] w (FrNewPost w lo hi) := by
  have hfin : ∀ w', w' = (((w.alloc (.map #[] 0)).alloc (.map #[] 0)).alloc (.cells #[.int .i64 lo, .int .i64 hi, .map (some w.heap.size), .map (some (w.heap.size + 1))] 26)) → FrIs w' (w.heap.size + 2) w.heap.size (w.heap.size + 1) (FL.new lo hi) ∧ Below w.heap.size w w' := by
    rintro w' rfl
    obtain ⟨b0, b1, b2, _⟩ := sbox3_heap w (.map #[] 0) (.map #[] 0) (.cells #[.int .i64 lo, .int .i64 hi, .map (some w.heap.size), .map (some (w.heap.size + 1))] 26)
    exact ⟨⟨b2, MapSt.new b0, MapSt.new b1, by omega, FL.Ok.new h0 h1 h2⟩, sbox3 _ _ _ _⟩
  have HF := Lib.hid hfin
  have d0 : decide (lo < 0) = false := decide_eq_false (by omega)
  have d1 : decide (hi < lo) = false := decide_eq_false (by omega)
  have d2 : decide (4096 < hi) = false := decide_eq_false (by omega)
  clear hfin h0 h1 h2
  have hmm := @run_makeMap Try.prog
  go_enter Try.func16, Try.ntmps16
  go_wp2
  go_ret2
  exact ⟨_, _, _, rfl, (HF.out _ rfl).1, (HF.out _ rfl).2, by omega, Nat.le_refl _, by omega⟩

end Go.Proofs.Ytfhchdoaaphfaaa
