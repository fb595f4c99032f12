/-
  TreeWrong: what is no tree's root is told; the empty tree's calls are no mistakes.
-/
import Derived.Test.YtfpdcfomfikkiaaGreatDoorH33
import Derived.Test.YtfpdcfomfikkiaaGreatDoorH34
import Derived.Test.YtfpdcfomfikkiaaGreatDoorH35
set_option linter.unusedVariables false
set_option linter.unusedSimpArgs false
set_option maxRecDepth 100000
namespace Go.Proofs.YtfpdcfomfikkiaaGreatDoor
open Go.RowKit

section
variable {w : World} {B P pd : Nat} {X : PG}
theorem getZ_any (hT : Tab w) (h : GrAt w B P pd X) (hz : X.F.hi = X.S.size) (ht : 0 < B) (root : Int) (hno : root ≠ 0 → ∀ s, ¬ NodeIs X root s) {k : Kb} (hk : k.Ok w) (hk72 : k.l.length ≤ 72) :
    Calls Tryz.prog 8 #[.pointer (some ⟨P, 0, none⟩), .int .i64 root, .slice k.q k.l.length k.c] w fun e w' => (∃ v b, e = .returned (.tuple #[v, .bool b, .int .i64 (if root = 0 then 0 else 18)])) ∧ Below w.heap.size w w' := by
  refine (trGet_any hT h hz ht root hk hk72).mono ?_
  rintro e w' ⟨hb, hh⟩
  refine ⟨?_, hb⟩
  by_cases h0 : root = 0
  · rw [if_pos h0]
    rcases hh with ⟨x, _, rfl, _⟩ | ⟨_, rfl⟩ | ⟨hn, _⟩
    · exact ⟨_, _, rfl⟩
    · exact ⟨_, _, rfl⟩
    · exact absurd ⟨[], by unfold WayR; rw [if_pos h0], rfl⟩ (hn none)
  · rw [if_neg h0]
    have hw : ∀ m, ¬ WayR X k.l (fun _ => false) root m := fun m => way_none h0 (hno h0)
    rcases hh with ⟨x, ⟨m, _, _, h1, _⟩, _⟩ | ⟨⟨m, h1, _⟩, _⟩ | ⟨_, rfl⟩
    · exact absurd h1 (hw m)
    · exact absurd h1 (hw m)
    · exact ⟨_, _, rfl⟩
theorem putWZ_any (hT : Tab w) (h : GrAt w B P pd X) (hz : X.F.hi = X.S.size) (ht : 0 < B) (root : Int) (hno : root ≠ 0 → ∀ s, ¬ NodeIs X root s) {n : Nat} (hX : Lays X n) {k : Kb} (hk : k.Ok w) (hk72 : k.l.length ≤ 72) :
    Calls Tryz.prog 11 #[.pointer (some ⟨P, 0, none⟩), .int .i64 root, .slice k.q k.l.length k.c, .slice none 0 0] w fun e w' => (∃ i : Int, e = .returned (.tuple #[.int .i64 i, .int .i64 (if root = 0 then 0 else 18)])) ∧ Below B w w' := by
  by_cases h0 : root = 0
  · subst h0
    rw [if_pos rfl]
    exact (putZ_ok hT h hz ht hX hk hk72).mono fun e w' ⟨he, hb⟩ => ⟨⟨_, he⟩, hb⟩
  · rw [if_neg h0]
    exact (putW_any hT h hz ht h0 (hno h0) hk hk72).mono fun e w' ⟨he, hb⟩ => ⟨⟨_, he⟩, hb.mono h.base⟩
end

/-- The bytes of the other page. -/
def otherB : List UInt8 := [111, 116, 104, 101, 114]

set_option maxHeartbeats 6400000 in
theorem law_trwrong {w : World} (hT : Tab w) (root : Int) {k : Kb} (hk : k.Ok w) :
    Calls Tryz.prog 3 #[.int .i64 root, .slice k.q k.l.length k.c] w fun e w' => e = .returned (.bool true) ∧ Below w.heap.size w w' := by
  have HT := Lib.hid hT
  have HK := Lib.hid hk
  have HST := Lib.hid (start_ok hT (n := 50) (by decide) (by decide))
  have hkl : k.l.length ≤ 9223372036854775807 := Nat.le_trans hk.h1 hk.h2
  obtain ⟨kn, hkn⟩ : ∃ n, n = k.l.length := ⟨_, rfl⟩
  have HKN := Lib.hid hkn
  rw [← hkn] at hkl ⊢
  clear hT hk hkn
  by_cases h72 : kn ≤ 72
  · have d72 : decide ((72 : Int) < (kn : Int)) = false := decide_eq_false (by omega)
    go_enter Tryz.func3, Tryz.ntmps3
    go_wp2_with fail
    refine HST.out.mono ?_; rintro e w1 ⟨P, pd, rfl, hg, hb⟩
    have HG := Lib.hid hg
    have HB1 := Lib.hid hb
    clear hg hb HST
    have hcv := fun (w : World) => Lib.run_convert_bytes_const (P := Tryz.prog) w 22 5 #[.int .u8 111, .int .u8 116, .int .u8 104, .int .u8 101, .int .u8 114] 5 5 Tryz.underlying22 Tryz.underlying5
    go_wp2_with fail
    have HLY : Hid (Calls Tryz.prog 7 #[.pointer (some ⟨P, 0, none⟩), .int .u8 9, .slice (some ⟨w1.heap.size, 0, none⟩) 5 5] (w1.alloc (.cells #[.int .u8 111, .int .u8 116, .int .u8 104, .int .u8 101, .int .u8 114] 5 (5, 6))) fun e w' => e = .returned (.tuple #[.int .i64 2, .int .i64 0]) ∧ GrAt w' w.heap.size P pd (oneX otherB) ∧ Below w.heap.size w w') := Lib.hid (by
      have hb2 : Below w1.heap.size w1 (w1.alloc (.cells #[.int .u8 111, .int .u8 116, .int .u8 104, .int .u8 101, .int .u8 114] 5 (5, 6))) := (Below.refl _ _).alloc (Nat.le_refl _) _
      have hb3 : Below w.heap.size w (w1.alloc (.cells #[.int .u8 111, .int .u8 116, .int .u8 104, .int .u8 101, .int .u8 114] 5 (5, 6))) := HB1.out.trans (hb2.mono HB1.out.size)
      obtain ⟨lm, fm, pl, um, wm, la, v, hg⟩ := HG.out.below hb2
      obtain ⟨h1, h2, h3, h4, h5, h6, h7⟩ := startX_lays
      refine (grLay_ok (HT.out.below HT.out.lt hb3) HT.out.lt hg h1 h2 h3 h4 h5 h6 (by rw [startX_F, startX_size]; rfl) h7 9 (l := otherB) (n := 5) (c := 5) (GBytes.blockT (heap_alloc_new w1 _) rfl) rfl (by decide) (by decide) (by decide)).mono ?_
      rintro e w3 ⟨rfl, hs⟩
      exact ⟨rfl, hs.at_, hb3.trans hs.below⟩)
    refine HLY.out.mono ?_; rintro e w3 ⟨rfl, hg, hb⟩
    have HG3 := Lib.hid hg
    have HB3 := Lib.hid hb
    clear hg hb HLY HG hcv
    have HNO : Hid (root ≠ 0 → ∀ s, ¬ NodeIs (oneX otherB) root s) := Lib.hid fun _ s => oneX_no (by decide) root s
    have HK72 : Hid (k.l.length ≤ 72) := Lib.hid (by rw [← HKN.out]; exact h72)
    have HGET := Lib.hid fun w' (hb : Below w3.heap.size w3 w') => getZ_any (HT.out.below HT.out.lt (HB3.out.trans (hb.mono HB3.out.size))) (HG3.out.below hb) (oneX_hi _) HT.out.lt root HNO.out (HK.out.below (HB3.out.trans (hb.mono HB3.out.size))) HK72.out
    have HSCN := Lib.hid fun w' (hb : Below w3.heap.size w3 w') => scanZ_any (HT.out.below HT.out.lt (HB3.out.trans (hb.mono HB3.out.size))) (HG3.out.below hb) (oneX_hi _) HT.out.lt root HNO.out (HK.out.below (HB3.out.trans (hb.mono HB3.out.size))) HK72.out 5 (by decide) (by decide)
    have HPGS := Lib.hid fun w' (hb : Below w3.heap.size w3 w') => pagesZ_any (HT.out.below HT.out.lt (HB3.out.trans (hb.mono HB3.out.size))) (HG3.out.below hb) (oneX_hi _) HT.out.lt root HNO.out
    have HPUT := Lib.hid fun w' (hb : Below w3.heap.size w3 w') => putWZ_any (HT.out.below HT.out.lt (HB3.out.trans (hb.mono HB3.out.size))) (HG3.out.below hb) (oneX_hi _) HT.out.lt root HNO.out (oneX_lays _) (HK.out.below (HB3.out.trans (hb.mono HB3.out.size))) HK72.out
    rw [← HKN.out] at HGET HSCN HPUT
    clear HG3 HNO HT HK HB1 HK72 HKN
    by_cases h0 : root = 0
    · subst h0
      simp only [if_true] at HGET HSCN HPGS HPUT
      go_wp2_with fail
      refine (HGET.out w3 (Below.refl _ _)).mono ?_; rintro e w4 ⟨⟨v4, b4, rfl⟩, hb⟩
      have HB4 := Lib.hid hb
      clear hb
      go_wp2_with fail
      refine (HSCN.out w4 HB4.out).mono ?_; rintro e w5 ⟨rfl, hb⟩
      have HB5 := Lib.hid (HB4.out.trans (hb.mono HB4.out.size))
      clear hb
      go_wp2_with fail
      refine (HPGS.out w5 HB5.out).mono ?_; rintro e w6 ⟨rfl, hb⟩
      have HB6 := Lib.hid (HB5.out.trans (hb.mono HB5.out.size))
      clear hb
      go_wp2_with fail
      refine (HPUT.out w6 HB6.out).mono ?_; rintro e w7 ⟨⟨i7, rfl⟩, hb⟩
      have HB7 := Lib.hid ((HB3.out.trans (HB6.out.mono HB3.out.size)).trans hb)
      clear hb
      go_wp2
      go_ret
      exact ⟨rfl, HB7.out⟩
    · have hr : (root == 0) = false := by rw [beq_eq_false_iff_ne]; exact h0
      simp only [if_neg h0] at HGET HSCN HPGS HPUT
      go_wp2_with fail
      refine (HGET.out w3 (Below.refl _ _)).mono ?_; rintro e w4 ⟨⟨v4, b4, rfl⟩, hb⟩
      have HB4 := Lib.hid hb
      clear hb
      go_wp2_with fail
      refine (HSCN.out w4 HB4.out).mono ?_; rintro e w5 ⟨rfl, hb⟩
      have HB5 := Lib.hid (HB4.out.trans (hb.mono HB4.out.size))
      clear hb
      go_wp2_with fail
      refine (HPGS.out w5 HB5.out).mono ?_; rintro e w6 ⟨rfl, hb⟩
      have HB6 := Lib.hid (HB5.out.trans (hb.mono HB5.out.size))
      clear hb
      go_wp2_with fail
      refine (HPUT.out w6 HB6.out).mono ?_; rintro e w7 ⟨⟨i7, rfl⟩, hb⟩
      have HB7 := Lib.hid ((HB3.out.trans (HB6.out.mono HB3.out.size)).trans hb)
      clear hb
      go_wp2
      go_ret
      exact ⟨rfl, HB7.out⟩
  · have d72 : decide ((72 : Int) < (kn : Int)) = true := decide_eq_true (by omega)
    go_enter Tryz.func3, Tryz.ntmps3
    go_wp2_with fail
    refine HST.out.mono ?_; rintro e w1 ⟨P, pd, rfl, hg, hb⟩
    have HB1 := Lib.hid hb
    clear hg hb HST
    go_wp2
    go_ret
    exact ⟨rfl, HB1.out⟩

end Go.Proofs.YtfpdcfomfikkiaaGreatDoor
