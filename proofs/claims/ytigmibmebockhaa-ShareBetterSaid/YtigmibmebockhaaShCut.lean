/-
  Package share: Cut: its contract.
-/
import Derived.Test.YtigmibmebockhaaShSum
import Derived.Lib.SmallJoins
set_option linter.unusedVariables false
set_option maxRecDepth 100000
namespace Go.Proofs.Ytigmibmebockhaa
open Go.RowKit

def shGap (x y : Int) : Int := if x ≤ y then y - x else x - y
def shIn (x y most : Int) : Bool := decide (x ≤ most ∧ y ≤ most)
theorem shGap_is (l : List Int) (k : Nat) : shGap (shP l k) (shQ l k) = shG l k := rfl
theorem shIn_is (l : List Int) (most : Int) (k : Nat) : shIn (shP l k) (shQ l k) most = true ↔ ShFit l most k := by
  unfold shIn ShFit
  exact decide_eq_true_iff
def ApPost (w : World) (a b most : Int) (e : Ending) (w' : World) : Prop := e = .returned (.tuple #[.int .i64 (shGap a b), .bool (shIn a b most)]) ∧ Below w.heap.size w w'

set_option maxHeartbeats 800000 in
theorem apart_any {w : World} {A M : Nat} {a all most : Int} (hA : w.cell? ⟨A, 0, none⟩ = some (.int .i64 all)) (hM : w.cell? ⟨M, 0, none⟩ = some (.int .i64 most)) (ha : 0 ≤ a ∧ a ≤ 8589934592) (hall : 0 ≤ all ∧ all ≤ 8589934592) :
    Calls Try.prog 34 #[.int .i64 a, .pointer (some ⟨A, 0, none⟩), .pointer (some ⟨M, 0, none⟩)] w (ApPost w a (all - a) most) := by
  obtain ⟨ha1, ha2⟩ := ha
  obtain ⟨hb1, hb2⟩ := hall
  have hd : Hid (∀ v b, v = shGap a (all - a) → b = shIn a (all - a) most → ApPost w a (all - a) most (.returned (.tuple #[.int .i64 v, .bool b])) w.drew) := Lib.hid fun v b h1 h2 => by
    subst h1 h2
    exact ⟨rfl, (Below.refl _ _).drew⟩
  have hg : Hid (shGap a (all - a) = if a ≤ all - a then all - a - a else a - (all - a)) := Lib.hid rfl
  have hi : Hid (shIn a (all - a) most = decide (a ≤ most ∧ all - a ≤ most)) := Lib.hid rfl
  go_enter Try.func34, Try.ntmps34
  go_wp2
  go_region
  all_goals go_wp2
  all_goals
    go_ret2
    refine hd.out _ _ ?_ ?_
    · rw [hg.out]
      split <;> omega
    · rw [hi.out]
      exact decide_eq_decide.2 (by omega)

/-- What Cut answers. -/
def CutPost (w : World) (l : List Int) (most : Int) (e : Ending) (w' : World) : Prop := ∃ (b : Nat) (f : Bool), e = .returned (.tuple #[.int .i64 (b : Int), .bool f]) ∧ ShCut l most b f ∧ Below w.heap.size w w'

theorem alloc_old {w : World} {R : Nat} {x : Obj} (h : w.heap[R]? = some x) (o : Obj) : (w.alloc o).heap[R]? = some x := by
  rw [Below.heap_alloc _ _ _ (Array.getElem?_eq_some_iff.1 h).1]
  exact h
theorem ks_two {w : World} (x y : Int) : KsOk (w.alloc (.cells #[.int .i64 x, .int .i64 y] 3)) (some ⟨w.heap.size, 0, none⟩) 2 2 [x, y] := by
  refine ⟨rfl, Nat.le_refl _, by omega, fun _ => ⟨w.heap.size, 0, rfl, fun i z hz => ?_⟩⟩
  match i, hz with
  | 0, hz => cases hz; exact Joins.cell_of_block (heap_alloc_new w _) 0
  | 1, hz => cases hz; exact Joins.cell_of_block (heap_alloc_new w _) 1

set_option maxHeartbeats 1600000 in
theorem cut_any {w : World} {q : Option Addr} {m c : Nat} {l : List Int} (h : KsOk w q m c l) (most : Int) :
    Calls Try.prog 17 #[.slice q m c, .int .i64 most] w (CutPost w l most) := by
  have hmf : ∀ (fn : Fn) (first cap : Array Value) (w : World), (Instr.makeFunc fn first cap).run Try.prog w = .ok (.func fn first cap) w := fun _ _ _ _ => rfl
  have eg : ∀ args (w : World), (callFunc 34 args).run Try.prog w = .ok (.enter 34 args) w := fun _ _ => rfl
  have hb0 : Below w.heap.size w (w.alloc (.cells #[.int .i64 most] 3)) := (Below.refl _ _).alloc (Nat.le_refl _) _
  have HB0 := Lib.hid hb0
  have HR := Lib.hid (sright_any (h.below hb0))
  have HBAD : Hid (∀ w', (most < 0 ∨ ¬ shRight l) → Below w.heap.size w w' → CutPost w l most (.returned (.tuple #[.int .i64 0, .bool false])) w') := Lib.hid fun w' h1 h2 => ⟨0, false, rfl, ⟨fun h3 => by rcases h1 with h1 | h1; omega; exact absurd h3.2 h1, fun _ => ⟨rfl, rfl⟩⟩, h2⟩
  have HK := Lib.hid h
  obtain ⟨rfl, hc1, hc2, hk⟩ := h
  clear hk hb0
  by_cases h0 : most < 0
  · have e0 : decide (most < 0) = true := decide_eq_true h0
    go_enter Try.func17, Try.ntmps17
    go_wp2
    go_ret2
    exact HBAD.out _ (.inl h0) HB0.out
  · have e0 : decide (most < 0) = false := decide_eq_false h0
    go_enter Try.func17, Try.ntmps17
    go_wp2_with fail
    refine HR.out.mono ?_
    rintro e w1 ⟨⟨r, rfl, hr⟩, rfl⟩
    cases r
    · have hnr : ¬ shRight l := fun h => by have := hr.2 h; cases this
      have HNR := Lib.hid hnr
      clear hr hnr
      go_wp2
      go_ret2
      exact HBAD.out _ (.inr HNR.out) HB0.out
    · have hrr := hr.1 rfl
      clear hr HBAD
      obtain ⟨hl, hall⟩ := hrr
      have hall8 : ∀ x ∈ l, 0 ≤ x ∧ x ≤ 8589934592 := fun x hx => by have := hall x hx; omega
      have HS := Lib.hid (ssum_any (HK.out.below HB0.out) hall8 hl)
      have HALL := Lib.hid hall
      have hsum := sum_bounds hall
      have hsl : ∀ k, 0 ≤ shP l k ∧ shP l k ≤ 4294967296 := fun k => by have := shP_bounds hall (by omega) k; omega
      have HSL := Lib.hid hsl
      have hall' : 0 ≤ l.sum ∧ l.sum ≤ 8589934592 := by omega
      have HSUM := Lib.hid hall'
      obtain ⟨all, hal⟩ : ∃ all, all = l.sum := ⟨_, rfl⟩
      have HAL := Lib.hid hal
      rw [← hal] at HS HSUM
      clear hall hall8 hsum hall' hsl hal
      go_wp2_with fail
      refine HS.out.mono ?_
      rintro e w1 ⟨rfl, rfl⟩
      clear HS
      go_wp2
      obtain ⟨W2, hW2⟩ : ∃ W2, W2 = (w.alloc (.cells #[.int .i64 most] 3)).alloc (.cells #[.int .i64 all] 3) := ⟨_, rfl⟩
      have HB2 : Hid (Below w.heap.size w W2) := Lib.hid (by rw [hW2]; exact HB0.out.alloc HB0.out.size _)
      have HC2 : Hid (∀ w', Below W2.heap.size W2 w' → w'.cell? ⟨w.heap.size, 0, none⟩ = some (.int .i64 most) ∧ w'.cell? ⟨w.heap.size + 1, 0, none⟩ = some (.int .i64 all)) := Lib.hid fun w' hb => by
        have e1 : W2.cell? ⟨w.heap.size, 0, none⟩ = some (.int .i64 most) := by
          rw [hW2]
          exact Joins.cell_of_block (alloc_old (heap_alloc_new w _) _) 0
        have e2 : W2.cell? ⟨w.heap.size + 1, 0, none⟩ = some (.int .i64 all) := by
          rw [hW2]
          have h := heap_alloc_new (w.alloc (.cells #[.int .i64 most] 3)) (.cells #[.int .i64 all] 3)
          rw [show (w.alloc (.cells #[.int .i64 most] 3)).heap.size = w.heap.size + 1 by simp] at h
          exact Joins.cell_of_block h 0
        have h1 : w.heap.size < W2.heap.size := World.block_lt_of_cell? _ _ e1
        have h2 : w.heap.size + 1 < W2.heap.size := World.block_lt_of_cell? _ _ e2
        exact ⟨(hb.cell h1).trans e1, (hb.cell h2).trans e2⟩
      rw [← hW2]
      clear hW2 HB0 HR
      go_loopw [8, 9, 10, 11, 12] (fun x8 x9 x10 x11 x12 wr => ∃ (k b : Nat) (d : Int) (f : Bool), x12 = .int .i64 ((k + 1 : Nat) : Int) ∧ x11 = .int .i64 (shP l k) ∧ x8 = .int .i64 (b : Int) ∧ x9 = .int .i64 d ∧ x10 = .bool f ∧ (k = 0 ∨ k < l.length) ∧ ShBest l most (k + 1) b d f ∧ Below W2.heap.size W2 wr) (fun _ _ _ _ i _ => l.length + 1 - (intOf i).toNat)
      case atStart => exact ⟨0, 0, 0, false, rfl, by rw [shP_zero], rfl, rfl, rfl, .inl rfl, ShBest.one l most, Below.refl _ _⟩
      case round =>
        obtain ⟨k, b, d, f, rfl, rfl, rfl, rfl, rfl, hk, hbest, hb⟩ := hrel
        have HBEST := Lib.hid hbest
        have HB := Lib.hid hb
        obtain ⟨c0, c1⟩ := HC2.out wr hb
        have HC3 : Hid (∀ w', Below wr.heap.size wr w' → w'.cell? ⟨w.heap.size, 0, none⟩ = some (.int .i64 most) ∧ w'.cell? ⟨w.heap.size + 1, 0, none⟩ = some (.int .i64 all)) := Lib.hid fun w' hb' => HC2.out w' (hb.trans (hb'.mono hb.size))
        have hp := HSL.out k
        have hp' := HSL.out (k + 1)
        by_cases hkl : k + 1 < l.length
        · obtain ⟨x, hx⟩ : ∃ x, l[k]? = some x := ⟨_, List.getElem?_eq_getElem (by omega)⟩
          obtain ⟨bx, ox, hq, hcell⟩ := ((HK.out.hl.below HB2.out).below hb).at hx
          have hs := shP_succ hx
          have hx1 := HALL.out x (List.mem_of_getElem? hx)
          have HS3 : Hid (Calls Try.prog 33 #[.slice (some ⟨wr.heap.size, 0, none⟩) 2 2] (wr.alloc (.cells #[.int .i64 (shP l k), .int .i64 x] 3)) fun e w' => e = .returned (.int .i64 (shP l (k + 1))) ∧ w' = wr.alloc (.cells #[.int .i64 (shP l k), .int .i64 x] 3)) := Lib.hid (by
            have h1 := ssum_any (ks_two (w := wr) (shP l k) x) (by intro y hy; simp at hy; rcases hy with rfl | rfl <;> omega) (by simp)
            have h2 : [shP l k, x].sum = shP l (k + 1) := by simp [hs]
            rw [h2] at h1
            exact h1)
          have HA3 : Hid (Calls Try.prog 34 #[.int .i64 (shP l (k + 1)), .pointer (some ⟨w.heap.size + 1, 0, none⟩), .pointer (some ⟨w.heap.size, 0, none⟩)] (wr.alloc (.cells #[.int .i64 (shP l k), .int .i64 x] 3)) (ApPost (wr.alloc (.cells #[.int .i64 (shP l k), .int .i64 x] 3)) (shP l (k + 1)) (shQ l (k + 1)) most)) := Lib.hid (by
            obtain ⟨e1, e2⟩ := HC3.out _ ((Below.refl _ _).alloc (Nat.le_refl _) (.cells #[.int .i64 (shP l k), .int .i64 x] 3))
            have h1 := apart_any e2 e1 (a := shP l (k + 1)) (by omega) HSUM.out
            have h2 : all - shP l (k + 1) = shQ l (k + 1) := by have := shPQ l (k + 1); have := HAL.out; omega
            rw [h2] at h1
            exact h1)
          have HG := Lib.hid (shGap_is l (k + 1))
          have HI := Lib.hid (shIn_is l most (k + 1))
          have HB4 : Hid (Below W2.heap.size W2 (wr.alloc (.cells #[.int .i64 (shP l k), .int .i64 x] 3))) := Lib.hid (HB.out.alloc HB.out.size _)
          subst hq
          clear hs hx hbest hb HALL HSL
          obtain ⟨p1, hp1⟩ : ∃ p1, p1 = shP l (k + 1) := ⟨_, rfl⟩
          have HP1 := Lib.hid hp1
          rw [← hp1] at HS3 HA3 HG HI hp'
          generalize shP l k = p0 at *
          generalize shQ l (k + 1) = q1 at *
          clear hp1
          obtain ⟨g, hg⟩ : ∃ g, g = shGap p1 q1 := ⟨_, rfl⟩
          obtain ⟨fi, hfi⟩ : ∃ fi, fi = shIn p1 q1 most := ⟨_, rfl⟩
          unfold ApPost at HA3
          rw [← hg] at HA3 HG
          rw [← hfi] at HA3 HI
          clear hg hfi
          have hk1 : (((k + 1 : Nat) : Int)) = (k : Int) + 1 := by omega
          go_wp2_with fail
          refine HS3.out.mono ?_
          rintro e w3 ⟨rfl, rfl⟩
          go_wp2_with fail
          refine HA3.out.mono ?_
          rintro e w3 ⟨rfl, hb3⟩
          have HBN : Hid (Below W2.heap.size W2 w3) := Lib.hid (HB4.out.trans (hb3.mono HB4.out.size))
          clear hb3 HB4
          cases fi
          · have HN : Hid (ShBest l most (k + 1 + 1) b d f) := Lib.hid (HBEST.out.skip (.inl fun h => by have := HI.out.2 h; cases this))
            go_wp2
            go_roundw
            case rel => exact ⟨k + 1, b, d, f, by go_num, by rw [HP1.out], rfl, rfl, rfl, .inr hkl, HN.out, HBN.out⟩
            case measure => simp [intOf]; omega
          · have hfit := HI.out.1 rfl
            have HF := Lib.hid hfit
            clear hfit HI
            cases f
            · have HN : Hid (ShBest l most (k + 1 + 1) (k + 1) g true) := Lib.hid (by rw [HG.out]; exact HBEST.out.take (by omega) HF.out (.inl rfl))
              go_wp2
              go_roundw
              case rel => exact ⟨k + 1, k + 1, g, true, by go_num, by rw [HP1.out], by go_num, rfl, rfl, .inr hkl, HN.out, HBN.out⟩
              case measure => simp [intOf]; omega
            · by_cases hgd : g < d
              · have e9 : decide (g < d) = true := decide_eq_true hgd
                have HN : Hid (ShBest l most (k + 1 + 1) (k + 1) g true) := Lib.hid (by rw [HG.out]; exact HBEST.out.take (by omega) HF.out (.inr (by rw [← HG.out]; exact hgd)))
                go_wp2
                go_roundw
                case rel => exact ⟨k + 1, k + 1, g, true, by go_num, by rw [HP1.out], by go_num, rfl, rfl, .inr hkl, HN.out, HBN.out⟩
                case measure => simp [intOf]; omega
              · have e9 : decide (g < d) = false := decide_eq_false hgd
                have HN : Hid (ShBest l most (k + 1 + 1) b d true) := Lib.hid (HBEST.out.skip (.inr ⟨rfl, by rw [← HG.out]; omega⟩))
                go_wp2
                go_roundw
                case rel => exact ⟨k + 1, b, d, true, by go_num, by rw [HP1.out], rfl, rfl, rfl, .inr hkl, HN.out, HBN.out⟩
                case measure => simp [intOf]; omega
        · have HEND : Hid (CutPost w l most (.returned (.tuple #[.int .i64 (b : Int), .bool f])) wr) := Lib.hid (by
            refine ⟨b, f, rfl, ⟨fun _ => ⟨d, ?_⟩, fun h => absurd ⟨h0, hl, HALL.out⟩ h⟩, HB2.out.trans (HB.out.mono HB2.out.size)⟩
            have h1 := HBEST.out
            rcases hk with rfl | hk
            · rcases Nat.eq_zero_or_pos l.length with h2 | h2
              · rw [h2]; exact h1.zero
              · obtain h3 : l.length = 1 := by omega
                rw [h3]; exact h1
            · obtain h3 : l.length = k + 1 := by omega
              rw [h3]; exact h1)
          generalize shP l k = p0 at *
          clear hbest hb HALL HSL
          have hk1 : (((k + 1 : Nat) : Int)) = (k : Int) + 1 := by omega
          go_wp2
          go_ret2
          exact HEND.out

end Go.Proofs.Ytigmibmebockhaa
