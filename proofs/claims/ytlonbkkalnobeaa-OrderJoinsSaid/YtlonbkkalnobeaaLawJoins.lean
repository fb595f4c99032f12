/-
  OrderJoins' walk: of pairs of texts, put one behind the other, the order is that of the first ones, and, where these are the same, of the second ones.
-/
import Derived.Test.YtlonbkkalnobeaaRows
import Derived.Test.YtlonbkkalnobeaaPText
import Derived.Test.YtlonbkkalnobeaaCmp
import Derived.Test.YtlonbkkalnobeaaOrd
import Derived.Deep.RegionHeld3
import Derived.Laws.StructEq
set_option linter.unusedVariables false
namespace Go.Proofs.Ytlonbkkalnobeaa
open Go.RowKit

/-- == on two arrays of two texts. -/
theorem eqPair (a b c d : List UInt8) (w : World) : (Op.equalIn 10000 42 (.agg #[.string ⟨a.toArray⟩, .string ⟨b.toArray⟩]) (.agg #[.string ⟨c.toArray⟩, .string ⟨d.toArray⟩])).run Try.prog w = .ok (a == c && b == d) w := by
  rw [show (10000 : Nat) = 9999 + 1 from rfl, Op.equalIn]
  simp only [Sem.run_bind, run_underlying Try.underlying42, Result.andThen_ok]
  simp only [Std.Legacy.Range.forIn_eq_forIn_range', Std.Legacy.Range.size, Nat.sub_zero, Nat.add_sub_cancel, Nat.div_one, List.range'_succ, List.range'_zero, List.forIn_cons, List.forIn_nil]
  go_simp
  by_cases h1 : a = c <;> by_cases h2 : b = d <;> simp [h1, h2]

set_option maxHeartbeats 1600000 in
theorem lawJoins_small {w : World} (a0 a1 b0 b1 : List UInt8) (hsum : a0.length + a1.length + b0.length + b1.length ≤ 3000) :
    Calls Try.prog 10 #[.agg #[.string ⟨a0.toArray⟩, .string ⟨a1.toArray⟩], .agg #[.string ⟨b0.toArray⟩, .string ⟨b1.toArray⟩]] w fun e w' => e = .returned (.bool true) ∧ Below w.heap.size w w' := by
  have hadd : ((a0.length : Int) + (a1.length : Int) + (b0.length : Int) + (b1.length : Int)) ≤ 3000 := by omega
  have q0 : a0.length ≤ 3000 := by omega
  have q1 : a1.length ≤ 3000 := by omega
  have q2 : b0.length ≤ 3000 := by omega
  have q3 : b1.length ≤ 3000 := by omega
  clear hsum
  go_enter Try.func10, Try.ntmps10
  go_wp2_with fail
  obtain ⟨hx1, hx2, hx3, hx4⟩ := boxes w #[.string ⟨a0.toArray⟩, .string ⟨a1.toArray⟩] #[.string ⟨b0.toArray⟩, .string ⟨b1.toArray⟩] 42 42
  generalize (w.alloc (.cells #[.string ⟨a0.toArray⟩, .string ⟨a1.toArray⟩] 42)).alloc (.cells #[.string ⟨b0.toArray⟩, .string ⟨b1.toArray⟩] 42) = W at hx1 hx2 hx3 hx4 ⊢
  have HW := Lib.hid hx3
  have hkeep : ∀ w', Below W.heap.size W w' → w'.cell? ⟨w.heap.size, 0, none⟩ = some (.string ⟨a0.toArray⟩) ∧ w'.cell? ⟨w.heap.size, 1, none⟩ = some (.string ⟨a1.toArray⟩) ∧ w'.cell? ⟨w.heap.size + 1, 0, none⟩ = some (.string ⟨b0.toArray⟩) ∧ w'.cell? ⟨w.heap.size + 1, 1, none⟩ = some (.string ⟨b1.toArray⟩) := by
    intro w' hb
    have e1 : w'.heap[w.heap.size]? = W.heap[w.heap.size]? := hb.block _ (by omega)
    have e2 : w'.heap[w.heap.size + 1]? = W.heap[w.heap.size + 1]? := hb.block _ (by omega)
    rw [hx1] at e1
    rw [hx2] at e2
    exact ⟨Joins.cell_of_block e1 0, Joins.cell_of_block e1 1, Joins.cell_of_block e2 0, Joins.cell_of_block e2 1⟩
  have HK := Lib.hid hkeep
  have HSZ := Lib.hid hx4
  clear hx1 hx2 hx3 hx4 hkeep
  obtain ⟨N, hN⟩ : ∃ N, w.heap.size = N := ⟨_, rfl⟩
  have HN := Lib.hid hN
  have HKN := HK
  rw [hN] at HKN ⊢
  clear hN HK
  obtain ⟨n0, hn0⟩ : ∃ n, n = (txt a0).length := ⟨_, rfl⟩
  obtain ⟨m0, hm0⟩ : ∃ n, n = (txt b0).length := ⟨_, rfl⟩
  have hn1 : (txt a0).length ≤ 10000 := by have h1 := txt_length a0; have h2 := esc_length a0; omega
  have hm1 : (txt b0).length ≤ 10000 := by have h1 := txt_length b0; have h2 := esc_length b0; omega
  have HN0 := Lib.hid hn0
  have HM0 := Lib.hid hm0
  have HN1 := Lib.hid hn1
  have HM1 := Lib.hid hm1
  clear hn0 hm0 hn1 hm1
  go_region_held3 (fun w' => w'.cell? ⟨N, 0, none⟩ = some (.string ⟨a0.toArray⟩) ∧ w'.cell? ⟨N, 1, none⟩ = some (.string ⟨a1.toArray⟩) ∧ w'.cell? ⟨N + 1, 0, none⟩ = some (.string ⟨b0.toArray⟩) ∧ w'.cell? ⟨N + 1, 1, none⟩ = some (.string ⟨b1.toArray⟩))
    (first | exact HKN.out _ (Below.refl _ _).drew | exact HKN.out _ HB2.out | exact HKN.out _ HB1.out)
    (first
      | (go_at_call_of 13 (Value.slice none 0 0); refine (putText_any (l := []) (Bs.nil _ none) 0 0 rfl (by omega) (by omega) (by simp) ⟨a0.toArray⟩ a0 rfl (by show a0.length ≤ 100000; omega)).mono ?_; rintro e w1 ⟨v1, rfl, ho1, hb1⟩; rw [List.nil_append] at ho1; have HB1 : Hid (Below W.heap.size W w1) := Lib.hid ((Below.refl W.heap.size W).drew.trans hb1); obtain ⟨p1, c1, rfl, hc1, hc1', hs1, _⟩ := ho1.form HN0.out; have HS1 := Lib.hid hs1; clear ho1 hb1 hs1)
      | (go_at_call 13; refine (putText_any HS1.out _ c1 HN0.out hc1 hc1' (by have := HN1.out; omega) ⟨a1.toArray⟩ a1 rfl (by show a1.length ≤ 100000; omega)).mono ?_; rintro e w2 ⟨v2, rfl, ho2, hb2⟩; have HB2 : Hid (Below W.heap.size W w2) := Lib.hid (HB1.out.trans (hb2.mono HB1.out.size)); have HO2 := Lib.hid ho2; clear ho2 hb2))
  go_wp2_with fail
  go_region_held3 (fun w' => w'.cell? ⟨N, 0, none⟩ = some (.string ⟨a0.toArray⟩) ∧ w'.cell? ⟨N, 1, none⟩ = some (.string ⟨a1.toArray⟩) ∧ w'.cell? ⟨N + 1, 0, none⟩ = some (.string ⟨b0.toArray⟩) ∧ w'.cell? ⟨N + 1, 1, none⟩ = some (.string ⟨b1.toArray⟩))
    (first | exact HKN.out _ HB2.out.drew | exact HKN.out _ HB4.out | exact HKN.out _ HB3.out)
    (first
      | (go_at_call_of 13 (Value.slice none 0 0); refine (putText_any (l := []) (Bs.nil _ none) 0 0 rfl (by omega) (by omega) (by simp) ⟨b0.toArray⟩ b0 rfl (by show b0.length ≤ 100000; omega)).mono ?_; rintro e w3 ⟨v1, rfl, ho1, hb1⟩; rw [List.nil_append] at ho1; have HC3 : Hid (Below w2.heap.size w2 w3) := Lib.hid ((Below.refl w2.heap.size w2).drew.trans hb1); have HB3 : Hid (Below W.heap.size W w3) := Lib.hid (HB2.out.trans (HC3.out.mono HB2.out.size)); obtain ⟨p3, c3, rfl, hc3, hc3', hs1, _⟩ := ho1.form HM0.out; have HS3 := Lib.hid hs1; clear ho1 hb1 hs1)
      | (go_at_call 13; refine (putText_any HS3.out _ c3 HM0.out hc3 hc3' (by have := HM1.out; omega) ⟨b1.toArray⟩ b1 rfl (by show b1.length ≤ 100000; omega)).mono ?_; rintro e w4 ⟨v4, rfl, ho2, hb2⟩; have HC4 : Hid (Below w2.heap.size w2 w4) := Lib.hid (HC3.out.trans (hb2.mono HC3.out.size)); have HB4 : Hid (Below W.heap.size W w4) := Lib.hid (HB3.out.trans (hb2.mono HB3.out.size)); have HO4 := Lib.hid ho2; clear ho2 hb2))
  obtain ⟨x, hx⟩ : ∃ x, x = (txt a0 ++ txt a1).length := ⟨_, rfl⟩
  obtain ⟨y, hy⟩ : ∃ y, y = (txt b0 ++ txt b1).length := ⟨_, rfl⟩
  obtain ⟨p5, c5, rfl, _, _, hs5, hp5⟩ := (HO2.out.below HC4.out).form hx
  obtain ⟨p6, c6, rfl, _, _, hs6, hp6⟩ := HO4.out.form hy
  have hcmp := compare_any hs5 hs6 x c5 y c6 hx hy hp5 hp6
  have hx4 : (4 : Int) ≤ (x : Int) := by
    have h1 := txt_length a0
    have h2 := txt_length a1
    rw [List.length_append] at hx
    omega
  have HCMP := Lib.hid hcmp
  have HBW : Hid (Below w.heap.size w w4) := Lib.hid (HW.out.trans (HB4.out.mono HW.out.size))
  obtain ⟨h00, h01, h10, h11⟩ := HKN.out _ HB4.out
  clear hcmp hs5 hs6 hp5 hp6 hx hy
  rcases cmp_three a0 b0 with hc | hc | hc
  · have hne : a0 ≠ b0 := by intro h; subst h; rw [cmp_self] at hc; omega
    have hr := (cmp_txt a0 b0 (txt a1) (txt b1) hne).trans hc
    have HCM := HCMP.out
    rw [hr] at HCM
    have HF := Lib.hid HCM
    have hl0 : Op.bytesLess a0 b0 = true := by rw [less_iff, hc]; rfl
    clear hne hr HCM hc
    go_wp2_with fail
    refine HF.out.mono ?_
    rintro e w' ⟨rfl, rfl⟩
    go_wp2
    go_ret
    exact ⟨rfl, HBW.out⟩
  · obtain rfl := cmp_zero _ _ hc
    have hl0 : Op.bytesLess a0 a0 = false := by rw [less_iff, hc]; rfl
    have hr0 := cmp_common (txt a0) (txt a1) (txt b1)
    rcases cmp_three a1 b1 with hd | hd | hd
    · have hne : a1 ≠ b1 := by intro h; subst h; rw [cmp_self] at hd; omega
      have hr1 := (cmp_txt a1 b1 [] [] hne).trans hd
      rw [List.append_nil, List.append_nil] at hr1
      have HCM := HCMP.out
      rw [hr0, hr1] at HCM
      have HF := Lib.hid HCM
      have hl1 : Op.bytesLess a1 b1 = true := by rw [less_iff, hd]; rfl
      clear hne hr0 hr1 HCM hc hd
      go_wp2_with fail
      refine HF.out.mono ?_
      rintro e w' ⟨rfl, rfl⟩
      go_wp2
      go_ret
      exact ⟨rfl, HBW.out⟩
    · obtain rfl := cmp_zero _ _ hd
      have HCM := HCMP.out
      rw [hr0, cmp_self] at HCM
      have HF := Lib.hid HCM
      have hl1 : Op.bytesLess a1 a1 = false := by rw [less_iff, hd]; rfl
      clear hr0 HCM hc hd
      have heq := fun w => eqPair a0 a1 a0 a1 w
      go_wp2_with fail
      refine HF.out.mono ?_
      rintro e w' ⟨rfl, rfl⟩
      go_wp2
      go_ret
      exact ⟨rfl, HBW.out⟩
    · have hne : a1 ≠ b1 := by intro h; subst h; rw [cmp_self] at hd; omega
      have hr1 := (cmp_txt a1 b1 [] [] hne).trans hd
      rw [List.append_nil, List.append_nil] at hr1
      have HCM := HCMP.out
      rw [hr0, hr1] at HCM
      have HF := Lib.hid HCM
      have hl1 : Op.bytesLess a1 b1 = false := by rw [less_iff, hd]; rfl
      have he1 : (a1 == b1) = false := by rw [beq_eq_false_iff_ne]; exact hne
      have heq := fun w => eqPair a0 a1 a0 b1 w
      clear hne hr0 hr1 HCM hc hd
      go_wp2_with fail
      refine HF.out.mono ?_
      rintro e w' ⟨rfl, rfl⟩
      go_wp2
      go_ret
      exact ⟨rfl, HBW.out⟩
  · have hne : a0 ≠ b0 := by intro h; subst h; rw [cmp_self] at hc; omega
    have hr := (cmp_txt a0 b0 (txt a1) (txt b1) hne).trans hc
    have HCM := HCMP.out
    rw [hr] at HCM
    have HF := Lib.hid HCM
    have hl0 : Op.bytesLess a0 b0 = false := by rw [less_iff, hc]; rfl
    have he0 : (a0 == b0) = false := by rw [beq_eq_false_iff_ne]; exact hne
    have heq := fun w => eqPair a0 a1 b0 b1 w
    clear hne hr HCM hc
    go_wp2_with fail
    refine HF.out.mono ?_
    rintro e w' ⟨rfl, rfl⟩
    go_wp2
    go_ret
    exact ⟨rfl, HBW.out⟩

set_option maxHeartbeats 400000 in
theorem lawJoins_any {w : World} (s0 s1 t0 t1 : ByteArray) (hs0 : s0.size ≤ 140737488355328) (hs1 : s1.size ≤ 140737488355328) (ht0 : t0.size ≤ 140737488355328) (ht1 : t1.size ≤ 140737488355328) :
    Calls Try.prog 10 #[.agg #[.string s0, .string s1], .agg #[.string t0, .string t1]] w fun e w' => e = .returned (.bool true) ∧ Below w.heap.size w w' := by
  by_cases h : s0.size + s1.size + t0.size + t1.size ≤ 3000
  · obtain ⟨⟨a0⟩⟩ := s0
    obtain ⟨⟨a1⟩⟩ := s1
    obtain ⟨⟨b0⟩⟩ := t0
    obtain ⟨⟨b1⟩⟩ := t1
    exact lawJoins_small a0 a1 b0 b1 h
  · have h3 : (3000 : Int) < (s0.size : Int) + (s1.size : Int) + (t0.size : Int) + (t1.size : Int) := by omega
    go_enter Try.func10, Try.ntmps10
    go_wp2
    go_ret
    exact ⟨rfl, (boxes w _ _ _ _).2.2.1⟩

end Go.Proofs.Ytlonbkkalnobeaa
