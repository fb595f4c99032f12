/-
  OrderAfter's walk: what is above all that begin so is above each that does, and below or like each that is above them all.
-/
import Derived.Test.YtlonbkkalnobeaaRows
import Derived.Test.YtlonbkkalnobeaaCmp
import Derived.Test.YtlonbkkalnobeaaAft
import Derived.StillTactics
import Derived.Deep.QuietTactic
import Derived.BigQuiet
set_option linter.unusedVariables false
namespace Go.Proofs.Ytlonbkkalnobeaa
open Go.RowKit

set_option maxHeartbeats 800000 in
theorem lawAfter_yes {w : World} {p q r : Option Addr} {l m x : List UInt8} (hl : Bs w p l) (hm : Bs w q m) (hx : Bs w r x) (n c k d i t : Nat) (hn : n = l.length) (hk : k = m.length) (hi : i = x.length)
    (hnc : n ≤ c) (hc : c ≤ 9223372036854775807) (hp : p = none → c = 0) (hq : q = none → d = 0) (hr : r = none → t = 0) (hit : i ≤ t) (ht : t ≤ 9223372036854775807) (hsum : n + k + i ≤ 3000) (hok : aftOk l = true) :
    Calls Try.prog 9 #[.slice p n c, .slice q k d, .slice r i t] w fun e w' => e = .returned (.bool true) ∧ Below w.heap.size w w' := by
  have HN := Lib.hid hn
  have HK := Lib.hid hk
  have HI := Lib.hid hi
  have HP := Lib.hid hp
  have HQ := Lib.hid hq
  have HR := Lib.hid hr
  have HL := Lib.hid hl
  have HM := Lib.hid hm
  have HX := Lib.hid hx
  have HK1 := Lib.hid hok
  have HA := Lib.hid (aft_length hok)
  clear hn hk hi hp hq hr hl hm hx hok
  go_enter Try.func9, Try.ntmps9
  go_wp2_with fail
  refine (after_any HL.out n c HN.out hnc hc (by have := HN.out; omega)).mono ?_
  rintro e w1 ⟨v1, rfl, ho1, hb1⟩
  have hok := HK1.out
  have HO1 := Lib.hid ho1
  have HB1 := Lib.hid hb1
  rw [hok]
  clear ho1 hb1 hok
  go_wp2_with (first
    | (at_builtin; refine app_own rfl (.tmp 28) (.tmp 29) rfl rfl (Own.empty w1 w1.heap.size (Nat.le_refl _)) HN.out rfl ((HL.out.below HB1.out).alloc _) HP.out (by have := HN.out; simp; omega) (by simp) ?_; intro v2 w2 ho2 hb2; have HO2 := Lib.hid ho2; have HB2 := Lib.hid ((Below.alloc (Below.refl w1.heap.size w1) (Nat.le_refl _) _).trans hb2); clear ho2 hb2)
    | (at_builtin; refine app_own rfl (.tmp 30) (.tmp 31) rfl rfl HO2.out HK.out rfl ((HM.out.below HB1.out).below HB2.out) HQ.out (by have := HN.out; have := HK.out; simp; omega) HB2.out.size ?_; intro v3 w3 ho3 hb3; have HO3 := Lib.hid ho3; have HB3 := Lib.hid (HB2.out.trans hb3); clear ho3 hb3 HO2))
  have hb3 := HB3.out
  obtain ⟨p3, c3, rfl, _, _, hbs3, hp3⟩ := HO3.out.form (n := n + k) (by have := HN.out; have := HK.out; simp; omega)
  obtain ⟨p1, c1, rfl, hc1, hc1', hbs1, hp1⟩ := (HO1.out.below HB3.out).form rfl
  have hcm := compare_any hbs3 hbs1 (n + k) c3 _ c1 (by have := HN.out; have := HK.out; simp; omega) rfl hp3 hp1
  have hab := aft_above m HK1.out
  rw [List.nil_append, hab] at hcm
  have HC := Lib.hid hcm
  have HS1 := Lib.hid hbs1
  have HP1 := Lib.hid hp1
  clear hcm hbs3 hbs1 hp1 hp3 hab hb3
  refine HC.out.mono ?_
  rintro e w' ⟨rfl, rfl⟩
  have ha1 : (((aft l).length : Int) == 0) = false := by have := HA.out.1; rw [beq_eq_false_iff_ne]; omega
  have ha2 : ((aft l).length : Int) ≤ (n : Int) := by have := HA.out.2; have := HN.out; omega
  go_wp2_with fail
  have hxs : ∀ j, Bs (w3.drew) r (x.take j) := fun j => (((HX.out.below HB1.out).below HB3.out).drew).take j
  have ep := str_of (((HL.out.below HB1.out).below HB3.out).drew) (c := c) HN.out
  by_cases hni : n ≤ i
  · have ex := str_of (hxs n) (n := n) (c := t) (by have := HI.out; simp; omega)
    have hnt : n ≤ t := by omega
    by_cases hb : x.take n = l
    · rw [hb] at ex
      have hni' : (n : Int) ≤ (i : Int) := by omega
      clear hb hxs
      go_still (by kernel_rfl)
      change Exit.then _ _ _ _ w3.drew
      have HE := Lib.hid (belowN (HB1.out.trans (HB3.out.mono HB1.out.size)) 1)
      clear ex ep
      go_wp2
      go_ret
      exact ⟨rfl, HE.out⟩
    · have hne : (x.take n == l) = false := by rw [beq_eq_false_iff_ne]; exact hb
      have hni' : (n : Int) ≤ (i : Int) := by omega
      have HNB : Hid (¬ (l.length ≤ x.length ∧ x.take l.length = l)) := fun h => hb (by rw [HN.out]; exact h.2)
      clear hxs
      go_still (by kernel_rfl)
      change Exit.then _ _ _ _ w3.drew
      have HE := Lib.hid (belowN (HB1.out.trans (HB3.out.mono HB1.out.size)) 1)
      clear ex ep hne hb
      go_wp2_with fail
      refine (compare_any (((HX.out.below HB1.out).below HB3.out).drew) (((HL.out.below HB1.out).below HB3.out).drew) i t n c HI.out HN.out HR.out HP.out).mono ?_
      rintro e w' ⟨rfl, rfl⟩
      by_cases hcl : Lib.compareBytes x l < 0
      · go_wp2
        go_ret
        exact ⟨rfl, HE.out⟩
      · have HL2 := Lib.hid (aft_least HK1.out (by omega) HNB.out)
        go_wp2_with fail
        refine (compare_any (((HX.out.below HB1.out).below HB3.out).drew) HS1.out.drew i t _ c1 HI.out rfl HR.out HP1.out).mono ?_
        rintro e w' ⟨rfl, rfl⟩
        have hge := HL2.out
        go_wp2
        go_ret
        exact ⟨rfl, HE.out⟩
  · have hni' : (i : Int) < (n : Int) := by omega
    have HNB : Hid (¬ (l.length ≤ x.length ∧ x.take l.length = l)) := fun h => by have := HN.out; have := HI.out; have := h.1; omega
    clear hxs ep
    go_quiet (fail)
    have HE := Lib.hid (belowN (HB1.out.trans (HB3.out.mono HB1.out.size)) nq)
    go_wp2_with fail
    refine (compare_any (((HX.out.below HB1.out).below HB3.out).drewN nq) (((HL.out.below HB1.out).below HB3.out).drewN nq) i t n c HI.out HN.out HR.out HP.out).mono ?_
    rintro e w' ⟨rfl, rfl⟩
    by_cases hcl : Lib.compareBytes x l < 0
    · go_wp2
      go_ret
      exact ⟨rfl, HE.out⟩
    · have HL2 := Lib.hid (aft_least HK1.out (by omega) HNB.out)
      go_wp2_with fail
      refine (compare_any (((HX.out.below HB1.out).below HB3.out).drewN nq) (HS1.out.drewN nq) i t _ c1 HI.out rfl HR.out HP1.out).mono ?_
      rintro e w' ⟨rfl, rfl⟩
      have hge := HL2.out
      go_wp2
      go_ret
      exact ⟨rfl, HE.out⟩

set_option maxHeartbeats 800000 in
theorem lawAfter_no {w : World} {p q r : Option Addr} {l m x : List UInt8} (hl : Bs w p l) (hm : Bs w q m) (hx : Bs w r x) (n c k d i t : Nat) (hn : n = l.length) (hk : k = m.length) (hi : i = x.length)
    (hnc : n ≤ c) (hc : c ≤ 9223372036854775807) (hp : p = none → c = 0) (hq : q = none → d = 0) (hr : r = none → t = 0) (hit : i ≤ t) (ht : t ≤ 9223372036854775807) (hsum : n + k + i ≤ 3000) (hok : aftOk l = false) :
    Calls Try.prog 9 #[.slice p n c, .slice q k d, .slice r i t] w fun e w' => e = .returned (.bool true) ∧ Below w.heap.size w w' := by
  have HN := Lib.hid hn
  have HK := Lib.hid hk
  have HI := Lib.hid hi
  have HP := Lib.hid hp
  have HQ := Lib.hid hq
  have HR := Lib.hid hr
  have HL := Lib.hid hl
  have HM := Lib.hid hm
  have HX := Lib.hid hx
  have HK1 := Lib.hid hok
  clear hn hk hi hp hq hr hl hm hx hok
  go_enter Try.func9, Try.ntmps9
  go_wp2_with fail
  refine (after_any HL.out n c HN.out hnc hc (by have := HN.out; omega)).mono ?_
  rintro e w1 ⟨v1, rfl, ho1, hb1⟩
  have hok := HK1.out
  have HO1 := Lib.hid ho1
  have HB1 := Lib.hid hb1
  rw [hok]
  clear ho1 hb1 hok
  go_wp2_with (first
    | (at_builtin; refine app_own rfl (.tmp 28) (.tmp 29) rfl rfl (Own.empty w1 w1.heap.size (Nat.le_refl _)) HN.out rfl ((HL.out.below HB1.out).alloc _) HP.out (by have := HN.out; simp; omega) (by simp) ?_; intro v2 w2 ho2 hb2; have HO2 := Lib.hid ho2; have HB2 := Lib.hid ((Below.alloc (Below.refl w1.heap.size w1) (Nat.le_refl _) _).trans hb2); clear ho2 hb2)
    | (at_builtin; refine app_own rfl (.tmp 30) (.tmp 31) rfl rfl HO2.out HK.out rfl ((HM.out.below HB1.out).below HB2.out) HQ.out (by have := HN.out; have := HK.out; simp; omega) HB2.out.size ?_; intro v3 w3 ho3 hb3; have HO3 := Lib.hid ho3; have HB3 := Lib.hid (HB2.out.trans hb3); clear ho3 hb3 HO2))
  refine (after_any (l := [97, 255]) (Bs.new w3 _ _ _ rfl rfl) 2 2 rfl (by omega) (by omega) (by simp)).mono ?_
  rintro e w4 ⟨v4, rfl, ho4, hb4⟩
  rw [show aftOk [97, 255] = true from rfl]
  rw [show aft [97, 255] = [98] from rfl] at ho4
  have HB4 := Lib.hid ((HB1.out.trans (HB3.out.mono HB1.out.size)).trans (((Below.alloc (Below.refl w3.heap.size w3) (Nat.le_refl _) _).trans (hb4.mono (by simp))).mono (Nat.le_trans HB1.out.size HB3.out.size)))
  obtain ⟨p4, c4, rfl, _, _, hbs4, _⟩ := ho4.form (n := 1) rfl
  have e4 := str_of hbs4 (n := 1) (c := c4) rfl
  have HL4 := Lib.hid (HL.out.below HB4.out)
  clear ho4 hb4 hbs4
  go_wp2
  go_loop [12] (fun i => ∃ j : Nat, i = .int .i64 j ∧ j ≤ n) (fun i => n - (intOf i).toNat)
  case atStart => exact ⟨0, rfl, by omega⟩
  case round =>
    obtain ⟨j, rfl, hj⟩ := hrel
    by_cases hjn : j < n
    · obtain ⟨b, o, rfl, _, hcells⟩ := HL4.out.at (by have := HN.out; omega)
      have hx1 := hcells j (by have := HN.out; omega)
      rw [aft_none_ff HK1.out (by have := HN.out; omega)] at hx1
      clear hcells
      go_wp2
      go_round
      case rel => exact ⟨j + 1, by go_num, by omega⟩
      case measure => simp [intOf]; omega
    · have hjn' : (n : Int) ≤ (j : Int) := by omega
      go_wp2
      go_ret
      exact ⟨rfl, HB4.out⟩

set_option maxHeartbeats 400000 in
theorem lawAfter_any {w : World} {p q r : Option Addr} {l m x : List UInt8} (hl : Bs w p l) (hm : Bs w q m) (hx : Bs w r x) (n c k d i t : Nat) (hn : n = l.length) (hk : k = m.length) (hi : i = x.length)
    (hnc : n ≤ c) (hc : c ≤ 9223372036854775807) (hp : p = none → c = 0) (hq : q = none → d = 0) (hr : r = none → t = 0) (hit : i ≤ t) (ht : t ≤ 9223372036854775807) (hbig : n + k + i ≤ 9223372036854775807) :
    Calls Try.prog 9 #[.slice p n c, .slice q k d, .slice r i t] w fun e w' => e = .returned (.bool true) ∧ Below w.heap.size w w' := by
  by_cases h1 : n + k + i ≤ 3000
  · cases hok : aftOk l with
    | true => exact lawAfter_yes hl hm hx n c k d i t hn hk hi hnc hc hp hq hr hit ht h1 hok
    | false => exact lawAfter_no hl hm hx n c k d i t hn hk hi hnc hc hp hq hr hit ht h1 hok
  · have h3 : (3000 : Int) < (n : Int) + (k : Int) + (i : Int) := by omega
    clear hl hm hx hn hk hi hp hq hr
    go_enter Try.func9, Try.ntmps9
    go_wp2
    go_ret
    exact ⟨rfl, Below.refl _ _⟩

end Go.Proofs.Ytlonbkkalnobeaa
