/-
  OrderCompares: any two byte slices are in the document's order, and what is above all that begin so is the document's. Conditions: none.
-/
import Derived.Test.YtlonbkkalnobeaaRows
import Derived.Test.YtlonbkkalnobeaaCmp
import Derived.Test.YtlonbkkalnobeaaCmpRef
import Derived.Test.YtlonbkkalnobeaaAft
import Derived.Lib.SlBytesConst
set_option linter.unusedVariables false
namespace Go.Proofs.Ytlonbkkalnobeaa
open Go.RowKit

set_option maxHeartbeats 800000 in
theorem lawCompares_small {w : World} {p q : Option Addr} {l m : List UInt8} (hl : Bs w p l) (hm : Bs w q m) (n c k d : Nat) (hn : n = l.length) (hk : k = m.length) (hnc : n ≤ c) (hc : c ≤ 9223372036854775807) (hkd : k ≤ d) (hd : d ≤ 9223372036854775807)
    (hp : p = none → c = 0) (hq : q = none → d = 0) (h1 : n ≤ 3000) (h2 : k ≤ 3000) :
    Calls Try.prog 5 #[.slice p n c, .slice q k d] w fun e w' => e = .returned (.bool true) ∧ Below w.heap.size w w' := by
  have kc := fun (w : World) (C : Array Value) (n c : Nat) => Lib.run_convert_bytes_const (P := Try.prog) w 22 5 C n c Try.underlying22 Try.underlying5
  have HN := Lib.hid hn
  have HK := Lib.hid hk
  have HP := Lib.hid hp
  have HQ := Lib.hid hq
  have HL := Lib.hid hl
  have HM := Lib.hid hm
  clear hn hk hp hq hl hm
  go_enter Try.func5, Try.ntmps5
  go_wp2_with fail
  refine (after_any HL.out n c HN.out hnc hc (by have := HN.out; omega)).mono ?_
  rintro e w1 ⟨v1, rfl, ho1, hb1⟩
  have HO1 := Lib.hid ho1
  have HB1 := Lib.hid hb1
  clear ho1 hb1
  go_wp2_with fail
  refine (refAfter_any (HL.out.below HB1.out) n c HN.out hnc hc (by have := HN.out; omega)).mono ?_
  rintro e w2 ⟨v2, rfl, ho2, hb2⟩
  have HO2 := Lib.hid ho2
  have HB2 := Lib.hid (HB1.out.trans (hb2.mono HB1.out.size))
  have HO3 := Lib.hid (HO1.out.below hb2)
  clear ho2 hb2
  go_wp2_with fail
  refine (compare_any (HL.out.below HB2.out) (HM.out.below HB2.out) n c k d HN.out HK.out HP.out HQ.out).mono ?_
  rintro e w' ⟨rfl, rfl⟩
  go_wp2_with fail
  refine (refCompare_any (HL.out.below HB2.out) (HM.out.below HB2.out) n c k d HN.out HK.out (by omega) (by omega)).mono ?_
  rintro e w3 ⟨rfl, hb3⟩
  obtain ⟨p1, c1, rfl, _, _, hbs1, _⟩ := (HO3.out.below hb3).form rfl
  obtain ⟨p2, c2, rfl, _, _, hbs2, _⟩ := (HO2.out.below hb3).form rfl
  have e1 := str_of hbs1 (c := c1) rfl
  have e2 := str_of hbs2 (c := c2) rfl
  have kc2 := Joins.run_convert_bytes_const_at (P := Try.prog) (w3.alloc (.cells #[.int .u8 97] 5 (1, 2))) 22 5 #[.int .u8 98] 1 1 (w3.heap.size + 1) (by simp) Try.underlying22 Try.underlying5
  have HB3 := Lib.hid (HB2.out.trans (hb3.mono HB2.out.size))
  clear hbs1 hbs2 hb3
  go_wp2_with fail
  refine (compare_any (l := [97]) (m := [98]) ((Bs.new w3 _ _ _ rfl rfl).alloc _) (Bs.new _ _ _ _ (by simp) rfl) 1 1 1 1 rfl rfl (fun h => by cases h) (fun h => by cases h)).mono ?_
  rintro e w' ⟨rfl, rfl⟩
  go_wp2
  go_ret
  refine ⟨rfl, (HB3.out.alloc HB3.out.size _).alloc ?_ _⟩
  have := HB3.out.size
  simp
  omega

set_option maxHeartbeats 400000 in
theorem lawCompares_any {w : World} {p q : Option Addr} {l m : List UInt8} (hl : Bs w p l) (hm : Bs w q m) (n c k d : Nat) (hn : n = l.length) (hk : k = m.length) (hnc : n ≤ c) (hc : c ≤ 9223372036854775807) (hkd : k ≤ d) (hd : d ≤ 9223372036854775807)
    (hp : p = none → c = 0) (hq : q = none → d = 0) :
    Calls Try.prog 5 #[.slice p n c, .slice q k d] w fun e w' => e = .returned (.bool true) ∧ Below w.heap.size w w' := by
  by_cases h1 : n ≤ 3000
  · by_cases h2 : k ≤ 3000
    · exact lawCompares_small hl hm n c k d hn hk hnc hc hkd hd hp hq h1 h2
    · have h3 : (3000 : Int) < k := by omega
      clear hl hm hn hk hp hq
      go_enter Try.func5, Try.ntmps5
      go_wp2
      go_ret
      exact ⟨rfl, Below.refl _ _⟩
  · have h3 : (3000 : Int) < n := by omega
    clear hl hm hn hk hp hq
    go_enter Try.func5, Try.ntmps5
    go_wp2
    go_ret
    exact ⟨rfl, Below.refl _ _⟩

end Go.Proofs.Ytlonbkkalnobeaa
