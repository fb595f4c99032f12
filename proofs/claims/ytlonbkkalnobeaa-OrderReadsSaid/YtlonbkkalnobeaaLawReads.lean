/-
  OrderReads' walk: any bytes are the document's number, and text, or have its error.
-/
import Derived.Test.YtlonbkkalnobeaaRows
import Derived.Test.YtlonbkkalnobeaaRInt
import Derived.Test.YtlonbkkalnobeaaRText
import Derived.Test.YtlonbkkalnobeaaRTextRef
set_option linter.unusedVariables false
namespace Go.Proofs.Ytlonbkkalnobeaa
open Go.RowKit

set_option maxHeartbeats 800000 in
theorem lawReads_small {w : World} {p : Option Addr} {l : List UInt8} (hl : Bs w p l) (n c : Nat) (hn : n = l.length) (hnc : n ≤ c) (hc : c ≤ 9223372036854775807) (hp : p = none → c = 0) (h1 : n ≤ 3000) :
    Calls Try.prog 4 #[.slice p n c] w fun e w' => e = .returned (.bool true) ∧ Below w.heap.size w w' := by
  have HM := Lib.hid hn
  have HL := Lib.hid hl
  have HP := Lib.hid hp
  clear hn hl hp
  go_enter Try.func4, Try.ntmps4
  go_wp2_with fail
  refine (readInt_any HL.out n c HM.out hnc hc).mono ?_
  rintro e w' ⟨rfl, rfl⟩
  go_wp2_with fail
  refine (refReadInt_any HL.out n c HM.out hnc hc).mono ?_
  rintro e w' ⟨rfl, rfl⟩
  go_wp2_with fail
  refine (readText_any HL.out n c HM.out hnc hc HP.out (by have := HM.out; omega)).mono ?_
  rintro e w1 ⟨rfl, hb1⟩
  have HB1 := Lib.hid hb1
  clear hb1
  go_wp2_with fail
  refine (refReadText_any (HL.out.below HB1.out) n c HM.out hnc hc (by have := HM.out; omega)).mono ?_
  rintro e w2 ⟨rfl, hb2⟩
  have HB2 := Lib.hid (HB1.out.trans (hb2.mono HB1.out.size))
  clear hb2
  go_wp2_with fail
  refine (readText_any (l := [97, 0, 1]) (Bs.new w2 _ _ _ rfl rfl) 3 3 rfl (by omega) (by omega) (fun h => by cases h) (by simp)).mono ?_
  intro e w3 hp3
  obtain ⟨rfl, hb3⟩ := rpost_out (s := [97]) (k := 3) (x := 0) rfl hp3
  have HB3 := Lib.hid (HB2.out.trans (((Below.alloc (Below.refl w2.heap.size w2) (Nat.le_refl _) _).trans (hb3.mono (by simp))).mono HB2.out.size))
  clear hp3 hb3
  go_wp2
  go_ret
  exact ⟨rfl, HB3.out⟩

set_option maxHeartbeats 800000 in
theorem lawReads_big {w : World} {p : Option Addr} {l : List UInt8} (hl : Bs w p l) (n c : Nat) (hn : n = l.length) (hnc : n ≤ c) (hc : c ≤ 9223372036854775807) (hp : p = none → c = 0) (h1 : 3000 < n) :
    Calls Try.prog 4 #[.slice p n c] w fun e w' => e = .returned (.bool true) ∧ Below w.heap.size w w' := by
  have HM : Hid (3000 = (l.take 3000).length) := by
    have : 3000 = (l.take 3000).length := by rw [List.length_take]; omega
    exact this
  have HL := Lib.hid (hl.take 3000)
  have HP := Lib.hid hp
  have h3c : 3000 ≤ c := by omega
  clear hn hl hp
  go_enter Try.func4, Try.ntmps4
  go_wp2_with fail
  refine (readInt_any HL.out 3000 c HM.out h3c hc).mono ?_
  rintro e w' ⟨rfl, rfl⟩
  go_wp2_with fail
  refine (refReadInt_any HL.out 3000 c HM.out h3c hc).mono ?_
  rintro e w' ⟨rfl, rfl⟩
  go_wp2_with fail
  refine (readText_any HL.out 3000 c HM.out h3c hc HP.out (by have := HM.out; omega)).mono ?_
  rintro e w1 ⟨rfl, hb1⟩
  have HB1 := Lib.hid hb1
  clear hb1
  go_wp2_with fail
  refine (refReadText_any (HL.out.below HB1.out) 3000 c HM.out h3c hc (by have := HM.out; omega)).mono ?_
  rintro e w2 ⟨rfl, hb2⟩
  have HB2 := Lib.hid (HB1.out.trans (hb2.mono HB1.out.size))
  clear hb2
  go_wp2_with fail
  refine (readText_any (l := [97, 0, 1]) (Bs.new w2 _ _ _ rfl rfl) 3 3 rfl (by omega) (by omega) (fun h => by cases h) (by simp)).mono ?_
  intro e w3 hp3
  obtain ⟨rfl, hb3⟩ := rpost_out (s := [97]) (k := 3) (x := 0) rfl hp3
  have HB3 := Lib.hid (HB2.out.trans (((Below.alloc (Below.refl w2.heap.size w2) (Nat.le_refl _) _).trans (hb3.mono (by simp))).mono HB2.out.size))
  clear hp3 hb3
  go_wp2
  go_ret
  exact ⟨rfl, HB3.out⟩

theorem lawReads_any {w : World} {p : Option Addr} {l : List UInt8} (hl : Bs w p l) (n c : Nat) (hn : n = l.length) (hnc : n ≤ c) (hc : c ≤ 9223372036854775807) (hp : p = none → c = 0) :
    Calls Try.prog 4 #[.slice p n c] w fun e w' => e = .returned (.bool true) ∧ Below w.heap.size w w' := by
  by_cases h : n ≤ 3000
  · exact lawReads_small hl n c hn hnc hc hp h
  · exact lawReads_big hl n c hn hnc hc hp (by omega)

end Go.Proofs.Ytlonbkkalnobeaa
