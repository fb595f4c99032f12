/-
  Print's escape: the loop over a text.
-/
import Derived.Test.YtckmajcophpddaaDoorVEsc
import Derived.Test.YtckmajcophpddaaDoorBld
import Derived.Test.YtckmajcophpddaaDoorVStr
import Derived.LoopTactic
import Derived.Outline
set_option linter.unusedVariables false
set_option maxRecDepth 100000
namespace Go.Proofs.YtckmajcophpddaaDoor
open Go.RowKit

theorem hexE_at : ∀ (i : Nat) (h : i < 16), (⟨#[48, 49, 50, 51, 52, 53, 54, 55, 56, 57, 97, 98, 99, 100, 101, 102]⟩ : ByteArray)[i]'h = hexE[i]!
  | 0, _ => rfl | 1, _ => rfl | 2, _ => rfl | 3, _ => rfl | 4, _ => rfl | 5, _ => rfl | 6, _ => rfl | 7, _ => rfl
  | 8, _ => rfl | 9, _ => rfl | 10, _ => rfl | 11, _ => rfl | 12, _ => rfl | 13, _ => rfl | 14, _ => rfl | 15, _ => rfl
  | i + 16, h => absurd h (by omega)

set_option maxHeartbeats 4000000 in
theorem escape_any {w : World} (s : ByteArray) (hlen : s.size ≤ 300) :
    Calls Tryd.prog 30 #[.string s] w fun e w' => (∃ t : ByteArray, e = .returned (.string t) ∧ t.data.toList = escS s.data.toList) ∧ Below w.heap.size w w' := by
  have HS : ∀ (w' : World) (l : List UInt8), Bld w.heap.size w.heap.size l w' → Below w.heap.size w w' → Calls Tryd.prog 33 #[.pointer (some ⟨w.heap.size, 0, none⟩)] w' fun e w'' => (∃ t : ByteArray, e = .returned (.string t) ∧ t.data.toList = l) ∧ Below w.heap.size w w'' := fun w' l h hb => (bldStr_any _ _ l h hb.size).mono fun e w'' ⟨he, hb2⟩ => ⟨⟨⟨l.toArray⟩, he, rfl⟩, hb.trans hb2⟩
  replace HS := Lib.hid HS
  have C := fun c w => Lib.hid (isCode_any (w := w) c)
  have M := fun c w => Lib.hid (isMark_any (w := w) c)
  go_enter Tryd.func30, Tryd.ntmps30
  go_wp2_with fail
  obtain ⟨W, hW⟩ : ∃ W, W = w.alloc (.cells #[.pointer none, .slice none 0 0] 67) := ⟨_, rfl⟩
  have HB0 : Hid (Bld w.heap.size w.heap.size [] W) := Lib.hid (by
    rw [hW]
    exact .inl ⟨Nat.le_refl _, _, heap_alloc_new w _, World.ownsRow_nil _ _ _ _, by simp [Value.ownBlock]⟩)
  have HW0 : Hid (Below w.heap.size w W) := Lib.hid (by rw [hW]; exact (Below.refl _ _).alloc (Nat.le_refl _) _)
  rw [← hW]
  clear hW
  go_loopw [8] (fun i wr => ∃ (j : Nat), i = .int .i64 j ∧ j ≤ s.size ∧ Bld w.heap.size w.heap.size (escS (s.data.toList.take j)) wr ∧ Below w.heap.size w wr) (fun i _ => s.size - (intOf i).toNat)
  case atStart => exact ⟨0, rfl, by omega, HB0.out, HW0.out⟩
  case round =>
    obtain ⟨j, rfl, hj, hbl, hb⟩ := hrel
    have HBL := Lib.hid hbl
    have HB := Lib.hid hb
    clear hbl hb
    by_cases hlt : j < s.size
    · obtain ⟨c, hc⟩ : ∃ c, c = s[j] := ⟨_, rfl⟩
      have hcd : s.data.toList[j]? = some c := by
        rw [hc, Array.getElem?_toList]
        exact Array.getElem?_eq_getElem hlt
      have hsn : escS (s.data.toList.take (j + 1)) = escS (s.data.toList.take j) ++ escC c := by
        rw [List.take_add_one, hcd]
        exact escS_snoc _ _
      have hl := escS_len (s.data.toList.take j)
      have hl2 : (s.data.toList.take j).length ≤ 300 := by have : s.data.toList.length = s.size := rfl; rw [List.length_take]; omega
      obtain ⟨l, hle⟩ : ∃ x, x = escS (s.data.toList.take j) := ⟨_, rfl⟩
      rw [← hle] at hsn HBL hl
      replace hsn := Lib.hid hsn
      have HL : Hid (l.length ≤ 1200) := Lib.hid (by omega)
      clear hle hl hl2 hcd
      replace hc := Lib.hid hc
      go_wp2_with fail
      rw [← hc.out]
      refine (C c _).out.mono ?_
      rintro e w1 ⟨rfl, rfl⟩
      cases hcc : codeC c
      · go_wp2_with fail
        refine (M c _).out.mono ?_
        rintro e w1 ⟨rfl, rfl⟩
        cases hmc : markC c
        · go_wp2_with fail
          refine (bldByte_any _ _ l c rfl HBL.out (by have := HL.out; omega) HB.out.size).mono ?_
          rintro e w2 ⟨rfl, hb2, hbb2⟩
          have HE : Hid (escC c = [c]) := Lib.hid (by unfold escC; rw [hcc, hmc]; rfl)
          have H2 := Lib.hid hb2
          have HB2 := Lib.hid (HB.out.trans hbb2)
          clear hb2 hbb2
          go_wp2
          go_roundw
          case rel => exact ⟨j + 1, by go_num, by omega, by rw [hsn.out, HE.out]; exact H2.out, HB2.out⟩
          case measure => simp [intOf]; omega
        · go_wp2_with fail
          refine (bldByte_any _ _ l 92 rfl HBL.out (by have := HL.out; omega) HB.out.size).mono ?_
          rintro e w2 ⟨rfl, hb2, hbb2⟩
          have HE : Hid (escC c = [92] ++ [c]) := Lib.hid (by unfold escC; rw [hcc, hmc]; rfl)
          have H2 := Lib.hid hb2
          have HB2 := Lib.hid (HB.out.trans hbb2)
          clear hb2 hbb2
          go_wp2_with fail
          refine (bldByte_any _ _ (l ++ [92]) c rfl H2.out (by have := HL.out; simp; omega) HB2.out.size).mono ?_
          rintro e w3 ⟨rfl, hb3, hbb3⟩
          have H3 := Lib.hid hb3
          have HB3 := Lib.hid (HB2.out.trans hbb3)
          clear hb3 hbb3
          go_wp2
          go_roundw
          case rel => exact ⟨j + 1, by go_num, by omega, by rw [hsn.out, HE.out, ← List.append_assoc]; exact H3.out, HB3.out⟩
          case measure => simp [intOf]; omega
      · go_wp2_with fail
        refine (bldString_any _ _ l ⟨#[92, 120]⟩ HBL.out (by have := HL.out; have e : (⟨#[92, 120]⟩ : ByteArray).size = 2 := rfl; omega) HB.out.size).mono ?_
        rintro e w2 ⟨rfl, hb2, hbb2⟩
        have H2 : Hid (Bld w.heap.size w.heap.size (l ++ [92, 120]) w2) := Lib.hid hb2
        have HB2 := Lib.hid (HB.out.trans hbb2)
        clear hb2 hbb2
        have hd : c.toNat / 16 < 16 := by have := c.toNat_lt; omega
        have hm : c.toNat % 16 < 16 := by omega
        obtain ⟨x, hx⟩ : ∃ x, x = hexE[c.toNat / 16]! := ⟨_, rfl⟩
        obtain ⟨y, hy⟩ : ∃ y, y = hexE[c.toNat % 16]! := ⟨_, rfl⟩
        have HE : Hid (escC c = [92, 120] ++ [x] ++ [y]) := Lib.hid (by unfold escC; rw [hcc, hx, hy]; rfl)
        replace hx := Lib.hid hx
        replace hy := Lib.hid hy
        go_wp2_with fail
        rw [hexE_at _ hd, ← hx.out]
        refine (bldByte_any _ _ (l ++ [92, 120]) x rfl H2.out (by have := HL.out; simp; omega) HB2.out.size).mono ?_
        rintro e w3 ⟨rfl, hb3, hbb3⟩
        have H3 := Lib.hid hb3
        have HB3 := Lib.hid (HB2.out.trans hbb3)
        clear hb3 hbb3
        go_wp2_with fail
        rw [hexE_at _ hm, ← hy.out]
        refine (bldByte_any _ _ (l ++ [92, 120] ++ [x]) y rfl H3.out (by have := HL.out; simp; omega) HB3.out.size).mono ?_
        rintro e w4 ⟨rfl, hb4, hbb4⟩
        have H4 := Lib.hid hb4
        have HB4 := Lib.hid (HB3.out.trans hbb4)
        clear hb4 hbb4
        go_wp2
        go_roundw
        case rel => exact ⟨j + 1, by go_num, by omega, by rw [hsn.out, HE.out, ← List.append_assoc, ← List.append_assoc]; exact H4.out, HB4.out⟩
        case measure => simp [intOf]; omega
    · go_wp2_with fail
      refine (HS.out _ _ HBL.out HB.out).mono ?_
      rintro e w2 ⟨⟨t, rfl, ht⟩, hb2⟩
      obtain rfl : j = s.size := by omega
      have ht2 : t.data.toList = escS s.data.toList := by
        rw [ht, List.take_of_length_le (show s.data.toList.length ≤ s.size from Nat.le_refl _)]
      go_wp2
      go_ret
      exact ⟨⟨t, rfl, ht2⟩, hb2⟩

end Go.Proofs.YtckmajcophpddaaDoor
