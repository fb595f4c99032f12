/-
  The reference's PutText puts a text as the document says: its contract.
-/
import Derived.Test.YtjimbjcfoebimaaBytes
import Derived.Test.YtjimbjcfoebimaaOrd
import Derived.Test.YtjimbjcfoebimaaPInt
set_option linter.unusedVariables false
set_option maxRecDepth 100000
namespace Go.Proofs.Ytjimbjcfoebimaa
open Go.RowKit

set_option maxHeartbeats 800000 in
theorem refPutText_any {w : World} {p : Option Addr} {l : List UInt8} (hl : Bs w p l) (n c : Nat) (hn : n = l.length) (hp : p = none → c = 0) (hlen : l.length ≤ 100000) (s : ByteArray) (t : List UInt8) (ht : s.data.toList = t) (hs : s.size ≤ 100000) :
    Calls Try.prog 46 #[.slice p n c, .string s] w (PutPost w (l ++ txt t)) := by
  have hst : s.size = t.length := by rw [← ht]; rfl
  have HN := Lib.hid hn
  have HL := Lib.hid hl
  have HT := Lib.hid ht
  have HST := Lib.hid hst
  have HP := Lib.hid hp
  clear hn hl ht hst hp
  go_enter Try.func46, Try.ntmps46
  go_wp2_with (at_builtin; refine app_own rfl (.tmp 7) (.tmp 8) rfl rfl (Own.empty w w.heap.size (Nat.le_refl _)) HN.out rfl (HL.out.alloc _) HP.out (by simp; omega) (by simp) ?_; intro v1 w1 ho1 hb1; have HO1 := Lib.hid ho1; have HB1 := Lib.hid ((Below.alloc (Below.refl w.heap.size w) (Nat.le_refl _) _).trans hb1); clear ho1 hb1)
  go_loopw [5, 6] (fun v i wr => ∃ j : Nat, i = .int .i64 j ∧ j ≤ s.size ∧ Own wr w.heap.size v (l ++ esc (t.take j)) ∧ Below w.heap.size w wr) (fun _ i _ => s.size - (intOf i).toNat)
  case atStart => exact ⟨0, rfl, by omega, by have := HO1.out; rw [List.take_zero]; simpa [esc] using this, HB1.out⟩
  case round =>
    obtain ⟨j, rfl, hj, hown, hb⟩ := hrel
    have hle : (l ++ esc (t.take j)).length ≤ 400000 := by
      have h1 := esc_length (t.take j)
      have h2 : (t.take j).length ≤ t.length := by rw [List.length_take]; omega
      have := HST.out
      rw [List.length_append]
      omega
    have HLE := Lib.hid hle
    have HO := Lib.hid hown
    have HB := Lib.hid hb
    clear hown hb hle
    by_cases hjs : j < s.size
    · have hjt : j < t.length := by have := HST.out; omega
      have hget : s[j] = t[j] := by
        have := HT.out
        subst this
        rfl
      have hesc := esc_take hjt
      rw [← hget] at hesc
      have h255 := s[j].toNat_lt
      by_cases hz : s[j] = 0
      · rw [if_pos hz] at hesc
        have HE := Lib.hid hesc
        have hz' : ((s[j].toNat : Int) == 0) = true := by rw [hz]; rfl
        have HZ := Lib.hid hz
        clear hz hesc hget hjt
        go_wp2_with (first
          | (at_builtin; refine app_own rfl (.tmp 16) (.tmp 20) rfl rfl (HO.out.alloc _) (m := [s[j]]) rfl rfl (Bs.one _ _ _ rfl rfl) (fun h => by cases h) (by have := HLE.out; simp only [List.length_cons, List.length_nil]; omega) (by have := HB.out.size; simp; omega) ?_; intro v2 w2 ho2 hb2; have HO2 := Lib.hid ho2; have HB2 := Lib.hid ((HB.out.alloc HB.out.size _).trans hb2); clear ho2 hb2)
          | (at_builtin; refine app_own rfl (.tmp 26) (.tmp 27) rfl rfl (HO2.out.alloc _) (m := [255]) rfl rfl (Bs.one _ _ _ rfl rfl) (fun h => by cases h) (by have := HLE.out; rw [List.length_append]; simp only [List.length_cons, List.length_nil]; omega) (by have := HB2.out.size; simp; omega) ?_; intro v3 w3 ho3 hb3; have HO3 := Lib.hid ho3; have HB3 := Lib.hid ((HB2.out.alloc HB2.out.size _).trans hb3); clear ho3 hb3))
        go_roundw
        case rel => exact ⟨j + 1, by go_num, by omega, by have h := HO3.out; rw [HZ.out, List.append_assoc, List.append_assoc] at h; rw [HE.out]; exact h, HB3.out⟩
        case measure => simp [intOf]; omega
      · rw [if_neg hz] at hesc
        have HE := Lib.hid hesc
        have hz' : ((s[j].toNat : Int) == 0) = false := by
          rw [beq_eq_false_iff_ne]
          intro h
          exact hz (by rw [← UInt8.toNat_inj]; show _ = 0; omega)
        clear hz hesc hget hjt
        go_wp2_with (at_builtin; refine app_own rfl (.tmp 16) (.tmp 20) rfl rfl (HO.out.alloc _) (m := [s[j]]) rfl rfl (Bs.one _ _ _ rfl rfl) (fun h => by cases h) (by have := HLE.out; simp only [List.length_cons, List.length_nil]; omega) (by have := HB.out.size; simp; omega) ?_; intro v2 w2 ho2 hb2; have HO2 := Lib.hid ho2; have HB2 := Lib.hid ((HB.out.alloc HB.out.size _).trans hb2); clear ho2 hb2)
        go_roundw
        case rel => exact ⟨j + 1, by go_num, by omega, by have h := HO2.out; rw [List.append_assoc] at h; rw [HE.out]; exact h, HB2.out⟩
        case measure => simp [intOf]; omega
    · have hjt : t.take j = t := List.take_of_length_le (by have := HST.out; omega)
      have HJ := Lib.hid hjt
      clear hjt
      go_wp2_with (at_builtin; refine app_own rfl (.tmp 29) (.tmp 30) rfl rfl (HO.out.alloc _) (m := [0, 1]) rfl rfl (Bs.new _ _ _ _ rfl rfl) (fun h => by cases h) (by have := HLE.out; simp only [List.length_cons, List.length_nil]; omega) (by have := HB.out.size; simp; omega) ?_; intro v2 w2 ho2 hb2; have HO2 := Lib.hid ho2; have HB2 := Lib.hid ((HB.out.alloc HB.out.size _).trans hb2); clear ho2 hb2)
      go_ret
      exact ⟨_, rfl, by have h := HO2.out; rw [HJ.out, List.append_assoc] at h; exact h, HB2.out⟩

end Go.Proofs.Ytjimbjcfoebimaa
