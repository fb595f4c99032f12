/-
  order.PutInt and the reference's PutInt: contracts for the walks.
-/
import Derived.Test.YtlonbkkalnobeaaBytes
import Derived.Test.YtlonbkkalnobeaaNum
set_option linter.unusedVariables false
namespace Go.Proofs.Ytlonbkkalnobeaa
open Go.RowKit

set_option maxHeartbeats 400000 in
theorem apart_any (p : Option Addr) (n c : Nat) (hn : n ≤ c) (hc : c ≤ 9223372036854775807) (w : World) :
    Calls Try.prog 23 #[.slice p n c] w fun e w' => e = .returned (.slice p n n) ∧ w = w' := by
  go_enter Try.func23, Try.ntmps23
  go_wp2
  go_ret
  exact ⟨rfl, rfl⟩

def PutPost (w : World) (l : List UInt8) (e : Ending) (w' : World) : Prop :=
  ∃ v, e = .returned v ∧ Own w' w.heap.size v l ∧ Below w.heap.size w w'

theorem be8_cells (u : Nat) : #[Value.int .u8 ((u : Int) / 72057594037927936 % 256), .int .u8 ((u : Int) / 281474976710656 % 256), .int .u8 ((u : Int) / 1099511627776 % 256), .int .u8 ((u : Int) / 4294967296 % 256),
    .int .u8 ((u : Int) / 16777216 % 256), .int .u8 ((u : Int) / 65536 % 256), .int .u8 ((u : Int) / 256 % 256), .int .u8 ((u : Int) % 256)] = (u8s (be8 u)).toArray := by
  simp only [u8s, be8, List.map_cons, List.map_nil, byte_of1]
  rfl

set_option maxHeartbeats 400000 in
theorem putInt_any {w : World} {p : Option Addr} {l : List UInt8} (hl : Bs w p l) (n c : Nat) (hn : n = l.length) (hnc : n ≤ c) (hc : c ≤ 9223372036854775807) (hlen : l.length ≤ 100000) (m : Int) (h1 : -9223372036854775808 ≤ m) (h2 : m ≤ 9223372036854775807) :
    Calls Try.prog 11 #[.slice p n c, .int .i64 m] w (PutPost w (l ++ be8 (inKey m))) := by
  have HN := Lib.hid hn
  have HL := Lib.hid hl
  have HIN := Lib.hid (in_walk h1 h2)
  clear hn hl h1 h2
  go_enter Try.func11, Try.ntmps11
  go_wp2_with fail
  rw [HIN.out]
  generalize hu : inKey m = u
  have HU := Lib.hid hu
  clear hu
  refine (apart_any p n c hnc hc w).mono ?_
  rintro e w' ⟨rfl, rfl⟩
  go_wp2_with (at_builtin; refine app_full rfl (.tmp 10) (.tmp 34) rfl (m := be8 u) HN.out HN.out rfl (HL.out.alloc _) rfl rfl (Bs.new _ _ _ _ rfl (be8_cells u)) (by rw [be8_length]; omega) (by rw [be8_length]; omega) ?_; intro v1 w1 ho1 hb1; have HO1 := Lib.hid ho1; have HB1 := Lib.hid hb1; clear ho1 hb1)
  go_ret
  rw [HU.out]
  exact ⟨_, rfl, HO1.out.le (by simp), (Below.alloc (Below.refl w.heap.size w) (Nat.le_refl _) _).trans (HB1.out.mono (by simp))⟩

set_option maxHeartbeats 1600000 in
theorem refPutInt_any {w : World} {p : Option Addr} {l : List UInt8} (hl : Bs w p l) (n c : Nat) (hn : n = l.length) (hp : p = none → c = 0) (hlen : l.length ≤ 100000) (m : Int) (h1 : -9223372036854775808 ≤ m) (h2 : m ≤ 9223372036854775807) :
    Calls Try.prog 12 #[.slice p n c, .int .i64 m] w (PutPost w (l ++ be8 (inKey m))) := by
  have HN := Lib.hid hn
  have HL := Lib.hid hl
  have HP := Lib.hid hp
  have HIN := Lib.hid (in_walk h1 h2)
  clear hn hl h1 h2 hp
  go_enter Try.func12, Try.ntmps12
  go_wp2_with (at_builtin; refine app_own rfl (.tmp 8) (.tmp 9) rfl rfl (Own.empty w w.heap.size (Nat.le_refl _)) HN.out rfl (HL.out.alloc _) HP.out (by simp; omega) (by simp) ?_; intro v1 w1 ho1 hb1; have HO1 := Lib.hid ho1; have HB1 := Lib.hid ((Below.alloc (Below.refl w.heap.size w) (Nat.le_refl _) _).trans hb1); clear ho1 hb1)
  rw [HIN.out]
  generalize hu : inKey m = u
  have HU := Lib.hid hu
  clear hu HIN
  go_loopw [5, 7] (fun v i wr => ∃ j : Nat, i = .int .i64 j ∧ j ≤ 8 ∧ Own wr w.heap.size v (l ++ (be8 u).take j) ∧ Below w.heap.size w wr) (fun _ i _ => 8 - (intOf i).toNat)
  case atStart => exact ⟨0, rfl, by omega, by have := HO1.out; rw [List.nil_append] at this; rw [List.take_zero, List.append_nil]; exact this, HB1.out⟩
  case round =>
    obtain ⟨j, rfl, hj, hown, hb⟩ := hrel
    have HO := Lib.hid hown
    have HB := Lib.hid hb
    clear hown hb
    by_cases hj8 : j < 8
    · have hjs : j = 0 ∨ j = 1 ∨ j = 2 ∨ j = 3 ∨ j = 4 ∨ j = 5 ∨ j = 6 ∨ j = 7 := by omega
      clear hj hj8
      rcases hjs with rfl | rfl | rfl | rfl | rfl | rfl | rfl | rfl
      · have hby := (byte_of u 72057594037927936).symm
        have HBY := Lib.hid hby
        clear hby
        go_wp2_with (at_builtin; refine app_own rfl (.tmp 18) (.tmp 26) rfl rfl (HO.out.alloc _) (m := [UInt8.ofNat (u / 72057594037927936)]) rfl rfl (Bs.one _ _ _ rfl HBY.out) (fun h => by cases h) (by simp [be8]; omega) (by have := HB.out.size; simp; omega) ?_; intro v2 w2 ho2 hb2; have HO2 := Lib.hid ho2; have HB2 := Lib.hid ((HB.out.alloc HB.out.size _).trans hb2); clear ho2 hb2)
        go_roundw
        case rel => exact ⟨1, rfl, by omega, by have := HO2.out; rw [List.append_assoc] at this; exact this, HB2.out⟩
        case measure => simp [intOf]
      · have hby := (byte_of u 281474976710656).symm
        have HBY := Lib.hid hby
        clear hby
        go_wp2_with (at_builtin; refine app_own rfl (.tmp 18) (.tmp 26) rfl rfl (HO.out.alloc _) (m := [UInt8.ofNat (u / 281474976710656)]) rfl rfl (Bs.one _ _ _ rfl HBY.out) (fun h => by cases h) (by simp [be8]; omega) (by have := HB.out.size; simp; omega) ?_; intro v2 w2 ho2 hb2; have HO2 := Lib.hid ho2; have HB2 := Lib.hid ((HB.out.alloc HB.out.size _).trans hb2); clear ho2 hb2)
        go_roundw
        case rel => exact ⟨2, rfl, by omega, by have := HO2.out; rw [List.append_assoc] at this; exact this, HB2.out⟩
        case measure => simp [intOf]
      · have hby := (byte_of u 1099511627776).symm
        have HBY := Lib.hid hby
        clear hby
        go_wp2_with (at_builtin; refine app_own rfl (.tmp 18) (.tmp 26) rfl rfl (HO.out.alloc _) (m := [UInt8.ofNat (u / 1099511627776)]) rfl rfl (Bs.one _ _ _ rfl HBY.out) (fun h => by cases h) (by simp [be8]; omega) (by have := HB.out.size; simp; omega) ?_; intro v2 w2 ho2 hb2; have HO2 := Lib.hid ho2; have HB2 := Lib.hid ((HB.out.alloc HB.out.size _).trans hb2); clear ho2 hb2)
        go_roundw
        case rel => exact ⟨3, rfl, by omega, by have := HO2.out; rw [List.append_assoc] at this; exact this, HB2.out⟩
        case measure => simp [intOf]
      · have hby := (byte_of u 4294967296).symm
        have HBY := Lib.hid hby
        clear hby
        go_wp2_with (at_builtin; refine app_own rfl (.tmp 18) (.tmp 26) rfl rfl (HO.out.alloc _) (m := [UInt8.ofNat (u / 4294967296)]) rfl rfl (Bs.one _ _ _ rfl HBY.out) (fun h => by cases h) (by simp [be8]; omega) (by have := HB.out.size; simp; omega) ?_; intro v2 w2 ho2 hb2; have HO2 := Lib.hid ho2; have HB2 := Lib.hid ((HB.out.alloc HB.out.size _).trans hb2); clear ho2 hb2)
        go_roundw
        case rel => exact ⟨4, rfl, by omega, by have := HO2.out; rw [List.append_assoc] at this; exact this, HB2.out⟩
        case measure => simp [intOf]
      · have hby := (byte_of u 16777216).symm
        have HBY := Lib.hid hby
        clear hby
        go_wp2_with (at_builtin; refine app_own rfl (.tmp 18) (.tmp 26) rfl rfl (HO.out.alloc _) (m := [UInt8.ofNat (u / 16777216)]) rfl rfl (Bs.one _ _ _ rfl HBY.out) (fun h => by cases h) (by simp [be8]; omega) (by have := HB.out.size; simp; omega) ?_; intro v2 w2 ho2 hb2; have HO2 := Lib.hid ho2; have HB2 := Lib.hid ((HB.out.alloc HB.out.size _).trans hb2); clear ho2 hb2)
        go_roundw
        case rel => exact ⟨5, rfl, by omega, by have := HO2.out; rw [List.append_assoc] at this; exact this, HB2.out⟩
        case measure => simp [intOf]
      · have hby := (byte_of u 65536).symm
        have HBY := Lib.hid hby
        clear hby
        go_wp2_with (at_builtin; refine app_own rfl (.tmp 18) (.tmp 26) rfl rfl (HO.out.alloc _) (m := [UInt8.ofNat (u / 65536)]) rfl rfl (Bs.one _ _ _ rfl HBY.out) (fun h => by cases h) (by simp [be8]; omega) (by have := HB.out.size; simp; omega) ?_; intro v2 w2 ho2 hb2; have HO2 := Lib.hid ho2; have HB2 := Lib.hid ((HB.out.alloc HB.out.size _).trans hb2); clear ho2 hb2)
        go_roundw
        case rel => exact ⟨6, rfl, by omega, by have := HO2.out; rw [List.append_assoc] at this; exact this, HB2.out⟩
        case measure => simp [intOf]
      · have hby := (byte_of u 256).symm
        have HBY := Lib.hid hby
        clear hby
        go_wp2_with (at_builtin; refine app_own rfl (.tmp 18) (.tmp 26) rfl rfl (HO.out.alloc _) (m := [UInt8.ofNat (u / 256)]) rfl rfl (Bs.one _ _ _ rfl HBY.out) (fun h => by cases h) (by simp [be8]; omega) (by have := HB.out.size; simp; omega) ?_; intro v2 w2 ho2 hb2; have HO2 := Lib.hid ho2; have HB2 := Lib.hid ((HB.out.alloc HB.out.size _).trans hb2); clear ho2 hb2)
        go_roundw
        case rel => exact ⟨7, rfl, by omega, by have := HO2.out; rw [List.append_assoc] at this; exact this, HB2.out⟩
        case measure => simp [intOf]
      · have hby := (byte_of1 u).symm
        have HBY := Lib.hid hby
        clear hby
        go_wp2_with (at_builtin; refine app_own rfl (.tmp 18) (.tmp 26) rfl rfl (HO.out.alloc _) (m := [UInt8.ofNat u]) rfl rfl (Bs.one _ _ _ rfl HBY.out) (fun h => by cases h) (by simp [be8]; omega) (by have := HB.out.size; simp; omega) ?_; intro v2 w2 ho2 hb2; have HO2 := Lib.hid ho2; have HB2 := Lib.hid ((HB.out.alloc HB.out.size _).trans hb2); clear ho2 hb2)
        go_roundw
        case rel => exact ⟨8, rfl, by omega, by have := HO2.out; rw [List.append_assoc] at this; exact this, HB2.out⟩
        case measure => simp [intOf]
    · obtain rfl : j = 8 := by omega
      go_wp2
      go_ret
      rw [HU.out]
      exact ⟨_, rfl, HO.out, HB.out⟩

end Go.Proofs.Ytlonbkkalnobeaa
