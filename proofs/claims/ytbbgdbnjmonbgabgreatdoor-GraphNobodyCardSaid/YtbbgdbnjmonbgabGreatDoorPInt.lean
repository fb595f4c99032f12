/-
  order.PutInt: its contract for the walks.
-/
import Derived.Test.YtbbgdbnjmonbgabGreatDoorBytes
import Derived.Test.YtbbgdbnjmonbgabGreatDoorOrd
set_option linter.unusedVariables false
set_option maxRecDepth 100000
namespace Go.Proofs.YtbbgdbnjmonbgabGreatDoor
open Go.RowKit

set_option maxHeartbeats 400000 in
theorem apart_any (p : Option Addr) (n c : Nat) (hn : n ≤ c) (hc : c ≤ 9223372036854775807) (w : World) :
    Calls Tryz.prog 143 #[.slice p n c] w fun e w' => e = .returned (.slice p n n) ∧ w = w' := by
  go_enter Tryz.func143, Tryz.ntmps143
  go_wp2
  go_ret
  exact ⟨rfl, rfl⟩

def PutPost (w : World) (l : List UInt8) (e : Ending) (w' : World) : Prop :=
  ∃ v, e = .returned v ∧ Own w' w.heap.size v l ∧ Below w.heap.size w w'

theorem be8_cells (u : Nat) : #[Value.int .u8 ((u : Int) / 72057594037927936 % 256), .int .u8 ((u : Int) / 281474976710656 % 256), .int .u8 ((u : Int) / 1099511627776 % 256), .int .u8 ((u : Int) / 4294967296 % 256),
    .int .u8 ((u : Int) / 16777216 % 256), .int .u8 ((u : Int) / 65536 % 256), .int .u8 ((u : Int) / 256 % 256), .int .u8 ((u : Int) % 256)] = (u8s (be8 u)).toArray := by
  simp only [u8s, be8, List.map_cons, List.map_nil, byte_of1]
  rfl

set_option maxHeartbeats 400000 in
theorem putInt_any {w : World} {p : Option Addr} {l : List UInt8} (hl : Bs w p l) (n c : Nat) (hn : n = l.length) (hnc : n ≤ c) (hc : c ≤ 9223372036854775807) (hlen : l.length ≤ 100000) (m : Int) (h1 : -9223372036854775808 ≤ m) (h2 : m ≤ 9223372036854775807) :
    Calls Tryz.prog 94 #[.slice p n c, .int .i64 m] w (PutPost w (l ++ be8 (inKey m))) := by
  have HN := Lib.hid hn
  have HL := Lib.hid hl
  have HIN := Lib.hid (in_walk h1 h2)
  clear hn hl h1 h2
  go_enter Tryz.func94, Tryz.ntmps94
  go_wp2_with fail
  rw [HIN.out]
  generalize hu : inKey m = u
  have HU := Lib.hid hu
  clear hu
  refine (apart_any p n c hnc hc w).mono ?_
  rintro e w' ⟨rfl, rfl⟩
  go_wp2_with (at_builtin; refine app_full rfl (.tmp 10) (.tmp 34) rfl (m := be8 u) HN.out HN.out rfl (HL.out.alloc _) rfl rfl (Bs.new _ _ _ _ rfl (be8_cells u)) (by rw [be8_length]; omega) (by rw [be8_length]; omega) ?_; intro v1 w1 ho1 hb1; have HO1 := Lib.hid ho1; have HB1 := Lib.hid hb1; clear ho1 hb1)
  go_ret
  rw [HU.out]
  exact ⟨_, rfl, HO1.out.le (by simp), (Below.alloc (Below.refl w.heap.size w) (Nat.le_refl _) _).trans (HB1.out.mono (by simp))⟩

end Go.Proofs.YtbbgdbnjmonbgabGreatDoor
