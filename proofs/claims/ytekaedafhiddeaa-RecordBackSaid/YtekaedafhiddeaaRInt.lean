/-
  order.ReadInt: its contract for the walks.
-/
import Derived.Test.YtekaedafhiddeaaO2
import Derived.Test.YtekaedafhiddeaaOrd
set_option linter.unusedVariables false
set_option maxRecDepth 100000
namespace Go.Proofs.Ytekaedafhiddeaa
open Go.RowKit

set_option maxHeartbeats 400000 in
theorem readInt_long {w : World} {p : Option Addr} {l : List UInt8} (hl : Bs w p l) (n c : Nat) (hn : n = l.length) (hnc : n ≤ c) (hc : c ≤ 9223372036854775807) (h8 : 8 ≤ n) :
    Calls Try.prog 62 #[.slice p n c] w fun e w' => e = .returned (.tuple #[.int .i64 (outKey (num (l.take 8))), .int .i64 8, .int .i64 0]) ∧ w = w' := by
  have HN := Lib.hid hn
  obtain ⟨b, o, rfl, _, hcells⟩ := hl.at (by omega)
  have HC := Lib.hid hcells
  have q1 : 8 ≤ c := by omega
  clear hl hn hcells
  go_enter Try.func62, Try.ntmps62
  go_wp2
  go_loop [5, 14] (fun u i => ∃ j : Nat, i = .int .i64 j ∧ j ≤ 8 ∧ u = .int .u64 (num (l.take j) : Nat)) (fun _ i => 8 - (intOf i).toNat)
  case atStart => exact ⟨0, rfl, by omega, rfl⟩
  case round =>
    obtain ⟨j, rfl, hj, rfl⟩ := hrel
    by_cases hj8 : j < 8
    · have hjl : j < l.length := by have := HN.out; omega
      have hx := HC.out j hjl
      have HV := Lib.hid (or_walk (num_lt7 (l := l.take j) (by simp; omega)) l[j].toNat_lt)
      have HT := Lib.hid (num_take hjl)
      have h255 := l[j].toNat_lt
      generalize num (l.take j) = v at HV HT ⊢
      go_wp2
      go_round
      case rel => exact ⟨j + 1, by go_num, by omega, by rw [HT.out]; exact congrArg (Value.int .u64) HV.out⟩
      case measure => simp [intOf]; omega
    · obtain rfl : j = 8 := by omega
      have HV := Lib.hid (out_walk (num_lt8 (l := l.take 8) (by simp; omega)))
      generalize hv : num (l.take 8) = v at HV ⊢
      have HE := Lib.hid hv
      clear hv
      go_wp2
      go_ret3
      exact ⟨ret3_int (by rw [HE.out]; exact HV.out), rfl⟩

set_option maxHeartbeats 400000 in
theorem readInt_short {w : World} (p : Option Addr) (n c : Nat) (h8 : n < 8) :
    Calls Try.prog 62 #[.slice p n c] w fun e w' => e = .returned (.tuple #[.int .i64 0, .int .i64 0, .int .i64 10]) ∧ w = w' := by
  have h8' : (n : Int) < 8 := by omega
  go_enter Try.func62, Try.ntmps62
  go_wp2
  go_ret3
  exact ⟨rfl, rfl⟩

/-- What bytes are read as: the number, how many bytes, the error. -/
def rdI (l : List UInt8) : Int × Int × Int := if l.length < 8 then (0, 0, 10) else (outKey (num (l.take 8)), 8, 0)

theorem readInt_any {w : World} {p : Option Addr} {l : List UInt8} (hl : Bs w p l) (n c : Nat) (hn : n = l.length) (hnc : n ≤ c) (hc : c ≤ 9223372036854775807) :
    Calls Try.prog 62 #[.slice p n c] w fun e w' => e = .returned (.tuple #[.int .i64 (rdI l).1, .int .i64 (rdI l).2.1, .int .i64 (rdI l).2.2]) ∧ w = w' := by
  unfold rdI
  by_cases h : l.length < 8
  · rw [if_pos h]
    exact readInt_short p n c (by omega)
  · rw [if_neg h]
    exact readInt_long hl n c hn hnc hc (by omega)
end Go.Proofs.Ytekaedafhiddeaa
