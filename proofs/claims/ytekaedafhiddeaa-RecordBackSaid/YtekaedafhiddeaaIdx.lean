/-
  slices.IndexFunc with the closure of order.ReadText tells where the first zero byte stands.
-/
import Derived.Test.YtekaedafhiddeaaO2
import Derived.Test.YtekaedafhiddeaaOrd
set_option linter.unusedVariables false
set_option maxRecDepth 100000
namespace Go.Proofs.Ytekaedafhiddeaa
open Go.RowKit

def idxOf (l : List UInt8) : Int := if fz l < l.length then (fz l : Int) else -1

set_option maxHeartbeats 400000 in
theorem idxZero_any {w : World} {p : Option Addr} {l : List UInt8} (hl : Bs w p l) (n c : Nat) (hn : n = l.length) (hnc : n ≤ c) (hc : c ≤ 9223372036854775807) :
    Calls Try.prog 83 #[.slice p n c, .func (.func 82) #[] #[]] w fun e w' => e = .returned (.int .i64 (idxOf l)) ∧ w = w' := by
  have HN := Lib.hid hn
  have HL := Lib.hid hl
  clear hl hn
  go_enter Try.func83, Try.ntmps83
  go_wp2
  go_loop [8] (fun i => ∃ j : Nat, i = .int .i64 j ∧ j ≤ fz l ∧ j ≤ n) (fun i => n - (intOf i).toNat)
  case atStart => exact ⟨0, rfl, by omega, by omega⟩
  case round =>
    obtain ⟨j, rfl, hj, hjn'⟩ := hrel
    by_cases hjn : j < n
    · have hjl : j < l.length := by have := HN.out; omega
      obtain ⟨b, o, rfl, _, hcells⟩ := HL.out.at (by omega)
      have hx := hcells j hjl
      clear hcells
      by_cases hz : l[j] = 0
      · have HF := Lib.hid (fz_here hj hjl hz)
        have hz' : ((l[j].toNat : Int) == 0) = true := by rw [hz]; rfl
        clear hz
        go_wp2
        go_ret
        refine ⟨ret_int ?_, rfl⟩
        have := HF.out
        unfold idxOf
        rw [if_pos (by omega), ← this]
      · have HF := Lib.hid (fz_up hj hjl hz)
        have hz' : ((l[j].toNat : Int) == 0) = false := by
          rw [beq_eq_false_iff_ne]
          intro h
          exact hz (by rw [← UInt8.toNat_inj]; show _ = 0; omega)
        clear hz
        go_wp2
        go_round
        case rel => exact ⟨j + 1, by go_num, HF.out, by omega⟩
        case measure => simp [intOf]; omega
    · go_wp2
      go_ret
      refine ⟨ret_int ?_, rfl⟩
      have := HN.out
      unfold idxOf
      rw [if_neg (by omega)]

end Go.Proofs.Ytekaedafhiddeaa
