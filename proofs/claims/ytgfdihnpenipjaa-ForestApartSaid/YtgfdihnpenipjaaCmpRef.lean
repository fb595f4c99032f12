/-
  The reference's Compare tells the order of two byte slices: its contract.
-/
import Derived.Test.YtgfdihnpenipjaaBytes
import Derived.Test.YtgfdihnpenipjaaOrd
import Derived.Deep.QuietTactic
import Derived.BigQuiet
set_option linter.unusedVariables false
set_option maxRecDepth 100000
namespace Go.Proofs.Ytgfdihnpenipjaa
open Go.RowKit

set_option maxHeartbeats 800000 in
theorem oRefCompare_any {w : World} {p q : Option Addr} {l m : List UInt8} (hl : Bs w p l) (hm : Bs w q m) (n c k d : Nat) (hn : n = l.length) (hk : k = m.length) (hnl : n ≤ 9223372036854775807) (hkl : k ≤ 9223372036854775807) :
    Calls Try.prog 15 #[.slice p n c, .slice q k d] w fun e w' => e = .returned (.int .i64 (Lib.compareBytes l m)) ∧ Below w.heap.size w w' := by
  obtain rfl := hn
  obtain rfl := hk
  go_enter Try.func15, Try.ntmps15
  go_wp2
  go_loopw [5] (fun i wr => ∃ j : Nat, i = .int .i64 j ∧ j ≤ l.length ∧ j ≤ m.length ∧ Lib.compareBytes l m = Lib.compareBytes (l.drop j) (m.drop j) ∧ Below w.heap.size w wr) (fun i _ => l.length - (intOf i).toNat)
  case atStart => exact ⟨0, rfl, by omega, by omega, rfl, Below.refl _ _⟩
  case round =>
    obtain ⟨j, rfl, hjl, hjm, hcmp, hb⟩ := hrel
    have HB := Lib.hid hb
    have HC := Lib.hid hcmp
    clear hcmp hb
    by_cases h1 : j < l.length
    · by_cases h2 : j < m.length
      · obtain ⟨b, o, rfl, _, hc1⟩ := (hl.below HB.out).at (by omega)
        obtain ⟨b', o', rfl, _, hc2⟩ := (hm.below HB.out).at (by omega)
        have hx := hc1 j h1
        have hy := hc2 j h2
        have HL := Lib.hid hl
        have HM := Lib.hid hm
        clear hc1 hc2 hl hm
        have hbd : ∀ n, Below w.heap.size w (wr.drewN n) := fun n => belowN HB.out n
        have HBD := Lib.hid hbd
        clear hbd
        rcases Nat.lt_trichotomy l[j].toNat m[j].toNat with ht | ht | ht
        · have hlt : (l[j].toNat : Int) < (m[j].toNat : Int) := by omega
          have HT := Lib.hid (HC.out.trans (cmp_lt h1 h2 hlt))
          clear ht
          go_wp2
          go_quiet (fail)
          go_wp2
          go_ret
          exact ⟨ret_int HT.out.symm, by first | exact HBD.out _ | exact belowN (HBD.out _) _⟩
        · have hge : ¬ ((l[j].toNat : Int) < (m[j].toNat : Int)) := by omega
          have hge' : ¬ ((m[j].toNat : Int) < (l[j].toNat : Int)) := by omega
          have HT := Lib.hid (HC.out.trans (cmp_eq h1 h2 ht))
          clear ht
          go_wp2
          go_quiet (fail)
          go_wp2
          go_quiet (fail)
          go_wp2
          go_roundw
          case rel => exact ⟨j + 1, by go_num, by omega, by omega, HT.out, by first | exact HBD.out _ | exact belowN (HBD.out _) _⟩
          case measure => simp [intOf]; omega
        · have hge : ¬ ((l[j].toNat : Int) < (m[j].toNat : Int)) := by omega
          have hgt : ((m[j].toNat : Int) < (l[j].toNat : Int)) := by omega
          have HT := Lib.hid (HC.out.trans (cmp_gt h1 h2 hgt))
          clear ht
          go_wp2
          go_quiet (fail)
          go_wp2
          go_quiet (fail)
          go_wp2
          go_ret
          exact ⟨ret_int HT.out.symm, by first | exact HBD.out _ | exact belowN (HBD.out _) _⟩
      · have he := cmp_end (l := l) (m := m) (k := j) (by omega) hjl hjm
        have HE := Lib.hid (HC.out.trans he)
        clear he
        go_wp2
        all_goals go_ret
        all_goals refine ⟨ret_int ?_, HB.out⟩
        all_goals rw [HE.out]
        all_goals split <;> first | rfl | omega | (split <;> first | rfl | omega)
    · have he := cmp_end (l := l) (m := m) (k := j) (by omega) hjl hjm
      have HE := Lib.hid (HC.out.trans he)
      clear he
      go_wp2
      all_goals go_ret
      all_goals refine ⟨ret_int ?_, HB.out⟩
      all_goals rw [HE.out]
      all_goals split <;> first | rfl | omega | (split <;> first | rfl | omega)

end Go.Proofs.Ytgfdihnpenipjaa
