/-
  FloatsReads: any key, and any digits, are the document's float, or none. Conditions: none but that the table of digits lies as the text lays it.
-/
import Derived.Test.YtjjebmgcbgeehaaDoorFParse
import Derived.Test.YtjjebmgcbgeehaaDoorLawFTells
set_option linter.unusedVariables false
namespace Go.Proofs.YtjjebmgcbgeehaaDoor
open Go.RowKit

set_option maxHeartbeats 1600000 in
theorem lawReads_any {w : World} (hT : Tab w) (k : Nat) (hk : k < 18446744073709551616) (s : ByteArray) :
    Calls Tryd.prog 4 #[.int .u64 (k : Int), .string s] w fun e w' => e = .returned (.bool true) ∧ w = w' := by
  have A1 := Lib.hid (of_any (w := w) k hk)
  have A2 := Lib.hid (refOf_any (w := w) k hk)
  have B1 := Lib.hid (parse_any hT s)
  have B2 := Lib.hid (refParse_any (w := w) s)
  have C1 := Lib.hid (same_any (w := w) (ofB k).1 (ofB k).1 true (by simp))
  have C2 := Lib.hid (same_any (w := w) (parB s.data.toList).1 (parB s.data.toList).1 true (by simp))
  have D1 := key_any (w := w) 4611686018427387904 (by omega)
  rw [show keyB 4611686018427387904 = 13835058055282163712 from by decide +kernel] at D1
  replace D1 := Lib.hid D1
  have D2 := of_any (w := w) 13835058055282163712 (by omega)
  rw [show ofB 13835058055282163712 = (4611686018427387904, true) from by decide +kernel] at D2
  replace D2 := Lib.hid D2
  have hz : (FloatKind.f64.format.order 4611686018427387904 4611686018427387904 == some Ordering.eq) = true := by decide +kernel
  clear hk hT
  obtain ⟨a, b⟩ := ofB k
  obtain ⟨c, d⟩ := parB s.data.toList
  go_enter Tryd.func4, Tryd.ntmps4
  go_wp2_with fail
  (with_reducible refine A1.out.mono ?_); rintro e w' ⟨rfl, rfl⟩
  go_wp2_with fail
  (with_reducible refine A2.out.mono ?_); rintro e w' ⟨rfl, rfl⟩
  go_wp2_with fail
  (with_reducible refine B1.out.mono ?_); rintro e w' ⟨rfl, rfl⟩
  go_wp2_with fail
  (with_reducible refine B2.out.mono ?_); rintro e w' ⟨rfl, rfl⟩
  go_wp2_with fail
  refine D1.out.mono ?_; rintro e w' ⟨rfl, rfl⟩
  go_wp2_with fail
  refine D2.out.mono ?_; rintro e w' ⟨rfl, rfl⟩
  go_wp2_with fail
  (with_reducible refine C1.out.mono ?_); rintro e w' ⟨rfl, rfl⟩
  go_wp2_with fail
  (with_reducible refine C2.out.mono ?_); rintro e w' ⟨rfl, rfl⟩
  go_wp2
  go_ret
  exact ⟨rfl, rfl⟩

end Go.Proofs.YtjjebmgcbgeehaaDoor
