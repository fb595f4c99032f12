/-
  Print's escape: which byte is told by its digits, which with a mark ahead.
-/
import Derived.Test.YtckmajcophpddaaDoorBytes
set_option linter.unusedVariables false
set_option linter.unusedSimpArgs false
set_option maxRecDepth 100000
namespace Go.Proofs.YtckmajcophpddaaDoor
open Go.RowKit

def codeC (c : UInt8) : Bool := decide ((c.toNat : Int) < 32) || decide (126 < (c.toNat : Int))
def markC (c : UInt8) : Bool := decide ((c.toNat : Int) = 34) || decide ((c.toNat : Int) = 92)
def hexE : List UInt8 := [48, 49, 50, 51, 52, 53, 54, 55, 56, 57, 97, 98, 99, 100, 101, 102]
def escC (c : UInt8) : List UInt8 := if codeC c = true then [92, 120, hexE[c.toNat / 16]!, hexE[c.toNat % 16]!] else if markC c = true then [92, c] else [c]
/-- A text's bytes between the marks. -/
def escS (l : List UInt8) : List UInt8 := l.flatMap escC
theorem escC_len (c : UInt8) : (escC c).length ≤ 4 := by
  unfold escC
  split
  · simp
  · split <;> simp
theorem escS_len : ∀ l : List UInt8, (escS l).length ≤ 4 * l.length
  | [] => by simp [escS]
  | c :: l => by
    have h1 := escC_len c
    have h2 := escS_len l
    simp only [escS, List.flatMap_cons, List.length_append, List.length_cons] at h2 ⊢
    omega
theorem escS_snoc (l : List UInt8) (c : UInt8) : escS (l ++ [c]) = escS l ++ escC c := by simp [escS]

theorem isCode_any {w : World} (c : UInt8) :
    Calls Tryd.prog 45 #[.int .u8 (c.toNat : Int)] w fun e w' => e = .returned (.bool (codeC c)) ∧ w' = w := by
  unfold codeC
  go_enter Tryd.func45, Tryd.ntmps45
  by_cases h1 : (c.toNat : Int) < 32
  · go_wp2
    go_ret
    simp [h1]
  · by_cases h2 : 126 < (c.toNat : Int)
    · go_wp2
      go_ret
      simp [h1, h2]
    · go_wp2
      go_ret
      simp [h1, h2]

theorem isMark_any {w : World} (c : UInt8) :
    Calls Tryd.prog 47 #[.int .u8 (c.toNat : Int)] w fun e w' => e = .returned (.bool (markC c)) ∧ w' = w := by
  unfold markC
  go_enter Tryd.func47, Tryd.ntmps47
  by_cases h1 : (c.toNat : Int) = 34
  · go_wp2
    go_ret
    simp [h1]
  · by_cases h2 : (c.toNat : Int) = 92
    · go_wp2
      go_ret
      simp [h1, h2]
    · go_wp2
      go_ret
      simp [h1, h2]

end Go.Proofs.YtckmajcophpddaaDoor
