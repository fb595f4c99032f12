/-
  Names: what a name is; plain facts.
-/
import Derived.Test.YtbbgdbnjmonbgabGreatDoorOrd
set_option linter.unusedVariables false
set_option maxRecDepth 100000
namespace Go.Proofs.YtbbgdbnjmonbgabGreatDoor
open Go.RowKit

def isL (c : UInt8) : Bool := (decide (97 ≤ (c.toNat : Int)) && decide ((c.toNat : Int) ≤ 122)) || (decide (65 ≤ (c.toNat : Int)) && decide ((c.toNat : Int) ≤ 90))
def isD (c : UInt8) : Bool := decide (48 ≤ (c.toNat : Int)) && decide ((c.toNat : Int) ≤ 57)
def okC (c : UInt8) : Bool := isL c || (isD c || ((c.toNat : Int) == 95))
/-- P5.1: a name. -/
def nameL : List UInt8 → Bool
  | [] => false
  | c :: t => decide ((c :: t).length ≤ 16) && (!isD c && (c :: t).all okC)
def nameOk (s : ByteArray) : Bool := nameL s.data.toList
theorem nameL_len {l : List UInt8} (h : nameL l = true) : 0 < l.length ∧ l.length ≤ 16 := by
  cases l with
  | nil => cases h
  | cons c t =>
    simp only [nameL, Bool.and_eq_true, decide_eq_true_eq] at h
    exact ⟨by simp, h.1⟩
theorem nameOk_len {s : ByteArray} (h : nameOk s = true) : 0 < s.size ∧ s.size ≤ 16 := nameL_len h

end Go.Proofs.YtbbgdbnjmonbgabGreatDoor
