/-
  The order of values, as plain functions.
-/
import Derived.Test.YtinbdneajbommaaDoorVAt
import Derived.Test.YtinbdneajbommaaDoorFFloor
import Derived.Lib.Bytealg
set_option linter.unusedVariables false
set_option maxRecDepth 100000
namespace Go.Proofs.YtinbdneajbommaaDoor
open Go.RowKit

def isNum2 (k : Int) : Bool := k == 2 || k == 3
def rankA (k : Int) : Int := if isNum2 k = true then 2 else k
/-- The first that is not 0. -/
def orI (x y : Int) : Int := if x = 0 then y else x
/-- How numbers stand, exactly. -/
def weighN (k n : Int) (f : Nat) (k' n' : Int) (g : Nat) : Int :=
  if k = 3 then (if k' = 3 then cmpI (keyB f) (keyB g) else -cmpN n' f) else if k' = 3 then cmpN n g else cmpI n n'
def cmpS (s t : ByteArray) : Int := Lib.compareBytes s.data.toList t.data.toList
/-- How atoms stand by what they stand for. -/
def weighA (a b : At) : Int :=
  if cmpI (rankA a.k) (rankA b.k) ≠ 0 then cmpI (rankA a.k) (rankA b.k)
  else if isNum2 a.k = true then weighN a.k a.n a.f b.k b.n b.f
  else orI (cmpI a.n b.n) (cmpS a.s b.s)
def cmpA (a b : At) : Int := orI (weighA a b) (cmpI a.k b.k)
def cmpLs : List At → List At → Int
  | [], [] => 0
  | [], _ :: _ => -1
  | _ :: _, [] => 1
  | a :: l, b :: r => orI (cmpA a b) (cmpLs l r)
/-- P3.2. -/
def cmpV (a : At) (l : List At) (b : At) (r : List At) : Int := if validV a l = true ∧ validV b r = true then orI (cmpA a b) (cmpLs l r) else 0

end Go.Proofs.YtinbdneajbommaaDoor
