/-
  What the calls on values tell, as plain functions.
-/
import Derived.Test.YtjimbjcfoebimaaVAt
set_option linter.unusedVariables false
set_option maxRecDepth 100000
namespace Go.Proofs.Ytjimbjcfoebimaa
open Go.RowKit

/-- P3.1. -/
def validV (a : At) (l : List At) : Bool :=
  if a.k = 6 then validA 0 a.n a.f a.s && (decide ((l.length : Int) ≤ 16) && !l.any fun a => !a.valid) else ((l.length : Int) == 0) && a.valid

/-- Two atoms that are the same. -/
def sameA (a b : At) : Bool := a.k == b.k && (a.n == b.n && ((a.f : Int) == (b.f : Int) && a.s.toList == b.s.toList))
/-- Two values that are the same. -/
def sameV (a : At) (l : List At) (b : At) (r : List At) : Bool := sameA a b && (decide (l.length = r.length) && ((l.zip r).all fun p => sameA p.1 p.2))

end Go.Proofs.Ytjimbjcfoebimaa
