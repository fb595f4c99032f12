/-
  Equal and Less, as plain functions.
-/
import Derived.Test.YtmcfeibfbamncaaVCmpS
set_option linter.unusedVariables false
set_option maxRecDepth 100000
namespace Go.Proofs.Ytmcfeibfbamncaa
open Go.RowKit

def nanB (f : Nat) : Bool := FloatKind.f64.format.order f f != some Ordering.eq
def nanA (k : Int) (f : Nat) : Bool := k == 3 && nanB f
def noneA (a : At) : Bool := a.k == 0 || nanA a.k a.f
def noneV (a : At) (l : List At) : Bool := noneA a || l.any noneA
def unkV (a : At) (l : List At) : Bool := a.k == 0 || !validV a l
def likeA (a b : At) : Bool := weighA a b == 0
def likeLs (l r : List At) : Bool := decide (l.length = r.length) && (l.zip r).all fun p => likeA p.1 p.2
def ansI (b : Bool) : Int := if b = true then 1 else 0
/-- P3.3. -/
def equalV (a : At) (l : List At) (b : At) (r : List At) : Int :=
  if (unkV a l || unkV b r) = true then 2 else if (noneV a l || noneV b r) = true then 0 else ansI (likeA a b && likeLs l r)
def lessV (a : At) (l : List At) (b : At) (r : List At) : Int :=
  if (unkV a l || (unkV b r || (rankA a.k != rankA b.k || a.k == 6))) = true then 2 else if (nanA a.k a.f || nanA b.k b.f) = true then 0 else ansI (decide (weighA a b < 0))

end Go.Proofs.Ytmcfeibfbamncaa
