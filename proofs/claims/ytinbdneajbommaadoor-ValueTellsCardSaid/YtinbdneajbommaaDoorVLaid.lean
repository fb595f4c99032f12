/-
  The condition of layer 3's rows on four tables: what it gives a walk; a world that meets it.
-/
import Derived.Test.YtinbdneajbommaaDoorVPrA
import Derived.Test.YtinbdneajbommaaDoorFRow
import Derived.Test.YtinbdneajbommaaDoorTie
import Derived.ChangeSame
import Derived.ChangeVars
import Derived.Lib.LaidTab
import Derived.Lib.LaidU8
import Derived.Deep.DeepLaidRun
set_option linter.unusedVariables false
set_option maxRecDepth 100000
namespace Go.Proofs.YtinbdneajbommaaDoor
open Go.ChangeShapes Go.WideShapes Go.ChangeAt Go.RowKit

theorem gDigits : Tryd.prog.globalNamed "cobweb/floats.digits" = some 1 := by kernel_rfl
theorem gDigitsT : (Tryd.prog.globals[1]?).map (·.type) = some 98 := by kernel_rfl
theorem gPowT : (Tryd.prog.globals[3]?).map (·.type) = some 134 := by kernel_rfl
theorem cU8 : Tryd.prog.cellsOf 5 = 1 := by kernel_rfl
theorem cU64 : Tryd.prog.cellsOf 40 = 1 := by kernel_rfl
theorem c16 : Tryd.prog.cellsOf 98 = 16 := by kernel_rfl
theorem c20 : Tryd.prog.cellsOf 134 = 20 := by kernel_rfl

def L32 : List Int := [0, 1, 28, 2, 29, 14, 24, 3, 30, 22, 20, 15, 25, 17, 4, 8, 31, 27, 13, 23, 21, 19, 16, 7, 26, 12, 18, 6, 11, 5, 10, 9]
def L64 : List Int := [0, 1, 56, 2, 57, 49, 28, 3, 61, 58, 42, 50, 38, 29, 17, 4, 62, 47, 59, 36, 45, 43, 51, 22, 53, 39, 33, 30, 24, 18, 12, 5, 63, 55, 48, 27, 60, 41, 37, 16, 46, 35, 44, 21, 52, 32, 23, 11, 54, 26, 40, 15, 34, 20, 31, 10, 25, 14, 19, 9, 13, 8, 7, 6]
def LP : List Int := [1, 10, 100, 1000, 10000, 100000, 1000000, 10000000, 100000000, 1000000000, 10000000000, 100000000000, 1000000000000, 10000000000000, 100000000000000, 1000000000000000, 10000000000000000, 100000000000000000, 1000000000000000000, 10000000000000000000]
def LD : List Int := [48, 49, 50, 51, 52, 53, 54, 55, 56, 57, 97, 98, 99, 100, 101, 102]
def cellsI (k : IntKind) (l : List Int) : Array Value := (l.map fun z => Value.int k z).toArray

/-- The rows' list. -/
def laidL : List (String × DataW Unit) := [("math/bits.deBruijn32tab", Rows.laid_math_bits_deBruijn32tab), ("math/bits.deBruijn64tab", Rows.laid_math_bits_deBruijn64tab), ("internal/strconv.uint64pow10", Rows.laid_internal_strconv_uint64pow10), ("cobweb/floats.digits", Rows.laid_cobweb_floats_digits)]

theorem pw_of_laid {W : World} (h : laidMet Tryd.prog laidL W) : PW W := by
  have hd := Lib.laidMet.reads h (n := "cobweb/floats.digits") (d := Lib.tabData .u8 LD) (.tail _ (.tail _ (.tail _ (.head _))))
  have hp := Lib.laidMet.reads h (n := "internal/strconv.uint64pow10") (d := Lib.tabData .u64 LP) (.tail _ (.tail _ (.head _)))
  have hpow : Lib.TabIs Tryd.prog W "internal/strconv.uint64pow10" .u64 Lib.pow10Tab := by
    obtain ⟨g, t, cs, fuel, p, hg, hty, hvar, hd⟩ := hp
    obtain rfl := Option.some.inj (gPow.symm.trans hg)
    obtain rfl := Option.some.inj (gPowT.symm.trans hty)
    have hcs := Lib.cells_of_tab Tryd.underlying134 Tryd.underlying40 cU64 c20 hd
    unfold Lib.TabIs
    rw [hvar]
    have e : Lib.pow10Tab = LP := by decide
    rw [e, ← hcs]
  have htab : Tab W := by
    obtain ⟨g, t, cs, fuel, p, hg, hty, hvar, hd⟩ := hd
    obtain rfl := Option.some.inj (gDigits.symm.trans hg)
    obtain rfl := Option.some.inj (gDigitsT.symm.trans hty)
    have hcs := Lib.cells_of_tab Tryd.underlying98 Tryd.underlying5 cU8 c16 hd
    have hc2 : cs = tabC := by
      apply Array.ext'
      rw [hcs]
      rfl
    subst hc2
    unfold World.var? at hvar
    rw [gDigits, Option.bind_some] at hvar
    split at hvar
    · rename_i cs' t' fr' hh
      obtain rfl := Option.some.inj hvar
      exact ⟨_, _, hh⟩
    · cases hvar
  refine ⟨htab, hpow, ?_⟩
  unfold Lib.TabIs World.var? at hpow
  rw [gPow, Option.bind_some] at hpow
  split at hpow
  · rename_i hh
    exact (Array.getElem?_eq_some_iff.1 hh).1
  · cases hpow

def laidAt (c : Array Value) : Obj → Obj
  | .cells _ t frozen => .cells c t frozen
  | o => o
/-- A world that meets the condition: the settled one, the variables' cells laid. -/
noncomputable def laidWorld (os : Os) : World :=
  { World.holding Tryd.prog os ⟨#[], #[], []⟩ with heap := ((((World.holding Tryd.prog os ⟨#[], #[], []⟩).heap.modify 1 (laidAt (cellsI .u8 LD))).modify 3 (laidAt (cellsI .u64 LP))).modify 6 (laidAt (cellsI .u8 L32))).modify 7 (laidAt (cellsI .u8 L64)) }
theorem laidWorld_met (os : Os) (args : Array Value) : laidMet Tryd.prog laidL ((laidWorld os).forCall (fun _ _ => 0) ⟨#[], args, []⟩).memory :=
  laidMet_of_run3 8 (by kernel_rfl) (by kernel_rfl) (by kernel_rfl)

end Go.Proofs.YtinbdneajbommaaDoor
