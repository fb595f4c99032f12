/-
  The condition of layer 3's rows on eight variables (tables, strconv's two errors): what it gives a walk; a world that meets it.
-/
import Derived.Test.YtckmajcophpddaaDoorVRdW
import Derived.Test.YtckmajcophpddaaDoorFRow
import Derived.Test.YtckmajcophpddaaDoorTie
import Derived.ChangeSame
import Derived.ChangeVars
import Derived.Lib.LaidTab
import Derived.Lib.LaidU8
import Derived.Stop.LaidErr
import Derived.LaidMore
import Derived.Lay
import Derived.Stop.Joined
import Derived.MakeChecks
set_option linter.unusedVariables false
set_option maxRecDepth 100000
namespace Go.Proofs.YtckmajcophpddaaDoor
open Go.ChangeShapes Go.WideShapes Go.ChangeAt Go.RowKit

theorem gDigits : Tryd.prog.globalNamed "cobweb/floats.digits" = some 1 := by kernel_rfl
theorem gDigitsT : (Tryd.prog.globals[1]?).map (·.type) = some 82 := by kernel_rfl
theorem gPowT : (Tryd.prog.globals[3]?).map (·.type) = some 124 := by kernel_rfl
theorem gErrS : Tryd.prog.globalNamed "strconv.ErrSyntax" = some 4 := by kernel_rfl
theorem gErrST : (Tryd.prog.globals[4]?).map (·.type) = some 70 := by kernel_rfl
theorem gErrR : Tryd.prog.globalNamed "strconv.ErrRange" = some 5 := by kernel_rfl
theorem gErrRT : (Tryd.prog.globals[5]?).map (·.type) = some 70 := by kernel_rfl
theorem cU8 : Tryd.prog.cellsOf 5 = 1 := by kernel_rfl
theorem cU64 : Tryd.prog.cellsOf 52 = 1 := by kernel_rfl
theorem c16 : Tryd.prog.cellsOf 82 = 16 := by kernel_rfl
theorem c20 : Tryd.prog.cellsOf 124 = 20 := by kernel_rfl

def LP : List Int := [1, 10, 100, 1000, 10000, 100000, 1000000, 10000000, 100000000, 1000000000, 10000000000, 100000000000, 1000000000000, 10000000000000, 100000000000000, 1000000000000000, 10000000000000000, 100000000000000000, 1000000000000000000, 10000000000000000000]
def LD : List Int := [48, 49, 50, 51, 52, 53, 54, 55, 56, 57, 97, 98, 99, 100, 101, 102]

/-- The rows' list. -/
def laidL : List (String × DataW Unit) := [("math/bits.deBruijn32tab", Rows.laid_math_bits_deBruijn32tab), ("math/bits.deBruijn64tab", Rows.laid_math_bits_deBruijn64tab), ("internal/strconv.uint64pow10", Rows.laid_internal_strconv_uint64pow10), ("unicode/utf8.acceptRanges", Rows.laid_unicode_utf8_acceptRanges), ("strconv.ErrRange", Rows.laid_strconv_ErrRange), ("strconv.ErrSyntax", Rows.laid_strconv_ErrSyntax), ("cobweb/floats.digits", Rows.laid_cobweb_floats_digits), ("unicode/utf8.first", Rows.laid_unicode_utf8_first)]

theorem pw_of_laid {W : World} (h : laidMet Tryd.prog laidL W) : PW W := by
  have hd := Lib.laidMet.reads h (n := "cobweb/floats.digits") (d := Lib.tabData .u8 LD) (.tail _ (.tail _ (.tail _ (.tail _ (.tail _ (.tail _ (.head _)))))))
  have hp := Lib.laidMet.reads h (n := "internal/strconv.uint64pow10") (d := Lib.tabData .u64 LP) (.tail _ (.tail _ (.head _)))
  have hpow : Lib.TabIs Tryd.prog W "internal/strconv.uint64pow10" .u64 Lib.pow10Tab := by
    obtain ⟨g, t, cs, fuel, p, hg, hty, hvar, hd⟩ := hp
    obtain rfl := Option.some.inj (gPow.symm.trans hg)
    obtain rfl := Option.some.inj (gPowT.symm.trans hty)
    have hcs := Lib.cells_of_tab Tryd.underlying124 Tryd.underlying52 cU64 c20 hd
    unfold Lib.TabIs
    rw [hvar]
    have e : Lib.pow10Tab = LP := by decide
    rw [e, ← hcs]
  have htab : Tab W := by
    obtain ⟨g, t, cs, fuel, p, hg, hty, hvar, hd⟩ := hd
    obtain rfl := Option.some.inj (gDigits.symm.trans hg)
    obtain rfl := Option.some.inj (gDigitsT.symm.trans hty)
    have hcs := Lib.cells_of_tab Tryd.underlying82 Tryd.underlying5 cU8 c16 hd
    have hc2 : cs = tabC := by
      apply Array.ext'
      rw [hcs]
      rfl
    subst hc2
    unfold World.var? at hvar
    rw [gDigits, Option.bind_some] at hvar
    split at hvar
    · rename_i cs' t' fr' hh
      obtain rfl := Option.some.inj hvar
      exact ⟨_, _, hh⟩
    · cases hvar
  refine ⟨htab, hpow, ?_⟩
  unfold Lib.TabIs World.var? at hpow
  rw [gPow, Option.bind_some] at hpow
  split at hpow
  · rename_i hh
    exact (Array.getElem?_eq_some_iff.1 hh).1
  · cases hpow

theorem errStar : "*" ++ "errors.errorString" = "*errors.errorString" := by decide
theorem errOnly (u : TypeId) (h : Tryd.prog.typeName? 3 u = some "*errors.errorString") : u = 143 :=
  typeName_ptr_named (nm := "errors.errorString") (by rw [errStar]; kernel_rfl) (by kernel_rfl) (by decide) u (by rw [errStar]; exact h)

theorem rw_of_laid {W : World} (h : laidMet Tryd.prog laidL W) : RW W := by
  have h4 := h.tail.tail.tail.tail
  have h5 := h4.tail
  obtain ⟨a, s, hv, _⟩ := laid_sentinel (nm := "*errors.errorString") (tp := 143) (te := 145) (ts := 9) h4 gErrR gErrRT Tryd.underlying70 errOnly Tryd.underlying143 Tryd.underlying145 rfl rfl Tryd.underlying9 (by kernel_rfl) (by kernel_rfl)
  obtain ⟨a2, s2, hv2, _⟩ := laid_sentinel (nm := "*errors.errorString") (tp := 143) (te := 145) (ts := 9) h5 gErrS gErrST Tryd.underlying70 errOnly Tryd.underlying143 Tryd.underlying145 rfl rfl Tryd.underlying9 (by kernel_rfl) (by kernel_rfl)
  have c5 : W.cell? ⟨5, 0, none⟩ = some (.iface 143 (.pointer (some a))) := by rw [World.var?_cell gErrR hv 0]; rfl
  have c4 : W.cell? ⟨4, 0, none⟩ = some (.iface 143 (.pointer (some a2))) := by rw [World.var?_cell gErrS hv2 0]; rfl
  exact ⟨pw_of_laid h, ⟨_, _, c4⟩, ⟨_, _, c5⟩, World.block_lt_of_cell? _ _ c5⟩

end Go.Proofs.YtckmajcophpddaaDoor
