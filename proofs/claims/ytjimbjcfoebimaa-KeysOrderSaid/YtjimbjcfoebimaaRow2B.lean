/-
  Arrays of two slices of bytes, in the rows.
-/
import Derived.Test.YtjimbjcfoebimaaRow
set_option linter.unusedVariables false
set_option maxRecDepth 100000
namespace Go.Proofs.Ytjimbjcfoebimaa

theorem cells_sl : Try.prog.cellsOf 33 = 1 := by kernel_rfl
theorem cells_sl2 : Try.prog.cellsOf 36 = 2 := by kernel_rfl

end Go.Proofs.Ytjimbjcfoebimaa
