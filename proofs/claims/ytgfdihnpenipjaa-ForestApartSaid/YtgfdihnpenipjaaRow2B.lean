/-
  Arrays of two slices of bytes, in the rows.
-/
import Derived.Test.YtgfdihnpenipjaaRow
set_option linter.unusedVariables false
set_option maxRecDepth 100000
namespace Go.Proofs.Ytgfdihnpenipjaa

theorem cells_sl : Try.prog.cellsOf 22 = 1 := by kernel_rfl
theorem cells_sl2 : Try.prog.cellsOf 23 = 2 := by kernel_rfl

end Go.Proofs.Ytgfdihnpenipjaa
