/-
  Arrays of two strings, in the rows.
-/
import Derived.Test.YtgfdihnpenipjaaRow2B
import Derived.Test.YtgfdihnpenipjaaFRow
set_option linter.unusedVariables false
set_option maxRecDepth 100000
namespace Go.Proofs.Ytgfdihnpenipjaa

theorem cells_str2 : Try.prog.cellsOf 39 = 2 := by kernel_rfl

end Go.Proofs.Ytgfdihnpenipjaa
