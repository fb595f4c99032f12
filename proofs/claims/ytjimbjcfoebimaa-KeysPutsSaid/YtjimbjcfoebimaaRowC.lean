/-
  How many cells a number and a text take.
-/
import Derived.Test.YtjimbjcfoebimaaFRow
set_option linter.unusedVariables false
set_option maxRecDepth 100000
namespace Go.Proofs.Ytjimbjcfoebimaa

theorem cells_str : Try.prog.cellsOf 9 = 1 := by kernel_rfl
theorem cells_int : Try.prog.cellsOf 3 = 1 := by kernel_rfl

end Go.Proofs.Ytjimbjcfoebimaa
