/- What functions of the program return, as walks over their operations; no statement of the seat is proved here. -/
import Derived.Test.YtlpccepifehilaaT2
import Derived.Test.YtlpccepifehilaaEch6
set_option linter.unusedVariables false
set_option linter.unusedSimpArgs false
namespace Go.Proofs.Ytlpccepifehilaa
open Go Go.RowKit Go.Sw Go.Ech
open Classical
theorem ty_sl_22 : sliceOf Try.prog 22 = some 1 := by kernel_rfl
theorem ty_on_2 : oneP Try.prog 2 = true := by kernel_rfl
end Go.Proofs.Ytlpccepifehilaa
