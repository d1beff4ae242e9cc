/- What functions of the program return, as walks over their operations; no statement of the seat is proved here. -/
import Derived.Test.YtockjnhdllcfpaaJ7
import Derived.Test.YtockjnhdllcfpaaSw27
import Derived.Test.YtockjnhdllcfpaaSw98
import Derived.Test.YtockjnhdllcfpaaSw53
set_option linter.unusedVariables false
set_option linter.unusedSimpArgs false
namespace Go.Proofs.Ytockjnhdllcfpaa
open Go Go.RowKit Go.Sw Go.Ech
open Classical
theorem ty_fo_52_1 : fieldOff Try.prog 52 1 = some 1 := by kernel_rfl
theorem ty_fo_52_0 : fieldOff Try.prog 52 0 = some 0 := by kernel_rfl
end Go.Proofs.Ytockjnhdllcfpaa
