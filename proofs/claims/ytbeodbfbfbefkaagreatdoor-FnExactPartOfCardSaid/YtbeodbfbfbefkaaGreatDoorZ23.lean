/- What functions of the program return, as walks over their operations; no statement of the seat is proved here. -/
import Derived.Test.YtbeodbfbfbefkaaGreatDoorZ22
import Derived.Test.YtbeodbfbfbefkaaGreatDoorSw10
set_option linter.unusedVariables false
set_option linter.unusedSimpArgs false
namespace Go.Proofs.YtbeodbfbfbefkaaGreatDoor
open Go Go.RowKit Go.Sw Go.Ech
open Classical
theorem ty_ag_26 : aggP Tryz.prog 26 = some 224 := by kernel_rfl
end Go.Proofs.YtbeodbfbfbefkaaGreatDoor
