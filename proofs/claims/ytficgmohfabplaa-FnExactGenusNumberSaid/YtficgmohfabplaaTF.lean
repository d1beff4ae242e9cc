/- What functions of the program return, as walks over their operations; no statement of the seat is proved here. -/
import Derived.Test.YtficgmohfabplaaG12
set_option linter.unusedVariables false
set_option linter.unusedSimpArgs false
namespace Go.Proofs.Ytficgmohfabplaa
open Go Go.RowKit Go.Sw
open Classical
theorem ty_ag_26 : aggP Try.prog 26 = some 224 := by kernel_rfl
end Go.Proofs.Ytficgmohfabplaa
