/- What functions of the program return, as walks over their operations; no statement of the seat is proved here. -/
import Derived.Test.YtnedojhanlhjkaaW1
import Derived.Test.YtnedojhanlhjkaaSw45
import Derived.Test.YtnedojhanlhjkaaSw10
set_option linter.unusedVariables false
set_option linter.unusedSimpArgs false
namespace Go.Proofs.Ytnedojhanlhjkaa
open Go Go.RowKit Go.Sw Go.Ech
open Classical
theorem ty_on_9 : oneP Try.prog 9 = true := by kernel_rfl
end Go.Proofs.Ytnedojhanlhjkaa
