/- What functions of the program return, as walks over their operations; no statement of the seat is proved here. -/
import Derived.Test.YtnedojhanlhjkaaX2
set_option linter.unusedVariables false
set_option linter.unusedSimpArgs false
namespace Go.Proofs.Ytnedojhanlhjkaa
open Go Go.RowKit Go.Sw Go.Ech
open Classical
end Go.Proofs.Ytnedojhanlhjkaa
