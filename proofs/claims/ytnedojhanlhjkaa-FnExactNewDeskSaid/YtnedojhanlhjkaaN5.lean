/- What functions of the program return, as walks over their operations; no statement of the seat is proved here. -/
import Derived.Test.YtnedojhanlhjkaaN4D
set_option linter.unusedVariables false
set_option linter.unusedSimpArgs false
namespace Go.Proofs.Ytnedojhanlhjkaa
open Go Go.RowKit Go.Sw Go.Ech
open Classical
end Go.Proofs.Ytnedojhanlhjkaa

namespace Go.Proofs.Ytnedojhanlhjkaa
open Go Go.RowKit Go.Sw Go.Ech
open Classical
def mqP (f g : Nat → Nat) (r c d : Nat) : Nat := if d < r * 2 + c then mulSq f g d else 0
end Go.Proofs.Ytnedojhanlhjkaa
