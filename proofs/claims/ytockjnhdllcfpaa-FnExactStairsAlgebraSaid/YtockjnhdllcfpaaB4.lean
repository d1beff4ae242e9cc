/- What functions of the program return, as walks over their operations; no statement of the seat is proved here. -/
import Derived.Test.YtockjnhdllcfpaaB3
set_option linter.unusedVariables false
set_option linter.unusedSimpArgs false
namespace Go.Proofs.Ytockjnhdllcfpaa
open Go Go.RowKit Go.Sw Go.Ech
open Classical
def natF (m : Nat) (F : Nat → Int) (i : Nat) : Nat := if i < m then (F i).toNat else 0
end Go.Proofs.Ytockjnhdllcfpaa
