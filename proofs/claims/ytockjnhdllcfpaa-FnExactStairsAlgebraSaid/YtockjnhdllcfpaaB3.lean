/- What functions of the program return, as walks over their operations; no statement of the seat is proved here. -/
import Derived.Test.YtockjnhdllcfpaaB2
set_option linter.unusedVariables false
set_option linter.unusedSimpArgs false
namespace Go.Proofs.Ytockjnhdllcfpaa
open Go Go.RowKit Go.Sw Go.Ech
open Classical
def polC (p : Int) (m : Nat) (F : Nat → Int) : Int := if PolP p m F then 0 else 2
end Go.Proofs.Ytockjnhdllcfpaa
