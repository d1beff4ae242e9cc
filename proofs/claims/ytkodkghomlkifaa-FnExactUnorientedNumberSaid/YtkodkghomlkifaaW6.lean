/- What functions of the program return, as walks over their operations; no statement of the seat is proved here. -/
import Derived.Test.YtkodkghomlkifaaW5
import Derived.Test.YtkodkghomlkifaaQ5
set_option linter.unusedVariables false
set_option linter.unusedSimpArgs false
namespace Go.Proofs.Ytkodkghomlkifaa
open Go Go.RowKit Go.Sw Go.Ech
open Classical
theorem e_natInt {m : Nat} {n : Int} (h : (m : Int) = n) : n.toNat = m := by omega

end Go.Proofs.Ytkodkghomlkifaa
