/- What functions of the program return, as walks over their operations; no statement of the seat is proved here. -/
import Derived.Test.YtmlnjicajdbjlaaDoorZ11
import Derived.Test.YtmlnjicajdbjlaaDoorQ9
set_option linter.unusedVariables false
set_option linter.unusedSimpArgs false
namespace Go.Proofs.YtmlnjicajdbjlaaDoor
open Go Go.RowKit Go.Sw Go.Ech
open Classical
theorem ty_ag_26 : aggP Tryd.prog 26 = some 224 := by kernel_rfl
def cutR (n R : Nat) (W : Nat → Nat → Nat) (i c : Nat) : Nat := if i < R ∧ c < n then W i c else 0
end Go.Proofs.YtmlnjicajdbjlaaDoor
