/- What functions of the program return, as walks over their operations; no statement of the seat is proved here. -/
import Derived.Test.YthgbonkfhcnmfaaJ4
import Derived.Test.YthgbonkfhcnmfaaSw29
set_option linter.unusedVariables false
set_option linter.unusedSimpArgs false
namespace Go.Proofs.Ythgbonkfhcnmfaa
open Go Go.RowKit Go.Sw Go.Ech
open Classical
theorem ty_us_22 : Try.prog.underlying 22 = some (.slice 45) := by kernel_rfl
theorem ty_sl_22 : sliceOf Try.prog 22 = some 1 := by kernel_rfl
theorem ty_on_45 : oneP Try.prog 45 = true := by kernel_rfl
def szV (k l : Nat) : Int := if l ≤ k then ((k - l : Nat) : Int) else -1
end Go.Proofs.Ythgbonkfhcnmfaa
