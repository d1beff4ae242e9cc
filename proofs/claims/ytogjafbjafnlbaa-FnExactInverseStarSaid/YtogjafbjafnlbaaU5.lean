/- What functions of the program return, as walks over their operations; no statement of the seat is proved here. -/
import Derived.Test.YtogjafbjafnlbaaC11
set_option linter.unusedVariables false
set_option linter.unusedSimpArgs false
namespace Go.Proofs.Ytogjafbjafnlbaa
open Go Go.RowKit Go.Sw Go.Ech
open Classical
theorem ty_ag_25 : aggP Try.prog 25 = some 37 := by kernel_rfl
def sqE (M : Nat → Nat → Nat) (i c : Nat) : Nat := sumTo (fun x => if M x x = c then 1 else 0) i
end Go.Proofs.Ytogjafbjafnlbaa
