/- What functions of the program return, as walks over their operations; no statement of the seat is proved here. -/
import Derived.Test.YtogjafbjafnlbaaU5
import Derived.Test.YtogjafbjafnlbaaSw10
set_option linter.unusedVariables false
set_option linter.unusedSimpArgs false
namespace Go.Proofs.Ytogjafbjafnlbaa
open Go Go.RowKit Go.Sw Go.Ech
open Classical
theorem ty_bu_37 : ∀ w, (Instr.build 37 #[]).run Try.prog w = .ok (.agg (fnC 6 (fun _ => .int .u8 (0)))) w := by intros; kernel_rfl
theorem ty_us_44 : Try.prog.underlying 44 = some (.slice 46) := by kernel_rfl
theorem ty_sl_44 : sliceOf Try.prog 44 = some 1 := by kernel_rfl
theorem ty_on_46 : oneP Try.prog 46 = true := by kernel_rfl
def sqV (M : Nat → Nat → Nat) (n p c : Nat) : Nat := if c < nC M n then sqE M n (eC M n c 0) % p else 0
end Go.Proofs.Ytogjafbjafnlbaa
