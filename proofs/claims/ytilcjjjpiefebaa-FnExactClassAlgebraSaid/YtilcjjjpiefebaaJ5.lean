/- What functions of the program return, as walks over their operations; no statement of the seat is proved here. -/
import Derived.Test.YtilcjjjpiefebaaJ4
import Derived.Test.YtilcjjjpiefebaaSw65
set_option linter.unusedVariables false
set_option linter.unusedSimpArgs false
namespace Go.Proofs.Ytilcjjjpiefebaa
open Go Go.RowKit Go.Sw Go.Ech
open Classical
theorem ty_us_26 : Try.prog.underlying 26 = some (.slice 42) := by kernel_rfl
theorem ty_sl_26 : sliceOf Try.prog 26 = some 1 := by kernel_rfl
theorem ty_on_42 : oneP Try.prog 42 = true := by kernel_rfl
theorem ty_si_42 : slI Try.prog 42 = some (2, some (.int .i64 (0)), 1, 8) := by kernel_rfl
theorem ty_si_26 : slI Try.prog 26 = some (42, some (.slice none 0 0), 1, 24) := by kernel_rfl
def szV (k l : Nat) : Int := if l ≤ k then ((k - l : Nat) : Int) else -1
end Go.Proofs.Ytilcjjjpiefebaa
