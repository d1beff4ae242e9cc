import Derived.Test.YtccdgjmomcljkaaDoorY7
set_option linter.unusedVariables false
set_option linter.unusedSimpArgs false
namespace Go.Proofs.YtccdgjmomcljkaaDoor
open Go Go.RowKit Go.Sw Go.Ech
open Classical
theorem ty_ze_2:zeroP Tryd.prog 2=some (.int .i64 (0)):=by kernel_rfl
theorem ty_on_71:oneP Tryd.prog 71=true:=by kernel_rfl
end Go.Proofs.YtccdgjmomcljkaaDoor
