import Derived.Test.YtccdgjmomcljkaaDoorY19
set_option linter.unusedVariables false
set_option linter.unusedSimpArgs false
namespace Go.Proofs.YtccdgjmomcljkaaDoor
open Go Go.RowKit Go.Sw Go.Ech
open Classical
end Go.Proofs.YtccdgjmomcljkaaDoor
