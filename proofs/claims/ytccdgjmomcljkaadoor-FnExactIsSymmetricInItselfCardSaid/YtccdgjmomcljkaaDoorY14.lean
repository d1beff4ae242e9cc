import Derived.Test.YtccdgjmomcljkaaDoorY13
import Derived.Test.YtccdgjmomcljkaaDoorSw47
import Derived.Test.YtccdgjmomcljkaaDoorSw56
set_option linter.unusedVariables false
set_option linter.unusedSimpArgs false
namespace Go.Proofs.YtccdgjmomcljkaaDoor
open Go Go.RowKit Go.Sw Go.Ech
open Classical
end Go.Proofs.YtccdgjmomcljkaaDoor
