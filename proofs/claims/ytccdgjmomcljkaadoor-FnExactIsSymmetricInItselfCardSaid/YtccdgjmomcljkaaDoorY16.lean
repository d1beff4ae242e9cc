import Derived.Test.YtccdgjmomcljkaaDoorY15
import Derived.Test.YtccdgjmomcljkaaDoorEch17
set_option linter.unusedVariables false
set_option linter.unusedSimpArgs false
namespace Go.Proofs.YtccdgjmomcljkaaDoor
open Go Go.RowKit Go.Sw Go.Ech
open Classical
def mrw (Z k t:Nat) (xs:Nat→Value):Array Value:=fnC Z (fun c=>if c<t then .int .u8 (((k+c)%256:Nat):Int) else xs c)
theorem mrw_size {Z k t:Nat}{xs:Nat→Value}:(mrw Z k t xs).size=Z:=fnC_size _ _
end Go.Proofs.YtccdgjmomcljkaaDoor
