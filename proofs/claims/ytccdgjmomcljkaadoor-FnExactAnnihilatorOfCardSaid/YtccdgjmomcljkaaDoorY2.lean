import Derived.Test.YtccdgjmomcljkaaDoorY1
import Derived.Test.YtccdgjmomcljkaaDoorSw47
set_option linter.unusedVariables false
set_option linter.unusedSimpArgs false
namespace Go.Proofs.YtccdgjmomcljkaaDoor
open Go Go.RowKit Go.Sw Go.Ech
open Classical
def spE (p n:Nat) (T:Nat→Nat→Nat→Nat) (uu:Nat→Nat) (K t:Nat) (i c:Nat):Nat:=addN p (powW (timesV p n T) uu (fun q=>if q=c then 1 else 0) K) (fun q=>if q=c then 1 else 0) (-(t:Int)) i
theorem eb_le {c:Nat}:∀ q,(fun q=>if q=c then 1 else 0:Nat→Nat) q≤255:=fun q=>by dsimp only;split<;>omega
end Go.Proofs.YtccdgjmomcljkaaDoor
