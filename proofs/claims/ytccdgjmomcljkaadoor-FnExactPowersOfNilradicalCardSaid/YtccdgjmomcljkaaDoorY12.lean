import Derived.Test.YtccdgjmomcljkaaDoorY11
import Derived.Test.YtccdgjmomcljkaaDoorSw56
set_option linter.unusedVariables false
set_option linter.unusedSimpArgs false
namespace Go.Proofs.YtccdgjmomcljkaaDoor
open Go Go.RowKit Go.Sw Go.Ech
open Classical
def imA (p n:Nat) (T:Nat→Nat→Nat→Nat) (v:Nat→Nat) (i c:Nat):Nat:=timesV p n T (fun x=>if x=i then 1 else 0) v c
def catB (β γ:Nat→Nat) (k i:Nat):Nat:=if i<k then β i else γ (i - k)
end Go.Proofs.YtccdgjmomcljkaaDoor
