import Derived.Test.YtkcneleabbjkaaaK12
set_option linter.unusedVariables false
set_option linter.unusedSimpArgs false
namespace Go.Proofs.Ytkcneleabbjkaaa
open Go Go.RowKit Go.Sw Go.Ech
open Classical
def bL (p n:Nat) (T:Nat->Nat->Nat->Nat) (v uu:Nat->Nat) (k j:Nat):Nat:=if j<n then timesS p n T v (fun y=>if y=j then 1 else 0) k else uu k
end Go.Proofs.Ytkcneleabbjkaaa
