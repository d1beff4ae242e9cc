import Derived.Test.YtkcneleabbjkaaaP8
set_option linter.unusedVariables false
set_option linter.unusedSimpArgs false
namespace Go.Proofs.Ytkcneleabbjkaaa
open Go Go.RowKit Go.Sw Go.Ech
open Classical
def Qe (mul:(Nat->Nat)->(Nat->Nat)->Nat->Nat) (u:Nat->Nat) (V:Nat->Nat->Nat):Nat->Nat->Nat
  | 0=>u
  | k+1=>mul (Qe mul u V k) (V k)
end Go.Proofs.Ytkcneleabbjkaaa
