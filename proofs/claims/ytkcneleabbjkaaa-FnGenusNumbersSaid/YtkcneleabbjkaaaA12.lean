import Derived.Test.YtkcneleabbjkaaaA11
set_option linter.unusedVariables false
set_option linter.unusedSimpArgs false
namespace Go.Proofs.Ytkcneleabbjkaaa
open Go Go.RowKit Go.Sw Go.Ech
open Classical
def R6 (l:List (Array Value->Value->Prop)):Facts (Array Value):=fun j g v _=>(l.getD j (fun _ _=>True)) g v
end Go.Proofs.Ytkcneleabbjkaaa
