import Derived.Test.YtkcneleabbjkaaaA12
set_option linter.unusedVariables false
set_option linter.unusedSimpArgs false
namespace Go.Proofs.Ytkcneleabbjkaaa
open Go Go.RowKit Go.Sw Go.Ech
open Classical
section
variable {P : Program} {fn : Func} {a : Act} {w : World}
end
def QJ {G:Type} (l:List (G->Value->Prop)):Facts G:=fun j g v _=>(l.getD j (fun _ _=>True)) g v
end Go.Proofs.Ytkcneleabbjkaaa
