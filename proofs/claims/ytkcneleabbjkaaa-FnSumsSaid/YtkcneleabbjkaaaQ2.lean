import Derived.Test.YtkcneleabbjkaaaQ1
set_option linter.unusedVariables false
set_option linter.unusedSimpArgs false
namespace Go.Proofs.Ytkcneleabbjkaaa
open Go Go.RowKit Go.Sw Go.Ech
open Classical
end Go.Proofs.Ytkcneleabbjkaaa
