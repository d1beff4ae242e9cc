import Derived.Test.YtmlnjicajdbjlaaGreatDoorY2
set_option linter.unusedVariables false
set_option linter.unusedSimpArgs false
namespace Go.Proofs.YtmlnjicajdbjlaaGreatDoor
open Go Go.RowKit Go.Sw Go.Ech
open Classical
end Go.Proofs.YtmlnjicajdbjlaaGreatDoor
