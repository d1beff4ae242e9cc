import Derived.Test.YtmlnjicajdbjlaaGreatDoorZ13
set_option linter.unusedVariables false
set_option linter.unusedSimpArgs false
namespace Go.Proofs.YtmlnjicajdbjlaaGreatDoor
open Go Go.RowKit Go.Sw Go.Ech
open Classical
end Go.Proofs.YtmlnjicajdbjlaaGreatDoor
namespace Go.Proofs.YtmlnjicajdbjlaaGreatDoor
open Go Go.RowKit Go.Sw Go.Ech
open Classical
end Go.Proofs.YtmlnjicajdbjlaaGreatDoor
namespace Go.Proofs.YtmlnjicajdbjlaaGreatDoor
open Go Go.RowKit Go.Sw Go.Ech
open Classical
end Go.Proofs.YtmlnjicajdbjlaaGreatDoor
