import Derived.Test.YtmlnjicajdbjlaaGreatDoorZ21
set_option linter.unusedVariables false
set_option linter.unusedSimpArgs false
namespace Go.Proofs.YtmlnjicajdbjlaaGreatDoor
open Go Go.RowKit Go.Sw Go.Ech
open Classical
theorem ty_ag_26:aggP Tryz.prog 26=some 224:=by kernel_rfl
end Go.Proofs.YtmlnjicajdbjlaaGreatDoor
