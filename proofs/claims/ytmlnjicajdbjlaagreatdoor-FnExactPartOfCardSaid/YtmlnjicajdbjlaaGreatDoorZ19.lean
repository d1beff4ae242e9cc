import Derived.Test.YtmlnjicajdbjlaaGreatDoorZ18
set_option linter.unusedVariables false
set_option linter.unusedSimpArgs false
namespace Go.Proofs.YtmlnjicajdbjlaaGreatDoor
open Go Go.RowKit Go.Sw Go.Ech
open Classical
theorem ty_bl_58:∀ (p n:Int) (T:Nat→Nat→Nat→Nat) (f e:Nat→Nat) w,(Instr.build 58 #[(0,.agg (algC p n T f)),(1,.agg (vecC e))]).run Tryz.prog w = .ok (.agg (lpC p n T f e)) w:=by intros;kernel_rfl
end Go.Proofs.YtmlnjicajdbjlaaGreatDoor
