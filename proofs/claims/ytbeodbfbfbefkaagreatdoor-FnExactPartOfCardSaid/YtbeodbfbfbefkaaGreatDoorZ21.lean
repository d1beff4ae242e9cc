/- What functions of the program return, as walks over their operations; no statement of the seat is proved here. -/
import Derived.Test.YtbeodbfbfbefkaaGreatDoorZ20
set_option linter.unusedVariables false
set_option linter.unusedSimpArgs false
namespace Go.Proofs.YtbeodbfbfbefkaaGreatDoor
open Go Go.RowKit Go.Sw Go.Ech
open Classical
def NilS (w0 : World) (L : Own) (p n : Nat) (M : Nat → Nat → Nat) (u : Value) (w' : World) : Prop := ∃ r V, IsKer p n M n r V ∧ FreshV w0 L r (fun c => .int .u8 (((padN n V) (c / 6) (c % 6) : Nat) : Int)) u w'
def LenR (N : Nat) (u : Value) (_ : World) : Prop := ∃ x c, u = .slice x N c
end Go.Proofs.YtbeodbfbfbefkaaGreatDoor
