/- What functions of the program return, as walks over their operations; no statement of the seat is proved here. -/
import Derived.Test.YtcheokblafncbaaJ8
set_option linter.unusedVariables false
set_option linter.unusedSimpArgs false
namespace Go.Proofs.Ytcheokblafncbaa
open Go Go.RowKit Go.Sw Go.Ech
open Classical
def tTp (n : Nat) (M r : Nat → Nat → Nat) (a b i j k : Nat) : Nat := if i < n ∧ j < n ∧ k = M i j then (if i < a ∨ (i = a ∧ j < b) then r i j else 1) else 0
def tT (n : Nat) (M r : Nat → Nat → Nat) (i j k : Nat) : Nat := if i < n ∧ j < n ∧ k = M i j then r i j else 0
end Go.Proofs.Ytcheokblafncbaa
