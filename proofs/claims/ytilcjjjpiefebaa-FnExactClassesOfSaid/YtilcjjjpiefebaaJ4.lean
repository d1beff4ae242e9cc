/- What functions of the program return, as walks over their operations; no statement of the seat is proved here. -/
import Derived.Test.YtilcjjjpiefebaaJ3
set_option linter.unusedVariables false
set_option linter.unusedSimpArgs false
namespace Go.Proofs.Ytilcjjjpiefebaa
open Go Go.RowKit Go.Sw Go.Ech
open Classical
def gTp (n : Nat) (M : Nat → Nat → Nat) (i0 j0 i j k : Nat) : Nat := if (i < i0 ∨ (i = i0 ∧ j < j0)) ∧ j < n ∧ k = M i j then 1 else 0
def gT (n : Nat) (M : Nat → Nat → Nat) (i j k : Nat) : Nat := if i < n ∧ j < n ∧ k = M i j then 1 else 0
def e0F (c : Nat) : Nat := if c = 0 then 1 else 0

end Go.Proofs.Ytilcjjjpiefebaa
