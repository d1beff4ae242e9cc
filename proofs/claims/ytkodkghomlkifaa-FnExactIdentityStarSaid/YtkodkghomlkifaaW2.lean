/- What functions of the program return, as walks over their operations; no statement of the seat is proved here. -/
import Derived.Test.YtkodkghomlkifaaW1
import Derived.Test.YtkodkghomlkifaaSw63
set_option linter.unusedVariables false
set_option linter.unusedSimpArgs false
namespace Go.Proofs.Ytkodkghomlkifaa
open Go Go.RowKit Go.Sw Go.Ech
open Classical
def starS (p n : Nat) (T : Nat → Nat → Nat → Nat) (f : Nat → Nat) (Z : Nat → Nat → Nat) (i : Nat) : Prop := eqV 6 (apV p Z (Z i) n) (fun c => if c = i then 1 else 0) ∧ sumTo (fun c => (Z i) c * f c) 6 % p = f i ∧ ∀ j, j < n → eqV 6 (apV p Z (T i j) n) (timesV p n T (Z j) (Z i))
def StarP (p n : Nat) (T : Nat → Nat → Nat → Nat) (f : Nat → Nat) (Z : Nat → Nat → Nat) : Prop := ∀ i, i < n → starS p n T f Z i

end Go.Proofs.Ytkodkghomlkifaa
