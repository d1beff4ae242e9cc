/- What functions of the program return, as walks over their operations; no statement of the seat is proved here. -/
import Derived.Test.YtkodkghomlkifaaW2
import Derived.Test.YtkodkghomlkifaaSw10
set_option linter.unusedVariables false
set_option linter.unusedSimpArgs false
namespace Go.Proofs.Ytkodkghomlkifaa
open Go Go.RowKit Go.Sw Go.Ech
open Classical
def XT (p n : Nat) (T : Nat → Nat → Nat → Nat) (Z : Nat → Nat → Nat) (a b c : Nat) : Nat := timesV p n T (Z a) (fun c => if c = b then 1 else 0) c
def CrossP (p n : Nat) (T : Nat → Nat → Nat → Nat) (Z : Nat → Nat → Nat) (t kl : Nat → Nat) : Prop := eqV 6 (timesV p n T t t) kl ∧ ∀ i, i < n → eqV 6 (apV p Z (timesV p n T t (fun c => if c = i then 1 else 0)) n) (timesV p n T t (fun c => if c = i then 1 else 0))

end Go.Proofs.Ytkodkghomlkifaa
