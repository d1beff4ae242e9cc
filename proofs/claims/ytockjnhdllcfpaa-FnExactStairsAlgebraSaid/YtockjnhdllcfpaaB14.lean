/- What functions of the program return, as walks over their operations; no statement of the seat is proved here. -/
import Derived.Test.YtockjnhdllcfpaaB13
import Derived.Test.YtockjnhdllcfpaaB6
import Derived.Test.YtockjnhdllcfpaaSw10
import Derived.Test.YtockjnhdllcfpaaSw74
set_option linter.unusedVariables false
set_option linter.unusedSimpArgs false
namespace Go.Proofs.Ytockjnhdllcfpaa
open Go Go.RowKit Go.Sw Go.Ech
open Classical
def tDp (R : Nat → Nat → Nat) (m pw a k0 i j k : Nat) : Nat := if (i < m ∧ j < m) ∧ (i + j < pw ∨ (i + j = pw ∧ (i < a ∨ (i = a ∧ k < k0)))) then R (i + j) k else 0
def nzI (p m : Nat) (c : Nat → Nat) (g q k : Nat) : Int := if k < q then (reN p m c (g + 1) k : Int) else 0
def shN (p m : Nat) (c : Nat → Nat) (g q : Nat) : Nat := if q = 0 then 0 else reN p m c g (q - 1)
end Go.Proofs.Ytockjnhdllcfpaa
