/- What functions of the program return, as walks over their operations; no statement of the seat is proved here. -/
import Derived.Test.YthoelkijoenkpaaV2
import Derived.Test.YthoelkijoenkpaaSw10
set_option linter.unusedVariables false
set_option linter.unusedSimpArgs false
namespace Go.Proofs.Ythoelkijoenkpaa
open Go Go.RowKit Go.Sw Go.Ech
open Classical
def swO (c : Nat) : Nat := if c = 0 then 1 else if c = 1 then 0 else c
def swT (n c : Nat) : Nat := if swC n c then 1 else 0
def swP (n gi gj c : Nat) : Nat := if swC n c ∧ (c / n ^ 3 < gi ∨ (c / n ^ 3 = gi ∧ c / n ^ 2 % n < gj)) then 1 else 0
end Go.Proofs.Ythoelkijoenkpaa
