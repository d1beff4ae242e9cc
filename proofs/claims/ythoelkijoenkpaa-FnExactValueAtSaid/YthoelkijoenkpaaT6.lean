/- What functions of the program return, as walks over their operations; no statement of the seat is proved here. -/
import Derived.Test.YthoelkijoenkpaaT3
import Derived.Test.YthoelkijoenkpaaT1
set_option linter.unusedVariables false
set_option linter.unusedSimpArgs false
namespace Go.Proofs.Ythoelkijoenkpaa
open Go Go.RowKit Go.Sw Go.Ech
open Classical
def dgF (W j c : Nat) : Nat := if c % (W + 1) = 0 ∧ c / (W + 1) < j then 1 else 0
end Go.Proofs.Ythoelkijoenkpaa

namespace Go.Proofs.Ythoelkijoenkpaa
open Go Go.RowKit Go.Sw Go.Ech
open Classical
def tvF (n k : Nat) (V : Nat → Nat → Nat) (c : Nat) : Nat := if c < k * n then V (c / n) (c % n) else 0
end Go.Proofs.Ythoelkijoenkpaa

namespace Go.Proofs.Ythoelkijoenkpaa
open Go Go.RowKit Go.Sw Go.Ech
open Classical
def in6 (f : Nat → Nat) (c : Nat) : Nat := if c < 6 then f c else 0
end Go.Proofs.Ythoelkijoenkpaa
