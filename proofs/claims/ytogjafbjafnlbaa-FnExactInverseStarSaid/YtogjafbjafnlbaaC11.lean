/- What functions of the program return, as walks over their operations; no statement of the seat is proved here. -/
import Derived.Test.YtogjafbjafnlbaaC7
import Derived.Test.YtogjafbjafnlbaaSw10
set_option linter.unusedVariables false
set_option linter.unusedSimpArgs false
namespace Go.Proofs.Ytogjafbjafnlbaa
open Go Go.RowKit Go.Sw Go.Ech
open Classical
section
variable {n : Nat} {M : Nat → Nat → Nat}
def chiP (E : Nat → Nat) (m a : Nat) : Nat := if (List.range m).any (fun x => decide (E x = a)) = true then 1 else 0
def dA (M : Nat → Nat → Nat) (n k a b : Nat) : Nat := if M a b = eC M n k 0 then 1 else 0
def cA (M : Nat → Nat → Nat) (n i j k : Nat) : Nat := sumTo (fun x => sumTo (fun y => dA M n k (eC M n i x) (eC M n j y)) (sC M n j)) (sC M n i)
def cAp (M : Nat → Nat → Nat) (n i j k x y : Nat) : Nat := sumTo (fun x => sumTo (fun y => dA M n k (eC M n i x) (eC M n j y)) (sC M n j)) x + sumTo (fun y => dA M n k (eC M n i x) (eC M n j y)) y
def tCp (p n : Nat) (M : Nat → Nat → Nat) (a b c i j k : Nat) : Nat := if j < nC M n ∧ k < nC M n ∧ (i < a ∨ (i = a ∧ (j < b ∨ (j = b ∧ k < c)))) then cA M n i j k % p else 0
end

end Go.Proofs.Ytogjafbjafnlbaa

namespace Go.Proofs.Ytogjafbjafnlbaa
open Go Go.RowKit Go.Sw Go.Ech
open Classical
end Go.Proofs.Ytogjafbjafnlbaa
