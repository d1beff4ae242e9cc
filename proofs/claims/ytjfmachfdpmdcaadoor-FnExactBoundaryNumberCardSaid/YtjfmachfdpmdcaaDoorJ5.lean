/- What functions of the program return, as walks over their operations; no statement of the seat is proved here. -/
import Derived.Test.YtjfmachfdpmdcaaDoorJ4
set_option linter.unusedVariables false
set_option linter.unusedSimpArgs false
namespace Go.Proofs.YtjfmachfdpmdcaaDoor
open Go Go.RowKit Go.Sw Go.Ech
open Classical
def apQ (p n : Nat) (T : Nat → Nat → Nat → Nat) (U V : Nat → Nat → Nat) (k q c : Nat) : Nat := timesV p n T (U (q / k)) (V (q % k)) c
def exV (p n : Nat) (T : Nat → Nat → Nat → Nat) (x : Nat → Nat) (a c : Nat) : Nat := timesV p n T (fun q => if q = a then 1 else 0) x c
end Go.Proofs.YtjfmachfdpmdcaaDoor
