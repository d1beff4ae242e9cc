/- What functions of the program return, as walks over their operations; no statement of the seat is proved here. -/
import Derived.Test.YtockjnhdllcfpaaB5
import Derived.Test.YtockjnhdllcfpaaSw53
set_option linter.unusedVariables false
set_option linter.unusedSimpArgs false
namespace Go.Proofs.Ytockjnhdllcfpaa
open Go Go.RowKit Go.Sw Go.Ech
open Classical
def prN (p : Nat) (c : Nat → Nat) : Nat → Nat → Nat
  | 0, k => if k = 0 then 1 else 0
  | i + 1, k => ((((if k = 0 then 0 else prN p c i (k - 1) : Nat) : Int) - ((c i * prN p c i k : Nat) : Int)) % (p : Int)).toNat
def nxN (p : Nat) (c : Nat → Nat) (i j k : Nat) : Nat := if k < j then prN p c (i + 1) k else if k = 0 then 0 else prN p c i (k - 1)
def nxI (p : Nat) (c : Nat → Nat) (i j k : Nat) : Int := (nxN p c i j k : Int)
def nyI (p : Nat) (c : Nat → Nat) (i j k : Nat) : Int := if k < j then (prN p c (i + 1) k : Int) else if k = j then ((if k = 0 then 0 else prN p c i (k - 1) : Nat) : Int) else 0
end Go.Proofs.Ytockjnhdllcfpaa
