/- What functions of the program return, as walks over their operations; no statement of the seat is proved here. -/
import Derived.Test.YtnedojhanlhjkaaH7
set_option linter.unusedVariables false
set_option linter.unusedSimpArgs false
namespace Go.Proofs.Ytnedojhanlhjkaa
open Go Go.RowKit Go.Sw Go.Ech
open Classical
theorem CallsR.val {P : Program} {f : FuncId} {args : Array Value} {w : World} {v v' : Value} (h : CallsR P f args w (fun u _ => u = v)) (e : v = v') : CallsR P f args w (fun u _ => u = v') := e ▸ h
def asS (p n : Nat) (T : Nat → Nat → Nat → Nat) : Prop := ∀ i, i < n → ∀ j, j < n → ∀ k, k < n → eqV 6 (timesS p n T (T i j) (fun c => if c = k then 1 else 0)) (timesS p n T (fun c => if c = i then 1 else 0) (T j k))
def AlgN (p n : Nat) (T : Nat → Nat → Nat → Nat) : Prop := asS p n T ∧ ∃ u, UnitI p n T u
def trunc (n : Nat) (T : Nat → Nat → Nat → Nat) (i j k : Nat) : Nat := if i < n ∧ j < n ∧ k < n then T i j k else 0
def AlgP (p n : Int) (T : Nat → Nat → Nat → Nat) (f : Nat → Nat) : Prop := shapeP p n T f ∧ AlgN p.toNat n.toNat (trunc n.toNat T)
theorem primeN_of {p : Int} (h : primeP p) : primeN p.toNat := by unfold primeP at h; unfold primeN; omega

end Go.Proofs.Ytnedojhanlhjkaa
