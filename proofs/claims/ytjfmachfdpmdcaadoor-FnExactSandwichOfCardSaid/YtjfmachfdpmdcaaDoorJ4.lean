/- What functions of the program return, as walks over their operations; no statement of the seat is proved here. -/
import Derived.Test.YtjfmachfdpmdcaaDoorJ3
import Derived.Test.YtjfmachfdpmdcaaDoorSw37
set_option linter.unusedVariables false
set_option linter.unusedSimpArgs false
namespace Go.Proofs.YtjfmachfdpmdcaaDoor
open Go Go.RowKit Go.Sw Go.Ech
open Classical
def fzV (p m : Nat) (U : Nat → Nat → Nat → Nat) (fu : Nat → Nat) (Z : Nat → Nat → Nat) (x : Nat → Nat) (i : Nat) : Nat := sumTo (fun c => timesV p m U x (Z i) c * fu c) 6 % p
def uzS (p : Nat) (G : Nat → Nat → Nat) (F : Nat → Nat) (k l c : Nat) : Nat := (sumTo (fun a => F a * G a c) k + (if c < l then F k * G k c else 0)) % p
def TabQ (n : Nat) (G : Nat → Nat → Nat) (DK : Froz) (u : Value) : Prop := ∃ (b cap : Nat) (cs : Array Value) (β κ : Nat → Nat) (C : Nat → Array Value), RowsD DK n n β κ C (fun i c => .int .i64 (G i c : Int)) ∧ SlAt 1 u (some (b, cs)) n b cap cs (fun i => .slice (some ⟨β i, 0, none⟩) n (κ i)) ∧ (b, cs) ∈ DK

end Go.Proofs.YtjfmachfdpmdcaaDoor
