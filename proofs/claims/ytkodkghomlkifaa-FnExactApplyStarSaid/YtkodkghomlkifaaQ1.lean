/- What functions of the program return, as walks over their operations; no statement of the seat is proved here. -/
import Derived.Test.YtkodkghomlkifaaP5
import Derived.Test.YtkodkghomlkifaaSw39
set_option linter.unusedVariables false
set_option linter.unusedSimpArgs false
namespace Go.Proofs.Ytkodkghomlkifaa
open Go Go.RowKit Go.Sw Go.Ech
open Classical
theorem ty_ag_26 : aggP Try.prog 26 = some 224 := by kernel_rfl
end Go.Proofs.Ytkodkghomlkifaa

namespace Go.Proofs.Ytkodkghomlkifaa
open Go Go.RowKit Go.Sw Go.Ech
open Classical
def foldW (mul : (Nat → Nat) → (Nat → Nat) → Nat → Nat) (u : Nat → Nat) (V : Nat → Nat → Nat) : Nat → Nat → Nat
  | 0 => u
  | k + 1 => mul (foldW mul u V k) (V k)
theorem form_comm {p : Nat} {f v : Nat → Nat} : sumTo (fun i => f i * v i) 6 % p = sumTo (fun i => v i * f i) 6 % p := by
  rw [show (fun i => f i * v i) = (fun i => v i * f i) from funext fun i => Nat.mul_comm _ _]
end Go.Proofs.Ytkodkghomlkifaa
