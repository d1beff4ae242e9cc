/- What functions of the program return, as walks over their operations; no statement of the seat is proved here. -/
import Derived.Test.YtkodkghomlkifaaK4
import Derived.Test.YtkodkghomlkifaaEch5
import Derived.Test.YtkodkghomlkifaaSw9
set_option linter.unusedVariables false
set_option linter.unusedSimpArgs false
namespace Go.Proofs.Ytkodkghomlkifaa
open Go Go.RowKit Go.Sw Go.Ech
open Classical
theorem addN_addM {p x i : Nat} {v u : Nat → Nat} : addN p v u (x : Int) i = addM p v u x i := by
  unfold addN addM
  rw [show (v i : Int) + (x : Int) * (u i : Int) = ((v i + x * u i : Nat) : Int) by rw [Int.natCast_add, Int.natCast_mul], ← Int.natCast_emod]
  rfl
def powW (mul : (Nat → Nat) → (Nat → Nat) → Nat → Nat) (u v : Nat → Nat) : Nat → Nat → Nat
  | 0 => u
  | k + 1 => mul (powW mul u v k) v
end Go.Proofs.Ytkodkghomlkifaa

namespace Go.Proofs.Ytkodkghomlkifaa
open Go Go.RowKit Go.Sw Go.Ech
open Classical

end Go.Proofs.Ytkodkghomlkifaa

namespace Go.Proofs.Ytkodkghomlkifaa
open Go Go.RowKit Go.Sw Go.Ech
open Classical
def formM (p n : Nat) (T : Nat → Nat → Nat → Nat) (f : Nat → Nat) (i c : Nat) : Nat := if c < n then sumTo (fun k => T i c k * f k) 6 % p else 0
def FrobN (p n : Nat) (T : Nat → Nat → Nat → Nat) (f : Nat → Nat) : Prop := ∃ E ld, Rref p 6 E n ld ∧ ∀ x, Ker p 6 E n x ↔ Ker p 6 (formM p n T f) n x
end Go.Proofs.Ytkodkghomlkifaa

namespace Go.Proofs.Ytkodkghomlkifaa
open Go Go.RowKit Go.Sw Go.Ech
open Classical
end Go.Proofs.Ytkodkghomlkifaa

namespace Go.Proofs.Ytkodkghomlkifaa
open Go Go.RowKit Go.Sw Go.Ech
open Classical
end Go.Proofs.Ytkodkghomlkifaa
