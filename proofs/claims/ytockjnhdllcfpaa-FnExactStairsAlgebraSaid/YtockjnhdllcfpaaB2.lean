/- What functions of the program return, as walks over their operations; no statement of the seat is proved here. -/
import Derived.Test.YtockjnhdllcfpaaB1
import Derived.Test.YtockjnhdllcfpaaSw86
import Derived.Test.YtockjnhdllcfpaaSw10
set_option linter.unusedVariables false
set_option linter.unusedSimpArgs false
namespace Go.Proofs.Ytockjnhdllcfpaa
open Go Go.RowKit Go.Sw Go.Ech
open Classical
def PolP (p : Int) (m : Nat) (F : Nat → Int) : Prop := primeP p ∧ (1 ≤ m ∧ m ≤ 6) ∧ ∀ i, i < m → 0 ≤ F i ∧ F i ≤ p - 1
instance instPolP (p : Int) (m : Nat) (F : Nat → Int) : Decidable (PolP p m F) := by unfold PolP; infer_instance
def rtN (c : Nat → Nat) (m p : Nat) : Nat := cnt (rtB c m p) p
def rtA (c : Nat → Nat) (m p : Nat) : Nat → Nat := asc (rtB c m p) p
def rtV (c : Nat → Nat) (m p : Nat) (k : Nat) : Value := .int .i64 (rtA c m p k : Int)
def trm (p s : Nat) : Nat → Nat
  | 0 => invN s p
  | k + 1 => trm p s k * s % p
end Go.Proofs.Ytockjnhdllcfpaa
