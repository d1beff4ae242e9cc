/- What functions of the program return, as walks over their operations; no statement of the seat is proved here. -/
import Derived.Test.YthliekalhgafcaaK3
set_option linter.unusedVariables false
set_option linter.unusedSimpArgs false
namespace Go.Proofs.Ythliekalhgafcaa
open Go Go.RowKit Go.Sw Go.Ech
open Classical
theorem addN_addM {p x i : Nat} {v u : Nat → Nat} : addN p v u ((x : Nat) : Int) i = addM p v u x i := by
  unfold addN addM
  rw [show (v i : Int) + ((x : Nat) : Int) * (u i : Int) = ((v i + x * u i : Nat) : Int) by rw [Int.natCast_add, Int.natCast_mul], ← Int.natCast_emod]
  rfl
/-- Powers, by one factor more. -/
def powW (mul : (Nat → Nat) → (Nat → Nat) → Nat → Nat) (u v : Nat → Nat) : Nat → Nat → Nat
  | 0 => u
  | k + 1 => mul (powW mul u v k) v
theorem powW_le {mul : (Nat → Nat) → (Nat → Nat) → Nat → Nat} {u v : Nat → Nat} (hu : ∀ c, u c ≤ 255) (hm : ∀ x c, mul x v c ≤ 255) : ∀ k c, powW mul u v k c ≤ 255
  | 0, c => hu c
  | k + 1, c => hm _ c
theorem timesV_le {p n : Nat} {T : Nat → Nat → Nat → Nat} (hp : 0 < p) (hp2 : p < 200) (x v : Nat → Nat) (c : Nat) : timesV p n T x v c ≤ 255 := by
  unfold timesV; have := Nat.mod_lt (prodI T x v n n c) hp; omega
theorem timesS_le {p n : Nat} {T : Nat → Nat → Nat → Nat} (hp : 0 < p) (hp2 : p < 200) (x v : Nat → Nat) (c : Nat) : timesS p n T x v c ≤ 255 := by
  unfold timesS; split
  · exact timesV_le hp hp2 x v c
  · omega














end Go.Proofs.Ythliekalhgafcaa
