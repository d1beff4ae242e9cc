/- What functions of the program return, as walks over their operations; no statement of the seat is proved here. -/
import Derived.Test.YthliekalhgafcaaG12
import Derived.Test.YthliekalhgafcaaSw15
set_option linter.unusedVariables false
set_option linter.unusedSimpArgs false
namespace Go.Proofs.Ythliekalhgafcaa
open Go Go.RowKit Go.Sw
open Classical
theorem div_row {W c i : Nat} (hW : 0 < W) : c / W = i ↔ i * W ≤ c ∧ c < i * W + W := by
  constructor
  · intro h
    have h1 := Nat.div_add_mod c W
    have h2 := Nat.mod_lt c hW
    rw [h, Nat.mul_comm] at h1
    omega
  · rintro ⟨h1, h2⟩
    exact Nat.div_eq_of_lt_le h1 (by rw [Nat.succ_mul]; exact h2)
theorem mod_row {W c i : Nat} (h : c / W = i) : c % W = c - i * W := by
  have h1 := Nat.div_add_mod c W
  rw [h, Nat.mul_comm] at h1
  omega
theorem dm_div {x y K : Nat} (h : y < K) : (x * K + y) / K = x := (div_row (by omega)).2 ⟨by omega, by omega⟩
theorem dm_mod {x y K : Nat} (h : y < K) : (x * K + y) % K = y := by rw [mod_row (dm_div h)]; omega
end Go.Proofs.Ythliekalhgafcaa
