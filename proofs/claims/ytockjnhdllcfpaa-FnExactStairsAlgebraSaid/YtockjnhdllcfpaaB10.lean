/- What functions of the program return, as walks over their operations; no statement of the seat is proved here. -/
import Derived.Test.YtockjnhdllcfpaaB9
import Derived.Test.YtockjnhdllcfpaaSw74
set_option linter.unusedVariables false
set_option linter.unusedSimpArgs false
namespace Go.Proofs.Ytockjnhdllcfpaa
open Go Go.RowKit Go.Sw Go.Ech
open Classical
theorem stP_nat {m : Nat} {F : Nat → Int} (h : StP m F) : numI m F = numC m (natF m F) ∧ StP m (fun i => (natF m F i : Int)) ∧ StN m (natF m F) := by
  have e2 : ∀ i, i < m → F i = (natF m F i : Int) := fun i hi => by
    have := h.2.1 i hi
    unfold natF; rw [if_pos hi]; omega
  have e3 : ∀ k, k ≤ m → sumF (fun i => (natF m F i : Int)) k = sumF F k := fun k => by
    induction k with
    | zero => intro _; rfl
    | succ k ih => intro hk; simp only [sumF]; rw [ih (by omega), ← e2 k (by omega)]
  refine ⟨fnC_congr fun i hi => by rw [e2 i hi], ⟨h.1, fun i hi => by have z := h.2.1 i hi; rw [e2 i hi] at z; exact z, fun i hi => by have z := h.2.2.1 i hi; rw [e2 i (by omega), e2 (i + 1) hi] at z; exact z, by rw [e3 m (Nat.le_refl _)]; exact h.2.2.2⟩, h.nat e2⟩
end Go.Proofs.Ytockjnhdllcfpaa
