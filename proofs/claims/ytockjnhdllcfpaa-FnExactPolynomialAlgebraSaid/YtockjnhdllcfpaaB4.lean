/- What functions of the program return, as walks over their operations; no statement of the seat is proved here. -/
import Derived.Test.YtockjnhdllcfpaaB3
set_option linter.unusedVariables false
set_option linter.unusedSimpArgs false
namespace Go.Proofs.Ytockjnhdllcfpaa
open Go Go.RowKit Go.Sw Go.Ech
open Classical
def natF (m : Nat) (F : Nat → Int) (i : Nat) : Nat := if i < m then (F i).toNat else 0
theorem polP_nat {p : Int} {m : Nat} {F : Nat → Int} (h : PolP p m F) : (p.toNat : Int) = p ∧ numI m F = numC m (natF m F) ∧ PolP (p.toNat : Int) m (fun i => (natF m F i : Int)) ∧ ∀ i, natF m F i < p.toNat := by
  have h1 := primeP_pos2 h.1;have e : (p.toNat : Int) = p := by omega
  have e2 : ∀ i, i < m → F i = (natF m F i : Int) := fun i hi => by
    have := h.2.2 i hi
    unfold natF; rw [if_pos hi]; omega
  refine ⟨e, fnC_congr fun i hi => by rw [e2 i hi], ?_, fun i => ?_⟩
  · rw [e]
    exact ⟨h.1, h.2.1, fun i hi => by have z := h.2.2 i hi; rw [e2 i hi] at z; exact z⟩
  · unfold natF
    split
    · have := h.2.2 i (by assumption)
      omega
    · omega
end Go.Proofs.Ytockjnhdllcfpaa
