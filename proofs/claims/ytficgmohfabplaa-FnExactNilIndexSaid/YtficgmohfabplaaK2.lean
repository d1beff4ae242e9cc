/- What functions of the program return, as walks over their operations; no statement of the seat is proved here. -/
import Derived.Test.YtficgmohfabplaaK1
set_option linter.unusedVariables false
set_option linter.unusedSimpArgs false
namespace Go.Proofs.Ytficgmohfabplaa
open Go Go.RowKit Go.Sw Go.Ech
open Classical
theorem trunc_idem {n : Nat} {T : Nat → Nat → Nat → Nat} : trunc n (trunc n T) = trunc n T := by
  funext i j k
  unfold trunc
  by_cases h : i < n ∧ j < n ∧ k < n
  · rw [if_pos h, if_pos h]
  · rw [if_neg h, if_neg h]
theorem code_trunc {p n : Int} {T : Nat → Nat → Nat → Nat} {f : Nat → Nat} {m : Nat} {V : Nat → Nat → Nat} (h : CodeP p n T f m V) : CodeP p n (trunc n.toNat T) f m V :=
  ⟨⟨shape_trunc h.1.1, by rw [trunc_idem]; exact h.1.2⟩, h.2⟩

end Go.Proofs.Ytficgmohfabplaa
