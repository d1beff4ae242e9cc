/- What functions of the program return, as walks over their operations; no statement of the seat is proved here. -/
import Derived.Test.YtnedojhanlhjkaaN7D
set_option linter.unusedVariables false
set_option linter.unusedSimpArgs false
namespace Go.Proofs.Ytnedojhanlhjkaa
open Go Go.RowKit Go.Sw Go.Ech
open Classical
end Go.Proofs.Ytnedojhanlhjkaa

namespace Go.Proofs.Ytnedojhanlhjkaa
open Go Go.RowKit Go.Sw Go.Ech
open Classical
theorem alg_full {p n : Int} {T U : Nat → Nat → Nat → Nat} {f g : Nat → Nat} (h : ∀ i, i < 6 → ∀ j, j < 6 → ∀ k, k < 6 → T i j k = U i j k) (hf : f = g) : algC p n T f = algC p n U g := by
  rw [hf]; exact algC_congr h
end Go.Proofs.Ytnedojhanlhjkaa
