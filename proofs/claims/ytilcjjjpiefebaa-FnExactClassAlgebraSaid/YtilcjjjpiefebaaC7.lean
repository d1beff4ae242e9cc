/- What functions of the program return, as walks over their operations; no statement of the seat is proved here. -/
import Derived.Test.YtilcjjjpiefebaaC6
set_option linter.unusedVariables false
set_option linter.unusedSimpArgs false
namespace Go.Proofs.Ytilcjjjpiefebaa
open Go Go.RowKit Go.Sw Go.Ech
open Classical
theorem ty_ag_25 : aggP Try.prog 25 = some 37 := by kernel_rfl
theorem SSOutR.mono {w w1 w2 : World} {m : Nat} {Ln : Nat → Nat} {F : Nat → Nat → Int} {u : Value} (h : SSOutR w1 w2 m Ln F u) (hs : w.heap.size ≤ w1.heap.size) : SSOutR w w2 m Ln F u := by
  obtain ⟨D, b, cap, cs, β, κ, C, h1, h2⟩ := h;exact ⟨D, b, cap, cs, β, κ, C, fun x ds hx => ⟨Nat.le_trans hs (h1 x ds hx).1, (h1 x ds hx).2⟩, h2⟩
end Go.Proofs.Ytilcjjjpiefebaa
