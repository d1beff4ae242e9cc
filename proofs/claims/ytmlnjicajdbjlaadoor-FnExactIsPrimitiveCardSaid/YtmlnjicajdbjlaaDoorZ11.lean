/- What functions of the program return, as walks over their operations; no statement of the seat is proved here. -/
import Derived.Test.YtmlnjicajdbjlaaDoorZ10
import Derived.Test.YtmlnjicajdbjlaaDoorSw47
import Derived.Test.YtmlnjicajdbjlaaDoorSw52
set_option linter.unusedVariables false
set_option linter.unusedSimpArgs false
namespace Go.Proofs.YtmlnjicajdbjlaaDoor
open Go Go.RowKit Go.Sw Go.Ech
open Classical
theorem prL_same {p n r r0 : Nat} {T : Nat → Nat → Nat → Nat} {uu : Nat → Nat} {VF W0 : Nat → Nat → Nat} (hp : 2 ≤ p) (h0 : IsKer p n (spE p n T uu p 1) n r0 W0) (h : IsKer p n (spE p n T uu p 1) n r VF) : prL p n T uu (padN n VF) r = prL p n T uu W0 r0 := by
  obtain ⟨rfl, e⟩ := IsKer.unique hp h0 h;rw [prL_pad];exact prL_cong r0 fun i hi c hc => (e i hi c hc).symm
end Go.Proofs.YtmlnjicajdbjlaaDoor
