/- What functions of the program return, as walks over their operations; no statement of the seat is proved here. -/
import Derived.Test.YtkodkghomlkifaaW6
import Derived.Test.YtkodkghomlkifaaEch12
import Derived.Test.YtkodkghomlkifaaSw10
set_option linter.unusedVariables false
set_option linter.unusedSimpArgs false
namespace Go.Proofs.Ytkodkghomlkifaa
open Go Go.RowKit Go.Sw Go.Ech
open Classical
def RVp (p n : Nat) (x : Nat → Nat) : Prop := (∀ c, x c < p) ∧ ∀ c, n ≤ c → x c = 0
theorem RVp.eq {p n : Nat} {x y : Nat → Nat} (hx : RVp p n x) (hy : RVp p n y) (h : EqP p n (ci x) (ci y)) : x = y := funext fun c => by
  by_cases hc : c < n
  · exact eq_of_dvd (hx.1 c) (hy.1 c) (h c hc)
  · rw [hx.2 c (by omega), hy.2 c (by omega)]
end Go.Proofs.Ytkodkghomlkifaa
