/- What functions of the program return, as walks over their operations; no statement of the seat is proved here. -/
import Derived.Test.YtcheokblafncbaaJ7
set_option linter.unusedVariables false
set_option linter.unusedSimpArgs false
namespace Go.Proofs.Ytcheokblafncbaa
open Go Go.RowKit Go.Sw Go.Ech
open Classical
theorem ss_len {Ln : Nat → Nat} {m k : Nat} (h : m + sumTo Ln m ≤ k) (hk : k < 10000000) : ∀ i, i < m → Ln i < 10000000 := fun i hi => by
  have := le_sumTo (f := Ln) hi
  omega

end Go.Proofs.Ytcheokblafncbaa
