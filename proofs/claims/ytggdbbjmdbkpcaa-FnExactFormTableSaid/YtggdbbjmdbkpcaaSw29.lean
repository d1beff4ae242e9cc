/- Plain lemmas of a small calculus for walks over frames and own memory; no statement of the seat is proved here. -/
import Derived.Test.YtggdbbjmdbkpcaaSw25
import Derived.Test.YtggdbbjmdbkpcaaSw20
import Derived.Test.YtggdbbjmdbkpcaaSw9
import Derived.Test.YtggdbbjmdbkpcaaSw21
import Derived.ReadAgain
import Derived.ChangeSlices
import Derived.Test.YtggdbbjmdbkpcaaSw24
import Derived.Test.YtggdbbjmdbkpcaaSw23
set_option linter.unusedVariables false
set_option linter.unusedSimpArgs false
namespace Go.Sw
open Go Go.RowKit
theorem vecs1_get {v : Nat → Nat} (q : Nat) (hq : q < 1 * 6) : (vecsC 1 (vAtL [v]))[0 + q]? = some (.int .u8 ((v q : Nat) : Int)) := by
  unfold vecsC
  rw [fnC_get (by omega), show (0 + q) / 6 = 0 by omega, show (0 + q) % 6 = q by omega]
  rfl
/-- One vector more. -/
theorem Sl.snoc6 {u : Value} {e : Option (Nat × Array Value)} {N : Nat} {F G : Nat → Value} (h : Sl 6 u e (N + 1) (fun i => if i < N * 6 then F i else G (i - N * 6))) (hG : ∀ q, q < 6 → G q = F (N * 6 + q)) : Sl 6 u e (N + 1) F :=
  h.congr fun i hi => by
    by_cases h1 : i < N * 6
    · rw [if_pos h1]
    · rw [if_neg h1, hG _ (by omega), show N * 6 + (i - N * 6) = i by omega]
theorem SlAt.vec {u : Value} {e : Option (Nat × Array Value)} {N b cap : Nat} {cs : Array Value} {V : Nat → Nat → Nat} (h : SlAt 6 u e N b cap cs (fun c => .int .u8 ((V (c / 6) (c % 6) : Nat) : Int))) (i : Nat) (hi : i < N) : cs.extract (i * 6) (i * 6 + 6) = vecC (V i) :=
  extract_ext rfl (by rw [h.sz]; have := h.le; omega) fun q hq => by
    rw [h.get _ (by omega), show (i * 6 + q) / 6 = i by omega, show (i * 6 + q) % 6 = q by omega]
end Go.Sw
