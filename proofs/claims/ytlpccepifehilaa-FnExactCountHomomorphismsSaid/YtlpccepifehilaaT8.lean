/- What functions of the program return, as walks over their operations; no statement of the seat is proved here. -/
import Derived.Test.YtlpccepifehilaaT3
import Derived.Test.YtlpccepifehilaaT2
set_option linter.unusedVariables false
set_option linter.unusedSimpArgs false
namespace Go.Proofs.Ytlpccepifehilaa
open Go Go.RowKit Go.Sw Go.Ech
open Classical
def dgF (W j c : Nat) : Nat := if c % (W + 1) = 0 ∧ c / (W + 1) < j then 1 else 0
end Go.Proofs.Ytlpccepifehilaa

namespace Go.Proofs.Ytlpccepifehilaa
open Go Go.RowKit Go.Sw Go.Ech
open Classical
def tvF (n k : Nat) (V : Nat → Nat → Nat) (c : Nat) : Nat := if c < k * n then V (c / n) (c % n) else 0
end Go.Proofs.Ytlpccepifehilaa

namespace Go.Proofs.Ytlpccepifehilaa
open Go Go.RowKit Go.Sw Go.Ech
open Classical
def in6 (f : Nat → Nat) (c : Nat) : Nat := if c < 6 then f c else 0
end Go.Proofs.Ytlpccepifehilaa

namespace Go.Proofs.Ytlpccepifehilaa
open Go Go.RowKit Go.Sw Go.Ech
open Classical
def tenH (p n i o : Int) : Prop := primeP p ∧ (1 ≤ n ∧ n ≤ 6) ∧ (0 ≤ i ∧ i ≤ 8) ∧ (0 ≤ o ∧ o ≤ 8)
def TenP (p n i o : Int) (m : Nat) (g : Nat → Int) : Prop := tenH p n i o ∧ n.toNat ^ (i.toNat + o.toNat) ≤ 1296 ∧ m = n.toNat ^ (i.toNat + o.toNat) ∧ ∀ c, c < m → 0 ≤ g c ∧ g c < p
instance (p n i o : Int) (m : Nat) (g : Nat → Int) : Decidable (TenP p n i o m g) := by unfold TenP tenH; infer_instance
def NumP (p : Int) (m : Nat) (g : Nat → Int) : Prop := ∀ c, c < m → 0 ≤ g c ∧ g c < p
instance (p : Int) (m : Nat) (g : Nat → Int) : Decidable (NumP p m g) := by unfold NumP; infer_instance

end Go.Proofs.Ytlpccepifehilaa

namespace Go.Proofs.Ytlpccepifehilaa
open Go Go.RowKit Go.Sw Go.Ech
open Classical
def adF (p k : Nat) (f h : Nat → Nat) (c : Nat) : Nat := (f c + k * h c) % p



end Go.Proofs.Ytlpccepifehilaa
