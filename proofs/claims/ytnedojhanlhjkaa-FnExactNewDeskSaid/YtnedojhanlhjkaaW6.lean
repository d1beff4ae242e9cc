/- What functions of the program return, as walks over their operations; no statement of the seat is proved here. -/
import Derived.Test.YtnedojhanlhjkaaW2
set_option linter.unusedVariables false
set_option linter.unusedSimpArgs false
namespace Go.Proofs.Ytnedojhanlhjkaa
open Go Go.RowKit Go.Sw Go.Ech
open Classical
def eulS (s : ByteArray) : Nat → Int
  | 0 => 0
  | i + 1 => eulS s i + eulL (byt s i)
end Go.Proofs.Ytnedojhanlhjkaa

namespace Go.Proofs.Ytnedojhanlhjkaa
open Go Go.RowKit Go.Sw Go.Ech
open Classical
def inT (t : ByteArray) : Nat → Nat
  | 0 => 0
  | i + 1 => inT t i + inL (byt t i)
def outT (t : ByteArray) : Nat → Nat
  | 0 => 0
  | i + 1 => outT t i + outL (byt t i)
def pcT (t : ByteArray) : Prop := ∀ i, i < t.size → pcB (byt t i) = true
def lyT (t : ByteArray) : Prop := 0 < t.size ∧ inT t t.size ≤ 6 ∧ outT t t.size ≤ 6
instance (t : ByteArray) : Decidable (lyT t) := by unfold lyT; infer_instance

end Go.Proofs.Ytnedojhanlhjkaa

namespace Go.Proofs.Ytnedojhanlhjkaa
open Go Go.RowKit Go.Sw Go.Ech
open Classical
section
variable {s : ByteArray}
def lyOk (s : ByteArray) (k : Nat) : Prop := pcT (seg s 47 k) ∧ lyT (seg s 47 k) ∧ (0 < k → inR s (sgB s 47 k) = outR s (sgB s 47 (k - 1)))
end

end Go.Proofs.Ytnedojhanlhjkaa

namespace Go.Proofs.Ytnedojhanlhjkaa
open Go Go.RowKit Go.Sw Go.Ech
open Classical
end Go.Proofs.Ytnedojhanlhjkaa
