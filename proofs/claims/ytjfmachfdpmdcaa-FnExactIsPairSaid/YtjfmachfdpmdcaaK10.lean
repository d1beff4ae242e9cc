/- What functions of the program return, as walks over their operations; no statement of the seat is proved here. -/
import Derived.Test.YtjfmachfdpmdcaaK9
import Derived.Test.YtjfmachfdpmdcaaEch6
import Derived.Test.YtjfmachfdpmdcaaSw37
import Derived.Test.YtjfmachfdpmdcaaEch5
set_option linter.unusedVariables false
set_option linter.unusedSimpArgs false
namespace Go.Proofs.Ytjfmachfdpmdcaa
open Go Go.RowKit Go.Sw Go.Ech
open Classical
end Go.Proofs.Ytjfmachfdpmdcaa

namespace Go.Proofs.Ytjfmachfdpmdcaa
open Go Go.RowKit Go.Sw Go.Ech
open Classical
end Go.Proofs.Ytjfmachfdpmdcaa

namespace Go.Proofs.Ytjfmachfdpmdcaa
open Go Go.RowKit Go.Sw Go.Ech
open Classical
theorem prodI_Pr {n c : Nat} {T : Nat → Nat → Nat → Nat} {v u : Nat → Nat} : (prodI T v u n n c : Int) = Pr n T (ci v) (ci u) c := by
  unfold prodI Pr
  rw [sumTo_sI];refine sI_congr fun a _ => ?_;rw [sumTo_sI];exact sI_congr fun b _ => by simp [ci, Int.natCast_mul]
def bM (p n : Nat) (T : Nat → Nat → Nat → Nat) (v uu : Nat → Nat) (k j : Nat) : Nat := if j < n then timesS p n T (fun y => if y = j then 1 else 0) v k else uu k
end Go.Proofs.Ytjfmachfdpmdcaa
