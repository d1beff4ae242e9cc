/- What functions of the program return, as walks over their operations; no statement of the seat is proved here. -/
import Derived.Test.YtkodkghomlkifaaP1
import Derived.Test.YtkodkghomlkifaaSw39
import Derived.Test.YtkodkghomlkifaaK9
import Derived.Test.YtkodkghomlkifaaEch5
set_option linter.unusedVariables false
set_option linter.unusedSimpArgs false
namespace Go.Proofs.Ytkodkghomlkifaa
open Go Go.RowKit Go.Sw Go.Ech
open Classical
theorem ty_bsg_35_1 : ∀ (v0 : Nat → Nat) (w : World), (Instr.buildSlice 35 1 #[(0, .agg (vecC v0))]).run Try.prog w = .ok (.slice (some ⟨w.heap.size, 0, none⟩) 1 1) (w.alloc (.cells (vecsC 1 (vAtL [v0])) 27)) := by intros; kernel_rfl
theorem ty_si_35 : slI Try.prog 35 = some (27, some (.agg (fnC 6 (fun _ => .int .u8 (0)))), 6, 6) := by kernel_rfl
end Go.Proofs.Ytkodkghomlkifaa

namespace Go.Proofs.Ytkodkghomlkifaa
open Go Go.RowKit Go.Sw Go.Ech
open Classical
def bM (p n : Nat) (T : Nat → Nat → Nat → Nat) (v uu : Nat → Nat) (k j : Nat) : Nat := if j < n then timesS p n T (fun y => if y = j then 1 else 0) v k else uu k
end Go.Proofs.Ytkodkghomlkifaa

namespace Go.Proofs.Ytkodkghomlkifaa
open Go Go.RowKit Go.Sw Go.Ech
open Classical
end Go.Proofs.Ytkodkghomlkifaa
