/- What functions of the program return, as walks over their operations; no statement of the seat is proved here. -/
import Derived.Test.YtggdbbjmdbkpcaaP6
import Derived.Test.YtggdbbjmdbkpcaaEch7
import Derived.Test.YtggdbbjmdbkpcaaSw34
set_option linter.unusedVariables false
set_option linter.unusedSimpArgs false
namespace Go.Proofs.Ytggdbbjmdbkpcaa
open Go Go.RowKit Go.Sw Go.Ech
open Classical
theorem ty_ud_3 : Try.prog.underlying 3 = some (.int .i64) := by kernel_rfl
end Go.Proofs.Ytggdbbjmdbkpcaa

namespace Go.Proofs.Ytggdbbjmdbkpcaa
open Go Go.RowKit Go.Sw Go.Ech
open Classical
theorem ty_bs0_27 : ∀ w, (Instr.buildSlice 27 0 #[]).run Try.prog w = .ok (.slice (some ⟨w.heap.size, 0, none⟩) 0 0) (w.alloc (.cells #[] 30)) := by intros; kernel_rfl
end Go.Proofs.Ytggdbbjmdbkpcaa
