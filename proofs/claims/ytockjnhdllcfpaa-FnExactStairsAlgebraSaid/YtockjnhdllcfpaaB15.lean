/- What functions of the program return, as walks over their operations; no statement of the seat is proved here. -/
import Derived.Test.YtockjnhdllcfpaaB14
import Derived.Test.YtockjnhdllcfpaaB4
set_option linter.unusedVariables false
set_option linter.unusedSimpArgs false
namespace Go.Proofs.Ytockjnhdllcfpaa
open Go Go.RowKit Go.Sw Go.Ech
open Classical
theorem ty_bu_28 : ∀ w, (Instr.build 28 #[]).run Try.prog w = .ok (.agg (algC 0 0 (fun _ _ _ => 0) (fun _ => 0))) w := by intros; kernel_rfl
theorem eqT_same {T : Nat → Nat → Nat → Nat} : eqT T T := by simp [eqT, eqM, eqV]
theorem eqV_same {n : Nat} {f : Nat → Nat} : eqV n f f := by unfold eqV; intros; rfl

end Go.Proofs.Ytockjnhdllcfpaa
