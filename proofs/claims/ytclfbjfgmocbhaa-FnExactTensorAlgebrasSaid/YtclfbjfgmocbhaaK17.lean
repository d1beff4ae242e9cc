/- What functions of the program return, as walks over their operations; no statement of the seat is proved here. -/
import Derived.Test.YtclfbjfgmocbhaaK15
set_option linter.unusedVariables false
set_option linter.unusedSimpArgs false
namespace Go.Proofs.Ytclfbjfgmocbhaa
open Go Go.RowKit Go.Sw Go.Ech
open Classical
theorem ty_bsg_27_1 : ∀ (v0 : Nat → Nat) (w : World), (Instr.buildSlice 27 1 #[(0, .agg (vecC v0))]).run Try.prog w = .ok (.slice (some ⟨w.heap.size, 0, none⟩) 1 1) (w.alloc (.cells (vecsC 1 (vAtL [v0])) 30)) := by intros; kernel_rfl
theorem ty_ag_26 : aggP Try.prog 26 = some 224 := by kernel_rfl
theorem ty_ub_4 : Try.prog.underlying 4 = some .bool := by kernel_rfl
end Go.Proofs.Ytclfbjfgmocbhaa

namespace Go.Proofs.Ytclfbjfgmocbhaa
open Go Go.RowKit Go.Sw Go.Ech
open Classical
theorem ty_bu_32 : ∀ w, (Instr.build 32 #[]).run Try.prog w = .ok (.agg (algC 0 0 (fun _ _ _ => 0) (fun _ => 0))) w := by intros; kernel_rfl
theorem algC_setf {p n : Int} {T : Nat → Nat → Nat → Nat} {f g : Nat → Nat} {i o x : Nat} (ho : o = 218 + i) (hi : i < 6) (hg : ∀ j, j < 6 → g j = if j = i then x else f j) : (algC p n T f).setIfInBounds o (.int .u8 ((x : Nat) : Int)) = algC p n T g := by
  subst ho
  unfold algC
  refine fnC_set fun j hj => ?_
  by_cases e : j = 218 + i
  · rw [if_pos e, if_neg (by omega), if_neg (by omega), if_neg (by omega), hg _ (by omega), if_pos (by omega)]
  · rw [if_neg e]
    by_cases h2 : j < 218
    · simp only [if_pos h2]
    · rw [if_neg (by omega), if_neg (by omega), if_neg h2, if_neg (by omega), if_neg (by omega), if_neg h2, hg _ (by omega), if_neg (by omega)]

end Go.Proofs.Ytclfbjfgmocbhaa
