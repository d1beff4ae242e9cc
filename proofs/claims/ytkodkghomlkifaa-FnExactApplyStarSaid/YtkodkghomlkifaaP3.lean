/- What functions of the program return, as walks over their operations; no statement of the seat is proved here. -/
import Derived.Test.YtkodkghomlkifaaP1
import Derived.Test.YtkodkghomlkifaaSw39
import Derived.Test.YtkodkghomlkifaaK9
import Derived.Test.YtkodkghomlkifaaEch5
set_option linter.unusedVariables false
set_option linter.unusedSimpArgs false
namespace Go.Proofs.Ytkodkghomlkifaa
open Go Go.RowKit Go.Sw Go.Ech
open Classical
theorem ty_sz_5 : sizeP Try.prog 5 = some 1 := by kernel_rfl
theorem ty_bsg_35_1 : ∀ (v0 : Nat → Nat) (w : World), (Instr.buildSlice 35 1 #[(0, .agg (vecC v0))]).run Try.prog w = .ok (.slice (some ⟨w.heap.size, 0, none⟩) 1 1) (w.alloc (.cells (vecsC 1 (vAtL [v0])) 27)) := by intros; kernel_rfl
theorem ty_si_35 : slI Try.prog 35 = some (27, some (.agg (fnC 6 (fun _ => .int .u8 (0)))), 6, 6) := by kernel_rfl
end Go.Proofs.Ytkodkghomlkifaa

namespace Go.Proofs.Ytkodkghomlkifaa
open Go Go.RowKit Go.Sw Go.Ech
open Classical
theorem prodI_Pr {n c : Nat} {T : Nat → Nat → Nat → Nat} {v u : Nat → Nat} : (prodI T v u n n c : Int) = Pr n T (ci v) (ci u) c := by
  unfold prodI Pr
  rw [sumTo_sI];refine sI_congr fun a _ => ?_;rw [sumTo_sI];exact sI_congr fun b _ => by simp [ci, Int.natCast_mul]
def bM (p n : Nat) (T : Nat → Nat → Nat → Nat) (v uu : Nat → Nat) (k j : Nat) : Nat := if j < n then timesS p n T (fun y => if y = j then 1 else 0) v k else uu k
end Go.Proofs.Ytkodkghomlkifaa

namespace Go.Proofs.Ytkodkghomlkifaa
open Go Go.RowKit Go.Sw Go.Ech
open Classical
theorem timesE {p n i j : Nat} {T : Nat → Nat → Nat → Nat} (hTp : ∀ i j k, T i j k < p) (hT0 : ∀ i j k, n ≤ k → T i j k = 0) (hi : i < n) (hj : j < n) : timesS p n T (fun c => if c = i then 1 else 0) (fun c => if c = j then 1 else 0) = T i j := by
  funext k
  unfold timesS
  by_cases hk : k < n
  · rw [if_pos hk]; unfold timesV
    have e : (prodI T (fun c => if c = i then 1 else 0) (fun c => if c = j then 1 else 0) n n k : Int) = (T i j k : Int) := by
      rw [prodI_Pr]; unfold Pr;rw [sI_one hi (fun a _ hne => sI_zero fun b _ => by simp [ci, hne]), sI_one hj (fun b _ hne => by simp [ci, hne])]
      simp [ci]
    rw [Int.ofNat.inj e]; exact Nat.mod_eq_of_lt (hTp i j k)
  · rw [if_neg hk, hT0 i j k (by omega)]
end Go.Proofs.Ytkodkghomlkifaa
