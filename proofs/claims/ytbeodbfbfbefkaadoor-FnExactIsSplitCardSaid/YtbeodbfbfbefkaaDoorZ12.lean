/- What functions of the program return, as walks over their operations; no statement of the seat is proved here. -/
import Derived.Test.YtbeodbfbfbefkaaDoorZ11
import Derived.Test.YtbeodbfbfbefkaaDoorQ9
set_option linter.unusedVariables false
set_option linter.unusedSimpArgs false
namespace Go.Proofs.YtbeodbfbfbefkaaDoor
open Go Go.RowKit Go.Sw Go.Ech
open Classical
theorem ty_ag_26 : aggP Tryd.prog 26 = some 224 := by kernel_rfl
theorem dvd_small {p x : Nat} (h : (p : Int) ∣ (x : Int)) (hx : x < p) : x = 0 := Nat.eq_zero_of_dvd_of_lt (Int.natCast_dvd_natCast.1 h) hx
theorem hpos_of {p n m : Nat} {M : Nat → Nat → Nat} (hp : 2 ≤ p) (hne : ∀ k E ld, Rref p n E k ld → (∀ x, Ker p n E k x ↔ Ker p n M m x) → 0 < nf k ld n) : ∀ r V, IsKer p n M m r V → 0 < r := fun r V h => by
  obtain ⟨k, E, ld, ld2, h1, h2, h3, h4⟩ := h
  obtain ⟨c, hc, hf, _⟩ := nf_at n 0 (hne k E ld h1 h2)
  refine Decidable.byContradiction fun h0 => ?_
  have h5 := (h4 (fun d => if d = c then 1 else 0)).1 (fun i hi => absurd hi (by omega)) c hc hf
  have e : dot n (ci (sol p E k ld c)) (fun d => if d = c then 1 else 0) = ((1 : Nat) : Int) := by
    unfold dot
    rw [sI_one hc]
    · unfold ci sol; simp
    · intro j _ hne2; simp [hne2]
  rw [e] at h5;have := dvd_small h5 (by omega)
  omega
def cutR (n R : Nat) (W : Nat → Nat → Nat) (i c : Nat) : Nat := if i < R ∧ c < n then W i c else 0
end Go.Proofs.YtbeodbfbfbefkaaDoor
