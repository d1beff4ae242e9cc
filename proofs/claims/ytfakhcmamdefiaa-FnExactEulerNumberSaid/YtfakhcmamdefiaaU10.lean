/- What functions of the program return, as walks over their operations; no statement of the seat is proved here. -/
import Derived.Test.YtfakhcmamdefiaaU3
import Derived.Test.YtfakhcmamdefiaaSw85
set_option linter.unusedVariables false
set_option linter.unusedSimpArgs false
namespace Go.Proofs.Ytfakhcmamdefiaa
open Go Go.RowKit Go.Sw Go.Ech
open Classical
def sg (R : Nat → Nat → Int) (k : Nat) : Nat → Int
  | 0 => 0
  | q + 1 => sg R k q + if plK R q = (k : Int) then 1 else if plK R q = -(k : Int) then -1 else 0
def posB (R : Nat → Nat → Int) (k x : Nat) : Bool := decide (plK R x = (k : Int))
def negB (R : Nat → Nat → Int) (k x : Nat) : Bool := decide (plK R x = -(k : Int))
theorem twice {S : Nat → Bool} {N : Nat} (h : 2 ≤ cnt S N) : ∃ x y, x < N ∧ y < N ∧ x ≠ y ∧ S x = true ∧ S y = true := by
  obtain ⟨x, h1, h2, h3⟩ := cnt_ex (S := S) (n := N) (k := 0) (by omega);obtain ⟨y, h4, h5, h6⟩ := cnt_ex (S := S) (n := N) (k := 1) (by omega);exact ⟨x, y, h1, h4, fun e => by subst e; omega, h2, h5⟩
end Go.Proofs.Ytfakhcmamdefiaa

namespace Go.Proofs.Ytfakhcmamdefiaa
open Go Go.RowKit Go.Sw Go.Ech
open Classical
end Go.Proofs.Ytfakhcmamdefiaa

namespace Go.Proofs.Ytfakhcmamdefiaa
open Go Go.RowKit Go.Sw Go.Ech
open Classical
theorem tb_ex {D : Froz} {lo m : Nat} {Ln : Nat → Nat} {R : Nat → Nat → Int} {tw ta si fi ps : Nat → Nat} (hS : SurfP m Ln R) (hT : TwP (m * 3) (plK R) tw) (hG : Gr D lo (m * 3) (plK R) tw (m * 3) (m * 3) m ta si fi ps) :
    ∃ tb, Tp D (m * 3) tb (fun c => c) ∧ ∀ x, x < m * 3 → toT (plK R) tw fi ps x = tb (endK (plK R) x) ∧ frT (plK R) tw fi ps x = tb (begK (plK R) x) := by
  have hm := hS.1
  unfold SizeP at hm
  have ha : ∀ x, x < m * 3 → 1 ≤ (plK R x).natAbs ∧ (plK R x).natAbs ≤ m * 3 / 2 := rowsG_abs hS.2.1;have key : ∀ c, c < m * 3 → ∃ y, y < m * 3 ∧ (plK R y).natAbs = c / 2 + 1 ∧ y < tw y := by
    intro c hc;have h2 := hS.2.2 (c / 2 + 1) (by omega) (by omega)
    unfold us at h2
    obtain ⟨j, hj, hs, _⟩ := cnt_ex (S := usP R (c / 2 + 1)) (n := m * 3) (k := 0) (by omega);have hk := usP_iff.1 hs;have hne := hT.ne j hj
    rcases Nat.lt_or_gt_of_ne hne with e | e
    · exact ⟨tw j, hT.lt j hj, (hT.abs j hj).trans hk, by rw [hT.inv hj]; exact e⟩
    · exact ⟨j, hj, hk, e⟩
  have uniq : ∀ y z, y < m * 3 → z < m * 3 → y < tw y → z < tw z → (plK R z).natAbs = (plK R y).natAbs → z = y := fun y z hy hz h1 h2 e => by
    rcases hT.only y z hy hz e with q | q
    · exact q
    · have := hT.inv hy
      rw [← q] at this; omega
  obtain ⟨fy, hfy⟩ : ∃ fy : Nat → Nat, ∀ c, c < m * 3 → fy c < m * 3 ∧ (plK R (fy c)).natAbs = c / 2 + 1 ∧ fy c < tw (fy c) :=
    ⟨fun c => if h : c < m * 3 then Classical.choose (key c h) else 0, fun c hc => by simp only [dif_pos hc]; exact Classical.choose_spec (key c hc)⟩
  refine ⟨fun c => if c % 2 = 0 then (if 0 < plK R (fy c) then fi (fy c) else ps (fy c)) else (if 0 < plK R (fy c) then ps (fy c) else fi (fy c)), ⟨fun c hc => ?_, fun c d hc hd e => ?_⟩, fun x hx => ?_⟩
  · have hf := hfy c hc
    have ht := hG.tip (fy c) hf.1 hf.2.2;have e : tipV (fun c => c) (fun c => if c % 2 = 0 then (if 0 < plK R (fy c) then fi (fy c) else ps (fy c)) else (if 0 < plK R (fy c) then ps (fy c) else fi (fy c))) c = .pointer none := if_pos rfl;rw [e]
    split <;> split
    · exact ht.1
    · exact ht.2
    · exact ht.2
    · exact ht.1
  · have hf := hfy c hc
    have hg := hfy d hd;have hn := hG.tin (fy c) (fy d) hf.1 hg.1 hf.2.2 hg.2.2;have hn2 := hG.tin (fy d) (fy c) hg.1 hf.1 hg.2.2 hf.2.2;have fin : fy c = fy d → (0 < plK R (fy c) ↔ 0 < plK R (fy d)) ∧ c / 2 = d / 2 := fun q => by
      have h1 := hf.2.1;have h2 := hg.2.1;rw [← q] at h2 ⊢;exact ⟨Iff.rfl, by omega⟩
    split at e <;> split at e <;> split at e <;> split at e <;> first | exact absurd e hn.2.2 | exact absurd e.symm hn2.2.2 | (have q := hn.1 e; have := fin q; omega) | (have q := hn.2.1 e; have := fin q; omega)
  · have hax := ha x hx
    have hx2 := hT.lt x hx;have hab := hT.abs x hx;have hc1 : endK (plK R) x < m * 3 ∧ endK (plK R) x / 2 + 1 = (plK R x).natAbs ∧ (endK (plK R) x % 2 = 1 ↔ 0 < plK R x) := by
      unfold endK; split <;> omega
    have hc2 : begK (plK R) x < m * 3 ∧ begK (plK R) x / 2 + 1 = (plK R x).natAbs ∧ (begK (plK R) x % 2 = 0 ↔ 0 < plK R x) := by
      unfold begK; split <;> omega
    have f1 := hfy _ hc1.1;have f2 := hfy _ hc2.1
    unfold toT frT
    dsimp only
    by_cases hf : tw x < x
    · have ht : tw x < tw (tw x) := by rw [hT.inv hx]; exact hf
      have e1 : fy (endK (plK R) x) = tw x := uniq (tw x) _ hx2 f1.1 ht f1.2.2 (by omega);have e2 : fy (begK (plK R) x) = tw x := uniq (tw x) _ hx2 f2.1 ht f2.2.2 (by omega);rw [if_pos hf, if_pos hf, e1, e2]
      by_cases hk : plK R x = plK R (tw x)
      · rw [if_pos hk, if_pos hk]
        by_cases hp : 0 < plK R x
        · rw [if_neg (by omega), if_pos (by omega), if_pos (by omega), if_pos (by omega)]; exact ⟨rfl, rfl⟩
        · rw [if_pos (by omega), if_neg (by omega), if_neg (by omega), if_neg (by omega)]; exact ⟨rfl, rfl⟩
      · rw [if_neg hk, if_neg hk]
        by_cases hp : 0 < plK R x
        · rw [if_neg (by omega), if_neg (by omega), if_pos (by omega), if_neg (by omega)]; exact ⟨rfl, rfl⟩
        · rw [if_pos (by omega), if_pos (by omega), if_neg (by omega), if_pos (by omega)]; exact ⟨rfl, rfl⟩
    · have ht : x < tw x := by have := hT.ne x hx; omega
      have e1 : fy (endK (plK R) x) = x := uniq x _ hx f1.1 ht f1.2.2 (by omega);have e2 : fy (begK (plK R) x) = x := uniq x _ hx f2.1 ht f2.2.2 (by omega);rw [if_neg hf, if_neg hf, e1, e2]
      by_cases hp : 0 < plK R x
      · rw [if_neg (by omega), if_pos (by omega), if_pos (by omega), if_pos (by omega)]; exact ⟨rfl, rfl⟩
      · rw [if_pos (by omega), if_neg (by omega), if_neg (by omega), if_neg (by omega)]; exact ⟨rfl, rfl⟩
end Go.Proofs.Ytfakhcmamdefiaa
