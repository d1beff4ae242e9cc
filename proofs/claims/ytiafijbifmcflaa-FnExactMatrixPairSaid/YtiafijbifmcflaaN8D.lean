/- What functions of the program return, as walks over their operations; no statement of the seat is proved here. -/
import Derived.Test.YtiafijbifmcflaaN7D
set_option linter.unusedVariables false
set_option linter.unusedSimpArgs false
namespace Go.Proofs.Ytiafijbifmcflaa
open Go Go.RowKit Go.Sw Go.Ech
open Classical
end Go.Proofs.Ytiafijbifmcflaa

namespace Go.Proofs.Ytiafijbifmcflaa
open Go Go.RowKit Go.Sw Go.Ech
open Classical
theorem pTp_yesE {pl : Nat → Nat → Int} {n a b i j k q : Nat} (hb : b < n) (h : pl a b = (q : Int)) : (if i = a ∧ j = b ∧ k = q then 1 else pTp pl n a b i j k) = pTp pl n a (b + 1) i j k := by
  rw [← pTp_yes hb h]
  by_cases e : i = a ∧ j = b
  · rw [if_pos e]
    by_cases h2 : k = q
    · rw [if_pos ⟨e.1, e.2, h2⟩, if_pos h2]
    · rw [if_neg (fun z => h2 z.2.2), if_neg h2]
      obtain ⟨rfl, rfl⟩ := e
      unfold pTp; rw [if_neg (by omega)]
  · rw [if_neg e, if_neg (fun z => e ⟨z.1, z.2.1⟩)]
theorem sq_place {i j : Nat} (hi : i < 4) (hj : j < 4) : sqV i j = if i % 2 = j / 2 then ((i / 2 * 2 + j % 2 : Nat) : Int) else -1 := by
  have h : ∀ i, i < 4 → ∀ j, j < 4 → sqV i j = if i % 2 = j / 2 then ((i / 2 * 2 + j % 2 : Nat) : Int) else -1 := by decide
  exact h i hi j hj
theorem alg_full {p n : Int} {T U : Nat → Nat → Nat → Nat} {f g : Nat → Nat} (h : ∀ i, i < 6 → ∀ j, j < 6 → ∀ k, k < 6 → T i j k = U i j k) (hf : f = g) : algC p n T f = algC p n U g := by
  rw [hf]; exact algC_congr h
end Go.Proofs.Ytiafijbifmcflaa
