/- What functions of the program return, as walks over their operations; no statement of the seat is proved here. -/
import Derived.Test.YtilcjjjpiefebaaJ5
set_option linter.unusedVariables false
set_option linter.unusedSimpArgs false
namespace Go.Proofs.Ytilcjjjpiefebaa
open Go Go.RowKit Go.Sw Go.Ech
open Classical
def NumP (len lo hi : Int) (l : Nat) (f : Nat → Int) : Prop := (l : Int) = len ∧ ∀ j, j < l → lo ≤ f j ∧ f j ≤ hi
def ShP (p : Int) (n m : Nat) (Ln : Nat → Nat) (R : Nat → Nat → Int) : Prop := m = n ∧ ∀ i, i < m → Ln i = n ∧ ∀ j, j < n → 0 ≤ R i j ∧ R i j ≤ p - 1
def rOf (R : Nat → Nat → Int) (i j : Nat) : Nat := (R i j).toNat
structure ShT (w : World) (b o n p : Nat) (ca be ob : Nat → Nat) (r : Nat → Nat → Nat) : Prop where
  cell : ∀ i, i < n → w.cell? ⟨b, o + i * 1, none⟩ = some (.slice (some ⟨be i, ob i, none⟩) n (ca i))
  num : ∀ i, i < n → ∀ j, j < n → w.cell? ⟨be i, ob i + j * 1, none⟩ = some (.int .i64 (r i j : Int))
  lt : ∀ i, i < n → ∀ j, j < n → r i j < p
theorem ShT.ext {w w' : World} {b o n p : Nat} {ca be ob : Nat → Nat} {r : Nat → Nat → Nat} (h : ShT w b o n p ca be ob r) (hx : Ext w w') : ShT w' b o n p ca be ob r :=
  ⟨fun i hi => cell_ext (h.cell i hi) hx, fun i hi j hj => cell_ext (h.num i hi j hj) hx, h.lt⟩
def cocT (p : Nat) (M r : Nat → Nat → Nat) (i j k : Nat) : Prop := (r i j * r (M i j) k) % p = (r j k * r i (M j k)) % p
def CocP (p n : Nat) (M r : Nat → Nat → Nat) : Prop := (∀ i, i < n → ∀ j, j < n → r i j ≠ 0 ∧ ∀ k, k < n → cocT p M r i j k) ∧ r 0 0 = 1
theorem primeP_pos2 {p : Int} (h : primeP p) : 2 ≤ p ∧ p ≤ 13 := by unfold primeP at h; omega

end Go.Proofs.Ytilcjjjpiefebaa
