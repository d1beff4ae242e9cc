/- What functions of the program return, as walks over their operations; no statement of the seat is proved here. -/
import Derived.Test.YthliekalhgafcaaT9
set_option linter.unusedVariables false
set_option linter.unusedSimpArgs false
namespace Go.Proofs.Ythliekalhgafcaa
open Go Go.RowKit Go.Sw Go.Ech
open Classical
theorem div_row {W c i : Nat} (hW : 0 < W) : c / W = i ↔ i * W ≤ c ∧ c < i * W + W := by
  constructor
  · intro h
    have h1 := Nat.div_add_mod c W
    have h2 := Nat.mod_lt c hW
    rw [h, Nat.mul_comm] at h1
    omega
  · rintro ⟨h1, h2⟩
    exact Nat.div_eq_of_lt_le h1 (by rw [Nat.succ_mul]; exact h2)
theorem mod_row {W c i : Nat} (h : c / W = i) : c % W = c - i * W := by
  have h1 := Nat.div_add_mod c W
  rw [h, Nat.mul_comm] at h1
  omega
/-- A number of a composition, J numbers of the middle done. -/
def cmpA (p W M : Nat) (f h : Nat → Nat) (r k : Nat) : Nat → Nat
  | 0 => 0
  | J + 1 => (cmpA p W M f h r k J + f (r * M + J) * h (J * W + k)) % p
theorem cmpA_lt {p W M r k J : Nat} {f h : Nat → Nat} (hp : 0 < p) : cmpA p W M f h r k J < p := by
  cases J with
  | zero => exact hp
  | succ J => exact Nat.mod_lt _ hp
/-- Rows before i done, of row i the first j numbers of the middle. -/
def cmpF (p W M : Nat) (f h : Nat → Nat) (i j c : Nat) : Nat := cmpA p W M f h (c / W) (c % W) (if c / W < i then M else if c / W = i then j else 0)
def cmpG (p W M : Nat) (f h : Nat → Nat) (i j k c : Nat) : Nat := cmpA p W M f h (c / W) (c % W) (if c / W < i then M else if c / W = i then (if c % W < k then j + 1 else j) else 0)
section
variable {p W M i j k c : Nat} {f h : Nat → Nat}
theorem cmpF_0 : cmpF p W M f h 0 0 c = 0 := by
  unfold cmpF
  rw [if_neg (Nat.not_lt_zero _)]
  split <;> rfl
theorem cmp_row : cmpF p W M f h i M c = cmpF p W M f h (i + 1) 0 c := by
  unfold cmpF
  congr 1
  by_cases h1 : c / W < i
  · rw [if_pos h1, if_pos (by omega)]
  · rw [if_neg h1]
    by_cases h2 : c / W = i
    · rw [if_pos h2, if_pos (by omega)]
    · rw [if_neg h2, if_neg (by omega)]
      split <;> rfl
theorem cmp_step {o L x : Nat} {h' : Nat → Nat} (hW : 0 < W) (ho : o = i * W) (hL : L = W) (hx : x = f (i * M + j)) (hh : ∀ q, h' q = h (j * W + q)) :
    (if o ≤ c ∧ c < o + L then (cmpF p W M f h i j c + x * h' (c - o)) % p else cmpF p W M f h i j c) = cmpF p W M f h i (j + 1) c := by
  subst ho hL hx
  by_cases e : c / L = i
  · rw [if_pos ((div_row hW).1 e), hh]
    unfold cmpF
    rw [if_neg (by omega), if_pos e, if_neg (by omega), if_pos e, mod_row e, e]
    rfl
  · rw [if_neg (fun q => e ((div_row hW).2 q))]
    unfold cmpF
    rw [if_neg e, if_neg e]
theorem cmpG_0 : cmpG p W M f h i j 0 c = cmpF p W M f h i j c := by
  unfold cmpG cmpF
  rw [if_neg (Nat.not_lt_zero _)]
theorem cmpG_full (hW : 0 < W) (hk : ¬ k < W) : cmpG p W M f h i j k c = cmpF p W M f h i (j + 1) c := by
  have := Nat.mod_lt c hW
  unfold cmpG cmpF
  rw [if_pos (show c % W < k by omega)]
theorem cmpG_zero (hp : 0 < p) (hx : f (i * M + j) = 0) : cmpG p W M f h i j k c = cmpF p W M f h i (j + 1) c := by
  unfold cmpG cmpF
  by_cases e : c / W = i
  · have n1 : ¬ c / W < i := by omega
    rw [if_neg n1, if_pos e, if_neg n1, if_pos e]
    by_cases e2 : c % W < k
    · rw [if_pos e2]
    · rw [if_neg e2]
      show _ = (cmpA p W M f h (c / W) (c % W) j + f (c / W * M + j) * _) % p
      rw [e, hx, Nat.zero_mul, Nat.add_zero, Nat.mod_eq_of_lt (cmpA_lt hp)]
  · rw [if_neg e, if_neg e]
theorem cmpG_lt (hp : 0 < p) : cmpG p W M f h i j k c < p := cmpA_lt hp
theorem cmpG_step {a x y : Nat} (hW : 0 < W) (hk : k < W) (ha : a = i * W + k) (hx : x = f (i * M + j)) (hy : y = h (j * W + k)) :
    (if c = a then (cmpG p W M f h i j k a + x * y) % p else cmpG p W M f h i j k c) = cmpG p W M f h i j (k + 1) c := by
  subst ha hx hy
  have e1 : (i * W + k) / W = i := (div_row hW).2 ⟨by omega, by omega⟩
  have e2 : (i * W + k) % W = k := by rw [mod_row e1]; omega
  by_cases e : c = i * W + k
  · subst e
    rw [if_pos rfl]
    unfold cmpG
    rw [e1, e2, if_neg (Nat.lt_irrefl i), if_pos rfl, if_neg (Nat.lt_irrefl k), if_neg (Nat.lt_irrefl i), if_pos rfl, if_pos (Nat.lt_succ_self k)]
    rfl
  · rw [if_neg e]
    unfold cmpG
    by_cases e3 : c / W = i
    · have e4 := mod_row e3
      have e5 := (div_row hW).1 e3
      have e6 : (c % W < k + 1) = (c % W < k) := by apply propext; omega
      simp only [e6]
    · rw [if_neg e3, if_neg e3]
end
theorem idx_bd2 {n i o a : Nat} (h : a < n ^ i) : a * n ^ o + n ^ o ≤ n ^ (i + o) := by
  rw [Nat.pow_add, ← Nat.succ_mul]; exact Nat.mul_le_mul_right _ h
theorem pow_le_add {n i o : Nat} (hn : 0 < n) : n ^ i ≤ n ^ (i + o) := Nat.pow_le_pow_right hn (by omega)
theorem pow_le_add2 {n i o : Nat} (hn : 0 < n) : n ^ o ≤ n ^ (i + o) := Nat.pow_le_pow_right hn (by omega)

end Go.Proofs.Ythliekalhgafcaa
