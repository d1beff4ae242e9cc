/- What functions of the program return, as walks over their operations; no statement of the seat is proved here. -/
import Derived.Test.YthliekalhgafcaaT11
set_option linter.unusedVariables false
set_option linter.unusedSimpArgs false
namespace Go.Proofs.Ythliekalhgafcaa
open Go Go.RowKit Go.Sw Go.Ech
open Classical
/-- The place of the first factor, and of the second one, of a number of tensors side by side. -/
def sdI (B C D W c : Nat) : Nat := c / W / C * B + c % W / D
def sdJ (C D W c : Nat) : Nat := c / W % C * D + c % W % D
def sdF (p B C D W : Nat) (f h : Nat → Nat) (c : Nat) : Nat := f (sdI B C D W c) * h (sdJ C D W c) % p
def sdL (p B C D W : Nat) (f h : Nat → Nat) (N c : Nat) : Nat := if c < N then sdF p B C D W f h c else 0
def sdM (p B C D W : Nat) (f h : Nat → Nat) (i j c : Nat) : Nat := if sdI B C D W c < i ∨ (sdI B C D W c = i ∧ sdJ C D W c < j) then sdF p B C D W f h c else 0
theorem dm_div {x y K : Nat} (h : y < K) : (x * K + y) / K = x := (div_row (by omega)).2 ⟨by omega, by omega⟩
theorem dm_mod {x y K : Nat} (h : y < K) : (x * K + y) % K = y := by rw [mod_row (dm_div h)]; omega
section
variable {p B C D W i j c : Nat} {f h : Nat → Nat}
theorem sd_at (hB : 0 < B) (hC : 0 < C) (hD : 0 < D) (hW : W = B * D) (hj : j < C * D) : c = ((i / B * C + j / D) * B + i % B) * D + j % D ↔ sdI B C D W c = i ∧ sdJ C D W c = j := by
  have hW0 : 0 < W := by rw [hW]; exact Nat.mul_pos hB hD
  constructor
  · intro e
    have hjC : j / D < C := Nat.div_lt_of_lt_mul (by rw [Nat.mul_comm]; exact hj)
    have hiB := Nat.mod_lt i hB
    have hjD := Nat.mod_lt j hD
    have hlow : i % B * D + j % D < W := by
      have h1 : i % B * D + D ≤ B * D := by rw [← Nat.succ_mul]; exact Nat.mul_le_mul_right _ hiB
      omega
    have ec : c = (i / B * C + j / D) * W + (i % B * D + j % D) := by
      rw [e, hW, Nat.add_mul ((i / B * C + j / D) * B) (i % B) D, Nat.mul_assoc (i / B * C + j / D) B D]; omega
    have e1 : c / W = i / B * C + j / D := by rw [ec]; exact dm_div hlow
    have e2 : c % W = i % B * D + j % D := by rw [ec]; exact dm_mod hlow
    unfold sdI sdJ
    rw [e1, e2, dm_div hjC, dm_mod hjC, dm_div hjD, dm_mod hjD]
    have h3 := Nat.div_add_mod i B
    have h4 := Nat.div_add_mod j D
    rw [Nat.mul_comm] at h3 h4
    exact ⟨h3, h4⟩
  · rintro ⟨rfl, rfl⟩
    unfold sdI sdJ
    have hY : c % W / D < B := Nat.div_lt_of_lt_mul (by rw [Nat.mul_comm, ← hW]; exact Nat.mod_lt _ hW0)
    have hV := Nat.mod_lt (c % W) hD
    rw [dm_div hY, dm_mod hY, dm_div hV, dm_mod hV]
    have h1 := Nat.div_add_mod (c / W) C
    have h2 := Nat.div_add_mod (c % W) D
    have h3 := Nat.div_add_mod c W
    rw [Nat.mul_comm] at h1 h2 h3
    rw [h1, Nat.add_mul, Nat.mul_assoc, ← hW]
    omega
theorem sdF_lt (hp : 0 < p) : sdF p B C D W f h c < p := Nat.mod_lt _ hp
theorem sdL_lt {N : Nat} (hp : 0 < p) : sdL p B C D W f h N c < p := by
  unfold sdL; split
  · exact sdF_lt hp
  · exact hp
theorem sdL_step {o L x : Nat} {h' : Nat → Nat} (hD : 0 < D) (hjB : j < B) (hW : W = B * D) (ho : o = i * W + j * D) (hL : L = D) (hx : x = f (i / C * B + j)) (hh : ∀ q, h' q = h (i % C * D + q)) :
    (if o ≤ c ∧ c < o + L then (sdL p B C D W f h (i * W + j * D) c + x * h' (c - o)) % p else sdL p B C D W f h (i * W + j * D) c) = sdL p B C D W f h (i * W + (j + 1) * D) c := by
  have e0 : (j + 1) * D = j * D + D := Nat.succ_mul j D
  have hjD : j * D + D ≤ W := by rw [hW, ← Nat.succ_mul]; exact Nat.mul_le_mul_right _ hjB
  have hW0 : 0 < W := by omega
  rw [e0]
  unfold sdL
  by_cases e : o ≤ c ∧ c < o + L
  · rw [if_pos e, if_neg (by omega), if_pos (by omega), hh, hx, Nat.zero_add]
    have e1 : c / W = i := (div_row hW0).2 ⟨by omega, by omega⟩
    have e2 : c % W = j * D + (c - o) := by rw [mod_row e1]; omega
    unfold sdF sdI sdJ
    rw [e1, e2, dm_div (show c - o < D by omega), dm_mod (show c - o < D by omega)]
  · rw [if_neg e]
    have e1 : (c < i * W + (j * D + D)) = (c < i * W + j * D) := by apply propext; omega
    simp only [e1]
theorem sdL_row (hW : W = B * D) : sdL p B C D W f h (i * W + B * D) c = sdL p B C D W f h ((i + 1) * W) c := by
  rw [← hW, ← Nat.succ_mul]
theorem sdM_step {a x y : Nat} (hB : 0 < B) (hC : 0 < C) (hD : 0 < D) (hW : W = B * D) (hj : j < C * D) (ha : a = ((i / B * C + j / D) * B + i % B) * D + j % D) (hx : x = f i) (hy : y = h j) :
    (if c = a then x * y % p else sdM p B C D W f h i j c) = sdM p B C D W f h i (j + 1) c := by
  subst ha hx hy
  by_cases e : c = ((i / B * C + j / D) * B + i % B) * D + j % D
  · rw [if_pos e]
    obtain ⟨h1, h2⟩ := (sd_at hB hC hD hW hj).1 e
    unfold sdM sdF
    rw [h1, h2, if_pos (by omega)]
  · rw [if_neg e]
    have h1 : ¬ (sdI B C D W c = i ∧ sdJ C D W c = j) := fun q => e ((sd_at hB hC hD hW hj).2 q)
    unfold sdM
    have h2 : (sdI B C D W c < i ∨ (sdI B C D W c = i ∧ sdJ C D W c < j + 1)) = (sdI B C D W c < i ∨ (sdI B C D W c = i ∧ sdJ C D W c < j)) := by apply propext; omega
    simp only [h2]
theorem sdM_0 : sdM p B C D W f h 0 0 c = 0 := by unfold sdM; rw [if_neg (by omega)]
theorem sdJ_lt (hD : 0 < D) (hC : 0 < C) : sdJ C D W c < C * D := by
  unfold sdJ
  have h1 := Nat.mod_lt (c / W) hC
  have h2 := Nat.mod_lt (c % W) hD
  have h3 : c / W % C * D + D ≤ C * D := by rw [← Nat.succ_mul]; exact Nat.mul_le_mul_right _ h1
  omega
theorem sdM_row (hD : 0 < D) (hC : 0 < C) : sdM p B C D W f h i (C * D) c = sdM p B C D W f h (i + 1) 0 c := by
  have := sdJ_lt (W := W) (c := c) hD hC
  unfold sdM
  have h2 : (sdI B C D W c < i ∨ (sdI B C D W c = i ∧ sdJ C D W c < C * D)) = (sdI B C D W c < i + 1 ∨ (sdI B C D W c = i + 1 ∧ sdJ C D W c < 0)) := by apply propext; omega
  simp only [h2]
theorem sdM_all {A : Nat} (hB : 0 < B) (hD : 0 < D) (hW : W = B * D) (hc : c < A * C * W) : sdM p B C D W f h (A * B) 0 c = sdF p B C D W f h c := by
  have hW0 : 0 < W := by rw [hW]; exact Nat.mul_pos hB hD
  unfold sdM
  rw [if_pos]
  left
  unfold sdI
  have h1 : c / W < A * C := Nat.div_lt_of_lt_mul (by rw [Nat.mul_comm]; exact hc)
  have h2 : c / W / C < A := Nat.div_lt_of_lt_mul (by rw [Nat.mul_comm]; exact h1)
  have h3 : c % W / D < B := Nat.div_lt_of_lt_mul (by rw [Nat.mul_comm, ← hW]; exact Nat.mod_lt _ hW0)
  have h4 : c / W / C * B + B ≤ A * B := by rw [← Nat.succ_mul]; exact Nat.mul_le_mul_right _ h2
  omega
end
theorem div_pow {n i r a : Nat} (h : a < n ^ (i + r)) : a / n ^ r < n ^ i := Nat.div_lt_of_lt_mul (by rw [Nat.mul_comm, ← Nat.pow_add]; exact h)

end Go.Proofs.Ythliekalhgafcaa
