/- Plain lemmas of a small calculus for walks over frames and own memory; no statement of the seat is proved here. -/
import Derived.Test.YtficgmohfabplaaEch10
import Derived.Test.YtficgmohfabplaaEch5
set_option linter.unusedVariables false
set_option linter.unusedSimpArgs false
namespace Go.Ech
open Go.Sw
/-! ### More unknowns than equations; nilpotent vectors. -/
theorem dep {p N m : Nat} {M : Nat → Nat → Nat} (hp : primeN p) (hM : ∀ i c, M i c < p) (hm : m < N) : ∃ x : Nat → Int, (∃ c, c < N ∧ ¬ (p : Int) ∣ x c) ∧ Ker p N M m x := by
  obtain ⟨k, E, ld, h, hk, hK⟩ := rref_exists (N := N) (m := m) hp hM
  have hp2 := hp.two
  by_cases hall : ∀ c, c < N → isLd k ld c
  · have := ld_same (k' := N) (ld' := fun i => i) h.mono (fun i j hij _ => hij) (fun c => ⟨fun ⟨i, hi, e⟩ => ⟨c, by rw [← e]; exact h.lt i hi, rfl⟩, fun ⟨i, hi, e⟩ => hall c (by dsimp only at e; omega)⟩)
    omega
  · have hx : ∃ c, c < N ∧ ¬ isLd k ld c := by
      apply Classical.byContradiction
      intro hno
      exact hall fun c hc => Classical.byContradiction fun hn => hno ⟨c, hc, hn⟩
    obtain ⟨c, hc, hn⟩ := hx
    refine ⟨free E k ld c, ⟨c, hc, ?_⟩, (hK _).1 (h.free_ker hc hn)⟩
    have e : free E k ld c c = 1 := by unfold free; simp
    rw [e]
    intro hd
    have := Int.le_of_dvd (by omega) hd
    omega
theorem dvd_prime {p a : Nat} {x : Int} (hp : primeN p) (ha : a < p) (h0 : a ≠ 0) (h : (p : Int) ∣ x * (a : Int)) : (p : Int) ∣ x := by
  obtain ⟨v, hv⟩ := inv_ex hp ha h0
  have h1 : (p : Int) ∣ ((a * v : Nat) : Int) - 1 := by
    have := emod_dvd (p : Int) ((a * v : Nat) : Int)
    rw [← Int.natCast_emod, hv] at this
    have h2 := Int.dvd_neg.2 this
    rwa [show -(((1 : Nat) : Int) - ((a * v : Nat) : Int)) = ((a * v : Nat) : Int) - 1 by omega] at h2
  have h3 : x = (x * (a : Int)) * (v : Int) - x * (((a * v : Nat) : Int) - 1) := by rw [Int.natCast_mul]; grind
  rw [h3]
  exact Int.dvd_sub (Int.dvd_mul_of_dvd_left h) (Int.dvd_mul_of_dvd_right h1)
/-- Powers, the unit first. -/
def powU (u : Nat → Nat) (W : Nat → Nat → Nat) : Nat → Nat → Nat
  | 0 => u
  | k + 1 => W k
theorem Pr_comb {p : Int} {n N : Nat} {T : Nat → Nat → Nat → Nat} {x v : Nat → Int} {R : Nat → Nat → Int} (h : ∀ a, a < n → p ∣ sI (fun j => x j * R j a) N) (c : Nat) : p ∣ sI (fun j => x j * Pr n T (R j) v c) N := by
  have e : sI (fun j => x j * Pr n T (R j) v c) N = sI (fun a => sI (fun j => x j * R j a) N * sI (fun b => v b * (T a b c : Int)) n) n := by
    have e1 : ∀ j, x j * Pr n T (R j) v c = sI (fun a => x j * R j a * sI (fun b => v b * (T a b c : Int)) n) n := fun j => by
      rw [Pr_left, ← sI_mul]; exact sI_congr fun a _ => by grind
    have e2 : ∀ a, sI (fun j => x j * R j a) N * sI (fun b => v b * (T a b c : Int)) n = sI (fun j => x j * R j a * sI (fun b => v b * (T a b c : Int)) n) N := fun a => sI_mulr _ _ _
    simp only [e1, e2]
    exact sI_swap _ _ _
  rw [e]
  exact sI_dvd fun a ha => Int.dvd_mul_of_dvd_left (h a ha)
theorem pow_rel {p n N : Nat} {T : Nat → Nat → Nat → Nat} {u v : Nat → Nat} {W : Nat → Nat → Nat} {x : Nat → Int} (hu : UnitI p n T u) (h0 : ∀ c, c < n → W 0 c = v c) (hs : ∀ k c, c < n → (p : Int) ∣ (W (k + 1) c : Int) - Pr n T (ci (W k)) (ci v) c)
    (hx : ∀ c, c < n → (p : Int) ∣ sI (fun j => x j * (powU u W j c : Int)) N) : ∀ t c, c < n → (p : Int) ∣ sI (fun j => x j * (powU u W (j + t) c : Int)) N
  | 0, c, hc => hx c hc
  | t + 1, c, hc => by
    have ih := pow_rel hu h0 hs hx t
    have hP : ∀ k, (p : Int) ∣ (powU u W (k + 1) c : Int) - Pr n T (ci (powU u W k)) (ci v) c := by
      intro k
      cases k with
      | zero =>
        have := Pr_unit_left hu (ci v) hc
        have h2 := Int.dvd_neg.2 this
        simp only [powU, h0 c hc]
        rwa [show -(Pr n T (ci u) (ci v) c - ci v c) = (v c : Int) - Pr n T (ci u) (ci v) c by simp only [ci]; omega] at h2
      | succ k => exact hs k c hc
    have h1 := Pr_comb (T := T) (v := ci v) (R := fun j => ci (powU u W (j + t))) (x := x) (N := N) (p := (p : Int)) (n := n) (fun a ha => ih a ha) c
    have h2 : (p : Int) ∣ sI (fun j => x j * (powU u W (j + (t + 1)) c : Int)) N - sI (fun j => x j * Pr n T (ci (powU u W (j + t))) (ci v) c) N := by
      rw [sI_sub]
      refine sI_dvd fun j _ => ?_
      rw [← Int.mul_sub]
      exact Int.dvd_mul_of_dvd_right (hP (j + t))
    exact (dvd_iff_sub h2).2 h1
/-- The index of a nilpotent vector is at most the size. -/
theorem nil_size {p n : Nat} {T : Nat → Nat → Nat → Nat} {u v : Nat → Nat} {W : Nat → Nat → Nat} (hp : primeN p) (hn0 : 0 < n) (hu : UnitI p n T u) (hW : ∀ k c, c < n → W k c < p) (h0 : ∀ c, c < n → W 0 c = v c) (hs : ∀ k c, c < n → (p : Int) ∣ (W (k + 1) c : Int) - Pr n T (ci (W k)) (ci v) c)
    (hz : ∀ c, c < n → W n c = 0) : ∀ c, c < n → W (n - 1) c = 0 := by
  intro c hc
  apply Classical.byContradiction
  intro hne
  have hz2 : ∀ s c, c < n → (p : Int) ∣ (W (n + s) c : Int) := by
    intro s
    induction s with
    | zero => intro c hc; rw [Nat.add_zero, hz c hc]; exact ⟨0, rfl⟩
    | succ s ih =>
      intro c hc
      refine (dvd_iff_sub (hs (n + s) c hc)).2 ?_
      rw [Pr_left]
      exact sI_dvd fun a ha => Int.dvd_mul_of_dvd_left (ih a ha)
  obtain ⟨x, hx, hK⟩ := dep (N := n + 1) (m := n) (M := fun i j => if i < n then powU u W j i else 0) hp (fun i j => by
    split
    · rename_i hi; cases j with | zero => exact hu.small i | succ j => exact hW j i hi
    · have := hp.two; omega) (by omega)
  have hx0 : ∀ c, c < n → (p : Int) ∣ sI (fun j => x j * (powU u W j c : Int)) (n + 1) := fun c hc => by
    have := hK c hc
    unfold dot ci at this
    simp only [if_pos hc] at this
    rwa [sI_congr (g := fun j => x j * (powU u W j c : Int)) (fun j _ => Int.mul_comm _ _)] at this
  have hmin : ∃ j, j < n + 1 ∧ ¬ (p : Int) ∣ x j ∧ ∀ i, i < j → (p : Int) ∣ x i := by
    obtain ⟨c, hc, hcx⟩ := hx
    have : ∀ b, b ≤ c → (∃ j, j < n + 1 ∧ ¬ (p : Int) ∣ x j ∧ ∀ i, i < j → (p : Int) ∣ x i) ∨ ∀ i, i < b → (p : Int) ∣ x i := by
      intro b
      induction b with
      | zero => intro _; exact Or.inr fun i hi => absurd hi (by omega)
      | succ b ih =>
        intro hb
        rcases ih (by omega) with h | h
        · exact Or.inl h
        · by_cases e : (p : Int) ∣ x b
          · refine Or.inr fun i hi => ?_
            by_cases e2 : i = b
            · rw [e2]; exact e
            · exact h i (by omega)
          · exact Or.inl ⟨b, by omega, e, h⟩
    rcases this c (Nat.le_refl _) with h | h
    · exact h
    · exact ⟨c, hc, hcx, h⟩
  obtain ⟨j, hj, hxj, hlow⟩ := hmin
  have hr := pow_rel hu h0 hs hx0 (n - j) c hc
  have h1 : (p : Int) ∣ sI (fun i => x i * (powU u W (i + (n - j)) c : Int)) (n + 1) - x j * (W (n - 1) c : Int) := by
    have e : x j * (W (n - 1) c : Int) = sI (fun i => if i = j then x j * (W (n - 1) c : Int) else 0) (n + 1) := by
      rw [sI_one hj]
      · simp
      · intro i _ hne; simp [hne]
    rw [e, sI_sub]
    refine sI_dvd fun i hi => ?_
    by_cases e1 : i = j
    · rw [if_pos e1, e1, show j + (n - j) = (n - 1) + 1 by omega]
      simp only [powU]
      rw [Int.sub_self]; exact ⟨0, by simp⟩
    · rw [if_neg e1, Int.sub_zero]
      by_cases e2 : i < j
      · exact Int.dvd_mul_of_dvd_left (hlow i e2)
      · rw [show i + (n - j) = (n + (i - j - 1)) + 1 by omega]
        simp only [powU]
        exact Int.dvd_mul_of_dvd_right (hz2 _ c hc)
  have h2 := (dvd_iff_sub h1).1 hr
  exact hxj (dvd_prime hp (hW _ _ hc) hne h2)
end Go.Ech
