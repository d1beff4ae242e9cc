/- What functions of the program return, as walks over their operations; no statement of the seat is proved here. -/
import Derived.Test.YtppbjdebomikbaaC7
import Derived.Test.YtppbjdebomikbaaSw10
set_option linter.unusedVariables false
set_option linter.unusedSimpArgs false
namespace Go.Proofs.Ytppbjdebomikbaa
open Go Go.RowKit Go.Sw Go.Ech
open Classical
section
variable {n : Nat} {M : Nat → Nat → Nat}
def chiP (E : Nat → Nat) (m a : Nat) : Nat := if (List.range m).any (fun x => decide (E x = a)) = true then 1 else 0
theorem chiP_le (E : Nat → Nat) (m a : Nat) : chiP E m a ≤ 1 := by unfold chiP; split <;> omega
theorem chiP_0 {E : Nat → Nat} {a : Nat} : chiP E 0 a = 0 := by unfold chiP; simp
theorem chiP_s {E : Nat → Nat} {m a : Nat} : chiP E (m + 1) a = if a = E m then 1 else chiP E m a := by
  unfold chiP
  rw [any_succ]
  by_cases e : a = E m
  · rw [if_pos e, if_pos (by rw [Bool.or_eq_true]; exact .inr (decide_eq_true e.symm))]
  · rw [if_neg e]
    by_cases h : (List.range m).any (fun x => decide (E x = a)) = true
    · rw [if_pos h, if_pos (by rw [Bool.or_eq_true]; exact .inl h)]
    · rw [if_neg h, if_neg (by rw [Bool.or_eq_true]; exact fun q => q.elim h fun q => e (of_decide_eq_true q).symm)]
theorem chiP_new {E : Nat → Nat} {m : Nat} (h : ∀ x, x < m → E x ≠ E m) : chiP E m (E m) = 0 := by
  unfold chiP
  rw [if_neg];intro q;obtain ⟨x, hx, hd⟩ := List.any_eq_true.1 q;exact h x (by simpa using hx) (by simpa using hd)
theorem sumTo_congr' {f g : Nat → Nat} {k : Nat} (h : ∀ i, i < k → f i = g i) : sumTo f k = sumTo g k := by
  induction k with
  | zero => rfl
  | succ k ih => simp only [sumTo]; rw [ih (fun i hi => h i (by omega)), h k (by omega)]
theorem sumTo_pick {F : Nat → Nat} {k e : Nat} (he : e < k) : sumTo (fun a => (if a = e then 1 else 0) * F a) k = F e := by
  induction k with
  | zero => omega
  | succ k ih =>
    simp only [sumTo]
    by_cases h : e = k
    · subst h
      have h0 : sumTo (fun a => (if a = e then 1 else 0) * F a) e = 0 := by
        have : ∀ m, m ≤ e → sumTo (fun a => (if a = e then 1 else 0) * F a) m = 0 := by
          intro m
          induction m with
          | zero => intro _; rfl
          | succ m ih2 => intro hm; simp only [sumTo]; rw [ih2 (by omega), if_neg (by omega)]; omega
        exact this e (Nat.le_refl _)
      rw [h0, if_pos rfl]; omega
    · rw [ih (by omega), if_neg (fun q => h q.symm)]; omega
theorem sumTo_add {f g : Nat → Nat} {k : Nat} : sumTo (fun a => f a + g a) k = sumTo f k + sumTo g k := by
  induction k with
  | zero => rfl
  | succ k ih => simp only [sumTo]; rw [ih]; omega
theorem sum_chi {E F : Nat → Nat} {k : Nat} : ∀ {m : Nat}, (∀ x y, x < y → y < m → E x < E y) → (∀ x, x < m → E x < k) → sumTo (fun a => chiP E m a * F a) k = sumTo (fun x => F (E x)) m
  | 0, _, _ => by
    have : ∀ q, sumTo (fun a => chiP E 0 a * F a) q = 0 := by
      intro q
      induction q with
      | zero => rfl
      | succ q ih => simp only [sumTo]; rw [ih, chiP_0, Nat.zero_mul]
    exact this k
  | m + 1, h1, h2 => by
    have hn := chiP_new (E := E) (m := m) fun x hx => Nat.ne_of_lt (h1 x m hx (by omega));have e : ∀ a, a < k → chiP E (m + 1) a * F a = chiP E m a * F a + (if a = E m then 1 else 0) * F a := fun a _ => by
      rw [chiP_s]
      by_cases q : a = E m
      · subst q; rw [if_pos rfl, if_pos rfl, hn]; omega
      · rw [if_neg q, if_neg q]; omega
    rw [sumTo_congr' e, sumTo_add, sum_chi (fun x y hx hy => h1 x y hx (by omega)) (fun x hx => h2 x (by omega)), sumTo_pick (h2 m (by omega))]
    rfl
def dA (M : Nat → Nat → Nat) (n k a b : Nat) : Nat := if M a b = eC M n k 0 then 1 else 0
def cA (M : Nat → Nat → Nat) (n i j k : Nat) : Nat := sumTo (fun x => sumTo (fun y => dA M n k (eC M n i x) (eC M n j y)) (sC M n j)) (sC M n i)
def cAp (M : Nat → Nat → Nat) (n i j k x y : Nat) : Nat := sumTo (fun x => sumTo (fun y => dA M n k (eC M n i x) (eC M n j y)) (sC M n j)) x + sumTo (fun y => dA M n k (eC M n i x) (eC M n j y)) y
theorem cAp_row {i j k x : Nat} : cAp M n i j k x (sC M n j) = cAp M n i j k (x + 1) 0 := by unfold cAp; simp only [sumTo]; omega
theorem cAp_end {i j k : Nat} : cAp M n i j k (sC M n i) 0 = cA M n i j k := by unfold cAp cA; simp only [sumTo]; omega
theorem cAp_yes {i j k x y : Nat} (h : M (eC M n i x) (eC M n j y) = eC M n k 0) : cAp M n i j k x y + 1 = cAp M n i j k x (y + 1) := by unfold cAp; simp only [sumTo]; unfold dA; rw [if_pos h]; omega
theorem cAp_no {i j k x y : Nat} (h : ¬ M (eC M n i x) (eC M n j y) = eC M n k 0) : cAp M n i j k x y = cAp M n i j k x (y + 1) := by unfold cAp; simp only [sumTo]; unfold dA; rw [if_neg h]; omega
theorem dA_le (k a b : Nat) : dA M n k a b ≤ 1 := by unfold dA; split <;> omega
theorem cAp_le (hn : n ≤ 6) {i j k x y : Nat} (hx : x ≤ sC M n i) (hy : y ≤ sC M n j) : cAp M n i j k x y ≤ 42 := by
  have hi := sC_le (M := M) hn i;have hj := sC_le (M := M) hn j;have h1 := sumTo_le (f := fun x => sumTo (fun y => dA M n k (eC M n i x) (eC M n j y)) (sC M n j)) (c := 6) (m := x) fun a _ => Nat.le_trans (sumTo_le (c := 1) fun b _ => dA_le k _ _) (by omega);have h2 := sumTo_le (f := fun y => dA M n k (eC M n i x) (eC M n j y)) (c := 1) (m := y) fun b _ => dA_le k _ _
  unfold cAp; omega
theorem eC_up {i x y : Nat} (h : x < y) (hy : y < sC M n i) : eC M n i x < eC M n i y := asc_lt h hy
theorem cA_prod {i j k : Nat} : prodI (gT n M) (chiP (eC M n i) (sC M n i)) (chiP (eC M n j) (sC M n j)) n n (eC M n k 0) = cA M n i j k := by
  unfold prodI cA
  have e : ∀ a, a < n → sumTo (fun b => chiP (eC M n i) (sC M n i) a * chiP (eC M n j) (sC M n j) b * gT n M a b (eC M n k 0)) n = chiP (eC M n i) (sC M n i) a * sumTo (fun y => dA M n k a (eC M n j y)) (sC M n j) := fun a ha => by
    have e2 : ∀ b, b < n → chiP (eC M n i) (sC M n i) a * chiP (eC M n j) (sC M n j) b * gT n M a b (eC M n k 0) = chiP (eC M n j) (sC M n j) b * (chiP (eC M n i) (sC M n i) a * dA M n k a b) := fun b hb => by
      have e3 : gT n M a b (eC M n k 0) = dA M n k a b := by
        unfold gT dA
        by_cases q : M a b = eC M n k 0
        · rw [if_pos q, if_pos ⟨ha, hb, q.symm⟩]
        · rw [if_neg q, if_neg (fun z => q z.2.2.symm)]
      rw [e3, Nat.mul_comm (chiP (eC M n i) (sC M n i) a), Nat.mul_assoc]
    rw [sumTo_congr' e2, sum_chi (E := eC M n j) (F := fun b => chiP (eC M n i) (sC M n i) a * dA M n k a b) (fun x y h hy => eC_up h hy) (fun x hx => eC_lt hx)]
    generalize chiP (eC M n i) (sC M n i) a = c
    have : ∀ m, sumTo (fun x => c * dA M n k a (eC M n j x)) m = c * sumTo (fun y => dA M n k a (eC M n j y)) m := by
      intro m
      induction m with
      | zero => simp [sumTo]
      | succ m ih => simp only [sumTo]; rw [ih, Nat.mul_add]
    exact this _
  rw [sumTo_congr' e, sum_chi (E := eC M n i) (F := fun a => sumTo (fun y => dA M n k a (eC M n j y)) (sC M n j)) (fun x y h hy => eC_up h hy) (fun x hx => eC_lt hx)]
def tCp (p n : Nat) (M : Nat → Nat → Nat) (a b c i j k : Nat) : Nat := if j < nC M n ∧ k < nC M n ∧ (i < a ∨ (i = a ∧ (j < b ∨ (j = b ∧ k < c)))) then cA M n i j k % p else 0
theorem tCp_0 {p i j k : Nat} : tCp p n M 0 0 0 i j k = 0 := by unfold tCp; rw [if_neg (by omega)]
theorem tCp_k {p a b i j k : Nat} : tCp p n M a b (nC M n) i j k = tCp p n M a (b + 1) 0 i j k := by
  unfold tCp
  have e : (j < nC M n ∧ k < nC M n ∧ (i < a ∨ (i = a ∧ (j < b ∨ (j = b ∧ k < nC M n))))) = (j < nC M n ∧ k < nC M n ∧ (i < a ∨ (i = a ∧ (j < b + 1 ∨ (j = b + 1 ∧ k < 0))))) := by apply propext; omega
  simp only [e]
theorem tCp_j {p a i j k : Nat} : tCp p n M a (nC M n) 0 i j k = tCp p n M (a + 1) 0 0 i j k := by
  unfold tCp
  have e : (j < nC M n ∧ k < nC M n ∧ (i < a ∨ (i = a ∧ (j < nC M n ∨ (j = nC M n ∧ k < 0))))) = (j < nC M n ∧ k < nC M n ∧ (i < a + 1 ∨ (i = a + 1 ∧ (j < 0 ∨ (j = 0 ∧ k < 0))))) := by apply propext; omega
  simp only [e]
theorem tCp_step {p a b c i j k v : Nat} (hb : b < nC M n) (hc : c < nC M n) (hv : v = cA M n a b c % p) : (if i = a ∧ j = b ∧ k = c then v else tCp p n M a b c i j k) = tCp p n M a b (c + 1) i j k := by
  unfold tCp
  by_cases e : i = a ∧ j = b ∧ k = c
  · obtain ⟨rfl, rfl, rfl⟩ := e
    rw [if_pos ⟨rfl, rfl, rfl⟩, if_pos (by omega), hv]
  · rw [if_neg e]
    have e : (j < nC M n ∧ k < nC M n ∧ (i < a ∨ (i = a ∧ (j < b ∨ (j = b ∧ k < c))))) = (j < nC M n ∧ k < nC M n ∧ (i < a ∨ (i = a ∧ (j < b ∨ (j = b ∧ k < c + 1))))) := by apply propext; omega
    simp only [e]
end

end Go.Proofs.Ytppbjdebomikbaa
