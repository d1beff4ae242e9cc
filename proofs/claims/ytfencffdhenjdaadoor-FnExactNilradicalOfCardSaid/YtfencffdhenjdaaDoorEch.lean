/- Plain lemmas of a small calculus for walks over frames and own memory; no statement of the seat is proved here. -/
set_option linter.unusedVariables false
set_option linter.unusedSimpArgs false
/-! Sums, rows modulo p, reduced lists of rows: plain lemmas, no program. -/
namespace Go.Ech
def sI (f : Nat → Int) : Nat → Int
  | 0 => 0
  | n + 1 => sI f n + f n
theorem sI_congr {f g : Nat → Int} {n : Nat} (h : ∀ i, i < n → f i = g i) : sI f n = sI g n := by
  induction n with
  | zero => rfl
  | succ n ih => simp only [sI]; rw [ih (fun i hi => h i (by omega)), h n (by omega)]
theorem sI_zero {f : Nat → Int} {n : Nat} (h : ∀ i, i < n → f i = 0) : sI f n = 0 := by
  induction n with
  | zero => rfl
  | succ n ih => simp only [sI]; rw [ih (fun i hi => h i (by omega)), h n (by omega)]; rfl
theorem sI_one {f : Nat → Int} {n a : Nat} (ha : a < n) (h : ∀ i, i < n → i ≠ a → f i = 0) : sI f n = f a := by
  induction n with
  | zero => omega
  | succ n ih =>
    simp only [sI]
    by_cases e : a = n
    · subst e; rw [sI_zero (fun i hi => h i (by omega) (by omega))]; omega
    · rw [ih (by omega) (fun i hi => h i (by omega)), h n (by omega) (by omega)]; omega
theorem sI_two {f : Nat → Int} {n a b : Nat} (ha : a < n) (hb : b < n) (hab : a ≠ b) (h : ∀ i, i < n → i ≠ a → i ≠ b → f i = 0) : sI f n = f a + f b := by
  induction n with
  | zero => omega
  | succ n ih =>
    simp only [sI]
    by_cases e : a = n
    · subst e; rw [sI_one (a := b) (by omega) (fun i hi hib => h i (by omega) (by omega) hib)]; omega
    · by_cases e2 : b = n
      · subst e2; rw [sI_one (a := a) (by omega) (fun i hi hia => h i (by omega) hia (by omega))]
      · rw [ih (by omega) (by omega) (fun i hi => h i (by omega)), h n (by omega) (by omega) (by omega)]; omega
theorem sI_add (f g : Nat → Int) (n : Nat) : sI (fun i => f i + g i) n = sI f n + sI g n := by
  induction n with
  | zero => rfl
  | succ n ih => simp only [sI]; rw [ih]; omega
theorem sI_mul (k : Int) (f : Nat → Int) (n : Nat) : sI (fun i => k * f i) n = k * sI f n := by
  induction n with
  | zero => simp [sI]
  | succ n ih => simp only [sI]; rw [ih, Int.mul_add]
theorem sI_dvd {p : Int} {f : Nat → Int} {n : Nat} (h : ∀ i, i < n → p ∣ f i) : p ∣ sI f n := by
  induction n with
  | zero => exact Int.dvd_zero p
  | succ n ih => exact Int.dvd_add (ih fun i hi => h i (by omega)) (h n (by omega))
theorem sI_swap (f : Nat → Nat → Int) (n m : Nat) : sI (fun i => sI (fun j => f i j) m) n = sI (fun j => sI (fun i => f i j) n) m := by
  induction n with
  | zero => simp only [sI]; exact (sI_zero fun i _ => rfl).symm
  | succ n ih => simp only [sI]; rw [ih, ← sI_add]

/-- A row times a vector. -/
def dot (N : Nat) (r x : Nat → Int) : Int := sI (fun c => r c * x c) N
/-- As integers. -/
abbrev ci (r : Nat → Nat) : Nat → Int := fun c => (r c : Int)
def Ker (p N : Nat) (M : Nat → Nat → Nat) (m : Nat) (x : Nat → Int) : Prop := ∀ i, i < m → (p : Int) ∣ dot N (ci (M i)) x
theorem dot_lin {p N : Nat} {r s t x : Nat → Int} {k : Int} (h : ∀ c, c < N → (p : Int) ∣ t c - (r c + k * s c)) : (p : Int) ∣ dot N t x - (dot N r x + k * dot N s x) := by
  unfold dot
  have e : sI (fun c => t c * x c) N - (sI (fun c => r c * x c) N + k * sI (fun c => s c * x c) N) = sI (fun c => (t c - (r c + k * s c)) * x c) N := by
    rw [← sI_mul, ← sI_add]
    have : sI (fun c => t c * x c) N = sI (fun c => (t c - (r c + k * s c)) * x c) N + sI (fun c => r c * x c + k * (s c * x c)) N := by
      rw [← sI_add]; exact sI_congr fun c _ => by grind
    omega
  rw [e]
  exact sI_dvd fun c hc => Int.dvd_mul_of_dvd_left (h c hc)
theorem dvd_iff_sub {p a b : Int} (h : p ∣ a - b) : p ∣ a ↔ p ∣ b := by
  constructor
  · intro ha; have := Int.dvd_sub ha h; rwa [show a - (a - b) = b by omega] at this
  · intro hb; have := Int.dvd_add hb h; rwa [show b + (a - b) = a by omega] at this
theorem dot_add (N : Nat) (r x y : Nat → Int) : dot N r (fun c => x c + y c) = dot N r x + dot N r y := by
  unfold dot; rw [← sI_add]; exact sI_congr fun c _ => by grind
theorem dot_mul (N : Nat) (k : Int) (r x : Nat → Int) : dot N r (fun c => k * x c) = k * dot N r x := by
  unfold dot; rw [← sI_mul]; exact sI_congr fun c _ => by grind

/-- A reduced list of k rows of N numbers, with leading places ld. -/
structure Rref (p N : Nat) (E : Nat → Nat → Nat) (k : Nat) (ld : Nat → Nat) : Prop where
  lt : ∀ i, i < k → ld i < N
  mono : ∀ i j, i < j → j < k → ld i < ld j
  one : ∀ i, i < k → E i (ld i) = 1
  left : ∀ i, i < k → ∀ c, c < ld i → E i c = 0
  zero : ∀ i j, i < k → j < k → i ≠ j → E j (ld i) = 0
  small : ∀ i, i < k → ∀ c, c < N → E i c < p
/-- c is a leading place. -/
def isLd (k : Nat) (ld : Nat → Nat) (c : Nat) : Prop := ∃ i, i < k ∧ ld i = c
instance (k : Nat) (ld : Nat → Nat) (c : Nat) : Decidable (isLd k ld c) := inferInstanceAs (Decidable (∃ i, i < k ∧ ld i = c))
/-- The number of the row with a leading place. -/
def ldAt (k : Nat) (ld : Nat → Nat) (c : Nat) : Option Nat := (List.range k).find? (fun i => ld i == c)
theorem ldAt_some {k : Nat} {ld : Nat → Nat} {c i : Nat} (h : ldAt k ld c = some i) : i < k ∧ ld i = c := by
  unfold ldAt at h
  have h1 := List.find?_some h
  have h2 := List.mem_of_find?_eq_some h
  exact ⟨by simpa using h2, by simpa using h1⟩
theorem ldAt_none {k : Nat} {ld : Nat → Nat} {c : Nat} (h : ldAt k ld c = none) : ∀ i, i < k → ld i ≠ c := by
  unfold ldAt at h
  intro i hi e
  have := List.find?_eq_none.1 h i (by simpa using hi)
  simp [e] at this
/-- The vector of the kernel that a place which leads no row makes. -/
def free (E : Nat → Nat → Nat) (k : Nat) (ld : Nat → Nat) (c : Nat) : Nat → Int := fun d =>
  if d = c then 1 else match ldAt k ld d with
    | some j => -(E j c : Int)
    | none => 0
namespace Rref
variable {p N k : Nat} {E : Nat → Nat → Nat} {ld : Nat → Nat}
theorem inj (h : Rref p N E k ld) {i j : Nat} (hi : i < k) (hj : j < k) (e : ld i = ld j) : i = j := by
  rcases Nat.lt_trichotomy i j with hh | hh | hh
  · have := h.mono i j hh hj; omega
  · exact hh
  · have := h.mono j i hh hi; omega
theorem ldAt_eq (h : Rref p N E k ld) {i : Nat} (hi : i < k) : ldAt k ld (ld i) = some i := by
  cases e : ldAt k ld (ld i) with
  | none => exact absurd rfl (ldAt_none e i hi)
  | some j => have := ldAt_some e; rw [h.inj this.1 hi this.2]
theorem free_ker (h : Rref p N E k ld) {c : Nat} (hc : c < N) (hn : ¬ isLd k ld c) : Ker p N E k (free E k ld c) := by
  intro i hi
  have hne : c ≠ ld i := fun e => hn ⟨i, hi, e.symm⟩
  have e : dot N (ci (E i)) (free E k ld c) = 0 := by
    unfold dot
    rw [sI_two hc (h.lt i hi) hne]
    · have h1 : free E k ld c c = 1 := by simp [free]
      have h2 : free E k ld c (ld i) = -(E i c : Int) := by
        unfold free; rw [if_neg (Ne.symm hne), h.ldAt_eq hi]
      rw [h1, h2]; simp only [ci, h.one i hi]; omega
    · intro d hd hdc hdi
      unfold free; rw [if_neg hdc]
      cases e : ldAt k ld d with
      | none => simp
      | some j =>
        obtain ⟨hj, rfl⟩ := ldAt_some e
        have : j ≠ i := fun e => hdi (by rw [e])
        simp [ci, h.zero j i hj hi this]
  rw [e]; exact Int.dvd_zero _
theorem ker_lead (h : Rref p N E k ld) {x : Nat → Int} (hx : Ker p N E k x) {i : Nat} (hi : i < k) (hz : ∀ d, ld i < d → d < N → x d = 0) : (p : Int) ∣ x (ld i) := by
  have := hx i hi
  unfold dot at this
  rw [sI_one (h.lt i hi)] at this
  · simpa [ci, h.one i hi] using this
  · intro d hd hne
    rcases Nat.lt_or_gt_of_ne hne with hh | hh
    · simp [ci, h.left i hi d hh]
    · simp [hz d hh hd]
end Rref
theorem ld_same {k k' : Nat} {ld ld' : Nat → Nat} (hm : ∀ i j, i < j → j < k → ld i < ld j) (hm' : ∀ i j, i < j → j < k' → ld' i < ld' j) (h : ∀ c, isLd k ld c ↔ isLd k' ld' c) :
    k = k' ∧ ∀ i, i < k → ld i = ld' i := by
  have half : ∀ {k k' : Nat} {ld ld' : Nat → Nat}, (∀ i j, i < j → j < k → ld i < ld j) → (∀ i j, i < j → j < k' → ld' i < ld' j) → (∀ c, isLd k ld c ↔ isLd k' ld' c) → ∀ i, (∀ j, j < i → j < k ∧ j < k' ∧ ld j = ld' j) → i < k → i < k' ∧ ld' i ≤ ld i := by
    intro k k' ld ld' hm hm' h i hall hi
    obtain ⟨j, hj, e⟩ := (h (ld i)).1 ⟨i, hi, rfl⟩
    have hij : i ≤ j := by
      rcases Nat.lt_or_ge j i with hh | hh
      · have := hall j hh; have := hm j i hh hi; omega
      · exact hh
    refine ⟨by omega, ?_⟩
    by_cases e2 : i = j
    · subst e2; omega
    · have := hm' i j (by omega) hj; omega
  have key : ∀ i, (∀ j, j < i → j < k ∧ j < k' ∧ ld j = ld' j) → (i < k ↔ i < k') ∧ (i < k → ld i = ld' i) := by
    intro i hall
    have a := half hm hm' h i hall
    have b := half hm' hm (fun c => (h c).symm) i (fun j hj => ⟨(hall j hj).2.1, (hall j hj).1, (hall j hj).2.2.symm⟩)
    refine ⟨⟨fun x => (a x).1, fun x => (b x).1⟩, fun x => ?_⟩
    have := a x; have := b this.1; omega
  have all : ∀ i, i ≤ k → i ≤ k' → ∀ j, j < i → j < k ∧ j < k' ∧ ld j = ld' j := by
    intro i
    induction i with
    | zero => intro _ _ j hj; omega
    | succ i ih =>
      intro h1 h2 j hj
      have hi := ih (by omega) (by omega)
      by_cases e : j = i
      · subst e; exact ⟨by omega, by omega, (key j hi).2 (by omega)⟩
      · exact hi j (by omega)
  have hk : k = k' := by
    rcases Nat.lt_trichotomy k k' with hh | hh | hh
    · have := (key k (all k (Nat.le_refl _) (by omega))).1.2 hh; omega
    · exact hh
    · have := (key k' (all k' (by omega) (Nat.le_refl _))).1.1 hh; omega
  exact ⟨hk, fun i hi => (all k (Nat.le_refl _) (by omega) i hi).2.2⟩
/-- Reduced lists with the same kernel are the same. -/
theorem rref_unique {p N k k' : Nat} {E E' : Nat → Nat → Nat} {ld ld' : Nat → Nat} (hp : 2 ≤ p) (h : Rref p N E k ld) (h' : Rref p N E' k' ld') (hk : ∀ x, Ker p N E k x ↔ Ker p N E' k' x) :
    k = k' ∧ (∀ i, i < k → ld i = ld' i) ∧ ∀ i, i < k → ∀ c, c < N → E i c = E' i c := by
  have half : ∀ {k k' : Nat} {E E' : Nat → Nat → Nat} {ld ld' : Nat → Nat}, Rref p N E k ld → Rref p N E' k' ld' → (∀ x, Ker p N E k x ↔ Ker p N E' k' x) → ∀ c, isLd k ld c → isLd k' ld' c := by
    intro k k' E E' ld ld' h h' hk c hc
    obtain ⟨i, hi, rfl⟩ := hc
    refine Decidable.byContradiction fun hn => ?_
    have hx := (hk _).2 (h'.free_ker (h.lt i hi) hn)
    -- the free vector is 0 behind c
    have := h.ker_lead hx hi (fun d hd hdN => by
      unfold free; rw [if_neg (by omega)]
      cases e : ldAt k' ld' d with
      | none => rfl
      | some j => obtain ⟨hj, rfl⟩ := ldAt_some e; simp [h'.left j hj _ hd])
    simp only [free, if_true] at this
    have := Int.le_of_dvd (by omega) this
    omega
  have hld := ld_same h.mono h'.mono (fun c => ⟨half h h' hk c, half h' h (fun x => (hk x).symm) c⟩)
  obtain ⟨rfl, hl⟩ := hld
  refine ⟨rfl, hl, fun i hi c hc => ?_⟩
  by_cases hlc : isLd k ld c
  · obtain ⟨j, hj, rfl⟩ := hlc
    by_cases e : j = i
    · subst e; rw [h.one j hj, hl j hj, h'.one j hj]
    · rw [h.zero j i hj hi e, hl j hj, h'.zero j i hj hi e]
  · have hx := (hk _).1 (h.free_ker hc hlc) i hi
    have hne : c ≠ ld' i := fun e => hlc ⟨i, hi, by rw [hl i hi, e]⟩
    have e : dot N (ci (E' i)) (free E k ld c) = (E' i c : Int) - (E i c : Int) := by
      unfold dot
      rw [sI_two hc (h'.lt i hi) hne]
      · have h1 : free E k ld c c = 1 := by simp [free]
        have h2 : free E k ld c (ld' i) = -(E i c : Int) := by
          unfold free; rw [if_neg (Ne.symm hne), ← hl i hi, h.ldAt_eq hi]
        rw [h1, h2]; simp only [ci, h'.one i hi]; omega
      · intro d hd hdc hdi
        unfold free; rw [if_neg hdc]
        cases e : ldAt k ld d with
        | none => simp
        | some j =>
          obtain ⟨hj, rfl⟩ := ldAt_some e
          have : j ≠ i := fun e => hdi (by rw [e, hl i hi])
          simp [ci, hl j hj, h'.zero j i hj hi this]
    rw [e] at hx
    have h1 := h.small i hi c hc
    have h2 := h'.small i hi c hc
    obtain ⟨q, hq⟩ := hx
    have : q = 0 := by
      rcases Int.lt_trichotomy q 0 with hh | hh | hh
      · have := Int.mul_le_mul_of_nonneg_left (show q ≤ -1 by omega) (show (0 : Int) ≤ p by omega); omega
      · exact hh
      · have := Int.mul_le_mul_of_nonneg_left (show 1 ≤ q by omega) (show (0 : Int) ≤ p by omega); omega
    subst this; omega
end Go.Ech
