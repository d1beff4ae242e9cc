/- Plain lemmas of a small calculus for walks over frames and own memory; no statement of the seat is proved here. -/
import Derived.Test.YtfencffdhenjdaaDoorEch4
set_option linter.unusedVariables false
set_option linter.unusedSimpArgs false
/-! Units of tables, systems of equations with one solution: plain lemmas, no program. -/
namespace Go.Ech
def dl (i c : Nat) : Nat := if i = c then 1 else 0
/-- A vector with -1 behind it. -/
def aug (n : Nat) (x : Nat → Nat) (c : Nat) : Int := if c < n then (x c : Int) else -1
theorem aug_lt {n c : Nat} {x : Nat → Nat} (h : c < n) : aug n x c = x c := by simp [aug, h]
theorem aug_n {n : Nat} {x : Nat → Nat} : aug n x n = -1 := by simp [aug]
theorem eq_of_dvd {p a b : Nat} (ha : a < p) (hb : b < p) (h : (p : Int) ∣ (a : Int) - (b : Int)) : a = b := by
  obtain ⟨q, hq⟩ := h
  have : q = 0 := by
    rcases Int.lt_trichotomy q 0 with hh | hh | hh
    · have := Int.mul_le_mul_of_nonneg_left (show q ≤ -1 by omega) (show (0 : Int) ≤ p by omega); omega
    · exact hh
    · have := Int.mul_le_mul_of_nonneg_left (show 1 ≤ q by omega) (show (0 : Int) ≤ p by omega); omega
  subst this; omega
theorem dvd_iff_mod {p a b : Nat} (hb : b < p) : (p : Int) ∣ (a : Int) - (b : Int) ↔ a % p = b := by
  have hp : 0 < p := by omega
  constructor
  · intro h
    have h2 := emod_dvd (p : Int) (a : Int)
    have h3 := Int.dvd_add h2 h
    rw [show (a : Int) % (p : Int) - (a : Int) + ((a : Int) - (b : Int)) = ((a % p : Nat) : Int) - (b : Int) by rw [Int.natCast_emod]; omega] at h3
    exact eq_of_dvd (Nat.mod_lt _ hp) hb h3
  · intro h
    have h2 := Int.dvd_neg.2 (emod_dvd (p : Int) (a : Int))
    rwa [show -((a : Int) % (p : Int) - (a : Int)) = (a : Int) - (b : Int) by rw [← h, Int.natCast_emod]; omega] at h2
/-- What n rows with the leading places 0 to n - 1 say. -/
structure Full (p n : Nat) (E : Nat → Nat → Nat) (k : Nat) (ld : Nat → Nat) : Prop where
  k : k = n
  ld : ∀ i, i < n → ld i = i
theorem dot_full {p n k : Nat} {E : Nat → Nat → Nat} {ld : Nat → Nat} (h : Rref p (n + 1) E k ld) (hf : Full p n E k ld) (x : Nat → Nat) {i : Nat} (hi : i < n) : dot (n + 1) (ci (E i)) (aug n x) = (x i : Int) - (E i n : Int) := by
  have hk := hf.k
  unfold dot
  rw [sI_two (a := i) (b := n) (by omega) (by omega) (by omega)]
  · rw [aug_lt hi, aug_n]
    have : E i i = 1 := by have := h.one i (by omega); rwa [hf.ld i hi] at this
    simp only [ci, this]; omega
  · intro c hc hci hcn
    have : E i c = 0 := by have := h.zero c i (by omega) (by omega) hci; rwa [hf.ld c (by omega)] at this
    simp [ci, this]
theorem full_sol {p n k : Nat} {E : Nat → Nat → Nat} {ld : Nat → Nat} (h : Rref p (n + 1) E k ld) (hf : Full p n E k ld) (x : Nat → Nat) (hx : ∀ i, i < n → x i < p) : Ker p (n + 1) E k (aug n x) ↔ ∀ i, i < n → x i = E i n := by
  have hk := hf.k
  constructor
  · intro hK i hi
    have := hK i (by omega)
    rw [dot_full h hf x hi] at this
    exact eq_of_dvd (hx i hi) (h.small i (by omega) n (by omega)) this
  · intro hK i hi
    rw [dot_full h hf x (by omega), hK i (by omega), Int.sub_self]; exact Int.dvd_zero _
theorem full_of_unique {p n k : Nat} {E : Nat → Nat → Nat} {ld : Nat → Nat} (hp : 2 ≤ p) (h : Rref p (n + 1) E k ld) (x : Nat → Nat) (hx : ∀ i, i < n → x i < p) (hK : Ker p (n + 1) E k (aug n x))
    (hu : ∀ y : Nat → Nat, (∀ i, i < n → y i < p) → Ker p (n + 1) E k (aug n y) → ∀ i, i < n → y i = x i) : Full p n E k ld := by
  have hn : ¬ isLd k ld n := by
    rintro ⟨i, hi, e⟩
    have := h.ker_lead hK hi (fun d h1 h2 => by omega)
    rw [e, aug_n] at this
    have := Int.le_of_dvd (by omega) (Int.dvd_neg.2 this)
    omega
  have hc : ∀ c, c < n → isLd k ld c := by
    intro c hc
    refine Decidable.byContradiction fun hno => ?_
    have hfk := h.free_ker (show c < n + 1 by omega) hno
    have hfn : free E k ld c n = 0 := by
      unfold free; rw [if_neg (by omega)]
      cases e : ldAt k ld n with
      | none => rfl
      | some j => exact absurd ⟨j, ldAt_some e⟩ hn
    have hfc : free E k ld c c = 1 := by simp [free]
    have hy := hu (fun i => ((x i + free E k ld c i) % (p : Int)).toNat) (fun i _ => by
      have h1 := Int.emod_nonneg (x i + free E k ld c i) (show (p : Int) ≠ 0 by omega)
      have h2 := Int.emod_lt_of_pos (x i + free E k ld c i) (show (0 : Int) < p by omega)
      omega) (fun i hi => by
      have h1 := hK i hi
      have h2 := hfk i hi
      have h3 := Int.dvd_add h1 h2
      rw [← dot_add] at h3
      refine (dvd_iff_sub ?_).2 h3
      unfold dot
      have e : ∀ f g : Nat → Int, sI f (n + 1) - sI g (n + 1) = sI (fun c => f c - g c) (n + 1) := fun f g => by
        have := sI_add (fun c => f c - g c) g (n + 1)
        rw [show (fun i => (f i - g i) + g i) = f from by funext i; omega] at this; omega
      rw [e]
      refine sI_dvd fun d hd => ?_
      rw [← Int.mul_sub]
      refine Int.dvd_mul_of_dvd_right ?_
      show (p : Int) ∣ _ - (aug n x d + free E k ld c d)
      by_cases hdn : d < n
      · rw [aug_lt hdn, aug_lt hdn]
        have h4 := Int.emod_nonneg (x d + free E k ld c d) (show (p : Int) ≠ 0 by omega)
        rw [Int.toNat_of_nonneg h4]
        exact emod_dvd _ _
      · rw [show d = n by omega, aug_n, aug_n, hfn]; simp) c hc
    rw [hfc] at hy
    have h1 := hx c hc
    by_cases e : x c + 1 = p
    · have : ((x c : Int) + 1) % (p : Int) = 0 := by rw [show (x c : Int) + 1 = p by omega]; exact Int.emod_self
      rw [this] at hy; simp at hy; omega
    · rw [Int.emod_eq_of_lt (by omega) (by omega)] at hy; omega
  have := ld_same (k' := n) (ld' := fun i => i) h.mono (fun i j hij _ => hij) (fun c => ⟨fun ⟨i, hi, e⟩ => ⟨c, by
      have := h.lt i hi
      rcases Nat.lt_or_ge c n with hh | hh
      · exact hh
      · exact absurd ⟨i, hi, by omega⟩ hn, rfl⟩, fun ⟨i, hi, e⟩ => by subst e; exact hc i hi⟩)
  exact ⟨this.1, fun i hi => this.2 i (by omega)⟩
/-- u is the unit of a table, from both sides. -/
structure UnitI (p n : Nat) (T : Nat → Nat → Nat → Nat) (u : Nat → Nat) : Prop where
  small : ∀ c, u c < p
  out : ∀ c, n ≤ c → u c = 0
  right : ∀ i, i < n → ∀ c, c < n → (p : Int) ∣ sI (fun a => (u a : Int) * (T a i c : Int)) n - (dl i c : Int)
  left : ∀ i, i < n → ∀ c, c < n → (p : Int) ∣ sI (fun b => (u b : Int) * (T i b c : Int)) n - (dl i c : Int)
theorem unit_same {p n : Nat} {T : Nat → Nat → Nat → Nat} {u y : Nat → Nat} (hl : ∀ i, i < n → ∀ c, c < n → (p : Int) ∣ sI (fun b => (u b : Int) * (T i b c : Int)) n - (dl i c : Int))
    (hr : ∀ i, i < n → ∀ c, c < n → (p : Int) ∣ sI (fun a => (y a : Int) * (T a i c : Int)) n - (dl i c : Int)) {c : Nat} (hc : c < n) : (p : Int) ∣ (y c : Int) - (u c : Int) := by
  have e1 : (p : Int) ∣ sI (fun a => (y a : Int) * sI (fun b => (u b : Int) * (T a b c : Int)) n) n - (y c : Int) := by
    have : sI (fun a => (y a : Int) * sI (fun b => (u b : Int) * (T a b c : Int)) n) n - (y c : Int) = sI (fun a => (y a : Int) * (sI (fun b => (u b : Int) * (T a b c : Int)) n - (dl a c : Int))) n := by
      have h1 := sI_add (fun a => (y a : Int) * (sI (fun b => (u b : Int) * (T a b c : Int)) n - (dl a c : Int))) (fun a => (y a : Int) * (dl a c : Int)) n
      have h2 : sI (fun a => (y a : Int) * (dl a c : Int)) n = y c := by
        rw [sI_one hc]
        · simp [dl]
        · intro i _ hne; simp [dl, hne]
      have h3 : (fun a => (y a : Int) * (sI (fun b => (u b : Int) * (T a b c : Int)) n - (dl a c : Int)) + (y a : Int) * (dl a c : Int)) = (fun a => (y a : Int) * sI (fun b => (u b : Int) * (T a b c : Int)) n) := by funext a; grind
      rw [h3] at h1; omega
    rw [this]; exact sI_dvd fun a ha => Int.dvd_mul_of_dvd_right (hl a ha c hc)
  have e2 : (p : Int) ∣ sI (fun b => (u b : Int) * sI (fun a => (y a : Int) * (T a b c : Int)) n) n - (u c : Int) := by
    have : sI (fun b => (u b : Int) * sI (fun a => (y a : Int) * (T a b c : Int)) n) n - (u c : Int) = sI (fun b => (u b : Int) * (sI (fun a => (y a : Int) * (T a b c : Int)) n - (dl b c : Int))) n := by
      have h1 := sI_add (fun b => (u b : Int) * (sI (fun a => (y a : Int) * (T a b c : Int)) n - (dl b c : Int))) (fun b => (u b : Int) * (dl b c : Int)) n
      have h2 : sI (fun b => (u b : Int) * (dl b c : Int)) n = u c := by
        rw [sI_one hc]
        · simp [dl]
        · intro i _ hne; simp [dl, hne]
      have h3 : (fun b => (u b : Int) * (sI (fun a => (y a : Int) * (T a b c : Int)) n - (dl b c : Int)) + (u b : Int) * (dl b c : Int)) = (fun b => (u b : Int) * sI (fun a => (y a : Int) * (T a b c : Int)) n) := by funext a; grind
      rw [h3] at h1; omega
    rw [this]; exact sI_dvd fun a ha => Int.dvd_mul_of_dvd_right (hr a ha c hc)
  have e3 : sI (fun a => (y a : Int) * sI (fun b => (u b : Int) * (T a b c : Int)) n) n = sI (fun b => (u b : Int) * sI (fun a => (y a : Int) * (T a b c : Int)) n) n := by
    have h1 : ∀ a, (y a : Int) * sI (fun b => (u b : Int) * (T a b c : Int)) n = sI (fun b => (y a : Int) * ((u b : Int) * (T a b c : Int))) n := fun a => (sI_mul _ _ _).symm
    have h2 : ∀ b, (u b : Int) * sI (fun a => (y a : Int) * (T a b c : Int)) n = sI (fun a => (u b : Int) * ((y a : Int) * (T a b c : Int))) n := fun a => (sI_mul _ _ _).symm
    simp only [h1, h2]
    rw [sI_swap]
    exact sI_congr fun i _ => sI_congr fun j _ => by grind
  rw [e3] at e1
  have := Int.dvd_sub e2 e1
  rwa [show ∀ s : Int, s - (u c : Int) - (s - (y c : Int)) = (y c : Int) - (u c : Int) from fun s => by omega] at this
theorem UnitI.unique {p n : Nat} {T : Nat → Nat → Nat → Nat} {u y : Nat → Nat} (hu : UnitI p n T u) (hy : UnitI p n T y) : y = u := by
  funext c
  by_cases hc : c < n
  · exact eq_of_dvd (hy.small c) (hu.small c) (unit_same hu.left hy.right hc)
  · rw [hu.out c (by omega), hy.out c (by omega)]
/-- The model's equations for a unit. -/
def fM (n : Nat) (T : Nat → Nat → Nat → Nat) (r c : Nat) : Nat := if c < n then T c (r / n) (r % n) else if r / n = r % n then 1 else 0
theorem fM_dot {n : Nat} {T : Nat → Nat → Nat → Nat} {x : Nat → Nat} {r : Nat} : dot (n + 1) (ci (fM n T r)) (aug n x) = sI (fun a => (x a : Int) * (T a (r / n) (r % n) : Int)) n - (dl (r / n) (r % n) : Int) := by
  unfold dot
  simp only [sI]
  have e1 : sI (fun c => ci (fM n T r) c * aug n x c) n = sI (fun a => (x a : Int) * (T a (r / n) (r % n) : Int)) n := sI_congr fun c hc => by
    rw [aug_lt hc]; simp only [ci, fM, if_pos hc]; exact Int.mul_comm _ _
  rw [e1, aug_n]
  have e2 : ci (fM n T r) n = (dl (r / n) (r % n) : Int) := by simp [ci, fM, dl]
  rw [e2]; omega
theorem fM_ker {p n : Nat} {T : Nat → Nat → Nat → Nat} {x : Nat → Nat} (hn : 0 < n) : Ker p (n + 1) (fM n T) (n * n) (aug n x) ↔ ∀ i, i < n → ∀ c, c < n → (p : Int) ∣ sI (fun a => (x a : Int) * (T a i c : Int)) n - (dl i c : Int) := by
  constructor
  · intro h i hi c hc
    have hlt : i * n + c < n * n := by
      have h1 : (i + 1) * n ≤ n * n := Nat.mul_le_mul_right n hi
      have h2 : (i + 1) * n = i * n + n := Nat.succ_mul i n
      omega
    have := h (i * n + c) hlt
    rw [fM_dot] at this
    have e1 : (i * n + c) / n = i := by rw [Nat.mul_comm, Nat.mul_add_div hn, Nat.div_eq_of_lt hc]; omega
    have e2 : (i * n + c) % n = c := by rw [Nat.mul_comm, Nat.mul_add_mod, Nat.mod_eq_of_lt hc]
    rwa [e1, e2] at this
  · intro h r hr
    rw [fM_dot]
    exact h _ ((Nat.div_lt_iff_lt_mul hn).2 hr) _ (Nat.mod_lt _ hn)
/-- The model finds the unit: the one solution, if it also is one from the left. -/
theorem find_yes {p n k : Nat} {E : Nat → Nat → Nat} {ld : Nat → Nat} {T : Nat → Nat → Nat → Nat} (hp : 0 < p) (hn : 0 < n) (h : Rref p (n + 1) E k ld) (hk : ∀ x, Ker p (n + 1) E k x ↔ Ker p (n + 1) (fM n T) (n * n) x) (hf : Full p n E k ld)
    (hl : ∀ i, i < n → ∀ c, c < n → (p : Int) ∣ sI (fun b => ((if b < n then E b n else 0 : Nat) : Int) * (T i b c : Int)) n - (dl i c : Int)) : UnitI p n T (fun c => if c < n then E c n else 0) := by
  have hkk := hf.k
  refine ⟨fun c => ?_, fun c hc => by simp [show ¬ c < n by omega], ?_, hl⟩
  · split
    · rename_i hc; exact h.small c (by omega) n (by omega)
    · exact hp
  · have := (full_sol h hf (fun c => if c < n then E c n else 0) (fun i hi => by simp only [if_pos hi]; exact h.small i (by omega) n (by omega))).2 (fun i hi => by simp only [if_pos hi])
    exact (fM_ker hn).1 ((hk _).1 this)
theorem find_full {p n k : Nat} {E : Nat → Nat → Nat} {ld : Nat → Nat} {T : Nat → Nat → Nat → Nat} {u : Nat → Nat} (hp : 2 ≤ p) (hn : 0 < n) (h : Rref p (n + 1) E k ld) (hk : ∀ x, Ker p (n + 1) E k x ↔ Ker p (n + 1) (fM n T) (n * n) x) (hu : UnitI p n T u) :
    Full p n E k ld ∧ (fun c => if c < n then E c n else 0) = u := by
  have hK := (hk _).2 ((fM_ker hn).2 hu.right)
  have hf := full_of_unique hp h u (fun i _ => hu.small i) hK (fun y hy hyK i hi => eq_of_dvd (hy i hi) (hu.small i) (unit_same hu.left ((fM_ker hn).1 ((hk _).1 hyK)) hi))
  refine ⟨hf, funext fun c => ?_⟩
  by_cases hc : c < n
  · rw [if_pos hc]; exact ((full_sol h hf u (fun i _ => hu.small i)).1 hK c hc).symm
  · rw [if_neg hc, hu.out c (by omega)]
end Go.Ech

/-! Inverses: plain lemmas, no program. -/
namespace Go.Ech
theorem sI_mulr (f : Nat → Int) (k : Int) (n : Nat) : sI f n * k = sI (fun i => f i * k) n := by
  rw [Int.mul_comm, ← sI_mul]; exact sI_congr fun i _ => Int.mul_comm _ _
theorem sI_sub (f g : Nat → Int) (n : Nat) : sI f n - sI g n = sI (fun i => f i - g i) n := by
  have := sI_add (fun i => f i - g i) g n
  rw [show (fun i => (f i - g i) + g i) = f from by funext i; omega] at this; omega
/-- The product of vectors, as integers. -/
def Pr (n : Nat) (T : Nat → Nat → Nat → Nat) (x y : Nat → Int) (c : Nat) : Int := sI (fun a => sI (fun b => x a * y b * (T a b c : Int)) n) n
theorem Pr_congr {p : Int} {n : Nat} {T : Nat → Nat → Nat → Nat} {x x' y y' : Nat → Int} (hx : ∀ a, a < n → p ∣ x a - x' a) (hy : ∀ b, b < n → p ∣ y b - y' b) (c : Nat) : p ∣ Pr n T x y c - Pr n T x' y' c := by
  unfold Pr
  rw [sI_sub]
  refine sI_dvd fun a ha => ?_
  rw [sI_sub]
  refine sI_dvd fun b hb => ?_
  have e : x a * y b * (T a b c : Int) - x' a * y' b * (T a b c : Int) = (x a - x' a) * (y b * (T a b c : Int)) + x' a * ((y b - y' b) * (T a b c : Int)) := by grind
  rw [e]
  exact Int.dvd_add (Int.dvd_mul_of_dvd_left (hx a ha)) (Int.dvd_mul_of_dvd_right (Int.dvd_mul_of_dvd_left (hy b hb)))
theorem Pr_left {n : Nat} {T : Nat → Nat → Nat → Nat} {x v : Nat → Int} {c : Nat} : Pr n T x v c = sI (fun a => x a * sI (fun b => v b * (T a b c : Int)) n) n := by
  unfold Pr
  exact sI_congr fun a _ => by rw [← sI_mul]; exact sI_congr fun b _ => by grind
theorem Pr_right {n : Nat} {T : Nat → Nat → Nat → Nat} {x v : Nat → Int} {c : Nat} : Pr n T v x c = sI (fun b => x b * sI (fun a => v a * (T a b c : Int)) n) n := by
  unfold Pr
  rw [sI_swap]
  exact sI_congr fun b _ => by rw [← sI_mul]; exact sI_congr fun a _ => by grind
/-- Products of basis vectors do not depend on the order, modulo p. -/
def AssI (p n : Nat) (T : Nat → Nat → Nat → Nat) : Prop := ∀ i, i < n → ∀ j, j < n → ∀ k, k < n → ∀ d, d < n → (p : Int) ∣ sI (fun a => (T i j a : Int) * (T a k d : Int)) n - sI (fun b => (T j k b : Int) * (T i b d : Int)) n
theorem Pr_assoc {p n : Nat} {T : Nat → Nat → Nat → Nat} (h : AssI p n T) (x v w : Nat → Int) {d : Nat} (hd : d < n) : (p : Int) ∣ Pr n T (Pr n T x v) w d - Pr n T x (Pr n T v w) d := by
  have e1 : Pr n T (Pr n T x v) w d = sI (fun i => sI (fun j => sI (fun k => (x i * v j * w k) * sI (fun a => (T i j a : Int) * (T a k d : Int)) n) n) n) n := by
    have h1 : Pr n T (Pr n T x v) w d = sI (fun a => sI (fun k => sI (fun i => sI (fun j => x i * v j * w k * ((T i j a : Int) * (T a k d : Int))) n) n) n) n := by
      unfold Pr
      refine sI_congr fun a _ => sI_congr fun k _ => ?_
      rw [sI_mulr, sI_mulr]
      refine sI_congr fun i _ => ?_
      rw [sI_mulr, sI_mulr]
      exact sI_congr fun j _ => by grind
    rw [h1]
    have h2 : sI (fun a => sI (fun k => sI (fun i => sI (fun j => x i * v j * w k * ((T i j a : Int) * (T a k d : Int))) n) n) n) n = sI (fun a => sI (fun i => sI (fun k => sI (fun j => x i * v j * w k * ((T i j a : Int) * (T a k d : Int))) n) n) n) n := sI_congr fun a _ => sI_swap _ _ _
    have h3 : sI (fun a => sI (fun i => sI (fun k => sI (fun j => x i * v j * w k * ((T i j a : Int) * (T a k d : Int))) n) n) n) n = sI (fun a => sI (fun i => sI (fun j => sI (fun k => x i * v j * w k * ((T i j a : Int) * (T a k d : Int))) n) n) n) n := sI_congr fun a _ => sI_congr fun i _ => sI_swap _ _ _
    rw [h2, h3, sI_swap]
    refine sI_congr fun i _ => ?_
    rw [sI_swap]
    refine sI_congr fun j _ => ?_
    rw [sI_swap]
    exact sI_congr fun k _ => sI_mul _ _ _
  have e2 : Pr n T x (Pr n T v w) d = sI (fun i => sI (fun j => sI (fun k => (x i * v j * w k) * sI (fun b => (T j k b : Int) * (T i b d : Int)) n) n) n) n := by
    have h1 : Pr n T x (Pr n T v w) d = sI (fun i => sI (fun b => sI (fun j => sI (fun k => x i * v j * w k * ((T j k b : Int) * (T i b d : Int))) n) n) n) n := by
      unfold Pr
      refine sI_congr fun i _ => sI_congr fun b _ => ?_
      rw [← sI_mul, sI_mulr]
      refine sI_congr fun j _ => ?_
      rw [← sI_mul, sI_mulr]
      exact sI_congr fun k _ => by grind
    rw [h1]
    refine sI_congr fun i _ => ?_
    rw [sI_swap]
    refine sI_congr fun j _ => ?_
    rw [sI_swap]
    exact sI_congr fun k _ => sI_mul _ _ _
  rw [e1, e2, sI_sub]
  refine sI_dvd fun i hi => ?_
  rw [sI_sub]
  refine sI_dvd fun j hj => ?_
  rw [sI_sub]
  refine sI_dvd fun k hk => ?_
  rw [← Int.mul_sub]
  exact Int.dvd_mul_of_dvd_right (h i hi j hj k hk d hd)
theorem Pr_unit_left {p n : Nat} {T : Nat → Nat → Nat → Nat} {u : Nat → Nat} (hu : UnitI p n T u) (w : Nat → Int) {d : Nat} (hd : d < n) : (p : Int) ∣ Pr n T (ci u) w d - w d := by
  rw [Pr_right]
  have e : w d = sI (fun b => w b * (dl b d : Int)) n := by
    rw [sI_one hd]
    · simp [dl]
    · intro i _ hne; simp [dl, hne]
  rw [e, sI_sub]
  refine sI_dvd fun b hb => ?_
  rw [← Int.mul_sub]
  exact Int.dvd_mul_of_dvd_right (hu.right b hb d hd)
theorem Pr_unit_right {p n : Nat} {T : Nat → Nat → Nat → Nat} {u : Nat → Nat} (hu : UnitI p n T u) (w : Nat → Int) {d : Nat} (hd : d < n) : (p : Int) ∣ Pr n T w (ci u) d - w d := by
  rw [Pr_left]
  have e : w d = sI (fun b => w b * (dl b d : Int)) n := by
    rw [sI_one hd]
    · simp [dl]
    · intro i _ hne; simp [dl, hne]
  rw [e, sI_sub]
  refine sI_dvd fun b hb => ?_
  rw [← Int.mul_sub]
  exact Int.dvd_mul_of_dvd_right (hu.left b hb d hd)
/-- w is the inverse of v, from both sides. -/
structure InvI (p n : Nat) (T : Nat → Nat → Nat → Nat) (u v w : Nat → Nat) : Prop where
  small : ∀ c, w c < p
  out : ∀ c, n ≤ c → w c = 0
  right : ∀ c, c < n → (p : Int) ∣ Pr n T (ci w) (ci v) c - (u c : Int)
  left : ∀ c, c < n → (p : Int) ∣ Pr n T (ci v) (ci w) c - (u c : Int)
/-- A left inverse is the inverse. -/
theorem inv_same {p n : Nat} {T : Nat → Nat → Nat → Nat} {u v w : Nat → Nat} {x : Nat → Int} (ha : AssI p n T) (hu : UnitI p n T u) (hl : ∀ c, c < n → (p : Int) ∣ Pr n T (ci v) (ci w) c - (u c : Int)) (hx : ∀ c, c < n → (p : Int) ∣ Pr n T x (ci v) c - (u c : Int)) {d : Nat} (hd : d < n) : (p : Int) ∣ x d - (w d : Int) := by
  have h1 := Pr_assoc ha x (ci v) (ci w) hd
  have h2 : (p : Int) ∣ Pr n T (Pr n T x (ci v)) (ci w) d - Pr n T (ci u) (ci w) d := Pr_congr (fun a h => hx a h) (fun b _ => by simp) d
  have h3 : (p : Int) ∣ Pr n T x (Pr n T (ci v) (ci w)) d - Pr n T x (ci u) d := Pr_congr (fun a _ => by simp) (fun b h => hl b h) d
  have h4 := Pr_unit_left hu (ci w) hd
  have h5 := Pr_unit_right hu x hd
  have a1 := Int.dvd_sub h1 h2
  have a2 := Int.dvd_add a1 h3
  have a3 := Int.dvd_add a2 h5
  have a4 := Int.dvd_sub a3 h4
  have e : ∀ A B C D X W : Int, A - B - (A - C) + (B - D) + (D - X) - (C - W) = W - X := by intro A B C D X W; omega
  rw [e] at a4
  have := Int.dvd_neg.2 a4
  rwa [show -((w d : Int) - x d) = x d - (w d : Int) by omega] at this
theorem InvI.unique {p n : Nat} {T : Nat → Nat → Nat → Nat} {u v w y : Nat → Nat} (ha : AssI p n T) (hu : UnitI p n T u) (hw : InvI p n T u v w) (hy : InvI p n T u v y) : y = w := by
  funext c
  by_cases hc : c < n
  · exact eq_of_dvd (hy.small c) (hw.small c) (inv_same ha hu hw.left hy.right hc)
  · rw [hw.out c (by omega), hy.out c (by omega)]
end Go.Ech
