/- Plain lemmas of a small calculus for walks over frames and own memory; no statement of the seat is proved here. -/
import Derived.Test.YtficgmohfabplaaEch6
set_option linter.unusedVariables false
set_option linter.unusedSimpArgs false
namespace Go.Ech
open Go.Sw
theorem lead_all {p N n k : Nat} {E : Nat → Nat → Nat} {ld : Nat → Nat} (h : Rref p N E k ld) (hc : ∀ c, c < n → isLd k ld c) : ∀ i, i < n → i < k ∧ ld i = i := by
  intro i
  induction i using Nat.strongRecOn with
  | ind i ih =>
    intro hi
    obtain ⟨j, hj, e⟩ := hc i hi
    have h1 : ¬ j < i := fun hlt2 => by have := (ih j hlt2 (by omega)).2; omega
    have h2 : ¬ i < j := fun hlt2 => by
      have h3 := h.mono i j hlt2 hj
      have h4 := ih (ld i) (by omega) (by omega)
      have := h.inj h4.1 (show i < k by omega) h4.2
      omega
    have : j = i := by omega
    subst this; exact ⟨hj, e⟩
theorem fullK_of {p n : Nat} {F : Nat → Nat → Nat} (hp : primeN p) (hn0 : 0 < n) (hn : n ≤ 6) (hF : ∀ i c, n ≤ c → F i c = 0) (hFp : ∀ i c, F i c < p) (hz : ∀ x, Ker p 6 F n x → (∀ d, n ≤ d → d < 6 → x d = 0) → ∀ c, c < n → (p : Int) ∣ x c) : FullK p n F := by
  have hp2 := hp.two
  obtain ⟨k, E, ld, hR, hk, hK⟩ := rref_exists (N := 6) (m := n) hp hFp
  have hnl : ∀ d, n ≤ d → d < 6 → ¬ isLd k ld d := fun d h1 h2 => no_lead hp2 hR hK h2 (fun i _ => hF i d h1)
  have hc : ∀ c, c < n → isLd k ld c := by
    intro c hc
    refine Decidable.byContradiction fun hno => ?_
    have := hz _ ((hK _).1 (hR.free_ker (show c < 6 by omega) hno)) (fun d h1 h2 => by
      unfold free; rw [if_neg (by omega)]
      cases e : ldAt k ld d with
      | none => rfl
      | some j => exact absurd ⟨j, ldAt_some e⟩ (hnl d h1 h2)) c hc
    rw [show free E k ld c c = 1 by simp [free]] at this
    have := Int.le_of_dvd (by omega) this
    omega
  have hkn : k = n := by have := (lead_all hR hc (n - 1) (by omega)).1; omega
  subst hkn
  exact ⟨E, ld, hR, hK⟩
theorem sI_sub' (f g : Nat → Int) (n : Nat) : sI (fun i => f i - g i) n = sI f n - sI g n := by
  have := sI_add (fun c => f c - g c) g n
  rw [show (fun i => (f i - g i) + g i) = f from by funext i; omega] at this; omega
theorem sI_dl {f : Nat → Int} {n a : Nat} (ha : a < n) : sI (fun i => f i * (dl i a : Int)) n = f a := by
  rw [sI_one ha (fun i _ hne => by simp [dl, hne])]; simp [dl]
theorem sI_dl' {f : Nat → Int} {n a : Nat} (ha : a < n) : sI (fun i => (dl a i : Int) * f i) n = f a := by
  rw [sI_one ha (fun i _ hne => by simp [dl, Ne.symm hne])]; simp [dl]
/-- Sums of products with what differs by multiples of p. -/
theorem sI_mod {p : Nat} {f g h : Nat → Int} {n : Nat} (e : ∀ i, i < n → (p : Int) ∣ g i - h i) : (p : Int) ∣ sI (fun i => f i * g i) n - sI (fun i => f i * h i) n := by
  rw [← sI_sub']
  exact sI_dvd fun i hi => by rw [← Int.mul_sub]; exact Int.dvd_mul_of_dvd_right (e i hi)
/-- The inverse is one from the left, too. -/
theorem IsCop.left {p n : Nat} {F G : Nat → Nat → Nat} (hp : 2 ≤ p) (hn : n ≤ 6) (hF : ∀ i c, n ≤ c → F i c = 0) (hf : FullK p n F) (h : IsCop p n F G) : ∀ i, i < n → ∀ j, j < n → (p : Int) ∣ sI (fun k => (G i k : Int) * (F k j : Int)) n - (dl i j : Int) := by
  intro i hi j hj
  have hK : Ker p 6 F n (fun a => if a < n then sI (fun k => (G a k : Int) * (F k j : Int)) n - (dl a j : Int) else 0) := fun b hb => by
    unfold dot
    rw [sI_cut hn (fun c h1 _ => by simp [show ¬ c < n by omega])]
    have e : sI (fun c => ci (F b) c * (if c < n then sI (fun k => (G c k : Int) * (F k j : Int)) n - (dl c j : Int) else 0)) n = sI (fun k => (F k j : Int) * sI (fun c => (F b c : Int) * (G c k : Int)) n) n - (F b j : Int) := by
      rw [sI_congr (g := fun c => (F b c : Int) * sI (fun k => (G c k : Int) * (F k j : Int)) n - (F b c : Int) * (dl c j : Int)) (fun c hc => by rw [if_pos hc, Int.mul_sub]), sI_sub', sI_dl hj]
      congr 1
      rw [sI_congr (g := fun c => sI (fun k => (F b c : Int) * ((G c k : Int) * (F k j : Int))) n) (fun c _ => (sI_mul _ _ _).symm), sI_swap]
      exact sI_congr fun k _ => by rw [← sI_mul]; exact sI_congr fun c _ => by rw [← Int.mul_assoc]; exact Int.mul_comm _ _
    rw [e]
    have h1 := sI_mod (p := p) (f := fun k => (F k j : Int)) (g := fun k => sI (fun c => (F b c : Int) * (G c k : Int)) n) (h := fun k => (dl b k : Int)) (n := n) (fun k hk => h.sol b hb k hk)
    rwa [show sI (fun k => (F k j : Int) * (dl b k : Int)) n = (F b j : Int) from by
      rw [sI_congr (g := fun k => (dl b k : Int) * (F k j : Int)) (fun k _ => Int.mul_comm _ _)]; exact sI_dl' hb] at h1
  have := hf.zero hp hn hF hK (fun d h1 _ => by simp [show ¬ d < n by omega]) hi
  simpa only [if_pos hi] using this
/-- The rows turned into columns. -/
theorem cop_tr {p n : Nat} {F F' G : Nat → Nat → Nat} (hp : primeN p) (hn0 : 0 < n) (hn : n ≤ 6) (hF : ∀ i c, n ≤ c → F i c = 0) (hF' : ∀ i c, n ≤ c → F' i c = 0) (hFp' : ∀ i c, F' i c < p) (e : ∀ i, i < n → ∀ j, j < n → F' i j = F j i) (hf : FullK p n F) (h : IsCop p n F G) :
    FullK p n F' ∧ IsCop p n F' (fun i j => G j i) := by
  have hp2 := hp.two
  refine ⟨fullK_of hp hn0 hn hF' hFp' fun x hx hx0 c hc => ?_, fun i j => h.lt j i, fun i j q => h.out j i (by omega), fun i hi j hj => ?_⟩
  · have h1 : ∀ i, i < n → (p : Int) ∣ sI (fun k => (F k i : Int) * x k) n := fun i hi => by
      have := hx i hi
      unfold dot at this
      rw [sI_cut hn (fun c h1 h2 => by rw [hx0 c h1 h2]; simp)] at this
      rwa [sI_congr (g := fun k => (F k i : Int) * x k) (fun k hk => by show ((F' i k : Nat) : Int) * _ = _; rw [e i hi k hk])] at this
    have h2 : (p : Int) ∣ sI (fun i => (G i c : Int) * sI (fun k => (F k i : Int) * x k) n) n := sI_dvd fun i hi => Int.dvd_mul_of_dvd_right (h1 i hi)
    have h3 : sI (fun i => (G i c : Int) * sI (fun k => (F k i : Int) * x k) n) n = sI (fun k => x k * sI (fun i => (F k i : Int) * (G i c : Int)) n) n := by
      rw [sI_congr (g := fun i => sI (fun k => (G i c : Int) * ((F k i : Int) * x k)) n) (fun i _ => (sI_mul _ _ _).symm), sI_swap]
      exact sI_congr fun k _ => by rw [← sI_mul]; exact sI_congr fun i _ => by grind
    rw [h3] at h2
    have h4 := sI_mod (p := p) (f := x) (g := fun k => sI (fun i => (F k i : Int) * (G i c : Int)) n) (h := fun k => (dl k c : Int)) (n := n) (fun k hk => h.sol k hk c hc)
    rw [sI_dl hc] at h4
    have := Int.dvd_sub h2 h4
    rwa [show ∀ a b : Int, a - (a - b) = b from fun a b => by omega] at this
  · have := h.left hp2 hn hF hf j hj i hi
    rw [show sI (fun k => ((F' i k : Nat) : Int) * ((G j k : Nat) : Int)) n = sI (fun k => (G j k : Int) * (F k i : Int)) n from sI_congr fun k hk => by rw [e i hi k hk]; exact Int.mul_comm _ _]
    rwa [show (dl i j) = dl j i by unfold dl; by_cases q : i = j <;> simp [q, eq_comm]]
end Go.Ech
