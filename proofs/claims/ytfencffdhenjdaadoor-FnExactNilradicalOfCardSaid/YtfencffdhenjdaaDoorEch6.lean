/- Plain lemmas of a small calculus for walks over frames and own memory; no statement of the seat is proved here. -/
import Derived.Test.YtfencffdhenjdaaDoorSw23
set_option linter.unusedVariables false
set_option linter.unusedSimpArgs false
namespace Go.Ech
open Go.Sw
theorem sI_split (f : Nat → Int) (n m : Nat) : sI f (n + m) = sI f n + sI (fun i => f (n + i)) m := by
  induction m with
  | zero => simp [sI]
  | succ m ih =>
    show sI f (n + m + 1) = _
    simp only [sI]; rw [ih]; omega
/-- The rows F, and the identity behind them. -/
def augI (F : Nat → Nat → Nat) (i c : Nat) : Nat := if c < 6 then F i c else if c = 6 + i then 1 else 0
theorem mono_id {n : Nat} {ld : Nat → Nat} (hm : ∀ i j, i < j → j < n → ld i < ld j) (hl : ∀ i, i < n → ld i < n) : ∀ i, i < n → ld i = i := by
  have h1 : ∀ i, i < n → i ≤ ld i := by
    intro i
    induction i with
    | zero => intro _; omega
    | succ i ih => intro hi; have := ih (by omega); have := hm i (i + 1) (by omega) hi; omega
  have h2 : ∀ d i, i + d + 1 = n → ld i + d < n := by
    intro d
    induction d with
    | zero => intro i hi; have := hl i (by omega); omega
    | succ d ih => intro i hi; have := ih (i + 1) (by omega); have := hm i (i + 1) (by omega) (by omega); omega
  intro i hi
  have := h1 i hi
  have := h2 (n - 1 - i) i (by omega)
  omega
/-- F has just the solution 0 (in the first n places). -/
def FullK (p n : Nat) (F : Nat → Nat → Nat) : Prop := ∃ E ld, Rref p 6 E n ld ∧ ∀ x, Ker p 6 E n x ↔ Ker p 6 F n x
theorem FullK.zero {p n : Nat} {F : Nat → Nat → Nat} (hp : 2 ≤ p) (hn : n ≤ 6) (hF : ∀ i c, n ≤ c → F i c = 0) (h : FullK p n F) {x : Nat → Int} (hx : Ker p 6 F n x) (h0 : ∀ d, n ≤ d → d < 6 → x d = 0) {c : Nat} (hc : c < n) : (p : Int) ∣ x c := by
  obtain ⟨E, ld, hR, hK⟩ := h
  have hl : ∀ i, i < n → ld i < n := fun i hi => Decidable.byContradiction fun hno =>
    no_lead (c := ld i) hp hR hK (hR.lt i hi) (fun j _ => hF j _ (by omega)) ⟨i, hi, rfl⟩
  have hid := mono_id hR.mono hl
  have := (hK x).2 hx c hc
  unfold dot at this
  rw [sI_one (a := c) (by omega)] at this
  · have e := hR.one c hc
    rw [hid c hc] at e
    simpa [ci, e] using this
  · intro d hd hne
    by_cases hdn : d < n
    · have := hR.zero d c hdn hc hne
      rw [hid d hdn] at this
      simp [ci, this]
    · rw [h0 d (by omega) hd]; simp
/-- G is the inverse of F. -/
structure IsCop (p n : Nat) (F G : Nat → Nat → Nat) : Prop where
  lt : ∀ i j, G i j < p
  out : ∀ i j, n ≤ i ∨ n ≤ j → G i j = 0
  sol : ∀ i, i < n → ∀ j, j < n → (p : Int) ∣ sI (fun k => (F i k : Int) * (G k j : Int)) n - (dl i j : Int)
theorem cop_col {p n : Nat} {F : Nat → Nat → Nat} (hp : 2 ≤ p) (hn : n ≤ 6) (hF : ∀ i c, n ≤ c → F i c = 0) (h : FullK p n F) {x y : Nat → Nat} {b : Nat → Int} (hx : ∀ c, c < n → x c < p) (hy : ∀ c, c < n → y c < p) (h1 : ∀ i, i < n → (p : Int) ∣ sI (fun k => (F i k : Int) * (x k : Int)) n - b i) (h2 : ∀ i, i < n → (p : Int) ∣ sI (fun k => (F i k : Int) * (y k : Int)) n - b i) : ∀ c, c < n → x c = y c := by
  intro c hc
  have hK : Ker p 6 F n (fun c => if c < n then (x c : Int) - (y c : Int) else 0) := fun i hi => by
    have h3 := Int.dvd_sub (h1 i hi) (h2 i hi)
    have e : dot 6 (ci (F i)) (fun c => if c < n then (x c : Int) - (y c : Int) else 0) = sI (fun k => (F i k : Int) * (x k : Int)) n - b i - (sI (fun k => (F i k : Int) * (y k : Int)) n - b i) := by
      unfold dot
      rw [sI_cut hn (fun c h1 _ => by simp [show ¬ c < n by omega])]
      have : sI (fun k => (F i k : Int) * (x k : Int)) n = sI (fun c => ci (F i) c * (if c < n then (x c : Int) - (y c : Int) else 0)) n + sI (fun k => (F i k : Int) * (y k : Int)) n := by
        rw [← sI_add]; exact sI_congr fun c hc => by rw [if_pos hc]; grind
      rw [this]
      show sI (fun c => ci (F i) c * (if c < n then (x c : Int) - (y c : Int) else 0)) n = _
      omega
    rw [e]; exact h3
  have := h.zero hp hn hF hK (fun d h1 _ => by simp [show ¬ d < n by omega]) hc
  simp only [if_pos hc] at this
  exact eq_of_dvd (hx c hc) (hy c hc) this
theorem IsCop.unique {p n : Nat} {F G G' : Nat → Nat → Nat} (hp : 2 ≤ p) (hn : n ≤ 6) (hF : ∀ i c, n ≤ c → F i c = 0) (hf : FullK p n F) (h : IsCop p n F G) (h' : IsCop p n F G') : G = G' := by
  funext i j
  by_cases e : n ≤ i ∨ n ≤ j
  · rw [h.out i j e, h'.out i j e]
  · exact cop_col hp hn hF hf (x := fun k => G k j) (y := fun k => G' k j) (b := fun i => (dl i j : Int)) (fun c _ => h.lt c j) (fun c _ => h'.lt c j) (fun i hi => h.sol i hi j (by omega)) (fun i hi => h'.sol i hi j (by omega)) i (by omega)
theorem inv_ex {p u : Nat} (hp : primeN p) (hu : u < p) (h0 : u ≠ 0) : ∃ v, u * v % p = 1 := by
  have key : ∀ q : Nat, (∀ a, a < q → a ≠ 0 → ∃ v, v < q ∧ a * v % q = 1) → p = q → ∃ v, u * v % p = 1 := fun q hq e => by
    subst e; obtain ⟨v, _, h⟩ := hq u hu h0; exact ⟨v, h⟩
  rcases hp with e | e | e | e | e | e
  · exact key 2 (by decide) e
  · exact key 3 (by decide) e
  · exact key 5 (by decide) e
  · exact key 7 (by decide) e
  · exact key 11 (by decide) e
  · exact key 13 (by decide) e
theorem first_ne {o : Nat → Nat} {N : Nat} (h : ¬ ∀ c, c < N → o c = 0) : ∃ t, t < N ∧ o t ≠ 0 ∧ ∀ c, c < t → o c = 0 := by
  induction N with
  | zero => exact absurd (fun c hc => absurd hc (by omega)) h
  | succ N ih =>
    by_cases e : ∀ c, c < N → o c = 0
    · refine ⟨N, by omega, fun h0 => h fun c hc => ?_, e⟩
      by_cases ec : c = N
      · rw [ec, h0]
      · exact e c (by omega)
    · obtain ⟨t, h1, h2⟩ := ih e; exact ⟨t, by omega, h2⟩
theorem own_all {p N k : Nat} {E : Nat → Nat → Nat} {ld r : Nat → Nat} (hp : 0 < p) (h : Rref p N E k ld) (hr : ∀ c, r c < p) : ∃ o, Own p N E k ld r o k ∧ ∀ c, o c < p := by
  have : ∀ j, j ≤ k → ∃ o, Own p N E k ld r o j ∧ ∀ c, o c < p := by
    intro j
    induction j with
    | zero => intro _; exact ⟨r, ⟨fun c _ => hr c, fun i hi => absurd hi (by omega), fun x _ => Iff.rfl⟩, hr⟩
    | succ j ih => intro hj; obtain ⟨o, h1, _⟩ := ih (by omega); exact ⟨_, h1.step hp h (by omega), fun c => lsM_lt hp⟩
  exact this k (Nat.le_refl _)
/-- There is a reduced form, with as many rows at most. -/
theorem rref_exists {p N m : Nat} {M : Nat → Nat → Nat} (hp : primeN p) (hM : ∀ i c, M i c < p) : ∃ k E ld, Rref p N E k ld ∧ k ≤ m ∧ ∀ x, Ker p N E k x ↔ Ker p N M m x := by
  have hp0 : 0 < p := by have := hp.two; omega
  induction m with
  | zero => exact ⟨0, M, fun _ => 0, ⟨fun i hi => absurd hi (by omega), fun i j _ hi => absurd hi (by omega), fun i hi => absurd hi (by omega), fun i hi => absurd hi (by omega), fun i j hi => absurd hi (by omega), fun i hi => absurd hi (by omega)⟩, Nat.le_refl _, fun x => Iff.rfl⟩
  | succ m ih =>
    obtain ⟨k, E, ld, hR, hk, hK⟩ := ih
    obtain ⟨o, ho, ho2⟩ := own_all hp0 hR (hM m)
    by_cases hz : ∀ c, c < N → o c = 0
    · refine ⟨k, E, ld, hR, by omega, fun x => ?_⟩
      rw [Ker.snoc, ← hK]
      exact ⟨fun h => ⟨h, (ho.ker x h).1 (dot_zero hz)⟩, fun h => h.1⟩
    · obtain ⟨t, ht, h0, hlow⟩ := first_ne hz
      obtain ⟨v, hv⟩ := inv_ex hp (ho2 t) h0
      have hne : ∀ i, i < k → ld i ≠ t := fun i hi e => h0 (by rw [← e]; exact ho.zero i hi)
      obtain ⟨b1, b2, b3⟩ := below_spec hR hne
      have f : Fits p N E k ld (fun c => o c * v % p) t (below k ld t) :=
        ⟨ht, hv, fun c hc => by simp [hlow c hc], fun c _ => Nat.mod_lt _ hp0, fun i hi => by simp [ho.zero i hi], b1, b2, b3⟩
      refine ⟨k + 1, _, _, hR.insert hp0 f, by omega, fun x => ?_⟩
      rw [ker_insert hp0 b1, Ker.snoc, ← hK]
      have hsc : (p : Int) ∣ dot N (ci fun c => o c * v % p) x ↔ (p : Int) ∣ dot N (ci o) x := scale_ker (v := v) (u := o t) (fun c _ => rfl) hv
      rw [hsc]
      exact ⟨fun h => ⟨h.1, (ho.ker x h.1).1 h.2⟩, fun h => ⟨h.1, (ho.ker x h.1).2 h.2⟩⟩
end Go.Ech
