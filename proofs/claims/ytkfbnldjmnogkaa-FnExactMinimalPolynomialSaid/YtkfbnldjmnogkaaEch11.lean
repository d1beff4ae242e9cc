/- Plain lemmas of a small calculus for walks over frames and own memory; no statement of the seat is proved here. -/
import Derived.Test.YtkfbnldjmnogkaaEch5
set_option linter.unusedVariables false
set_option linter.unusedSimpArgs false
namespace Go.Ech
open Go.Sw
def augI (F : Nat → Nat → Nat) (i c : Nat) : Nat := if c < 6 then F i c else if c = 6 + i then 1 else 0
theorem mono_id {n : Nat} {ld : Nat → Nat} (hm : ∀ i j, i < j → j < n → ld i < ld j) (hl : ∀ i, i < n → ld i < n) : ∀ i, i < n → ld i = i := by
  have h1 : ∀ i, i < n → i ≤ ld i := by
    intro i
    induction i with
    | zero => intro _; omega
    | succ i ih => intro hi; have := ih (by omega); have := hm i (i + 1) (by omega) hi; omega
  have h2 : ∀ d i, i + d + 1 = n → ld i + d < n := by
    intro d
    induction d with
    | zero => intro i hi; have := hl i (by omega); omega
    | succ d ih => intro i hi; have := ih (i + 1) (by omega); have := hm i (i + 1) (by omega) (by omega); omega
  intro i hi;have := h1 i hi;have := h2 (n - 1 - i) i (by omega)
  omega
def FullK (p n : Nat) (F : Nat → Nat → Nat) : Prop := ∃ E ld, Rref p 6 E n ld ∧ ∀ x, Ker p 6 E n x ↔ Ker p 6 F n x
theorem FullK.zero {p n : Nat} {F : Nat → Nat → Nat} (hp : 2 ≤ p) (hn : n ≤ 6) (hF : ∀ i c, n ≤ c → F i c = 0) (h : FullK p n F) {x : Nat → Int} (hx : Ker p 6 F n x) (h0 : ∀ d, n ≤ d → d < 6 → x d = 0) {c : Nat} (hc : c < n) : (p : Int) ∣ x c := by
  obtain ⟨E, ld, hR, hK⟩ := h;have hl : ∀ i, i < n → ld i < n := fun i hi => Decidable.byContradiction fun hno =>
    no_lead (c := ld i) hp hR hK (hR.lt i hi) (fun j _ => hF j _ (by omega)) ⟨i, hi, rfl⟩
  have hid := mono_id hR.mono hl;have := (hK x).2 hx c hc
  unfold dot at this
  rw [sI_one (a := c) (by omega)] at this
  · have e := hR.one c hc
    rw [hid c hc] at e
    simpa [ci, e] using this
  · intro d hd hne
    by_cases hdn : d < n
    · have := hR.zero d c hdn hc hne
      rw [hid d hdn] at this
      simp [ci, this]
    · rw [h0 d (by omega) hd]; simp
structure IsCop (p n : Nat) (F G : Nat → Nat → Nat) : Prop where
  lt : ∀ i j, G i j < p
  out : ∀ i j, n ≤ i ∨ n ≤ j → G i j = 0
  sol : ∀ i, i < n → ∀ j, j < n → (p : Int) ∣ sI (fun k => (F i k : Int) * (G k j : Int)) n - (dl i j : Int)
theorem cop_col {p n : Nat} {F : Nat → Nat → Nat} (hp : 2 ≤ p) (hn : n ≤ 6) (hF : ∀ i c, n ≤ c → F i c = 0) (h : FullK p n F) {x y : Nat → Nat} {b : Nat → Int} (hx : ∀ c, c < n → x c < p) (hy : ∀ c, c < n → y c < p) (h1 : ∀ i, i < n → (p : Int) ∣ sI (fun k => (F i k : Int) * (x k : Int)) n - b i) (h2 : ∀ i, i < n → (p : Int) ∣ sI (fun k => (F i k : Int) * (y k : Int)) n - b i) : ∀ c, c < n → x c = y c := by
  intro c hc;have hK : Ker p 6 F n (fun c => if c < n then (x c : Int) - (y c : Int) else 0) := fun i hi => by
    have h3 := Int.dvd_sub (h1 i hi) (h2 i hi);have e : dot 6 (ci (F i)) (fun c => if c < n then (x c : Int) - (y c : Int) else 0) = sI (fun k => (F i k : Int) * (x k : Int)) n - b i - (sI (fun k => (F i k : Int) * (y k : Int)) n - b i) := by
      unfold dot
      rw [sI_cut hn (fun c h1 _ => by simp [show ¬ c < n by omega])];have : sI (fun k => (F i k : Int) * (x k : Int)) n = sI (fun c => ci (F i) c * (if c < n then (x c : Int) - (y c : Int) else 0)) n + sI (fun k => (F i k : Int) * (y k : Int)) n := by
        rw [← sI_add]; exact sI_congr fun c hc => by rw [if_pos hc]; grind
      rw [this]
      show sI (fun c => ci (F i) c * (if c < n then (x c : Int) - (y c : Int) else 0)) n = _
      omega
    rw [e]; exact h3
  have := h.zero hp hn hF hK (fun d h1 _ => by simp [show ¬ d < n by omega]) hc;simp only [if_pos hc] at this;exact eq_of_dvd (hx c hc) (hy c hc) this
theorem IsCop.unique {p n : Nat} {F G G' : Nat → Nat → Nat} (hp : 2 ≤ p) (hn : n ≤ 6) (hF : ∀ i c, n ≤ c → F i c = 0) (hf : FullK p n F) (h : IsCop p n F G) (h' : IsCop p n F G') : G = G' := by
  funext i j
  by_cases e : n ≤ i ∨ n ≤ j
  · rw [h.out i j e, h'.out i j e]
  · exact cop_col hp hn hF hf (x := fun k => G k j) (y := fun k => G' k j) (b := fun i => (dl i j : Int)) (fun c _ => h.lt c j) (fun c _ => h'.lt c j) (fun i hi => h.sol i hi j (by omega)) (fun i hi => h'.sol i hi j (by omega)) i (by omega)
theorem inv_ex {p u : Nat} (hp : primeN p) (hu : u < p) (h0 : u ≠ 0) : ∃ v, u * v % p = 1 := by
  have key : ∀ q : Nat, (∀ a, a < q → a ≠ 0 → ∃ v, v < q ∧ a * v % q = 1) → p = q → ∃ v, u * v % p = 1 := fun q hq e => by
    subst e; obtain ⟨v, _, h⟩ := hq u hu h0; exact ⟨v, h⟩
  rcases hp with e | e | e | e | e | e
  · exact key 2 (by decide) e
  · exact key 3 (by decide) e
  · exact key 5 (by decide) e
  · exact key 7 (by decide) e
  · exact key 11 (by decide) e
  · exact key 13 (by decide) e
theorem first_ne {o : Nat → Nat} {N : Nat} (h : ¬ ∀ c, c < N → o c = 0) : ∃ t, t < N ∧ o t ≠ 0 ∧ ∀ c, c < t → o c = 0 := by
  induction N with
  | zero => exact absurd (fun c hc => absurd hc (by omega)) h
  | succ N ih =>
    by_cases e : ∀ c, c < N → o c = 0
    · refine ⟨N, by omega, fun h0 => h fun c hc => ?_, e⟩
      by_cases ec : c = N
      · rw [ec, h0]
      · exact e c (by omega)
    · obtain ⟨t, h1, h2⟩ := ih e; exact ⟨t, by omega, h2⟩
theorem own_all {p N k : Nat} {E : Nat → Nat → Nat} {ld r : Nat → Nat} (hp : 0 < p) (h : Rref p N E k ld) (hr : ∀ c, r c < p) : ∃ o, Own p N E k ld r o k ∧ ∀ c, o c < p := by
  have : ∀ j, j ≤ k → ∃ o, Own p N E k ld r o j ∧ ∀ c, o c < p := by
    intro j
    induction j with
    | zero => intro _; exact ⟨r, ⟨fun c _ => hr c, fun i hi => absurd hi (by omega), fun x _ => Iff.rfl⟩, hr⟩
    | succ j ih => intro hj; obtain ⟨o, h1, _⟩ := ih (by omega); exact ⟨_, h1.step hp h (by omega), fun c => lsM_lt hp⟩
  exact this k (Nat.le_refl _)
theorem rref_exists {p N m : Nat} {M : Nat → Nat → Nat} (hp : primeN p) (hM : ∀ i c, M i c < p) : ∃ k E ld, Rref p N E k ld ∧ k ≤ m ∧ ∀ x, Ker p N E k x ↔ Ker p N M m x := by
  have hp0 : 0 < p := by have := hp.two; omega
  induction m with
  | zero => exact ⟨0, M, fun _ => 0, ⟨fun i hi => absurd hi (by omega), fun i j _ hi => absurd hi (by omega), fun i hi => absurd hi (by omega), fun i hi => absurd hi (by omega), fun i j hi => absurd hi (by omega), fun i hi => absurd hi (by omega)⟩, Nat.le_refl _, fun x => Iff.rfl⟩
  | succ m ih =>
    obtain ⟨k, E, ld, hR, hk, hK⟩ := ih;obtain ⟨o, ho, ho2⟩ := own_all hp0 hR (hM m)
    by_cases hz : ∀ c, c < N → o c = 0
    · refine ⟨k, E, ld, hR, by omega, fun x => ?_⟩
      rw [Ker.snoc, ← hK];exact ⟨fun h => ⟨h, (ho.ker x h).1 (dot_zero hz)⟩, fun h => h.1⟩
    · obtain ⟨t, ht, h0, hlow⟩ := first_ne hz
      obtain ⟨v, hv⟩ := inv_ex hp (ho2 t) h0;have hne : ∀ i, i < k → ld i ≠ t := fun i hi e => h0 (by rw [← e]; exact ho.zero i hi);obtain ⟨b1, b2, b3⟩ := below_spec hR hne;have f : Fits p N E k ld (fun c => o c * v % p) t (below k ld t) :=
        ⟨ht, hv, fun c hc => by simp [hlow c hc], fun c _ => Nat.mod_lt _ hp0, fun i hi => by simp [ho.zero i hi], b1, b2, b3⟩
      refine ⟨k + 1, _, _, hR.insert hp0 f, by omega, fun x => ?_⟩;rw [ker_insert hp0 b1, Ker.snoc, ← hK];have hsc : (p : Int) ∣ dot N (ci fun c => o c * v % p) x ↔ (p : Int) ∣ dot N (ci o) x := scale_ker (v := v) (u := o t) (fun c _ => rfl) hv;rw [hsc];exact ⟨fun h => ⟨h.1, (ho.ker x h.1).1 h.2⟩, fun h => ⟨h.1, (ho.ker x h.1).2 h.2⟩⟩
end Go.Ech

namespace Go.Ech
open Go.Sw
theorem sI_sub' (f g : Nat → Int) (n : Nat) : sI (fun i => f i - g i) n = sI f n - sI g n := by
  have := sI_add (fun c => f c - g c) g n;rw [show (fun i => (f i - g i) + g i) = f from by funext i; omega] at this; omega
theorem sI_dl {f : Nat → Int} {n a : Nat} (ha : a < n) : sI (fun i => f i * (dl i a : Int)) n = f a := by
  rw [sI_one ha (fun i _ hne => by simp [dl, hne])]; simp [dl]
theorem sI_dl' {f : Nat → Int} {n a : Nat} (ha : a < n) : sI (fun i => (dl a i : Int) * f i) n = f a := by
  rw [sI_one ha (fun i _ hne => by simp [dl, Ne.symm hne])]; simp [dl]
theorem sI_mod {p : Nat} {f g h : Nat → Int} {n : Nat} (e : ∀ i, i < n → (p : Int) ∣ g i - h i) : (p : Int) ∣ sI (fun i => f i * g i) n - sI (fun i => f i * h i) n := by
  rw [← sI_sub'];exact sI_dvd fun i hi => by rw [← Int.mul_sub]; exact Int.dvd_mul_of_dvd_right (e i hi)
theorem IsCop.left {p n : Nat} {F G : Nat → Nat → Nat} (hp : 2 ≤ p) (hn : n ≤ 6) (hF : ∀ i c, n ≤ c → F i c = 0) (hf : FullK p n F) (h : IsCop p n F G) : ∀ i, i < n → ∀ j, j < n → (p : Int) ∣ sI (fun k => (G i k : Int) * (F k j : Int)) n - (dl i j : Int) := by
  intro i hi j hj;have hK : Ker p 6 F n (fun a => if a < n then sI (fun k => (G a k : Int) * (F k j : Int)) n - (dl a j : Int) else 0) := fun b hb => by
    unfold dot
    rw [sI_cut hn (fun c h1 _ => by simp [show ¬ c < n by omega])];have e : sI (fun c => ci (F b) c * (if c < n then sI (fun k => (G c k : Int) * (F k j : Int)) n - (dl c j : Int) else 0)) n = sI (fun k => (F k j : Int) * sI (fun c => (F b c : Int) * (G c k : Int)) n) n - (F b j : Int) := by
      rw [sI_congr (g := fun c => (F b c : Int) * sI (fun k => (G c k : Int) * (F k j : Int)) n - (F b c : Int) * (dl c j : Int)) (fun c hc => by rw [if_pos hc, Int.mul_sub]), sI_sub', sI_dl hj]
      congr 1
      rw [sI_congr (g := fun c => sI (fun k => (F b c : Int) * ((G c k : Int) * (F k j : Int))) n) (fun c _ => (sI_mul _ _ _).symm), sI_swap];exact sI_congr fun k _ => by rw [← sI_mul]; exact sI_congr fun c _ => by rw [← Int.mul_assoc]; exact Int.mul_comm _ _
    rw [e];have h1 := sI_mod (p := p) (f := fun k => (F k j : Int)) (g := fun k => sI (fun c => (F b c : Int) * (G c k : Int)) n) (h := fun k => (dl b k : Int)) (n := n) (fun k hk => h.sol b hb k hk)
    rwa [show sI (fun k => (F k j : Int) * (dl b k : Int)) n = (F b j : Int) from by
      rw [sI_congr (g := fun k => (dl b k : Int) * (F k j : Int)) (fun k _ => Int.mul_comm _ _)]; exact sI_dl' hb] at h1
  have := hf.zero hp hn hF hK (fun d h1 _ => by simp [show ¬ d < n by omega]) hi
  simpa only [if_pos hi] using this
end Go.Ech

namespace Go.Ech
open Go.Sw
/-! ### The kernel of rows, as a reduced list. -/
def sol (p : Nat) (E : Nat → Nat → Nat) (k : Nat) (ld : Nat → Nat) (c d : Nat) : Nat := if d = c then 1 else match ldAt k ld d with
  | some j => (p - E j c) % p
  | none => 0
def nf (k : Nat) (ld : Nat → Nat) : Nat → Nat
  | 0 => 0
  | c + 1 => if isLd k ld c then nf k ld c else nf k ld c + 1
def SolR (p n : Nat) (E : Nat → Nat → Nat) (k : Nat) (ld : Nat → Nat) (S : Nat → Nat → Nat) : Prop := ∀ c, c < n → ¬ isLd k ld c → ∀ d, S (nf k ld c) d = sol p E k ld c d
def IsKer (p n : Nat) (M : Nat → Nat → Nat) (m r : Nat) (V : Nat → Nat → Nat) : Prop := ∃ (k : Nat) (E : Nat → Nat → Nat) (ld ld2 : Nat → Nat), Rref p n E k ld ∧ (∀ x, Ker p n E k x ↔ Ker p n M m x) ∧ Rref p n V r ld2 ∧
  ∀ x, Ker p n V r x ↔ ∀ c, c < n → ¬ isLd k ld c → (p : Int) ∣ dot n (ci (sol p E k ld c)) x
theorem isLd_congr {k : Nat} {ld ld' : Nat → Nat} (e : ∀ i, i < k → ld i = ld' i) (c : Nat) : isLd k ld c ↔ isLd k ld' c :=
  ⟨fun ⟨i, hi, h⟩ => ⟨i, hi, by rw [← e i hi]; exact h⟩, fun ⟨i, hi, h⟩ => ⟨i, hi, by rw [e i hi]; exact h⟩⟩
theorem ldAt_congr {k : Nat} {ld ld' : Nat → Nat} (e : ∀ i, i < k → ld i = ld' i) (d : Nat) : ldAt k ld d = ldAt k ld' d := by
  unfold ldAt
  have : ∀ l : List Nat, (∀ i ∈ l, i < k) → l.find? (fun i => ld i == d) = l.find? (fun i => ld' i == d) := by
    intro l
    induction l with
    | nil => intro _; rfl
    | cons a l ih =>
      intro h;rw [List.find?_cons, List.find?_cons, e a (h a (List.mem_cons_self ..)), ih (fun i hi => h i (List.mem_cons_of_mem _ hi))]
  exact this _ (fun i hi => List.mem_range.1 hi)
theorem sol_congr {p n k : Nat} {E E' : Nat → Nat → Nat} {ld ld' : Nat → Nat} (e : ∀ i, i < k → ld i = ld' i) (eE : ∀ i, i < k → ∀ c, c < n → E i c = E' i c) {c : Nat} (hc : c < n) (d : Nat) : sol p E k ld c d = sol p E' k ld' c d := by
  unfold sol
  rw [ldAt_congr e d]
  split
  · rfl
  · cases h : ldAt k ld' d with
    | none => rfl
    | some j => dsimp only; rw [eE j (ldAt_some h).1 c hc]
theorem IsKer.unique {p n m r r' : Nat} {M V V' : Nat → Nat → Nat} (hp : 2 ≤ p) (h : IsKer p n M m r V) (h' : IsKer p n M m r' V') : r = r' ∧ ∀ i, i < r → ∀ c, c < n → V i c = V' i c := by
  obtain ⟨k, E, ld, ld2, h1, h2, h3, h4⟩ := h;obtain ⟨k', E', ld', ld2', h1', h2', h3', h4'⟩ := h';obtain ⟨rfl, e1, e2⟩ := rref_unique hp h1 h1' (fun x => (h2 x).trans (h2' x).symm);have e3 : ∀ x, Ker p n V r x ↔ Ker p n V' r' x := fun x => by
    rw [h4 x, h4' x];have es : ∀ c, c < n → ci (sol p E k ld c) = ci (sol p E' k ld' c) := fun c hc => by
      funext d; unfold ci; rw [sol_congr e1 e2 hc d]
    exact ⟨fun q c hc hf => by rw [← es c hc]; exact q c hc (fun hl => hf ((isLd_congr e1 c).1 hl)), fun q c hc hf => by rw [es c hc]; exact q c hc (fun hl => hf ((isLd_congr e1 c).2 hl))⟩
  obtain ⟨er, _, eV⟩ := rref_unique hp h3 h3' e3;exact ⟨er, eV⟩
/-! Rows with zeros behind their first n numbers. -/
def padN (n : Nat) (E : Nat → Nat → Nat) (i c : Nat) : Nat := if c < n then E i c else 0
def lv (ld : Nat → Nat) (q c : Nat) : Nat := match ldAt q ld c with
  | some j => j + 1
  | none => 0
end Go.Ech

namespace Go.Ech
open Go.Sw
/-! ### More unknowns than equations; nilpotent vectors. -/
theorem dep {p N m : Nat} {M : Nat → Nat → Nat} (hp : primeN p) (hM : ∀ i c, M i c < p) (hm : m < N) : ∃ x : Nat → Int, (∃ c, c < N ∧ ¬ (p : Int) ∣ x c) ∧ Ker p N M m x := by
  obtain ⟨k, E, ld, h, hk, hK⟩ := rref_exists (N := N) (m := m) hp hM;have hp2 := hp.two
  by_cases hall : ∀ c, c < N → isLd k ld c
  · have := ld_same (k' := N) (ld' := fun i => i) h.mono (fun i j hij _ => hij) (fun c => ⟨fun ⟨i, hi, e⟩ => ⟨c, by rw [← e]; exact h.lt i hi, rfl⟩, fun ⟨i, hi, e⟩ => hall c (by dsimp only at e; omega)⟩)
    omega
  · have hx : ∃ c, c < N ∧ ¬ isLd k ld c := by
      apply Classical.byContradiction
      intro hno;exact hall fun c hc => Classical.byContradiction fun hn => hno ⟨c, hc, hn⟩
    obtain ⟨c, hc, hn⟩ := hx;refine ⟨free E k ld c, ⟨c, hc, ?_⟩, (hK _).1 (h.free_ker hc hn)⟩;have e : free E k ld c c = 1 := by unfold free; simp
    rw [e];intro hd;have := Int.le_of_dvd (by omega) hd
    omega
theorem dvd_prime {p a : Nat} {x : Int} (hp : primeN p) (ha : a < p) (h0 : a ≠ 0) (h : (p : Int) ∣ x * (a : Int)) : (p : Int) ∣ x := by
  obtain ⟨v, hv⟩ := inv_ex hp ha h0;have h1 : (p : Int) ∣ ((a * v : Nat) : Int) - 1 := by
    have := emod_dvd (p : Int) ((a * v : Nat) : Int);rw [← Int.natCast_emod, hv] at this;have h2 := Int.dvd_neg.2 this
    rwa [show -(((1 : Nat) : Int) - ((a * v : Nat) : Int)) = ((a * v : Nat) : Int) - 1 by omega] at h2
  have h3 : x = (x * (a : Int)) * (v : Int) - x * (((a * v : Nat) : Int) - 1) := by rw [Int.natCast_mul]; grind
  rw [h3];exact Int.dvd_sub (Int.dvd_mul_of_dvd_left h) (Int.dvd_mul_of_dvd_right h1)
def powU (u : Nat → Nat) (W : Nat → Nat → Nat) : Nat → Nat → Nat
  | 0 => u
  | k + 1 => W k
end Go.Ech
