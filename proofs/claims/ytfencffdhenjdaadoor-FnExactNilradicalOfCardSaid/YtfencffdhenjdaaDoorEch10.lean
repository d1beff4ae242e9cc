/- Plain lemmas of a small calculus for walks over frames and own memory; no statement of the seat is proved here. -/
import Derived.Test.YtfencffdhenjdaaDoorEch6
set_option linter.unusedVariables false
set_option linter.unusedSimpArgs false
namespace Go.Ech
open Go.Sw
theorem sI_sub' (f g : Nat → Int) (n : Nat) : sI (fun i => f i - g i) n = sI f n - sI g n := by
  have := sI_add (fun c => f c - g c) g n
  rw [show (fun i => (f i - g i) + g i) = f from by funext i; omega] at this; omega
theorem sI_dl {f : Nat → Int} {n a : Nat} (ha : a < n) : sI (fun i => f i * (dl i a : Int)) n = f a := by
  rw [sI_one ha (fun i _ hne => by simp [dl, hne])]; simp [dl]
theorem sI_dl' {f : Nat → Int} {n a : Nat} (ha : a < n) : sI (fun i => (dl a i : Int) * f i) n = f a := by
  rw [sI_one ha (fun i _ hne => by simp [dl, Ne.symm hne])]; simp [dl]
/-- Sums of products with what differs by multiples of p. -/
theorem sI_mod {p : Nat} {f g h : Nat → Int} {n : Nat} (e : ∀ i, i < n → (p : Int) ∣ g i - h i) : (p : Int) ∣ sI (fun i => f i * g i) n - sI (fun i => f i * h i) n := by
  rw [← sI_sub']
  exact sI_dvd fun i hi => by rw [← Int.mul_sub]; exact Int.dvd_mul_of_dvd_right (e i hi)
/-- The inverse is one from the left, too. -/
theorem IsCop.left {p n : Nat} {F G : Nat → Nat → Nat} (hp : 2 ≤ p) (hn : n ≤ 6) (hF : ∀ i c, n ≤ c → F i c = 0) (hf : FullK p n F) (h : IsCop p n F G) : ∀ i, i < n → ∀ j, j < n → (p : Int) ∣ sI (fun k => (G i k : Int) * (F k j : Int)) n - (dl i j : Int) := by
  intro i hi j hj
  have hK : Ker p 6 F n (fun a => if a < n then sI (fun k => (G a k : Int) * (F k j : Int)) n - (dl a j : Int) else 0) := fun b hb => by
    unfold dot
    rw [sI_cut hn (fun c h1 _ => by simp [show ¬ c < n by omega])]
    have e : sI (fun c => ci (F b) c * (if c < n then sI (fun k => (G c k : Int) * (F k j : Int)) n - (dl c j : Int) else 0)) n = sI (fun k => (F k j : Int) * sI (fun c => (F b c : Int) * (G c k : Int)) n) n - (F b j : Int) := by
      rw [sI_congr (g := fun c => (F b c : Int) * sI (fun k => (G c k : Int) * (F k j : Int)) n - (F b c : Int) * (dl c j : Int)) (fun c hc => by rw [if_pos hc, Int.mul_sub]), sI_sub', sI_dl hj]
      congr 1
      rw [sI_congr (g := fun c => sI (fun k => (F b c : Int) * ((G c k : Int) * (F k j : Int))) n) (fun c _ => (sI_mul _ _ _).symm), sI_swap]
      exact sI_congr fun k _ => by rw [← sI_mul]; exact sI_congr fun c _ => by rw [← Int.mul_assoc]; exact Int.mul_comm _ _
    rw [e]
    have h1 := sI_mod (p := p) (f := fun k => (F k j : Int)) (g := fun k => sI (fun c => (F b c : Int) * (G c k : Int)) n) (h := fun k => (dl b k : Int)) (n := n) (fun k hk => h.sol b hb k hk)
    rwa [show sI (fun k => (F k j : Int) * (dl b k : Int)) n = (F b j : Int) from by
      rw [sI_congr (g := fun k => (dl b k : Int) * (F k j : Int)) (fun k _ => Int.mul_comm _ _)]; exact sI_dl' hb] at h1
  have := hf.zero hp hn hF hK (fun d h1 _ => by simp [show ¬ d < n by omega]) hi
  simpa only [if_pos hi] using this
end Go.Ech

namespace Go.Ech
open Go.Sw
/-! ### The kernel of rows, as a reduced list. -/
/-- The numbers of the solution that a free place makes. -/
def sol (p : Nat) (E : Nat → Nat → Nat) (k : Nat) (ld : Nat → Nat) (c d : Nat) : Nat := if d = c then 1 else match ldAt k ld d with
  | some j => (p - E j c) % p
  | none => 0
theorem sol_lt {p k c d : Nat} {E : Nat → Nat → Nat} {ld : Nat → Nat} (hp : 2 ≤ p) : sol p E k ld c d < p := by
  unfold sol
  split
  · omega
  · cases ldAt k ld d with
    | none => show 0 < p; omega
    | some j => exact Nat.mod_lt _ (by omega)
/-- How many places below are free. -/
def nf (k : Nat) (ld : Nat → Nat) : Nat → Nat
  | 0 => 0
  | c + 1 => if isLd k ld c then nf k ld c else nf k ld c + 1
theorem nf_le {k : Nat} {ld : Nat → Nat} : ∀ c, nf k ld c ≤ c
  | 0 => Nat.le_refl _
  | c + 1 => by have := nf_le (k := k) (ld := ld) c; rw [nf]; split <;> omega
theorem nf_free {k c : Nat} {ld : Nat → Nat} (h : ¬ isLd k ld c) : nf k ld (c + 1) = nf k ld c + 1 := by rw [nf, if_neg h]
theorem nf_lead {k c : Nat} {ld : Nat → Nat} (h : isLd k ld c) : nf k ld (c + 1) = nf k ld c := by rw [nf, if_pos h]
theorem nf_mono {k : Nat} {ld : Nat → Nat} {c d : Nat} (h : c ≤ d) : nf k ld c ≤ nf k ld d := by
  induction d with
  | zero => rw [show c = 0 by omega]; exact Nat.le_refl _
  | succ d ih =>
    by_cases e : c = d + 1
    · rw [e]; exact Nat.le_refl _
    · have := ih (by omega)
      rw [nf]; split <;> omega
theorem nf_lt {k : Nat} {ld : Nat → Nat} {c d : Nat} (h : c < d) (hf : ¬ isLd k ld c) : nf k ld c < nf k ld d := by
  have := nf_mono (k := k) (ld := ld) (show c + 1 ≤ d by omega)
  rw [nf_free hf] at this; omega
theorem nf_at {k : Nat} {ld : Nat → Nat} : ∀ (n a : Nat), a < nf k ld n → ∃ c, c < n ∧ ¬ isLd k ld c ∧ nf k ld c = a
  | 0, a, h => absurd h (by rw [nf]; omega)
  | n + 1, a, h => by
    by_cases hl : isLd k ld n
    · have h' : a < nf k ld n := by rw [← nf_lead hl]; exact h
      obtain ⟨c, h1, h2, h3⟩ := nf_at n a h'
      exact ⟨c, by omega, h2, h3⟩
    · have h' : a < nf k ld n + 1 := by rw [← nf_free hl]; exact h
      by_cases e : a = nf k ld n
      · exact ⟨n, by omega, hl, e.symm⟩
      · obtain ⟨c, h1, h2, h3⟩ := nf_at (k := k) (ld := ld) n a (by omega)
        exact ⟨c, by omega, h2, h3⟩
/-- Rows that hold the solutions, by their numbers among the free places. -/
def SolR (p n : Nat) (E : Nat → Nat → Nat) (k : Nat) (ld : Nat → Nat) (S : Nat → Nat → Nat) : Prop := ∀ c, c < n → ¬ isLd k ld c → ∀ d, S (nf k ld c) d = sol p E k ld c d
theorem ker_S {p n N k : Nat} {E S : Nat → Nat → Nat} {ld : Nat → Nat} {x : Nat → Int} (hS : SolR p n E k ld S) : Ker p N S (nf k ld n) x ↔ ∀ c, c < n → ¬ isLd k ld c → (p : Int) ∣ dot N (ci (sol p E k ld c)) x := by
  have e : ∀ c, c < n → ¬ isLd k ld c → ci (S (nf k ld c)) = ci (sol p E k ld c) := fun c hc hf => by
    funext d; unfold ci; rw [hS c hc hf d]
  constructor
  · intro h c hc hf
    have := h _ (nf_lt hc hf)
    rwa [e c hc hf] at this
  · intro h a ha
    obtain ⟨c, hc, hf, rfl⟩ := nf_at n a ha
    rw [e c hc hf]; exact h c hc hf
theorem solR_ex {p n k : Nat} {E : Nat → Nat → Nat} {ld : Nat → Nat} (hp : 2 ≤ p) : ∃ S, SolR p n E k ld S ∧ ∀ a d, S a d < p := by
  refine ⟨fun a d => if h : ∃ c, c < n ∧ ¬ isLd k ld c ∧ nf k ld c = a then sol p E k ld (Classical.choose h) d else 0, fun c hc hf d => ?_, fun a d => ?_⟩
  · have hx : ∃ c', c' < n ∧ ¬ isLd k ld c' ∧ nf k ld c' = nf k ld c := ⟨c, hc, hf, rfl⟩
    dsimp only
    rw [dif_pos hx]
    have hs := Classical.choose_spec hx
    have : Classical.choose hx = c := by
      rcases Nat.lt_trichotomy (Classical.choose hx) c with h | h | h
      · have := nf_lt (k := k) (ld := ld) h hs.2.1; omega
      · exact h
      · have := nf_lt (k := k) (ld := ld) h hf; omega
    rw [this]
  · dsimp only
    split
    · exact sol_lt hp
    · omega
/-- The reduced list of the vectors on which the rows are 0. -/
def IsKer (p n : Nat) (M : Nat → Nat → Nat) (m r : Nat) (V : Nat → Nat → Nat) : Prop := ∃ (k : Nat) (E : Nat → Nat → Nat) (ld ld2 : Nat → Nat), Rref p n E k ld ∧ (∀ x, Ker p n E k x ↔ Ker p n M m x) ∧ Rref p n V r ld2 ∧
  ∀ x, Ker p n V r x ↔ ∀ c, c < n → ¬ isLd k ld c → (p : Int) ∣ dot n (ci (sol p E k ld c)) x
theorem isKer_of {p n m k r : Nat} {M E S V : Nat → Nat → Nat} {ld ld2 : Nat → Nat} (h : Rref p n E k ld) (hk : ∀ x, Ker p n E k x ↔ Ker p n M m x) (hS : SolR p n E k ld S) (h2 : Rref p n V r ld2) (hk2 : ∀ x, Ker p n V r x ↔ Ker p n S (nf k ld n) x) : IsKer p n M m r V :=
  ⟨k, E, ld, ld2, h, hk, h2, fun x => (hk2 x).trans (ker_S hS)⟩
theorem isKer_exists {p n m : Nat} {M : Nat → Nat → Nat} (hp : primeN p) (hM : ∀ i c, M i c < p) : ∃ r V, IsKer p n M m r V := by
  obtain ⟨k, E, ld, h, _, hk⟩ := rref_exists (N := n) (m := m) hp hM
  obtain ⟨S, hS, hSp⟩ := solR_ex (p := p) (n := n) (k := k) (E := E) (ld := ld) hp.two
  obtain ⟨r, V, ld2, h2, _, hk2⟩ := rref_exists (N := n) (m := nf k ld n) hp hSp
  exact ⟨r, V, isKer_of h hk hS h2 hk2⟩
theorem isLd_congr {k : Nat} {ld ld' : Nat → Nat} (e : ∀ i, i < k → ld i = ld' i) (c : Nat) : isLd k ld c ↔ isLd k ld' c :=
  ⟨fun ⟨i, hi, h⟩ => ⟨i, hi, by rw [← e i hi]; exact h⟩, fun ⟨i, hi, h⟩ => ⟨i, hi, by rw [e i hi]; exact h⟩⟩
theorem ldAt_congr {k : Nat} {ld ld' : Nat → Nat} (e : ∀ i, i < k → ld i = ld' i) (d : Nat) : ldAt k ld d = ldAt k ld' d := by
  unfold ldAt
  have : ∀ l : List Nat, (∀ i ∈ l, i < k) → l.find? (fun i => ld i == d) = l.find? (fun i => ld' i == d) := by
    intro l
    induction l with
    | nil => intro _; rfl
    | cons a l ih =>
      intro h
      rw [List.find?_cons, List.find?_cons, e a (h a (List.mem_cons_self ..)), ih (fun i hi => h i (List.mem_cons_of_mem _ hi))]
  exact this _ (fun i hi => List.mem_range.1 hi)
theorem nf_congr {k : Nat} {ld ld' : Nat → Nat} (e : ∀ i, i < k → ld i = ld' i) : ∀ c, nf k ld c = nf k ld' c
  | 0 => rfl
  | c + 1 => by
    by_cases h : isLd k ld c
    · rw [nf_lead h, nf_lead ((isLd_congr e c).1 h), nf_congr e c]
    · rw [nf_free h, nf_free (fun h2 => h ((isLd_congr e c).2 h2)), nf_congr e c]
theorem sol_congr {p n k : Nat} {E E' : Nat → Nat → Nat} {ld ld' : Nat → Nat} (e : ∀ i, i < k → ld i = ld' i) (eE : ∀ i, i < k → ∀ c, c < n → E i c = E' i c) {c : Nat} (hc : c < n) (d : Nat) : sol p E k ld c d = sol p E' k ld' c d := by
  unfold sol
  rw [ldAt_congr e d]
  split
  · rfl
  · cases h : ldAt k ld' d with
    | none => rfl
    | some j => dsimp only; rw [eE j (ldAt_some h).1 c hc]
theorem IsKer.unique {p n m r r' : Nat} {M V V' : Nat → Nat → Nat} (hp : 2 ≤ p) (h : IsKer p n M m r V) (h' : IsKer p n M m r' V') : r = r' ∧ ∀ i, i < r → ∀ c, c < n → V i c = V' i c := by
  obtain ⟨k, E, ld, ld2, h1, h2, h3, h4⟩ := h
  obtain ⟨k', E', ld', ld2', h1', h2', h3', h4'⟩ := h'
  obtain ⟨rfl, e1, e2⟩ := rref_unique hp h1 h1' (fun x => (h2 x).trans (h2' x).symm)
  have e3 : ∀ x, Ker p n V r x ↔ Ker p n V' r' x := fun x => by
    rw [h4 x, h4' x]
    have es : ∀ c, c < n → ci (sol p E k ld c) = ci (sol p E' k ld' c) := fun c hc => by
      funext d; unfold ci; rw [sol_congr e1 e2 hc d]
    exact ⟨fun q c hc hf => by rw [← es c hc]; exact q c hc (fun hl => hf ((isLd_congr e1 c).1 hl)), fun q c hc hf => by rw [es c hc]; exact q c hc (fun hl => hf ((isLd_congr e1 c).2 hl))⟩
  obtain ⟨er, _, eV⟩ := rref_unique hp h3 h3' e3
  exact ⟨er, eV⟩
/-! Rows with zeros behind their first n numbers. -/
theorem dot_pad {n N : Nat} {r : Nat → Nat} {x : Nat → Int} (hn : n ≤ N) (h : ∀ c, n ≤ c → c < N → r c = 0) : dot N (ci r) x = dot n (ci r) x := by
  obtain ⟨q, rfl⟩ : ∃ q, N = n + q := ⟨N - n, by omega⟩
  unfold dot
  rw [sI_split, sI_zero (f := fun i => ci r (n + i) * x (n + i)) (fun i hi => by unfold ci; rw [h (n + i) (by omega) (by omega)]; simp)]
  omega
theorem ker_pad {p n N m : Nat} {M : Nat → Nat → Nat} {x : Nat → Int} (hn : n ≤ N) (h : ∀ i, i < m → ∀ c, n ≤ c → c < N → M i c = 0) : Ker p N M m x ↔ Ker p n M m x :=
  ⟨fun q i hi => by rw [← dot_pad hn (h i hi)]; exact q i hi, fun q i hi => by rw [dot_pad hn (h i hi)]; exact q i hi⟩
theorem dot_same {n : Nat} {r s : Nat → Nat} {x : Nat → Int} (h : ∀ c, c < n → r c = s c) : dot n (ci r) x = dot n (ci s) x :=
  sI_congr fun c hc => by unfold ci; rw [h c hc]
def padN (n : Nat) (E : Nat → Nat → Nat) (i c : Nat) : Nat := if c < n then E i c else 0
theorem padN_lt {n : Nat} {E : Nat → Nat → Nat} {i c : Nat} (h : c < n) : padN n E i c = E i c := if_pos h
theorem padN_ge {n : Nat} {E : Nat → Nat → Nat} {i c : Nat} (h : n ≤ c) : padN n E i c = 0 := if_neg (by omega)
theorem rref_pad {p n N m k : Nat} {M E : Nat → Nat → Nat} {ld : Nat → Nat} (hp : primeN p) (hn : n ≤ N) (hM : ∀ i c, M i c < p) (hM0 : ∀ i, i < m → ∀ c, n ≤ c → c < N → M i c = 0) (h : Rref p N E k ld) (hk : ∀ x, Ker p N E k x ↔ Ker p N M m x) :
    Rref p n E k ld ∧ (∀ x, Ker p n E k x ↔ Ker p n M m x) ∧ ∀ i, i < k → ∀ c, n ≤ c → c < N → E i c = 0 := by
  obtain ⟨k0, E0, ld0, h0, _, hk0⟩ := rref_exists (N := n) (m := m) hp hM
  have hP : Rref p N (padN n E0) k0 ld0 := {
    lt := fun i hi => Nat.lt_of_lt_of_le (h0.lt i hi) hn
    mono := h0.mono
    one := fun i hi => by rw [padN_lt (h0.lt i hi)]; exact h0.one i hi
    left := fun i hi c hc => by
      have := h0.lt i hi
      rw [padN_lt (by omega)]; exact h0.left i hi c hc
    zero := fun i j hi hj hne => by rw [padN_lt (h0.lt i hi)]; exact h0.zero i j hi hj hne
    small := fun i hi c hc => by
      by_cases hcn : c < n
      · rw [padN_lt hcn]; exact h0.small i hi c hcn
      · rw [padN_ge (by omega)]; have := hp.two; omega }
  have hPk : ∀ x, Ker p N (padN n E0) k0 x ↔ Ker p n E0 k0 x := fun x => by
    rw [ker_pad hn (fun i hi c hc _ => padN_ge hc)]
    exact ⟨fun q i hi => by rw [← dot_same (r := padN n E0 i) (fun c hc => padN_lt hc)]; exact q i hi, fun q i hi => by rw [dot_same (s := E0 i) (fun c hc => padN_lt hc)]; exact q i hi⟩
  obtain ⟨rfl, e1, e2⟩ := rref_unique hp.two h hP (fun x => by rw [hk, hPk, hk0, ker_pad hn hM0])
  have z : ∀ i, i < k → ∀ c, n ≤ c → c < N → E i c = 0 := fun i hi c hc hcN => by rw [e2 i hi c hcN, padN_ge hc]
  refine ⟨{
    lt := fun i hi => by rw [e1 i hi]; exact h0.lt i hi
    mono := h.mono
    one := h.one
    left := h.left
    zero := h.zero
    small := fun i hi c hc => h.small i hi c (by omega) }, fun x => ?_, z⟩
  rw [← ker_pad hn z, hk, ker_pad hn hM0]
/-- The number of the row that leads at a place, and one more; 0 for none. -/
def lv (ld : Nat → Nat) (q c : Nat) : Nat := match ldAt q ld c with
  | some j => j + 1
  | none => 0
theorem lv_le {ld : Nat → Nat} {q c : Nat} : lv ld q c ≤ q := by
  unfold lv
  cases h : ldAt q ld c with
  | none => exact Nat.zero_le _
  | some j => exact (ldAt_some h).1
theorem lv_pos {ld : Nat → Nat} {q c : Nat} : 0 < lv ld q c ↔ isLd q ld c := by
  unfold lv
  cases h : ldAt q ld c with
  | none => exact ⟨fun q => absurd q (Nat.lt_irrefl 0), fun ⟨i, hi, e⟩ => absurd e (ldAt_none h i hi)⟩
  | some j => exact ⟨fun _ => ⟨j, ldAt_some h⟩, fun _ => Nat.succ_pos _⟩
theorem ldAt_succ {ld : Nat → Nat} {q c : Nat} : ldAt (q + 1) ld c = (ldAt q ld c).or (if ld q = c then some q else none) := by
  unfold ldAt
  rw [List.range_succ, List.find?_append]
  by_cases e : ld q = c
  · simp [e]
  · simp [e]
theorem lv_step {p N k q : Nat} {E : Nat → Nat → Nat} {ld : Nat → Nat} (h : Rref p N E k ld) (hq : q < k) (c : Nat) : lv ld (q + 1) c = if c = ld q then q + 1 else lv ld q c := by
  unfold lv
  rw [ldAt_succ]
  by_cases e : c = ld q
  · subst e
    have : ldAt q ld (ld q) = none := by
      cases h2 : ldAt q ld (ld q) with
      | none => rfl
      | some j => have := ldAt_some h2; have := h.mono j q this.1 hq; omega
    rw [this]; simp
  · have e2 : ¬ ld q = c := fun x => e x.symm
    rw [if_neg e, if_neg e2]; simp
theorem sol_lead {p k c d : Nat} {E : Nat → Nat → Nat} {ld : Nat → Nat} (h : 0 < lv ld k d) (hne : d ≠ c) : sol p E k ld c d = (p - E (lv ld k d - 1) c) % p := by
  unfold sol
  rw [if_neg hne]
  unfold lv at h ⊢
  cases h2 : ldAt k ld d with
  | none => rw [h2] at h; exact absurd h (by simp)
  | some j => rfl
theorem sol_free {p k c d : Nat} {E : Nat → Nat → Nat} {ld : Nat → Nat} (h : ¬ 0 < lv ld k d) : sol p E k ld c d = if d = c then 1 else 0 := by
  unfold sol
  split
  · rfl
  · unfold lv at h
    cases h2 : ldAt k ld d with
    | none => rfl
    | some j => rw [h2] at h; exact absurd (Nat.succ_pos j) h
theorem neg_mod {p x : Nat} (hp : 0 < p) (hx : x ≤ p) : (-(x : Int)) % (p : Int) = (((p - x) % p : Nat) : Int) := by
  rw [Int.natCast_emod, Int.natCast_sub hx, ← Int.add_emod_left (p : Int) (-(x : Int))]
  rfl
end Go.Ech
