/- Plain lemmas of a small calculus for walks over frames and own memory; no statement of the seat is proved here. -/
import Derived.Test.YtlpccepifehilaaSw14
set_option linter.unusedVariables false
set_option linter.unusedSimpArgs false
/-! Sums, rows modulo p, reduced lists of rows: plain lemmas, no program. -/
namespace Go.Ech
def sI (f : Nat → Int) : Nat → Int
  | 0 => 0
  | n + 1 => sI f n + f n
theorem sI_congr {f g : Nat → Int} {n : Nat} (h : ∀ i, i < n → f i = g i) : sI f n = sI g n := by
  induction n with
  | zero => rfl
  | succ n ih => simp only [sI]; rw [ih (fun i hi => h i (by omega)), h n (by omega)]
theorem sI_zero {f : Nat → Int} {n : Nat} (h : ∀ i, i < n → f i = 0) : sI f n = 0 := by
  induction n with
  | zero => rfl
  | succ n ih => simp only [sI]; rw [ih (fun i hi => h i (by omega)), h n (by omega)]; rfl
theorem sI_one {f : Nat → Int} {n a : Nat} (ha : a < n) (h : ∀ i, i < n → i ≠ a → f i = 0) : sI f n = f a := by
  induction n with
  | zero => omega
  | succ n ih =>
    simp only [sI]
    by_cases e : a = n
    · subst e; rw [sI_zero (fun i hi => h i (by omega) (by omega))]; omega
    · rw [ih (by omega) (fun i hi => h i (by omega)), h n (by omega) (by omega)]; omega
theorem sI_add (f g : Nat → Int) (n : Nat) : sI (fun i => f i + g i) n = sI f n + sI g n := by
  induction n with
  | zero => rfl
  | succ n ih => simp only [sI]; rw [ih]; omega
theorem sI_mul (k : Int) (f : Nat → Int) (n : Nat) : sI (fun i => k * f i) n = k * sI f n := by
  induction n with
  | zero => simp [sI]
  | succ n ih => simp only [sI]; rw [ih, Int.mul_add]
theorem sI_dvd {p : Int} {f : Nat → Int} {n : Nat} (h : ∀ i, i < n → p ∣ f i) : p ∣ sI f n := by
  induction n with
  | zero => exact Int.dvd_zero p
  | succ n ih => exact Int.dvd_add (ih fun i hi => h i (by omega)) (h n (by omega))
theorem sI_swap (f : Nat → Nat → Int) (n m : Nat) : sI (fun i => sI (fun j => f i j) m) n = sI (fun j => sI (fun i => f i j) n) m := by
  induction n with
  | zero => simp only [sI]; exact (sI_zero fun i _ => rfl).symm
  | succ n ih => simp only [sI]; rw [ih, ← sI_add]
def dot (N : Nat) (r x : Nat → Int) : Int := sI (fun c => r c * x c) N
abbrev ci (r : Nat → Nat) : Nat → Int := fun c => (r c : Int)
def Ker (p N : Nat) (M : Nat → Nat → Nat) (m : Nat) (x : Nat → Int) : Prop := ∀ i, i < m → (p : Int) ∣ dot N (ci (M i)) x
theorem dot_lin {p N : Nat} {r s t x : Nat → Int} {k : Int} (h : ∀ c, c < N → (p : Int) ∣ t c - (r c + k * s c)) : (p : Int) ∣ dot N t x - (dot N r x + k * dot N s x) := by
  unfold dot
  have e : sI (fun c => t c * x c) N - (sI (fun c => r c * x c) N + k * sI (fun c => s c * x c) N) = sI (fun c => (t c - (r c + k * s c)) * x c) N := by
    rw [← sI_mul, ← sI_add];have : sI (fun c => t c * x c) N = sI (fun c => (t c - (r c + k * s c)) * x c) N + sI (fun c => r c * x c + k * (s c * x c)) N := by
      rw [← sI_add]; exact sI_congr fun c _ => by grind
    omega
  rw [e];exact sI_dvd fun c hc => Int.dvd_mul_of_dvd_left (h c hc)
theorem dvd_iff_sub {p a b : Int} (h : p ∣ a - b) : p ∣ a ↔ p ∣ b := by
  constructor
  · intro ha; have := Int.dvd_sub ha h; rwa [show a - (a - b) = b by omega] at this
  · intro hb; have := Int.dvd_add hb h; rwa [show b + (a - b) = a by omega] at this
structure Rref (p N : Nat) (E : Nat → Nat → Nat) (k : Nat) (ld : Nat → Nat) : Prop where
  lt : ∀ i, i < k → ld i < N
  mono : ∀ i j, i < j → j < k → ld i < ld j
  one : ∀ i, i < k → E i (ld i) = 1
  left : ∀ i, i < k → ∀ c, c < ld i → E i c = 0
  zero : ∀ i j, i < k → j < k → i ≠ j → E j (ld i) = 0
  small : ∀ i, i < k → ∀ c, c < N → E i c < p
def isLd (k : Nat) (ld : Nat → Nat) (c : Nat) : Prop := ∃ i, i < k ∧ ld i = c
instance (k : Nat) (ld : Nat → Nat) (c : Nat) : Decidable (isLd k ld c) := inferInstanceAs (Decidable (∃ i, i < k ∧ ld i = c))
def ldAt (k : Nat) (ld : Nat → Nat) (c : Nat) : Option Nat := (List.range k).find? (fun i => ld i == c)
def free (E : Nat → Nat → Nat) (k : Nat) (ld : Nat → Nat) (c : Nat) : Nat → Int := fun d =>
  if d = c then 1 else match ldAt k ld d with
    | some j => -(E j c : Int)
    | none => 0
namespace Rref
variable {p N k : Nat} {E : Nat → Nat → Nat} {ld : Nat → Nat}
theorem inj (h : Rref p N E k ld) {i j : Nat} (hi : i < k) (hj : j < k) (e : ld i = ld j) : i = j := by
  rcases Nat.lt_trichotomy i j with hh | hh | hh
  · have := h.mono i j hh hj; omega
  · exact hh
  · have := h.mono j i hh hi; omega
theorem ker_lead (h : Rref p N E k ld) {x : Nat → Int} (hx : Ker p N E k x) {i : Nat} (hi : i < k) (hz : ∀ d, ld i < d → d < N → x d = 0) : (p : Int) ∣ x (ld i) := by
  have := hx i hi
  unfold dot at this
  rw [sI_one (h.lt i hi)] at this
  · simpa [ci, h.one i hi] using this
  · intro d hd hne
    rcases Nat.lt_or_gt_of_ne hne with hh | hh
    · simp [ci, h.left i hi d hh]
    · simp [hz d hh hd]
end Rref
end Go.Ech

/-! Steps of eliminations: plain lemmas, no program. -/
namespace Go.Ech
def primeN (p : Nat) : Prop := p = 2 ∨ p = 3 ∨ p = 5 ∨ p = 7 ∨ p = 11 ∨ p = 13
theorem primeN.two {p : Nat} (h : primeN p) : 2 ≤ p := by unfold primeN at h; omega
theorem primeN.le {p : Nat} (h : primeN p) : p ≤ 13 := by unfold primeN at h; omega
def lsM (p : Nat) (f h : Nat → Nat) (k c : Nat) : Nat := (((f c : Int) - (k : Int) * (h c : Int)) % (p : Int)).toNat
theorem lsM_int {p : Nat} {f h : Nat → Nat} {k c : Nat} (hp : 0 < p) : (lsM p f h k c : Int) = ((f c : Int) - (k : Int) * (h c : Int)) % (p : Int) :=
  Int.toNat_of_nonneg (Int.emod_nonneg _ (by omega))
theorem lsM_lt {p : Nat} {f h : Nat → Nat} {k c : Nat} (hp : 0 < p) : lsM p f h k c < p := by
  have := Int.emod_lt_of_pos ((f c : Int) - (k : Int) * (h c : Int)) (show (0 : Int) < p by omega);have e := lsM_int (f := f) (h := h) (k := k) (c := c) hp
  omega
theorem lsM_zero {p : Nat} {f h : Nat → Nat} {k c : Nat} (hf : f c < p) (hh : h c = 0) : lsM p f h k c = f c := by
  have e := lsM_int (f := f) (h := h) (k := k) (c := c) (show 0 < p by omega);rw [hh] at e;rw [show (f c : Int) - (k : Int) * ((0 : Nat) : Int) = f c by simp, Int.emod_eq_of_lt (by omega) (by omega)] at e
  omega
theorem lsM_one {p : Nat} {f h : Nat → Nat} {c : Nat} (hp : 0 < p) (hh : h c = 1) : lsM p f h (f c) c = 0 := by
  have e := lsM_int (f := f) (h := h) (k := f c) (c := c) hp;rw [hh, show (f c : Int) - (f c : Int) * ((1 : Nat) : Int) = 0 by omega, Int.zero_emod] at e
  omega
theorem emod_dvd (p x : Int) : p ∣ x % p - x := ⟨-(x / p), by have := Int.mul_ediv_add_emod x p; grind⟩
theorem lsM_dvd {p : Nat} {f h : Nat → Nat} {k c : Nat} (hp : 0 < p) : (p : Int) ∣ ci (lsM p f h k) c - (ci f c + (-(k : Int)) * ci h c) := by
  show (p : Int) ∣ (lsM p f h k c : Int) - _
  rw [lsM_int hp];have := emod_dvd (p : Int) ((f c : Int) - (k : Int) * (h c : Int))
  rwa [show ((f c : Int) - (k : Int) * (h c : Int)) % (p : Int) - (ci f c + (-(k : Int)) * ci h c) = ((f c : Int) - (k : Int) * (h c : Int)) % (p : Int) - ((f c : Int) - (k : Int) * (h c : Int)) by show _ - ((f c : Int) + (-(k : Int)) * (h c : Int)) = _; grind]
theorem lsM_ker {p N : Nat} {f h : Nat → Nat} {k : Nat} {x : Nat → Int} (hp : 0 < p) (hx : (p : Int) ∣ dot N (ci h) x) : (p : Int) ∣ dot N (ci (lsM p f h k)) x ↔ (p : Int) ∣ dot N (ci f) x := by
  have h1 := dot_lin (p := p) (N := N) (r := ci f) (s := ci h) (t := ci (lsM p f h k)) (x := x) (k := -(k : Int)) (fun c _ => lsM_dvd hp);rw [dvd_iff_sub h1];have h2 : (p : Int) ∣ -(k : Int) * dot N (ci h) x := Int.dvd_mul_of_dvd_right hx
  constructor
  · intro h3; have := Int.dvd_sub h3 h2; rwa [show dot N (ci f) x + -(k : Int) * dot N (ci h) x - -(k : Int) * dot N (ci h) x = dot N (ci f) x by omega] at this
  · intro h3; exact Int.dvd_add h3 h2
def ins {α : Type} (q : Nat) (g : Nat → α) (o : α) (i : Nat) : α := if i < q then g i else if i = q then o else g (i - 1)
structure Fits (p N : Nat) (E : Nat → Nat → Nat) (k : Nat) (ld : Nat → Nat) (o : Nat → Nat) (t q : Nat) : Prop where
  lt : t < N
  one : o t = 1
  left : ∀ c, c < t → o c = 0
  small : ∀ c, c < N → o c < p
  zero : ∀ i, i < k → o (ld i) = 0
  qk : q ≤ k
  lo : ∀ i, i < q → ld i < t
  hi : ∀ i, q ≤ i → i < k → t < ld i
def below (k : Nat) (ld : Nat → Nat) (t : Nat) : Nat := ((List.range k).find? (fun i => decide (t < ld i))).getD k
structure Own (p N : Nat) (E : Nat → Nat → Nat) (k : Nat) (ld r o : Nat → Nat) (j : Nat) : Prop where
  small : ∀ c, c < N → o c < p
  zero : ∀ i, i < j → o (ld i) = 0
  ker : ∀ x, Ker p N E k x → ((p : Int) ∣ dot N (ci o) x ↔ (p : Int) ∣ dot N (ci r) x)
theorem Own.step {p N k j : Nat} {E : Nat → Nat → Nat} {ld r o : Nat → Nat} (hp : 0 < p) (h : Rref p N E k ld) (ho : Own p N E k ld r o j) (hj : j < k) : Own p N E k ld r (lsM p o (E j) (o (ld j))) (j + 1) := by
  refine ⟨fun c _ => lsM_lt hp, fun i hi => ?_, fun x hx => ?_⟩
  · by_cases e : i = j
    · subst e; exact lsM_one hp (h.one i hj)
    · rw [lsM_zero (ho.small _ (h.lt i (by omega))) (h.zero i j (by omega) hj e)]; exact ho.zero i (by omega)
  · rw [lsM_ker hp (hx j hj)]; exact ho.ker x hx
theorem Ker.snoc {p N m : Nat} {M : Nat → Nat → Nat} {x : Nat → Int} : Ker p N M (m + 1) x ↔ Ker p N M m x ∧ (p : Int) ∣ dot N (ci (M m)) x := by
  constructor
  · intro h; exact ⟨fun i hi => h i (by omega), h m (by omega)⟩
  · intro h i hi
    by_cases e : i = m
    · subst e; exact h.2
    · exact h.1 i (by omega)
end Go.Ech

namespace Go.Sw
open Go Go.RowKit
variable {P : Program}
def RowsFr (w0 : World) (L : Own) (N k : Nat) (f : Nat → Nat → Value) (u : Value) (w' : World) : Prop := ∃ (D : Froz) (β κ : Nat → Nat) (C : Nat → Array Value) (b cap : Nat) (cs : Array Value),
  (∀ x ds, (x, ds) ∈ D → w0.heap.size ≤ x ∧ Blk w' x ds ∧ ∀ (k : Nat) c es, L[k]? = some (some (c, es)) → c ≠ x) ∧ RowsD D N k β κ C f ∧ SlAt 1 u (some (b, cs)) k b cap cs (fun i => .slice (some ⟨β i, 0, none⟩) N (κ i)) ∧ (b, cs) ∈ D
theorem RowsFr.last {w0 w w' : World} {L : Own} {N k : Nat} {f : Nat → Nat → Value} {u : Value} (h : RowsFr w0 L N k f u w) (hx : Ext w w') : RowsFr w0 L N k f u w' := by
  obtain ⟨D, β, κ, C, b, cap, cs, h1, h2⟩ := h;exact ⟨D, β, κ, C, b, cap, cs, fun x ds hm => ⟨(h1 x ds hm).1, (h1 x ds hm).2.1.ext hx, (h1 x ds hm).2.2⟩, h2⟩
theorem RowsOut.fresh {X : List Nat} {w0 w w' : World} {L : Own} {D : Froz} {N k : Nat} {f : Nat → Nat → Value} {u : Value} (hM : MemX X w0 w L D) (h : RowsOut w w' N k f u) : RowsFr w0 L N k f u w' := by
  obtain ⟨D', β, κ, C, b, cap, cs, h1, h2⟩ := h;refine ⟨D', β, κ, C, b, cap, cs, fun x ds hm => ⟨Nat.le_trans hM.bel.size (h1 x ds hm).1, (h1 x ds hm).2, fun k c es hk e => ?_⟩, h2⟩;have := (hM.blk k c es hk).2.lt;have := (h1 x ds hm).1
  omega
end Go.Sw

/-! Units of tables, systems of equations with one solution: plain lemmas, no program. -/
namespace Go.Ech
def dl (i c : Nat) : Nat := if i = c then 1 else 0
def aug (n : Nat) (x : Nat → Nat) (c : Nat) : Int := if c < n then (x c : Int) else -1
structure Full (p n : Nat) (E : Nat → Nat → Nat) (k : Nat) (ld : Nat → Nat) : Prop where
  k : k = n
  ld : ∀ i, i < n → ld i = i
structure UnitI (p n : Nat) (T : Nat → Nat → Nat → Nat) (u : Nat → Nat) : Prop where
  small : ∀ c, u c < p
  out : ∀ c, n ≤ c → u c = 0
  right : ∀ i, i < n → ∀ c, c < n → (p : Int) ∣ sI (fun a => (u a : Int) * (T a i c : Int)) n - (dl i c : Int)
  left : ∀ i, i < n → ∀ c, c < n → (p : Int) ∣ sI (fun b => (u b : Int) * (T i b c : Int)) n - (dl i c : Int)
def fM (n : Nat) (T : Nat → Nat → Nat → Nat) (r c : Nat) : Nat := if c < n then T c (r / n) (r % n) else if r / n = r % n then 1 else 0
end Go.Ech
