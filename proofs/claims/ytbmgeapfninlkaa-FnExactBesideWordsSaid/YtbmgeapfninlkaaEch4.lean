/- Plain lemmas of a small calculus for walks over frames and own memory; no statement of the seat is proved here. -/
import Derived.Test.YtbmgeapfninlkaaSw15
set_option linter.unusedVariables false
set_option linter.unusedSimpArgs false
namespace Go.Sw
open Go Go.RowKit
variable {P : Program}
section
variable {ops : List Oper} {Q : Exit → Act → World → Prop} {n : Nat} {F : List (Nat × Value)}
def edgesBackB : List Oper → Nat → Bool
  | [], _ => true
  | o :: r, i => (o.after.toList.all fun e => !(Region.binds .any e) || Nat.blt e.on i) && edgesBackB r (i + 1)
def tailOkB (ops : List Oper) (k : Nat) : Bool := edgesBackB ops 0 && bitsFrom (masks ops []) ops.length ops.length k
def dstsOkS (n : Nat) (F : List (Nat × Value)) : List Oper → List Nat → Bool
  | [], _ => true
  | o :: r, seen => o.guard.isNone && (match o.dst with
    | some d => Nat.blt d n && (lk F d).isNone && !(memNat d seen) && dstsOkS n F r (d :: seen)
    | none => dstsOkS n F r seen)
def DepsS (ops : List Oper) (k s : Nat) (φ : Nat → Value → Prop) (o : Oper) (a : Act) : Prop :=
  ∀ j, Nat.blt j k = true → Nat.beq j s = false → edgeTo o j = true → φ j (a.tmps.getD (dstOf ops j) undef)
def edgeS (ops : List Oper) (s i : Nat) : Bool := match ops[s]? with | some o => edgeTo o i | none => false
def StepsS (P : Program) (ops : List Oper) (k s n : Nat) (F : List (Nat × Value)) (S : Bool → World → Prop) (φ : Nat → Value → Prop) : List Oper → Nat → Prop
  | [], _ => True
  | o :: r, i => (if Nat.beq i s = true then ∀ a w, Fr n a F → S false w → DepsS ops k s φ o a → Does P o a w (fun _ w' => S true w')
      else ∀ a w b, Fr n a F → S b w → (edgeS ops s i = true → b = false) → DepsS ops k s φ o a → Does P o a w (fun v w' => S b w' ∧ φ i v)) ∧ StepsS P ops k s n F S φ r (i + 1)
theorem StepsS.get {k s : Nat} {S : Bool → World → Prop} {φ : Nat → Value → Prop} : ∀ {l : List Oper} {i : Nat}, StepsS P ops k s n F S φ l i → ∀ (j : Nat) (o : Oper), l[j]? = some o →
    (if Nat.beq (i + j) s = true then ∀ a w, Fr n a F → S false w → DepsS ops k s φ o a → Does P o a w (fun _ w' => S true w')
      else ∀ a w b, Fr n a F → S b w → (edgeS ops s (i + j) = true → b = false) → DepsS ops k s φ o a → Does P o a w (fun v w' => S b w' ∧ φ (i + j) v))
  | [], _, _, j, o, h => by simp at h
  | x :: r, i, hs, j, o, h => by
    cases j with
    | zero => simp at h; subst h; exact hs.1
    | succ j => have := hs.2.get j o (by simpa using h); rwa [show i + 1 + j = i + (j + 1) by omega] at this
end
end Go.Sw

/-! Sums, rows modulo p, reduced lists of rows: plain lemmas, no program. -/
namespace Go.Ech
def sI (f : Nat → Int) : Nat → Int
  | 0 => 0
  | n + 1 => sI f n + f n
theorem sI_congr {f g : Nat → Int} {n : Nat} (h : ∀ i, i < n → f i = g i) : sI f n = sI g n := by
  induction n with
  | zero => rfl
  | succ n ih => simp only [sI]; rw [ih (fun i hi => h i (by omega)), h n (by omega)]
theorem sI_zero {f : Nat → Int} {n : Nat} (h : ∀ i, i < n → f i = 0) : sI f n = 0 := by
  induction n with
  | zero => rfl
  | succ n ih => simp only [sI]; rw [ih (fun i hi => h i (by omega)), h n (by omega)]; rfl
theorem sI_one {f : Nat → Int} {n a : Nat} (ha : a < n) (h : ∀ i, i < n → i ≠ a → f i = 0) : sI f n = f a := by
  induction n with
  | zero => omega
  | succ n ih =>
    simp only [sI]
    by_cases e : a = n
    · subst e; rw [sI_zero (fun i hi => h i (by omega) (by omega))]; omega
    · rw [ih (by omega) (fun i hi => h i (by omega)), h n (by omega) (by omega)]; omega
theorem sI_add (f g : Nat → Int) (n : Nat) : sI (fun i => f i + g i) n = sI f n + sI g n := by
  induction n with
  | zero => rfl
  | succ n ih => simp only [sI]; rw [ih]; omega
theorem sI_mul (k : Int) (f : Nat → Int) (n : Nat) : sI (fun i => k * f i) n = k * sI f n := by
  induction n with
  | zero => simp [sI]
  | succ n ih => simp only [sI]; rw [ih, Int.mul_add]
theorem sI_dvd {p : Int} {f : Nat → Int} {n : Nat} (h : ∀ i, i < n → p ∣ f i) : p ∣ sI f n := by
  induction n with
  | zero => exact Int.dvd_zero p
  | succ n ih => exact Int.dvd_add (ih fun i hi => h i (by omega)) (h n (by omega))
def dot (N : Nat) (r x : Nat → Int) : Int := sI (fun c => r c * x c) N
abbrev ci (r : Nat → Nat) : Nat → Int := fun c => (r c : Int)
def Ker (p N : Nat) (M : Nat → Nat → Nat) (m : Nat) (x : Nat → Int) : Prop := ∀ i, i < m → (p : Int) ∣ dot N (ci (M i)) x
theorem dot_lin {p N : Nat} {r s t x : Nat → Int} {k : Int} (h : ∀ c, c < N → (p : Int) ∣ t c - (r c + k * s c)) : (p : Int) ∣ dot N t x - (dot N r x + k * dot N s x) := by
  unfold dot
  have e : sI (fun c => t c * x c) N - (sI (fun c => r c * x c) N + k * sI (fun c => s c * x c) N) = sI (fun c => (t c - (r c + k * s c)) * x c) N := by
    rw [← sI_mul, ← sI_add];have : sI (fun c => t c * x c) N = sI (fun c => (t c - (r c + k * s c)) * x c) N + sI (fun c => r c * x c + k * (s c * x c)) N := by
      rw [← sI_add]; exact sI_congr fun c _ => by grind
    omega
  rw [e];exact sI_dvd fun c hc => Int.dvd_mul_of_dvd_left (h c hc)
theorem dvd_iff_sub {p a b : Int} (h : p ∣ a - b) : p ∣ a ↔ p ∣ b := by
  constructor
  · intro ha; have := Int.dvd_sub ha h; rwa [show a - (a - b) = b by omega] at this
  · intro hb; have := Int.dvd_add hb h; rwa [show b + (a - b) = a by omega] at this
structure Rref (p N : Nat) (E : Nat → Nat → Nat) (k : Nat) (ld : Nat → Nat) : Prop where
  lt : ∀ i, i < k → ld i < N
  mono : ∀ i j, i < j → j < k → ld i < ld j
  one : ∀ i, i < k → E i (ld i) = 1
  left : ∀ i, i < k → ∀ c, c < ld i → E i c = 0
  zero : ∀ i j, i < k → j < k → i ≠ j → E j (ld i) = 0
  small : ∀ i, i < k → ∀ c, c < N → E i c < p
def isLd (k : Nat) (ld : Nat → Nat) (c : Nat) : Prop := ∃ i, i < k ∧ ld i = c
instance (k : Nat) (ld : Nat → Nat) (c : Nat) : Decidable (isLd k ld c) := inferInstanceAs (Decidable (∃ i, i < k ∧ ld i = c))
def ldAt (k : Nat) (ld : Nat → Nat) (c : Nat) : Option Nat := (List.range k).find? (fun i => ld i == c)
def free (E : Nat → Nat → Nat) (k : Nat) (ld : Nat → Nat) (c : Nat) : Nat → Int := fun d =>
  if d = c then 1 else match ldAt k ld d with
    | some j => -(E j c : Int)
    | none => 0
namespace Rref
variable {p N k : Nat} {E : Nat → Nat → Nat} {ld : Nat → Nat}
theorem inj (h : Rref p N E k ld) {i j : Nat} (hi : i < k) (hj : j < k) (e : ld i = ld j) : i = j := by
  rcases Nat.lt_trichotomy i j with hh | hh | hh
  · have := h.mono i j hh hj; omega
  · exact hh
  · have := h.mono j i hh hi; omega
theorem ker_lead (h : Rref p N E k ld) {x : Nat → Int} (hx : Ker p N E k x) {i : Nat} (hi : i < k) (hz : ∀ d, ld i < d → d < N → x d = 0) : (p : Int) ∣ x (ld i) := by
  have := hx i hi
  unfold dot at this
  rw [sI_one (h.lt i hi)] at this
  · simpa [ci, h.one i hi] using this
  · intro d hd hne
    rcases Nat.lt_or_gt_of_ne hne with hh | hh
    · simp [ci, h.left i hi d hh]
    · simp [hz d hh hd]
end Rref
end Go.Ech

/-! Steps of eliminations: plain lemmas, no program. -/
namespace Go.Ech
def primeN (p : Nat) : Prop := p = 2 ∨ p = 3 ∨ p = 5 ∨ p = 7 ∨ p = 11 ∨ p = 13
theorem primeN.two {p : Nat} (h : primeN p) : 2 ≤ p := by unfold primeN at h; omega
theorem primeN.le {p : Nat} (h : primeN p) : p ≤ 13 := by unfold primeN at h; omega
def lsM (p : Nat) (f h : Nat → Nat) (k c : Nat) : Nat := (((f c : Int) - (k : Int) * (h c : Int)) % (p : Int)).toNat
theorem lsM_int {p : Nat} {f h : Nat → Nat} {k c : Nat} (hp : 0 < p) : (lsM p f h k c : Int) = ((f c : Int) - (k : Int) * (h c : Int)) % (p : Int) :=
  Int.toNat_of_nonneg (Int.emod_nonneg _ (by omega))
theorem lsM_lt {p : Nat} {f h : Nat → Nat} {k c : Nat} (hp : 0 < p) : lsM p f h k c < p := by
  have := Int.emod_lt_of_pos ((f c : Int) - (k : Int) * (h c : Int)) (show (0 : Int) < p by omega);have e := lsM_int (f := f) (h := h) (k := k) (c := c) hp
  omega
theorem lsM_zero {p : Nat} {f h : Nat → Nat} {k c : Nat} (hf : f c < p) (hh : h c = 0) : lsM p f h k c = f c := by
  have e := lsM_int (f := f) (h := h) (k := k) (c := c) (show 0 < p by omega);rw [hh] at e;rw [show (f c : Int) - (k : Int) * ((0 : Nat) : Int) = f c by simp, Int.emod_eq_of_lt (by omega) (by omega)] at e
  omega
theorem lsM_one {p : Nat} {f h : Nat → Nat} {c : Nat} (hp : 0 < p) (hh : h c = 1) : lsM p f h (f c) c = 0 := by
  have e := lsM_int (f := f) (h := h) (k := f c) (c := c) hp;rw [hh, show (f c : Int) - (f c : Int) * ((1 : Nat) : Int) = 0 by omega, Int.zero_emod] at e
  omega
theorem emod_dvd (p x : Int) : p ∣ x % p - x := ⟨-(x / p), by have := Int.mul_ediv_add_emod x p; grind⟩
theorem lsM_dvd {p : Nat} {f h : Nat → Nat} {k c : Nat} (hp : 0 < p) : (p : Int) ∣ ci (lsM p f h k) c - (ci f c + (-(k : Int)) * ci h c) := by
  show (p : Int) ∣ (lsM p f h k c : Int) - _
  rw [lsM_int hp];have := emod_dvd (p : Int) ((f c : Int) - (k : Int) * (h c : Int))
  rwa [show ((f c : Int) - (k : Int) * (h c : Int)) % (p : Int) - (ci f c + (-(k : Int)) * ci h c) = ((f c : Int) - (k : Int) * (h c : Int)) % (p : Int) - ((f c : Int) - (k : Int) * (h c : Int)) by show _ - ((f c : Int) + (-(k : Int)) * (h c : Int)) = _; grind]
theorem lsM_ker {p N : Nat} {f h : Nat → Nat} {k : Nat} {x : Nat → Int} (hp : 0 < p) (hx : (p : Int) ∣ dot N (ci h) x) : (p : Int) ∣ dot N (ci (lsM p f h k)) x ↔ (p : Int) ∣ dot N (ci f) x := by
  have h1 := dot_lin (p := p) (N := N) (r := ci f) (s := ci h) (t := ci (lsM p f h k)) (x := x) (k := -(k : Int)) (fun c _ => lsM_dvd hp);rw [dvd_iff_sub h1];have h2 : (p : Int) ∣ -(k : Int) * dot N (ci h) x := Int.dvd_mul_of_dvd_right hx
  constructor
  · intro h3; have := Int.dvd_sub h3 h2; rwa [show dot N (ci f) x + -(k : Int) * dot N (ci h) x - -(k : Int) * dot N (ci h) x = dot N (ci f) x by omega] at this
  · intro h3; exact Int.dvd_add h3 h2
def ins {α : Type} (q : Nat) (g : Nat → α) (o : α) (i : Nat) : α := if i < q then g i else if i = q then o else g (i - 1)
structure Fits (p N : Nat) (E : Nat → Nat → Nat) (k : Nat) (ld : Nat → Nat) (o : Nat → Nat) (t q : Nat) : Prop where
  lt : t < N
  one : o t = 1
  left : ∀ c, c < t → o c = 0
  small : ∀ c, c < N → o c < p
  zero : ∀ i, i < k → o (ld i) = 0
  qk : q ≤ k
  lo : ∀ i, i < q → ld i < t
  hi : ∀ i, q ≤ i → i < k → t < ld i
def below (k : Nat) (ld : Nat → Nat) (t : Nat) : Nat := ((List.range k).find? (fun i => decide (t < ld i))).getD k
structure Own (p N : Nat) (E : Nat → Nat → Nat) (k : Nat) (ld r o : Nat → Nat) (j : Nat) : Prop where
  small : ∀ c, c < N → o c < p
  zero : ∀ i, i < j → o (ld i) = 0
  ker : ∀ x, Ker p N E k x → ((p : Int) ∣ dot N (ci o) x ↔ (p : Int) ∣ dot N (ci r) x)
theorem Own.step {p N k j : Nat} {E : Nat → Nat → Nat} {ld r o : Nat → Nat} (hp : 0 < p) (h : Rref p N E k ld) (ho : Own p N E k ld r o j) (hj : j < k) : Own p N E k ld r (lsM p o (E j) (o (ld j))) (j + 1) := by
  refine ⟨fun c _ => lsM_lt hp, fun i hi => ?_, fun x hx => ?_⟩
  · by_cases e : i = j
    · subst e; exact lsM_one hp (h.one i hj)
    · rw [lsM_zero (ho.small _ (h.lt i (by omega))) (h.zero i j (by omega) hj e)]; exact ho.zero i (by omega)
  · rw [lsM_ker hp (hx j hj)]; exact ho.ker x hx
theorem Ker.snoc {p N m : Nat} {M : Nat → Nat → Nat} {x : Nat → Int} : Ker p N M (m + 1) x ↔ Ker p N M m x ∧ (p : Int) ∣ dot N (ci (M m)) x := by
  constructor
  · intro h; exact ⟨fun i hi => h i (by omega), h m (by omega)⟩
  · intro h i hi
    by_cases e : i = m
    · subst e; exact h.2
    · exact h.1 i (by omega)
end Go.Ech

/-! Elimination in place: plain lemmas, no program. -/
namespace Go.Ech
def upE {α : Type} (f : Nat → α) (m : Nat) (x : α) (i : Nat) : α := if i = m then x else f i
def sw {α : Type} (a b : Nat) (f : Nat → α) (i : Nat) : α := if i = a then f b else if i = b then f a else f i
structure Red (p N m : Nat) (M : Nat → Nat → Nat) (d : Nat) (ld : Nat → Nat) : Prop where
  lt : ∀ i, i < d → ld i < N
  mono : ∀ i j, i < j → j < d → ld i < ld j
  one : ∀ i, i < d → M i (ld i) = 1
  left : ∀ i, i < d → ∀ c, c < ld i → M i c = 0
  zero : ∀ i j, i < d → j < m → i ≠ j → M j (ld i) = 0
  low : ∀ i, i < d → ∀ j, d ≤ j → j < m → ∀ c, c ≤ ld i → M j c = 0
theorem Red.start {p N m : Nat} {M : Nat → Nat → Nat} {ld : Nat → Nat} : Red p N m M 0 ld :=
  ⟨fun i hi => absurd hi (by omega), fun i j _ hi => absurd hi (by omega), fun i hi => absurd hi (by omega), fun i hi => absurd hi (by omega), fun i j hi => absurd hi (by omega), fun i hi => absurd hi (by omega)⟩
def elimM (p : Nat) (M : Nat → Nat → Nat) (d t : Nat) (sc : Nat → Nat) (i : Nat) : Nat → Nat := if i = d then sc else lsM p (M i) sc (M i t)
theorem Red.step {p N m d t : Nat} {M : Nat → Nat → Nat} {ld sc : Nat → Nat} {v : Nat} (hp : 0 < p) (h : Red p N m M d ld) (hM1 : ∀ i c, M i c < p) (hd : d < m) (ht : t < N) (h0 : M d t ≠ 0) (hmin : ∀ j, d ≤ j → j < m → ∀ c, c < t → M j c = 0)
    (hsc : ∀ c, sc c = M d c * v % p) (h1 : M d t * v % p = 1) : Red p N m (elimM p M d t sc) (d + 1) (upE ld d t) := by
  have hsc1 : sc t = 1 := by rw [hsc]; exact h1
  have hsc0 : ∀ c, M d c = 0 → sc c = 0 := fun c hc => by rw [hsc, hc]; simp
  have hlt : ∀ i, i < d → ld i < t := fun i hi => by
    rcases Nat.lt_or_ge (ld i) t with hh | hh
    · exact hh
    · exact absurd (h.low i hi d (Nat.le_refl _) hd t hh) h0
  have keep : ∀ i, i ≠ d → ∀ c, sc c = 0 → elimM p M d t sc i c = M i c := fun i hi c hc => by unfold elimM; rw [if_neg hi]; exact lsM_zero (hM1 i c) hc
  have sct : ∀ c, c < t → sc c = 0 := fun c hc => hsc0 c (hmin d (Nat.le_refl _) hd c hc);have piv : elimM p M d t sc d = sc := by unfold elimM; simp
  have col : ∀ i, i ≠ d → elimM p M d t sc i t = 0 := fun i hi => by unfold elimM; rw [if_neg hi]; exact lsM_one hp hsc1
  refine ⟨fun i hi => ?_, fun i j hij hj => ?_, fun i hi => ?_, fun i hi c hc => ?_, fun i j hi hj hne => ?_, fun i hi j hj hjm c hc => ?_⟩
  · unfold upE; split
    · exact ht
    · exact h.lt i (by omega)
  · unfold upE
    rw [if_neg (show i ≠ d by omega)]
    split
    · exact hlt i (by omega)
    · exact h.mono i j hij (by omega)
  · unfold upE; split
    · rename_i e; rw [e, piv]; exact hsc1
    · rename_i e; rw [keep i e _ (sct _ (hlt i (by omega)))]; exact h.one i (by omega)
  · unfold upE at hc; split at hc
    · rename_i e; rw [e, piv]; exact sct c hc
    · rename_i e
      have := hlt i (by omega);rw [keep i e c (sct c (by omega))]; exact h.left i (by omega) c hc
  · unfold upE; split
    · rename_i e; exact col j (by omega)
    · rename_i e
      by_cases ej : j = d
      · rw [ej, piv]; exact sct _ (hlt i (by omega))
      · rw [keep j ej _ (sct _ (hlt i (by omega)))]; exact h.zero i j (by omega) hj hne
  · unfold upE at hc; split at hc
    · rename_i e
      by_cases ec : c = t
      · rw [ec]; exact col j (by omega)
      · rw [keep j (by omega) c (sct c (by omega))]; exact hmin j (by omega) hjm c (by omega)
    · rename_i e
      have := hlt i (by omega);rw [keep j (by omega) c (sct c (by omega))]; exact h.low i (by omega) j (by omega) hjm c hc
theorem Red.done {p N m : Nat} {M : Nat → Nat → Nat} {d : Nat} {ld : Nat → Nat} (h : Red p N m M d ld) (hM1 : ∀ i c, M i c < p) (hdm : d ≤ m) : Rref p N M d ld :=
  ⟨h.lt, h.mono, h.one, h.left, fun i j hi hj hne => h.zero i j hi (by omega) hne, fun i _ c _ => hM1 i c⟩
end Go.Ech
