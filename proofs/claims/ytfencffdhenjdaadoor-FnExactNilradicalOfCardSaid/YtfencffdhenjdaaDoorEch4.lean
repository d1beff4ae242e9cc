/- Plain lemmas of a small calculus for walks over frames and own memory; no statement of the seat is proved here. -/
import Derived.Test.YtfencffdhenjdaaDoorEch
set_option linter.unusedVariables false
set_option linter.unusedSimpArgs false
/-! Steps of eliminations: plain lemmas, no program. -/
namespace Go.Ech
def primeN (p : Nat) : Prop := p = 2 ∨ p = 3 ∨ p = 5 ∨ p = 7 ∨ p = 11 ∨ p = 13
theorem primeN.two {p : Nat} (h : primeN p) : 2 ≤ p := by unfold primeN at h; omega
theorem primeN.le {p : Nat} (h : primeN p) : p ≤ 13 := by unfold primeN at h; omega
/-- x less k times y, modulo p. -/
def lsM (p : Nat) (f h : Nat → Nat) (k c : Nat) : Nat := (((f c : Int) - (k : Int) * (h c : Int)) % (p : Int)).toNat
theorem lsM_int {p : Nat} {f h : Nat → Nat} {k c : Nat} (hp : 0 < p) : ((lsM p f h k c : Nat) : Int) = ((f c : Int) - (k : Int) * (h c : Int)) % (p : Int) :=
  Int.toNat_of_nonneg (Int.emod_nonneg _ (by omega))
theorem lsM_lt {p : Nat} {f h : Nat → Nat} {k c : Nat} (hp : 0 < p) : lsM p f h k c < p := by
  have := Int.emod_lt_of_pos ((f c : Int) - (k : Int) * (h c : Int)) (show (0 : Int) < p by omega)
  have e := lsM_int (f := f) (h := h) (k := k) (c := c) hp
  omega
theorem lsM_zero {p : Nat} {f h : Nat → Nat} {k c : Nat} (hf : f c < p) (hh : h c = 0) : lsM p f h k c = f c := by
  have e := lsM_int (f := f) (h := h) (k := k) (c := c) (show 0 < p by omega)
  rw [hh] at e
  rw [show (f c : Int) - (k : Int) * ((0 : Nat) : Int) = f c by simp, Int.emod_eq_of_lt (by omega) (by omega)] at e
  omega
theorem lsM_one {p : Nat} {f h : Nat → Nat} {c : Nat} (hp : 0 < p) (hh : h c = 1) : lsM p f h (f c) c = 0 := by
  have e := lsM_int (f := f) (h := h) (k := f c) (c := c) hp
  rw [hh, show (f c : Int) - (f c : Int) * ((1 : Nat) : Int) = 0 by omega, Int.zero_emod] at e
  omega
theorem emod_dvd (p x : Int) : p ∣ x % p - x := ⟨-(x / p), by have := Int.mul_ediv_add_emod x p; grind⟩
theorem lsM_dvd {p : Nat} {f h : Nat → Nat} {k c : Nat} (hp : 0 < p) : (p : Int) ∣ ci (lsM p f h k) c - (ci f c + (-(k : Int)) * ci h c) := by
  show (p : Int) ∣ ((lsM p f h k c : Nat) : Int) - _
  rw [lsM_int hp]
  have := emod_dvd (p : Int) ((f c : Int) - (k : Int) * (h c : Int))
  rwa [show ((f c : Int) - (k : Int) * (h c : Int)) % (p : Int) - (ci f c + (-(k : Int)) * ci h c) = ((f c : Int) - (k : Int) * (h c : Int)) % (p : Int) - ((f c : Int) - (k : Int) * (h c : Int)) by show _ - ((f c : Int) + (-(k : Int)) * (h c : Int)) = _; grind]
/-- Where the other row is in the kernel, the row less a multiple of it is as the row. -/
theorem lsM_ker {p N : Nat} {f h : Nat → Nat} {k : Nat} {x : Nat → Int} (hp : 0 < p) (hx : (p : Int) ∣ dot N (ci h) x) : (p : Int) ∣ dot N (ci (lsM p f h k)) x ↔ (p : Int) ∣ dot N (ci f) x := by
  have h1 := dot_lin (p := p) (N := N) (r := ci f) (s := ci h) (t := ci (lsM p f h k)) (x := x) (k := -(k : Int)) (fun c _ => lsM_dvd hp)
  rw [dvd_iff_sub h1]
  have h2 : (p : Int) ∣ -(k : Int) * dot N (ci h) x := Int.dvd_mul_of_dvd_right hx
  constructor
  · intro h3; have := Int.dvd_sub h3 h2; rwa [show dot N (ci f) x + -(k : Int) * dot N (ci h) x - -(k : Int) * dot N (ci h) x = dot N (ci f) x by omega] at this
  · intro h3; exact Int.dvd_add h3 h2
/-- A row times a number with an inverse. -/
theorem scale_ker {p N : Nat} {f g : Nat → Nat} {v u : Nat} {x : Nat → Int} (hg : ∀ c, c < N → g c = f c * v % p) (huv : u * v % p = 1) : (p : Int) ∣ dot N (ci g) x ↔ (p : Int) ∣ dot N (ci f) x := by
  have h1 := dot_lin (p := p) (N := N) (r := fun _ => 0) (s := ci f) (t := ci g) (x := x) (k := (v : Int)) (fun c hc => by
    show (p : Int) ∣ ((g c : Nat) : Int) - _
    rw [hg c hc]
    have := emod_dvd (p : Int) ((f c * v : Nat) : Int)
    rw [show (0 : Int) + (v : Int) * ci f c = ((f c * v : Nat) : Int) by show 0 + (v : Int) * (f c : Int) = _; rw [Int.natCast_mul, Int.mul_comm]; omega]
    exact_mod_cast this)
  have e0 : dot N (fun _ => 0) x = 0 := sI_zero fun i _ => by simp
  rw [e0] at h1
  rw [dvd_iff_sub h1]
  constructor
  · intro h2
    have h3 : (p : Int) ∣ (u : Int) * ((v : Int) * dot N (ci f) x) := Int.dvd_mul_of_dvd_right (by simpa using h2)
    have h4 : (p : Int) ∣ ((u * v : Nat) : Int) - 1 := by
      have := emod_dvd (p : Int) ((u * v : Nat) : Int)
      have e : ((u * v : Nat) : Int) % (p : Int) = 1 := by exact_mod_cast huv
      rw [e] at this
      have := Int.dvd_neg.2 this
      rwa [show -(1 - ((u * v : Nat) : Int)) = ((u * v : Nat) : Int) - 1 by omega] at this
    have h5 : (p : Int) ∣ (((u * v : Nat) : Int) - 1) * dot N (ci f) x := Int.dvd_mul_of_dvd_left h4
    have := Int.dvd_sub h3 h5
    rwa [show (u : Int) * ((v : Int) * dot N (ci f) x) - (((u * v : Nat) : Int) - 1) * dot N (ci f) x = dot N (ci f) x by rw [Int.natCast_mul]; grind] at this
  · intro h2; have := Int.dvd_mul_of_dvd_right (b := (v : Int)) h2; simpa using this
/-- Rows with one put in at q. -/
def ins {α : Type} (q : Nat) (g : Nat → α) (o : α) (i : Nat) : α := if i < q then g i else if i = q then o else g (i - 1)
theorem ins_lt {α : Type} {q : Nat} {g : Nat → α} {o : α} {i : Nat} (h : i < q) : ins q g o i = g i := by simp [ins, h]
theorem ins_eq {α : Type} {q : Nat} {g : Nat → α} {o : α} : ins q g o q = o := by simp [ins]
theorem ins_gt {α : Type} {q : Nat} {g : Nat → α} {o : α} {i : Nat} (h : q < i) : ins q g o i = g (i - 1) := by simp [ins, show ¬ i < q by omega, show ¬ i = q by omega]
theorem ins_all {α : Type} {q k : Nat} {g : Nat → α} {o : α} {P : α → Prop} (hq : q ≤ k) : (∀ i, i < k + 1 → P (ins q g o i)) ↔ (∀ i, i < k → P (g i)) ∧ P o := by
  constructor
  · intro h
    refine ⟨fun i hi => ?_, by have := h q (by omega); rwa [ins_eq] at this⟩
    by_cases e : i < q
    · have := h i (by omega); rwa [ins_lt e] at this
    · have := h (i + 1) (by omega); rwa [ins_gt (by omega), Nat.add_sub_cancel] at this
  · intro h i hi
    rcases Nat.lt_trichotomy i q with e | e | e
    · rw [ins_lt e]; exact h.1 i (by omega)
    · subst e; rw [ins_eq]; exact h.2
    · rw [ins_gt e]; exact h.1 (i - 1) (by omega)
structure Fits (p N : Nat) (E : Nat → Nat → Nat) (k : Nat) (ld : Nat → Nat) (o : Nat → Nat) (t q : Nat) : Prop where
  lt : t < N
  one : o t = 1
  left : ∀ c, c < t → o c = 0
  small : ∀ c, c < N → o c < p
  zero : ∀ i, i < k → o (ld i) = 0
  qk : q ≤ k
  lo : ∀ i, i < q → ld i < t
  hi : ∀ i, q ≤ i → i < k → t < ld i
theorem Rref.insert {p N k q t : Nat} {E : Nat → Nat → Nat} {ld o : Nat → Nat} (hp : 0 < p) (h : Rref p N E k ld) (f : Fits p N E k ld o t q) :
    Rref p N (ins q (fun i => lsM p (E i) o (E i t)) o) (k + 1) (ins q ld t) := by
  have hz : ∀ i, i < k → ∀ c, c < N → o c = 0 → lsM p (E i) o (E i t) c = E i c := fun i hi c hc ho => lsM_zero (h.small i hi c hc) ho
  have gat : ∀ i, i < k → lsM p (E i) o (E i t) t = 0 := fun i hi => lsM_one hp f.one
  have gone : ∀ i, i < k → lsM p (E i) o (E i t) (ld i) = 1 := fun i hi => by rw [hz i hi _ (h.lt i hi) (f.zero i hi)]; exact h.one i hi
  have gzero : ∀ i j, i < k → j < k → i ≠ j → lsM p (E j) o (E j t) (ld i) = 0 := fun i j hi hj hne => by rw [hz j hj _ (h.lt i hi) (f.zero i hi)]; exact h.zero i j hi hj hne
  have gleft : ∀ i, i < k → ∀ c, c < ld i → lsM p (E i) o (E i t) c = 0 := by
    intro i hi c hc
    have hlt := h.lt i hi
    by_cases e : i < q
    · rw [hz i hi c (by omega) (f.left c (by have := f.lo i e; omega))]; exact h.left i hi c hc
    · have h1 := f.hi i (by omega) hi
      have : E i t = 0 := h.left i hi t h1
      have e2 := lsM_int (f := E i) (h := o) (k := E i t) (c := c) hp
      rw [this, h.left i hi c hc] at e2
      rw [this]; simp at e2; exact e2
  refine ⟨?_, ?_, ?_, ?_, ?_, ?_⟩
  · intro i hi
    rcases Nat.lt_trichotomy i q with e | e | e
    · rw [ins_lt e]; exact h.lt i (by have := f.qk; omega)
    · subst e; rw [ins_eq]; exact f.lt
    · rw [ins_gt e]; exact h.lt _ (by omega)
  · intro i j hij hj
    have hqk := f.qk
    rcases Nat.lt_trichotomy i q with e | e | e
    · rw [ins_lt e]
      rcases Nat.lt_trichotomy j q with e2 | e2 | e2
      · rw [ins_lt e2]; exact h.mono i j hij (by omega)
      · subst e2; rw [ins_eq]; exact f.lo i e
      · rw [ins_gt e2]
        have h1 := f.lo i e; have h2 := f.hi (j - 1) (by omega) (by omega); omega
    · subst e; rw [ins_eq, ins_gt hij]; exact f.hi (j - 1) (by omega) (by omega)
    · rw [ins_gt e, ins_gt (by omega)]; exact h.mono (i - 1) (j - 1) (by omega) (by omega)
  · intro i hi
    have hqk := f.qk
    rcases Nat.lt_trichotomy i q with e | e | e
    · rw [ins_lt e, ins_lt e]; exact gone i (by omega)
    · subst e; rw [ins_eq, ins_eq]; exact f.one
    · rw [ins_gt e, ins_gt e]; exact gone (i - 1) (by omega)
  · intro i hi c hc
    have hqk := f.qk
    rcases Nat.lt_trichotomy i q with e | e | e
    · rw [ins_lt e] at hc ⊢; exact gleft i (by omega) c hc
    · subst e; rw [ins_eq] at hc ⊢; exact f.left c hc
    · rw [ins_gt e] at hc ⊢; exact gleft (i - 1) (by omega) c hc
  · intro i j hi hj hne
    have hqk := f.qk
    rcases Nat.lt_trichotomy i q with e | e | e <;> rcases Nat.lt_trichotomy j q with e2 | e2 | e2
    · rw [ins_lt e, ins_lt e2]; exact gzero i j (by omega) (by omega) hne
    · subst e2; rw [ins_lt e, ins_eq]; exact f.zero i (by omega)
    · rw [ins_lt e, ins_gt e2]; exact gzero i (j - 1) (by omega) (by omega) (by omega)
    · subst e; rw [ins_eq, ins_lt e2]; exact gat j (by omega)
    · omega
    · subst e; rw [ins_eq, ins_gt e2]; exact gat (j - 1) (by omega)
    · rw [ins_gt e, ins_lt e2]; exact gzero (i - 1) j (by omega) (by omega) (by omega)
    · subst e2; rw [ins_gt e, ins_eq]; exact f.zero (i - 1) (by omega)
    · rw [ins_gt e, ins_gt e2]; exact gzero (i - 1) (j - 1) (by omega) (by omega) (by omega)
  · intro i hi c hc
    have hqk := f.qk
    rcases Nat.lt_trichotomy i q with e | e | e
    · rw [ins_lt e]; exact lsM_lt hp
    · subst e; rw [ins_eq]; exact f.small c hc
    · rw [ins_gt e]; exact lsM_lt hp
theorem ker_insert {p N k q t : Nat} {E : Nat → Nat → Nat} {o : Nat → Nat} {x : Nat → Int} (hp : 0 < p) (hq : q ≤ k) :
    Ker p N (ins q (fun i => lsM p (E i) o (E i t)) o) (k + 1) x ↔ Ker p N E k x ∧ (p : Int) ∣ dot N (ci o) x := by
  unfold Ker
  rw [ins_all (P := fun r => (p : Int) ∣ dot N (ci r) x) hq]
  constructor
  · intro h; exact ⟨fun i hi => (lsM_ker hp h.2).1 (h.1 i hi), h.2⟩
  · intro h; exact ⟨fun i hi => (lsM_ker hp h.2).2 (h.1 i hi), h.2⟩
/-- The number of leading places before t. -/
def below (k : Nat) (ld : Nat → Nat) (t : Nat) : Nat := ((List.range k).find? (fun i => decide (t < ld i))).getD k
theorem below_spec {p N k t : Nat} {E : Nat → Nat → Nat} {ld : Nat → Nat} (h : Rref p N E k ld) (hne : ∀ i, i < k → ld i ≠ t) : below k ld t ≤ k ∧ (∀ i, i < below k ld t → ld i < t) ∧ ∀ i, below k ld t ≤ i → i < k → t < ld i := by
  unfold below
  cases e : (List.range k).find? (fun i => decide (t < ld i)) with
  | none =>
    have := List.find?_eq_none.1 e
    refine ⟨Nat.le_refl _, fun i hi => ?_, fun i h1 h2 => ?_⟩
    · have h3 := this i (by simpa using hi); have := hne i hi; simp at h3; omega
    · simp at h1; omega
  | some j =>
    rw [List.find?_eq_some_iff_append] at e
    obtain ⟨hj, as, bs, hl, has⟩ := e
    have hjk : j < k := by
      have : j ∈ List.range k := by rw [hl]; simp
      simpa using this
    have hlen : as.length = j := by
      have h1 : (List.range k)[as.length]? = some j := by rw [hl]; simp
      rw [List.getElem?_range (by have := congrArg List.length hl; simp at this; omega)] at h1
      exact Option.some.inj h1
    have hlo : ∀ i, i < j → ld i < t := by
      intro i hi
      have h1 : as[i]? = some i := by
        have h2 : (List.range k)[i]? = some i := List.getElem?_range (by omega)
        rw [hl, List.getElem?_append_left (by omega)] at h2; exact h2
      have h3 := has i (List.mem_of_getElem? h1)
      have := hne i (by omega)
      simp at h3; omega
    simp at hj ⊢
    refine ⟨by omega, hlo, fun i h1 h2 => ?_⟩
    by_cases e2 : i = j
    · subst e2; exact hj
    · have := h.mono j i (by omega) h2; omega
/-- Own row: what is left when rows were taken from it. -/
structure Own (p N : Nat) (E : Nat → Nat → Nat) (k : Nat) (ld r o : Nat → Nat) (j : Nat) : Prop where
  small : ∀ c, c < N → o c < p
  zero : ∀ i, i < j → o (ld i) = 0
  ker : ∀ x, Ker p N E k x → ((p : Int) ∣ dot N (ci o) x ↔ (p : Int) ∣ dot N (ci r) x)
theorem Own.step {p N k j : Nat} {E : Nat → Nat → Nat} {ld r o : Nat → Nat} (hp : 0 < p) (h : Rref p N E k ld) (ho : Own p N E k ld r o j) (hj : j < k) : Own p N E k ld r (lsM p o (E j) (o (ld j))) (j + 1) := by
  refine ⟨fun c _ => lsM_lt hp, fun i hi => ?_, fun x hx => ?_⟩
  · by_cases e : i = j
    · subst e; exact lsM_one hp (h.one i hj)
    · rw [lsM_zero (ho.small _ (h.lt i (by omega))) (h.zero i j (by omega) hj e)]; exact ho.zero i (by omega)
  · rw [lsM_ker hp (hx j hj)]; exact ho.ker x hx
theorem Ker.snoc {p N m : Nat} {M : Nat → Nat → Nat} {x : Nat → Int} : Ker p N M (m + 1) x ↔ Ker p N M m x ∧ (p : Int) ∣ dot N (ci (M m)) x := by
  constructor
  · intro h; exact ⟨fun i hi => h i (by omega), h m (by omega)⟩
  · intro h i hi
    by_cases e : i = m
    · subst e; exact h.2
    · exact h.1 i (by omega)
/-- A row that is 0 says nothing. -/
theorem dot_zero {p N : Nat} {o : Nat → Nat} {x : Nat → Int} (h : ∀ c, c < N → o c = 0) : (p : Int) ∣ dot N (ci o) x := by
  have : dot N (ci o) x = 0 := sI_zero fun i hi => by simp [ci, h i hi]
  rw [this]; exact Int.dvd_zero _
end Go.Ech

/-! Elimination in place: plain lemmas, no program. -/
namespace Go.Ech
def upE {α : Type} (f : Nat → α) (m : Nat) (x : α) (i : Nat) : α := if i = m then x else f i
def sw {α : Type} (a b : Nat) (f : Nat → α) (i : Nat) : α := if i = a then f b else if i = b then f a else f i
/-- The first d rows of m are reduced, and the others are 0 up to their leading places. -/
structure Red (p N m : Nat) (M : Nat → Nat → Nat) (d : Nat) (ld : Nat → Nat) : Prop where
  lt : ∀ i, i < d → ld i < N
  mono : ∀ i j, i < j → j < d → ld i < ld j
  one : ∀ i, i < d → M i (ld i) = 1
  left : ∀ i, i < d → ∀ c, c < ld i → M i c = 0
  zero : ∀ i j, i < d → j < m → i ≠ j → M j (ld i) = 0
  low : ∀ i, i < d → ∀ j, d ≤ j → j < m → ∀ c, c ≤ ld i → M j c = 0
theorem Red.start {p N m : Nat} {M : Nat → Nat → Nat} {ld : Nat → Nat} : Red p N m M 0 ld :=
  ⟨fun i hi => absurd hi (by omega), fun i j _ hi => absurd hi (by omega), fun i hi => absurd hi (by omega), fun i hi => absurd hi (by omega), fun i j hi => absurd hi (by omega), fun i hi => absurd hi (by omega)⟩
theorem Red.swap {p N m d a b : Nat} {M : Nat → Nat → Nat} {ld : Nat → Nat} (h : Red p N m M d ld) (ha : d ≤ a) (hb : d ≤ b) (ha2 : a < m) (hb2 : b < m) (hdm : d ≤ m) : Red p N m (sw a b M) d ld := by
  have e : ∀ i, i < d → sw a b M i = M i := fun i hi => by unfold sw; rw [if_neg (by omega), if_neg (by omega)]
  refine ⟨h.lt, h.mono, fun i hi => by rw [e i hi]; exact h.one i hi, fun i hi c hc => by rw [e i hi]; exact h.left i hi c hc, fun i j hi hj hne => ?_, fun i hi j hj hjm c hc => ?_⟩
  · unfold sw; split
    · exact h.zero i b hi hb2 (by omega)
    · split
      · exact h.zero i a hi ha2 (by omega)
      · exact h.zero i j hi hj hne
  · unfold sw; split
    · exact h.low i hi b hb hb2 c hc
    · split
      · exact h.low i hi a ha ha2 c hc
      · exact h.low i hi j hj hjm c hc
theorem ker_swap {p N m a b : Nat} {M : Nat → Nat → Nat} {x : Nat → Int} (ha : a < m) (hb : b < m) : Ker p N (sw a b M) m x ↔ Ker p N M m x := by
  have half : ∀ {M : Nat → Nat → Nat}, Ker p N M m x → Ker p N (sw a b M) m x := by
    intro M h i hi
    unfold sw; split
    · exact h b hb
    · split
      · exact h a ha
      · exact h i hi
  refine ⟨fun h => ?_, half⟩
  have h2 := half h
  have : sw a b (sw a b M) = M := by
    funext i
    unfold sw
    by_cases e1 : i = a
    · subst e1; simp; intro e; rw [e]
    · by_cases e2 : i = b
      · subst e2; simp [e1]
      · simp [e1, e2]
  rwa [this] at h2
/-- The rows when one elimination is done. -/
def elimM (p : Nat) (M : Nat → Nat → Nat) (d t : Nat) (sc : Nat → Nat) (i : Nat) : Nat → Nat := if i = d then sc else lsM p (M i) sc (M i t)
theorem Red.step {p N m d t : Nat} {M : Nat → Nat → Nat} {ld sc : Nat → Nat} {v : Nat} (hp : 0 < p) (h : Red p N m M d ld) (hM1 : ∀ i c, M i c < p) (hd : d < m) (ht : t < N) (h0 : M d t ≠ 0) (hmin : ∀ j, d ≤ j → j < m → ∀ c, c < t → M j c = 0)
    (hsc : ∀ c, sc c = M d c * v % p) (h1 : M d t * v % p = 1) : Red p N m (elimM p M d t sc) (d + 1) (upE ld d t) := by
  have hsc1 : sc t = 1 := by rw [hsc]; exact h1
  have hsc0 : ∀ c, M d c = 0 → sc c = 0 := fun c hc => by rw [hsc, hc]; simp
  have hlt : ∀ i, i < d → ld i < t := fun i hi => by
    rcases Nat.lt_or_ge (ld i) t with hh | hh
    · exact hh
    · exact absurd (h.low i hi d (Nat.le_refl _) hd t hh) h0
  have keep : ∀ i, i ≠ d → ∀ c, sc c = 0 → elimM p M d t sc i c = M i c := fun i hi c hc => by unfold elimM; rw [if_neg hi]; exact lsM_zero (hM1 i c) hc
  have sct : ∀ c, c < t → sc c = 0 := fun c hc => hsc0 c (hmin d (Nat.le_refl _) hd c hc)
  have piv : elimM p M d t sc d = sc := by unfold elimM; simp
  have col : ∀ i, i ≠ d → elimM p M d t sc i t = 0 := fun i hi => by unfold elimM; rw [if_neg hi]; exact lsM_one hp hsc1
  refine ⟨fun i hi => ?_, fun i j hij hj => ?_, fun i hi => ?_, fun i hi c hc => ?_, fun i j hi hj hne => ?_, fun i hi j hj hjm c hc => ?_⟩
  · unfold upE; split
    · exact ht
    · exact h.lt i (by omega)
  · unfold upE
    rw [if_neg (show i ≠ d by omega)]
    split
    · exact hlt i (by omega)
    · exact h.mono i j hij (by omega)
  · unfold upE; split
    · rename_i e; rw [e, piv]; exact hsc1
    · rename_i e; rw [keep i e _ (sct _ (hlt i (by omega)))]; exact h.one i (by omega)
  · unfold upE at hc; split at hc
    · rename_i e; rw [e, piv]; exact sct c hc
    · rename_i e
      have := hlt i (by omega)
      rw [keep i e c (sct c (by omega))]; exact h.left i (by omega) c hc
  · unfold upE; split
    · rename_i e; exact col j (by omega)
    · rename_i e
      by_cases ej : j = d
      · rw [ej, piv]; exact sct _ (hlt i (by omega))
      · rw [keep j ej _ (sct _ (hlt i (by omega)))]; exact h.zero i j (by omega) hj hne
  · unfold upE at hc; split at hc
    · rename_i e
      by_cases ec : c = t
      · rw [ec]; exact col j (by omega)
      · rw [keep j (by omega) c (sct c (by omega))]; exact hmin j (by omega) hjm c (by omega)
    · rename_i e
      have := hlt i (by omega)
      rw [keep j (by omega) c (sct c (by omega))]; exact h.low i (by omega) j (by omega) hjm c hc
theorem elim_ker {p N m d t : Nat} {M : Nat → Nat → Nat} {sc : Nat → Nat} {v : Nat} {x : Nat → Int} (hp : 0 < p) (hd : d < m) (hsc : ∀ c, sc c = M d c * v % p) (h1 : M d t * v % p = 1) : Ker p N (elimM p M d t sc) m x ↔ Ker p N M m x := by
  have hs := scale_ker (p := p) (N := N) (f := M d) (g := sc) (v := v) (u := M d t) (x := x) (fun c _ => hsc c) h1
  constructor
  · intro h
    have hd' := h d hd
    unfold elimM at hd'; rw [if_pos rfl] at hd'
    intro i hi
    by_cases e : i = d
    · rw [e]; exact hs.1 hd'
    · have := h i hi
      unfold elimM at this; rw [if_neg e] at this
      exact (lsM_ker hp hd').1 this
  · intro h i hi
    have hd' := hs.2 (h d hd)
    unfold elimM; split
    · exact hd'
    · exact (lsM_ker hp hd').2 (h i hi)
theorem Red.done {p N m : Nat} {M : Nat → Nat → Nat} {d : Nat} {ld : Nat → Nat} (h : Red p N m M d ld) (hM1 : ∀ i c, M i c < p) (hdm : d ≤ m) : Rref p N M d ld :=
  ⟨h.lt, h.mono, h.one, h.left, fun i j hi hj hne => h.zero i j hi (by omega) hne, fun i _ c _ => hM1 i c⟩
theorem ker_cut {p N m d : Nat} {M : Nat → Nat → Nat} {x : Nat → Int} (hdm : d ≤ m) (hz : ∀ j, d ≤ j → j < m → ∀ c, c < N → M j c = 0) : Ker p N M d x ↔ Ker p N M m x := by
  constructor
  · intro h i hi
    by_cases e : i < d
    · exact h i e
    · exact dot_zero (hz i (by omega) hi)
  · intro h i hi; exact h i (by omega)
end Go.Ech
