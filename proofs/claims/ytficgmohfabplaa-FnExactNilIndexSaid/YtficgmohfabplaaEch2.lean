/- Plain lemmas of a small calculus for walks over frames and own memory; no statement of the seat is proved here. -/
import Derived.Test.YtficgmohfabplaaEch
set_option linter.unusedVariables false
set_option linter.unusedSimpArgs false
/-! Steps of eliminations: plain lemmas, no program. -/
namespace Go.Ech
def primeN (p : Nat) : Prop := p = 2 ∨ p = 3 ∨ p = 5 ∨ p = 7 ∨ p = 11 ∨ p = 13
theorem primeN.two {p : Nat} (h : primeN p) : 2 ≤ p := by unfold primeN at h; omega
theorem primeN.le {p : Nat} (h : primeN p) : p ≤ 13 := by unfold primeN at h; omega
/-- x less k times y, modulo p. -/
def lsM (p : Nat) (f h : Nat → Nat) (k c : Nat) : Nat := (((f c : Int) - (k : Int) * (h c : Int)) % (p : Int)).toNat
theorem lsM_int {p : Nat} {f h : Nat → Nat} {k c : Nat} (hp : 0 < p) : ((lsM p f h k c : Nat) : Int) = ((f c : Int) - (k : Int) * (h c : Int)) % (p : Int) :=
  Int.toNat_of_nonneg (Int.emod_nonneg _ (by omega))
theorem lsM_lt {p : Nat} {f h : Nat → Nat} {k c : Nat} (hp : 0 < p) : lsM p f h k c < p := by
  have := Int.emod_lt_of_pos ((f c : Int) - (k : Int) * (h c : Int)) (show (0 : Int) < p by omega)
  have e := lsM_int (f := f) (h := h) (k := k) (c := c) hp
  omega
theorem lsM_zero {p : Nat} {f h : Nat → Nat} {k c : Nat} (hf : f c < p) (hh : h c = 0) : lsM p f h k c = f c := by
  have e := lsM_int (f := f) (h := h) (k := k) (c := c) (show 0 < p by omega)
  rw [hh] at e
  rw [show (f c : Int) - (k : Int) * ((0 : Nat) : Int) = f c by simp, Int.emod_eq_of_lt (by omega) (by omega)] at e
  omega
theorem lsM_one {p : Nat} {f h : Nat → Nat} {c : Nat} (hp : 0 < p) (hh : h c = 1) : lsM p f h (f c) c = 0 := by
  have e := lsM_int (f := f) (h := h) (k := f c) (c := c) hp
  rw [hh, show (f c : Int) - (f c : Int) * ((1 : Nat) : Int) = 0 by omega, Int.zero_emod] at e
  omega
theorem emod_dvd (p x : Int) : p ∣ x % p - x := ⟨-(x / p), by have := Int.mul_ediv_add_emod x p; grind⟩
theorem lsM_dvd {p : Nat} {f h : Nat → Nat} {k c : Nat} (hp : 0 < p) : (p : Int) ∣ ci (lsM p f h k) c - (ci f c + (-(k : Int)) * ci h c) := by
  show (p : Int) ∣ ((lsM p f h k c : Nat) : Int) - _
  rw [lsM_int hp]
  have := emod_dvd (p : Int) ((f c : Int) - (k : Int) * (h c : Int))
  rwa [show ((f c : Int) - (k : Int) * (h c : Int)) % (p : Int) - (ci f c + (-(k : Int)) * ci h c) = ((f c : Int) - (k : Int) * (h c : Int)) % (p : Int) - ((f c : Int) - (k : Int) * (h c : Int)) by show _ - ((f c : Int) + (-(k : Int)) * (h c : Int)) = _; grind]
/-- Where the other row is in the kernel, the row less a multiple of it is as the row. -/
theorem lsM_ker {p N : Nat} {f h : Nat → Nat} {k : Nat} {x : Nat → Int} (hp : 0 < p) (hx : (p : Int) ∣ dot N (ci h) x) : (p : Int) ∣ dot N (ci (lsM p f h k)) x ↔ (p : Int) ∣ dot N (ci f) x := by
  have h1 := dot_lin (p := p) (N := N) (r := ci f) (s := ci h) (t := ci (lsM p f h k)) (x := x) (k := -(k : Int)) (fun c _ => lsM_dvd hp)
  rw [dvd_iff_sub h1]
  have h2 : (p : Int) ∣ -(k : Int) * dot N (ci h) x := Int.dvd_mul_of_dvd_right hx
  constructor
  · intro h3; have := Int.dvd_sub h3 h2; rwa [show dot N (ci f) x + -(k : Int) * dot N (ci h) x - -(k : Int) * dot N (ci h) x = dot N (ci f) x by omega] at this
  · intro h3; exact Int.dvd_add h3 h2
/-- A row times a number with an inverse. -/
theorem scale_ker {p N : Nat} {f g : Nat → Nat} {v u : Nat} {x : Nat → Int} (hg : ∀ c, c < N → g c = f c * v % p) (huv : u * v % p = 1) : (p : Int) ∣ dot N (ci g) x ↔ (p : Int) ∣ dot N (ci f) x := by
  have h1 := dot_lin (p := p) (N := N) (r := fun _ => 0) (s := ci f) (t := ci g) (x := x) (k := (v : Int)) (fun c hc => by
    show (p : Int) ∣ ((g c : Nat) : Int) - _
    rw [hg c hc]
    have := emod_dvd (p : Int) ((f c * v : Nat) : Int)
    rw [show (0 : Int) + (v : Int) * ci f c = ((f c * v : Nat) : Int) by show 0 + (v : Int) * (f c : Int) = _; rw [Int.natCast_mul, Int.mul_comm]; omega]
    exact_mod_cast this)
  have e0 : dot N (fun _ => 0) x = 0 := sI_zero fun i _ => by simp
  rw [e0] at h1
  rw [dvd_iff_sub h1]
  constructor
  · intro h2
    have h3 : (p : Int) ∣ (u : Int) * ((v : Int) * dot N (ci f) x) := Int.dvd_mul_of_dvd_right (by simpa using h2)
    have h4 : (p : Int) ∣ ((u * v : Nat) : Int) - 1 := by
      have := emod_dvd (p : Int) ((u * v : Nat) : Int)
      have e : ((u * v : Nat) : Int) % (p : Int) = 1 := by exact_mod_cast huv
      rw [e] at this
      have := Int.dvd_neg.2 this
      rwa [show -(1 - ((u * v : Nat) : Int)) = ((u * v : Nat) : Int) - 1 by omega] at this
    have h5 : (p : Int) ∣ (((u * v : Nat) : Int) - 1) * dot N (ci f) x := Int.dvd_mul_of_dvd_left h4
    have := Int.dvd_sub h3 h5
    rwa [show (u : Int) * ((v : Int) * dot N (ci f) x) - (((u * v : Nat) : Int) - 1) * dot N (ci f) x = dot N (ci f) x by rw [Int.natCast_mul]; grind] at this
  · intro h2; have := Int.dvd_mul_of_dvd_right (b := (v : Int)) h2; simpa using this
/-- Rows with one put in at q. -/
def ins {α : Type} (q : Nat) (g : Nat → α) (o : α) (i : Nat) : α := if i < q then g i else if i = q then o else g (i - 1)
theorem ins_lt {α : Type} {q : Nat} {g : Nat → α} {o : α} {i : Nat} (h : i < q) : ins q g o i = g i := by simp [ins, h]
theorem ins_eq {α : Type} {q : Nat} {g : Nat → α} {o : α} : ins q g o q = o := by simp [ins]
theorem ins_gt {α : Type} {q : Nat} {g : Nat → α} {o : α} {i : Nat} (h : q < i) : ins q g o i = g (i - 1) := by simp [ins, show ¬ i < q by omega, show ¬ i = q by omega]
theorem ins_all {α : Type} {q k : Nat} {g : Nat → α} {o : α} {P : α → Prop} (hq : q ≤ k) : (∀ i, i < k + 1 → P (ins q g o i)) ↔ (∀ i, i < k → P (g i)) ∧ P o := by
  constructor
  · intro h
    refine ⟨fun i hi => ?_, by have := h q (by omega); rwa [ins_eq] at this⟩
    by_cases e : i < q
    · have := h i (by omega); rwa [ins_lt e] at this
    · have := h (i + 1) (by omega); rwa [ins_gt (by omega), Nat.add_sub_cancel] at this
  · intro h i hi
    rcases Nat.lt_trichotomy i q with e | e | e
    · rw [ins_lt e]; exact h.1 i (by omega)
    · subst e; rw [ins_eq]; exact h.2
    · rw [ins_gt e]; exact h.1 (i - 1) (by omega)
structure Fits (p N : Nat) (E : Nat → Nat → Nat) (k : Nat) (ld : Nat → Nat) (o : Nat → Nat) (t q : Nat) : Prop where
  lt : t < N
  one : o t = 1
  left : ∀ c, c < t → o c = 0
  small : ∀ c, c < N → o c < p
  zero : ∀ i, i < k → o (ld i) = 0
  qk : q ≤ k
  lo : ∀ i, i < q → ld i < t
  hi : ∀ i, q ≤ i → i < k → t < ld i
theorem Rref.insert {p N k q t : Nat} {E : Nat → Nat → Nat} {ld o : Nat → Nat} (hp : 0 < p) (h : Rref p N E k ld) (f : Fits p N E k ld o t q) :
    Rref p N (ins q (fun i => lsM p (E i) o (E i t)) o) (k + 1) (ins q ld t) := by
  have hz : ∀ i, i < k → ∀ c, c < N → o c = 0 → lsM p (E i) o (E i t) c = E i c := fun i hi c hc ho => lsM_zero (h.small i hi c hc) ho
  have gat : ∀ i, i < k → lsM p (E i) o (E i t) t = 0 := fun i hi => lsM_one hp f.one
  have gone : ∀ i, i < k → lsM p (E i) o (E i t) (ld i) = 1 := fun i hi => by rw [hz i hi _ (h.lt i hi) (f.zero i hi)]; exact h.one i hi
  have gzero : ∀ i j, i < k → j < k → i ≠ j → lsM p (E j) o (E j t) (ld i) = 0 := fun i j hi hj hne => by rw [hz j hj _ (h.lt i hi) (f.zero i hi)]; exact h.zero i j hi hj hne
  have gleft : ∀ i, i < k → ∀ c, c < ld i → lsM p (E i) o (E i t) c = 0 := by
    intro i hi c hc
    have hlt := h.lt i hi
    by_cases e : i < q
    · rw [hz i hi c (by omega) (f.left c (by have := f.lo i e; omega))]; exact h.left i hi c hc
    · have h1 := f.hi i (by omega) hi
      have : E i t = 0 := h.left i hi t h1
      have e2 := lsM_int (f := E i) (h := o) (k := E i t) (c := c) hp
      rw [this, h.left i hi c hc] at e2
      rw [this]; simp at e2; exact e2
  refine ⟨?_, ?_, ?_, ?_, ?_, ?_⟩
  · intro i hi
    rcases Nat.lt_trichotomy i q with e | e | e
    · rw [ins_lt e]; exact h.lt i (by have := f.qk; omega)
    · subst e; rw [ins_eq]; exact f.lt
    · rw [ins_gt e]; exact h.lt _ (by omega)
  · intro i j hij hj
    have hqk := f.qk
    rcases Nat.lt_trichotomy i q with e | e | e
    · rw [ins_lt e]
      rcases Nat.lt_trichotomy j q with e2 | e2 | e2
      · rw [ins_lt e2]; exact h.mono i j hij (by omega)
      · subst e2; rw [ins_eq]; exact f.lo i e
      · rw [ins_gt e2]
        have h1 := f.lo i e; have h2 := f.hi (j - 1) (by omega) (by omega); omega
    · subst e; rw [ins_eq, ins_gt hij]; exact f.hi (j - 1) (by omega) (by omega)
    · rw [ins_gt e, ins_gt (by omega)]; exact h.mono (i - 1) (j - 1) (by omega) (by omega)
  · intro i hi
    have hqk := f.qk
    rcases Nat.lt_trichotomy i q with e | e | e
    · rw [ins_lt e, ins_lt e]; exact gone i (by omega)
    · subst e; rw [ins_eq, ins_eq]; exact f.one
    · rw [ins_gt e, ins_gt e]; exact gone (i - 1) (by omega)
  · intro i hi c hc
    have hqk := f.qk
    rcases Nat.lt_trichotomy i q with e | e | e
    · rw [ins_lt e] at hc ⊢; exact gleft i (by omega) c hc
    · subst e; rw [ins_eq] at hc ⊢; exact f.left c hc
    · rw [ins_gt e] at hc ⊢; exact gleft (i - 1) (by omega) c hc
  · intro i j hi hj hne
    have hqk := f.qk
    rcases Nat.lt_trichotomy i q with e | e | e <;> rcases Nat.lt_trichotomy j q with e2 | e2 | e2
    · rw [ins_lt e, ins_lt e2]; exact gzero i j (by omega) (by omega) hne
    · subst e2; rw [ins_lt e, ins_eq]; exact f.zero i (by omega)
    · rw [ins_lt e, ins_gt e2]; exact gzero i (j - 1) (by omega) (by omega) (by omega)
    · subst e; rw [ins_eq, ins_lt e2]; exact gat j (by omega)
    · omega
    · subst e; rw [ins_eq, ins_gt e2]; exact gat (j - 1) (by omega)
    · rw [ins_gt e, ins_lt e2]; exact gzero (i - 1) j (by omega) (by omega) (by omega)
    · subst e2; rw [ins_gt e, ins_eq]; exact f.zero (i - 1) (by omega)
    · rw [ins_gt e, ins_gt e2]; exact gzero (i - 1) (j - 1) (by omega) (by omega) (by omega)
  · intro i hi c hc
    have hqk := f.qk
    rcases Nat.lt_trichotomy i q with e | e | e
    · rw [ins_lt e]; exact lsM_lt hp
    · subst e; rw [ins_eq]; exact f.small c hc
    · rw [ins_gt e]; exact lsM_lt hp
theorem ker_insert {p N k q t : Nat} {E : Nat → Nat → Nat} {o : Nat → Nat} {x : Nat → Int} (hp : 0 < p) (hq : q ≤ k) :
    Ker p N (ins q (fun i => lsM p (E i) o (E i t)) o) (k + 1) x ↔ Ker p N E k x ∧ (p : Int) ∣ dot N (ci o) x := by
  unfold Ker
  rw [ins_all (P := fun r => (p : Int) ∣ dot N (ci r) x) hq]
  constructor
  · intro h; exact ⟨fun i hi => (lsM_ker hp h.2).1 (h.1 i hi), h.2⟩
  · intro h; exact ⟨fun i hi => (lsM_ker hp h.2).2 (h.1 i hi), h.2⟩
/-- The number of leading places before t. -/
def below (k : Nat) (ld : Nat → Nat) (t : Nat) : Nat := ((List.range k).find? (fun i => decide (t < ld i))).getD k
theorem below_spec {p N k t : Nat} {E : Nat → Nat → Nat} {ld : Nat → Nat} (h : Rref p N E k ld) (hne : ∀ i, i < k → ld i ≠ t) : below k ld t ≤ k ∧ (∀ i, i < below k ld t → ld i < t) ∧ ∀ i, below k ld t ≤ i → i < k → t < ld i := by
  unfold below
  cases e : (List.range k).find? (fun i => decide (t < ld i)) with
  | none =>
    have := List.find?_eq_none.1 e
    refine ⟨Nat.le_refl _, fun i hi => ?_, fun i h1 h2 => ?_⟩
    · have h3 := this i (by simpa using hi); have := hne i hi; simp at h3; omega
    · simp at h1; omega
  | some j =>
    rw [List.find?_eq_some_iff_append] at e
    obtain ⟨hj, as, bs, hl, has⟩ := e
    have hjk : j < k := by
      have : j ∈ List.range k := by rw [hl]; simp
      simpa using this
    have hlen : as.length = j := by
      have h1 : (List.range k)[as.length]? = some j := by rw [hl]; simp
      rw [List.getElem?_range (by have := congrArg List.length hl; simp at this; omega)] at h1
      exact Option.some.inj h1
    have hlo : ∀ i, i < j → ld i < t := by
      intro i hi
      have h1 : as[i]? = some i := by
        have h2 : (List.range k)[i]? = some i := List.getElem?_range (by omega)
        rw [hl, List.getElem?_append_left (by omega)] at h2; exact h2
      have h3 := has i (List.mem_of_getElem? h1)
      have := hne i (by omega)
      simp at h3; omega
    simp at hj ⊢
    refine ⟨by omega, hlo, fun i h1 h2 => ?_⟩
    by_cases e2 : i = j
    · subst e2; exact hj
    · have := h.mono j i (by omega) h2; omega
/-- Own row: what is left when rows were taken from it. -/
structure Own (p N : Nat) (E : Nat → Nat → Nat) (k : Nat) (ld r o : Nat → Nat) (j : Nat) : Prop where
  small : ∀ c, c < N → o c < p
  zero : ∀ i, i < j → o (ld i) = 0
  ker : ∀ x, Ker p N E k x → ((p : Int) ∣ dot N (ci o) x ↔ (p : Int) ∣ dot N (ci r) x)
theorem Own.step {p N k j : Nat} {E : Nat → Nat → Nat} {ld r o : Nat → Nat} (hp : 0 < p) (h : Rref p N E k ld) (ho : Own p N E k ld r o j) (hj : j < k) : Own p N E k ld r (lsM p o (E j) (o (ld j))) (j + 1) := by
  refine ⟨fun c _ => lsM_lt hp, fun i hi => ?_, fun x hx => ?_⟩
  · by_cases e : i = j
    · subst e; exact lsM_one hp (h.one i hj)
    · rw [lsM_zero (ho.small _ (h.lt i (by omega))) (h.zero i j (by omega) hj e)]; exact ho.zero i (by omega)
  · rw [lsM_ker hp (hx j hj)]; exact ho.ker x hx
theorem Ker.snoc {p N m : Nat} {M : Nat → Nat → Nat} {x : Nat → Int} : Ker p N M (m + 1) x ↔ Ker p N M m x ∧ (p : Int) ∣ dot N (ci (M m)) x := by
  constructor
  · intro h; exact ⟨fun i hi => h i (by omega), h m (by omega)⟩
  · intro h i hi
    by_cases e : i = m
    · subst e; exact h.2
    · exact h.1 i (by omega)
/-- A row that is 0 says nothing. -/
theorem dot_zero {p N : Nat} {o : Nat → Nat} {x : Nat → Int} (h : ∀ c, c < N → o c = 0) : (p : Int) ∣ dot N (ci o) x := by
  have : dot N (ci o) x = 0 := sI_zero fun i hi => by simp [ci, h i hi]
  rw [this]; exact Int.dvd_zero _
end Go.Ech
