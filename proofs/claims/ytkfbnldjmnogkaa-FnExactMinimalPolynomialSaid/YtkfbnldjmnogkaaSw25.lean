/- Plain lemmas of a small calculus for walks over frames and own memory; no statement of the seat is proved here. -/
import Derived.Test.YtkfbnldjmnogkaaEch11
import Derived.Test.YtkfbnldjmnogkaaEch3
import Derived.Test.YtkfbnldjmnogkaaEch5
import Derived.Laws.CopyRow
set_option linter.unusedVariables false
set_option linter.unusedSimpArgs false
namespace Go.Ech
open Go.Sw
/-! ### Minimal polynomials: the first power that is a sum of those before it. -/
theorem sI_cut {f : Nat → Int} {a : Nat} : ∀ {b : Nat}, a ≤ b → sI (fun i => if i < a then f i else 0) b = sI f a
  | 0, h => by obtain rfl : a = 0 := by omega
               rfl
  | b + 1, h => by
    by_cases e : a = b + 1
    · subst e; exact sI_congr fun i hi => by rw [if_pos hi]
    · show sI (fun i => if i < a then f i else 0) b + (if b < a then f b else 0) = _
      rw [sI_cut (show a ≤ b by omega), if_neg (by omega), Int.add_zero]
def Ind (p n : Nat) (P : Nat → Nat → Nat) (d : Nat) : Prop := ∀ x : Nat → Int, (∀ c, c < n → (p : Int) ∣ sI (fun i => x i * (P i c : Int)) d) → ∀ i, i < d → (p : Int) ∣ x i
theorem Ind.mono {p n d a : Nat} {P : Nat → Nat → Nat} (h : Ind p n P d) (ha : a ≤ d) : Ind p n P a := by
  intro x hx i hi;have := h (fun i => if i < a then x i else 0) (fun c hc => by
    rw [sI_congr (g := fun i => if i < a then x i * (P i c : Int) else 0) (fun i _ => by split <;> simp), sI_cut ha];exact hx c hc) i (by omega)
  simpa only [if_pos hi] using this
theorem ind_size {p n : Nat} {P : Nat → Nat → Nat} (hp : primeN p) (hP : ∀ i c, P i c < p) : ¬ Ind p n P (n + 1) := by
  intro h;have hp2 := hp.two;obtain ⟨x, ⟨c, hc, hx⟩, hK⟩ := dep (p := p) (N := n + 1) (m := n) (M := fun i j => P j i) hp (fun i j => hP j i) (by omega);refine hx (h x (fun c hc => ?_) c hc);have := hK c hc
  unfold dot ci at this
  rwa [sI_congr (g := fun j => x j * (P j c : Int)) (fun j _ => Int.mul_comm _ _)] at this
theorem ind_lt {p n d : Nat} {P : Nat → Nat → Nat} (hp : primeN p) (hP : ∀ i c, P i c < p) (h : Ind p n P d) : d ≤ n :=
  Nat.le_of_not_lt fun hlt => ind_size hp hP (h.mono (show n + 1 ≤ d from hlt))
structure MinP (p n : Nat) (P : Nat → Nat → Nat) (d : Nat) (B : Nat → Nat) : Prop where
  pos : 0 < d
  ind : Ind p n P d
  small : ∀ i, B i < p
  one : B d = 1
  rel : ∀ c, c < n → (p : Int) ∣ sI (fun i => (B i : Int) * (P i c : Int)) (d + 1)
theorem MinP.eq {p n d0 d : Nat} {P : Nat → Nat → Nat} {B0 : Nat → Nat} (hp : 2 ≤ p) (h : MinP p n P d0 B0) {y : Nat → Int} (hd : d ≤ d0) (h1 : (p : Int) ∣ y d - 1) (hr : ∀ c, c < n → (p : Int) ∣ sI (fun i => y i * (P i c : Int)) (d + 1)) : d = d0 ∧ ∀ i, i < d0 + 1 → (p : Int) ∣ y i - (B0 i : Int) := by
  have e : d = d0 := by
    apply Classical.byContradiction
    intro hne;have h2 := (h.ind.mono (show d + 1 ≤ d0 by omega)) y hr d (by omega);have h3 := Int.dvd_sub h2 h1;rw [show y d - (y d - 1) = 1 by omega] at h3;have := Int.le_of_dvd (by omega) h3
    omega
  subst e;refine ⟨rfl, ?_⟩;have h4 : (p : Int) ∣ y d - (B0 d : Int) := by rw [h.one]; exact h1
  have h5 := h.ind (fun i => y i - (B0 i : Int)) (fun c hc => by
    have a1 := Int.dvd_sub (hr c hc) (h.rel c hc);rw [sI_sub] at a1;have a2 : sI (fun i => y i * (P i c : Int) - (B0 i : Int) * (P i c : Int)) (d + 1) = sI (fun i => (y i - (B0 i : Int)) * (P i c : Int)) d + (y d - (B0 d : Int)) * (P d c : Int) := by
      rw [sI_congr (g := fun i => (y i - (B0 i : Int)) * (P i c : Int)) (fun i _ => (Int.sub_mul _ _ _).symm)]; rfl
    rw [a2] at a1;have a3 := Int.dvd_sub a1 (Int.dvd_mul_of_dvd_left (c := (P d c : Int)) h4)
    rwa [Int.add_sub_cancel] at a3)
  intro i hi
  by_cases e : i = d
  · rw [e]; exact h4
  · exact h5 i (by omega)
theorem minP_exists {p n : Nat} {P : Nat → Nat → Nat} (hp : primeN p) (hP : ∀ i c, P i c < p) (h0 : ∃ c, c < n ∧ P 0 c ≠ 0) : ∃ d B, MinP p n P d B := by
  have hp2 := hp.two;have key : ∀ m, ¬ Ind p n P m → ∃ d, Ind p n P d ∧ ¬ Ind p n P (d + 1) := by
    intro m
    induction m with
    | zero => intro h; exact absurd (fun x _ i hi => absurd hi (by omega)) h
    | succ m ih =>
      intro h
      by_cases e : Ind p n P m
      · exact ⟨m, e, h⟩
      · exact ih e
  obtain ⟨d, hd, hn⟩ := key _ (ind_size hp hP);have hx : ∃ x : Nat → Int, (∀ c, c < n → (p : Int) ∣ sI (fun i => x i * (P i c : Int)) (d + 1)) ∧ ¬ (p : Int) ∣ x d := by
    apply Classical.byContradiction
    intro hno;refine hn fun x hx => ?_;have hxd : (p : Int) ∣ x d := Classical.byContradiction fun hc => hno ⟨x, hx, hc⟩;have hlow := hd x (fun c hc => by
      have := Int.dvd_sub (hx c hc) (Int.dvd_mul_of_dvd_left (c := (P d c : Int)) hxd);have e : sI (fun i => x i * (P i c : Int)) (d + 1) = sI (fun i => x i * (P i c : Int)) d + x d * (P d c : Int) := rfl
      rwa [e, Int.add_sub_cancel] at this)
    intro i hi
    by_cases e : i = d
    · rw [e]; exact hxd
    · exact hlow i (by omega)
  obtain ⟨x, hx, hxd⟩ := hx;have hm0 := Int.emod_nonneg (x d) (show (p : Int) ≠ 0 by omega);have hm1 := Int.emod_lt_of_pos (x d) (show (0 : Int) < p by omega);obtain ⟨q, hq⟩ : ∃ q : Nat, x d % (p : Int) = (q : Int) := ⟨(x d % (p : Int)).toNat, by omega⟩;have hq0 : q ≠ 0 := by
    intro e; subst e;exact hxd (Int.dvd_of_emod_eq_zero (by omega))
  obtain ⟨v, hv⟩ := inv_ex hp (show q < p by omega) hq0;have hxv : (p : Int) ∣ x d * (v : Int) - 1 := by
    have a1 : (p : Int) ∣ x d - (q : Int) := by rw [← hq]; have := Int.dvd_neg.2 (emod_dvd (p : Int) (x d)); rwa [show -(x d % (p : Int) - x d) = x d - x d % (p : Int) by omega] at this
    have a2 : (p : Int) ∣ ((q * v : Nat) : Int) - ((1 : Nat) : Int) := (dvd_iff_mod (show 1 < p by omega)).2 hv;have a3 := Int.dvd_add (Int.dvd_mul_of_dvd_left (c := (v : Int)) a1) a2;rw [Int.sub_mul] at a3
    rwa [show x d * (v : Int) - (q : Int) * (v : Int) + (((q * v : Nat) : Int) - ((1 : Nat) : Int)) = x d * (v : Int) - 1 by rw [Int.natCast_mul]; omega] at a3
  have hB : ∀ i, (p : Int) ∣ (((x i * (v : Int)) % (p : Int)).toNat : Int) - x i * (v : Int) := fun i => by
    rw [Int.toNat_of_nonneg (Int.emod_nonneg _ (by omega))]; exact emod_dvd _ _
  have hlt : ∀ i, ((x i * (v : Int)) % (p : Int)).toNat < p := fun i => by
    have := Int.emod_lt_of_pos (x i * (v : Int)) (show (0 : Int) < p by omega);have := Int.emod_nonneg (x i * (v : Int)) (show (p : Int) ≠ 0 by omega)
    omega
  have hone : ((x d * (v : Int)) % (p : Int)).toNat = 1 := by
    refine eq_of_dvd (hlt d) (show 1 < p by omega) ?_;have := Int.dvd_add (hB d) hxv
    rwa [show (((x d * (v : Int)) % (p : Int)).toNat : Int) - x d * (v : Int) + (x d * (v : Int) - 1) = (((x d * (v : Int)) % (p : Int)).toNat : Int) - ((1 : Nat) : Int) by omega] at this
  have hrel : ∀ c, c < n → (p : Int) ∣ sI (fun i => ((((x i * (v : Int)) % (p : Int)).toNat : Nat) : Int) * (P i c : Int)) (d + 1) := fun c hc => by
    have a1 : (p : Int) ∣ sI (fun i => ((((x i * (v : Int)) % (p : Int)).toNat : Nat) : Int) * (P i c : Int)) (d + 1) - sI (fun i => x i * (v : Int) * (P i c : Int)) (d + 1) := by
      rw [sI_sub];refine sI_dvd fun i _ => ?_;rw [← Int.sub_mul];exact Int.dvd_mul_of_dvd_left (hB i)
    refine (dvd_iff_sub a1).2 ?_;rw [sI_congr (g := fun i => (v : Int) * (x i * (P i c : Int))) (fun i _ => by grind), sI_mul];exact Int.dvd_mul_of_dvd_right (hx c hc)
  refine ⟨d, fun i => ((x i * (v : Int)) % (p : Int)).toNat, ?_, hd, hlt, hone, hrel⟩
  apply Classical.byContradiction
  intro hd0;obtain rfl : d = 0 := by omega
  obtain ⟨c, hc, hcn⟩ := h0;have := hrel c hc;rw [show sI (fun i => ((((x i * (v : Int)) % (p : Int)).toNat : Nat) : Int) * (P i c : Int)) (0 + 1) = 0 + ((((x 0 * (v : Int)) % (p : Int)).toNat : Nat) : Int) * (P 0 c : Int) from rfl, hone] at this;rw [Int.zero_add, show ((1 : Nat) : Int) * (P 0 c : Int) = (P 0 c : Int) by omega] at this;have := Int.le_of_dvd (by omega) this;have := hP 0 c
  omega
theorem minP_full {p n d0 d k : Nat} {P : Nat → Nat → Nat} {B0 : Nat → Nat} {E : Nat → Nat → Nat} {ld : Nat → Nat} (hp : 2 ≤ p) (h : MinP p n P d0 B0) (hd : d ≤ d0) (hE : Rref p (d + 1) E k ld) (hK : ∀ x, Ker p (d + 1) E k x ↔ Ker p (d + 1) (fun c i => P i c) n x) :
    (k = d ∧ (∀ i, i < d → ld i = i) ↔ d = d0) ∧ (d = d0 → ∀ i, i < d0 → (p : Int) ∣ (B0 i : Int) + (E i d : Int)) := by
  have sol : ∀ y : Nat → Nat, Ker p (d + 1) E k (aug d y) → d = d0 ∧ ∀ i, i < d → (p : Int) ∣ (B0 i : Int) + (y i : Int) := by
    intro y hy;have h1 := (hK _).1 hy;obtain ⟨e, h2⟩ := h.eq hp (y := fun i => -(aug d y i)) hd (by rw [aug_n]; exact ⟨0, by omega⟩) (fun c hc => by
      have := h1 c hc
      unfold dot ci at this
      rw [sI_congr (g := fun i => (-1) * ((P i c : Int) * aug d y i)) (fun i _ => by grind), sI_mul];exact Int.dvd_mul_of_dvd_right this)
    refine ⟨e, fun i hi => ?_⟩;have h3 := Int.dvd_neg.2 (h2 i (by omega));rw [aug_lt hi] at h3
    rwa [show -(-(y i : Int) - (B0 i : Int)) = (B0 i : Int) + (y i : Int) by omega] at h3
  have full : Full p d E k ld → Ker p (d + 1) E k (aug d fun i => E i d) := fun hf => by
    have hk := hf.k;intro i hi;rw [dot_full hE hf _ (by omega), Int.sub_self]; exact Int.dvd_zero _
  have back : d = d0 → Full p d E k ld := by
    intro e; subst e;have hx : ∀ i, i < d → ((-(B0 i : Int)) % (p : Int)).toNat < p := fun i _ => by
      have := Int.emod_lt_of_pos (-(B0 i : Int)) (show (0 : Int) < p by omega);have := Int.emod_nonneg (-(B0 i : Int)) (show (p : Int) ≠ 0 by omega)
      omega
    have hxd : ∀ i, (p : Int) ∣ (((-(B0 i : Int)) % (p : Int)).toNat : Int) + (B0 i : Int) := fun i => by
      rw [Int.toNat_of_nonneg (Int.emod_nonneg _ (by omega))];have := emod_dvd (p : Int) (-(B0 i : Int))
      rwa [show (-(B0 i : Int)) % (p : Int) - -(B0 i : Int) = (-(B0 i : Int)) % (p : Int) + (B0 i : Int) by omega] at this
    refine full_of_unique hp hE (fun i => ((-(B0 i : Int)) % (p : Int)).toNat) hx ((hK _).2 fun c hc => ?_) fun y hy hyK i hi => ?_
    · show (p : Int) ∣ sI (fun i => (P i c : Int) * aug d (fun i => ((-(B0 i : Int)) % (p : Int)).toNat) i) (d + 1)
      have h1 := h.rel c hc;have h2 : (p : Int) ∣ sI (fun i => (P i c : Int) * aug d (fun i => ((-(B0 i : Int)) % (p : Int)).toNat) i) (d + 1) - (-1) * sI (fun i => (B0 i : Int) * (P i c : Int)) (d + 1) := by
        rw [← sI_mul, sI_sub];refine sI_dvd fun i hi => ?_;rw [show (P i c : Int) * aug d (fun i => ((-(B0 i : Int)) % (p : Int)).toNat) i - (-1) * ((B0 i : Int) * (P i c : Int)) = (P i c : Int) * (aug d (fun i => ((-(B0 i : Int)) % (p : Int)).toNat) i + (B0 i : Int)) by grind];refine Int.dvd_mul_of_dvd_right ?_
        by_cases e : i < d
        · rw [aug_lt e]; exact hxd i
        · rw [show i = d by omega, aug_n, h.one]; exact ⟨0, by omega⟩
      exact (dvd_iff_sub h2).2 (Int.dvd_mul_of_dvd_right h1)
    · have h1 := (sol y hyK).2 i hi
      refine eq_of_dvd (hy i hi) (hx i hi) ?_;have := Int.dvd_sub h1 (hxd i)
      rwa [show (B0 i : Int) + (y i : Int) - ((((-(B0 i : Int)) % (p : Int)).toNat : Int) + (B0 i : Int)) = (y i : Int) - (((-(B0 i : Int)) % (p : Int)).toNat : Int) by omega] at this
  refine ⟨⟨fun ⟨a, b⟩ => (sol _ (full ⟨a, b⟩)).1, fun e => ⟨(back e).k, (back e).ld⟩⟩, fun e i hi => ?_⟩;exact (sol _ (full (back e))).2 i (by omega)
structure RowC (p n : Nat) (P : Nat → Nat → Nat) (d : Nat) (r : Nat → Nat) : Prop where
  small : ∀ c, r c < p
  out : ∀ c, n ≤ c → c < 6 → r c = 0
  one : r (6 + d) = 1
  high : ∀ i, d < i → r (6 + i) = 0
  rel : ∀ c, c < n → (p : Int) ∣ (r c : Int) - sI (fun i => (r (6 + i) : Int) * (P i c : Int)) (d + 1)
structure KeptC (p n : Nat) (P : Nat → Nat → Nat) (m : Nat) (K : Nat → Nat → Nat) (ld : Nat → Nat) : Prop where
  row : ∀ j, j < m → RowC p n P j (K j)
  lt : ∀ j, j < m → ld j < n
  ne : ∀ j, j < m → K j (ld j) ≠ 0
  zero : ∀ j, j < m → ∀ i, i < j → K j (ld i) = 0
def startC (P : Nat → Nat → Nat) (d c : Nat) : Nat := if c < 6 then P d c else if c = 6 + d then 1 else 0
theorem startC_ok {p n d : Nat} {P : Nat → Nat → Nat} (hp : 2 ≤ p) (hn : n ≤ 6) (hP : ∀ i c, P i c < p) (ho : ∀ i c, n ≤ c → P i c = 0) : RowC p n P d (startC P d) where
  small := fun c => by unfold startC; split; exact hP _ _; split <;> omega
  out := fun c h1 h2 => by unfold startC; rw [if_pos h2]; exact ho _ _ h1
  one := by unfold startC; rw [if_neg (by omega), if_pos rfl]
  high := fun i hi => by unfold startC; rw [if_neg (by omega), if_neg (by omega)]
  rel := fun c hc => by
    have e : sI (fun i => (startC P d (6 + i) : Int) * (P i c : Int)) (d + 1) = (P d c : Int) := by
      rw [sI_one (a := d) (by omega)]
      · unfold startC; rw [if_neg (by omega), if_pos rfl]; omega
      · intro i hi hne; unfold startC; rw [if_neg (by omega), if_neg (by omega)]; simp
    rw [e]; unfold startC; rw [if_pos (by omega), Int.sub_self]; exact Int.dvd_zero _
theorem RowC.clear {p n d a m : Nat} {P : Nat → Nat → Nat} {K : Nat → Nat → Nat} {ld r s : Nat → Nat} {x : Int} (hp : 2 ≤ p) (hn : n ≤ 6) (hr : RowC p n P d r) (hK : KeptC p n P m K ld) (ha : a < m) (had : a < d) (hz : ∀ i, i < a → r (ld i) = 0)
    (hs : ∀ c, s c < p) (hsr : ∀ c, (p : Int) ∣ (s c : Int) - ((r c : Int) + x * (K a c : Int))) (hx : (p : Int) ∣ (r (ld a) : Int) + x * (K a (ld a) : Int)) : RowC p n P d s ∧ ∀ i, i < a + 1 → s (ld i) = 0 := by
  have hka := hK.row a ha;have zero : ∀ c, r c = 0 → K a c = 0 → s c = 0 := fun c h1 h2 => by
    have := hsr c;rw [h1, h2] at this;exact eq_of_dvd (hs c) (show 0 < p by omega) (by rwa [show (s c : Int) - (((0 : Nat) : Int) + x * ((0 : Nat) : Int)) = (s c : Int) - ((0 : Nat) : Int) by simp] at this)
  refine ⟨⟨hs, fun c h1 h2 => zero c (hr.out c h1 h2) (hka.out c h1 h2), ?_, fun i hi => zero _ (hr.high i hi) (hka.high i (by omega)), fun c hc => ?_⟩, fun i hi => ?_⟩
  · have := hsr (6 + d)
    rw [hr.one, hka.high d had] at this;exact eq_of_dvd (hs _) (show 1 < p by omega) (by rwa [show (s (6 + d) : Int) - (((1 : Nat) : Int) + x * ((0 : Nat) : Int)) = (s (6 + d) : Int) - ((1 : Nat) : Int) by simp] at this)
  · have h1 := hr.rel c hc
    have h2 := hka.rel c hc;have e2 : sI (fun i => (K a (6 + i) : Int) * (P i c : Int)) (a + 1) = sI (fun i => (K a (6 + i) : Int) * (P i c : Int)) (d + 1) := by
      rw [← sI_cut (f := fun i => (K a (6 + i) : Int) * (P i c : Int)) (show a + 1 ≤ d + 1 by omega)];refine sI_congr fun i _ => ?_
      by_cases e : i < a + 1
      · rw [if_pos e]
      · rw [if_neg e, hka.high i (by omega)]; simp
    rw [e2] at h2;have h3 : (p : Int) ∣ sI (fun i => (s (6 + i) : Int) * (P i c : Int)) (d + 1) - (sI (fun i => (r (6 + i) : Int) * (P i c : Int)) (d + 1) + x * sI (fun i => (K a (6 + i) : Int) * (P i c : Int)) (d + 1)) := by
      rw [← sI_mul, ← sI_add, sI_sub];refine sI_dvd fun i _ => ?_;rw [show (s (6 + i) : Int) * (P i c : Int) - ((r (6 + i) : Int) * (P i c : Int) + x * ((K a (6 + i) : Int) * (P i c : Int))) = ((s (6 + i) : Int) - ((r (6 + i) : Int) + x * (K a (6 + i) : Int))) * (P i c : Int) by grind];exact Int.dvd_mul_of_dvd_left (hsr (6 + i))
    have h4 := hsr c;obtain ⟨a1, h1⟩ := h1;obtain ⟨a2, h2⟩ := h2;obtain ⟨a3, h3⟩ := h3;obtain ⟨a4, h4⟩ := h4;refine ⟨a4 + a1 + x * a2 - a3, ?_⟩
    grind
  · by_cases e : i = a
    · subst e
      have h1 := Int.dvd_add (hsr (ld i)) hx;exact eq_of_dvd (hs _) (show 0 < p by omega) (by rwa [show (s (ld i) : Int) - ((r (ld i) : Int) + x * (K i (ld i) : Int)) + ((r (ld i) : Int) + x * (K i (ld i) : Int)) = (s (ld i) : Int) - ((0 : Nat) : Int) by omega] at h1)
    · exact zero _ (hz i (by omega)) (hK.zero a ha i (by omega))
theorem KeptC.span {p n : Nat} {P : Nat → Nat → Nat} {K : Nat → Nat → Nat} {ld : Nat → Nat} : ∀ {m : Nat}, KeptC p n P m K ld → ∀ y : Nat → Int, ∃ a : Nat → Int, ∀ c, c < n → (p : Int) ∣ sI (fun i => y i * (P i c : Int)) m - sI (fun j => a j * (K j c : Int)) m
  | 0, _, y => ⟨fun _ => 0, fun c _ => ⟨0, by simp [sI]⟩⟩
  | m + 1, hK, y => by
    have hK2 : KeptC p n P m K ld := ⟨fun j hj => hK.row j (by omega), fun j hj => hK.lt j (by omega), fun j hj => hK.ne j (by omega), fun j hj => hK.zero j (by omega)⟩
    obtain ⟨a, ha⟩ := hK2.span (fun i => y i - y m * (K m (6 + i) : Int))
    refine ⟨fun j => if j < m then a j else y m, fun c hc => ?_⟩
    have h1 := ha c hc
    have h2 := (hK.row m (by omega)).rel c hc
    have e1 : sI (fun j => (if j < m then a j else y m) * (K j c : Int)) (m + 1) = sI (fun j => a j * (K j c : Int)) m + y m * (K m c : Int) := by
      show sI _ m + (if m < m then a m else y m) * (K m c : Int) = _
      rw [if_neg (by omega), sI_congr (g := fun j => a j * (K j c : Int)) (fun j hj => by rw [if_pos hj])]
    have e2 : sI (fun i => (y i - y m * (K m (6 + i) : Int)) * (P i c : Int)) m = sI (fun i => y i * (P i c : Int)) m - y m * sI (fun i => (K m (6 + i) : Int) * (P i c : Int)) m := by
      rw [← sI_mul, sI_sub]; exact sI_congr fun i _ => by grind
    have e3 : sI (fun i => (K m (6 + i) : Int) * (P i c : Int)) (m + 1) = sI (fun i => (K m (6 + i) : Int) * (P i c : Int)) m + (P m c : Int) := by
      show sI _ m + (K m (6 + m) : Int) * (P m c : Int) = _
      rw [(hK.row m (by omega)).one]; omega
    have e4 : sI (fun i => y i * (P i c : Int)) (m + 1) = sI (fun i => y i * (P i c : Int)) m + y m * (P m c : Int) := rfl;rw [e1, e4]; rw [e2] at h1; rw [e3] at h2;obtain ⟨q1, h1⟩ := h1;obtain ⟨q2, h2⟩ := h2;refine ⟨q1 - y m * q2, ?_⟩
    grind
theorem KeptC.indep {p n m : Nat} {P : Nat → Nat → Nat} {K : Nat → Nat → Nat} {ld : Nat → Nat} (hp : primeN p) (hK : KeptC p n P m K ld) {a : Nat → Int} (hz : ∀ j, j < m → (p : Int) ∣ sI (fun i => a i * (K i (ld j) : Int)) m) : ∀ j, j < m → (p : Int) ∣ a j := by
  have key : ∀ b, b ≤ m → ∀ j, j < b → (p : Int) ∣ a j := by
    intro b
    induction b with
    | zero => intro _ j hj; omega
    | succ b ih =>
      intro hb j hj
      by_cases e : j = b
      · subst e
        have h1 := hz j (by omega);have h2 : (p : Int) ∣ sI (fun i => a i * (K i (ld j) : Int)) m - a j * (K j (ld j) : Int) := by
          have e : a j * (K j (ld j) : Int) = sI (fun i => if i = j then a j * (K j (ld j) : Int) else 0) m := by
            rw [sI_one (a := j) (by omega)]
            · simp
            · intro i _ hne; simp [hne]
          rw [e, sI_sub];refine sI_dvd fun i hi => ?_
          by_cases e1 : i = j
          · subst e1; simp
          · rw [if_neg e1, Int.sub_zero]
            by_cases e2 : i < j
            · exact Int.dvd_mul_of_dvd_left (ih (by omega) i e2)
            · rw [hK.zero i hi j (by omega)]; exact ⟨0, by simp⟩
        exact dvd_prime hp ((hK.row j (by omega)).small _) (hK.ne j (by omega)) ((dvd_iff_sub h2).1 h1)
      · exact ih (by omega) j (by omega)
  exact key m (Nat.le_refl _)
theorem KeptC.done {p n d0 d : Nat} {P : Nat → Nat → Nat} {B0 : Nat → Nat} {K : Nat → Nat → Nat} {ld r : Nat → Nat} (hp : primeN p) (h : MinP p n P d0 B0) (hd : d ≤ d0) (hK : KeptC p n P d K ld) (hr : RowC p n P d r) (hz : ∀ i, i < d → r (ld i) = 0) :
    ((∀ c, c < n → r c = 0) ↔ d = d0) ∧ ((∀ c, c < n → r c = 0) → ∀ i, i < d0 + 1 → r (6 + i) = B0 i) := by
  have hp2 := hp.two;have fwd : (∀ c, c < n → r c = 0) → d = d0 ∧ ∀ i, i < d0 + 1 → (p : Int) ∣ (r (6 + i) : Int) - (B0 i : Int) := fun h0 =>
    h.eq hp2 (y := fun i => (r (6 + i) : Int)) hd (by rw [hr.one]; exact ⟨0, by omega⟩) (fun c hc => by
      have := Int.dvd_neg.2 (hr.rel c hc);rw [h0 c hc] at this
      rwa [show -(((0 : Nat) : Int) - sI (fun i => (r (6 + i) : Int) * (P i c : Int)) (d + 1)) = sI (fun i => (r (6 + i) : Int) * (P i c : Int)) (d + 1) by omega] at this)
  refine ⟨⟨fun h0 => (fwd h0).1, fun e => ?_⟩, fun h0 i hi => eq_of_dvd (hr.small _) (h.small i) ((fwd h0).2 i hi)⟩;subst e;obtain ⟨a, ha⟩ := hK.span (fun i => (r (6 + i) : Int) - (B0 i : Int));have hra : ∀ c, c < n → (p : Int) ∣ (r c : Int) - sI (fun j => a j * (K j c : Int)) d := fun c hc => by
    have h1 := hr.rel c hc;have h2 := h.rel c hc;have h3 := ha c hc;have e1 : sI (fun i => (r (6 + i) : Int) * (P i c : Int)) (d + 1) = sI (fun i => (r (6 + i) : Int) * (P i c : Int)) d + (P d c : Int) := by
      show sI _ d + (r (6 + d) : Int) * (P d c : Int) = _
      rw [hr.one]; omega
    have e2 : sI (fun i => (B0 i : Int) * (P i c : Int)) (d + 1) = sI (fun i => (B0 i : Int) * (P i c : Int)) d + (P d c : Int) := by
      show sI _ d + (B0 d : Int) * (P d c : Int) = _
      rw [h.one]; omega
    have e3 : sI (fun i => ((r (6 + i) : Int) - (B0 i : Int)) * (P i c : Int)) d = sI (fun i => (r (6 + i) : Int) * (P i c : Int)) d - sI (fun i => (B0 i : Int) * (P i c : Int)) d := by
      rw [sI_sub]; exact sI_congr fun i _ => by grind
    rw [e1] at h1; rw [e2] at h2; rw [e3] at h3;obtain ⟨q1, h1⟩ := h1;obtain ⟨q2, h2⟩ := h2;obtain ⟨q3, h3⟩ := h3;refine ⟨q1 + q2 + q3, ?_⟩
    grind
  have hk := hK.indep hp (a := a) (fun j hj => by
    have := Int.dvd_neg.2 (hra (ld j) (hK.lt j hj));rw [hz j hj] at this
    rwa [show -(((0 : Nat) : Int) - sI (fun i => a i * (K i (ld j) : Int)) d) = sI (fun i => a i * (K i (ld j) : Int)) d by omega] at this)
  intro c hc;have h1 := (dvd_iff_sub (hra c hc)).2 (sI_dvd fun j hj => Int.dvd_mul_of_dvd_left (hk j hj));exact eq_of_dvd (hr.small c) (show 0 < p by omega) (by simpa using h1)
theorem KeptC.snoc {p n d l : Nat} {P : Nat → Nat → Nat} {K : Nat → Nat → Nat} {ld r : Nat → Nat} (hK : KeptC p n P d K ld) (hr : RowC p n P d r) (hz : ∀ i, i < d → r (ld i) = 0) (hl : l < n) (hne : r l ≠ 0) : KeptC p n P (d + 1) (fun j => if j = d then r else K j) (fun j => if j = d then l else ld j) where
  row := fun j hj => by
    split
    · rename_i e; rw [e]; exact hr
    · exact hK.row j (by omega)
  lt := fun j hj => by split; exact hl; exact hK.lt j (by omega)
  ne := fun j hj => by
    split
    · exact hne
    · exact hK.ne j (by omega)
  zero := fun j hj i hi => by
    by_cases e : j = d
    · rw [if_pos e, if_neg (by omega)]; exact hz i (by omega)
    · rw [if_neg e, if_neg (by omega)]; exact hK.zero j (by omega) i hi
end Go.Ech

namespace Go.Sw
open Go Go.RowKit
variable {P : Program}
section
variable {ops : List Oper} {Q : Exit → Act → World → Prop} {n : Nat} {F : List (Nat × Value)}
def DepsH {G : Type} (ops : List Oper) (k s : Nat) (φ : Facts G) (o : Oper) (g : G) (a : Act) (w : World) : Prop :=
  ∀ j, Nat.blt j k = true → edgeTo o j = true → φ j g (a.tmps.getD (dstOf ops j) undef) w
def StepsH {G : Type} (P : Program) (ops : List Oper) (k s n : Nat) (F : List (Nat × Value)) (S : Bool → G → World → Prop) (φ : Facts G) : List Oper → Nat → Prop
  | [], _ => True
  | o :: r, i => (if Nat.beq i s = true then ∀ a w g, Fr n a F → S false g w → DepsH ops k s φ o g a w → Does P o a w (AfterG S φ true i g w)
      else ∀ a w b g, Fr n a F → S b g w → (edgeS ops s i = true → b = false) → DepsH ops k s φ o g a w → Does P o a w (AfterG S φ b i g w)) ∧ StepsH P ops k s n F S φ r (i + 1)
theorem StepsH.get {G : Type} {k s : Nat} {S : Bool → G → World → Prop} {φ : Facts G} : ∀ {l : List Oper} {i : Nat}, StepsH P ops k s n F S φ l i → ∀ (j : Nat) (o : Oper), l[j]? = some o →
    (if Nat.beq (i + j) s = true then ∀ a w g, Fr n a F → S false g w → DepsH ops k s φ o g a w → Does P o a w (AfterG S φ true (i + j) g w)
      else ∀ a w b g, Fr n a F → S b g w → (edgeS ops s (i + j) = true → b = false) → DepsH ops k s φ o g a w → Does P o a w (AfterG S φ b (i + j) g w))
  | [], _, _, j, o, h => by simp at h
  | x :: r, i, hs, j, o, h => by
    cases j with
    | zero => simp at h; subst h; exact hs.1
    | succ j => have := hs.2.get j o (by simpa using h); rwa [show i + 1 + j = i + (j + 1) by omega] at this
end
end Go.Sw
namespace Go.Sw
open Go Go.RowKit Go.Ech
variable {P : Program}
theorem MemX.extY {X Y : List Nat} {w0 w w' : World} {L : Own} {D : Froz} (h : MemX X w0 w L D) (hx : ExtX Y w w') (hY : ∀ y ∈ Y, w0.heap.size ≤ y ∧ (∀ (k : Nat) c ds, L[k]? = some (some (c, ds)) → c ≠ y) ∧ (∀ c ds, (c, ds) ∈ D → c ≠ y)) : MemX X w0 w' L D := by
  have other : ∀ {c ds}, Blk w c ds → c ∉ Y → Blk w' c ds := fun {c ds} hc hne => by
    obtain ⟨t, hc'⟩ := hc;exact ⟨t, (hx.block c (Blk.lt ⟨t, hc'⟩) hne).trans hc'⟩
  refine ⟨⟨hx.os.trans h.bel.os, hx.tape.trans h.bel.tape, hx.output.trans h.bel.output, Nat.le_trans h.bel.size hx.size, fun i hi hix => ?_⟩, fun k c ds hk => ⟨(h.blk k c ds hk).1, other (h.blk k c ds hk).2 (fun hc => (hY c hc).2.1 k c ds hk rfl)⟩, h.apart, fun c ds hm => ⟨other (h.froz c ds hm).1 (fun hc => (hY c hc).2.2 c ds hm rfl), (h.froz c ds hm).2⟩⟩;have hne : i ∉ Y := fun hc => by have := (hY i hc).1; omega
  exact (hx.block i (Nat.lt_of_lt_of_le hi h.bel.size) hne).trans (h.bel.block i hi hix)
def wid (n : Nat) (E : Nat → Nat → Nat) (i c : Nat) : Nat := if c < n then E i c else 0
theorem Rref.wid {p n N k : Nat} {E : Nat → Nat → Nat} {ld : Nat → Nat} (hp : 0 < p) (hn : n ≤ N) (h : Rref p n E k ld) : Rref p N (wid n E) k ld := by
  refine ⟨fun i hi => Nat.lt_of_lt_of_le (h.lt i hi) hn, h.mono, fun i hi => ?_, fun i hi c hc => ?_, fun i j hi hj hne => ?_, fun i hi c _ => ?_⟩
  · unfold Go.Sw.wid; rw [if_pos (h.lt i hi)]; exact h.one i hi
  · unfold Go.Sw.wid; rw [if_pos (by have := h.lt i hi; omega)]; exact h.left i hi c hc
  · unfold Go.Sw.wid; rw [if_pos (h.lt i hi)]; exact h.zero i j hi hj hne
  · unfold Go.Sw.wid; split
    · rename_i hcn; exact h.small i hi c hcn
    · exact hp
end Go.Sw
namespace Go.Sw
open Go Go.RowKit
variable {P : Program}
end Go.Sw
namespace Go.Sw
open Go Go.RowKit
variable {P : Program}
theorem par_relG {X : List Nat} {w0 w : World} {D : Froz} {W : List Nat} {L0 L : Own} {l : List Fact} {i : Nat} {o : Oper} {a : Act} {v : Value} {R : Value → World → Prop} (hS : Par X w0 D W L0 L w) (hi : l[i]? = some (.rel R)) (hg : Gives P o a w v) (hR : R v w) : Does P o a w (After (Par X w0 D W L0) (factsOf l) i L w) :=
  hg.mono fun u w' ⟨h1, h2⟩ => by subst h1; subst h2; exact ⟨L, hS, fact_get hi hR, fun j u _ h => h⟩
end Go.Sw

/-! The copy builtin, and slices of arrays with a bound: plain lemmas. -/
namespace Go.Sw
open Go Go.RowKit
section
variable {P : Program} {n : Nat} {a : Act} {w0 w : World} {X : List Nat} {F : List (Nat × Value)} {L : Own} {D : Froz} {d : Option Tmp} {T : TypeId} {x y : Operand} {t : TypeId} {pos : String} {af : Array Edge} {gd : Option (Nat × Bool)}
theorem fnC_list {N : Nat} {g : Nat → Value} {j : Nat} {v : Value} (h : (fnC N g).toList[j]? = some v) : j < N ∧ v = g j := by
  rw [Array.getElem?_toList] at h
  by_cases hj : j < N
  · rw [fnC_get hj] at h; exact ⟨hj, (Option.some.inj h).symm⟩
  · rw [Array.getElem?_eq_none (by rw [fnC_size]; omega)] at h; cases h
theorem d_copy {e : TypeId} {b o dl dc b2 o2 sl sc N : Nat} {cs cs' : Array Value} {g : Nat → Value} (k : Nat) (hT : P.underlying T = some (.slice e)) (he : sizeP P e = some 1) (hM : MemX X w0 w L D) (hk : L[k]? = some (some (b, cs))) (hF : Fr n a F)
    (hx : look F x = some (.slice (some ⟨b, o, none⟩) dl dc)) (hy : look F y = some (.slice (some ⟨b2, o2, none⟩) sl sc)) (hN : N = Nat.min sl dl) (hsrc : ∀ j, j < N → w.cell? ⟨b2, o2 + j, none⟩ = some (g j)) (hfit : o + N ≤ cs.size) (h1 : ∀ j, j < N → (g j).oneCell' = true) (hC : splice cs o (fnC N g) = cs') :
    Does P ⟨d, .call { callee := .builtin .copy, args := #[x, y], argTypes := #[T, T] }, t, pos, af, gd⟩ a w (fun u w' => u = .int .i64 (N : Int) ∧ MemX X w0 w' (L.set k (some (b, cs'))) D) := by
  have hb := hM.row k hk;obtain ⟨tt, hg⟩ := hb;have hM' := hM.setRow k hk cs';have hl : (fnC N g).toList.length = N := by simp [fnC_size]
  have hs : (P.info? e).map (·.size) = some 1 := by
    unfold sizeP at he
    exact he
  have hr := fun ty => run_copy_row (P := P) w T T ty e b o dl dc ⟨b2, o2, none⟩ sl sc cs tt (fnC N g).toList hT hs hg (by rw [hl, hN]) (fun j v hj => by
    obtain ⟨h2, rfl⟩ := fnC_list hj;rw [Addr.add_lit]; exact hsrc j h2) (by rw [hl]; exact hfit) (fun v hv => by
    obtain ⟨j, hj⟩ := List.getElem?_of_mem hv;obtain ⟨h2, rfl⟩ := fnC_list hj;exact h1 j h2)
  have e1 : (cs.toList.take o ++ (fnC N g).toList ++ cs.toList.drop (o + (fnC N g).toList.length)).toArray = cs' := by
    rw [← hC]; simp [splice]
  refine ⟨fun K Q hq => ?_⟩
  unfold Oper.wp execOp
  simp only [resolve, invoke, builtin, Sem.run_bind, Sem.run_pure, Result.andThen_ok, List.map_toArray, List.map_cons, List.map_nil, hF.eval hx, hF.eval hy];rw [hr, e1, hl];exact hq _ _ ⟨rfl, hM'⟩
end
end Go.Sw
