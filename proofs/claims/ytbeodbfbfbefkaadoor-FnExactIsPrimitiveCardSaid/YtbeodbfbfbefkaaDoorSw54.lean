/- Plain lemmas of a small calculus for walks over frames and own memory; no statement of the seat is proved here. -/
import Derived.Test.YtbeodbfbfbefkaaDoorEch13
import Derived.Test.YtbeodbfbfbefkaaDoorSw5
import Derived.Test.YtbeodbfbfbefkaaDoorSw11
import Derived.Test.YtbeodbfbfbefkaaDoorSw32
set_option linter.unusedVariables false
set_option linter.unusedSimpArgs false
namespace Go.Ech
open Go.Sw
/-! ### The power p of a sum is the sum of the powers p. -/
def bin : Nat → Nat → Nat
  | 0, 0 => 1
  | 0, _ + 1 => 0
  | _ + 1, 0 => 1
  | k + 1, i + 1 => bin k i + bin k (i + 1)
theorem bin_zero : ∀ k, bin k 0 = 1
  | 0 => rfl
  | _ + 1 => rfl
theorem bin_out : ∀ k i, k < i → bin k i = 0
  | 0, 0, h => absurd h (by omega)
  | 0, _ + 1, _ => rfl
  | k + 1, 0, h => absurd h (by omega)
  | k + 1, i + 1, h => by rw [bin, bin_out k i (by omega), bin_out k (i + 1) (by omega)]
theorem bin_full : ∀ k, bin k k = 1
  | 0 => rfl
  | k + 1 => by rw [bin, bin_full k, bin_out k (k + 1) (by omega)]
theorem bin_prime : ∀ p ∈ ([2, 3, 5, 7, 11, 13] : List Nat), ∀ i, i < p → 0 < i → bin p i % p = 0 := by decide +kernel
theorem fermat : ∀ p ∈ ([2, 3, 5, 7, 11, 13] : List Nat), ∀ a, a < p → a ^ p % p = a := by decide +kernel
theorem sI_head (f : Nat → Int) : ∀ m, sI f (m + 1) = f 0 + sI (fun i => f (i + 1)) m
  | 0 => by simp [sI]
  | m + 1 => by
    have : sI f (m + 1 + 1) = sI f (m + 1) + f (m + 1) := rfl
    rw [this, sI_head f m]
    have h2 : sI (fun i => f (i + 1)) (m + 1) = sI (fun i => f (i + 1)) m + f (m + 1) := rfl
    rw [h2]; omega
theorem bin_sum (Z : Nat → Int) (k : Nat) : sI (fun i => (bin k i : Int) * Z (i + 1)) (k + 1) + sI (fun i => (bin k i : Int) * Z i) (k + 1) = sI (fun i => (bin (k + 1) i : Int) * Z i) (k + 1 + 1) := by
  rw [sI_head (fun i => (bin (k + 1) i : Int) * Z i), sI_head (fun i => (bin k i : Int) * Z i)]
  have e1 : sI (fun i => (bin (k + 1) (i + 1) : Int) * Z (i + 1)) (k + 1) = sI (fun i => (bin k i : Int) * Z (i + 1)) (k + 1) + sI (fun i => (bin k (i + 1) : Int) * Z (i + 1)) (k + 1) := by
    rw [← sI_add]
    exact sI_congr fun i _ => by rw [bin, Int.natCast_add, Int.add_mul]
  have e2 : sI (fun i => (bin k (i + 1) : Int) * Z (i + 1)) (k + 1) = sI (fun i => (bin k (i + 1) : Int) * Z (i + 1)) k := by
    show sI _ k + (bin k (k + 1) : Int) * Z (k + 1) = _
    rw [bin_out k (k + 1) (by omega)]; simp
  rw [e1, e2, bin_zero, bin_zero]; omega
section
variable {p n : Nat} {T : Nat → Nat → Nat → Nat} {u : Nat → Int}
theorem vP_congr {x y : Nat → Int} (h : EqP p n x y) : ∀ k, EqP p n (vP n T u x k) (vP n T u y k)
  | 0 => EqP.refl _
  | k + 1 => EqP.mul (vP_congr h k) h
theorem vP_smul (a : Int) (x : Nat → Int) : ∀ k c, vP n T u (fun c => a * x c) k c = a ^ k * vP n T u x k c
  | 0, c => by simp [vP]
  | k + 1, c => by
    have e : vP n T u (fun c => a * x c) k = fun c => a ^ k * vP n T u x k c := funext (vP_smul a x k)
    simp only [vP]
    rw [e, Pr_smul, Pr_smulR, Int.pow_succ, Int.mul_assoc]
theorem vP_zero : ∀ k c, vP n T u (fun _ => 0) (k + 1) c = 0 := fun k c => by simp only [vP]; exact Pr_zeroR _ c
theorem Pr_sum (N : Nat) (f : Nat → Nat → Int) (z : Nat → Int) (c : Nat) : Pr n T (fun c => sI (fun i => f i c) N) z c = sI (fun i => Pr n T (f i) z c) N := by
  induction N with
  | zero => exact Pr_zero z c
  | succ N ih =>
    show Pr n T (fun c => sI (fun i => f i c) N + f N c) z c = sI (fun i => Pr n T (f i) z c) N + Pr n T (f N) z c
    rw [Pr_add, ih]
variable (ha : AssI p n T) (hk : ComI n T) (hu : ∀ y, EqP p n (Pr n T y u) y)
include ha hk hu in
theorem vP_binom (x y : Nat → Int) : ∀ k, EqP p n (vP n T u (fun c => x c + y c) k) (fun c => sI (fun i => (bin k i : Int) * Pr n T (vP n T u x i) (vP n T u y (k - i)) c) (k + 1))
  | 0 => fun c hc => by
    have h := hu u c hc
    have := Int.dvd_neg.2 h
    rw [Int.neg_sub] at this
    show (p : Int) ∣ u c - (0 + ((bin 0 0 : Nat) : Int) * Pr n T u u c)
    rw [bin_zero]
    simpa using this
  | k + 1 => by
    have ih := vP_binom x y k
    refine EqP.trans (EqP.mul ih (EqP.refl _)) fun c hc => ?_
    have e1 : Pr n T (fun c => sI (fun i => (bin k i : Int) * Pr n T (vP n T u x i) (vP n T u y (k - i)) c) (k + 1)) (fun c => x c + y c) c
        = sI (fun i => (bin k i : Int) * Pr n T (Pr n T (vP n T u x i) (vP n T u y (k - i))) x c) (k + 1) + sI (fun i => (bin k i : Int) * Pr n T (Pr n T (vP n T u x i) (vP n T u y (k - i))) y c) (k + 1) := by
      rw [Pr_addR, Pr_sum, Pr_sum]
      congr 1 <;> exact sI_congr fun i _ => Pr_smul _ _ _ _
    rw [e1]
    have hb := bin_sum (fun i => Pr n T (vP n T u x i) (vP n T u y (k + 1 - i)) c) k
    rw [← hb]
    have d1 : (p : Int) ∣ sI (fun i => (bin k i : Int) * Pr n T (Pr n T (vP n T u x i) (vP n T u y (k - i))) x c) (k + 1) - sI (fun i => (bin k i : Int) * Pr n T (vP n T u x (i + 1)) (vP n T u y (k + 1 - (i + 1))) c) (k + 1) := by
      rw [sI_sub]
      refine sI_dvd fun i hi => ?_
      rw [← Int.mul_sub, show k + 1 - (i + 1) = k - i by omega]
      exact Int.dvd_mul_of_dvd_right (Pr_right_comm ha hk (vP n T u x i) (vP n T u y (k - i)) x c hc)
    have d2 : (p : Int) ∣ sI (fun i => (bin k i : Int) * Pr n T (Pr n T (vP n T u x i) (vP n T u y (k - i))) y c) (k + 1) - sI (fun i => (bin k i : Int) * Pr n T (vP n T u x i) (vP n T u y (k + 1 - i)) c) (k + 1) := by
      rw [sI_sub]
      refine sI_dvd fun i hi => ?_
      rw [← Int.mul_sub, show k + 1 - i = (k - i) + 1 by omega]
      exact Int.dvd_mul_of_dvd_right (Pr_assoc ha (vP n T u x i) (vP n T u y (k - i)) y hc)
    have := Int.dvd_add d1 d2
    rwa [show ∀ A B C D : Int, A - B + (C - D) = A + C - (B + D) from fun A B C D => by omega] at this
include ha hk hu in
theorem vP_frob (hp : primeN p) (x y : Nat → Int) : EqP p n (vP n T u (fun c => x c + y c) p) (fun c => vP n T u x p c + vP n T u y p c) := by
  have hm : p ∈ ([2, 3, 5, 7, 11, 13] : List Nat) := by unfold primeN at hp; simp; omega
  have hp2 := hp.two
  refine EqP.trans (vP_binom ha hk hu x y p) fun c hc => ?_
  have hl : Pr n T (vP n T u x p) u c = Pr n T (vP n T u x p) (vP n T u y (p - p)) c := by rw [Nat.sub_self]; rfl
  have h1 := hu (vP n T u x p) c hc
  have h2 := ((Pr_comm (p := p) hk u (vP n T u y p)).trans (hu _)) c hc
  have e : (p : Int) ∣ sI (fun i => (bin p i : Int) * Pr n T (vP n T u x i) (vP n T u y (p - i)) c) (p + 1) - (Pr n T u (vP n T u y p) c + Pr n T (vP n T u x p) u c) := by
    have e0 : sI (fun i => (bin p i : Int) * Pr n T (vP n T u x i) (vP n T u y (p - i)) c) (p + 1) = sI (fun i => (bin p i : Int) * Pr n T (vP n T u x i) (vP n T u y (p - i)) c) p + (bin p p : Int) * Pr n T (vP n T u x p) (vP n T u y (p - p)) c := rfl
    rw [e0, ← hl, bin_full]
    obtain ⟨q, rfl⟩ : ∃ q, p = q + 1 := ⟨p - 1, by omega⟩
    rw [sI_head, bin_zero]
    have hs : ((q + 1 : Nat) : Int) ∣ sI (fun i => (bin (q + 1) (i + 1) : Int) * Pr n T (vP n T u x (i + 1)) (vP n T u y (q + 1 - (i + 1))) c) q := sI_dvd fun i hi => by
      refine Int.dvd_mul_of_dvd_left (Int.natCast_dvd_natCast.2 (Nat.dvd_of_mod_eq_zero (bin_prime (q + 1) hm (i + 1) (by omega) (by omega))))
    have e3 : ((1 : Nat) : Int) * Pr n T (vP n T u x 0) (vP n T u y (q + 1 - 0)) c = Pr n T u (vP n T u y (q + 1)) c := by rw [Nat.sub_zero]; show ((1 : Nat) : Int) * Pr n T u (vP n T u y (q + 1)) c = _; simp
    rw [e3, show ∀ A B C : Int, A + B + ((1 : Nat) : Int) * C - (A + C) = B from fun A B C => by omega]
    exact hs
  have := Int.dvd_add e (Int.dvd_add h2 h1)
  rwa [show ∀ A B C D E : Int, A - (B + C) + (B - D + (C - E)) = A - (E + D) from fun A B C D E => by omega] at this
def eb (c : Nat) : Nat → Int := fun d => if d = c then 1 else 0
def cutV (v : Nat → Nat) (m : Nat) : Nat → Int := fun d => if d < m then (v d : Int) else 0
include ha hk hu in
theorem vP_lin (hp : primeN p) (v : Nat → Nat) (hv : ∀ c, v c < p) : ∀ m, EqP p n (vP n T u (cutV v m) p) (fun c => sI (fun i => (v i : Int) * vP n T u (eb i) p c) m)
  | 0 => fun c hc => by
    have hp2 := hp.two
    obtain ⟨q, rfl⟩ : ∃ q, p = q + 1 := ⟨p - 1, by omega⟩
    have e : cutV v 0 = fun _ => 0 := funext fun d => by unfold cutV; rw [if_neg (by omega)]
    rw [e, vP_zero]; exact ⟨0, by simp [sI]⟩
  | m + 1 => by
    have hm : p ∈ ([2, 3, 5, 7, 11, 13] : List Nat) := by unfold primeN at hp; simp; omega
    have e : cutV v (m + 1) = fun c => cutV v m c + (fun c => (v m : Int) * eb m c) c := funext fun d => by
      show (if d < m + 1 then (v d : Int) else 0) = (if d < m then (v d : Int) else 0) + (v m : Int) * (if d = m then 1 else 0)
      by_cases h1 : d = m
      · subst h1; rw [if_pos (by omega), if_neg (by omega), if_pos rfl]; omega
      · rw [if_neg h1]
        by_cases h2 : d < m
        · rw [if_pos (by omega), if_pos h2]; omega
        · rw [if_neg (by omega), if_neg h2]; omega
    rw [e]
    refine EqP.trans (vP_frob ha hk hu hp _ _) (EqP.add (vP_lin hp v hv m) fun c hc => ?_)
    rw [vP_smul]
    have h1 : (p : Int) ∣ ((v m : Int) ^ p - (v m : Int)) * vP n T u (eb m) p c := by
      refine Int.dvd_mul_of_dvd_left ?_
      have h2 := fermat p hm (v m) (hv m)
      have h3 := emod_dvd (p : Int) ((v m ^ p : Nat) : Int)
      rw [← Int.natCast_emod, h2] at h3
      have := Int.dvd_neg.2 h3
      rwa [Int.neg_sub, Int.natCast_pow] at this
    rwa [Int.sub_mul] at h1
include ha hk hu in
theorem vP_basis (hp : primeN p) (v : Nat → Nat) (hv : ∀ c, v c < p) : EqP p n (vP n T u (ci v) p) (fun c => sI (fun i => (v i : Int) * vP n T u (eb i) p c) n) := by
  refine EqP.trans (vP_congr (fun c hc => ?_) p) (vP_lin ha hk hu hp v hv n)
  unfold cutV ci; rw [if_pos hc, Int.sub_self]; exact ⟨0, by simp⟩
include ha hk hu in
theorem fix_iff (hp : primeN p) {M : Nat → Nat → Nat} (v : Nat → Nat) (hv : ∀ c, v c < p) (hM : ∀ r, r < n → ∀ c, c < n → (p : Int) ∣ (M r c : Int) - (vP n T u (eb c) p r - eb c r)) : Ker p n M n (ci v) ↔ EqP p n (vP n T u (ci v) p) (ci v) := by
  have key : ∀ r, r < n → (p : Int) ∣ dot n (ci (M r)) (ci v) - (vP n T u (ci v) p r - ci v r) := fun r hr => by
    have h1 := vP_basis ha hk hu hp v hv r hr
    have h2 : (p : Int) ∣ dot n (ci (M r)) (ci v) - (sI (fun i => (v i : Int) * vP n T u (eb i) p r) n - ci v r) := by
      have e : ci v r = sI (fun i => (v i : Int) * eb i r) n := by
        rw [sI_one hr]
        · unfold eb ci; simp
        · intro i _ hne; unfold eb; rw [if_neg (fun e => hne e.symm)]; simp
      rw [e, sI_sub]
      unfold dot
      rw [sI_sub]
      refine sI_dvd fun i hi => ?_
      have := Int.dvd_mul_of_dvd_right (b := (v i : Int)) (hM r hr i hi)
      unfold ci
      rwa [Int.mul_sub, Int.mul_sub, Int.mul_comm] at this
    have := Int.dvd_sub h2 h1
    rwa [show ∀ A B C D : Int, A - (B - C) - (D - B) = A - (D - C) from fun A B C D => by omega] at this
  constructor
  · intro h r hr
    exact (dvd_iff_sub (key r hr)).1 (h r hr)
  · intro h r hr
    exact (dvd_iff_sub (key r hr)).2 (h r hr)
end
end Go.Ech

namespace Go.Ech
open Go.Sw
/-! ### The rows of a kernel's reduced list are in the kernel. -/
theorem sol_E {p n k c i : Nat} {E : Nat → Nat → Nat} {ld : Nat → Nat} (hp : 2 ≤ p) (h : Rref p n E k ld) (hc : c < n) (hf : ¬ isLd k ld c) (hi : i < k) : (p : Int) ∣ dot n (ci (sol p E k ld c)) (ci (E i)) := by
  have hne : ld i ≠ c := fun e => hf ⟨i, hi, e⟩
  have hsm := h.small i hi c hc
  have e : dot n (ci (sol p E k ld c)) (ci (E i)) = sI (fun d => (if d = c then ((E i c : Nat) : Int) else 0) + (if d = ld i then (((p - E i c) % p : Nat) : Int) else 0)) n := by
    unfold dot
    refine sI_congr fun d hd => ?_
    by_cases e1 : d = c
    · subst e1
      rw [if_pos rfl, if_neg (fun e => hne e.symm)]
      unfold ci sol; simp
    · rw [if_neg e1]
      cases h2 : ldAt k ld d with
      | none =>
        have : ci (sol p E k ld c) d = 0 := by unfold ci sol; rw [if_neg e1, h2]; rfl
        rw [this, if_neg (fun e => ldAt_none h2 i hi e.symm)]; simp
      | some j =>
        obtain ⟨hj, hd2⟩ := ldAt_some h2
        have : ci (sol p E k ld c) d = (((p - E j c) % p : Nat) : Int) := by unfold ci sol; rw [if_neg e1, h2]
        rw [this]
        by_cases e2 : j = i
        · subst e2
          rw [if_pos hd2.symm]; unfold ci; rw [← hd2, h.one j hj]; simp
        · have h0 := h.zero j i hj hi e2
          rw [if_neg (fun e => by
            rcases Nat.lt_or_ge j i with q | q
            · have := h.mono j i q hi; omega
            · have := h.mono i j (by omega) hj; omega)]
          unfold ci; rw [← hd2, h0]; simp
  rw [e, sI_add, sI_one hc, sI_one (h.lt i hi)]
  · rw [if_pos rfl, if_pos rfl, Int.natCast_emod, Int.natCast_sub (Nat.le_of_lt hsm)]
    have h1 := emod_dvd (p : Int) ((p : Int) - ((E i c : Nat) : Int))
    have h2 := Int.dvd_add h1 (⟨1, by omega⟩ : (p : Int) ∣ (p : Int))
    rwa [show ∀ A B C : Int, A - (B - C) + B = C + A from fun A B C => by omega] at h2
  · intro j _ hj; simp [hj]
  · intro j _ hj; simp [hj]
theorem dot_comm' {n : Nat} {x y : Nat → Int} : dot n x y = dot n y x := sI_congr fun c _ => Int.mul_comm _ _
theorem ker_row {p n m r j : Nat} {M V : Nat → Nat → Nat} (hp : 2 ≤ p) (h : IsKer p n M m r V) (hj : j < r) : Ker p n M m (ci (V j)) := by
  obtain ⟨k, E, ld, ld2, h1, h2, h3, h4⟩ := h
  refine (h2 _).1 fun i hi => ?_
  rw [dot_comm']
  exact (h4 (ci (E i))).2 (fun c hc hf => sol_E hp h1 hc hf hi) j hj
theorem row_lt {p n m r j c : Nat} {M V : Nat → Nat → Nat} (h : IsKer p n M m r V) (hj : j < r) (hc : c < n) : V j c < p := by
  obtain ⟨k, E, ld, ld2, h1, h2, h3, h4⟩ := h
  exact h3.small j hj c hc
theorem ker_ne {p n m : Nat} {M : Nat → Nat → Nat} {u : Nat → Nat} (hp : 2 ≤ p) (hu : ∀ c, u c < p) {c0 : Nat} (hc0 : c0 < n) (hz : u c0 ≠ 0) (hK : Ker p n M m (ci u)) : ∀ k E ld, Rref p n E k ld → (∀ x, Ker p n E k x ↔ Ker p n M m x) → 0 < nf k ld n := fun k E ld hR hk => by
  refine Decidable.byContradiction fun h0 => ?_
  have hl : ∀ c, c < n → isLd k ld c := fun c hc => Decidable.byContradiction fun hf => by have := nf_lt hc hf; omega
  obtain ⟨i, hi, e⟩ := hl c0 hc0
  have h1 := (hk _).2 hK i hi
  have e1 : dot n (ci (E i)) (ci u) = ((u c0 : Nat) : Int) := by
    unfold dot
    rw [sI_one hc0]
    · have := hR.one i hi; rw [e] at this; unfold ci; rw [this]; simp
    · intro j hj hne
      obtain ⟨q, hq, e2⟩ := hl j hj
      have := hR.zero q i hq hi (fun e3 => hne (by rw [← e2, ← e, e3]))
      rw [e2] at this; unfold ci; rw [this]; simp
  rw [e1] at h1
  exact hz (Nat.eq_zero_of_dvd_of_lt (Int.natCast_dvd_natCast.1 h1) (hu c0))
theorem ker_pos {p n m : Nat} {M : Nat → Nat → Nat} (hp : 2 ≤ p) (hne : ∀ k E ld, Rref p n E k ld → (∀ x, Ker p n E k x ↔ Ker p n M m x) → 0 < nf k ld n) : ∀ r V, IsKer p n M m r V → 0 < r := fun r V h => by
  obtain ⟨k, E, ld, ld2, h1, h2, h3, h4⟩ := h
  obtain ⟨c, hc, hf, _⟩ := nf_at n 0 (hne k E ld h1 h2)
  refine Decidable.byContradiction fun h0 => ?_
  have h5 := (h4 (fun d => if d = c then 1 else 0)).1 (fun i hi => absurd hi (by omega)) c hc hf
  have e : dot n (ci (sol p E k ld c)) (fun d => if d = c then 1 else 0) = ((1 : Nat) : Int) := by
    unfold dot
    rw [sI_one hc]
    · unfold ci sol; simp
    · intro j _ hne2; simp [hne2]
  rw [e] at h5
  have := Nat.eq_zero_of_dvd_of_lt (Int.natCast_dvd_natCast.1 h5) (by omega)
  omega
end Go.Ech

namespace Go.Sw
open Go Go.RowKit
variable {P : Program}
/-! ### Regions that draw their order, with guards (as Sw4, but an operation may be passed over). -/
section
variable {ops : List Oper} {Q : Exit → Act → World → Prop} {n : Nat} {F : List (Nat × Value)} {G : Type} {S : G → World → Prop}
def dstsOkQ (n : Nat) (F : List (Nat × Value)) : List Oper → List Nat → Bool
  | [], _ => true
  | o :: r, seen => (match o.dst with
    | some d => Nat.blt d n && (lk F d).isNone && !(memNat d seen) && dstsOkQ n F r (d :: seen)
    | none => false)

theorem dstsOkQ_spec : ∀ {l : List Oper} {seen : List Nat}, dstsOkQ n F l seen = true → ∀ (i : Nat) (o : Oper), l[i]? = some o → ∃ d, o.dst = some d ∧ d < n ∧ lk F d = none ∧ d ∉ seen ∧ (∀ (j : Nat) (o' : Oper), j < i → l[j]? = some o' → o'.dst ≠ some d)
  | [], _, _, i, o, h => by simp at h
  | x :: r, seen, hb, i, o, h => by
    simp only [dstsOkQ] at hb
    cases hx : x.dst with
    | none => simp [hx] at hb
    | some d =>
      simp only [hx, Bool.and_eq_true, Bool.not_eq_true', Option.isNone_iff_eq_none] at hb
      obtain ⟨⟨⟨h1, h2⟩, h3⟩, h4⟩ := hb
      cases i with
      | zero =>
        simp at h; subst h
        exact ⟨d, hx, Nat.blt_eq.mp h1, h2, (fun hm => by rw [memNat_iff.2 hm] at h3; cases h3), (fun j o' hj => by omega)⟩
      | succ i =>
        obtain ⟨d', g1, g2, g3, g4, g5⟩ := dstsOkQ_spec h4 i o (by simpa using h)
        refine ⟨d', g1, g2, g3, fun hm => g4 (List.mem_cons_of_mem _ hm), fun j o' hj ho' => ?_⟩
        cases j with
        | zero => simp at ho'; subst ho'; rw [hx]; intro e; obtain rfl := Option.some.inj e; exact g4 (List.mem_cons_self ..)
        | succ j => exact g5 j o' (by omega) (by simpa using ho')

def StepsQ {G : Type} (P : Program) (ops : List Oper) (k n : Nat) (F : List (Nat × Value)) (S : G → World → Prop) (φ : Facts G) : List Oper → Nat → Prop
  | [], _ => True
  | o :: r, i => (∀ a w g, Fr n a F → S g w → Deps ops k φ o g a w → if Region.wanted o (yielded ops.toArray a.tmps) = true then Does P o a w (After S φ i g w) else After S φ i g w undef w) ∧ StepsQ P ops k n F S φ r (i + 1)
theorem StepsQ.get {k : Nat} {φ : Facts G} : ∀ {l : List Oper} {i : Nat}, StepsQ P ops k n F S φ l i → ∀ (j : Nat) (o : Oper), l[j]? = some o →
    ∀ a w g, Fr n a F → S g w → Deps ops k φ o g a w → if Region.wanted o (yielded ops.toArray a.tmps) = true then Does P o a w (After S φ (i + j) g w) else After S φ (i + j) g w undef w
  | [], _, _, j, o, h => by simp at h
  | x :: r, i, hs, j, o, h => by
    cases j with
    | zero => simp at h; subst h; exact hs.1
    | succ j => have := hs.2.get j o (by simpa using h); rwa [show i + 1 + j = i + (j + 1) by omega] at this

theorem c_drawQ {id k : Nat} {a : Act} {w : World} (hm : P.follows .mixedOrders = true) (hk : tailOk ops k = true) (hF : Fr n a F) (hdst : dstsOkQ n F (ops.take k) [] = true) (g : G) (hS : S g w)
    (hdr : ∀ w, S g w → S g w.drew) (φ : Facts G)
    (hsteps : StepsQ P ops k n F S φ (ops.take k) 0)
    (hend : ∀ a w g, Fr n a F → S g w → (∀ i, i < k → i < ops.length → φ i g (a.tmps.getD (dstOf ops i) undef) w) → wpList P ops.toArray Q (ops.drop k) a w) :
    (Code.region id ops.toArray true).wp P Q a w := by
  refine wp_region_any hm ?_
  simp only [tailOk, Bool.and_eq_true] at hk
  obtain ⟨hback, htail⟩ := hk
  have hge : ∀ (i : Nat), ops.toArray[i]? = ops[i]? := fun i => by simp
  have hreach : ∀ i j, k ≤ i → i < ops.length → j < i → Reach ops i j := fun i j h1 h2 h3 =>
    masks_spec ops [] (fun i => by simp) (fun m j h => by simp at h) i j (bitsFrom_spec htail i h1 h2 (by omega) j h3)
  have edge_listed : ∀ {i : Nat} {o : Oper} {listed : Array Bool} {j : Nat}, i ∈ Region.ready .any ops.toArray listed → ops[i]? = some o → edgeTo o j = true → listed.getD j false = true := by
    intro i o listed j hi ho he
    obtain ⟨_, o', ho', hall⟩ := mem_ready.1 hi
    rw [hge, ho] at ho'
    obtain rfl := Option.some.inj ho'
    simp only [edgeTo, List.any_eq_true, Bool.and_eq_true] at he
    obtain ⟨e, hm', hb, hj⟩ := he
    obtain rfl := Nat.eq_of_beq_eq_true hj
    exact hall e (by simpa using hm') hb
  have reach_listed : ∀ {listed : Array Bool}, (∀ (j : Nat) o, ops[j]? = some o → listed.getD j false = true → ∀ e ∈ o.after, Region.binds .any e = true → listed.getD e.on false = true) → ∀ i j, Reach ops i j → (∀ o m, ops[i]? = some o → edgeTo o m = true → listed.getD m false = true) → listed.getD j false = true := by
    intro listed hcl i j hr
    induction hr with
    | one ho he => intro h; exact h _ _ ho he
    | more ho he _ ih =>
      intro h
      have hm' := h _ _ ho he
      refine ih (fun o m ho2 he2 => ?_)
      simp only [edgeTo, List.any_eq_true, Bool.and_eq_true] at he2
      obtain ⟨e, hin, hb, hj⟩ := he2
      obtain rfl := Nat.eq_of_beq_eq_true hj
      exact hcl _ o ho2 hm' e (by simpa using hin) hb
  -- the tail
  have tail : ∀ (f m : Nat) (listed : Array Bool) (a : Act) (w : World), k ≤ m → ops.length - m ≤ f → (∀ j, j < m → j < ops.length → listed.getD j false = true) → (∀ j, m ≤ j → j < ops.length → listed.getD j true = false) →
      wpList P ops.toArray Q (ops.drop m) a w → wpAny P .any ops.toArray Q f listed a w := by
    intro f
    induction f with
    | zero =>
      intro m listed a w hkm hf h1 h2 h
      rw [List.drop_eq_nil_of_le (by omega)] at h
      refine ⟨?_, h⟩
      cases hr : Region.ready .any ops.toArray listed with
      | nil => rfl
      | cons i r =>
        obtain ⟨g1, o, ho, _⟩ := mem_ready.1 (hr ▸ List.mem_cons_self .. : i ∈ Region.ready .any ops.toArray listed)
        rw [hge] at ho
        have hi := (List.getElem?_eq_some_iff.1 ho).1
        have := h1 i (by omega) hi
        simp [Array.getD_eq_getD_getElem?] at this g1
        cases hh : listed[i]? <;> simp [hh] at this g1
        rw [this] at g1; cases g1
    | succ f ih =>
      intro m listed a w hkm hf h1 h2 h
      have only : ∀ i ∈ Region.ready .any ops.toArray listed, i = m := by
        intro i hi
        obtain ⟨g1, o, ho, hall⟩ := mem_ready.1 hi
        have ho' := ho
        rw [hge] at ho'
        have hil := (List.getElem?_eq_some_iff.1 ho').1
        by_cases hlt : i < m
        · have := h1 i hlt hil
          simp [Array.getD_eq_getD_getElem?] at this g1
          cases hh : listed[i]? <;> simp [hh] at this g1
          rw [this] at g1; cases g1
        · by_cases e : i = m
          · exact e
          · have := reach_listed (listed := listed) (fun j o hj hl e he hbnd => by
                have hjl := (List.getElem?_eq_some_iff.1 hj).1
                have hjm : j < m := by
                  rcases Nat.lt_or_ge j m with h | h
                  · exact h
                  · have h3 := h2 j h hjl
                    simp [Array.getD_eq_getD_getElem?] at hl h3
                    cases hh : listed[j]? <;> simp [hh] at hl h3
                    rw [hl] at h3; cases h3
                have := edgesBack_spec hback j o hj e he hbnd
                exact h1 e.on (by omega) (by omega)) i m (hreach i m (by omega) hil (by omega)) (fun o2 q ho2 he2 => by
                rw [ho'] at ho2; obtain rfl := Option.some.inj ho2; exact edge_listed hi ho' he2)
            have h3 := h2 m (Nat.le_refl _) (by omega)
            simp [Array.getD_eq_getD_getElem?] at this h3
            cases hh : listed[m]? <;> simp [hh] at this h3
            rw [this] at h3; cases h3
      refine ⟨fun hr => ?_, fun i hi => ?_⟩
      · by_cases hml : m < ops.length
        · exfalso
          have : m ∈ Region.ready .any ops.toArray listed := by
            refine mem_ready.2 ⟨h2 m (Nat.le_refl _) hml, ops[m], by simp [hml], fun e he hbnd => ?_⟩
            have := edgesBack_spec hback m ops[m] (by simp [hml]) e he hbnd
            exact h1 e.on (by omega) (by omega)
          rw [hr] at this; cases this
        · rw [List.drop_eq_nil_of_le (by omega)] at h; exact h
      · obtain rfl := only i hi
        obtain ⟨g1, o, ho, _⟩ := mem_ready.1 hi
        rw [hge] at ho
        have hil := (List.getElem?_eq_some_iff.1 ho).1
        have hdrop : ops.drop i = o :: ops.drop (i + 1) := by
          rw [List.drop_eq_getElem_cons hil]; congr 1; exact (List.getElem?_eq_some_iff.1 ho).2
        rw [hdrop] at h
        have K : ∀ a w, wpList P ops.toArray Q (ops.drop (i + 1)) a w → wpAny P .any ops.toArray Q f (listed.setIfInBounds i true) a w := by
          intro a w hh
          refine ih (i + 1) _ a w (by omega) (by omega) (fun j hj hjl => ?_) (fun j hj hjl => ?_) hh
          · by_cases e : i = j
            · subst e
              have hsz : i < listed.size := by
                rcases Nat.lt_or_ge i listed.size with h' | h'
                · exact h'
                · simp [Array.getElem?_eq_none h'] at g1
              simp [hsz]
            · rw [getD_set_ne false e]; exact h1 j (by omega) hjl
          · rw [getD_set_ne true (by omega)]; exact h2 j (by omega) hjl
        unfold wpOp
        rw [hge, ho]
        unfold wpList at h
        show (if Region.wanted o (yielded ops.toArray a.tmps) then _ else _)
        split
        · rename_i hw
          rw [if_pos hw] at h
          exact h.imp (Oper.wp_mono K) (fun x => x)
        · rename_i hw
          rw [if_neg hw] at h
          exact K _ _ h
  -- the head
  have head : ∀ (f : Nat) (listed : Array Bool) (a : Act) (w : World) (g : G), listed.size = ops.length → (List.range ops.length).countP (fun i => !listed.getD i true) ≤ f → (∀ j, k ≤ j → j < ops.length → listed.getD j true = false) → (∀ (j : Nat) o, ops[j]? = some o → listed.getD j false = true → ∀ e ∈ o.after, Region.binds .any e = true → listed.getD e.on false = true) →
      Fr n a F → S g w → (∀ i, i < k → i < ops.length → listed.getD i false = true → φ i g (a.tmps.getD (dstOf ops i) undef) w) → wpAny P .any ops.toArray Q f listed a w := by
    intro f
    induction f with
    | zero =>
      intro listed a w g hsz hc h2 hcl hF hS hφ'
      have all : ∀ j, j < ops.length → listed.getD j true = true := by
        intro j hj
        have h0 : (List.range ops.length).countP (fun i => !listed.getD i true) = 0 := by omega
        have := List.countP_eq_zero.1 h0 j (by simpa using hj)
        simpa using this
      have hlen : ops.length ≤ k := by
        rcases Nat.lt_or_ge k ops.length with h | h
        · have e1 := h2 k (Nat.le_refl _) h
          rw [all k h] at e1; cases e1
        · exact h
      refine tail 0 k listed a w (Nat.le_refl _) (by omega) (fun j _ hj => ?_) (fun j hj hjl => by omega) ?_
      · have := all j hj
        have hjs : j < listed.size := by omega
        simpa [Array.getD_eq_getD_getElem?, hjs] using this
      · refine hend a w g hF hS (fun i hi hil => hφ' i hi hil ?_)
        have := all i hil
        have hjs : i < listed.size := by omega
        simpa [Array.getD_eq_getD_getElem?, hjs] using this
    | succ f ih =>
      intro listed a w g hsz hc h2 hcl hF hS hφ'
      by_cases all : ∀ j, j < k → j < ops.length → listed.getD j false = true
      · refine tail (f + 1) k listed a w (Nat.le_refl _) ?_ all h2 (hend a w g hF hS (fun i hi hil => hφ' i hi hil (all i hi hil)))
        -- as many are left as stand behind k
        have hge' : ∀ (m : Nat), m ≤ ops.length → m - k ≤ (List.range m).countP (fun i => !listed.getD i true) := by
          intro m
          induction m with
          | zero => intro _; simp
          | succ m ihm =>
            intro hm'
            have := ihm (by omega)
            rw [List.range_succ, List.countP_append]
            by_cases hkm : k ≤ m
            · have e1 := h2 m hkm (by omega)
              have e2 : List.countP (fun i => !listed.getD i true) [m] = 1 := by rw [List.countP_cons, e1]; rfl
              omega
            · omega
        have := hge' ops.length (Nat.le_refl _)
        omega
      · have step : ∀ i ∈ Region.ready .any ops.toArray listed, i < k := by
          intro i hi
          rcases Nat.lt_or_ge i k with h | h
          · exact h
          · exfalso
            obtain ⟨g1, o, ho, _⟩ := mem_ready.1 hi
            rw [hge] at ho
            have hil := (List.getElem?_eq_some_iff.1 ho).1
            exact all (fun j hj hjl => reach_listed hcl i j (hreach i j h hil (by omega)) (fun o2 q ho2 he2 => by
              rw [ho] at ho2; obtain rfl := Option.some.inj ho2; exact edge_listed hi ho he2))
        refine ⟨fun hr => ?_, fun i hi => ?_⟩
        · exfalso
          apply all
          intro j
          induction j using Nat.strongRecOn with
          | _ j ihj =>
            intro hjk hjl
            cases hl : listed.getD j false with
            | true => rfl
            | false =>
              have hjs : j < listed.size := by omega
              have hm' : j ∈ Region.ready .any ops.toArray listed := by
                refine mem_ready.2 ⟨?_, ops[j], by simp [hjl], fun e he hbnd => ?_⟩
                · simpa [Array.getD_eq_getD_getElem?, hjs] using hl
                · have := edgesBack_spec hback j ops[j] (by simp [hjl]) e he hbnd
                  exact ihj e.on (by omega) (by omega) (by omega)
              rw [hr] at hm'; cases hm'
        · have hik := step i hi
          obtain ⟨g1, o, ho, hall'⟩ := mem_ready.1 hi
          rw [hge] at ho
          have hil := (List.getElem?_eq_some_iff.1 ho).1
          have hti : (ops.take k)[i]? = some o := by rw [List.getElem?_take, if_pos hik]; exact ho
          obtain ⟨d, hd1, hd2, hd3, _, hd5⟩ := dstsOkQ_spec hdst i o hti
          have hdo : dstOf ops i = d := by simp [dstOf, ho, hd1]
          have hdne : ∀ j, j < k → j < ops.length → j ≠ i → dstOf ops j ≠ d := by
            intro j hj hjl hne e
            have hoj : ops[j]? = some ops[j] := by simp [hjl]
            have htj : (ops.take k)[j]? = some ops[j] := by rw [List.getElem?_take, if_pos hj]; exact hoj
            obtain ⟨d', e1, _, _, _, e5⟩ := dstsOkQ_spec hdst j ops[j] htj
            have hdj : dstOf ops j = d' := by simp only [dstOf, hoj, Option.bind_some, e1, Option.getD_some]
            have hdd : d' = d := by rw [← hdj]; exact e
            subst hdd
            rcases Nat.lt_or_gt_of_ne hne with h | h
            · exact hd5 j ops[j] h htj e1
            · exact e5 i o h hti hd1
          have hdoes := StepsQ.get hsteps i o hti a w g hF hS (fun j hj he => by
            have hj' : j < k := Nat.blt_eq.mp hj
            have hl := edge_listed hi ho he
            have hjl : j < ops.length := by
              rcases Nat.lt_or_ge j listed.size with h | h
              · omega
              · simp [Array.getElem?_eq_none h] at hl
            exact hφ' j hj' hjl hl)
          unfold wpOp
          rw [hge, ho]
          show (if Region.wanted o (yielded ops.toArray a.tmps) then _ else _)
          simp only [Nat.zero_add] at hdoes
          have cont : ∀ v w', After S φ i g w v w' → wpAny P .any ops.toArray Q f (listed.setIfInBounds i true) (a.put o.dst v) w' := by
            intro v w' hv
            obtain ⟨g', hS', hvi, hothers⟩ := hv
            have hF' : Fr n (a.put o.dst v) F := by
              rw [hd1]
              have := hF.put d v (Nat.blt_eq.mpr hd2)
              refine ⟨this.defers, this.size, fun t u ht => this.get t u ?_⟩
              simp only [lk]
              have hne : ¬ d = t := fun e => by subst e; rw [hd3] at ht; cases ht
              rw [beqF hne]; exact ht
            refine ih _ _ _ g' (by simpa using hsz) ?_ (fun j hj hjl => ?_) (fun j oj hoj hl e he hb => ?_) hF' hS' (fun j hj hjl hl => ?_)
            · have : (List.range ops.length).countP (fun j => !(listed.setIfInBounds i true).getD j true) < (List.range ops.length).countP (fun j => !listed.getD j true) := by
                refine countP_lt (fun x hx => ?_) ⟨i, by simpa using hil, by simpa using g1, ?_⟩
                · by_cases e : i = x
                  · subst e; simp only [g1]; rfl
                  · rw [getD_set_ne true e] at hx; exact hx
                · have : i < listed.size := by omega
                  simp [this]
              omega
            · rw [getD_set_ne true (by omega)]; exact h2 j hj hjl
            · refine getD_set_true ?_
              by_cases ej : j = i
              · subst ej
                rw [ho] at hoj; obtain rfl := Option.some.inj hoj
                exact hall' e he hb
              · rw [getD_set_ne false (Ne.symm ej)] at hl
                exact hcl j oj hoj hl e he hb
            · by_cases e : j = i
              · subst e
                rw [hd1, hdo]
                have : (a.put (some d) v).tmps.getD d undef = v := by simp [Act.put, hF.size, hd2]
                rw [this]; exact hvi
              · rw [getD_set_ne false (Ne.symm e)] at hl
                have hold := hothers j _ e (hφ' j hj hjl hl)
                have hdn := hdne j hj hjl e
                rw [hd1]
                have : (a.put (some d) v).tmps.getD (dstOf ops j) undef = a.tmps.getD (dstOf ops j) undef := by
                  simp [Act.put, Array.getElem?_setIfInBounds_ne (Ne.symm hdn)]
                rw [this]; exact hold
          by_cases hw : Region.wanted o (yielded ops.toArray a.tmps) = true
          · rw [if_pos hw] at hdoes ⊢; exact .inl (hdoes.run _ _ cont)
          · rw [if_neg hw] at hdoes ⊢; exact cont _ _ hdoes
  refine head ops.toArray.size (Array.replicate ops.toArray.size false) a _ g (by simp) ?_ (fun j _ hj => by simp [hj]) (fun j o hj hl e he hbnd => by have hjl := (List.getElem?_eq_some_iff.1 hj).1; simp [hjl] at hl) hF (hdr _ hS) (fun i _ hi hl => by simp [hi] at hl)
  · have := List.countP_le_length (l := List.range ops.length) (p := fun i => !(Array.replicate ops.toArray.size false).getD i true)
    simpa using this
theorem q_none {o : Oper} {a : Act} {w : World} {S : G → World → Prop} {φ : Facts G} {i : Nat} {g : G} (hg : o.guard = none) (h : Does P o a w (After S φ i g w)) : if Region.wanted o (yielded ops.toArray a.tmps) = true then Does P o a w (After S φ i g w) else After S φ i g w undef w := by
  rw [if_pos (by simp [Region.wanted, hg])]; exact h
theorem q_yes {o : Oper} {a : Act} {w : World} {S : G → World → Prop} {φ : Facts G} {i j dj : Nat} {b : Bool} {g : G} {F' : List (Nat × Value)} (hg : o.guard = some (j, b)) (hF : Fr n a F') (hj : (ops.toArray[j]?).bind (·.dst) = some dj) (hjn : Nat.blt dj n = true) (hb : lk F' dj = some (.bool b)) (h : Does P o a w (After S φ i g w)) : if Region.wanted o (yielded ops.toArray a.tmps) = true then Does P o a w (After S φ i g w) else After S φ i g w undef w := by
  rw [if_pos (by simp [Region.wanted, hg, yielded_of hF hj hjn hb])]; exact h
theorem q_no {o : Oper} {a : Act} {w : World} {S : G → World → Prop} {φ : Facts G} {i j dj : Nat} {b c : Bool} {g : G} {F' : List (Nat × Value)} (hg : o.guard = some (j, c)) (hF : Fr n a F') (hj : (ops.toArray[j]?).bind (·.dst) = some dj) (hjn : Nat.blt dj n = true) (hb : lk F' dj = some (.bool b)) (hbc : (b == c) = false) (h : After S φ i g w undef w) : if Region.wanted o (yielded ops.toArray a.tmps) = true then Does P o a w (After S φ i g w) else After S φ i g w undef w := by
  rw [if_neg (by simp [Region.wanted, hg, yielded_of hF hj hjn hb]; intro e; subst e; simp at hbc)]; exact h
end
theorem gives_eq {P : Program} {o : Oper} {a : Act} {w : World} {v v' : Value} (h : Gives P o a w v) (e : v = v') : Gives P o a w v' := e ▸ h
theorem c_parQ {P : Program} {ops : List Oper} {Q : Exit → Act → World → Prop} {n : Nat} {F : List (Nat × Value)} {X : List Nat} {w0 : World} {L0 : Own} {D : Froz} {id : Nat} {a : Act} {w : World} (k : Nat) (W : List Nat) (l : List Fact) (hm : P.follows .mixedOrders = true) (hk : tailOk ops k = true) (hF : Fr n a F) (hdst : dstsOkQ n F (ops.take k) [] = true) (hM : MemX X w0 w L0 D)
    (hsteps : StepsQ P ops k n F (Par X w0 D W L0) (factsOf l) (ops.take k) 0)
    (hend : ∀ a w L, Fr n a F → Par X w0 D W L0 L w → (∀ i, Nat.blt i k = true → Nat.blt i ops.length = true → factsOf l i L (a.tmps.getD (dstOf ops i) undef) w) → wpList P ops.toArray Q (ops.drop k) a w) :
    (Code.region id ops.toArray true).wp P Q a w :=
  c_drawQ (S := Par X w0 D W L0) hm hk hF hdst L0 ⟨hM, Same.refl _ _⟩ (fun _ h => ⟨h.1.ext (Below.drew (Below.refl _ _)), h.2⟩) (factsOf l) hsteps
    (fun a w L hF hS hq => hend a w L hF hS fun i h1 h2 => hq i (Nat.blt_eq.mp h1) (Nat.blt_eq.mp h2))
end Go.Sw

namespace Go.Sw
open Go Go.RowKit
variable {P : Program}
/-! ### Appending what may be nothing. -/
theorem run_append0 {X : List Nat} {w0 w : World} {L : Own} {D : Froz} {T e : TypeId} {z : Value} {size bytes n k bx ox cx b cap : Nat} {cs : Array Value} {v : Value} {ent : Option (Nat × Array Value)} {f : Nat → Value} (hT : slI P T = some (e, some z, size, bytes))
    (hM : MemX X w0 w L D) (hk : L[k]? = some ent) (hat : SlAt size v ent n b cap cs f) (ty : TypeId) :
    ∃ w', (Builtin.append_ #[T, T] ty #[v, .slice (some ⟨bx, ox, none⟩) 0 cx]).run P w = .ok v w' ∧ MemX X w0 w' (L.set k ent) D := by
  unfold slI at hT
  cases hu : P.underlying T with
  | none => simp [hu] at hT
  | some dd =>
    cases dd <;> simp [hu] at hT
    rename_i el
    obtain ⟨inf, hinf, rfl, hz0, hsz, hby⟩ := hT
    subst hsz
    obtain ⟨rfl, rfl, hle, hmax, hcsz, hget⟩ := hat
    obtain ⟨tt, hgg⟩ := hM.row k hk
    have hf := run_firstCells_some (P := P) (w := w) inf.size 0 ⟨bx, ox, none⟩ 0 cx [] (by simp) (by simp)
    have hfit : n * inf.size + ([] : List Value).length ≤ cs.size := by rw [hcsz]; simp; exact Nat.mul_le_mul_right _ hle
    have hst := run_storeCells_at P b (n * inf.size) tt [] 0 cs w hgg (by simpa using hfit) (by simp)
    simp only [Nat.add_zero] at hst
    have e1 : splice cs (n * inf.size) #[] = cs := by unfold splice; simp
    have hr : (Builtin.append_ #[T, T] ty #[.slice (some ⟨b, 0, none⟩) n cap, .slice (some ⟨bx, ox, none⟩) 0 cx]).run P w = .ok (.slice (some ⟨b, 0, none⟩) n cap) (w.setRow b (splice cs (n * inf.size) #[])) := by
      simp [Builtin.append_, run_underlying hu, Go.sizeOf, typeInfo, hinf, Builtin.lenOf, hle, hf, Addr.add_lit, hst, splice]
    refine ⟨_, hr, ?_⟩
    rw [e1]
    exact hM.setRow k hk cs
section
variable {ops : Array Oper} {Q : Exit → Act → World → Prop} {rest : List Oper} {n : Nat} {F : List (Nat × Value)} {a : Act} {X : List Nat} {w w0 : World} {L : Own} {D : Froz}
variable {d : Option Tmp} {t : TypeId} {pos : String} {af : Array Edge} {gd : Option (Nat × Bool)} {T : TypeId} {x y : Operand}
theorem d_appendA {e : TypeId} {z : Value} {size bytes N k m bx ox cx b cap : Nat} {cs : Array Value} {v : Value} {ent : Option (Nat × Array Value)} {f g : Nat → Value} (hT : slI P T = some (e, some z, size, bytes)) (hz : z.cells.size = size) (hs0 : 0 < size)
    (hM : MemX X w0 w L D) (hk : L[k]? = some ent) (hF : Fr n a F) (hx : look F x = some v) (hy : look F y = some (.slice (some ⟨bx, ox, none⟩) m cx)) (hv : SlAt size v ent N b cap cs f) (hg : ∀ i, i < m * size → w.cell? ⟨bx, ox + i, none⟩ = some (g i)) (h1 : ∀ i, i < m * size → (g i).oneCell' = true)
    (h63 : N + m ≤ maxLen) (hb : (N + m) * bytes ≤ 140737488355328) :
    Does P ⟨d, .call { callee := .builtin .append, args := #[x, y], argTypes := #[T, T] }, t, pos, af, gd⟩ a w (fun u w' => ∃ b' cap' cs', u = .slice (some ⟨b', 0, none⟩) (N + m) cap' ∧ MemX X w0 w' (L.set k (some (b', cs'))) D ∧ SlAt size u (some (b', cs')) (N + m) b' cap' cs' (fun i => if i < N * size then f i else g (i - N * size))) := by
  by_cases hm : 0 < m
  · refine (d_append hT hz hs0 hM hk hF hx hy (.inr ⟨_, _, _, hv⟩) hg h1 hm h63 hb).mono fun u w' ⟨e', h2, h3⟩ => ?_
    obtain ⟨b', cap', cs', hu, rfl, h4⟩ := h3.pos (by omega)
    exact ⟨b', cap', cs', hu, h2, h4⟩
  · obtain rfl : m = 0 := by omega
    refine ⟨fun K Q hK => ?_⟩
    obtain ⟨w', hr, h2⟩ := run_append0 (P := P) (T := T) (bx := bx) (ox := ox) (cx := cx) hT hM hk hv t
    unfold Oper.wp execOp
    simp only [resolve, invoke, builtin, Sem.run_bind, Sem.run_pure, Result.andThen_ok, List.map_toArray, List.map_cons, List.map_nil, hF.eval hx, hF.eval hy]
    rw [hr]
    obtain ⟨h5, rfl, h6, h7, h8, h9⟩ := hv
    exact hK v w' ⟨b, cap, cs, h5, h2, h5, rfl, h6, h7, h8, fun i hi => by rw [if_pos (by simpa using hi)]; exact h9 i (by simpa using hi)⟩
theorem g_sliceLoA {e : TypeId} {b o len cap i s : Nat} {κ : IntKind} {X : Int} (hT : P.underlying T = some (.slice e)) (he : sizeP P e = some s) (hF : Fr n a F) (hx : look F x = some (.slice (some ⟨b, o, none⟩) len cap)) (hy : look F y = some (.int κ X)) (hX : X = (i : Int)) (hi : i ≤ len) (hl : len ≤ cap) :
    Gives P ⟨d, .slice T x (some y) none none, t, pos, af, gd⟩ a w (.slice (some ⟨b, if i = cap then o else o + i * s, none⟩) (len - i) (cap - i)) := by
  by_cases hc : i < cap
  · rw [if_neg (by omega)]; exact g_sliceLo hT he hF hx hy hX hi hl hc
  · subst hX
    obtain rfl : i = cap := by omega
    obtain rfl : len = i := by omega
    rw [if_pos rfl]
    refine gives_of_run ?_
    have h1 : (0 : Int) ≤ (len : Int) ∧ (len : Int) ≤ (len : Int) := by omega
    have h2 := run_sizeOf he w
    simp [execOp, Instr.sliceAt, Instr.slice, run_underlying hT, hF.eval hx, hF.eval hy, Instr.sliceBounds, Instr.sliceBound, asIntOf, h1, h2, Addr.add_lit]
end
end Go.Sw
