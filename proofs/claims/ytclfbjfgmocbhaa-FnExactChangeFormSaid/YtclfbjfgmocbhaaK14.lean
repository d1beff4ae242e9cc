/- What functions of the program return, as walks over their operations; no statement of the seat is proved here. -/
import Derived.Test.YtclfbjfgmocbhaaK12
set_option linter.unusedVariables false
set_option linter.unusedSimpArgs false
namespace Go.Proofs.Ytclfbjfgmocbhaa
open Go Go.RowKit Go.Sw Go.Ech
open Classical
/-- The model's equations for a vector behind. -/
def bL (p n : Nat) (T : Nat → Nat → Nat → Nat) (v uu : Nat → Nat) (k j : Nat) : Nat := if j < n then timesS p n T v (fun y => if y = j then 1 else 0) k else uu k
theorem bL_lt {p n : Nat} {T : Nat → Nat → Nat → Nat} {v uu : Nat → Nat} (hp : 0 < p) (hu : ∀ c, uu c < p) : ∀ k j, bL p n T v uu k j < p := fun k j => by
  unfold bL; split
  · unfold timesS; split
    · unfold timesV; exact Nat.mod_lt _ hp
    · exact hp
  · exact hu k
theorem bL_ker {p n : Nat} {T : Nat → Nat → Nat → Nat} {v uu x : Nat → Nat} : Ker p (n + 1) (bL p n T v uu) n (aug n x) ↔ ∀ c, c < n → (p : Int) ∣ Pr n T (ci v) (ci x) c - (uu c : Int) := by
  unfold Ker
  refine forall_congr' fun c => imp_congr_right fun hc => ?_
  rw [← left_iff]
  have e : dot (n + 1) (ci (bL p n T v uu c)) (aug n x) = sI (fun a => (x a : Int) * ((timesV p n T v (fun y => if y = a then 1 else 0) c : Nat) : Int)) n - (uu c : Int) := by
    unfold dot
    simp only [sI]
    have e1 : sI (fun j => ci (bL p n T v uu c) j * aug n x j) n = sI (fun a => (x a : Int) * ((timesV p n T v (fun y => if y = a then 1 else 0) c : Nat) : Int)) n := sI_congr fun j hj => by
      rw [aug_lt hj]; simp only [ci, bL, if_pos hj, timesS, if_pos hc]; exact Int.mul_comm _ _
    have e2 : ci (bL p n T v uu c) n = (uu c : Int) := by simp only [ci, bL]; rw [if_neg (by omega)]
    rw [e1, e2, aug_n]; omega
  rw [e]
theorem Pr_lin {n : Nat} {T : Nat → Nat → Nat → Nat} {v A B C : Nat → Int} {d : Nat} : Pr n T v (fun c => A c - B c + C c) d = Pr n T v A d - Pr n T v B d + Pr n T v C d := by
  simp only [Pr_right]
  rw [sI_sub, ← sI_add]
  exact sI_congr fun b _ => by grind
/-- What is the only one to solve v x = u is the inverse from both sides. -/
theorem left_two {p n : Nat} {T : Nat → Nat → Nat → Nat} {uu v x : Nat → Nat} (hp : 0 < p) (ha : AssI p n T) (hu : UnitI p n T uu) (hvx : ∀ c, c < n → (p : Int) ∣ Pr n T (ci v) (ci x) c - (uu c : Int))
    (hq : ∀ y : Nat → Nat, (∀ i, i < n → y i < p) → (∀ c, c < n → (p : Int) ∣ Pr n T (ci v) (ci y) c - (uu c : Int)) → ∀ i, i < n → y i = x i) : ∀ c, c < n → (p : Int) ∣ Pr n T (ci x) (ci v) c - (uu c : Int) := by
  intro c hc
  let z : Nat → Int := fun c => Pr n T (ci x) (ci v) c - ci uu c + ci x c
  let y : Nat → Nat := fun c => (z c % (p : Int)).toNat
  have hp' : (0 : Int) < p := by omega
  have hyz : ∀ c, (p : Int) ∣ ci y c - z c := fun c => by
    have h1 : ci y c = z c % (p : Int) := by
      have := Int.emod_nonneg (z c) (show (p : Int) ≠ 0 by omega)
      simp only [ci, y]; omega
    rw [h1]; exact emod_dvd _ _
  have hy1 : ∀ i, i < n → y i < p := fun i _ => by
    have h1 := Int.emod_nonneg (z i) (show (p : Int) ≠ 0 by omega)
    have h2 := Int.emod_lt_of_pos (z i) hp'
    simp only [y]; omega
  have hy2 : ∀ d, d < n → (p : Int) ∣ Pr n T (ci v) (ci y) d - (uu d : Int) := fun d hd => by
    have a1 : (p : Int) ∣ Pr n T (ci v) (ci y) d - Pr n T (ci v) z d := Pr_congr (fun a _ => by simp) (fun b _ => hyz b) d
    have a2 : Pr n T (ci v) z d = Pr n T (ci v) (Pr n T (ci x) (ci v)) d - Pr n T (ci v) (ci uu) d + Pr n T (ci v) (ci x) d := Pr_lin
    have a3 := Pr_assoc ha (ci v) (ci x) (ci v) hd
    have a4 : (p : Int) ∣ Pr n T (Pr n T (ci v) (ci x)) (ci v) d - Pr n T (ci uu) (ci v) d := Pr_congr (fun a h => hvx a h) (fun b _ => by simp) d
    have a5 := Pr_unit_left hu (ci v) hd
    have a6 := Pr_unit_right hu (ci v) hd
    have a7 := hvx d hd
    rw [a2] at a1
    have b1 := Int.dvd_add a1 a7
    have b2 := Int.dvd_sub b1 a3
    have b3 := Int.dvd_add b2 a4
    have b4 := Int.dvd_add b3 a5
    have b5 := Int.dvd_sub b4 a6
    have e : ∀ Y A U X W Q V u : Int, Y - (A - U + X) + (X - u) - (W - A) + (W - Q) + (Q - V) - (U - V) = Y - u := by intro Y A U X W Q V u; omega
    rwa [e] at b5
  have h3 := hq y hy1 hy2 c hc
  have h4 := hyz c
  have e : ci y c = ci x c := by simp only [ci]; rw [h3]
  rw [e] at h4
  have h5 := Int.dvd_neg.2 h4
  rwa [show -(ci x c - z c) = Pr n T (ci x) (ci v) c - (uu c : Int) by simp only [z, ci]; omega] at h5
theorem left_yes {p n k : Nat} {E : Nat → Nat → Nat} {ld : Nat → Nat} {T : Nat → Nat → Nat → Nat} {uu v : Nat → Nat} (hp : 0 < p) (ha : AssI p n T) (hu : UnitI p n T uu) (h : Rref p (n + 1) E k ld) (hK : ∀ x, Ker p (n + 1) E k x ↔ Ker p (n + 1) (bL p n T v uu) n x) (hf : Full p n E k ld) : InvI p n T uu v (fun c => if c < n then E c n else 0) := by
  have hkk := hf.k
  have hl : ∀ c, c < n → (p : Int) ∣ Pr n T (ci v) (ci (fun c => if c < n then E c n else 0)) c - (uu c : Int) :=
    bL_ker.1 ((hK _).1 ((full_sol h hf (fun c => if c < n then E c n else 0) (fun i hi => by simp only [if_pos hi]; exact h.small i (by omega) n (by omega))).2 (fun i hi => by simp only [if_pos hi])))
  refine ⟨fun c => ?_, fun c hc => by simp [show ¬ c < n by omega], ?_, hl⟩
  · split
    · rename_i hc; exact h.small c (by omega) n (by omega)
    · exact hp
  · exact left_two hp ha hu hl fun y hy hyK i hi => by
      have := (full_sol h hf y hy).1 ((hK _).2 (bL_ker.2 hyK)) i hi
      rw [this, if_pos hi]
theorem left_full {p n k : Nat} {E : Nat → Nat → Nat} {ld : Nat → Nat} {T : Nat → Nat → Nat → Nat} {uu v w : Nat → Nat} (hp : 2 ≤ p) (ha : AssI p n T) (hu : UnitI p n T uu) (h : Rref p (n + 1) E k ld) (hK : ∀ x, Ker p (n + 1) E k x ↔ Ker p (n + 1) (bL p n T v uu) n x) (hw : InvI p n T uu v w) : Full p n E k ld := by
  refine full_of_unique hp h w (fun i _ => hw.small i) ((hK _).2 (bL_ker.2 hw.left)) (fun y hy hyK i hi => eq_of_dvd (hy i hi) (hw.small i) ?_)
  have hyl := bL_ker.1 ((hK _).1 hyK)
  -- w v = u and v y = u: y is w
  have h1 := Pr_assoc ha (ci w) (ci v) (ci y) hi
  have h2 : (p : Int) ∣ Pr n T (Pr n T (ci w) (ci v)) (ci y) i - Pr n T (ci uu) (ci y) i := Pr_congr (fun a h => hw.right a h) (fun b _ => by simp) i
  have h3 : (p : Int) ∣ Pr n T (ci w) (Pr n T (ci v) (ci y)) i - Pr n T (ci w) (ci uu) i := Pr_congr (fun a _ => by simp) (fun b h => hyl b h) i
  have h4 := Pr_unit_left hu (ci y) hi
  have h5 := Pr_unit_right hu (ci w) hi
  have e : ci y i - ci w i = (Pr n T (Pr n T (ci w) (ci v)) (ci y) i - Pr n T (ci w) (Pr n T (ci v) (ci y)) i) - (Pr n T (Pr n T (ci w) (ci v)) (ci y) i - Pr n T (ci uu) (ci y) i) - (Pr n T (ci uu) (ci y) i - ci y i) + (Pr n T (ci w) (Pr n T (ci v) (ci y)) i - Pr n T (ci w) (ci uu) i) + (Pr n T (ci w) (ci uu) i - ci w i) := by omega
  show (p : Int) ∣ ci y i - ci w i
  rw [e]
  exact Int.dvd_add (Int.dvd_add (Int.dvd_sub (Int.dvd_sub h1 h2) h4) h3) h5

end Go.Proofs.Ytclfbjfgmocbhaa
