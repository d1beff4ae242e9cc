/- Plain lemmas of a small calculus for walks over frames and own memory; no statement of the seat is proved here. -/
import Derived.Test.YtficgmohfabplaaEch3
set_option linter.unusedVariables false
set_option linter.unusedSimpArgs false
/-! Inverses: plain lemmas, no program. -/
namespace Go.Ech
theorem sI_mulr (f : Nat → Int) (k : Int) (n : Nat) : sI f n * k = sI (fun i => f i * k) n := by
  rw [Int.mul_comm, ← sI_mul]; exact sI_congr fun i _ => Int.mul_comm _ _
theorem sI_sub (f g : Nat → Int) (n : Nat) : sI f n - sI g n = sI (fun i => f i - g i) n := by
  have := sI_add (fun i => f i - g i) g n
  rw [show (fun i => (f i - g i) + g i) = f from by funext i; omega] at this; omega
/-- The product of vectors, as integers. -/
def Pr (n : Nat) (T : Nat → Nat → Nat → Nat) (x y : Nat → Int) (c : Nat) : Int := sI (fun a => sI (fun b => x a * y b * (T a b c : Int)) n) n
theorem Pr_congr {p : Int} {n : Nat} {T : Nat → Nat → Nat → Nat} {x x' y y' : Nat → Int} (hx : ∀ a, a < n → p ∣ x a - x' a) (hy : ∀ b, b < n → p ∣ y b - y' b) (c : Nat) : p ∣ Pr n T x y c - Pr n T x' y' c := by
  unfold Pr
  rw [sI_sub]
  refine sI_dvd fun a ha => ?_
  rw [sI_sub]
  refine sI_dvd fun b hb => ?_
  have e : x a * y b * (T a b c : Int) - x' a * y' b * (T a b c : Int) = (x a - x' a) * (y b * (T a b c : Int)) + x' a * ((y b - y' b) * (T a b c : Int)) := by grind
  rw [e]
  exact Int.dvd_add (Int.dvd_mul_of_dvd_left (hx a ha)) (Int.dvd_mul_of_dvd_right (Int.dvd_mul_of_dvd_left (hy b hb)))
theorem Pr_left {n : Nat} {T : Nat → Nat → Nat → Nat} {x v : Nat → Int} {c : Nat} : Pr n T x v c = sI (fun a => x a * sI (fun b => v b * (T a b c : Int)) n) n := by
  unfold Pr
  exact sI_congr fun a _ => by rw [← sI_mul]; exact sI_congr fun b _ => by grind
theorem Pr_right {n : Nat} {T : Nat → Nat → Nat → Nat} {x v : Nat → Int} {c : Nat} : Pr n T v x c = sI (fun b => x b * sI (fun a => v a * (T a b c : Int)) n) n := by
  unfold Pr
  rw [sI_swap]
  exact sI_congr fun b _ => by rw [← sI_mul]; exact sI_congr fun a _ => by grind
/-- Products of basis vectors do not depend on the order, modulo p. -/
def AssI (p n : Nat) (T : Nat → Nat → Nat → Nat) : Prop := ∀ i, i < n → ∀ j, j < n → ∀ k, k < n → ∀ d, d < n → (p : Int) ∣ sI (fun a => (T i j a : Int) * (T a k d : Int)) n - sI (fun b => (T j k b : Int) * (T i b d : Int)) n
theorem Pr_assoc {p n : Nat} {T : Nat → Nat → Nat → Nat} (h : AssI p n T) (x v w : Nat → Int) {d : Nat} (hd : d < n) : (p : Int) ∣ Pr n T (Pr n T x v) w d - Pr n T x (Pr n T v w) d := by
  have e1 : Pr n T (Pr n T x v) w d = sI (fun i => sI (fun j => sI (fun k => (x i * v j * w k) * sI (fun a => (T i j a : Int) * (T a k d : Int)) n) n) n) n := by
    have h1 : Pr n T (Pr n T x v) w d = sI (fun a => sI (fun k => sI (fun i => sI (fun j => x i * v j * w k * ((T i j a : Int) * (T a k d : Int))) n) n) n) n := by
      unfold Pr
      refine sI_congr fun a _ => sI_congr fun k _ => ?_
      rw [sI_mulr, sI_mulr]
      refine sI_congr fun i _ => ?_
      rw [sI_mulr, sI_mulr]
      exact sI_congr fun j _ => by grind
    rw [h1]
    have h2 : sI (fun a => sI (fun k => sI (fun i => sI (fun j => x i * v j * w k * ((T i j a : Int) * (T a k d : Int))) n) n) n) n = sI (fun a => sI (fun i => sI (fun k => sI (fun j => x i * v j * w k * ((T i j a : Int) * (T a k d : Int))) n) n) n) n := sI_congr fun a _ => sI_swap _ _ _
    have h3 : sI (fun a => sI (fun i => sI (fun k => sI (fun j => x i * v j * w k * ((T i j a : Int) * (T a k d : Int))) n) n) n) n = sI (fun a => sI (fun i => sI (fun j => sI (fun k => x i * v j * w k * ((T i j a : Int) * (T a k d : Int))) n) n) n) n := sI_congr fun a _ => sI_congr fun i _ => sI_swap _ _ _
    rw [h2, h3, sI_swap]
    refine sI_congr fun i _ => ?_
    rw [sI_swap]
    refine sI_congr fun j _ => ?_
    rw [sI_swap]
    exact sI_congr fun k _ => sI_mul _ _ _
  have e2 : Pr n T x (Pr n T v w) d = sI (fun i => sI (fun j => sI (fun k => (x i * v j * w k) * sI (fun b => (T j k b : Int) * (T i b d : Int)) n) n) n) n := by
    have h1 : Pr n T x (Pr n T v w) d = sI (fun i => sI (fun b => sI (fun j => sI (fun k => x i * v j * w k * ((T j k b : Int) * (T i b d : Int))) n) n) n) n := by
      unfold Pr
      refine sI_congr fun i _ => sI_congr fun b _ => ?_
      rw [← sI_mul, sI_mulr]
      refine sI_congr fun j _ => ?_
      rw [← sI_mul, sI_mulr]
      exact sI_congr fun k _ => by grind
    rw [h1]
    refine sI_congr fun i _ => ?_
    rw [sI_swap]
    refine sI_congr fun j _ => ?_
    rw [sI_swap]
    exact sI_congr fun k _ => sI_mul _ _ _
  rw [e1, e2, sI_sub]
  refine sI_dvd fun i hi => ?_
  rw [sI_sub]
  refine sI_dvd fun j hj => ?_
  rw [sI_sub]
  refine sI_dvd fun k hk => ?_
  rw [← Int.mul_sub]
  exact Int.dvd_mul_of_dvd_right (h i hi j hj k hk d hd)
theorem Pr_unit_left {p n : Nat} {T : Nat → Nat → Nat → Nat} {u : Nat → Nat} (hu : UnitI p n T u) (w : Nat → Int) {d : Nat} (hd : d < n) : (p : Int) ∣ Pr n T (ci u) w d - w d := by
  rw [Pr_right]
  have e : w d = sI (fun b => w b * (dl b d : Int)) n := by
    rw [sI_one hd]
    · simp [dl]
    · intro i _ hne; simp [dl, hne]
  rw [e, sI_sub]
  refine sI_dvd fun b hb => ?_
  rw [← Int.mul_sub]
  exact Int.dvd_mul_of_dvd_right (hu.right b hb d hd)
theorem Pr_unit_right {p n : Nat} {T : Nat → Nat → Nat → Nat} {u : Nat → Nat} (hu : UnitI p n T u) (w : Nat → Int) {d : Nat} (hd : d < n) : (p : Int) ∣ Pr n T w (ci u) d - w d := by
  rw [Pr_left]
  have e : w d = sI (fun b => w b * (dl b d : Int)) n := by
    rw [sI_one hd]
    · simp [dl]
    · intro i _ hne; simp [dl, hne]
  rw [e, sI_sub]
  refine sI_dvd fun b hb => ?_
  rw [← Int.mul_sub]
  exact Int.dvd_mul_of_dvd_right (hu.left b hb d hd)
/-- w is the inverse of v, from both sides. -/
structure InvI (p n : Nat) (T : Nat → Nat → Nat → Nat) (u v w : Nat → Nat) : Prop where
  small : ∀ c, w c < p
  out : ∀ c, n ≤ c → w c = 0
  right : ∀ c, c < n → (p : Int) ∣ Pr n T (ci w) (ci v) c - (u c : Int)
  left : ∀ c, c < n → (p : Int) ∣ Pr n T (ci v) (ci w) c - (u c : Int)
/-- A left inverse is the inverse. -/
theorem inv_same {p n : Nat} {T : Nat → Nat → Nat → Nat} {u v w : Nat → Nat} {x : Nat → Int} (ha : AssI p n T) (hu : UnitI p n T u) (hl : ∀ c, c < n → (p : Int) ∣ Pr n T (ci v) (ci w) c - (u c : Int)) (hx : ∀ c, c < n → (p : Int) ∣ Pr n T x (ci v) c - (u c : Int)) {d : Nat} (hd : d < n) : (p : Int) ∣ x d - (w d : Int) := by
  have h1 := Pr_assoc ha x (ci v) (ci w) hd
  have h2 : (p : Int) ∣ Pr n T (Pr n T x (ci v)) (ci w) d - Pr n T (ci u) (ci w) d := Pr_congr (fun a h => hx a h) (fun b _ => by simp) d
  have h3 : (p : Int) ∣ Pr n T x (Pr n T (ci v) (ci w)) d - Pr n T x (ci u) d := Pr_congr (fun a _ => by simp) (fun b h => hl b h) d
  have h4 := Pr_unit_left hu (ci w) hd
  have h5 := Pr_unit_right hu x hd
  have a1 := Int.dvd_sub h1 h2
  have a2 := Int.dvd_add a1 h3
  have a3 := Int.dvd_add a2 h5
  have a4 := Int.dvd_sub a3 h4
  have e : ∀ A B C D X W : Int, A - B - (A - C) + (B - D) + (D - X) - (C - W) = W - X := by intro A B C D X W; omega
  rw [e] at a4
  have := Int.dvd_neg.2 a4
  rwa [show -((w d : Int) - x d) = x d - (w d : Int) by omega] at this
theorem InvI.unique {p n : Nat} {T : Nat → Nat → Nat → Nat} {u v w y : Nat → Nat} (ha : AssI p n T) (hu : UnitI p n T u) (hw : InvI p n T u v w) (hy : InvI p n T u v y) : y = w := by
  funext c
  by_cases hc : c < n
  · exact eq_of_dvd (hy.small c) (hw.small c) (inv_same ha hu hw.left hy.right hc)
  · rw [hw.out c (by omega), hy.out c (by omega)]
end Go.Ech
