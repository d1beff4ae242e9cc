/- Plain lemmas of a small calculus for walks over frames and own memory; no statement of the seat is proved here. -/
import Derived.Test.YtggdbbjmdbkpcaaEch4
import Derived.Test.YtggdbbjmdbkpcaaEch7
set_option linter.unusedVariables false
set_option linter.unusedSimpArgs false
/-! Inverses: plain lemmas, no program. -/
namespace Go.Ech
theorem sI_mulr (f : Nat → Int) (k : Int) (n : Nat) : sI f n * k = sI (fun i => f i * k) n := by
  rw [Int.mul_comm, ← sI_mul]; exact sI_congr fun i _ => Int.mul_comm _ _
theorem sI_sub (f g : Nat → Int) (n : Nat) : sI f n - sI g n = sI (fun i => f i - g i) n := by
  have := sI_add (fun i => f i - g i) g n
  rw [show (fun i => (f i - g i) + g i) = f from by funext i; omega] at this; omega
/-- The product of vectors, as integers. -/
def Pr (n : Nat) (T : Nat → Nat → Nat → Nat) (x y : Nat → Int) (c : Nat) : Int := sI (fun a => sI (fun b => x a * y b * (T a b c : Int)) n) n
theorem Pr_congr {p : Int} {n : Nat} {T : Nat → Nat → Nat → Nat} {x x' y y' : Nat → Int} (hx : ∀ a, a < n → p ∣ x a - x' a) (hy : ∀ b, b < n → p ∣ y b - y' b) (c : Nat) : p ∣ Pr n T x y c - Pr n T x' y' c := by
  unfold Pr
  rw [sI_sub]
  refine sI_dvd fun a ha => ?_
  rw [sI_sub]
  refine sI_dvd fun b hb => ?_
  have e : x a * y b * (T a b c : Int) - x' a * y' b * (T a b c : Int) = (x a - x' a) * (y b * (T a b c : Int)) + x' a * ((y b - y' b) * (T a b c : Int)) := by grind
  rw [e]
  exact Int.dvd_add (Int.dvd_mul_of_dvd_left (hx a ha)) (Int.dvd_mul_of_dvd_right (Int.dvd_mul_of_dvd_left (hy b hb)))
theorem Pr_left {n : Nat} {T : Nat → Nat → Nat → Nat} {x v : Nat → Int} {c : Nat} : Pr n T x v c = sI (fun a => x a * sI (fun b => v b * (T a b c : Int)) n) n := by
  unfold Pr
  exact sI_congr fun a _ => by rw [← sI_mul]; exact sI_congr fun b _ => by grind
theorem Pr_right {n : Nat} {T : Nat → Nat → Nat → Nat} {x v : Nat → Int} {c : Nat} : Pr n T v x c = sI (fun b => x b * sI (fun a => v a * (T a b c : Int)) n) n := by
  unfold Pr
  rw [sI_swap]
  exact sI_congr fun b _ => by rw [← sI_mul]; exact sI_congr fun a _ => by grind
/-- Products of basis vectors do not depend on the order, modulo p. -/
def AssI (p n : Nat) (T : Nat → Nat → Nat → Nat) : Prop := ∀ i, i < n → ∀ j, j < n → ∀ k, k < n → ∀ d, d < n → (p : Int) ∣ sI (fun a => (T i j a : Int) * (T a k d : Int)) n - sI (fun b => (T j k b : Int) * (T i b d : Int)) n
theorem Pr_assoc {p n : Nat} {T : Nat → Nat → Nat → Nat} (h : AssI p n T) (x v w : Nat → Int) {d : Nat} (hd : d < n) : (p : Int) ∣ Pr n T (Pr n T x v) w d - Pr n T x (Pr n T v w) d := by
  have e1 : Pr n T (Pr n T x v) w d = sI (fun i => sI (fun j => sI (fun k => (x i * v j * w k) * sI (fun a => (T i j a : Int) * (T a k d : Int)) n) n) n) n := by
    have h1 : Pr n T (Pr n T x v) w d = sI (fun a => sI (fun k => sI (fun i => sI (fun j => x i * v j * w k * ((T i j a : Int) * (T a k d : Int))) n) n) n) n := by
      unfold Pr
      refine sI_congr fun a _ => sI_congr fun k _ => ?_
      rw [sI_mulr, sI_mulr]
      refine sI_congr fun i _ => ?_
      rw [sI_mulr, sI_mulr]
      exact sI_congr fun j _ => by grind
    rw [h1]
    have h2 : sI (fun a => sI (fun k => sI (fun i => sI (fun j => x i * v j * w k * ((T i j a : Int) * (T a k d : Int))) n) n) n) n = sI (fun a => sI (fun i => sI (fun k => sI (fun j => x i * v j * w k * ((T i j a : Int) * (T a k d : Int))) n) n) n) n := sI_congr fun a _ => sI_swap _ _ _
    have h3 : sI (fun a => sI (fun i => sI (fun k => sI (fun j => x i * v j * w k * ((T i j a : Int) * (T a k d : Int))) n) n) n) n = sI (fun a => sI (fun i => sI (fun j => sI (fun k => x i * v j * w k * ((T i j a : Int) * (T a k d : Int))) n) n) n) n := sI_congr fun a _ => sI_congr fun i _ => sI_swap _ _ _
    rw [h2, h3, sI_swap]
    refine sI_congr fun i _ => ?_
    rw [sI_swap]
    refine sI_congr fun j _ => ?_
    rw [sI_swap]
    exact sI_congr fun k _ => sI_mul _ _ _
  have e2 : Pr n T x (Pr n T v w) d = sI (fun i => sI (fun j => sI (fun k => (x i * v j * w k) * sI (fun b => (T j k b : Int) * (T i b d : Int)) n) n) n) n := by
    have h1 : Pr n T x (Pr n T v w) d = sI (fun i => sI (fun b => sI (fun j => sI (fun k => x i * v j * w k * ((T j k b : Int) * (T i b d : Int))) n) n) n) n := by
      unfold Pr
      refine sI_congr fun i _ => sI_congr fun b _ => ?_
      rw [← sI_mul, sI_mulr]
      refine sI_congr fun j _ => ?_
      rw [← sI_mul, sI_mulr]
      exact sI_congr fun k _ => by grind
    rw [h1]
    refine sI_congr fun i _ => ?_
    rw [sI_swap]
    refine sI_congr fun j _ => ?_
    rw [sI_swap]
    exact sI_congr fun k _ => sI_mul _ _ _
  rw [e1, e2, sI_sub]
  refine sI_dvd fun i hi => ?_
  rw [sI_sub]
  refine sI_dvd fun j hj => ?_
  rw [sI_sub]
  refine sI_dvd fun k hk => ?_
  rw [← Int.mul_sub]
  exact Int.dvd_mul_of_dvd_right (h i hi j hj k hk d hd)
theorem Pr_unit_left {p n : Nat} {T : Nat → Nat → Nat → Nat} {u : Nat → Nat} (hu : UnitI p n T u) (w : Nat → Int) {d : Nat} (hd : d < n) : (p : Int) ∣ Pr n T (ci u) w d - w d := by
  rw [Pr_right]
  have e : w d = sI (fun b => w b * (dl b d : Int)) n := by
    rw [sI_one hd]
    · simp [dl]
    · intro i _ hne; simp [dl, hne]
  rw [e, sI_sub]
  refine sI_dvd fun b hb => ?_
  rw [← Int.mul_sub]
  exact Int.dvd_mul_of_dvd_right (hu.right b hb d hd)
theorem Pr_unit_right {p n : Nat} {T : Nat → Nat → Nat → Nat} {u : Nat → Nat} (hu : UnitI p n T u) (w : Nat → Int) {d : Nat} (hd : d < n) : (p : Int) ∣ Pr n T w (ci u) d - w d := by
  rw [Pr_left]
  have e : w d = sI (fun b => w b * (dl b d : Int)) n := by
    rw [sI_one hd]
    · simp [dl]
    · intro i _ hne; simp [dl, hne]
  rw [e, sI_sub]
  refine sI_dvd fun b hb => ?_
  rw [← Int.mul_sub]
  exact Int.dvd_mul_of_dvd_right (hu.left b hb d hd)
/-- w is the inverse of v, from both sides. -/
structure InvI (p n : Nat) (T : Nat → Nat → Nat → Nat) (u v w : Nat → Nat) : Prop where
  small : ∀ c, w c < p
  out : ∀ c, n ≤ c → w c = 0
  right : ∀ c, c < n → (p : Int) ∣ Pr n T (ci w) (ci v) c - (u c : Int)
  left : ∀ c, c < n → (p : Int) ∣ Pr n T (ci v) (ci w) c - (u c : Int)
/-- A left inverse is the inverse. -/
theorem inv_same {p n : Nat} {T : Nat → Nat → Nat → Nat} {u v w : Nat → Nat} {x : Nat → Int} (ha : AssI p n T) (hu : UnitI p n T u) (hl : ∀ c, c < n → (p : Int) ∣ Pr n T (ci v) (ci w) c - (u c : Int)) (hx : ∀ c, c < n → (p : Int) ∣ Pr n T x (ci v) c - (u c : Int)) {d : Nat} (hd : d < n) : (p : Int) ∣ x d - (w d : Int) := by
  have h1 := Pr_assoc ha x (ci v) (ci w) hd
  have h2 : (p : Int) ∣ Pr n T (Pr n T x (ci v)) (ci w) d - Pr n T (ci u) (ci w) d := Pr_congr (fun a h => hx a h) (fun b _ => by simp) d
  have h3 : (p : Int) ∣ Pr n T x (Pr n T (ci v) (ci w)) d - Pr n T x (ci u) d := Pr_congr (fun a _ => by simp) (fun b h => hl b h) d
  have h4 := Pr_unit_left hu (ci w) hd
  have h5 := Pr_unit_right hu x hd
  have a1 := Int.dvd_sub h1 h2
  have a2 := Int.dvd_add a1 h3
  have a3 := Int.dvd_add a2 h5
  have a4 := Int.dvd_sub a3 h4
  have e : ∀ A B C D X W : Int, A - B - (A - C) + (B - D) + (D - X) - (C - W) = W - X := by intro A B C D X W; omega
  rw [e] at a4
  have := Int.dvd_neg.2 a4
  rwa [show -((w d : Int) - x d) = x d - (w d : Int) by omega] at this
theorem InvI.unique {p n : Nat} {T : Nat → Nat → Nat → Nat} {u v w y : Nat → Nat} (ha : AssI p n T) (hu : UnitI p n T u) (hw : InvI p n T u v w) (hy : InvI p n T u v y) : y = w := by
  funext c
  by_cases hc : c < n
  · exact eq_of_dvd (hy.small c) (hw.small c) (inv_same ha hu hw.left hy.right hc)
  · rw [hw.out c (by omega), hy.out c (by omega)]
end Go.Ech

namespace Go.Ech
open Go.Sw
theorem dvd_trans3 {p a b c : Int} (h1 : p ∣ a - b) (h2 : p ∣ b - c) : p ∣ a - c := by
  have := Int.dvd_add h1 h2; rwa [show a - b + (b - c) = a - c by omega] at this
theorem dvd_symm3 {p a b : Int} (h : p ∣ a - b) : p ∣ b - a := by
  have := Int.dvd_neg.2 h; rwa [show -(a - b) = b - a by omega] at this
/-- sums of products, the order changed: Σ x (Σ y z) = Σ (Σ x y) z. -/
theorem sI_assoc (x : Nat → Int) (y : Nat → Nat → Int) (z : Nat → Int) (n m : Nat) : sI (fun a => x a * sI (fun b => y a b * z b) m) n = sI (fun b => sI (fun a => x a * y a b) n * z b) m := by
  rw [sI_congr (g := fun a => sI (fun b => x a * (y a b * z b)) m) (fun a _ => (sI_mul _ _ _).symm), sI_swap]
  refine sI_congr fun b _ => ?_
  rw [Int.mul_comm (sI _ n) (z b), ← sI_mul]
  exact sI_congr fun a _ => by grind
theorem sI_modr {p : Nat} {f g h : Nat → Int} {n : Nat} (e : ∀ i, i < n → (p : Int) ∣ g i - h i) : (p : Int) ∣ sI (fun i => g i * f i) n - sI (fun i => h i * f i) n := by
  rw [sI_congr (f := fun i => g i * f i) (g := fun i => f i * g i) (fun i _ => Int.mul_comm _ _), sI_congr (f := fun i => h i * f i) (g := fun i => f i * h i) (fun i _ => Int.mul_comm _ _)]
  exact sI_mod e
/-- What is put in at the left of the inverse is put in at its right. -/
theorem slide {p n : Nat} {F G L R : Nat → Nat → Int} (h1 : ∀ i, i < n → ∀ j, j < n → (p : Int) ∣ sI (fun k => F i k * G k j) n - (dl i j : Int)) (h2 : ∀ i, i < n → ∀ j, j < n → (p : Int) ∣ sI (fun k => G i k * F k j) n - (dl i j : Int))
    (h3 : ∀ a, a < n → ∀ b, b < n → (p : Int) ∣ sI (fun i => F a i * L b i) n - sI (fun l => R a l * F l b) n) {i l : Nat} (hi : i < n) (hl : l < n) : (p : Int) ∣ sI (fun k => L k i * G k l) n - sI (fun a => G i a * R a l) n := by
  -- F X = R for X j = Σ L k j G k l
  have hX : ∀ a, a < n → (p : Int) ∣ sI (fun j => F a j * sI (fun k => L k j * G k l) n) n - R a l := fun a ha => by
    rw [sI_assoc (F a) (fun j k => L k j) (fun k => G k l)]
    have e1 := sI_modr (p := p) (f := fun k => G k l) (g := fun k => sI (fun j => F a j * L k j) n) (h := fun k => sI (fun m => R a m * F m k) n) (n := n) (fun k hk => h3 a ha k hk)
    refine dvd_trans3 e1 ?_
    rw [← sI_assoc (R a) F (fun k => G k l)]
    have e2 := sI_mod (p := p) (f := R a) (g := fun m => sI (fun k => F m k * G k l) n) (h := fun m => (dl m l : Int)) (n := n) (fun m hm => h1 m hm l hl)
    rwa [sI_dl hl] at e2
  have e3 := sI_mod (p := p) (f := G i) (g := fun a => sI (fun j => F a j * sI (fun k => L k j * G k l) n) n) (h := fun a => R a l) (n := n) hX
  rw [sI_assoc (G i) F] at e3
  have e4 := sI_modr (p := p) (f := fun j => sI (fun k => L k j * G k l) n) (g := fun j => sI (fun a => G i a * F a j) n) (h := fun j => (dl i j : Int)) (n := n) (fun j hj => h2 i hi j hj)
  rw [sI_dl' hi] at e4
  exact dvd_trans3 (dvd_symm3 e4) e3
/-- The form of e(a) v e(b), in two ways. -/
theorem form_two {p n : Nat} {T : Nat → Nat → Nat → Nat} {f v : Nat → Nat} {F : Nat → Nat → Int} (ha : AssI p n T) (hF : ∀ a, a < n → ∀ i, i < n → (p : Int) ∣ F a i - sI (fun d => (T a i d : Int) * (f d : Int)) n) {a b : Nat} (haN : a < n) (hb : b < n) :
    (p : Int) ∣ sI (fun i => F a i * sI (fun c => (v c : Int) * (T c b i : Int)) n) n - sI (fun l => sI (fun c => (v c : Int) * (T a c l : Int)) n * F l b) n := by
  have e1 := sI_modr (p := p) (f := fun i => sI (fun c => (v c : Int) * (T c b i : Int)) n) (g := fun i => F a i) (h := fun i => sI (fun d => (T a i d : Int) * (f d : Int)) n) (n := n) (fun i hi => hF a haN i hi)
  have e2 := sI_mod (p := p) (f := fun l => sI (fun c => (v c : Int) * (T a c l : Int)) n) (g := fun l => F l b) (h := fun l => sI (fun d => (T l b d : Int) * (f d : Int)) n) (n := n) (fun l hl => hF l hl b hb)
  refine dvd_trans3 e1 (dvd_trans3 ?_ (dvd_symm3 e2))
  -- both as Σ c, v c * Σ d, f d * ...
  have l1 : sI (fun i => sI (fun d => (T a i d : Int) * (f d : Int)) n * sI (fun c => (v c : Int) * (T c b i : Int)) n) n = sI (fun c => (v c : Int) * sI (fun d => (f d : Int) * sI (fun i => (T c b i : Int) * (T a i d : Int)) n) n) n := by
    rw [sI_congr (g := fun i => sI (fun c => (v c : Int) * ((T c b i : Int) * sI (fun d => (T a i d : Int) * (f d : Int)) n)) n) (fun i _ => by
      rw [← sI_mul]; exact sI_congr fun c _ => by grind), sI_swap]
    refine sI_congr fun c _ => ?_
    rw [sI_mul]; congr 1
    rw [sI_assoc (fun i => (T c b i : Int)) (fun i d => (T a i d : Int)) (fun d => (f d : Int))]
    exact sI_congr fun d _ => Int.mul_comm _ _
  have l2 : sI (fun l => sI (fun c => (v c : Int) * (T a c l : Int)) n * sI (fun d => (T l b d : Int) * (f d : Int)) n) n = sI (fun c => (v c : Int) * sI (fun d => (f d : Int) * sI (fun l => (T a c l : Int) * (T l b d : Int)) n) n) n := by
    rw [sI_congr (g := fun l => sI (fun c => (v c : Int) * ((T a c l : Int) * sI (fun d => (T l b d : Int) * (f d : Int)) n)) n) (fun l _ => by
      rw [Int.mul_comm, ← sI_mul]; exact sI_congr fun c _ => by grind), sI_swap]
    refine sI_congr fun c _ => ?_
    rw [sI_mul]; congr 1
    rw [sI_assoc (fun l => (T a c l : Int)) (fun l d => (T l b d : Int)) (fun d => (f d : Int))]
    exact sI_congr fun d _ => Int.mul_comm _ _
  rw [l1, l2]
  refine sI_mod fun c hc => ?_
  refine sI_mod fun d hd => ?_
  exact dvd_symm3 (ha a haN c hc b hb d hd)
end Go.Ech
