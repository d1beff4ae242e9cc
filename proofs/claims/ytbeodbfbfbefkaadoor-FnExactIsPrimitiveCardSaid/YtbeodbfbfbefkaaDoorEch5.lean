/- Plain lemmas of a small calculus for walks over frames and own memory; no statement of the seat is proved here. -/
import Derived.Test.YtbeodbfbfbefkaaDoorSw17
import Derived.Test.YtbeodbfbfbefkaaDoorSw20
import Derived.Test.YtbeodbfbfbefkaaDoorEch3
set_option linter.unusedVariables false
set_option linter.unusedSimpArgs false
namespace Go.Sw
open Go Go.RowKit
variable {P : Program}
section
variable {ops : List Oper} {Q : Exit → Act → World → Prop} {n : Nat} {F : List (Nat × Value)}
def DepsG {G : Type} (ops : List Oper) (k s : Nat) (φ : Facts G) (o : Oper) (g : G) (a : Act) (w : World) : Prop :=
  ∀ j, Nat.blt j k = true → Nat.beq j s = false → edgeTo o j = true → φ j g (a.tmps.getD (dstOf ops j) undef) w
def AfterS {G : Type} (S : Bool → G → World → Prop) (φ : Facts G) (bb : Bool) (g : G) (w w' : World) : Prop := ∃ g', S bb g' w' ∧ ∀ j u, φ j g u w → φ j g' u w'
def AfterG {G : Type} (S : Bool → G → World → Prop) (φ : Facts G) (bb : Bool) (i : Nat) (g : G) (w : World) (v : Value) (w' : World) : Prop := ∃ g', S bb g' w' ∧ φ i g' v w' ∧ ∀ j u, j ≠ i → φ j g u w → φ j g' u w'
def StepsG {G : Type} (P : Program) (ops : List Oper) (k s n : Nat) (F : List (Nat × Value)) (S : Bool → G → World → Prop) (φ : Facts G) : List Oper → Nat → Prop
  | [], _ => True
  | o :: r, i => (if Nat.beq i s = true then ∀ a w g, Fr n a F → S false g w → DepsG ops k s φ o g a w → Does P o a w (fun _ w' => AfterS S φ true g w w')
      else ∀ a w b g, Fr n a F → S b g w → (edgeS ops s i = true → b = false) → DepsG ops k s φ o g a w → Does P o a w (AfterG S φ b i g w)) ∧ StepsG P ops k s n F S φ r (i + 1)
theorem StepsG.get {G : Type} {k s : Nat} {S : Bool → G → World → Prop} {φ : Facts G} : ∀ {l : List Oper} {i : Nat}, StepsG P ops k s n F S φ l i → ∀ (j : Nat) (o : Oper), l[j]? = some o →
    (if Nat.beq (i + j) s = true then ∀ a w g, Fr n a F → S false g w → DepsG ops k s φ o g a w → Does P o a w (fun _ w' => AfterS S φ true g w w')
      else ∀ a w b g, Fr n a F → S b g w → (edgeS ops s (i + j) = true → b = false) → DepsG ops k s φ o g a w → Does P o a w (AfterG S φ b (i + j) g w))
  | [], _, _, j, o, h => by simp at h
  | x :: r, i, hs, j, o, h => by
    cases j with
    | zero => simp at h; subst h; exact hs.1
    | succ j => have := hs.2.get j o (by simpa using h); rwa [show i + 1 + j = i + (j + 1) by omega] at this
end
/-! ### The instance: a block that is made in the region and written once in it -/
def factsG (kt : Nat) (l : List Fact) : Facts Own := fun i L u w => match l[i]? with
  | some (.own k cs mk) => if k = kt then ∃ b cs', u = mk b ∧ L[k]? = some (some (b, cs')) else ∃ b, u = mk b ∧ L[k]? = some (some (b, cs))
  | some (.val v) => u = v
  | some (.rel _) => True
  | none => True
def ParG (X : List Nat) (w0 : World) (D : Froz) (W : List Nat) (L0 : Own) (kt : Nat) (csO csN : Array Value) (bb : Bool) (L : Own) (w : World) : Prop :=
  Par X w0 D W L0 L w ∧ ∀ b cs, L[kt]? = some (some (b, cs)) → cs = (if bb then csN else csO)
section
variable {X : List Nat} {w0 w : World} {D : Froz} {W : List Nat} {L0 L : Own} {kt : Nat} {csO csN : Array Value} {bb : Bool} {l : List Fact} {i : Nat} {o : Oper} {a : Act}
end
end Go.Sw

namespace Go.Sw
open Go Go.RowKit
variable {P : Program}
def vecsC (m : Nat) (V : Nat → Nat → Nat) : Array Value := fnC (m * 6) (fun c => .int .u8 ((V (c / 6) (c % 6) : Nat) : Int))
def vAtL (l : List (Nat → Nat)) (i : Nat) : Nat → Nat := l.getD i (fun _ => 0)
theorem vecsC_row {m : Nat} {V : Nat → Nat → Nat} (i : Nat) {o e : Nat} (h : o = i * 6) (he : e = o + 6) (hi : i < m) : (vecsC m V).extract o e = vecC (V i) := by
  subst h
  have h1 : i * 6 + 6 ≤ m * 6 := by omega
  exact extract_ext he (by unfold vecsC; rw [fnC_size]; omega) fun k hk => by
    unfold vecsC
    rw [fnC_get (by omega), show (i * 6 + k) / 6 = i by omega, show (i * 6 + k) % 6 = k by omega]
theorem vecsC_size {m : Nat} {V : Nat → Nat → Nat} : (vecsC m V).size = m * 6 := fnC_size _ _
section
variable {n : Nat} {F : List (Nat × Value)} {a : Act} {w : World} {d : Option Tmp} {t : TypeId} {pos : String} {af : Array Edge} {gd : Option (Nat × Bool)} {x : Operand}
end
end Go.Sw
namespace Go.Sw
open Go Go.RowKit
variable {P : Program}
section
variable {n : Nat} {F : List (Nat × Value)} {a : Act} {w : World} {d : Option Tmp} {t : TypeId} {pos : String} {af : Array Edge} {gd : Option (Nat × Bool)} {T : TypeId} {x : Operand}
theorem g_sliceArr {k b o s : Nat} {e : TypeId} (hT : P.underlying T = some (.array k e)) (he : sizeP P e = some s) (hk : 0 < k) (hF : Fr n a F) (hx : look F x = some (ptr b o)) : Gives P ⟨d, .slice T x none none none, t, pos, af, gd⟩ a w (.slice (some ⟨b, o, none⟩) k k) :=
  gives_of_run (by
    have h2 := run_sizeOf he w
    have h3 : ¬ k = 0 := by omega
    simp [execOp, Instr.sliceAt, run_underlying hT, hF.eval hx, Instr.sureAddr, Instr.sliceBounds, h2, h3, Addr.add_lit])
end
theorem MemX.ne2 {X : List Nat} {w0 w : World} {L : Own} {D : Froz} (h : MemX X w0 w L D) {i j b c : Nat} {cs ds : Array Value} (hi : L[i]? = some (some (b, cs))) (hj : L[j]? = some (some (c, ds))) (hne : i ≠ j) : b ≠ c := fun e => by
  subst e; exact hne (h.apart i j _ _ _ hi hj)
end Go.Sw

/-! Inverses: plain lemmas, no program. -/
namespace Go.Ech
theorem sI_mulr (f : Nat → Int) (k : Int) (n : Nat) : sI f n * k = sI (fun i => f i * k) n := by
  rw [Int.mul_comm, ← sI_mul]; exact sI_congr fun i _ => Int.mul_comm _ _
theorem sI_sub (f g : Nat → Int) (n : Nat) : sI f n - sI g n = sI (fun i => f i - g i) n := by
  have := sI_add (fun i => f i - g i) g n
  rw [show (fun i => (f i - g i) + g i) = f from by funext i; omega] at this; omega
def Pr (n : Nat) (T : Nat → Nat → Nat → Nat) (x y : Nat → Int) (c : Nat) : Int := sI (fun a => sI (fun b => x a * y b * (T a b c : Int)) n) n
theorem Pr_congr {p : Int} {n : Nat} {T : Nat → Nat → Nat → Nat} {x x' y y' : Nat → Int} (hx : ∀ a, a < n → p ∣ x a - x' a) (hy : ∀ b, b < n → p ∣ y b - y' b) (c : Nat) : p ∣ Pr n T x y c - Pr n T x' y' c := by
  unfold Pr
  rw [sI_sub]
  refine sI_dvd fun a ha => ?_
  rw [sI_sub]
  refine sI_dvd fun b hb => ?_
  have e : x a * y b * (T a b c : Int) - x' a * y' b * (T a b c : Int) = (x a - x' a) * (y b * (T a b c : Int)) + x' a * ((y b - y' b) * (T a b c : Int)) := by grind
  rw [e]
  exact Int.dvd_add (Int.dvd_mul_of_dvd_left (hx a ha)) (Int.dvd_mul_of_dvd_right (Int.dvd_mul_of_dvd_left (hy b hb)))
theorem Pr_left {n : Nat} {T : Nat → Nat → Nat → Nat} {x v : Nat → Int} {c : Nat} : Pr n T x v c = sI (fun a => x a * sI (fun b => v b * (T a b c : Int)) n) n := by
  unfold Pr
  exact sI_congr fun a _ => by rw [← sI_mul]; exact sI_congr fun b _ => by grind
theorem Pr_right {n : Nat} {T : Nat → Nat → Nat → Nat} {x v : Nat → Int} {c : Nat} : Pr n T v x c = sI (fun b => x b * sI (fun a => v a * (T a b c : Int)) n) n := by
  unfold Pr
  rw [sI_swap]
  exact sI_congr fun b _ => by rw [← sI_mul]; exact sI_congr fun a _ => by grind
def AssI (p n : Nat) (T : Nat → Nat → Nat → Nat) : Prop := ∀ i, i < n → ∀ j, j < n → ∀ k, k < n → ∀ d, d < n → (p : Int) ∣ sI (fun a => (T i j a : Int) * (T a k d : Int)) n - sI (fun b => (T j k b : Int) * (T i b d : Int)) n
theorem Pr_assoc {p n : Nat} {T : Nat → Nat → Nat → Nat} (h : AssI p n T) (x v w : Nat → Int) {d : Nat} (hd : d < n) : (p : Int) ∣ Pr n T (Pr n T x v) w d - Pr n T x (Pr n T v w) d := by
  have e1 : Pr n T (Pr n T x v) w d = sI (fun i => sI (fun j => sI (fun k => (x i * v j * w k) * sI (fun a => (T i j a : Int) * (T a k d : Int)) n) n) n) n := by
    have h1 : Pr n T (Pr n T x v) w d = sI (fun a => sI (fun k => sI (fun i => sI (fun j => x i * v j * w k * ((T i j a : Int) * (T a k d : Int))) n) n) n) n := by
      unfold Pr
      refine sI_congr fun a _ => sI_congr fun k _ => ?_
      rw [sI_mulr, sI_mulr]
      refine sI_congr fun i _ => ?_
      rw [sI_mulr, sI_mulr]
      exact sI_congr fun j _ => by grind
    rw [h1]
    have h2 : sI (fun a => sI (fun k => sI (fun i => sI (fun j => x i * v j * w k * ((T i j a : Int) * (T a k d : Int))) n) n) n) n = sI (fun a => sI (fun i => sI (fun k => sI (fun j => x i * v j * w k * ((T i j a : Int) * (T a k d : Int))) n) n) n) n := sI_congr fun a _ => sI_swap _ _ _
    have h3 : sI (fun a => sI (fun i => sI (fun k => sI (fun j => x i * v j * w k * ((T i j a : Int) * (T a k d : Int))) n) n) n) n = sI (fun a => sI (fun i => sI (fun j => sI (fun k => x i * v j * w k * ((T i j a : Int) * (T a k d : Int))) n) n) n) n := sI_congr fun a _ => sI_congr fun i _ => sI_swap _ _ _
    rw [h2, h3, sI_swap]
    refine sI_congr fun i _ => ?_
    rw [sI_swap]
    refine sI_congr fun j _ => ?_
    rw [sI_swap]
    exact sI_congr fun k _ => sI_mul _ _ _
  have e2 : Pr n T x (Pr n T v w) d = sI (fun i => sI (fun j => sI (fun k => (x i * v j * w k) * sI (fun b => (T j k b : Int) * (T i b d : Int)) n) n) n) n := by
    have h1 : Pr n T x (Pr n T v w) d = sI (fun i => sI (fun b => sI (fun j => sI (fun k => x i * v j * w k * ((T j k b : Int) * (T i b d : Int))) n) n) n) n := by
      unfold Pr
      refine sI_congr fun i _ => sI_congr fun b _ => ?_
      rw [← sI_mul, sI_mulr]
      refine sI_congr fun j _ => ?_
      rw [← sI_mul, sI_mulr]
      exact sI_congr fun k _ => by grind
    rw [h1]
    refine sI_congr fun i _ => ?_
    rw [sI_swap]
    refine sI_congr fun j _ => ?_
    rw [sI_swap]
    exact sI_congr fun k _ => sI_mul _ _ _
  rw [e1, e2, sI_sub]
  refine sI_dvd fun i hi => ?_
  rw [sI_sub]
  refine sI_dvd fun j hj => ?_
  rw [sI_sub]
  refine sI_dvd fun k hk => ?_
  rw [← Int.mul_sub]
  exact Int.dvd_mul_of_dvd_right (h i hi j hj k hk d hd)
theorem Pr_unit_left {p n : Nat} {T : Nat → Nat → Nat → Nat} {u : Nat → Nat} (hu : UnitI p n T u) (w : Nat → Int) {d : Nat} (hd : d < n) : (p : Int) ∣ Pr n T (ci u) w d - w d := by
  rw [Pr_right]
  have e : w d = sI (fun b => w b * (dl b d : Int)) n := by
    rw [sI_one hd]
    · simp [dl]
    · intro i _ hne; simp [dl, hne]
  rw [e, sI_sub]
  refine sI_dvd fun b hb => ?_
  rw [← Int.mul_sub]
  exact Int.dvd_mul_of_dvd_right (hu.right b hb d hd)
theorem Pr_unit_right {p n : Nat} {T : Nat → Nat → Nat → Nat} {u : Nat → Nat} (hu : UnitI p n T u) (w : Nat → Int) {d : Nat} (hd : d < n) : (p : Int) ∣ Pr n T w (ci u) d - w d := by
  rw [Pr_left]
  have e : w d = sI (fun b => w b * (dl b d : Int)) n := by
    rw [sI_one hd]
    · simp [dl]
    · intro i _ hne; simp [dl, hne]
  rw [e, sI_sub]
  refine sI_dvd fun b hb => ?_
  rw [← Int.mul_sub]
  exact Int.dvd_mul_of_dvd_right (hu.left b hb d hd)
structure InvI (p n : Nat) (T : Nat → Nat → Nat → Nat) (u v w : Nat → Nat) : Prop where
  small : ∀ c, w c < p
  out : ∀ c, n ≤ c → w c = 0
  right : ∀ c, c < n → (p : Int) ∣ Pr n T (ci w) (ci v) c - (u c : Int)
  left : ∀ c, c < n → (p : Int) ∣ Pr n T (ci v) (ci w) c - (u c : Int)
theorem inv_same {p n : Nat} {T : Nat → Nat → Nat → Nat} {u v w : Nat → Nat} {x : Nat → Int} (ha : AssI p n T) (hu : UnitI p n T u) (hl : ∀ c, c < n → (p : Int) ∣ Pr n T (ci v) (ci w) c - (u c : Int)) (hx : ∀ c, c < n → (p : Int) ∣ Pr n T x (ci v) c - (u c : Int)) {d : Nat} (hd : d < n) : (p : Int) ∣ x d - (w d : Int) := by
  have h1 := Pr_assoc ha x (ci v) (ci w) hd
  have h2 : (p : Int) ∣ Pr n T (Pr n T x (ci v)) (ci w) d - Pr n T (ci u) (ci w) d := Pr_congr (fun a h => hx a h) (fun b _ => by simp) d
  have h3 : (p : Int) ∣ Pr n T x (Pr n T (ci v) (ci w)) d - Pr n T x (ci u) d := Pr_congr (fun a _ => by simp) (fun b h => hl b h) d
  have h4 := Pr_unit_left hu (ci w) hd
  have h5 := Pr_unit_right hu x hd
  have a1 := Int.dvd_sub h1 h2
  have a2 := Int.dvd_add a1 h3
  have a3 := Int.dvd_add a2 h5
  have a4 := Int.dvd_sub a3 h4
  have e : ∀ A B C D X W : Int, A - B - (A - C) + (B - D) + (D - X) - (C - W) = W - X := by intro A B C D X W; omega
  rw [e] at a4
  have := Int.dvd_neg.2 a4
  rwa [show -((w d : Int) - x d) = x d - (w d : Int) by omega] at this
theorem InvI.unique {p n : Nat} {T : Nat → Nat → Nat → Nat} {u v w y : Nat → Nat} (ha : AssI p n T) (hu : UnitI p n T u) (hw : InvI p n T u v w) (hy : InvI p n T u v y) : y = w := by
  funext c
  by_cases hc : c < n
  · exact eq_of_dvd (hy.small c) (hw.small c) (inv_same ha hu hw.left hy.right hc)
  · rw [hw.out c (by omega), hy.out c (by omega)]
end Go.Ech
