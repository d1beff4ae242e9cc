/- Plain lemmas of a small calculus for walks over frames and own memory; no statement of the seat is proved here. -/
import Derived.Test.YtfencffdhenjdaaDoorSw18
set_option linter.unusedVariables false
set_option linter.unusedSimpArgs false
namespace Go.Sw
open Go Go.RowKit
variable {P : Program}
section
variable {ops : List Oper} {Q : Exit → Act → World → Prop} {n : Nat} {F : List (Nat × Value)}
def DepsG {G : Type} (ops : List Oper) (k s : Nat) (φ : Facts G) (o : Oper) (g : G) (a : Act) (w : World) : Prop :=
  ∀ j, Nat.blt j k = true → Nat.beq j s = false → edgeTo o j = true → φ j g (a.tmps.getD (dstOf ops j) undef) w
def AfterS {G : Type} (S : Bool → G → World → Prop) (φ : Facts G) (bb : Bool) (g : G) (w w' : World) : Prop := ∃ g', S bb g' w' ∧ ∀ j u, φ j g u w → φ j g' u w'
def AfterG {G : Type} (S : Bool → G → World → Prop) (φ : Facts G) (bb : Bool) (i : Nat) (g : G) (w : World) (v : Value) (w' : World) : Prop := ∃ g', S bb g' w' ∧ φ i g' v w' ∧ ∀ j u, j ≠ i → φ j g u w → φ j g' u w'
def StepsG {G : Type} (P : Program) (ops : List Oper) (k s n : Nat) (F : List (Nat × Value)) (S : Bool → G → World → Prop) (φ : Facts G) : List Oper → Nat → Prop
  | [], _ => True
  | o :: r, i => (if Nat.beq i s = true then ∀ a w g, Fr n a F → S false g w → DepsG ops k s φ o g a w → Does P o a w (fun _ w' => AfterS S φ true g w w')
      else ∀ a w b g, Fr n a F → S b g w → (edgeS ops s i = true → b = false) → DepsG ops k s φ o g a w → Does P o a w (AfterG S φ b i g w)) ∧ StepsG P ops k s n F S φ r (i + 1)
theorem StepsG.get {G : Type} {k s : Nat} {S : Bool → G → World → Prop} {φ : Facts G} : ∀ {l : List Oper} {i : Nat}, StepsG P ops k s n F S φ l i → ∀ (j : Nat) (o : Oper), l[j]? = some o →
    (if Nat.beq (i + j) s = true then ∀ a w g, Fr n a F → S false g w → DepsG ops k s φ o g a w → Does P o a w (fun _ w' => AfterS S φ true g w w')
      else ∀ a w b g, Fr n a F → S b g w → (edgeS ops s (i + j) = true → b = false) → DepsG ops k s φ o g a w → Does P o a w (AfterG S φ b (i + j) g w))
  | [], _, _, j, o, h => by simp at h
  | x :: r, i, hs, j, o, h => by
    cases j with
    | zero => simp at h; subst h; exact hs.1
    | succ j => have := hs.2.get j o (by simpa using h); rwa [show i + 1 + j = i + (j + 1) by omega] at this
end
/-! ### The instance: a block that is made in the region and written once in it -/
def factsG (kt : Nat) (l : List Fact) : Facts Own := fun i L u w => match l[i]? with
  | some (.own k cs mk) => if k = kt then ∃ b cs', u = mk b ∧ L[k]? = some (some (b, cs')) else ∃ b, u = mk b ∧ L[k]? = some (some (b, cs))
  | some (.val v) => u = v
  | some (.rel _) => True
  | none => True
def ParG (X : List Nat) (w0 : World) (D : Froz) (W : List Nat) (L0 : Own) (kt : Nat) (csO csN : Array Value) (bb : Bool) (L : Own) (w : World) : Prop :=
  Par X w0 D W L0 L w ∧ ∀ b cs, L[kt]? = some (some (b, cs)) → cs = (if bb then csN else csO)
section
variable {X : List Nat} {w0 w : World} {D : Froz} {W : List Nat} {L0 L : Own} {kt : Nat} {csO csN : Array Value} {bb : Bool} {l : List Fact} {i : Nat} {o : Oper} {a : Act}
end
end Go.Sw
