/- Plain lemmas of a small calculus for walks over frames and own memory; no statement of the seat is proved here. -/
import Derived.Test.YtjfmachfdpmdcaaSw69
import Derived.Test.YtjfmachfdpmdcaaEch5
import Derived.Test.YtjfmachfdpmdcaaSw37
import Derived.Test.YtjfmachfdpmdcaaSw6
import Derived.Test.YtjfmachfdpmdcaaSw46
import Derived.Test.YtjfmachfdpmdcaaSw14
import Derived.Laws.StructEq
import Derived.JoinedOf
import Derived.KernelRfl
set_option linter.unusedVariables false
set_option linter.unusedSimpArgs false
namespace Go.Sw
open Go Go.RowKit
/-! ### A region that draws its order, with one store, and calls that give new blocks to read -/
def factsK (kt : Nat) (l : List Fact) (nw : List Nat) (Q : Froz → Value → Prop) : Facts (Own × Froz) := fun i g u w => match memNat i nw with
  | true => ∃ DK, (∀ x, x ∈ DK → x ∈ g.2) ∧ Q DK u
  | false => factsG kt l i g.1 u w
def ParK (X : List Nat) (w0 : World) (D : Froz) (W : List Nat) (L0 : Own) (kt : Nat) (csO csN : Array Value) (bb : Bool) (g : Own × Froz) (w : World) : Prop := ParG X w0 (g.2 ++ D) W L0 kt csO csN bb g.1 w
section
variable {P : Program} {X : List Nat} {w0 w : World} {D : Froz} {W : List Nat} {L0 : Own} {kt : Nat} {csO csN : Array Value} {bb : Bool} {l : List Fact} {i : Nat} {o : Oper} {a : Act} {g : Own × Froz} {nw : List Nat} {Q : Froz → Value → Prop}
theorem ParK.drew (h : ParK X w0 D W L0 kt csO csN bb g w) : ParK X w0 D W L0 kt csO csN bb g w.drew := ⟨⟨h.1.1.ext (Below.drew (Below.refl _ _)), h.1.2⟩, h.2⟩
end
end Go.Sw

namespace Go.Sw
open Go Go.RowKit
/-! ### A region that draws its order, with any number of operations that give new blocks to read -/
inductive FactN where
  | val (v : Value)
  | new (R : Froz → Value → Prop)
def factsN (l : List FactN) : Facts Froz := fun i g u _ => match l[i]? with
  | some (.val v) => u = v
  | some (.new R) => ∃ DK, (∀ x, x ∈ DK → x ∈ g) ∧ R DK u
  | none => True
def ParN (X : List Nat) (w0 : World) (D : Froz) (L : Own) (g : Froz) (w : World) : Prop := MemX X w0 w L (g ++ D)
section
variable {P : Program} {X : List Nat} {w0 w : World} {D : Froz} {L : Own} {l : List FactN} {i : Nat} {o : Oper} {a : Act} {g : Froz}
theorem ParN.mem (h : ParN X w0 D L g w) : MemX X w0 w L D := h.keep0
def NewV (w0 : World) (N : Nat) (f : Nat → Value) (DK : Froz) (u : Value) : Prop := ∃ b cap cs, (b, cs) ∈ DK ∧ w0.heap.size ≤ b ∧ SlAt 6 u (some (b, cs)) N b cap cs f
end
end Go.Sw

namespace Go.Sw
open Go Go.RowKit
variable {P : Program}
/-! ### Pairs of whole numbers as structs, and lists of them. -/
def monC (a b : Int) : Array Value := #[.int .i64 a, .int .i64 b]
def fs2Ok (fs : List Field) (t : TypeId) : Bool := match fs with
  | [f, g] => f.name != "_" && g.name != "_" && Nat.beq f.type t && Nat.beq g.type t && Nat.beq f.offset 0 && Nat.beq g.offset 1
  | _ => false
theorem q_un {n : Nat} {ops : List Oper} {G : Type} {S : G → World → Prop} {φ : Facts G} {o : Oper} {a : Act} {w : World} {i j dj : Nat} {c : Bool} {g : G} {F' : List (Nat × Value)} (hg : o.guard = some (j, c)) (hF : Fr n a F') (hj : (ops.toArray[j]?).bind (·.dst) = some dj) (hjn : Nat.blt dj n = true) (hb : lk F' dj = some undef) (h : After S φ i g w undef w) : if Region.wanted o (yielded ops.toArray a.tmps) = true then Does P o a w (After S φ i g w) else After S φ i g w undef w := by
  have h1 := hF.get dj _ hb;have hlt : dj < a.tmps.size := by rw [hF.size]; exact Nat.blt_eq.mp hjn
  have hy : yielded ops.toArray a.tmps j = none := by
    unfold yielded
    rw [hj]
    simp [Array.getD_eq_getD_getElem?, hlt] at h1
    simp [hlt, h1, undef]
  rw [if_neg (by simp [Region.wanted, hg, hy])]; exact h
end Go.Sw

namespace Go.Sw
theorem wordsSigns_nb : ∀ (c : Char) (r : List Char), c ≠ ' ' → wordsSigns (c :: r) = match wordsSigns r with
    | w :: ws => (c :: w) :: ws
    | [] => [[c]] := by
  intro c r h;rw [wordsSigns.eq_def]
  split
  · simp_all
  · rename_i heq; simp at heq; exact absurd heq.1 h
  · rename_i heq; simp only [List.cons.injEq] at heq; obtain ⟨rfl, rfl⟩ := heq; rfl
theorem wordsSigns_word : ∀ (w r : List Char), (∀ c ∈ w, c ≠ ' ') → wordsSigns (w ++ ' ' :: r) = w :: wordsSigns r
  | [], r, _ => by simp [wordsSigns]
  | c :: w, r, h => by
    rw [List.cons_append, wordsSigns_nb c _ (h c (by simp)), wordsSigns_word w r (fun d hd => h d (by simp [hd]))]
theorem sum_nb (s : List Char) (h : isSumSigns s = true) : ∀ c ∈ s, c ≠ ' ' := by
  intro c hc he
  unfold isSumSigns at h
  simp only [Bool.and_eq_true, List.all_eq_true] at h;have := h.2 c hc;subst he
  revert this; decide
theorem cutHead (L s r : List Char) (h : L = "harness".toList ++ ' ' :: (s ++ ' ' :: ("cut".toList ++ ' ' :: r))) (hs : isSumSigns s = true) :
    behindMainWord (wordsSigns L) = "cut".toList :: wordsSigns r := by
  rw [h, wordsSigns_word _ _ (by decide), wordsSigns_word _ _ (sum_nb s hs), wordsSigns_word _ _ (by decide)];have : ("harness".toList == "harness".toList || "harness".toList == "ownmain".toList) = true := by decide
  unfold behindMainWord
  show (if (("harness".toList == "harness".toList || "harness".toList == "ownmain".toList) && isSumSigns s) = true then _ else _) = _
  rw [if_pos (by rw [this, hs]; rfl)]
theorem strip_cut (R : List (List Char)) : stripLifts liftWords ("cut".toList :: R) = ([], "cut".toList :: R) := by
  kernel_rfl
theorem lifts_cut (P : Program) (R : List (List Char)) (h : behindMainWord (wordsSigns P.initOrder.toList) = "cut".toList :: R) : P.headLifts = [] := by
  unfold Program.headLifts; rw [h, strip_cut]; rfl
theorem make_cut (P : Program) (R : List (List Char)) (h : behindMainWord (wordsSigns P.initOrder.toList) = "cut".toList :: R) : P.make = some .cut := by
  unfold Program.make; rw [h]
  have h1 : ("cut".toList == "gc".toList || "cut".toList == "spec".toList) = false := by decide
  have h2 : ("cut".toList == "cut".toList) = true := by decide
  simp only [h1, h2]; rfl
theorem final_cut (P : Program) (R : List (List Char)) (h : behindMainWord (wordsSigns P.initOrder.toList) = "cut".toList :: R) : P.liftsFinal = false := by
  unfold Program.liftsFinal; rw [lifts_cut P R h, h]; kernel_rfl
theorem enter_cut (P : Program) (R : List (List Char)) (h : behindMainWord (wordsSigns P.initOrder.toList) = "cut".toList :: R)
    (hl : P.laysLater = false) (hb : P.bearsReflect = false) (hd : P.doorFits [] = true) : P.mayEnter = true := by
  unfold Program.mayEnter; rw [h]
  simp only [strip_cut, hl, hb, hd]
  kernel_rfl
end Go.Sw
