/- Plain lemmas of a small calculus for walks over frames and own memory; no statement of the seat is proved here. -/
import Derived.Test.YtogjafbjafnlbaaSw66
import Derived.Test.YtogjafbjafnlbaaEch
import Derived.Test.YtogjafbjafnlbaaSw22
import Derived.DeepKeys4
import Derived.JoinedOf
import Derived.KernelRfl
set_option linter.unusedVariables false
set_option linter.unusedSimpArgs false
namespace Go.Sw
open Go Go.RowKit
/-! ### A region that draws its order, with one call among its operations that gives new blocks to read -/
def factsD (l : List Fact) (s : Nat) : Facts (Own × Value × Froz) := fun i g u w => match Nat.beq i s with
  | true => u = g.2.1
  | false => factsOf l i g.1 u w
def ParD (X : List Nat) (w0 : World) (D : Froz) (W : List Nat) (L0 : Own) (Q : Froz → Value → Prop) (b : Bool) (g : Own × Value × Froz) (w : World) : Prop :=
  Par X w0 (g.2.2 ++ D) W L0 g.1 w ∧ (b = false → g.2.2 = []) ∧ (b = true → Q g.2.2 g.2.1)
section
variable {P : Program} {X : List Nat} {w0 w : World} {D : Froz} {W : List Nat} {L0 : Own} {Q : Froz → Value → Prop} {s i : Nat} {b : Bool} {g : Own × Value × Froz} {l : List Fact} {o : Oper} {a : Act}
theorem ParD.drew (h : ParD X w0 D W L0 Q b g w) : ParD X w0 D W L0 Q b g w.drew := ⟨⟨h.1.1.ext (Below.drew (Below.refl _ _)), h.1.2⟩, h.2⟩
theorem ParD.mem (h : ParD X w0 D W L0 Q b g w) (hW : holes W L0 = true) : MemX X w0 w L0 D := (Par.mem h.1 hW).sub D (fun _ hx => List.mem_append_right _ hx)
end
end Go.Sw

namespace Go.Sw
open Go Go.RowKit
/-! ### A region that draws its order, with one store, and calls that give new blocks to read -/
def factsK (kt : Nat) (l : List Fact) (nw : List Nat) (Q : Froz → Value → Prop) : Facts (Own × Froz) := fun i g u w => match memNat i nw with
  | true => ∃ DK, (∀ x, x ∈ DK → x ∈ g.2) ∧ Q DK u
  | false => factsG kt l i g.1 u w
def ParK (X : List Nat) (w0 : World) (D : Froz) (W : List Nat) (L0 : Own) (kt : Nat) (csO csN : Array Value) (bb : Bool) (g : Own × Froz) (w : World) : Prop := ParG X w0 (g.2 ++ D) W L0 kt csO csN bb g.1 w
section
variable {P : Program} {X : List Nat} {w0 w : World} {D : Froz} {W : List Nat} {L0 : Own} {kt : Nat} {csO csN : Array Value} {bb : Bool} {l : List Fact} {i : Nat} {o : Oper} {a : Act} {g : Own × Froz} {nw : List Nat} {Q : Froz → Value → Prop}
theorem ParK.drew (h : ParK X w0 D W L0 kt csO csN bb g w) : ParK X w0 D W L0 kt csO csN bb g w.drew := ⟨⟨h.1.1.ext (Below.drew (Below.refl _ _)), h.1.2⟩, h.2⟩
end
end Go.Sw

namespace Go.Sw
open Go Go.RowKit Go.Ech
def EmpF (w0 : World) (L : Own) (u : Value) (w' : World) : Prop := ∃ b, u = .slice (some ⟨b, 0, none⟩) 0 0 ∧ Blk w' b #[] ∧ w0.heap.size ≤ b ∧ ∀ (k : Nat) c ds, L[k]? = some (some (c, ds)) → c ≠ b
theorem EmpF.last {w0 w w' : World} {L : Own} {u : Value} (h : EmpF w0 L u w) (hx : Ext w w') : EmpF w0 L u w' := by
  obtain ⟨b, h1, h2, h3⟩ := h; exact ⟨b, h1, h2.ext hx, h3⟩
theorem EmpF.of {w0 w w' : World} {L : Own} {D : Froz} {u : Value} {k : Nat} (hk : L[k]? = some none) (h : ∃ b, u = .slice (some ⟨b, 0, none⟩) 0 0 ∧ Mem w0 w' (L.set k (some (b, #[]))) D ∧ Ext w w') : EmpF w0 L u w' := by
  obtain ⟨b, h1, hM, _⟩ := h;have hkl := (List.getElem?_eq_some_iff.1 hk).1;have e : (L.set k (some (b, #[])))[k]? = some (some (b, #[])) := by rw [List.getElem?_set, if_pos rfl, if_pos hkl]
  refine ⟨b, h1, hM.row k e, hM.ge k e, fun j c ds hj e2 => ?_⟩;subst e2
  by_cases ej : j = k
  · subst ej; rw [hk] at hj; simp at hj
  · have := hM.apart j k c ds #[] (by rw [List.getElem?_set, if_neg (fun q => ej q.symm)]; exact hj) e
    exact ej this
theorem EmpF.build {P : Program} {o : Oper} {a : Act} {w0 w : World} {L : Own} {D : Froz} {k : Nat} (hk : L[k]? = some none) (hg : Does P o a w (fun u w' => ∃ b, u = .slice (some ⟨b, 0, none⟩) 0 0 ∧ Mem w0 w' (L.set k (some (b, #[]))) D ∧ Ext w w')) : Does P o a w (fun u w' => Ext w w' ∧ EmpF w0 L u w') :=
  hg.mono fun u w' h => ⟨h.elim fun b hb => hb.2.2, EmpF.of hk h⟩
end Go.Sw

namespace Go.Sw
open Go Go.RowKit Go.Ech
def TabIF (w0 : World) (L : Own) (D : Froz) (n : Nat) (M : Nat → Nat → Nat) (u : Value) (w' : World) : Prop := ∃ (D' : Froz) (β : Nat → Nat) (b : Nat) (cs : Array Value),
  (∀ x ds, (x, ds) ∈ D' → w0.heap.size ≤ x ∧ Blk w' x ds ∧ ∀ (k : Nat) c es, L[k]? = some (some (c, es)) → c ≠ x) ∧ RowsC D' n β (fun i => rowI n (M i)) ∧ u = .slice (some ⟨b, 0, Option.none⟩) n n ∧ (∀ i, i < n → cs[0 + i * 1]? = some (.slice (some ⟨β i, 0, Option.none⟩) n n)) ∧ (b, cs) ∈ D' ∧ (∀ i, i < n → β i ≠ b) ∧ ∀ i, i < n → ∀ x ∈ D, x.1 ≠ β i
theorem TabIF.last {w0 w w' : World} {L : Own} {D : Froz} {n : Nat} {M : Nat → Nat → Nat} {u : Value} (h : TabIF w0 L D n M u w) (hx : Ext w w') : TabIF w0 L D n M u w' := by
  obtain ⟨D', β, b, cs, h1, h2⟩ := h;exact ⟨D', β, b, cs, fun x ds hm => ⟨(h1 x ds hm).1, (h1 x ds hm).2.1.ext hx, (h1 x ds hm).2.2⟩, h2⟩
def TupR (R : Value → World → Prop) (u : Value) (w' : World) : Prop := ∃ l, u = .tuple #[l, .int .i64 0] ∧ R l w'
end Go.Sw

namespace Go.Sw
open Go Go.RowKit
variable {P : Program}
/-! ### Texts: length, bytes, parts. -/
def byt (s : ByteArray) (i : Nat) : Nat := (s.data.getD i 0).toNat
section
variable {n : Nat} {F : List (Nat × Value)} {a : Act} {w : World} {d : Option Tmp} {t T T' : TypeId} {pos : String} {af : Array Edge} {gd : Option (Nat × Bool)} {x y z : Operand}
end
end Go.Sw

namespace Go.Sw
open Go Go.RowKit
/-! ### Maps whose keys are structs of numbers. -/
def leafs (P : Program) : Nat → TypeId → List IntKind → Bool
  | 0, _, _ => false
  | d + 1, t, ks =>
    match P.underlying t with
    | some (.int q) => decide (ks = [q])
    | some (.array n e) => Nat.beq ks.length (P.cellsOf t) && (List.range n).all fun i => leafs P d e ((ks.drop (i * P.cellsOf e)).take (P.cellsOf e))
    | some (.struct fs) => Nat.beq ks.length (P.cellsOf t) && fs.all (·.name != "_") && fs.toList.all fun f => leafs P d f.type ((ks.drop f.offset).take (P.cellsOf f.type))
    | _ => false
def Leafy (cs : List Value) (ks : List IntKind) : Prop := cs.length = ks.length ∧ ∀ (i : Nat) (q : IntKind), ks[i]? = some q → ∃ x, cs[i]? = some (Value.int q x) ∧ (Lit.int q x).wf = true
theorem Leafy.part {cs : List Value} {ks : List IntKind} (h : Leafy cs ks) (o l : Nat) : Leafy ((cs.drop o).take l) ((ks.drop o).take l) :=
  ⟨by simp [h.1], fun i q hi => by
    rw [List.getElem?_take] at hi ⊢
    split at hi
    · rename_i hl
      rw [if_pos hl, List.getElem?_drop]
      rw [List.getElem?_drop] at hi
      exact h.2 _ q hi
    · cases hi⟩
def wideB (P : Program) (k : TypeId) : Bool := match P.underlying k with | some (.array _ _) | some (.struct _) => true | _ => false
def IsMap (w : World) (b : Nat) (es : Array MapEntry) (c : Nat) : Prop := w.heap[b]? = some (.map es c)
theorem IsMap.ext {w w' : World} {b : Nat} {es : Array MapEntry} {c : Nat} (h : IsMap w b es c) (hx : Ext w w') : IsMap w' b es c := by
  have hlt : b < w.heap.size := (Array.getElem?_eq_some_iff.1 h).1
  unfold IsMap
  rw [hx.block b hlt]; exact h
section
variable {P : Program} {n : Nat} {F : List (Nat × Value)} {a : Act} {w w0 : World} {d : Option Tmp} {t T kt et : TypeId} {pos : String} {af : Array Edge} {gd : Option (Nat × Bool)} {x y z : Operand} {X : List Nat} {L : Own} {D : Froz}
end
end Go.Sw

namespace Go.Sw
open Go Go.RowKit
section
variable {P : Program} {X : List Nat} {w0 w : World} {D : Froz} {W : List Nat} {L0 L : Own} {kt : Nat} {csO csN : Array Value} {bb : Bool} {l : List Fact} {i : Nat} {o : Oper} {a : Act}
end
end Go.Sw

namespace Go.Sw
theorem wordsSigns_nb : ∀ (c : Char) (r : List Char), c ≠ ' ' → wordsSigns (c :: r) = match wordsSigns r with
    | w :: ws => (c :: w) :: ws
    | [] => [[c]] := by
  intro c r h;rw [wordsSigns.eq_def]
  split
  · simp_all
  · rename_i heq; simp at heq; exact absurd heq.1 h
  · rename_i heq; simp only [List.cons.injEq] at heq; obtain ⟨rfl, rfl⟩ := heq; rfl
theorem wordsSigns_word : ∀ (w r : List Char), (∀ c ∈ w, c ≠ ' ') → wordsSigns (w ++ ' ' :: r) = w :: wordsSigns r
  | [], r, _ => by simp [wordsSigns]
  | c :: w, r, h => by
    rw [List.cons_append, wordsSigns_nb c _ (h c (by simp)), wordsSigns_word w r (fun d hd => h d (by simp [hd]))]
theorem sum_nb (s : List Char) (h : isSumSigns s = true) : ∀ c ∈ s, c ≠ ' ' := by
  intro c hc he
  unfold isSumSigns at h
  simp only [Bool.and_eq_true, List.all_eq_true] at h;have := h.2 c hc;subst he
  revert this; decide
theorem cutHead (L s r : List Char) (h : L = "harness".toList ++ ' ' :: (s ++ ' ' :: ("cut".toList ++ ' ' :: r))) (hs : isSumSigns s = true) :
    behindMainWord (wordsSigns L) = "cut".toList :: wordsSigns r := by
  rw [h, wordsSigns_word _ _ (by decide), wordsSigns_word _ _ (sum_nb s hs), wordsSigns_word _ _ (by decide)];have : ("harness".toList == "harness".toList || "harness".toList == "ownmain".toList) = true := by decide
  unfold behindMainWord
  show (if (("harness".toList == "harness".toList || "harness".toList == "ownmain".toList) && isSumSigns s) = true then _ else _) = _
  rw [if_pos (by rw [this, hs]; rfl)]
theorem strip_cut (R : List (List Char)) : stripLifts liftWords ("cut".toList :: R) = ([], "cut".toList :: R) := by
  kernel_rfl
theorem lifts_cut (P : Program) (R : List (List Char)) (h : behindMainWord (wordsSigns P.initOrder.toList) = "cut".toList :: R) : P.headLifts = [] := by
  unfold Program.headLifts; rw [h, strip_cut]; rfl
theorem make_cut (P : Program) (R : List (List Char)) (h : behindMainWord (wordsSigns P.initOrder.toList) = "cut".toList :: R) : P.make = some .cut := by
  unfold Program.make; rw [h]
  have h1 : ("cut".toList == "gc".toList || "cut".toList == "spec".toList) = false := by decide
  have h2 : ("cut".toList == "cut".toList) = true := by decide
  simp only [h1, h2]; rfl
theorem final_cut (P : Program) (R : List (List Char)) (h : behindMainWord (wordsSigns P.initOrder.toList) = "cut".toList :: R) : P.liftsFinal = false := by
  unfold Program.liftsFinal; rw [lifts_cut P R h, h]; kernel_rfl
theorem enter_cut (P : Program) (R : List (List Char)) (h : behindMainWord (wordsSigns P.initOrder.toList) = "cut".toList :: R)
    (hl : P.laysLater = false) (hb : P.bearsReflect = false) (hd : P.doorFits [] = true) : P.mayEnter = true := by
  unfold Program.mayEnter; rw [h]
  simp only [strip_cut, hl, hb, hd]
  kernel_rfl
end Go.Sw
