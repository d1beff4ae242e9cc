/- Plain lemmas of a small calculus for walks over frames and own memory; no statement of the seat is proved here. -/
import Derived.Test.YtppbjdebomikbaaSw66
import Derived.Test.YtppbjdebomikbaaEch
import Derived.Test.YtppbjdebomikbaaSw65
import Derived.Test.YtppbjdebomikbaaSw22
import Derived.DeepKeys4
import Derived.JoinedOf
import Derived.KernelRfl
set_option linter.unusedVariables false
set_option linter.unusedSimpArgs false
namespace Go.Sw
open Go Go.RowKit
/-! ### A region that draws its order, with one call among its operations that gives new blocks to read -/
def factsD (l : List Fact) (s : Nat) : Facts (Own × Value × Froz) := fun i g u w => match Nat.beq i s with
  | true => u = g.2.1
  | false => factsOf l i g.1 u w
def ParD (X : List Nat) (w0 : World) (D : Froz) (W : List Nat) (L0 : Own) (Q : Froz → Value → Prop) (b : Bool) (g : Own × Value × Froz) (w : World) : Prop :=
  Par X w0 (g.2.2 ++ D) W L0 g.1 w ∧ (b = false → g.2.2 = []) ∧ (b = true → Q g.2.2 g.2.1)
section
variable {P : Program} {X : List Nat} {w0 w : World} {D : Froz} {W : List Nat} {L0 : Own} {Q : Froz → Value → Prop} {s i : Nat} {b : Bool} {g : Own × Value × Froz} {l : List Fact} {o : Oper} {a : Act}
theorem factsD_ne (h : Nat.beq i s = false) (u : Value) : factsD l s i g u w = factsOf l i g.1 u w := by unfold factsD; rw [h]
theorem ParD.drew (h : ParD X w0 D W L0 Q b g w) : ParD X w0 D W L0 Q b g w.drew := ⟨⟨h.1.1.ext (Below.drew (Below.refl _ _)), h.1.2⟩, h.2⟩
theorem ParD.mem (h : ParD X w0 D W L0 Q b g w) (hW : holes W L0 = true) : MemX X w0 w L0 D := (Par.mem h.1 hW).sub D (fun _ hx => List.mem_append_right _ hx)
theorem pd_val {v : Value} (hS : ParD X w0 D W L0 Q b g w) (hs : Nat.beq i s = false) (hi : l[i]? = some (.val v)) (hg : Gives P o a w v) : Does P o a w (AfterG (ParD X w0 D W L0 Q) (factsD l s) b i g w) :=
  hg.mono fun u w' ⟨h1, h2⟩ => by subst h2; exact ⟨g, hS, by rw [factsD_ne hs]; exact fact_get hi h1, fun j u _ h => h⟩
theorem factsD_ext {w' : World} (hl : Lasts l) (hx : Ext w w') (j : Nat) (u : Value) (h : factsD l s j g u w) : factsD l s j g u w' := by
  unfold factsD at *
  cases e : Nat.beq j s with
  | true => rw [e] at h; exact h
  | false => rw [e] at h; exact facts_ext hl hx j u h
theorem pd_call {v : Value} (hl : Lasts l) (hS : ParD X w0 D W L0 Q b g w) (hs : Nat.beq i s = false) (hi : l[i]? = some (.val v)) (hg : Does P o a w (fun u w' => Ext w w' ∧ u = v)) : Does P o a w (AfterG (ParD X w0 D W L0 Q) (factsD l s) b i g w) :=
  hg.mono fun _ _ ⟨h1, h2⟩ => ⟨g, ⟨⟨hS.1.1.ext h1, hS.1.2⟩, hS.2⟩, by rw [factsD_ne hs]; exact fact_get hi h2, fun j u _ h => factsD_ext hl h1 j u h⟩
theorem pd_own {k : Nat} {cs : Array Value} {mk : Nat → Value} (hl : Lasts l) (hS : ParD X w0 D W L0 Q b g w) (hs : Nat.beq i s = false) (hi : l[i]? = some (.own k cs mk)) (hk : memNat k W = true) (hkl : Nat.blt k L0.length = true) (h1 : onePlace k i l 0 = true)
    (hg : Does P o a w (fun u w' => ∃ b, u = mk b ∧ MemX X w0 w' (g.1.set k (some (b, cs))) (g.2.2 ++ D) ∧ Ext w w')) : Does P o a w (AfterG (ParD X w0 D W L0 Q) (factsD l s) b i g w) :=
  hg.mono fun u w' ⟨bq, hu, hM, hx⟩ => by
    have hkl' : k < g.1.length := by rw [hS.1.2.1]; exact Nat.blt_eq.mp hkl
    refine ⟨(g.1.set k (some (bq, cs)), g.2), ⟨⟨hM, hS.1.2.set k hk _⟩, hS.2⟩, ?_, fun j u hj h => ?_⟩
    · rw [factsD_ne hs]; exact fact_get hi ⟨bq, hu, by simp [hkl']⟩
    · unfold factsD at *
      cases ej : Nat.beq j s with
      | true => rw [ej] at h; exact h
      | false =>
        rw [ej] at h
        have h2 := facts_ext hl hx j u h
        dsimp only at h2 ⊢
        unfold factsOf at *
        cases e : l[j]? with
        | none => trivial
        | some fq =>
          rw [e] at h2
          have hp := onePlace_spec h1 j fq e (by omega)
          cases fq with
          | val v => exact h2
          | rel R => exact h2
          | own q ds mk' =>
            obtain ⟨c, h3, h4⟩ := h2
            refine ⟨c, h3, ?_⟩
            rw [List.getElem?_set, if_neg (fun e => hp (by subst e; rfl))]; exact h4
theorem pd_new (hl : Lasts l) (hS : ParD X w0 D W L0 Q false g w)
    (hg : Does P o a w (fun u w' => Ext w w' ∧ ∃ D', (∀ x ds, (x, ds) ∈ D' → w.heap.size ≤ x ∧ Blk w' x ds) ∧ Q D' u)) : Does P o a w (AfterG (ParD X w0 D W L0 Q) (factsD l s) true s g w) :=
  hg.mono fun u w' ⟨hx, D', hD, hq⟩ => by
    have hM := hS.1.1
    rw [hS.2.1 rfl] at hM
    refine ⟨(g.1, u, D'), ⟨⟨hM.addD hx hD, hS.1.2⟩, fun hb => (by cases hb), fun _ => hq⟩, by unfold factsD; rw [show Nat.beq s s = true by simp], fun j u hj h => ?_⟩
    unfold factsD at *
    cases ej : Nat.beq j s with
    | true => exact absurd (Nat.eq_of_beq_eq_true ej) hj
    | false => rw [ej] at h; exact facts_ext hl hx j u h
end
end Go.Sw

namespace Go.Sw
open Go Go.RowKit Go.ChangeShapes Go.WideShapes Go.ChangeAt
def algE (p n : Int) (T : Nat → Nat → Nat → Nat) (f : Nat → Nat) (c : Nat) : Value :=
  if c = 0 then .int .i64 p else if c = 1 then .int .i64 n else if c < 218 then .int .u8 (T ((c - 2) / 36) ((c - 2) / 6 % 6) ((c - 2) % 6)) else .int .u8 (f (c - 218))
def pairC (p n : Int) (T : Nat → Nat → Nat → Nat) (f : Nat → Nat) (q m : Int) (U : Nat → Nat → Nat → Nat) (g : Nat → Nat) (Z : Nat → Nat → Nat) : Array Value :=
  fnC 484 fun c => if c < 224 then algE p n T f c else if c < 448 then algE q m U g (c - 224) else .int .u8 (Z ((c - 448) / 6) ((c - 448) % 6))
section
variable {p n q m p' n' : Int} {T U T' : Nat → Nat → Nat → Nat} {f g f' : Nat → Nat} {Z Z' : Nat → Nat → Nat}
theorem algC_algE {c : Nat} (h : c < 224) : (algC p n T f)[c]? = some (algE p n T f c) := fnC_get h
theorem pairC_size : (pairC p n T f q m U g Z).size = 484 := fnC_size _ _
theorem pairC_A {o : Nat} (h : o < 224) : (pairC p n T f q m U g Z)[o]? = (algC p n T f)[o]? := by
  unfold pairC
  rw [fnC_get (by omega), if_pos h, algC_algE h]
theorem pairC_B {o : Nat} (r : Nat) (h : o = 224 + r) (hr : r < 224) : (pairC p n T f q m U g Z)[o]? = (algC q m U g)[r]? := by
  subst h
  unfold pairC
  rw [fnC_get (by omega), if_neg (by omega), if_pos (by omega), algC_algE hr, show 224 + r - 224 = r by omega]
theorem pairC_Z {o : Nat} (i j : Nat) (h : o = 448 + i * 6 + j) (hi : i < 6) (hj : j < 6) : (pairC p n T f q m U g Z)[o]? = some (.int .u8 (Z i j : Int)) := by
  subst h
  unfold pairC
  rw [fnC_get (by omega), if_neg (by omega), if_neg (by omega), show (448 + i * 6 + j - 448) / 6 = i by omega, show (448 + i * 6 + j - 448) % 6 = j by omega]
theorem pairC_exA {o e : Nat} (h : e ≤ 224) : (pairC p n T f q m U g Z).extract o e = (algC p n T f).extract o e := by
  apply Array.ext_getElem?
  intro i;rw [Array.getElem?_extract, Array.getElem?_extract, pairC_size, cells_size]
  by_cases hi : i < e - o
  · rw [if_pos (by omega), if_pos (by omega)]; exact pairC_A (by omega)
  · rw [if_neg (by omega), if_neg (by omega)]
theorem pairC_exB {o e : Nat} (r s : Nat) (h : o = 224 + r) (h2 : e = 224 + s) (hs : s ≤ 224) : (pairC p n T f q m U g Z).extract o e = (algC q m U g).extract r s := by
  subst h h2
  apply Array.ext_getElem?
  intro i;rw [Array.getElem?_extract, Array.getElem?_extract, pairC_size, cells_size]
  by_cases hi : i < s - r
  · rw [if_pos (by omega), if_pos (by omega)]; exact pairC_B (r + i) (by omega) (by omega)
  · rw [if_neg (by omega), if_neg (by omega)]
theorem algC_whole : (algC p n T f).extract 0 224 = algC p n T f := by
  apply Array.ext_getElem?
  intro i;rw [Array.getElem?_extract, cells_size]
  by_cases hi : i < 224
  · rw [if_pos (by omega), Nat.zero_add]
  · rw [if_neg (by omega), Array.getElem?_eq_none (by rw [cells_size]; omega)]
theorem pairC_closed {o e : Nat} (h : o = 0) (he : e = o + 224) : (pairC p n T f q m U g Z).extract o e = algC p n T f := by
  subst h he;rw [pairC_exA (by omega)]; exact algC_whole
theorem pairC_open {o e : Nat} (h : o = 224) (he : e = o + 224) : (pairC p n T f q m U g Z).extract o e = algC q m U g := by
  subst h he;rw [pairC_exB 0 224 rfl rfl (Nat.le_refl _)]; exact algC_whole
theorem pairC_zip {o e : Nat} (h : o = 448) (he : e = o + 36) : (pairC p n T f q m U g Z).extract o e = planeC Z := by
  subst h;exact extract_ext he (by rw [pairC_size]; omega) fun c hc => pairC_Z (c / 6) (c % 6) (by omega) (by omega) (by omega)
theorem algE_one (c : Nat) : (algE p n T f c).oneCell' = true := by
  unfold algE
  split
  · rfl
  · split
    · rfl
    · split <;> rfl
theorem pairC_one : ∀ u ∈ (pairC p n T f q m U g Z).toList, u.oneCell' = true := fnC_one fun i _ => by
  split
  · exact algE_one _
  · split
    · exact algE_one _
    · rfl
theorem pairC_eq {c : Array Value} (hs : c.size = 484) (hA : ∀ i, i < 224 → c[i]? = (algC p n T f)[i]?) (hB : ∀ i, i < 224 → c[224 + i]? = (algC q m U g)[i]?) (hZ : ∀ i j, i < 6 → j < 6 → c[448 + i * 6 + j]? = some (.int .u8 (Z i j : Int))) : c = pairC p n T f q m U g Z := by
  apply Array.ext_getElem?
  intro i
  by_cases h1 : i < 224
  · rw [hA i h1, pairC_A h1]
  · by_cases h2 : i < 448
    · have e : i = 224 + (i - 224) := by omega
      rw [e, hB _ (by omega), pairC_B (i - 224) rfl (by omega)]
    · by_cases h3 : i < 484
      · have e : i = 448 + ((i - 448) / 6) * 6 + (i - 448) % 6 := by omega
        rw [e, hZ _ _ (by omega) (by omega), pairC_Z _ _ rfl (by omega) (by omega)]
      · rw [Array.getElem?_eq_none (by omega), Array.getElem?_eq_none (by rw [pairC_size]; omega)]
theorem pairC_congr (h : ∀ i j, i < 6 → j < 6 → Z i j = Z' i j) : pairC p n T f q m U g Z = pairC p n T f q m U g Z' :=
  pairC_eq pairC_size (fun _ h => pairC_A h) (fun i h => pairC_B i rfl h) fun i j hi hj => by rw [pairC_Z i j rfl hi hj, h i j hi hj]
theorem pairC_putR {o : Nat} {v : Nat → Nat} (k : Nat) (h : o = 448 + k * 6) (hk : k < 6) : splice (pairC p n T f q m U g Z) o (vecC v) = pairC p n T f q m U g (fun a c => if a = k then v c else Z a c) := by
  subst h;have hz : 448 + k * 6 + (vecC v).size ≤ (pairC p n T f q m U g Z).size := by rw [vecC_size, pairC_size]; omega
  refine pairC_eq (by rw [splice_size _ _ _ hz, pairC_size]) ?_ ?_ ?_
  · intro i hi; rw [splice_get _ _ _ _ hz, vecC_size, if_neg (by omega)]; exact pairC_A hi
  · intro i hi; rw [splice_get _ _ _ _ hz, vecC_size, if_neg (by omega)]; exact pairC_B i rfl hi
  · intro i j hi hj
    rw [splice_get _ _ _ _ hz, vecC_size]
    by_cases e : i = k
    · subst e; rw [if_pos (by omega), if_pos rfl]; exact vecC_get j (by omega) hj
    · rw [if_neg (by omega), if_neg e]; exact pairC_Z i j rfl hi hj
end
def pairKs : List IntKind := algKs ++ (algKs ++ List.replicate 36 .u8)
section
variable {H : Type} {enc : TypeId × Value → H} {P : Program} {w : World} {base : Nat} {spare : Nat → Bool} {held : Bool} {t : TypeId} {v : Value} {d : DataW H} {p : List MemPlace}
end
end Go.Sw

namespace Go.Sw
open Go Go.RowKit
/-! ### A region that draws its order, with one store, and calls that give new blocks to read -/
def factsK (kt : Nat) (l : List Fact) (nw : List Nat) (Q : Froz → Value → Prop) : Facts (Own × Froz) := fun i g u w => match memNat i nw with
  | true => ∃ DK, (∀ x, x ∈ DK → x ∈ g.2) ∧ Q DK u
  | false => factsG kt l i g.1 u w
def ParK (X : List Nat) (w0 : World) (D : Froz) (W : List Nat) (L0 : Own) (kt : Nat) (csO csN : Array Value) (bb : Bool) (g : Own × Froz) (w : World) : Prop := ParG X w0 (g.2 ++ D) W L0 kt csO csN bb g.1 w
section
variable {P : Program} {X : List Nat} {w0 w : World} {D : Froz} {W : List Nat} {L0 : Own} {kt : Nat} {csO csN : Array Value} {bb : Bool} {l : List Fact} {i : Nat} {o : Oper} {a : Act} {g : Own × Froz} {nw : List Nat} {Q : Froz → Value → Prop}
theorem ParK.drew (h : ParK X w0 D W L0 kt csO csN bb g w) : ParK X w0 D W L0 kt csO csN bb g w.drew := ⟨⟨h.1.1.ext (Below.drew (Below.refl _ _)), h.1.2⟩, h.2⟩
end
end Go.Sw

namespace Go.Sw
open Go Go.RowKit Go.Ech
def EmpF (w0 : World) (L : Own) (u : Value) (w' : World) : Prop := ∃ b, u = .slice (some ⟨b, 0, none⟩) 0 0 ∧ Blk w' b #[] ∧ w0.heap.size ≤ b ∧ ∀ (k : Nat) c ds, L[k]? = some (some (c, ds)) → c ≠ b
theorem EmpF.last {w0 w w' : World} {L : Own} {u : Value} (h : EmpF w0 L u w) (hx : Ext w w') : EmpF w0 L u w' := by
  obtain ⟨b, h1, h2, h3⟩ := h; exact ⟨b, h1, h2.ext hx, h3⟩
theorem EmpF.of {w0 w w' : World} {L : Own} {D : Froz} {u : Value} {k : Nat} (hk : L[k]? = some none) (h : ∃ b, u = .slice (some ⟨b, 0, none⟩) 0 0 ∧ Mem w0 w' (L.set k (some (b, #[]))) D ∧ Ext w w') : EmpF w0 L u w' := by
  obtain ⟨b, h1, hM, _⟩ := h;have hkl := (List.getElem?_eq_some_iff.1 hk).1;have e : (L.set k (some (b, #[])))[k]? = some (some (b, #[])) := by rw [List.getElem?_set, if_pos rfl, if_pos hkl]
  refine ⟨b, h1, hM.row k e, hM.ge k e, fun j c ds hj e2 => ?_⟩;subst e2
  by_cases ej : j = k
  · subst ej; rw [hk] at hj; simp at hj
  · have := hM.apart j k c ds #[] (by rw [List.getElem?_set, if_neg (fun q => ej q.symm)]; exact hj) e
    exact ej this
theorem EmpF.build {P : Program} {o : Oper} {a : Act} {w0 w : World} {L : Own} {D : Froz} {k : Nat} (hk : L[k]? = some none) (hg : Does P o a w (fun u w' => ∃ b, u = .slice (some ⟨b, 0, none⟩) 0 0 ∧ Mem w0 w' (L.set k (some (b, #[]))) D ∧ Ext w w')) : Does P o a w (fun u w' => Ext w w' ∧ EmpF w0 L u w') :=
  hg.mono fun u w' h => ⟨h.elim fun b hb => hb.2.2, EmpF.of hk h⟩
end Go.Sw

namespace Go.Sw
open Go Go.RowKit Go.Ech
def TabIF (w0 : World) (L : Own) (D : Froz) (n : Nat) (M : Nat → Nat → Nat) (u : Value) (w' : World) : Prop := ∃ (D' : Froz) (β : Nat → Nat) (b : Nat) (cs : Array Value),
  (∀ x ds, (x, ds) ∈ D' → w0.heap.size ≤ x ∧ Blk w' x ds ∧ ∀ (k : Nat) c es, L[k]? = some (some (c, es)) → c ≠ x) ∧ RowsC D' n β (fun i => rowI n (M i)) ∧ u = .slice (some ⟨b, 0, Option.none⟩) n n ∧ (∀ i, i < n → cs[0 + i * 1]? = some (.slice (some ⟨β i, 0, Option.none⟩) n n)) ∧ (b, cs) ∈ D' ∧ (∀ i, i < n → β i ≠ b) ∧ ∀ i, i < n → ∀ x ∈ D, x.1 ≠ β i
theorem TabIF.last {w0 w w' : World} {L : Own} {D : Froz} {n : Nat} {M : Nat → Nat → Nat} {u : Value} (h : TabIF w0 L D n M u w) (hx : Ext w w') : TabIF w0 L D n M u w' := by
  obtain ⟨D', β, b, cs, h1, h2⟩ := h;exact ⟨D', β, b, cs, fun x ds hm => ⟨(h1 x ds hm).1, (h1 x ds hm).2.1.ext hx, (h1 x ds hm).2.2⟩, h2⟩
def TupR (R : Value → World → Prop) (u : Value) (w' : World) : Prop := ∃ l, u = .tuple #[l, .int .i64 0] ∧ R l w'
end Go.Sw

namespace Go.Sw
open Go Go.RowKit
variable {P : Program}
/-! ### Texts: length, bytes, parts. -/
def byt (s : ByteArray) (i : Nat) : Nat := (s.data.getD i 0).toNat
section
variable {n : Nat} {F : List (Nat × Value)} {a : Act} {w : World} {d : Option Tmp} {t T T' : TypeId} {pos : String} {af : Array Edge} {gd : Option (Nat × Bool)} {x y z : Operand}
end
end Go.Sw

namespace Go.Sw
open Go Go.RowKit
/-! ### Maps whose keys are structs of numbers. -/
def leafs (P : Program) : Nat → TypeId → List IntKind → Bool
  | 0, _, _ => false
  | d + 1, t, ks =>
    match P.underlying t with
    | some (.int q) => decide (ks = [q])
    | some (.array n e) => Nat.beq ks.length (P.cellsOf t) && (List.range n).all fun i => leafs P d e ((ks.drop (i * P.cellsOf e)).take (P.cellsOf e))
    | some (.struct fs) => Nat.beq ks.length (P.cellsOf t) && fs.all (·.name != "_") && fs.toList.all fun f => leafs P d f.type ((ks.drop f.offset).take (P.cellsOf f.type))
    | _ => false
def Leafy (cs : List Value) (ks : List IntKind) : Prop := cs.length = ks.length ∧ ∀ (i : Nat) (q : IntKind), ks[i]? = some q → ∃ x, cs[i]? = some (Value.int q x) ∧ (Lit.int q x).wf = true
theorem Leafy.part {cs : List Value} {ks : List IntKind} (h : Leafy cs ks) (o l : Nat) : Leafy ((cs.drop o).take l) ((ks.drop o).take l) :=
  ⟨by simp [h.1], fun i q hi => by
    rw [List.getElem?_take] at hi ⊢
    split at hi
    · rename_i hl
      rw [if_pos hl, List.getElem?_drop]
      rw [List.getElem?_drop] at hi
      exact h.2 _ q hi
    · cases hi⟩
def wideB (P : Program) (k : TypeId) : Bool := match P.underlying k with | some (.array _ _) | some (.struct _) => true | _ => false
def IsMap (w : World) (b : Nat) (es : Array MapEntry) (c : Nat) : Prop := w.heap[b]? = some (.map es c)
theorem IsMap.ext {w w' : World} {b : Nat} {es : Array MapEntry} {c : Nat} (h : IsMap w b es c) (hx : Ext w w') : IsMap w' b es c := by
  have hlt : b < w.heap.size := (Array.getElem?_eq_some_iff.1 h).1
  unfold IsMap
  rw [hx.block b hlt]; exact h
section
variable {P : Program} {n : Nat} {F : List (Nat × Value)} {a : Act} {w w0 : World} {d : Option Tmp} {t T kt et : TypeId} {pos : String} {af : Array Edge} {gd : Option (Nat × Bool)} {x y z : Operand} {X : List Nat} {L : Own} {D : Froz}
end
end Go.Sw

namespace Go.Sw
open Go Go.RowKit
section
variable {P : Program} {X : List Nat} {w0 w : World} {D : Froz} {W : List Nat} {L0 L : Own} {kt : Nat} {csO csN : Array Value} {bb : Bool} {l : List Fact} {i : Nat} {o : Oper} {a : Act}
end
end Go.Sw

namespace Go.Sw
theorem wordsSigns_nb : ∀ (c : Char) (r : List Char), c ≠ ' ' → wordsSigns (c :: r) = match wordsSigns r with
    | w :: ws => (c :: w) :: ws
    | [] => [[c]] := by
  intro c r h;rw [wordsSigns.eq_def]
  split
  · simp_all
  · rename_i heq; simp at heq; exact absurd heq.1 h
  · rename_i heq; simp only [List.cons.injEq] at heq; obtain ⟨rfl, rfl⟩ := heq; rfl
theorem wordsSigns_word : ∀ (w r : List Char), (∀ c ∈ w, c ≠ ' ') → wordsSigns (w ++ ' ' :: r) = w :: wordsSigns r
  | [], r, _ => by simp [wordsSigns]
  | c :: w, r, h => by
    rw [List.cons_append, wordsSigns_nb c _ (h c (by simp)), wordsSigns_word w r (fun d hd => h d (by simp [hd]))]
theorem sum_nb (s : List Char) (h : isSumSigns s = true) : ∀ c ∈ s, c ≠ ' ' := by
  intro c hc he
  unfold isSumSigns at h
  simp only [Bool.and_eq_true, List.all_eq_true] at h;have := h.2 c hc;subst he
  revert this; decide
theorem cutHead (L s r : List Char) (h : L = "harness".toList ++ ' ' :: (s ++ ' ' :: ("cut".toList ++ ' ' :: r))) (hs : isSumSigns s = true) :
    behindMainWord (wordsSigns L) = "cut".toList :: wordsSigns r := by
  rw [h, wordsSigns_word _ _ (by decide), wordsSigns_word _ _ (sum_nb s hs), wordsSigns_word _ _ (by decide)];have : ("harness".toList == "harness".toList || "harness".toList == "ownmain".toList) = true := by decide
  unfold behindMainWord
  show (if (("harness".toList == "harness".toList || "harness".toList == "ownmain".toList) && isSumSigns s) = true then _ else _) = _
  rw [if_pos (by rw [this, hs]; rfl)]
theorem strip_cut (R : List (List Char)) : stripLifts liftWords ("cut".toList :: R) = ([], "cut".toList :: R) := by
  kernel_rfl
theorem lifts_cut (P : Program) (R : List (List Char)) (h : behindMainWord (wordsSigns P.initOrder.toList) = "cut".toList :: R) : P.headLifts = [] := by
  unfold Program.headLifts; rw [h, strip_cut]; rfl
theorem make_cut (P : Program) (R : List (List Char)) (h : behindMainWord (wordsSigns P.initOrder.toList) = "cut".toList :: R) : P.make = some .cut := by
  unfold Program.make; rw [h]
  have h1 : ("cut".toList == "gc".toList || "cut".toList == "spec".toList) = false := by decide
  have h2 : ("cut".toList == "cut".toList) = true := by decide
  simp only [h1, h2]; rfl
theorem final_cut (P : Program) (R : List (List Char)) (h : behindMainWord (wordsSigns P.initOrder.toList) = "cut".toList :: R) : P.liftsFinal = false := by
  unfold Program.liftsFinal; rw [lifts_cut P R h, h]; kernel_rfl
theorem enter_cut (P : Program) (R : List (List Char)) (h : behindMainWord (wordsSigns P.initOrder.toList) = "cut".toList :: R)
    (hl : P.laysLater = false) (hb : P.bearsReflect = false) (hd : P.doorFits [] = true) : P.mayEnter = true := by
  unfold Program.mayEnter; rw [h]
  simp only [strip_cut, hl, hb, hd]
  kernel_rfl
end Go.Sw
