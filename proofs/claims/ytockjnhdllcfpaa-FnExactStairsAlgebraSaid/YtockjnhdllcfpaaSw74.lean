/- Plain lemmas of a small calculus for walks over frames and own memory; no statement of the seat is proved here. -/
import Derived.Test.YtockjnhdllcfpaaSw33
import Derived.DeepKeys4
import Derived.StringKeys
import Derived.Test.YtockjnhdllcfpaaSw29
set_option linter.unusedVariables false
set_option linter.unusedSimpArgs false
namespace Go.Sw
open Go Go.RowKit Go.Ech
section
variable {X : List Nat} {w0 w w' : World} {L : Own} {D : Froz}
def TabI (w w' : World) (n : Nat) (M : Nat → Nat → Nat) (u : Value) : Prop := ∃ (D : Froz) (β : Nat → Nat) (b : Nat) (cs : Array Value),
  (∀ x ds, (x, ds) ∈ D → w.heap.size ≤ x ∧ Blk w' x ds) ∧ RowsC D n β (fun i => rowI n (M i)) ∧ u = .slice (some ⟨b, 0, Option.none⟩) n n ∧ (∀ i, i < n → cs[0 + i * 1]? = some (.slice (some ⟨β i, 0, Option.none⟩) n n)) ∧ (b, cs) ∈ D ∧ ∀ i, i < n → β i ≠ b
theorem TabI.of {n q : Nat} {β : Nat → Nat} {M : Nat → Nat → Nat} {b : Nat} {cs : Array Value} (hM : Mem w w' L D) (hR : RowsC D n β (fun i => rowI n (M i))) (hq : L[q]? = some (some (b, cs))) (hg : ∀ i, i < n → cs[0 + i * 1]? = some (.slice (some ⟨β i, 0, Option.none⟩) n n)) (hge : ∀ i, i < n → w.heap.size ≤ β i) : TabI w w' n M (.slice (some ⟨b, 0, Option.none⟩) n n) := by
  refine ⟨(b, cs) :: (List.range n).map (fun i => (β i, rowI n (M i))), β, b, cs, fun x ds hx => ?_, ⟨fun i hi => mem_rowsD (R := fun i => rowI n (M i)) hi, hR.inj⟩, rfl, hg, List.mem_cons_self .., fun i hi e => (hM.froz _ _ (hR.mem i hi)).2 q b cs hq e.symm⟩
  rcases List.mem_cons.1 hx with e | hx
  · simp only [Prod.mk.injEq] at e; obtain ⟨rfl, rfl⟩ := e; exact ⟨hM.ge q hq, hM.row q hq⟩
  · obtain ⟨i, hi, e⟩ := List.mem_map.1 hx
    simp only [Prod.mk.injEq] at e; obtain ⟨rfl, rfl⟩ := e;have hi : i < n := by simpa using hi
    exact ⟨hge i hi, hM.fzm (hR.mem i hi)⟩
theorem MemX.marked {n : Nat} {β : Nat → Nat} {R R' : Nat → Array Value} (h : MemX X w0 w L D) (hC : RowsC D n β R) (hge : ∀ i, i < n → w0.heap.size ≤ β i) (hx : ExtX ((List.range n).map β) w w') (hb : ∀ i, i < n → Blk w' (β i) (R' i)) :
    ∃ DM : Froz, MemX X w0 w' L DM ∧ (∀ x ∈ D, (∀ i, i < n → x.1 ≠ β i) → x ∈ DM) ∧ RowsC DM n β R' := by
  have hY : ∀ y ∈ (List.range n).map β, ∃ i, i < n ∧ β i = y := fun y hy => by
    obtain ⟨i, hi, e⟩ := List.mem_map.1 hy; exact ⟨i, by simpa using hi, e⟩
  let E := D.filter (fun x => decide (∀ i, i < n → x.1 ≠ β i))
  have hE : ∀ x, x ∈ E ↔ x ∈ D ∧ ∀ i, i < n → x.1 ≠ β i := fun x => by
    show x ∈ D.filter _ ↔ _
    rw [List.mem_filter]; simp only [decide_eq_true_eq]
  have h1 := (h.sub E (fun x hx => ((hE x).1 hx).1)).extY hx fun y hy => by
    obtain ⟨i, hi, rfl⟩ := hY y hy;exact ⟨hge i hi, (h.froz _ _ (hC.mem i hi)).2, fun c ds hm => ((hE _).1 hm).2 i hi⟩
  have h2 := h1.addD' (D' := (List.range n).map (fun i => (β i, R' i))) fun c ds hm => by
    obtain ⟨i, hi, e⟩ := List.mem_map.1 hm;simp only [Prod.mk.injEq] at e; obtain ⟨rfl, rfl⟩ := e;have hi : i < n := by simpa using hi
    exact ⟨hb i hi, (h.froz _ _ (hC.mem i hi)).2⟩
  exact ⟨_, h2, fun x hx hn => List.mem_append_right _ ((hE x).2 ⟨hx, hn⟩), ⟨fun i hi => List.mem_append_left _ (List.mem_map.2 ⟨i, by simpa using hi, rfl⟩), hC.inj⟩⟩
end
theorem TabI.base {w w1 w' : World} {n : Nat} {M : Nat → Nat → Nat} {u : Value} (h : TabI w1 w' n M u) (hs : w.heap.size ≤ w1.heap.size) : TabI w w' n M u := by
  obtain ⟨D, β, b, cs, h1, h2⟩ := h;exact ⟨D, β, b, cs, fun x ds hm => ⟨Nat.le_trans hs (h1 x ds hm).1, (h1 x ds hm).2⟩, h2⟩
theorem TabOut.base {w w1 w' : World} {N k : Nat} {f : Nat → Nat → Value} {u : Value} (h : TabOut w1 w' N k f u) (hs : w.heap.size ≤ w1.heap.size) : TabOut w w' N k f u := by
  obtain ⟨D, β, κ, C, b, cap, cs, h1, h2⟩ := h;exact ⟨D, β, κ, C, b, cap, cs, fun x ds hm => ⟨Nat.le_trans hs (h1 x ds hm).1, (h1 x ds hm).2⟩, h2⟩
def FreshV (w0 : World) (L : Own) (N : Nat) (f : Nat → Value) (u : Value) (w' : World) : Prop := ∃ b cap cs, SlAt 6 u (some (b, cs)) N b cap cs f ∧ Blk w' b cs ∧ w0.heap.size ≤ b ∧ ∀ (k : Nat) c ds, L[k]? = some (some (c, ds)) → c ≠ b
theorem FreshV.last {w0 w w' : World} {L : Own} {N : Nat} {f : Nat → Value} {u : Value} (h : FreshV w0 L N f u w) (hx : Ext w w') : FreshV w0 L N f u w' := by
  obtain ⟨b, cap, cs, h1, h2, h3⟩ := h; exact ⟨b, cap, cs, h1, h2.ext hx, h3⟩
end Go.Sw

namespace Go.Sw
open Go Go.RowKit Go.Ech
def EmpF (w0 : World) (L : Own) (u : Value) (w' : World) : Prop := ∃ b, u = .slice (some ⟨b, 0, none⟩) 0 0 ∧ Blk w' b #[] ∧ w0.heap.size ≤ b ∧ ∀ (k : Nat) c ds, L[k]? = some (some (c, ds)) → c ≠ b
theorem EmpF.last {w0 w w' : World} {L : Own} {u : Value} (h : EmpF w0 L u w) (hx : Ext w w') : EmpF w0 L u w' := by
  obtain ⟨b, h1, h2, h3⟩ := h; exact ⟨b, h1, h2.ext hx, h3⟩
theorem EmpF.of {w0 w w' : World} {L : Own} {D : Froz} {u : Value} {k : Nat} (hk : L[k]? = some none) (h : ∃ b, u = .slice (some ⟨b, 0, none⟩) 0 0 ∧ Mem w0 w' (L.set k (some (b, #[]))) D ∧ Ext w w') : EmpF w0 L u w' := by
  obtain ⟨b, h1, hM, _⟩ := h;have hkl := (List.getElem?_eq_some_iff.1 hk).1;have e : (L.set k (some (b, #[])))[k]? = some (some (b, #[])) := by rw [List.getElem?_set, if_pos rfl, if_pos hkl]
  refine ⟨b, h1, hM.row k e, hM.ge k e, fun j c ds hj e2 => ?_⟩;subst e2
  by_cases ej : j = k
  · subst ej; rw [hk] at hj; simp at hj
  · have := hM.apart j k c ds #[] (by rw [List.getElem?_set, if_neg (fun q => ej q.symm)]; exact hj) e
    exact ej this
theorem EmpF.build {P : Program} {o : Oper} {a : Act} {w0 w : World} {L : Own} {D : Froz} {k : Nat} (hk : L[k]? = some none) (hg : Does P o a w (fun u w' => ∃ b, u = .slice (some ⟨b, 0, none⟩) 0 0 ∧ Mem w0 w' (L.set k (some (b, #[]))) D ∧ Ext w w')) : Does P o a w (fun u w' => Ext w w' ∧ EmpF w0 L u w') :=
  hg.mono fun u w' h => ⟨h.elim fun b hb => hb.2.2, EmpF.of hk h⟩
end Go.Sw

namespace Go.Sw
open Go Go.RowKit Go.Ech
def TabIF (w0 : World) (L : Own) (D : Froz) (n : Nat) (M : Nat → Nat → Nat) (u : Value) (w' : World) : Prop := ∃ (D' : Froz) (β : Nat → Nat) (b : Nat) (cs : Array Value),
  (∀ x ds, (x, ds) ∈ D' → w0.heap.size ≤ x ∧ Blk w' x ds ∧ ∀ (k : Nat) c es, L[k]? = some (some (c, es)) → c ≠ x) ∧ RowsC D' n β (fun i => rowI n (M i)) ∧ u = .slice (some ⟨b, 0, Option.none⟩) n n ∧ (∀ i, i < n → cs[0 + i * 1]? = some (.slice (some ⟨β i, 0, Option.none⟩) n n)) ∧ (b, cs) ∈ D' ∧ (∀ i, i < n → β i ≠ b) ∧ ∀ i, i < n → ∀ x ∈ D, x.1 ≠ β i
theorem TabIF.last {w0 w w' : World} {L : Own} {D : Froz} {n : Nat} {M : Nat → Nat → Nat} {u : Value} (h : TabIF w0 L D n M u w) (hx : Ext w w') : TabIF w0 L D n M u w' := by
  obtain ⟨D', β, b, cs, h1, h2⟩ := h;exact ⟨D', β, b, cs, fun x ds hm => ⟨(h1 x ds hm).1, (h1 x ds hm).2.1.ext hx, (h1 x ds hm).2.2⟩, h2⟩
def TupR (R : Value → World → Prop) (u : Value) (w' : World) : Prop := ∃ l, u = .tuple #[l, .int .i64 0] ∧ R l w'
end Go.Sw

namespace Go.Sw
open Go Go.RowKit
variable {P : Program}
/-! ### Texts: length, bytes, parts. -/
def byt (s : ByteArray) (i : Nat) : Nat := (s.data.getD i 0).toNat
section
variable {n : Nat} {F : List (Nat × Value)} {a : Act} {w : World} {d : Option Tmp} {t T T' : TypeId} {pos : String} {af : Array Edge} {gd : Option (Nat × Bool)} {x y z : Operand}
end
end Go.Sw

namespace Go.Sw
open Go Go.RowKit
/-! ### Maps whose keys are structs of numbers. -/
def leafs (P : Program) : Nat → TypeId → List IntKind → Bool
  | 0, _, _ => false
  | d + 1, t, ks =>
    match P.underlying t with
    | some (.int q) => decide (ks = [q])
    | some (.array n e) => Nat.beq ks.length (P.cellsOf t) && (List.range n).all fun i => leafs P d e ((ks.drop (i * P.cellsOf e)).take (P.cellsOf e))
    | some (.struct fs) => Nat.beq ks.length (P.cellsOf t) && fs.all (·.name != "_") && fs.toList.all fun f => leafs P d f.type ((ks.drop f.offset).take (P.cellsOf f.type))
    | _ => false
def Leafy (cs : List Value) (ks : List IntKind) : Prop := cs.length = ks.length ∧ ∀ (i : Nat) (q : IntKind), ks[i]? = some q → ∃ x, cs[i]? = some (Value.int q x) ∧ (Lit.int q x).wf = true
theorem Leafy.part {cs : List Value} {ks : List IntKind} (h : Leafy cs ks) (o l : Nat) : Leafy ((cs.drop o).take l) ((ks.drop o).take l) :=
  ⟨by simp [h.1], fun i q hi => by
    rw [List.getElem?_take] at hi ⊢
    split at hi
    · rename_i hl
      rw [if_pos hl, List.getElem?_drop]
      rw [List.getElem?_drop] at hi
      exact h.2 _ q hi
    · cases hi⟩
def wideB (P : Program) (k : TypeId) : Bool := match P.underlying k with | some (.array _ _) | some (.struct _) => true | _ => false
def IsMap (w : World) (b : Nat) (es : Array MapEntry) (c : Nat) : Prop := w.heap[b]? = some (.map es c)
theorem IsMap.ext {w w' : World} {b : Nat} {es : Array MapEntry} {c : Nat} (h : IsMap w b es c) (hx : Ext w w') : IsMap w' b es c := by
  have hlt : b < w.heap.size := (Array.getElem?_eq_some_iff.1 h).1
  unfold IsMap
  rw [hx.block b hlt]; exact h
section
variable {P : Program} {n : Nat} {F : List (Nat × Value)} {a : Act} {w w0 : World} {d : Option Tmp} {t T kt et : TypeId} {pos : String} {af : Array Edge} {gd : Option (Nat × Bool)} {x y z : Operand} {X : List Nat} {L : Own} {D : Froz}
end
end Go.Sw

namespace Go.Sw
open Go Go.RowKit
/-! ### Maps of the call's own with texts as keys -/
section
variable {P : Program} {n : Nat} {F : List (Nat × Value)} {a : Act} {w w0 : World} {d : Option Tmp} {t T kt et : TypeId} {pos : String} {af : Array Edge} {gd : Option (Nat × Bool)} {x y z : Operand} {X : List Nat} {L : Own} {D : Froz}
end
end Go.Sw
namespace Go.Sw
open Go Go.RowKit
section
variable {P : Program} {n : Nat} {F : List (Nat × Value)} {a : Act} {w : World} {d : Option Tmp} {t T T' : TypeId} {pos : String} {af : Array Edge} {gd : Option (Nat × Bool)} {x y : Operand} {k : IntKind} {A B C : Int}
end
end Go.Sw

namespace Go.Sw
open Go Go.RowKit
/-! ### Maps of the call's own with arrays as keys; a function value with two captures -/
section
variable {P : Program} {n : Nat} {F : List (Nat × Value)} {a : Act} {w w0 : World} {d : Option Tmp} {t T kt et : TypeId} {pos : String} {af : Array Edge} {gd : Option (Nat × Bool)} {x y z : Operand} {X : List Nat} {L : Own} {D : Froz}
end
theorem IsMap.setRow {w : World} {b q : Nat} {cs cs' : Array Value} {es : Array MapEntry} {c : Nat} (h : IsMap w q es c) (hb : Blk w b cs) : IsMap (w.setRow b cs') q es c := by
  have hne : q ≠ b := fun e => by
    obtain ⟨t, ht⟩ := hb
    unfold IsMap at h
    rw [e, ht] at h; cases h
  unfold IsMap
  rw [setRow_other w b q cs' hne]; exact h
section
variable {P : Program} {n : Nat} {F : List (Nat × Value)} {a : Act} {w w0 : World} {d : Option Tmp} {t T : TypeId} {pos : String} {af : Array Edge} {gd : Option (Nat × Bool)} {x y : Operand} {X : List Nat} {L : Own} {D : Froz}
end
end Go.Sw

namespace Go.Sw
open Go Go.RowKit
variable {P : Program} {n : Nat} {F : List (Nat × Value)} {a : Act} {w : World} {d : Option Tmp} {t : TypeId} {pos : String} {af : Array Edge} {gd : Option (Nat × Bool)} {x y : Operand}
/-! ### The greater one of two numbers; a number turned over -/
end Go.Sw

/-! Lists of numbers that are marked: number by number from k on. -/
namespace Go.Sw
open Go Go.RowKit
def mri (Z k t : Nat) (xs : Nat → Value) : Array Value := fnC Z (fun c => if c < t then .int .i64 (((k + c : Nat)) : Int) else xs c)
section
variable {Z k t : Nat} {xs : Nat → Value}
theorem mri_size : (mri Z k t xs).size = Z := fnC_size _ _
end
end Go.Sw

namespace Go.Sw
open Go Go.RowKit
structure SSR (D : Froz) (u : Value) (m : Nat) (Ln : Nat → Nat) (F : Nat → Nat → Int) (b cap : Nat) (cs : Array Value) (β κ : Nat → Nat) (C : Nat → Array Value) : Prop where
  sl : SlAt 1 u (some (b, cs)) m b cap cs (fun i => .slice (some ⟨β i, 0, none⟩) (Ln i) (κ i))
  out : (b, cs) ∈ D
  rows : RowsC D m β C
  row : ∀ i, i < m → SlAt 1 (.slice (some ⟨β i, 0, none⟩) (Ln i) (κ i)) (some (β i, C i)) (Ln i) (β i) (κ i) (C i) (fun c => .int .i64 (F i c))
  ne : ∀ i, i < m → β i ≠ b
namespace SSR
variable {D D' : Froz} {u : Value} {m b cap : Nat} {Ln β κ : Nat → Nat} {F : Nat → Nat → Int} {cs : Array Value} {C : Nat → Array Value}
theorem more (h : SSR D u m Ln F b cap cs β κ C) (hs : ∀ x, x ∈ D → x ∈ D') : SSR D' u m Ln F b cap cs β κ C := ⟨h.sl, hs _ h.out, h.rows.more hs, h.row, h.ne⟩
theorem cell (h : SSR D u m Ln F b cap cs β κ C) (i : Nat) (hi : i < m) : cs[0 + i * 1]? = some (.slice (some ⟨β i, 0, none⟩) (Ln i) (κ i)) := h.sl.get1 i hi
theorem num (h : SSR D u m Ln F b cap cs β κ C) (i : Nat) (hi : i < m) (c : Nat) (hc : c < Ln i) : (C i)[0 + c * 1]? = some (.int .i64 (F i c)) := (h.row i hi).get1 c hc
theorem room (h : SSR D u m Ln F b cap cs β κ C) (i : Nat) (hi : i < m) : Ln i ≤ (C i).size := by
  have h1 := (h.row i hi).le;have h2 := (h.row i hi).sz
  omega
theorem congr {G : Nat → Nat → Int} (h : SSR D u m Ln F b cap cs β κ C) (e : ∀ i, i < m → ∀ c, c < Ln i → F i c = G i c) : SSR D u m Ln G b cap cs β κ C :=
  ⟨h.sl, h.out, h.rows, fun i hi => (h.row i hi).congr fun c hc => by rw [e i hi c (by omega)], h.ne⟩
end SSR
def SSOutR (w w' : World) (m : Nat) (Ln : Nat → Nat) (F : Nat → Nat → Int) (u : Value) : Prop := ∃ (D : Froz) (b cap : Nat) (cs : Array Value) (β κ : Nat → Nat) (C : Nat → Array Value), (∀ x ds, (x, ds) ∈ D → w.heap.size ≤ x ∧ Blk w' x ds) ∧ SSR D u m Ln F b cap cs β κ C
theorem SSOutR.of {w w' : World} {L : Own} {D : Froz} {m q : Nat} {Ln β κ : Nat → Nat} {C : Nat → Array Value} {F : Nat → Nat → Int} {u : Value} {b cap : Nat} {cs : Array Value} (hM : Mem w w' L D) (hR : RowsC D m β C)
    (hq : L[q]? = some (some (b, cs))) (hs : SlAt 1 u (some (b, cs)) m b cap cs (fun i => .slice (some ⟨β i, 0, none⟩) (Ln i) (κ i))) (hge : ∀ i, i < m → w.heap.size ≤ β i)
    (hr : ∀ i, i < m → SlAt 1 (.slice (some ⟨β i, 0, none⟩) (Ln i) (κ i)) (some (β i, C i)) (Ln i) (β i) (κ i) (C i) (fun c => .int .i64 (F i c))) : SSOutR w w' m Ln F u := by
  refine ⟨(b, cs) :: (List.range m).map (fun i => (β i, C i)), b, cap, cs, β, κ, C, fun x ds hx => ?_, hs, List.mem_cons_self .., ⟨fun i hi => ?_, hR.inj⟩, hr, fun i hi e => (hM.froz _ _ (hR.mem i hi)).2 q b cs hq e.symm⟩
  · rcases List.mem_cons.1 hx with e | hx
    · simp only [Prod.mk.injEq] at e; obtain ⟨rfl, rfl⟩ := e; exact ⟨hM.ge q hq, hM.row q hq⟩
    · obtain ⟨i, hi, e⟩ := List.mem_map.1 hx
      simp only [Prod.mk.injEq] at e; obtain ⟨rfl, rfl⟩ := e;have hi : i < m := by simpa using hi
      exact ⟨hge i hi, hM.fzm (hR.mem i hi)⟩
  · exact List.mem_cons_of_mem _ (List.mem_map.2 ⟨i, by simpa using hi, rfl⟩)
def xsf (C : Nat → Array Value) (i : Nat) : Nat → Value := fun c => ((C i)[c]?).getD undef
def mkR (C : Nat → Array Value) (Ln : Nat → Nat) (st : Nat → Nat) (i : Nat) : Array Value := mri (C i).size (st i) (Ln i) (xsf C i)
end Go.Sw

namespace Go.Sw
open Go Go.RowKit
theorem SSOutR.mono {w w1 w2 : World} {m : Nat} {Ln : Nat → Nat} {F : Nat → Nat → Int} {u : Value} (h : SSOutR w1 w2 m Ln F u) (hs : w.heap.size ≤ w1.heap.size) : SSOutR w w2 m Ln F u := by
  obtain ⟨D, b, cap, cs, β, κ, C, h1, h2⟩ := h;exact ⟨D, b, cap, cs, β, κ, C, fun x ds hx => ⟨Nat.le_trans hs (h1 x ds hx).1, (h1 x ds hx).2⟩, h2⟩
end Go.Sw
