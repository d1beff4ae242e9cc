/- Plain lemmas of a small calculus for walks over frames and own memory; no statement of the seat is proved here. -/
import Derived.Test.YtkfbnldjmnogkaaSw61
import Derived.Test.YtkfbnldjmnogkaaSw9
import Derived.Test.YtkfbnldjmnogkaaEch11
import Derived.JoinedOf
import Derived.KernelRfl
set_option linter.unusedVariables false
set_option linter.unusedSimpArgs false
namespace Go.Ech
open Go.Sw
def colM (n : Nat) (F : Nat → Nat → Nat) (j i c : Nat) : Nat := if c < n then F i c else if i = j then 1 else 0
end Go.Ech
namespace Go.Sw
open Go Go.RowKit Go.Ech
def TabOut (w w' : World) (N k : Nat) (f : Nat → Nat → Value) (u : Value) : Prop := ∃ (D : Froz) (β κ : Nat → Nat) (C : Nat → Array Value) (b cap : Nat) (cs : Array Value),
  (∀ x ds, (x, ds) ∈ D → w.heap.size ≤ x ∧ Blk w' x ds) ∧ RowsD D N k β κ C f ∧ SlAt 1 u (some (b, cs)) k b cap cs (fun i => .slice (some ⟨β i, 0, none⟩) N (κ i)) ∧ (b, cs) ∈ D ∧ (∀ i j, i < k → j < k → β i = β j → i = j) ∧ ∀ i, i < k → β i ≠ b
theorem TabOut.rows {w w' : World} {N k : Nat} {f : Nat → Nat → Value} {u : Value} (h : TabOut w w' N k f u) : RowsOut w w' N k f u := by
  obtain ⟨D, β, κ, C, b, cap, cs, h1, h2, h3, h4, _⟩ := h;exact ⟨D, β, κ, C, b, cap, cs, h1, h2, h3, h4⟩
theorem TabOut.of {w w' : World} {L : Own} {D : Froz} {N k q : Nat} {β κ : Nat → Nat} {C : Nat → Array Value} {f : Nat → Nat → Value} {u : Value} {b cap : Nat} {cs : Array Value} (hM : Mem w w' L D) (hR : RowsD D N k β κ C f)
    (hq : L[q]? = some (some (b, cs))) (hs : SlAt 1 u (some (b, cs)) k b cap cs (fun i => .slice (some ⟨β i, 0, none⟩) N (κ i))) (hge : ∀ i, i < k → w.heap.size ≤ β i) (hi : ∀ i j, i < k → j < k → β i = β j → i = j) : TabOut w w' N k f u := by
  refine ⟨(b, cs) :: (List.range k).map (fun i => (β i, C i)), β, κ, C, b, cap, cs, fun x ds hx => ?_, ⟨fun i hi => ?_, hR.sl⟩, hs, List.mem_cons_self .., hi, fun i hi e => (hM.froz _ _ (hR.mem i hi)).2 q b cs hq e.symm⟩
  · rcases List.mem_cons.1 hx with e | hx
    · simp only [Prod.mk.injEq] at e; obtain ⟨rfl, rfl⟩ := e; exact ⟨hM.ge q hq, hM.row q hq⟩
    · obtain ⟨i, hi, e⟩ := List.mem_map.1 hx
      simp only [Prod.mk.injEq] at e; obtain ⟨rfl, rfl⟩ := e;have hi : i < k := by simpa using hi
      exact ⟨hge i hi, hM.fzm (hR.mem i hi)⟩
  · exact List.mem_cons_of_mem _ (List.mem_map.2 ⟨i, by simpa using hi, rfl⟩)
def offD (D : Froz) (b : Nat) : Froz := D.filter (fun x => decide (x.1 ≠ b))
structure RowsC (D : Froz) (m : Nat) (β : Nat → Nat) (R : Nat → Array Value) : Prop where
  mem : ∀ i, i < m → (β i, R i) ∈ D
  inj : ∀ i j, i < m → j < m → β i = β j → i = j
namespace RowsC
variable {D D' : Froz} {m : Nat} {β : Nat → Nat} {R : Nat → Array Value}
theorem none : RowsC D 0 β R := ⟨fun i hi => absurd hi (by omega), fun i j hi => absurd hi (by omega)⟩
theorem more (h : RowsC D m β R) (hs : ∀ x ∈ D, x ∈ D') : RowsC D' m β R := ⟨fun i hi => hs _ (h.mem i hi), h.inj⟩
theorem congr {R' : Nat → Array Value} (h : RowsC D m β R) (e : ∀ i, i < m → R i = R' i) : RowsC D m β R' := ⟨fun i hi => by rw [← e i hi]; exact h.mem i hi, h.inj⟩
theorem setRow (h : RowsC D m β R) {i : Nat} (hi : i < m) (cs : Array Value) : RowsC (updD D (β i) cs) m β (upE R i cs) :=
  ⟨fun j hj => by
    rw [mem_updD]
    by_cases e : j = i
    · subst e; exact .inl ⟨rfl, if_pos rfl, _, h.mem j hj⟩
    · simp only [upE, if_neg e]; exact .inr ⟨fun e2 => e (h.inj _ _ hj hi e2), h.mem j hj⟩, h.inj⟩
theorem snoc (h : RowsC D m β R) {b : Nat} {cs : Array Value} (hm : (b, cs) ∈ D) (hn : ∀ i, i < m → b ≠ β i) : RowsC D (m + 1) (up β m b) (upE R m cs) := by
  refine ⟨fun i hi => ?_, fun i j hi hj e => ?_⟩
  · by_cases e : i = m
    · subst e; simp only [up_eq, upE, if_true]; exact hm
    · simp only [up_ne e, upE, if_neg e]; exact h.mem i (by omega)
  · unfold up at e
    by_cases e1 : i = m <;> by_cases e2 : j = m
    · omega
    · rw [if_pos e1, if_neg e2] at e; exact absurd e (hn j (by omega))
    · rw [if_neg e1, if_pos e2] at e; exact absurd e.symm (hn i (by omega))
    · rw [if_neg e1, if_neg e2] at e; exact h.inj i j (by omega) (by omega) e
end RowsC
def rowI (n : Nat) (f : Nat → Nat) : Array Value := fnC n (fun c => .int .i64 (f c : Int))
end Go.Sw

namespace Go.Sw
open Go Go.RowKit
def mrk (Z k t : Nat) (xs : Nat → Value) : Array Value := fnC Z (fun c => if c < t then .int .u8 (((k + c : Nat)) : Int) else xs c)
section
variable {Z k t : Nat} {xs : Nat → Value}
end
end Go.Sw

namespace Go.Sw
open Go Go.RowKit Go.Ech
section
variable {X : List Nat} {w0 w w' : World} {L : Own} {D : Froz}
def TabI (w w' : World) (n : Nat) (M : Nat → Nat → Nat) (u : Value) : Prop := ∃ (D : Froz) (β : Nat → Nat) (b : Nat) (cs : Array Value),
  (∀ x ds, (x, ds) ∈ D → w.heap.size ≤ x ∧ Blk w' x ds) ∧ RowsC D n β (fun i => rowI n (M i)) ∧ u = .slice (some ⟨b, 0, Option.none⟩) n n ∧ (∀ i, i < n → cs[0 + i * 1]? = some (.slice (some ⟨β i, 0, Option.none⟩) n n)) ∧ (b, cs) ∈ D ∧ ∀ i, i < n → β i ≠ b
theorem TabI.of {n q : Nat} {β : Nat → Nat} {M : Nat → Nat → Nat} {b : Nat} {cs : Array Value} (hM : Mem w w' L D) (hR : RowsC D n β (fun i => rowI n (M i))) (hq : L[q]? = some (some (b, cs))) (hg : ∀ i, i < n → cs[0 + i * 1]? = some (.slice (some ⟨β i, 0, Option.none⟩) n n)) (hge : ∀ i, i < n → w.heap.size ≤ β i) : TabI w w' n M (.slice (some ⟨b, 0, Option.none⟩) n n) := by
  refine ⟨(b, cs) :: (List.range n).map (fun i => (β i, rowI n (M i))), β, b, cs, fun x ds hx => ?_, ⟨fun i hi => mem_rowsD (R := fun i => rowI n (M i)) hi, hR.inj⟩, rfl, hg, List.mem_cons_self .., fun i hi e => (hM.froz _ _ (hR.mem i hi)).2 q b cs hq e.symm⟩
  rcases List.mem_cons.1 hx with e | hx
  · simp only [Prod.mk.injEq] at e; obtain ⟨rfl, rfl⟩ := e; exact ⟨hM.ge q hq, hM.row q hq⟩
  · obtain ⟨i, hi, e⟩ := List.mem_map.1 hx
    simp only [Prod.mk.injEq] at e; obtain ⟨rfl, rfl⟩ := e;have hi : i < n := by simpa using hi
    exact ⟨hge i hi, hM.fzm (hR.mem i hi)⟩
theorem MemX.marked {n : Nat} {β : Nat → Nat} {R R' : Nat → Array Value} (h : MemX X w0 w L D) (hC : RowsC D n β R) (hge : ∀ i, i < n → w0.heap.size ≤ β i) (hx : ExtX ((List.range n).map β) w w') (hb : ∀ i, i < n → Blk w' (β i) (R' i)) :
    ∃ DM : Froz, MemX X w0 w' L DM ∧ (∀ x ∈ D, (∀ i, i < n → x.1 ≠ β i) → x ∈ DM) ∧ RowsC DM n β R' := by
  have hY : ∀ y ∈ (List.range n).map β, ∃ i, i < n ∧ β i = y := fun y hy => by
    obtain ⟨i, hi, e⟩ := List.mem_map.1 hy; exact ⟨i, by simpa using hi, e⟩
  let E := D.filter (fun x => decide (∀ i, i < n → x.1 ≠ β i))
  have hE : ∀ x, x ∈ E ↔ x ∈ D ∧ ∀ i, i < n → x.1 ≠ β i := fun x => by
    show x ∈ D.filter _ ↔ _
    rw [List.mem_filter]; simp only [decide_eq_true_eq]
  have h1 := (h.sub E (fun x hx => ((hE x).1 hx).1)).extY hx fun y hy => by
    obtain ⟨i, hi, rfl⟩ := hY y hy;exact ⟨hge i hi, (h.froz _ _ (hC.mem i hi)).2, fun c ds hm => ((hE _).1 hm).2 i hi⟩
  have h2 := h1.addD' (D' := (List.range n).map (fun i => (β i, R' i))) fun c ds hm => by
    obtain ⟨i, hi, e⟩ := List.mem_map.1 hm;simp only [Prod.mk.injEq] at e; obtain ⟨rfl, rfl⟩ := e;have hi : i < n := by simpa using hi
    exact ⟨hb i hi, (h.froz _ _ (hC.mem i hi)).2⟩
  exact ⟨_, h2, fun x hx hn => List.mem_append_right _ ((hE x).2 ⟨hx, hn⟩), ⟨fun i hi => List.mem_append_left _ (List.mem_map.2 ⟨i, by simpa using hi, rfl⟩), hC.inj⟩⟩
end
theorem TabI.base {w w1 w' : World} {n : Nat} {M : Nat → Nat → Nat} {u : Value} (h : TabI w1 w' n M u) (hs : w.heap.size ≤ w1.heap.size) : TabI w w' n M u := by
  obtain ⟨D, β, b, cs, h1, h2⟩ := h;exact ⟨D, β, b, cs, fun x ds hm => ⟨Nat.le_trans hs (h1 x ds hm).1, (h1 x ds hm).2⟩, h2⟩
theorem TabOut.base {w w1 w' : World} {N k : Nat} {f : Nat → Nat → Value} {u : Value} (h : TabOut w1 w' N k f u) (hs : w.heap.size ≤ w1.heap.size) : TabOut w w' N k f u := by
  obtain ⟨D, β, κ, C, b, cap, cs, h1, h2⟩ := h;exact ⟨D, β, κ, C, b, cap, cs, fun x ds hm => ⟨Nat.le_trans hs (h1 x ds hm).1, (h1 x ds hm).2⟩, h2⟩
def FreshV (w0 : World) (L : Own) (N : Nat) (f : Nat → Value) (u : Value) (w' : World) : Prop := ∃ b cap cs, SlAt 6 u (some (b, cs)) N b cap cs f ∧ Blk w' b cs ∧ w0.heap.size ≤ b ∧ ∀ (k : Nat) c ds, L[k]? = some (some (c, ds)) → c ≠ b
theorem FreshV.last {w0 w w' : World} {L : Own} {N : Nat} {f : Nat → Value} {u : Value} (h : FreshV w0 L N f u w) (hx : Ext w w') : FreshV w0 L N f u w' := by
  obtain ⟨b, cap, cs, h1, h2, h3⟩ := h; exact ⟨b, cap, cs, h1, h2.ext hx, h3⟩
end Go.Sw

namespace Go.Sw
open Go Go.RowKit Go.Ech
def EmpF (w0 : World) (L : Own) (u : Value) (w' : World) : Prop := ∃ b, u = .slice (some ⟨b, 0, none⟩) 0 0 ∧ Blk w' b #[] ∧ w0.heap.size ≤ b ∧ ∀ (k : Nat) c ds, L[k]? = some (some (c, ds)) → c ≠ b
theorem EmpF.last {w0 w w' : World} {L : Own} {u : Value} (h : EmpF w0 L u w) (hx : Ext w w') : EmpF w0 L u w' := by
  obtain ⟨b, h1, h2, h3⟩ := h; exact ⟨b, h1, h2.ext hx, h3⟩
theorem EmpF.of {w0 w w' : World} {L : Own} {D : Froz} {u : Value} {k : Nat} (hk : L[k]? = some none) (h : ∃ b, u = .slice (some ⟨b, 0, none⟩) 0 0 ∧ Mem w0 w' (L.set k (some (b, #[]))) D ∧ Ext w w') : EmpF w0 L u w' := by
  obtain ⟨b, h1, hM, _⟩ := h;have hkl := (List.getElem?_eq_some_iff.1 hk).1;have e : (L.set k (some (b, #[])))[k]? = some (some (b, #[])) := by rw [List.getElem?_set, if_pos rfl, if_pos hkl]
  refine ⟨b, h1, hM.row k e, hM.ge k e, fun j c ds hj e2 => ?_⟩;subst e2
  by_cases ej : j = k
  · subst ej; rw [hk] at hj; simp at hj
  · have := hM.apart j k c ds #[] (by rw [List.getElem?_set, if_neg (fun q => ej q.symm)]; exact hj) e
    exact ej this
theorem EmpF.build {P : Program} {o : Oper} {a : Act} {w0 w : World} {L : Own} {D : Froz} {k : Nat} (hk : L[k]? = some none) (hg : Does P o a w (fun u w' => ∃ b, u = .slice (some ⟨b, 0, none⟩) 0 0 ∧ Mem w0 w' (L.set k (some (b, #[]))) D ∧ Ext w w')) : Does P o a w (fun u w' => Ext w w' ∧ EmpF w0 L u w') :=
  hg.mono fun u w' h => ⟨h.elim fun b hb => hb.2.2, EmpF.of hk h⟩
end Go.Sw

namespace Go.Sw
open Go Go.RowKit Go.Ech
def TabIF (w0 : World) (L : Own) (D : Froz) (n : Nat) (M : Nat → Nat → Nat) (u : Value) (w' : World) : Prop := ∃ (D' : Froz) (β : Nat → Nat) (b : Nat) (cs : Array Value),
  (∀ x ds, (x, ds) ∈ D' → w0.heap.size ≤ x ∧ Blk w' x ds ∧ ∀ (k : Nat) c es, L[k]? = some (some (c, es)) → c ≠ x) ∧ RowsC D' n β (fun i => rowI n (M i)) ∧ u = .slice (some ⟨b, 0, Option.none⟩) n n ∧ (∀ i, i < n → cs[0 + i * 1]? = some (.slice (some ⟨β i, 0, Option.none⟩) n n)) ∧ (b, cs) ∈ D' ∧ (∀ i, i < n → β i ≠ b) ∧ ∀ i, i < n → ∀ x ∈ D, x.1 ≠ β i
theorem TabIF.last {w0 w w' : World} {L : Own} {D : Froz} {n : Nat} {M : Nat → Nat → Nat} {u : Value} (h : TabIF w0 L D n M u w) (hx : Ext w w') : TabIF w0 L D n M u w' := by
  obtain ⟨D', β, b, cs, h1, h2⟩ := h;exact ⟨D', β, b, cs, fun x ds hm => ⟨(h1 x ds hm).1, (h1 x ds hm).2.1.ext hx, (h1 x ds hm).2.2⟩, h2⟩
def TupR (R : Value → World → Prop) (u : Value) (w' : World) : Prop := ∃ l, u = .tuple #[l, .int .i64 0] ∧ R l w'
end Go.Sw

namespace Go.Sw
open Go Go.RowKit
variable {P : Program}
/-! ### Texts: length, bytes, parts. -/
def byt (s : ByteArray) (i : Nat) : Nat := (s.data.getD i 0).toNat
section
variable {n : Nat} {F : List (Nat × Value)} {a : Act} {w : World} {d : Option Tmp} {t T T' : TypeId} {pos : String} {af : Array Edge} {gd : Option (Nat × Bool)} {x y z : Operand}
end
end Go.Sw

namespace Go.Sw
open Go Go.RowKit
variable {P : Program}
/-! ### Labels and jumps. -/
def Exit.goes (J : Nat → Act → World → Prop) (Q : Exit → Act → World → Prop) : Exit → Act → World → Prop
  | .goto l, a, w => J l a w
  | e, a, w => Q e a w
section
variable {Q : Exit → Act → World → Prop} {J : Nat → Act → World → Prop} {K : Act → World → Prop} {a : Act} {w : World}
theorem tG {l : Nat} (h : Q (.goto l) a w) : Exit.then K Q (.goto l) a w := h
theorem gR (h : Q .ret a w) : Exit.goes J Q .ret a w := h
theorem gG {l : Nat} (h : J l a w) : Exit.goes J Q (.goto l) a w := h
theorem wp_scope_labels {c : Code} (J : Nat → Nat → Act → World → Prop) (hs : ∀ l m a w, J l m a w → ∃ x, findLabel c l = some (.seq .skip x))
    (pass : ∀ l m a w, J l m a w → ∀ x, findLabel c l = some (.seq .skip x) → x.wp P (Exit.goes (fun l' a' w' => ∃ m', m' < m ∧ J l' m' a' w') Q) a w)
    (first : (∀ l m a w, J l m a w → ∀ x, findLabel c l = some (.seq .skip x) → x.wp P (Exit.goes (fun l' a' w' => ∃ m', J l' m' a' w') Q) a w) → c.wp P (Exit.goes (fun l a w => ∃ m, J l m a w) Q) a w) : (Code.scope c).wp P Q a w := by
  intro b k cs;have key : ∀ m l a w, J l m a w → ∀ x, findLabel c l = some (.seq .skip x) → ∃ e a' w', Q e a' w' ∧ Arrives P (lone (b.at a (.code (.seq .skip x) :: .inScope c :: k)) cs w) b k cs e a' w' := by
    intro m
    induction m using Nat.strongRecOn with
    | _ m ih =>
      intro l a w hJ x hx;obtain ⟨e, a₁, w₁, hq, harr⟩ := (wp_seq (wp_skip (show Exit.then _ _ .normal a w from pass l m a w hJ x hx)) : (Code.seq .skip x).wp P _ a w) b (.inScope c :: k) cs
      cases e with
      | normal => exact ⟨.normal, a₁, w₁, hq, Steps.trans harr (.one step_inScope)⟩
      | exit id => exact ⟨.exit id, a₁, w₁, hq, fun k' hk => harr k' (by simp [exitTo, hk])⟩
      | goto l' =>
        obtain ⟨m', hlt, hJ'⟩ := hq;obtain ⟨x', hx'⟩ := hs l' m' a₁ w₁ hJ';obtain ⟨e₂, a₂, w₂, hq₂, harr₂⟩ := ih m' hlt l' a₁ w₁ hJ' x' hx';exact ⟨e₂, a₂, w₂, hq₂, .of_steps (harr _ (by simp [gotoIn, hx'])) harr₂⟩
      | ret => exact ⟨_, a₁, w₁, hq, harr⟩
      | panic ch => exact ⟨_, a₁, w₁, hq, harr⟩
      | outgrown => exact ⟨_, a₁, w₁, hq, harr⟩
  have first' := first fun l m a w hJ x hx => wp_mono (pass l m a w hJ x hx) fun e a w h => by
    cases e with
    | goto l' => obtain ⟨m', _, h'⟩ := h; exact ⟨m', h'⟩
    | _ => exact h
  obtain ⟨e, a₁, w₁, hq, harr⟩ := first' b (.inScope c :: k) cs
  cases e with
  | normal => exact ⟨.normal, a₁, w₁, hq, .head step_scope (Steps.trans harr (.one step_inScope))⟩
  | exit id => exact ⟨.exit id, a₁, w₁, hq, fun k' hk => .head step_scope (harr k' (by simp [exitTo, hk]))⟩
  | goto l' =>
    obtain ⟨m', hJ'⟩ := hq;obtain ⟨x', hx'⟩ := hs l' m' a₁ w₁ hJ';obtain ⟨e₂, a₂, w₂, hq₂, harr₂⟩ := key m' l' a₁ w₁ hJ' x' hx';exact ⟨e₂, a₂, w₂, hq₂, .of_steps (.head step_scope (harr _ (by simp [gotoIn, hx']))) harr₂⟩
  | ret => exact ⟨_, a₁, w₁, hq, .of_steps (.one step_scope) harr⟩
  | panic ch => exact ⟨_, a₁, w₁, hq, .of_steps (.one step_scope) harr⟩
  | outgrown => exact ⟨_, a₁, w₁, hq, .of_steps (.one step_scope) harr⟩
end
section
variable {n : Nat} {F : List (Nat × Value)} {a : Act} {w : World} {d : Option Tmp} {t T : TypeId} {pos : String} {af : Array Edge} {gd : Option (Nat × Bool)} {x : Operand}
end
section
variable {P : Program} {fn : Func} {a : Act} {w : World}
end
end Go.Sw

/-! Lists of numbers that are marked: number by number from k on. -/
namespace Go.Sw
open Go Go.RowKit
def mri (Z k t : Nat) (xs : Nat → Value) : Array Value := fnC Z (fun c => if c < t then .int .i64 (((k + c : Nat)) : Int) else xs c)
section
variable {Z k t : Nat} {xs : Nat → Value}
theorem mri_size : (mri Z k t xs).size = Z := fnC_size _ _
theorem mri_get {o c : Nat} (h : o = c) (hc : c < t) (ht : t ≤ Z) : (mri Z k t xs)[o]? = some (.int .i64 (((k + c : Nat)) : Int)) := by
  subst h; unfold mri; rw [fnC_get (by omega), if_pos hc]
theorem mri_set {o : Nat} (h : o = t) (ht : t < Z) : (mri Z k t xs).setIfInBounds o (.int .i64 (((k + t : Nat)) : Int)) = mri Z k (t + 1) xs := by
  subst h; unfold mri;refine fnC_set fun c hc => ?_
  by_cases e : c = o
  · subst e; rw [if_pos rfl, if_pos (by omega)]
  · rw [if_neg e]
    by_cases h : c < o
    · rw [if_pos h, if_pos (by omega)]
    · rw [if_neg h, if_neg (by omega)]
theorem mri_self (cs : Array Value) : cs = mri cs.size k 0 (fun c => cs[c]?.getD undef) := by
  unfold mri
  refine fnC_ext rfl fun c hc => ?_;rw [if_neg (by omega)]
  simp [hc]
end
end Go.Sw

namespace Go.Sw
open Go Go.RowKit Go.Ech
/-! Reduced rows, an empty list and a list of zeros, made in a region that draws its order. -/
theorem Blk.same {w : World} {b : Nat} {cs ds : Array Value} (h : Blk w b cs) (h2 : Blk w b ds) : cs = ds := by
  obtain ⟨t1, h1⟩ := h;obtain ⟨t2, h3⟩ := h2;rw [h1] at h3;simp only [Option.some.injEq, Obj.cells.injEq] at h3;exact h3.1
theorem RowsOut.last {w w1 w2 : World} {N k : Nat} {f : Nat → Nat → Value} {u : Value} (h : RowsOut w w1 N k f u) (hx : Ext w1 w2) : RowsOut w w2 N k f u := by
  obtain ⟨D, β, κ, C, b, cap, cs, h1, h2⟩ := h;exact ⟨D, β, κ, C, b, cap, cs, fun x ds hm => ⟨(h1 x ds hm).1, (h1 x ds hm).2.ext hx⟩, h2⟩
theorem rowsOut_le {w0 w w' : World} {N k : Nat} {f : Nat → Nat → Value} {u : Value} (hs : w0.heap.size ≤ w.heap.size) (h : RowsOut w w' N k f u) : RowsOut w0 w' N k f u := by
  obtain ⟨D, β, κ, C, b, cap, cs, h1, h2, h3, h4⟩ := h;exact ⟨D, β, κ, C, b, cap, cs, fun x ds hm => ⟨Nat.le_trans hs (h1 x ds hm).1, (h1 x ds hm).2⟩, h2, h3, h4⟩
def KRel (w0 : World) (p N m : Nat) (M : Nat → Nat → Nat) (u : Value) (w' : World) : Prop := ∃ k E ld, Rref p N E k ld ∧ (∀ x, Ker p N E k x ↔ Ker p N M m x) ∧ (∀ i c, E i c < p) ∧ k ≤ m ∧ RowsOut w0 w' N k (fun i c => .int .i64 (E i c : Int)) u
theorem KRel.last {w0 w w' : World} {p N m : Nat} {M : Nat → Nat → Nat} {u : Value} (h : KRel w0 p N m M u w) (hx : Ext w w') : KRel w0 p N m M u w' := by
  obtain ⟨k, E, ld, h1, h2, h3, h4, h5⟩ := h;exact ⟨k, E, ld, h1, h2, h3, h4, h5.last hx⟩
theorem KRel.of {X : List Nat} {w0 w w' : World} {L : Own} {D : Froz} {p N m : Nat} {M : Nat → Nat → Nat} {u : Value} (hM : MemX X w0 w L D) (h : ∃ k E ld, Rref p N E k ld ∧ (∀ x, Ker p N E k x ↔ Ker p N M m x) ∧ (∀ i c, E i c < p) ∧ k ≤ m ∧ RowsOut w w' N k (fun i c => .int .i64 (E i c : Int)) u) : KRel w0 p N m M u w' := by
  obtain ⟨k, E, ld, h1, h2, h3, h4, h5⟩ := h;exact ⟨k, E, ld, h1, h2, h3, h4, rowsOut_le hM.bel.size h5⟩
def EmpN (w0 : World) (u : Value) (w' : World) : Prop := ∃ b, u = .slice (some ⟨b, 0, none⟩) 0 0 ∧ Blk w' b #[] ∧ w0.heap.size ≤ b
theorem EmpN.last {w0 w w' : World} {u : Value} (h : EmpN w0 u w) (hx : Ext w w') : EmpN w0 u w' := by
  obtain ⟨b, h1, h2, h3⟩ := h; exact ⟨b, h1, h2.ext hx, h3⟩
theorem EmpN.build {P : Program} {o : Oper} {a : Act} {w0 w : World} {L : Own} {D : Froz} {k : Nat} (hk : k < L.length) (hg : Does P o a w (fun u w' => ∃ b, u = .slice (some ⟨b, 0, none⟩) 0 0 ∧ Mem w0 w' (L.set k (some (b, #[]))) D ∧ Ext w w')) : Does P o a w (fun u w' => Ext w w' ∧ EmpN w0 u w') :=
  hg.mono fun u w' ⟨b, h1, hM, hx⟩ => by
    have e : (L.set k (some (b, #[])))[k]? = some (some (b, #[])) := by rw [List.getElem?_set, if_pos rfl, if_pos hk]
    exact ⟨hx, b, h1, hM.row k e, hM.ge k e⟩
theorem MemX.putN {X : List Nat} {w0 w : World} {L : Own} {D : Froz} {b : Nat} {cs : Array Value} (k : Nat) (h : MemX X w0 w L D) (hb : Blk w b cs) (hge : w0.heap.size ≤ b) (hL : ∀ (j : Nat) c ds, L[j]? = some (some (c, ds)) → c ≠ b) (hD : ∀ c ds, (c, ds) ∈ D → c ≠ b) : MemX X w0 w (L.set k (some (b, cs))) D := by
  have key : ∀ (j : Nat) c ds, (L.set k (some (b, cs)))[j]? = some (some (c, ds)) → (j = k ∧ c = b ∧ ds = cs) ∨ (j ≠ k ∧ L[j]? = some (some (c, ds))) := by
    intro j c ds hj;rw [List.getElem?_set] at hj
    split at hj
    · split at hj
      · simp only [Option.some.injEq, Prod.mk.injEq] at hj; rename_i e _; exact .inl ⟨e.symm, hj.1.symm, hj.2.symm⟩
      · cases hj
    · rename_i e; exact .inr ⟨fun e2 => e e2.symm, hj⟩
  refine ⟨h.bel, fun j c ds hj => ?_, fun i j c es ds hi hj => ?_, fun c ds hc => ⟨(h.froz c ds hc).1, fun j e es hj => ?_⟩⟩
  · rcases key j c ds hj with ⟨_, rfl, rfl⟩ | ⟨_, hj⟩
    · exact ⟨.inl hge, hb⟩
    · exact h.blk j c ds hj
  · rcases key i c es hi with ⟨e1, e2, _⟩ | ⟨n1, hi⟩ <;> rcases key j c ds hj with ⟨e3, e4, _⟩ | ⟨n2, hj⟩
    · omega
    · exact absurd e2 (hL j c ds hj)
    · exact absurd e4 (hL i c es hi)
    · exact h.apart i j c es ds hi hj
  · rcases key j e es hj with ⟨_, rfl, _⟩ | ⟨_, hj⟩
    · exact fun q => hD c ds hc q.symm
    · exact (h.froz c ds hc).2 j e es hj
end Go.Sw

namespace Go.Sw
theorem wordsSigns_nb : ∀ (c : Char) (r : List Char), c ≠ ' ' → wordsSigns (c :: r) = match wordsSigns r with
    | w :: ws => (c :: w) :: ws
    | [] => [[c]] := by
  intro c r h;rw [wordsSigns.eq_def]
  split
  · simp_all
  · rename_i heq; simp at heq; exact absurd heq.1 h
  · rename_i heq; simp only [List.cons.injEq] at heq; obtain ⟨rfl, rfl⟩ := heq; rfl
theorem wordsSigns_word : ∀ (w r : List Char), (∀ c ∈ w, c ≠ ' ') → wordsSigns (w ++ ' ' :: r) = w :: wordsSigns r
  | [], r, _ => by simp [wordsSigns]
  | c :: w, r, h => by
    rw [List.cons_append, wordsSigns_nb c _ (h c (by simp)), wordsSigns_word w r (fun d hd => h d (by simp [hd]))]
theorem sum_nb (s : List Char) (h : isSumSigns s = true) : ∀ c ∈ s, c ≠ ' ' := by
  intro c hc he
  unfold isSumSigns at h
  simp only [Bool.and_eq_true, List.all_eq_true] at h;have := h.2 c hc;subst he
  revert this; decide
theorem cutHead (L s r : List Char) (h : L = "harness".toList ++ ' ' :: (s ++ ' ' :: ("cut".toList ++ ' ' :: r))) (hs : isSumSigns s = true) :
    behindMainWord (wordsSigns L) = "cut".toList :: wordsSigns r := by
  rw [h, wordsSigns_word _ _ (by decide), wordsSigns_word _ _ (sum_nb s hs), wordsSigns_word _ _ (by decide)];have : ("harness".toList == "harness".toList || "harness".toList == "ownmain".toList) = true := by decide
  unfold behindMainWord
  show (if (("harness".toList == "harness".toList || "harness".toList == "ownmain".toList) && isSumSigns s) = true then _ else _) = _
  rw [if_pos (by rw [this, hs]; rfl)]
theorem strip_cut (R : List (List Char)) : stripLifts liftWords ("cut".toList :: R) = ([], "cut".toList :: R) := by
  kernel_rfl
theorem lifts_cut (P : Program) (R : List (List Char)) (h : behindMainWord (wordsSigns P.initOrder.toList) = "cut".toList :: R) : P.headLifts = [] := by
  unfold Program.headLifts; rw [h, strip_cut]; rfl
theorem make_cut (P : Program) (R : List (List Char)) (h : behindMainWord (wordsSigns P.initOrder.toList) = "cut".toList :: R) : P.make = some .cut := by
  unfold Program.make; rw [h]
  have h1 : ("cut".toList == "gc".toList || "cut".toList == "spec".toList) = false := by decide
  have h2 : ("cut".toList == "cut".toList) = true := by decide
  simp only [h1, h2]; rfl
theorem final_cut (P : Program) (R : List (List Char)) (h : behindMainWord (wordsSigns P.initOrder.toList) = "cut".toList :: R) : P.liftsFinal = false := by
  unfold Program.liftsFinal; rw [lifts_cut P R h, h]; kernel_rfl
theorem enter_cut (P : Program) (R : List (List Char)) (h : behindMainWord (wordsSigns P.initOrder.toList) = "cut".toList :: R)
    (hl : P.laysLater = false) (hb : P.bearsReflect = false) (hd : P.doorFits [] = true) : P.mayEnter = true := by
  unfold Program.mayEnter; rw [h]
  simp only [strip_cut, hl, hb, hd]
  kernel_rfl
end Go.Sw
