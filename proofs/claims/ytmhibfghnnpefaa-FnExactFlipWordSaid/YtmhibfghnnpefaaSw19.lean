/- Plain lemmas of a small calculus for walks over frames and own memory; no statement of the seat is proved here. -/
import Derived.Test.YtmhibfghnnpefaaEch4
import Derived.Laws.MakeOwn
set_option linter.unusedVariables false
set_option linter.unusedSimpArgs false
namespace Go.Sw
open Go Go.RowKit
variable {P : Program}
def dstAll : List Oper → Nat → Nat → Bool
  | [], _, _ => true
  | o :: r, s, i => (Nat.beq i s || o.dst.isSome) && dstAll r s (i + 1)
theorem dstAll_spec : ∀ {l : List Oper} {s i : Nat}, dstAll l s i = true → ∀ (j : Nat) (o : Oper), l[j]? = some o → i + j ≠ s → o.dst ≠ none
  | [], _, _, _, j, o, h, _ => by simp at h
  | x :: r, s, i, hb, j, o, h, hne => by
    simp only [dstAll, Bool.and_eq_true, Bool.or_eq_true] at hb
    cases j with
    | zero =>
      simp at h; subst h
      rcases hb.1 with e | e
      · exact absurd (Nat.eq_of_beq_eq_true e) hne
      · intro hn; rw [hn] at e; cases e
    | succ j => exact dstAll_spec hb.2 j o (by simpa using h) (by omega)
section
variable {n : Nat} {F : List (Nat × Value)} {a : Act} {w : World} {d : Option Tmp} {t : TypeId} {pos : String} {af : Array Edge} {gd : Option (Nat × Bool)} {T T' : TypeId} {x y : Operand} {k : IntKind} {A B C : Int}
end
structure RowsL (L : Own) (N m : Nat) (γ pos : Nat → Nat) (M : Nat → Nat → Nat) : Prop where
  at_ : ∀ i, i < m → L[pos i]? = some (some (γ i, fnC N (fun c => .int .u8 (M i c : Int))))
  inj : ∀ i j, i < m → j < m → pos i = pos j → i = j
  ne0 : ∀ i, i < m → pos i ≠ 0
namespace RowsL
variable {L : Own} {N m : Nat} {γ pos : Nat → Nat} {M : Nat → Nat → Nat}
theorem setRow (h : RowsL L N m γ pos M) {i : Nat} (hi : i < m) (r : Nat → Nat) {cs : Array Value} (hc : cs = fnC N (fun c => .int .u8 (r c : Int))) : RowsL (L.set (pos i) (some (γ i, cs))) N m γ pos (Go.Ech.upE M i r) :=
  ⟨fun j hj => by
    rw [List.getElem?_set]
    by_cases e : j = i
    · subst e
      have hl := (List.getElem?_eq_some_iff.1 (h.at_ j hj)).1
      rw [if_pos rfl, if_pos hl, hc]; simp only [Go.Ech.upE, if_true]
    · rw [if_neg (fun e2 => e (h.inj _ _ hj hi e2.symm))]; simp only [Go.Ech.upE, if_neg e]; exact h.at_ j hj, h.inj, h.ne0⟩
end RowsL
theorem RowsL.congr {L : Own} {N m : Nat} {γ pos : Nat → Nat} {M M' : Nat → Nat → Nat} (h : RowsL L N m γ pos M) (e : ∀ i, i < m → M i = M' i) : RowsL L N m γ pos M' :=
  ⟨fun i hi => by rw [← e i hi]; exact h.at_ i hi, h.inj, h.ne0⟩
theorem RowsL.apart {X : List Nat} {w0 w : World} {L : Own} {D : Froz} {N m : Nat} {γ pos : Nat → Nat} {M : Nat → Nat → Nat} (h : RowsL L N m γ pos M) (hM : MemX X w0 w L D) {i j : Nat} (hi : i < m) (hj : j < m) (hne : i ≠ j) : γ i ≠ γ j := fun e => by
  have h1 := h.at_ i hi
  have h2 := h.at_ j hj
  rw [e] at h1
  exact hne (h.inj i j hi hj (hM.apart _ _ _ _ _ h1 h2))
def rowsX (b0 m : Nat) (γ : Nat → Nat) : List Nat := b0 :: (List.range m).map γ
def rowsL0 (b0 : Nat) (cs0 : Array Value) (N m : Nat) (γ : Nat → Nat) (M : Nat → Nat → Nat) : Own := some (b0, cs0) :: (List.range m).map (fun i => some (γ i, fnC N (fun c => .int .u8 (M i c : Int))))
end Go.Sw

namespace Go.Sw
open Go Go.RowKit
variable {P : Program}
section
variable {ops : List Oper} {Q : Exit → Act → World → Prop} {n : Nat} {F : List (Nat × Value)}
def DepsG {G : Type} (ops : List Oper) (k s : Nat) (φ : Facts G) (o : Oper) (g : G) (a : Act) (w : World) : Prop :=
  ∀ j, Nat.blt j k = true → Nat.beq j s = false → edgeTo o j = true → φ j g (a.tmps.getD (dstOf ops j) undef) w
def AfterS {G : Type} (S : Bool → G → World → Prop) (φ : Facts G) (bb : Bool) (g : G) (w w' : World) : Prop := ∃ g', S bb g' w' ∧ ∀ j u, φ j g u w → φ j g' u w'
def AfterG {G : Type} (S : Bool → G → World → Prop) (φ : Facts G) (bb : Bool) (i : Nat) (g : G) (w : World) (v : Value) (w' : World) : Prop := ∃ g', S bb g' w' ∧ φ i g' v w' ∧ ∀ j u, j ≠ i → φ j g u w → φ j g' u w'
def StepsG {G : Type} (P : Program) (ops : List Oper) (k s n : Nat) (F : List (Nat × Value)) (S : Bool → G → World → Prop) (φ : Facts G) : List Oper → Nat → Prop
  | [], _ => True
  | o :: r, i => (if Nat.beq i s = true then ∀ a w g, Fr n a F → S false g w → DepsG ops k s φ o g a w → Does P o a w (fun _ w' => AfterS S φ true g w w')
      else ∀ a w b g, Fr n a F → S b g w → (edgeS ops s i = true → b = false) → DepsG ops k s φ o g a w → Does P o a w (AfterG S φ b i g w)) ∧ StepsG P ops k s n F S φ r (i + 1)
theorem StepsG.get {G : Type} {k s : Nat} {S : Bool → G → World → Prop} {φ : Facts G} : ∀ {l : List Oper} {i : Nat}, StepsG P ops k s n F S φ l i → ∀ (j : Nat) (o : Oper), l[j]? = some o →
    (if Nat.beq (i + j) s = true then ∀ a w g, Fr n a F → S false g w → DepsG ops k s φ o g a w → Does P o a w (fun _ w' => AfterS S φ true g w w')
      else ∀ a w b g, Fr n a F → S b g w → (edgeS ops s (i + j) = true → b = false) → DepsG ops k s φ o g a w → Does P o a w (AfterG S φ b (i + j) g w))
  | [], _, _, j, o, h => by simp at h
  | x :: r, i, hs, j, o, h => by
    cases j with
    | zero => simp at h; subst h; exact hs.1
    | succ j => have := hs.2.get j o (by simpa using h); rwa [show i + 1 + j = i + (j + 1) by omega] at this
end
/-! ### The instance: a block that is made in the region and written once in it -/
def factsG (kt : Nat) (l : List Fact) : Facts Own := fun i L u w => match l[i]? with
  | some (.own k cs mk) => if k = kt then ∃ b cs', u = mk b ∧ L[k]? = some (some (b, cs')) else ∃ b, u = mk b ∧ L[k]? = some (some (b, cs))
  | some (.val v) => u = v
  | some (.rel _) => True
  | none => True
def ParG (X : List Nat) (w0 : World) (D : Froz) (W : List Nat) (L0 : Own) (kt : Nat) (csO csN : Array Value) (bb : Bool) (L : Own) (w : World) : Prop :=
  Par X w0 D W L0 L w ∧ ∀ b cs, L[kt]? = some (some (b, cs)) → cs = (if bb then csN else csO)
section
variable {X : List Nat} {w0 w : World} {D : Froz} {W : List Nat} {L0 L : Own} {kt : Nat} {csO csN : Array Value} {bb : Bool} {l : List Fact} {i : Nat} {o : Oper} {a : Act}
end
end Go.Sw

namespace Go.Sw
open Go Go.RowKit Go.Ech
variable {P : Program}
def rowsD0 (b0 : Nat) (cs0 : Array Value) (N m : Nat) (γ : Nat → Nat) (M : Nat → Nat → Nat) : Froz := (b0, cs0) :: (List.range m).map (fun i => (γ i, fnC N (fun c => .int .u8 (M i c : Int))))
section
variable {b0 : Nat} {cs0 : Array Value} {N m : Nat} {γ : Nat → Nat} {M : Nat → Nat → Nat}
end
def solK (E : Nat → Nat → Nat) (ld : Nat → Nat) (L g c : Nat) : Nat := match ldAt g ld c with
  | some i => E i L
  | none => 0
end Go.Sw

namespace Go.Sw
open Go Go.RowKit Go.Ech
variable {P : Program}
section
variable {n : Nat} {F : List (Nat × Value)} {a : Act} {w w0 : World} {d : Option Tmp} {t : TypeId} {pos : String} {af : Array Edge} {gd : Option (Nat × Bool)} {T : TypeId} {x y : Operand} {X : List Nat} {L : Own} {D : Froz}
def updD (D : Froz) (b : Nat) (cs : Array Value) : Froz := D.map (fun x => if x.1 = b then (b, cs) else x)
theorem mem_updD {b c : Nat} {cs ds : Array Value} : (c, ds) ∈ updD D b cs ↔ (c = b ∧ ds = cs ∧ ∃ es, (b, es) ∈ D) ∨ (c ≠ b ∧ (c, ds) ∈ D) := by
  unfold updD
  rw [List.mem_map]
  constructor
  · rintro ⟨⟨c', ds'⟩, hm, e⟩
    dsimp only at e
    split at e
    · rename_i e2
      simp only [Prod.mk.injEq] at e; obtain ⟨rfl, rfl⟩ := e;subst e2; exact .inl ⟨rfl, rfl, ds', hm⟩
    · rename_i e2
      simp only [Prod.mk.injEq] at e; obtain ⟨rfl, rfl⟩ := e;exact .inr ⟨e2, hm⟩
  · rintro (⟨rfl, rfl, es, hm⟩ | ⟨hne, hm⟩)
    · exact ⟨(c, es), hm, by simp⟩
    · exact ⟨(c, ds), hm, by simp [hne]⟩
end
structure RowsB (D : Froz) (N m : Nat) (β : Nat → Nat) (M : Nat → Nat → Nat) : Prop where
  mem : ∀ i, i < m → (β i, fnC N (fun c => .int .u8 (M i c : Int))) ∈ D
  inj : ∀ i j, i < m → j < m → β i = β j → i = j
namespace RowsB
variable {D D' : Froz} {N m : Nat} {β : Nat → Nat} {M : Nat → Nat → Nat}
theorem none : RowsB D N 0 β M := ⟨fun i hi => absurd hi (by omega), fun i j hi => absurd hi (by omega)⟩
theorem more (h : RowsB D N m β M) (hs : ∀ x ∈ D, x ∈ D') : RowsB D' N m β M := ⟨fun i hi => hs _ (h.mem i hi), h.inj⟩
theorem congr {M' : Nat → Nat → Nat} (h : RowsB D N m β M) (e : ∀ i, i < m → ∀ c, c < N → M i c = M' i c) : RowsB D N m β M' :=
  ⟨fun i hi => by
    have := h.mem i hi
    rwa [fnC_congr (g := fun c => .int .u8 (M' i c : Int)) (fun c hc => by rw [e i hi c hc])] at this, h.inj⟩
theorem setRow (h : RowsB D N m β M) {i : Nat} (hi : i < m) (r : Nat → Nat) {cs : Array Value} (hc : cs = fnC N (fun c => .int .u8 (r c : Int))) : RowsB (updD D (β i) cs) N m β (upE M i r) :=
  ⟨fun j hj => by
    unfold upE
    by_cases e : j = i
    · subst e; rw [if_pos rfl]; exact mem_updD.2 (.inl ⟨rfl, hc.symm, _, h.mem j hj⟩)
    · rw [if_neg e]; exact mem_updD.2 (.inr ⟨fun e2 => e (h.inj j i hj hi e2), h.mem j hj⟩), h.inj⟩
theorem snoc (h : RowsB D N m β M) {b : Nat} {r : Nat → Nat} {cs : Array Value} (hc : cs = fnC N (fun c => .int .u8 (r c : Int))) (hm : (b, cs) ∈ D) (hn : ∀ i, i < m → b ≠ β i) : RowsB D N (m + 1) (up β m b) (upE M m r) := by
  subst hc;refine ⟨fun i hi => ?_, fun i j hi hj e => ?_⟩
  · unfold up upE
    by_cases e : i = m
    · rw [if_pos e, if_pos e]; exact hm
    · rw [if_neg e, if_neg e]; exact h.mem i (by omega)
  · unfold up at e
    by_cases e1 : i = m <;> by_cases e2 : j = m
    · omega
    · rw [if_pos e1, if_neg e2] at e; exact absurd e (hn j (by omega))
    · rw [if_neg e1, if_pos e2] at e; exact absurd e.symm (hn i (by omega))
    · rw [if_neg e1, if_neg e2] at e; exact h.inj i j (by omega) (by omega) e
theorem append (h : RowsB D N m β M) {m2 : Nat} {β2 : Nat → Nat} {M2 : Nat → Nat → Nat} (h2 : RowsB D N m2 β2 M2) (hn : ∀ i j, i < m → j < m2 → β i ≠ β2 j) :
    RowsB D N (m + m2) (fun i => if i < m then β i else β2 (i - m)) (fun i => if i < m then M i else M2 (i - m)) := by
  refine ⟨fun i hi => ?_, fun i j hi hj e => ?_⟩
  · by_cases e : i < m
    · rw [if_pos e, if_pos e]; exact h.mem i e
    · rw [if_neg e, if_neg e]; exact h2.mem _ (by omega)
  · by_cases e1 : i < m <;> by_cases e2 : j < m
    · rw [if_pos e1, if_pos e2] at e; exact h.inj i j e1 e2 e
    · rw [if_pos e1, if_neg e2] at e; exact absurd e (hn i _ e1 (by omega))
    · rw [if_neg e1, if_pos e2] at e; exact absurd e.symm (hn j _ e2 (by omega))
    · rw [if_neg e1, if_neg e2] at e; have := h2.inj _ _ (by omega) (by omega) e; omega
end RowsB
def BytesOut (w w' : World) (N m : Nat) (M : Nat → Nat → Nat) (u : Value) : Prop := ∃ (D : Froz) (β : Nat → Nat) (b : Nat) (cs : Array Value),
  (∀ x ds, (x, ds) ∈ D → w.heap.size ≤ x ∧ Blk w' x ds) ∧ RowsB D N m β M ∧ u = .slice (some ⟨b, 0, none⟩) m m ∧ cs.size = m ∧ (∀ i, i < m → cs[0 + i * 1]? = some (.slice (some ⟨β i, 0, none⟩) N N)) ∧ (b, cs) ∈ D ∧ ∀ i, i < m → β i ≠ b
theorem BytesOut.of {w w' : World} {L : Own} {D : Froz} {N m k : Nat} {β : Nat → Nat} {M : Nat → Nat → Nat} {b : Nat} {cs : Array Value} (hM : Mem w w' L D) (hk : L[k]? = some (some (b, cs))) (hB : RowsB D N m β M) (hge : ∀ i, i < m → w.heap.size ≤ β i) (hs : cs.size = m) (hg : ∀ i, i < m → cs[0 + i * 1]? = some (.slice (some ⟨β i, 0, none⟩) N N)) :
    BytesOut w w' N m M (.slice (some ⟨b, 0, none⟩) m m) := by
  refine ⟨(b, cs) :: (List.range m).map (fun i => (β i, fnC N (fun c => .int .u8 (M i c : Int)))), β, b, cs, fun x ds hx => ?_, ⟨fun i hi => ?_, hB.inj⟩, rfl, hs, hg, List.mem_cons_self .., fun i hi e => (hM.froz _ _ (hB.mem i hi)).2 k b cs hk e.symm⟩
  · rcases List.mem_cons.1 hx with e | hx
    · simp only [Prod.mk.injEq] at e; obtain ⟨rfl, rfl⟩ := e; exact ⟨hM.ge k hk, hM.row k hk⟩
    · obtain ⟨i, hi, e⟩ := List.mem_map.1 hx
      simp only [Prod.mk.injEq] at e; obtain ⟨rfl, rfl⟩ := e;have hi : i < m := by simpa using hi
      exact ⟨hge i hi, hM.fzm (hB.mem i hi)⟩
  · exact List.mem_cons_of_mem _ (List.mem_map.2 ⟨i, by simpa using hi, rfl⟩)
end Go.Sw
