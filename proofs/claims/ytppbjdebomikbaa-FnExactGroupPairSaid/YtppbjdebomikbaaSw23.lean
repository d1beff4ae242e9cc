/- Plain lemmas of a small calculus for walks over frames and own memory; no statement of the seat is proved here. -/
import Derived.Test.YtppbjdebomikbaaSw22
import Derived.Laws.MakeOwn
set_option linter.unusedVariables false
set_option linter.unusedSimpArgs false
namespace Go.Sw
open Go Go.RowKit Go.Ech
variable {P : Program}
def rowsD0 (b0 : Nat) (cs0 : Array Value) (N m : Nat) (γ : Nat → Nat) (M : Nat → Nat → Nat) : Froz := (b0, cs0) :: (List.range m).map (fun i => (γ i, fnC N (fun c => .int .u8 (M i c : Int))))
section
variable {b0 : Nat} {cs0 : Array Value} {N m : Nat} {γ : Nat → Nat} {M : Nat → Nat → Nat}
end
def solK (E : Nat → Nat → Nat) (ld : Nat → Nat) (L g c : Nat) : Nat := match ldAt g ld c with
  | some i => E i L
  | none => 0
end Go.Sw

namespace Go.Sw
open Go Go.RowKit Go.Ech
variable {P : Program}
section
variable {n : Nat} {F : List (Nat × Value)} {a : Act} {w w0 : World} {d : Option Tmp} {t : TypeId} {pos : String} {af : Array Edge} {gd : Option (Nat × Bool)} {T : TypeId} {x y : Operand} {X : List Nat} {L : Own} {D : Froz}
def updD (D : Froz) (b : Nat) (cs : Array Value) : Froz := D.map (fun x => if x.1 = b then (b, cs) else x)
theorem mem_updD {b c : Nat} {cs ds : Array Value} : (c, ds) ∈ updD D b cs ↔ (c = b ∧ ds = cs ∧ ∃ es, (b, es) ∈ D) ∨ (c ≠ b ∧ (c, ds) ∈ D) := by
  unfold updD
  rw [List.mem_map]
  constructor
  · rintro ⟨⟨c', ds'⟩, hm, e⟩
    dsimp only at e
    split at e
    · rename_i e2
      simp only [Prod.mk.injEq] at e; obtain ⟨rfl, rfl⟩ := e;subst e2; exact .inl ⟨rfl, rfl, ds', hm⟩
    · rename_i e2
      simp only [Prod.mk.injEq] at e; obtain ⟨rfl, rfl⟩ := e;exact .inr ⟨e2, hm⟩
  · rintro (⟨rfl, rfl, es, hm⟩ | ⟨hne, hm⟩)
    · exact ⟨(c, es), hm, by simp⟩
    · exact ⟨(c, ds), hm, by simp [hne]⟩
end
structure RowsB (D : Froz) (N m : Nat) (β : Nat → Nat) (M : Nat → Nat → Nat) : Prop where
  mem : ∀ i, i < m → (β i, fnC N (fun c => .int .u8 (M i c : Int))) ∈ D
  inj : ∀ i j, i < m → j < m → β i = β j → i = j
namespace RowsB
variable {D D' : Froz} {N m : Nat} {β : Nat → Nat} {M : Nat → Nat → Nat}
theorem none : RowsB D N 0 β M := ⟨fun i hi => absurd hi (by omega), fun i j hi => absurd hi (by omega)⟩
theorem more (h : RowsB D N m β M) (hs : ∀ x ∈ D, x ∈ D') : RowsB D' N m β M := ⟨fun i hi => hs _ (h.mem i hi), h.inj⟩
theorem congr {M' : Nat → Nat → Nat} (h : RowsB D N m β M) (e : ∀ i, i < m → ∀ c, c < N → M i c = M' i c) : RowsB D N m β M' :=
  ⟨fun i hi => by
    have := h.mem i hi
    rwa [fnC_congr (g := fun c => .int .u8 (M' i c : Int)) (fun c hc => by rw [e i hi c hc])] at this, h.inj⟩
theorem setRow (h : RowsB D N m β M) {i : Nat} (hi : i < m) (r : Nat → Nat) {cs : Array Value} (hc : cs = fnC N (fun c => .int .u8 (r c : Int))) : RowsB (updD D (β i) cs) N m β (upE M i r) :=
  ⟨fun j hj => by
    unfold upE
    by_cases e : j = i
    · subst e; rw [if_pos rfl]; exact mem_updD.2 (.inl ⟨rfl, hc.symm, _, h.mem j hj⟩)
    · rw [if_neg e]; exact mem_updD.2 (.inr ⟨fun e2 => e (h.inj j i hj hi e2), h.mem j hj⟩), h.inj⟩
theorem snoc (h : RowsB D N m β M) {b : Nat} {r : Nat → Nat} {cs : Array Value} (hc : cs = fnC N (fun c => .int .u8 (r c : Int))) (hm : (b, cs) ∈ D) (hn : ∀ i, i < m → b ≠ β i) : RowsB D N (m + 1) (up β m b) (upE M m r) := by
  subst hc;refine ⟨fun i hi => ?_, fun i j hi hj e => ?_⟩
  · unfold up upE
    by_cases e : i = m
    · rw [if_pos e, if_pos e]; exact hm
    · rw [if_neg e, if_neg e]; exact h.mem i (by omega)
  · unfold up at e
    by_cases e1 : i = m <;> by_cases e2 : j = m
    · omega
    · rw [if_pos e1, if_neg e2] at e; exact absurd e (hn j (by omega))
    · rw [if_neg e1, if_pos e2] at e; exact absurd e.symm (hn i (by omega))
    · rw [if_neg e1, if_neg e2] at e; exact h.inj i j (by omega) (by omega) e
theorem append (h : RowsB D N m β M) {m2 : Nat} {β2 : Nat → Nat} {M2 : Nat → Nat → Nat} (h2 : RowsB D N m2 β2 M2) (hn : ∀ i j, i < m → j < m2 → β i ≠ β2 j) :
    RowsB D N (m + m2) (fun i => if i < m then β i else β2 (i - m)) (fun i => if i < m then M i else M2 (i - m)) := by
  refine ⟨fun i hi => ?_, fun i j hi hj e => ?_⟩
  · by_cases e : i < m
    · rw [if_pos e, if_pos e]; exact h.mem i e
    · rw [if_neg e, if_neg e]; exact h2.mem _ (by omega)
  · by_cases e1 : i < m <;> by_cases e2 : j < m
    · rw [if_pos e1, if_pos e2] at e; exact h.inj i j e1 e2 e
    · rw [if_pos e1, if_neg e2] at e; exact absurd e (hn i _ e1 (by omega))
    · rw [if_neg e1, if_pos e2] at e; exact absurd e.symm (hn j _ e2 (by omega))
    · rw [if_neg e1, if_neg e2] at e; have := h2.inj _ _ (by omega) (by omega) e; omega
end RowsB
def BytesOut (w w' : World) (N m : Nat) (M : Nat → Nat → Nat) (u : Value) : Prop := ∃ (D : Froz) (β : Nat → Nat) (b : Nat) (cs : Array Value),
  (∀ x ds, (x, ds) ∈ D → w.heap.size ≤ x ∧ Blk w' x ds) ∧ RowsB D N m β M ∧ u = .slice (some ⟨b, 0, none⟩) m m ∧ cs.size = m ∧ (∀ i, i < m → cs[0 + i * 1]? = some (.slice (some ⟨β i, 0, none⟩) N N)) ∧ (b, cs) ∈ D ∧ ∀ i, i < m → β i ≠ b
theorem BytesOut.of {w w' : World} {L : Own} {D : Froz} {N m k : Nat} {β : Nat → Nat} {M : Nat → Nat → Nat} {b : Nat} {cs : Array Value} (hM : Mem w w' L D) (hk : L[k]? = some (some (b, cs))) (hB : RowsB D N m β M) (hge : ∀ i, i < m → w.heap.size ≤ β i) (hs : cs.size = m) (hg : ∀ i, i < m → cs[0 + i * 1]? = some (.slice (some ⟨β i, 0, none⟩) N N)) :
    BytesOut w w' N m M (.slice (some ⟨b, 0, none⟩) m m) := by
  refine ⟨(b, cs) :: (List.range m).map (fun i => (β i, fnC N (fun c => .int .u8 (M i c : Int)))), β, b, cs, fun x ds hx => ?_, ⟨fun i hi => ?_, hB.inj⟩, rfl, hs, hg, List.mem_cons_self .., fun i hi e => (hM.froz _ _ (hB.mem i hi)).2 k b cs hk e.symm⟩
  · rcases List.mem_cons.1 hx with e | hx
    · simp only [Prod.mk.injEq] at e; obtain ⟨rfl, rfl⟩ := e; exact ⟨hM.ge k hk, hM.row k hk⟩
    · obtain ⟨i, hi, e⟩ := List.mem_map.1 hx
      simp only [Prod.mk.injEq] at e; obtain ⟨rfl, rfl⟩ := e;have hi : i < m := by simpa using hi
      exact ⟨hge i hi, hM.fzm (hB.mem i hi)⟩
  · exact List.mem_cons_of_mem _ (List.mem_map.2 ⟨i, by simpa using hi, rfl⟩)
end Go.Sw

/-! Units of tables, systems of equations with one solution: plain lemmas, no program. -/
namespace Go.Ech
def dl (i c : Nat) : Nat := if i = c then 1 else 0
def aug (n : Nat) (x : Nat → Nat) (c : Nat) : Int := if c < n then (x c : Int) else -1
structure Full (p n : Nat) (E : Nat → Nat → Nat) (k : Nat) (ld : Nat → Nat) : Prop where
  k : k = n
  ld : ∀ i, i < n → ld i = i
structure UnitI (p n : Nat) (T : Nat → Nat → Nat → Nat) (u : Nat → Nat) : Prop where
  small : ∀ c, u c < p
  out : ∀ c, n ≤ c → u c = 0
  right : ∀ i, i < n → ∀ c, c < n → (p : Int) ∣ sI (fun a => (u a : Int) * (T a i c : Int)) n - (dl i c : Int)
  left : ∀ i, i < n → ∀ c, c < n → (p : Int) ∣ sI (fun b => (u b : Int) * (T i b c : Int)) n - (dl i c : Int)
def fM (n : Nat) (T : Nat → Nat → Nat → Nat) (r c : Nat) : Nat := if c < n then T c (r / n) (r % n) else if r / n = r % n then 1 else 0
end Go.Ech

namespace Go.Sw
open Go Go.RowKit Go.Ech
variable {P : Program}
def BytesFr (w0 : World) (L : Own) (N m : Nat) (M : Nat → Nat → Nat) (u : Value) (w' : World) : Prop := ∃ (D : Froz) (β : Nat → Nat) (b : Nat) (cs : Array Value),
  (∀ x ds, (x, ds) ∈ D → w0.heap.size ≤ x ∧ Blk w' x ds ∧ ∀ (k : Nat) c es, L[k]? = some (some (c, es)) → c ≠ x) ∧ RowsB D N m β M ∧ u = .slice (some ⟨b, 0, none⟩) m m ∧ cs.size = m ∧ (∀ i, i < m → cs[0 + i * 1]? = some (.slice (some ⟨β i, 0, none⟩) N N)) ∧ (b, cs) ∈ D ∧ ∀ i, i < m → β i ≠ b
theorem BytesFr.last {w0 w w' : World} {L : Own} {N m : Nat} {M : Nat → Nat → Nat} {u : Value} (h : BytesFr w0 L N m M u w) (hx : Ext w w') : BytesFr w0 L N m M u w' := by
  obtain ⟨D, β, b, cs, h1, h2⟩ := h;exact ⟨D, β, b, cs, fun x ds hm => ⟨(h1 x ds hm).1, (h1 x ds hm).2.1.ext hx, (h1 x ds hm).2.2⟩, h2⟩
theorem BytesOut.fresh {X : List Nat} {w0 w w' : World} {L : Own} {D : Froz} {N m : Nat} {M : Nat → Nat → Nat} {u : Value} (hM : MemX X w0 w L D) (h : BytesOut w w' N m M u) : BytesFr w0 L N m M u w' := by
  obtain ⟨D', β, b, cs, h1, h2⟩ := h;refine ⟨D', β, b, cs, fun x ds hm => ⟨Nat.le_trans hM.bel.size (h1 x ds hm).1, (h1 x ds hm).2, fun k c es hk e => ?_⟩, h2⟩;have := (hM.blk k c es hk).2.lt;have := (h1 x ds hm).1
  omega
theorem no_lead {p N k m c : Nat} {E M : Nat → Nat → Nat} {ld : Nat → Nat} (hp : 2 ≤ p) (h : Rref p N E k ld) (hK : ∀ x, Ker p N E k x ↔ Ker p N M m x) (hc : c < N) (hz : ∀ i, i < m → M i c = 0) : ¬ isLd k ld c := by
  rintro ⟨j, hj, e⟩;have h1 : Ker p N M m (fun d => if d = c then 1 else 0) := fun i hi => by
    have : dot N (ci (M i)) (fun d => if d = c then 1 else 0) = 0 := by
      unfold dot
      refine sI_zero fun d _ => ?_
      by_cases ed : d = c
      · simp [ci, ed, hz i hi]
      · simp [ed]
    rw [this]; exact Int.dvd_zero _
  have h2 := h.ker_lead ((hK _).2 h1) hj (fun d h1 _ => by rw [if_neg (by omega)]);rw [e, if_pos rfl] at h2;have := Int.le_of_dvd (by omega) h2
  omega
end Go.Sw
namespace Go.Sw
open Go Go.RowKit
variable {P : Program}
section
variable {n : Nat} {F : List (Nat × Value)} {a : Act} {w : World} {d : Option Tmp} {t : TypeId} {pos : String} {af : Array Edge} {gd : Option (Nat × Bool)} {T T' : TypeId} {x y : Operand}
end
end Go.Sw

namespace Go.Sw
open Go Go.RowKit
variable {P : Program}
def vecsC (m : Nat) (V : Nat → Nat → Nat) : Array Value := fnC (m * 6) (fun c => .int .u8 (V (c / 6) (c % 6) : Int))
def vAtL (l : List (Nat → Nat)) (i : Nat) : Nat → Nat := l.getD i (fun _ => 0)
section
variable {n : Nat} {F : List (Nat × Value)} {a : Act} {w : World} {d : Option Tmp} {t : TypeId} {pos : String} {af : Array Edge} {gd : Option (Nat × Bool)} {x : Operand}
theorem build2 {x0 x1 : Operand} {v0 v1 : Value} (hF : Fr n a F) (h0 : look F x0 = some v0) (h1 : look F x1 = some v1) : (#[(0, x0), (1, x1)] : Array (Nat × Operand)).toList.map (fun p => (p.1, a.eval p.2)) = [(0, v0), (1, v1)] := by simp [hF.eval h0, hF.eval h1]
theorem build3 {x0 x1 x2 : Operand} {v0 v1 v2 : Value} (hF : Fr n a F) (h0 : look F x0 = some v0) (h1 : look F x1 = some v1) (h2 : look F x2 = some v2) : (#[(0, x0), (1, x1), (2, x2)] : Array (Nat × Operand)).toList.map (fun p => (p.1, a.eval p.2)) = [(0, v0), (1, v1), (2, v2)] := by simp [hF.eval h0, hF.eval h1, hF.eval h2]
end
end Go.Sw
namespace Go.Sw
open Go Go.RowKit
variable {P : Program}
section
variable {n : Nat} {F : List (Nat × Value)} {a : Act} {w : World} {d : Option Tmp} {t : TypeId} {pos : String} {af : Array Edge} {gd : Option (Nat × Bool)} {T : TypeId} {x : Operand}
theorem g_sliceArr {k b o s : Nat} {e : TypeId} (hT : P.underlying T = some (.array k e)) (he : sizeP P e = some s) (hk : 0 < k) (hF : Fr n a F) (hx : look F x = some (ptr b o)) : Gives P ⟨d, .slice T x none none none, t, pos, af, gd⟩ a w (.slice (some ⟨b, o, none⟩) k k) :=
  gives_of_run (by
    have h2 := run_sizeOf he w
    have h3 : ¬ k = 0 := by omega
    simp [execOp, Instr.sliceAt, run_underlying hT, hF.eval hx, Instr.sureAddr, Instr.sliceBounds, h2, h3, Addr.add_lit])
end
end Go.Sw
