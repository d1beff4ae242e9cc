/- Plain lemmas of a small calculus for walks over frames and own memory; no statement of the seat is proved here. -/
import Derived.Test.YtggdbbjmdbkpcaaSw34
set_option linter.unusedVariables false
set_option linter.unusedSimpArgs false
namespace Go.Sw
open Go Go.RowKit Go.Ech
/-- An empty list in memory of its own. -/
def EmpF (w0 : World) (L : Own) (u : Value) (w' : World) : Prop := ∃ b, u = .slice (some ⟨b, 0, none⟩) 0 0 ∧ Blk w' b #[] ∧ w0.heap.size ≤ b ∧ ∀ (k : Nat) c ds, L[k]? = some (some (c, ds)) → c ≠ b
theorem EmpF.last {w0 w w' : World} {L : Own} {u : Value} (h : EmpF w0 L u w) (hx : Ext w w') : EmpF w0 L u w' := by
  obtain ⟨b, h1, h2, h3⟩ := h; exact ⟨b, h1, h2.ext hx, h3⟩
theorem EmpF.of {w0 w w' : World} {L : Own} {D : Froz} {u : Value} {k : Nat} (hk : L[k]? = some none) (h : ∃ b, u = .slice (some ⟨b, 0, none⟩) 0 0 ∧ Mem w0 w' (L.set k (some (b, #[]))) D ∧ Ext w w') : EmpF w0 L u w' := by
  obtain ⟨b, h1, hM, _⟩ := h
  have hkl := (List.getElem?_eq_some_iff.1 hk).1
  have e : (L.set k (some (b, #[])))[k]? = some (some (b, #[])) := by rw [List.getElem?_set, if_pos rfl, if_pos hkl]
  refine ⟨b, h1, hM.row k e, hM.ge k e, fun j c ds hj e2 => ?_⟩
  subst e2
  by_cases ej : j = k
  · subst ej; rw [hk] at hj; simp at hj
  · have := hM.apart j k c ds #[] (by rw [List.getElem?_set, if_neg (fun q => ej q.symm)]; exact hj) e
    exact ej this
theorem MemX.putE {X : List Nat} {w0 w : World} {L : Own} {D : Froz} {b : Nat} (k : Nat) (h : MemX X w0 w L D) (hb : Blk w b #[]) (hge : w0.heap.size ≤ b) (hL : ∀ (j : Nat) c ds, L[j]? = some (some (c, ds)) → c ≠ b) (hD : ∀ x ∈ D, 0 < x.2.size) : MemX X w0 w (L.set k (some (b, #[]))) D := by
  have key : ∀ (j : Nat) c ds, (L.set k (some (b, #[])))[j]? = some (some (c, ds)) → (j = k ∧ c = b ∧ ds = #[]) ∨ (j ≠ k ∧ L[j]? = some (some (c, ds))) := by
    intro j c ds hj
    rw [List.getElem?_set] at hj
    split at hj
    · split at hj
      · simp only [Option.some.injEq, Prod.mk.injEq] at hj; rename_i e _; exact .inl ⟨e.symm, hj.1.symm, hj.2.symm⟩
      · cases hj
    · rename_i e; exact .inr ⟨fun e2 => e e2.symm, hj⟩
  refine ⟨h.bel, fun j c ds hj => ?_, fun i j c es ds hi hj => ?_, fun c ds hc => ⟨(h.froz c ds hc).1, fun j e es hj => ?_⟩⟩
  · rcases key j c ds hj with ⟨_, rfl, rfl⟩ | ⟨_, hj⟩
    · exact ⟨.inl hge, hb⟩
    · exact h.blk j c ds hj
  · rcases key i c es hi with ⟨e1, e2, _⟩ | ⟨n1, hi⟩ <;> rcases key j c ds hj with ⟨e3, e4, _⟩ | ⟨n2, hj⟩
    · omega
    · exact absurd e2 (hL j c ds hj)
    · exact absurd e4 (hL i c es hi)
    · exact h.apart i j c es ds hi hj
  · rcases key j e es hj with ⟨_, rfl, _⟩ | ⟨_, hj⟩
    · intro q
      subst q
      obtain ⟨t1, h1⟩ := hb
      obtain ⟨t2, h2⟩ := (h.froz e ds hc).1
      rw [h1] at h2
      have := hD _ hc
      simp only [Option.some.injEq, Obj.cells.injEq] at h2
      rw [← h2.1] at this
      simp at this
    · exact (h.froz c ds hc).2 j e es hj
theorem TabOut.freshR {X : List Nat} {w0 w w' : World} {L : Own} {D : Froz} {N k : Nat} {f : Nat → Nat → Value} {u : Value} (hM : MemX X w0 w L D) (h : TabOut w w' N k f u) : RowsFr w0 L N k f u w' := h.rows.fresh hM
theorem EmpF.build {P : Program} {o : Oper} {a : Act} {w0 w : World} {L : Own} {D : Froz} {k : Nat} (hk : L[k]? = some none) (hg : Does P o a w (fun u w' => ∃ b, u = .slice (some ⟨b, 0, none⟩) 0 0 ∧ Mem w0 w' (L.set k (some (b, #[]))) D ∧ Ext w w')) : Does P o a w (fun u w' => Ext w w' ∧ EmpF w0 L u w') :=
  hg.mono fun u w' h => ⟨h.elim fun b hb => hb.2.2, EmpF.of hk h⟩
end Go.Sw

namespace Go.Sw
open Go Go.RowKit Go.Ech
/-- A new table, apart from the places L and from D. -/
def TabIF (w0 : World) (L : Own) (D : Froz) (n : Nat) (M : Nat → Nat → Nat) (u : Value) (w' : World) : Prop := ∃ (D' : Froz) (β : Nat → Nat) (b : Nat) (cs : Array Value),
  (∀ x ds, (x, ds) ∈ D' → w0.heap.size ≤ x ∧ Blk w' x ds ∧ ∀ (k : Nat) c es, L[k]? = some (some (c, es)) → c ≠ x) ∧ RowsC D' n β (fun i => rowI n (M i)) ∧ u = .slice (some ⟨b, 0, Option.none⟩) n n ∧ (∀ i, i < n → cs[0 + i * 1]? = some (.slice (some ⟨β i, 0, Option.none⟩) n n)) ∧ (b, cs) ∈ D' ∧ (∀ i, i < n → β i ≠ b) ∧ ∀ i, i < n → ∀ x ∈ D, x.1 ≠ β i
theorem TabIF.last {w0 w w' : World} {L : Own} {D : Froz} {n : Nat} {M : Nat → Nat → Nat} {u : Value} (h : TabIF w0 L D n M u w) (hx : Ext w w') : TabIF w0 L D n M u w' := by
  obtain ⟨D', β, b, cs, h1, h2⟩ := h
  exact ⟨D', β, b, cs, fun x ds hm => ⟨(h1 x ds hm).1, (h1 x ds hm).2.1.ext hx, (h1 x ds hm).2.2⟩, h2⟩
theorem TabI.freshI {X : List Nat} {w0 w w' : World} {L : Own} {D : Froz} {n : Nat} {M : Nat → Nat → Nat} {u : Value} (hM : MemX X w0 w L D) (h : TabI w w' n M u) : TabIF w0 L D n M u w' := by
  obtain ⟨D', β, b, cs, h1, h2, h3, h4, h5, h6⟩ := h
  refine ⟨D', β, b, cs, fun x ds hm => ⟨Nat.le_trans hM.bel.size (h1 x ds hm).1, (h1 x ds hm).2, fun k c es hk e => ?_⟩, h2, h3, h4, h5, h6, fun i hi x hx e => ?_⟩
  · have := (hM.blk k c es hk).2.lt
    have := (h1 x ds hm).1
    omega
  · have := (hM.froz x.1 x.2 hx).1.lt
    have := (h1 _ _ (h2.mem i hi)).1
    omega
theorem MemX.addTabF {X : List Nat} {w0 w : World} {L : Own} {D : Froz} {n : Nat} {M : Nat → Nat → Nat} {u : Value} (h : MemX X w0 w L D) (hf : TabIF w0 L D n M u w) :
    ∃ (D' : Froz) (β : Nat → Nat) (b : Nat) (cs : Array Value), RowsC D' n β (fun i => rowI n (M i)) ∧ u = .slice (some ⟨b, 0, Option.none⟩) n n ∧ (∀ i, i < n → cs[0 + i * 1]? = some (.slice (some ⟨β i, 0, Option.none⟩) n n)) ∧ (b, cs) ∈ D' ∧ (∀ i, i < n → β i ≠ b) ∧ (∀ i, i < n → w0.heap.size ≤ β i) ∧ (∀ i, i < n → ∀ x ∈ D, x.1 ≠ β i) ∧ MemX X w0 w L (D' ++ D) := by
  obtain ⟨D', β, b, cs, h1, h2, h3, h4, h5, h6, h7⟩ := hf
  exact ⟨D', β, b, cs, h2, h3, h4, h5, h6, fun i hi => (h1 _ _ (h2.mem i hi)).1, h7, h.addD' fun c ds hm => (h1 c ds hm).2⟩
/-- A pair of what R says and the code 0. -/
def TupR (R : Value → World → Prop) (u : Value) (w' : World) : Prop := ∃ l, u = .tuple #[l, .int .i64 0] ∧ R l w'
end Go.Sw
