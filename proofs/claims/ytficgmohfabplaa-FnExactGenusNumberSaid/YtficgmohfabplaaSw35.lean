/- Plain lemmas of a small calculus for walks over frames and own memory; no statement of the seat is proved here. -/
import Derived.Test.YtficgmohfabplaaSw34
set_option linter.unusedVariables false
set_option linter.unusedSimpArgs false
namespace Go.Sw
open Go Go.RowKit Go.Ech
/-- An empty list in memory of its own. -/
def EmpF (w0 : World) (L : Own) (u : Value) (w' : World) : Prop := ∃ b, u = .slice (some ⟨b, 0, none⟩) 0 0 ∧ Blk w' b #[] ∧ w0.heap.size ≤ b ∧ ∀ (k : Nat) c ds, L[k]? = some (some (c, ds)) → c ≠ b
theorem EmpF.last {w0 w w' : World} {L : Own} {u : Value} (h : EmpF w0 L u w) (hx : Ext w w') : EmpF w0 L u w' := by
  obtain ⟨b, h1, h2, h3⟩ := h; exact ⟨b, h1, h2.ext hx, h3⟩
theorem EmpF.of {w0 w w' : World} {L : Own} {D : Froz} {u : Value} {k : Nat} (hk : L[k]? = some none) (h : ∃ b, u = .slice (some ⟨b, 0, none⟩) 0 0 ∧ Mem w0 w' (L.set k (some (b, #[]))) D ∧ Ext w w') : EmpF w0 L u w' := by
  obtain ⟨b, h1, hM, _⟩ := h
  have hkl := (List.getElem?_eq_some_iff.1 hk).1
  have e : (L.set k (some (b, #[])))[k]? = some (some (b, #[])) := by rw [List.getElem?_set, if_pos rfl, if_pos hkl]
  refine ⟨b, h1, hM.row k e, hM.ge k e, fun j c ds hj e2 => ?_⟩
  subst e2
  by_cases ej : j = k
  · subst ej; rw [hk] at hj; simp at hj
  · have := hM.apart j k c ds #[] (by rw [List.getElem?_set, if_neg (fun q => ej q.symm)]; exact hj) e
    exact ej this
theorem MemX.putE {X : List Nat} {w0 w : World} {L : Own} {D : Froz} {b : Nat} (k : Nat) (h : MemX X w0 w L D) (hb : Blk w b #[]) (hge : w0.heap.size ≤ b) (hL : ∀ (j : Nat) c ds, L[j]? = some (some (c, ds)) → c ≠ b) (hD : ∀ x ∈ D, 0 < x.2.size) : MemX X w0 w (L.set k (some (b, #[]))) D := by
  have key : ∀ (j : Nat) c ds, (L.set k (some (b, #[])))[j]? = some (some (c, ds)) → (j = k ∧ c = b ∧ ds = #[]) ∨ (j ≠ k ∧ L[j]? = some (some (c, ds))) := by
    intro j c ds hj
    rw [List.getElem?_set] at hj
    split at hj
    · split at hj
      · simp only [Option.some.injEq, Prod.mk.injEq] at hj; rename_i e _; exact .inl ⟨e.symm, hj.1.symm, hj.2.symm⟩
      · cases hj
    · rename_i e; exact .inr ⟨fun e2 => e e2.symm, hj⟩
  refine ⟨h.bel, fun j c ds hj => ?_, fun i j c es ds hi hj => ?_, fun c ds hc => ⟨(h.froz c ds hc).1, fun j e es hj => ?_⟩⟩
  · rcases key j c ds hj with ⟨_, rfl, rfl⟩ | ⟨_, hj⟩
    · exact ⟨.inl hge, hb⟩
    · exact h.blk j c ds hj
  · rcases key i c es hi with ⟨e1, e2, _⟩ | ⟨n1, hi⟩ <;> rcases key j c ds hj with ⟨e3, e4, _⟩ | ⟨n2, hj⟩
    · omega
    · exact absurd e2 (hL j c ds hj)
    · exact absurd e4 (hL i c es hi)
    · exact h.apart i j c es ds hi hj
  · rcases key j e es hj with ⟨_, rfl, _⟩ | ⟨_, hj⟩
    · intro q
      subst q
      obtain ⟨t1, h1⟩ := hb
      obtain ⟨t2, h2⟩ := (h.froz e ds hc).1
      rw [h1] at h2
      have := hD _ hc
      simp only [Option.some.injEq, Obj.cells.injEq] at h2
      rw [← h2.1] at this
      simp at this
    · exact (h.froz c ds hc).2 j e es hj
theorem TabOut.freshR {X : List Nat} {w0 w w' : World} {L : Own} {D : Froz} {N k : Nat} {f : Nat → Nat → Value} {u : Value} (hM : MemX X w0 w L D) (h : TabOut w w' N k f u) : RowsFr w0 L N k f u w' := h.rows.fresh hM
theorem EmpF.build {P : Program} {o : Oper} {a : Act} {w0 w : World} {L : Own} {D : Froz} {k : Nat} (hk : L[k]? = some none) (hg : Does P o a w (fun u w' => ∃ b, u = .slice (some ⟨b, 0, none⟩) 0 0 ∧ Mem w0 w' (L.set k (some (b, #[]))) D ∧ Ext w w')) : Does P o a w (fun u w' => Ext w w' ∧ EmpF w0 L u w') :=
  hg.mono fun u w' h => ⟨h.elim fun b hb => hb.2.2, EmpF.of hk h⟩
end Go.Sw
