/- Plain lemmas of a small calculus for walks over frames and own memory; no statement of the seat is proved here. -/
import Derived.Test.YtficgmohfabplaaSw14
set_option linter.unusedVariables false
set_option linter.unusedSimpArgs false
namespace Go.Sw
open Go Go.RowKit
variable {P : Program}
/-- A list of rows in memory of its own, apart from the places L. -/
def RowsFr (w0 : World) (L : Own) (N k : Nat) (f : Nat → Nat → Value) (u : Value) (w' : World) : Prop := ∃ (D : Froz) (β κ : Nat → Nat) (C : Nat → Array Value) (b cap : Nat) (cs : Array Value),
  (∀ x ds, (x, ds) ∈ D → w0.heap.size ≤ x ∧ Blk w' x ds ∧ ∀ (k : Nat) c es, L[k]? = some (some (c, es)) → c ≠ x) ∧ RowsD D N k β κ C f ∧ SlAt 1 u (some (b, cs)) k b cap cs (fun i => .slice (some ⟨β i, 0, none⟩) N (κ i)) ∧ (b, cs) ∈ D
theorem RowsFr.last {w0 w w' : World} {L : Own} {N k : Nat} {f : Nat → Nat → Value} {u : Value} (h : RowsFr w0 L N k f u w) (hx : Ext w w') : RowsFr w0 L N k f u w' := by
  obtain ⟨D, β, κ, C, b, cap, cs, h1, h2⟩ := h
  exact ⟨D, β, κ, C, b, cap, cs, fun x ds hm => ⟨(h1 x ds hm).1, (h1 x ds hm).2.1.ext hx, (h1 x ds hm).2.2⟩, h2⟩
theorem RowsOut.fresh {X : List Nat} {w0 w w' : World} {L : Own} {D : Froz} {N k : Nat} {f : Nat → Nat → Value} {u : Value} (hM : MemX X w0 w L D) (h : RowsOut w w' N k f u) : RowsFr w0 L N k f u w' := by
  obtain ⟨D', β, κ, C, b, cap, cs, h1, h2⟩ := h
  refine ⟨D', β, κ, C, b, cap, cs, fun x ds hm => ⟨Nat.le_trans hM.bel.size (h1 x ds hm).1, (h1 x ds hm).2, fun k c es hk e => ?_⟩, h2⟩
  have := (hM.blk k c es hk).2.lt
  have := (h1 x ds hm).1
  omega
theorem MemX.addR {X : List Nat} {w0 w : World} {L : Own} {D : Froz} {N k : Nat} {f : Nat → Nat → Value} {u : Value} (h : MemX X w0 w L D) (hf : RowsFr w0 L N k f u w) :
    ∃ (D' : Froz) (β κ : Nat → Nat) (C : Nat → Array Value) (b cap : Nat) (cs : Array Value), RowsD (D' ++ D) N k β κ C f ∧ SlAt 1 u (some (b, cs)) k b cap cs (fun i => .slice (some ⟨β i, 0, none⟩) N (κ i)) ∧ (b, cs) ∈ D' ++ D ∧ (∀ i, i < k → w0.heap.size ≤ β i) ∧ w0.heap.size ≤ b ∧ MemX X w0 w L (D' ++ D) := by
  obtain ⟨D', β, κ, C, b, cap, cs, h1, h2, h3, h4⟩ := hf
  refine ⟨D', β, κ, C, b, cap, cs, h2.more (fun x hx => List.mem_append_left _ hx), h3, List.mem_append_left _ h4, fun i hi => (h1 _ _ (h2.mem i hi)).1, (h1 _ _ h4).1, h.bel, h.blk, h.apart, fun c ds hm => ?_⟩
  rcases List.mem_append.1 hm with hm | hm
  · exact (h1 c ds hm).2
  · exact h.froz c ds hm
end Go.Sw
