/- Plain lemmas of a small calculus for walks over frames and own memory; no statement of the seat is proved here. -/
import Derived.Test.YtficgmohfabplaaSw35
set_option linter.unusedVariables false
set_option linter.unusedSimpArgs false
namespace Go.Sw
open Go Go.RowKit Go.Ech
/-- A new table, apart from the places L and from D. -/
def TabIF (w0 : World) (L : Own) (D : Froz) (n : Nat) (M : Nat → Nat → Nat) (u : Value) (w' : World) : Prop := ∃ (D' : Froz) (β : Nat → Nat) (b : Nat) (cs : Array Value),
  (∀ x ds, (x, ds) ∈ D' → w0.heap.size ≤ x ∧ Blk w' x ds ∧ ∀ (k : Nat) c es, L[k]? = some (some (c, es)) → c ≠ x) ∧ RowsC D' n β (fun i => rowI n (M i)) ∧ u = .slice (some ⟨b, 0, Option.none⟩) n n ∧ (∀ i, i < n → cs[0 + i * 1]? = some (.slice (some ⟨β i, 0, Option.none⟩) n n)) ∧ (b, cs) ∈ D' ∧ (∀ i, i < n → β i ≠ b) ∧ ∀ i, i < n → ∀ x ∈ D, x.1 ≠ β i
theorem TabIF.last {w0 w w' : World} {L : Own} {D : Froz} {n : Nat} {M : Nat → Nat → Nat} {u : Value} (h : TabIF w0 L D n M u w) (hx : Ext w w') : TabIF w0 L D n M u w' := by
  obtain ⟨D', β, b, cs, h1, h2⟩ := h
  exact ⟨D', β, b, cs, fun x ds hm => ⟨(h1 x ds hm).1, (h1 x ds hm).2.1.ext hx, (h1 x ds hm).2.2⟩, h2⟩
theorem TabI.freshI {X : List Nat} {w0 w w' : World} {L : Own} {D : Froz} {n : Nat} {M : Nat → Nat → Nat} {u : Value} (hM : MemX X w0 w L D) (h : TabI w w' n M u) : TabIF w0 L D n M u w' := by
  obtain ⟨D', β, b, cs, h1, h2, h3, h4, h5, h6⟩ := h
  refine ⟨D', β, b, cs, fun x ds hm => ⟨Nat.le_trans hM.bel.size (h1 x ds hm).1, (h1 x ds hm).2, fun k c es hk e => ?_⟩, h2, h3, h4, h5, h6, fun i hi x hx e => ?_⟩
  · have := (hM.blk k c es hk).2.lt
    have := (h1 x ds hm).1
    omega
  · have := (hM.froz x.1 x.2 hx).1.lt
    have := (h1 _ _ (h2.mem i hi)).1
    omega
theorem MemX.addTabF {X : List Nat} {w0 w : World} {L : Own} {D : Froz} {n : Nat} {M : Nat → Nat → Nat} {u : Value} (h : MemX X w0 w L D) (hf : TabIF w0 L D n M u w) :
    ∃ (D' : Froz) (β : Nat → Nat) (b : Nat) (cs : Array Value), RowsC D' n β (fun i => rowI n (M i)) ∧ u = .slice (some ⟨b, 0, Option.none⟩) n n ∧ (∀ i, i < n → cs[0 + i * 1]? = some (.slice (some ⟨β i, 0, Option.none⟩) n n)) ∧ (b, cs) ∈ D' ∧ (∀ i, i < n → β i ≠ b) ∧ (∀ i, i < n → w0.heap.size ≤ β i) ∧ (∀ i, i < n → ∀ x ∈ D, x.1 ≠ β i) ∧ MemX X w0 w L (D' ++ D) := by
  obtain ⟨D', β, b, cs, h1, h2, h3, h4, h5, h6, h7⟩ := hf
  exact ⟨D', β, b, cs, h2, h3, h4, h5, h6, fun i hi => (h1 _ _ (h2.mem i hi)).1, h7, h.addD' fun c ds hm => (h1 c ds hm).2⟩
/-- A pair of what R says and the code 0. -/
def TupR (R : Value → World → Prop) (u : Value) (w' : World) : Prop := ∃ l, u = .tuple #[l, .int .i64 0] ∧ R l w'
end Go.Sw

namespace Go.Sw
open Go Go.RowKit
variable {P : Program}
/-! ### Texts: length, bytes, parts. -/
/-- The byte at a place of a text. -/
def byt (s : ByteArray) (i : Nat) : Nat := (s.data.getD i 0).toNat
theorem byt_lt {s : ByteArray} {i : Nat} : byt s i < 256 := UInt8.toNat_lt _
section
variable {n : Nat} {F : List (Nat × Value)} {a : Act} {w : World} {d : Option Tmp} {t T T' : TypeId} {pos : String} {af : Array Edge} {gd : Option (Nat × Bool)} {x y z : Operand}
theorem g_lenS {s : ByteArray} {TT : TypeId} (hT : P.underlying TT = some .string) (hF : Fr n a F) (hx : look F x = some (.string s)) : Gives P ⟨d, .call { callee := .builtin .len, args := #[x], argTypes := #[TT] }, t, pos, af, gd⟩ a w (.int .i64 (s.size : Int)) :=
  gives_of_run (by simp [execOp, resolve, invoke, hF.eval hx, builtin, Builtin.len_, run_underlying hT, goInt])
theorem g_indexS {s : ByteArray} {i : Nat} {κ : IntKind} {X : Int} (hT : P.underlying T = some .string) (hF : Fr n a F) (hx : look F x = some (.string s)) (hy : look F y = some (.int κ X)) (hX : X = (i : Int)) (hi : i < s.size) :
    Gives P ⟨d, .index T x y, t, pos, af, gd⟩ a w (.int .u8 ((byt s i : Nat) : Int)) := by
  subst hX
  have h2 : s[i]? = some s[i] := getElem?_pos s i hi
  have h3 : (s[i]).toNat = byt s i := by
    unfold byt
    have : s.data.getD i 0 = s[i] := by
      rw [Array.getD_eq_getD_getElem?, Array.getElem?_eq_getElem hi]; rfl
    rw [this]
  exact gives_of_run (by simp [execOp, Instr.index, run_underlying hT, hF.eval hx, hF.eval hy, asIntOf, h2, h3])
theorem g_sliceS {s : ByteArray} {i j : Nat} {κ κ' : IntKind} {X Y : Int} (hT : P.underlying T = some .string) (hF : Fr n a F) (hx : look F x = some (.string s)) (hy : look F y = some (.int κ X)) (hz : look F z = some (.int κ' Y)) (hX : X = (i : Int)) (hY : Y = (j : Int)) (hi : i ≤ j) (hj : j ≤ s.size) :
    Gives P ⟨d, .slice T x (some y) (some z) none, t, pos, af, gd⟩ a w (.string (s.extract i j)) := by
  subst hX; subst hY
  have h1 : (0 : Int) ≤ (i : Int) ∧ (i : Int) ≤ (j : Int) := by omega
  have h2 : (0 : Int) ≤ (j : Int) ∧ (j : Int) ≤ (s.size : Int) := by omega
  exact gives_of_run (by simp [execOp, Instr.sliceAt, Instr.slice, run_underlying hT, hF.eval hx, hF.eval hy, hF.eval hz, Instr.sliceBounds, Instr.sliceBound, asIntOf, h1, h2, hi, hj])
theorem g_sliceSLo {s : ByteArray} {i : Nat} {κ : IntKind} {X : Int} (hT : P.underlying T = some .string) (hF : Fr n a F) (hx : look F x = some (.string s)) (hy : look F y = some (.int κ X)) (hX : X = (i : Int)) (hi : i ≤ s.size) :
    Gives P ⟨d, .slice T x (some y) none none, t, pos, af, gd⟩ a w (.string (s.extract i s.size)) := by
  subst hX
  have h1 : (0 : Int) ≤ (i : Int) ∧ (i : Int) ≤ (s.size : Int) := by omega
  exact gives_of_run (by simp [execOp, Instr.sliceAt, Instr.slice, run_underlying hT, hF.eval hx, hF.eval hy, Instr.sliceBounds, Instr.sliceBound, asIntOf, h1, hi])
end
end Go.Sw
