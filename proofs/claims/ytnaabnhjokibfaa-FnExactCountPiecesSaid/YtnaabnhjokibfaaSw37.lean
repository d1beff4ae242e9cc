/- Plain lemmas of a small calculus for walks over frames and own memory; no statement of the seat is proved here. -/
import Derived.Test.YtnaabnhjokibfaaSw8
set_option linter.unusedVariables false
set_option linter.unusedSimpArgs false
namespace Go.Sw
open Go Go.RowKit
variable {P : Program}
/-! ### Texts: length, bytes, parts. -/
/-- The byte at a place of a text. -/
def byt (s : ByteArray) (i : Nat) : Nat := (s.data.getD i 0).toNat
theorem byt_lt {s : ByteArray} {i : Nat} : byt s i < 256 := UInt8.toNat_lt _
section
variable {n : Nat} {F : List (Nat × Value)} {a : Act} {w : World} {d : Option Tmp} {t T T' : TypeId} {pos : String} {af : Array Edge} {gd : Option (Nat × Bool)} {x y z : Operand}
theorem g_lenS {s : ByteArray} {TT : TypeId} (hT : P.underlying TT = some .string) (hF : Fr n a F) (hx : look F x = some (.string s)) : Gives P ⟨d, .call { callee := .builtin .len, args := #[x], argTypes := #[TT] }, t, pos, af, gd⟩ a w (.int .i64 (s.size : Int)) :=
  gives_of_run (by simp [execOp, resolve, invoke, hF.eval hx, builtin, Builtin.len_, run_underlying hT, goInt])
theorem g_indexS {s : ByteArray} {i : Nat} {κ : IntKind} {X : Int} (hT : P.underlying T = some .string) (hF : Fr n a F) (hx : look F x = some (.string s)) (hy : look F y = some (.int κ X)) (hX : X = (i : Int)) (hi : i < s.size) :
    Gives P ⟨d, .index T x y, t, pos, af, gd⟩ a w (.int .u8 ((byt s i : Nat) : Int)) := by
  subst hX
  have h2 : s[i]? = some s[i] := getElem?_pos s i hi
  have h3 : (s[i]).toNat = byt s i := by
    unfold byt
    have : s.data.getD i 0 = s[i] := by
      rw [Array.getD_eq_getD_getElem?, Array.getElem?_eq_getElem hi]; rfl
    rw [this]
  exact gives_of_run (by simp [execOp, Instr.index, run_underlying hT, hF.eval hx, hF.eval hy, asIntOf, h2, h3])
theorem g_sliceS {s : ByteArray} {i j : Nat} {κ κ' : IntKind} {X Y : Int} (hT : P.underlying T = some .string) (hF : Fr n a F) (hx : look F x = some (.string s)) (hy : look F y = some (.int κ X)) (hz : look F z = some (.int κ' Y)) (hX : X = (i : Int)) (hY : Y = (j : Int)) (hi : i ≤ j) (hj : j ≤ s.size) :
    Gives P ⟨d, .slice T x (some y) (some z) none, t, pos, af, gd⟩ a w (.string (s.extract i j)) := by
  subst hX; subst hY
  have h1 : (0 : Int) ≤ (i : Int) ∧ (i : Int) ≤ (j : Int) := by omega
  have h2 : (0 : Int) ≤ (j : Int) ∧ (j : Int) ≤ (s.size : Int) := by omega
  exact gives_of_run (by simp [execOp, Instr.sliceAt, Instr.slice, run_underlying hT, hF.eval hx, hF.eval hy, hF.eval hz, Instr.sliceBounds, Instr.sliceBound, asIntOf, h1, h2, hi, hj])
theorem g_sliceSLo {s : ByteArray} {i : Nat} {κ : IntKind} {X : Int} (hT : P.underlying T = some .string) (hF : Fr n a F) (hx : look F x = some (.string s)) (hy : look F y = some (.int κ X)) (hX : X = (i : Int)) (hi : i ≤ s.size) :
    Gives P ⟨d, .slice T x (some y) none none, t, pos, af, gd⟩ a w (.string (s.extract i s.size)) := by
  subst hX
  have h1 : (0 : Int) ≤ (i : Int) ∧ (i : Int) ≤ (s.size : Int) := by omega
  exact gives_of_run (by simp [execOp, Instr.sliceAt, Instr.slice, run_underlying hT, hF.eval hx, hF.eval hy, Instr.sliceBounds, Instr.sliceBound, asIntOf, h1, hi])
end
end Go.Sw
