/- Plain lemmas of a small calculus for walks over frames and own memory; no statement of the seat is proved here. -/
import Derived.Test.YtficgmohfabplaaSw22
import Derived.Test.YtficgmohfabplaaSw20
set_option linter.unusedVariables false
set_option linter.unusedSimpArgs false
namespace Go.Sw
open Go Go.RowKit
variable {P : Program}
/-- m vectors, one behind the other. -/
def vecsC (m : Nat) (V : Nat → Nat → Nat) : Array Value := fnC (m * 6) (fun c => .int .u8 ((V (c / 6) (c % 6) : Nat) : Int))
def vAtL (l : List (Nat → Nat)) (i : Nat) : Nat → Nat := l.getD i (fun _ => 0)
theorem vecsC_row {m : Nat} {V : Nat → Nat → Nat} (i : Nat) {o e : Nat} (h : o = i * 6) (he : e = o + 6) (hi : i < m) : (vecsC m V).extract o e = vecC (V i) := by
  subst h
  have h1 : i * 6 + 6 ≤ m * 6 := by omega
  exact extract_ext he (by unfold vecsC; rw [fnC_size]; omega) fun k hk => by
    unfold vecsC
    rw [fnC_get (by omega), show (i * 6 + k) / 6 = i by omega, show (i * 6 + k) % 6 = k by omega]
theorem vecsC_size {m : Nat} {V : Nat → Nat → Nat} : (vecsC m V).size = m * 6 := fnC_size _ _
section
variable {n : Nat} {F : List (Nat × Value)} {a : Act} {w : World} {d : Option Tmp} {t : TypeId} {pos : String} {af : Array Edge} {gd : Option (Nat × Bool)} {x : Operand}
theorem build2 {x0 x1 : Operand} {v0 v1 : Value} (hF : Fr n a F) (h0 : look F x0 = some v0) (h1 : look F x1 = some v1) : (#[(0, x0), (1, x1)] : Array (Nat × Operand)).toList.map (fun p => (p.1, a.eval p.2)) = [(0, v0), (1, v1)] := by simp [hF.eval h0, hF.eval h1]
theorem build3 {x0 x1 x2 : Operand} {v0 v1 v2 : Value} (hF : Fr n a F) (h0 : look F x0 = some v0) (h1 : look F x1 = some v1) (h2 : look F x2 = some v2) : (#[(0, x0), (1, x1), (2, x2)] : Array (Nat × Operand)).toList.map (fun p => (p.1, a.eval p.2)) = [(0, v0), (1, v1), (2, v2)] := by simp [hF.eval h0, hF.eval h1, hF.eval h2]
end
end Go.Sw
namespace Go.Sw
open Go Go.RowKit
variable {P : Program}
section
variable {n : Nat} {F : List (Nat × Value)} {a : Act} {w : World} {d : Option Tmp} {t : TypeId} {pos : String} {af : Array Edge} {gd : Option (Nat × Bool)} {T : TypeId} {x : Operand}
/-- The whole of an array, as a slice. -/
theorem g_sliceArr {k b o s : Nat} {e : TypeId} (hT : P.underlying T = some (.array k e)) (he : sizeP P e = some s) (hk : 0 < k) (hF : Fr n a F) (hx : look F x = some (ptr b o)) : Gives P ⟨d, .slice T x none none none, t, pos, af, gd⟩ a w (.slice (some ⟨b, o, none⟩) k k) :=
  gives_of_run (by
    have h2 := run_sizeOf he w
    have h3 : ¬ k = 0 := by omega
    simp [execOp, Instr.sliceAt, run_underlying hT, hF.eval hx, Instr.sureAddr, Instr.sliceBounds, h2, h3, Addr.add_lit])
end
theorem MemX.ne2 {X : List Nat} {w0 w : World} {L : Own} {D : Froz} (h : MemX X w0 w L D) {i j b c : Nat} {cs ds : Array Value} (hi : L[i]? = some (some (b, cs))) (hj : L[j]? = some (some (c, ds))) (hne : i ≠ j) : b ≠ c := fun e => by
  subst e; exact hne (h.apart i j _ _ _ hi hj)
end Go.Sw
