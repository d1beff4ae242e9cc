/- Plain lemmas of a small calculus for walks over frames and own memory; no statement of the seat is proved here. -/
import Derived.Test.YtficgmohfabplaaSw12
set_option linter.unusedVariables false
set_option linter.unusedSimpArgs false
namespace Go.Sw
open Go Go.RowKit
variable {P : Program}
section
variable {n : Nat} {F : List (Nat × Value)} {a : Act} {w w0 : World} {d : Option Tmp} {t : TypeId} {pos : String} {af : Array Edge} {gd : Option (Nat × Bool)} {T : TypeId} {x y : Operand} {X : List Nat} {L : Own} {D : Froz}
/-- A new slice of a length that is a closed number: its run is a closed fact. -/
theorem d_makeC {len : Nat} {cs : Array Value} {e : TypeId} (k : Nat) (hM : MemX X w0 w L D) (hF : Fr n a F) (hx : look F x = some (.int .i64 (len : Int))) (hy : look F y = some (.int .i64 (len : Int)))
    (hrun : ∀ w, (Instr.makeSlice T (.int .i64 (len : Int)) (.int .i64 (len : Int))).run P w = .ok (.slice (some ⟨w.heap.size, 0, none⟩) len len) (w.alloc (.cells cs e))) :
    Does P ⟨d, .makeSlice T x y, t, pos, af, gd⟩ a w (fun u w' => ∃ b, u = .slice (some ⟨b, 0, none⟩) len len ∧ MemX X w0 w' (L.set k (some (b, cs))) D ∧ Ext w w') :=
  ⟨fun K Q hk => by
    have := hk _ (w.alloc (.cells cs e)) ⟨w.heap.size, rfl, hM.fill (Ext.alloc _ _) k (Blk.new _ _ _) (Nat.le_refl _), Ext.alloc _ _⟩
    unfold Oper.wp execOp
    simp only [hF.eval hx, hF.eval hy, Sem.run_bind, hrun, Result.andThen_ok, Sem.run_pure]
    exact this⟩
theorem g_toArr {b o len c k : Nat} {e : TypeId} (hT : P.underlying T = some (.array k e)) (hF : Fr n a F) (hx : look F x = some (.slice (some ⟨b, o, none⟩) len c)) (hk : k ≤ len) : Gives P ⟨d, .sliceToArrayPointer T x, t, pos, af, gd⟩ a w (ptr b o) :=
  gives_of_run (by simp [execOp, hF.eval hx, Instr.arrayAt, run_underlying hT, show ¬ len < k by omega])
end
end Go.Sw
