/- Plain lemmas of a small calculus for walks over frames and own memory; no statement of the seat is proved here. -/
import Derived.Test.YtfencffdhenjdaaDoorSw9
import Derived.Test.YtfencffdhenjdaaDoorSw12
import Derived.Recover
import Derived.Test.YtfencffdhenjdaaDoorSw18
set_option linter.unusedVariables false
set_option linter.unusedSimpArgs false
namespace Go.Sw
open Go Go.RowKit
variable {P : Program}
/-! ### Deferred calls: what was laid before lies behind the frame. -/
def addD (ds : List Deferred) (a : Act) : Act := ⟨a.tmps, a.defers ++ ds⟩
section
variable {ds : List Deferred} {ops : Array Oper} {Q : Exit → Act → World → Prop} {n : Nat} {F : List (Nat × Value)} {a : Act} {w : World}
theorem addD_put (ds : List Deferred) (a : Act) (d : Option Tmp) (v : Value) : (addD ds a).put d v = addD ds (a.put d v) := by cases d <;> rfl
theorem eval_addD (ds : List Deferred) (a : Act) : (addD ds a).eval = a.eval := by funext o; cases o <;> rfl
theorem upon_add {o : Oper} {K K' : Act → World → Prop} (hK : ∀ a w, K' a w → K (addD ds a) w) (r : Result Next) (h : o.upon P a K' (fun e a w => Q e (addD ds a) w) r) : o.upon P (addD ds a) K Q r := by
  have hout : LetsOut (fun e a w => Q e (addD ds a) w) → LetsOut Q := fun ⟨a, w, h⟩ => ⟨addD ds a, w, h⟩
  unfold Oper.upon at h ⊢
  split at h
  · rw [addD_put]; exact hK _ _ h
  · rw [addD_put]; exact hK _ _ h
  · rename_i d w'
    have := hK _ _ h
    rw [← addD_put] at this
    exact this
  · refine h.mono fun e w'' hq => ?_
    cases e with
    | returned v =>
      show K ((addD ds a).put o.dst v) w''
      rw [addD_put]; exact hK _ _ hq
    | panicked c => exact hq
    | outgrown => exact hout hq
  · exact h.mono fun v w'' hq => by rw [addD_put]; exact hK _ _ hq
  · exact h
  · rename_i h1 h2 h3 h4 h5 h6
    exact h.elim
theorem wpList_add : ∀ (l : List Oper) (a : Act) (w : World), wpList P ops (fun e a w => Q e (addD ds a) w) l a w → wpList P ops Q l (addD ds a) w
  | [], a, w, h => h
  | o :: r, a, w, h => by
    have ih := wpList_add r
    unfold wpList at h ⊢
    have e : yielded ops (addD ds a).tmps = yielded ops a.tmps := rfl
    rw [e]
    split
    · rename_i hw
      rw [if_pos hw] at h
      rcases h with h | h
      · refine Or.inl ?_
        unfold Oper.wp at h ⊢
        rw [eval_addD]
        exact upon_add ih _ h
      · refine Or.inr ⟨?_, ?_⟩
        · have := h.1
          unfold Oper.asks at this ⊢
          rw [eval_addD]; exact this
        · obtain ⟨a, w, h⟩ := h.2
          exact ⟨addD ds a, w, h⟩
    · rename_i hw
      rw [if_neg hw] at h
      rw [addD_put]
      exact ih _ _ h
theorem wp_regionD {id : Nat} {l : List Oper} (h : wpList P l.toArray (fun e a w => Q e (addD ds a) w) l a w) : (Code.region id l.toArray false).wp P Q (addD ds a) w := wp_region_lit (wpList_add _ _ _ h)
theorem c_condBD {c : Operand} {x y : Code} {b : Bool} (hF : Fr n a F) (hc : look F c = some (.bool b)) (h1 : b = true → x.wp P Q (addD ds a) w) (h2 : b = false → y.wp P Q (addD ds a) w) : (Code.cond c x y).wp P Q (addD ds a) w :=
  wp_cond_split (by rw [eval_addD]; exact hF.eval hc) h1 h2
theorem c_TD {c : Operand} {x y : Code} (hF : Fr n a F) (hc : look F c = some (.bool true)) (h : x.wp P Q (addD ds a) w) : (Code.cond c x y).wp P Q (addD ds a) w := c_condBD hF hc (fun _ => h) (fun e => by cases e)
theorem c_FlD {c : Operand} {x y : Code} (hF : Fr n a F) (hc : look F c = some (.bool false)) (h : y.wp P Q (addD ds a) w) : (Code.cond c x y).wp P Q (addD ds a) w := c_condBD hF hc (fun e => by cases e) (fun _ => h)
end
end Go.Sw

namespace Go.Sw
open Go Go.RowKit
variable {P : Program}
section
variable {n : Nat} {F : List (Nat × Value)} {a : Act} {w : World} {d : Option Tmp} {t : TypeId} {pos : String} {af : Array Edge} {gd : Option (Nat × Bool)} {T : TypeId} {x y : Operand}
/-- The beginning of length 0 of no slice. -/
theorem g_sliceNil {e : TypeId} {s : Nat} {κ : IntKind} {X : Int} (hT : P.underlying T = some (.slice e)) (he : sizeP P e = some s) (hF : Fr n a F) (hx : look F x = some (.slice none 0 0)) (hy : look F y = some (.int κ X)) (hX : X = 0) :
    Gives P ⟨d, .slice T x none (some y) none, t, pos, af, gd⟩ a w (.slice none 0 0) := by
  subst hX
  refine gives_of_run ?_
  have h2 := run_sizeOf he w
  simp [execOp, Instr.sliceAt, Instr.slice, run_underlying hT, hF.eval hx, hF.eval hy, Instr.sliceBounds, Instr.sliceBound, asIntOf, h2]
end
end Go.Sw
