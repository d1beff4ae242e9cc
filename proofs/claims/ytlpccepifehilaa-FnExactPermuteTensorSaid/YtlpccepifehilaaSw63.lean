/- Plain lemmas of a small calculus for walks over frames and own memory; no statement of the seat is proved here. -/
import Derived.Test.YtlpccepifehilaaSw38
import Derived.StringKeys
import Derived.Test.YtlpccepifehilaaEch5
import Derived.Test.YtlpccepifehilaaEch6
import Derived.Test.YtlpccepifehilaaSw14
import Derived.Test.YtlpccepifehilaaSw21
import Derived.Test.YtlpccepifehilaaSw9
import Derived.Recover
import Derived.Test.YtlpccepifehilaaSw19
set_option linter.unusedVariables false
set_option linter.unusedSimpArgs false
namespace Go.Sw
open Go Go.RowKit
/-! ### Maps of the call's own with texts as keys -/
section
variable {P : Program} {n : Nat} {F : List (Nat × Value)} {a : Act} {w w0 : World} {d : Option Tmp} {t T kt et : TypeId} {pos : String} {af : Array Edge} {gd : Option (Nat × Bool)} {x y z : Operand} {X : List Nat} {L : Own} {D : Froz}
end
end Go.Sw
namespace Go.Sw
open Go Go.RowKit
section
variable {P : Program} {n : Nat} {F : List (Nat × Value)} {a : Act} {w : World} {d : Option Tmp} {t T T' : TypeId} {pos : String} {af : Array Edge} {gd : Option (Nat × Bool)} {x y : Operand} {k : IntKind} {A B C : Int}
end
end Go.Sw

namespace Go.Sw
open Go Go.RowKit
/-! ### Maps of the call's own with arrays as keys; a function value with two captures -/
section
variable {P : Program} {n : Nat} {F : List (Nat × Value)} {a : Act} {w w0 : World} {d : Option Tmp} {t T kt et : TypeId} {pos : String} {af : Array Edge} {gd : Option (Nat × Bool)} {x y z : Operand} {X : List Nat} {L : Own} {D : Froz}
theorem g_makeFunc2 {f : FuncId} {u v : Value} (hF : Fr n a F) (hx : look F x = some u) (hy : look F y = some v) : Gives P ⟨d, .makeFunc (.func f) #[] #[x, y], t, pos, af, gd⟩ a w (.func (.func f) #[] #[u, v]) :=
  gives_of_run (by simp [execOp, Instr.makeFunc, hF.eval hx, hF.eval hy])
end
theorem IsMap.setRow {w : World} {b q : Nat} {cs cs' : Array Value} {es : Array MapEntry} {c : Nat} (h : IsMap w q es c) (hb : Blk w b cs) : IsMap (w.setRow b cs') q es c := by
  have hne : q ≠ b := fun e => by
    obtain ⟨t, ht⟩ := hb
    unfold IsMap at h
    rw [e, ht] at h; cases h
  unfold IsMap
  rw [setRow_other w b q cs' hne]; exact h
section
variable {P : Program} {n : Nat} {F : List (Nat × Value)} {a : Act} {w w0 : World} {d : Option Tmp} {t T : TypeId} {pos : String} {af : Array Edge} {gd : Option (Nat × Bool)} {x y : Operand} {X : List Nat} {L : Own} {D : Froz}
end
end Go.Sw

namespace Go.Sw
open Go Go.RowKit
variable {P : Program} {n : Nat} {F : List (Nat × Value)} {a : Act} {w : World} {d : Option Tmp} {t : TypeId} {pos : String} {af : Array Edge} {gd : Option (Nat × Bool)} {x y : Operand}
/-! ### The greater one of two numbers; a number turned over -/
end Go.Sw

namespace Go.Sw
open Go Go.RowKit Go.ChangeShapes Go.WideShapes Go.ChangeAt
def ArgVs (w : World) (sl : Value) (m : Nat) (V : Nat → Nat → Nat) : Prop :=
  (∃ x c, sl = .slice x m c) ∧ (0 < m → ∃ b o c, sl = .slice (some ⟨b, o, none⟩) m c ∧ ∀ i, i < m → ∀ j, j < 6 → w.cell? ⟨b, o + i * 6 + j, none⟩ = some (.int .u8 (V i j : Int)))
theorem ArgVs.ext {w w' : World} {sl : Value} {m : Nat} {V : Nat → Nat → Nat} (h : ArgVs w sl m V) (hx : Ext w w') : ArgVs w' sl m V :=
  ⟨h.1, fun hm => by obtain ⟨b, o, c, h1, h3⟩ := h.2 hm; exact ⟨b, o, c, h1, fun i hi j hj => cell_ext (h3 i hi j hj) hx⟩⟩
theorem ArgVs.one {w : World} {sl : Value} {m : Nat} {V : Nat → Nat → Nat} (h : ArgVs w sl m V) : sl.oneCell' = true := by
  obtain ⟨⟨x, c, rfl⟩, _⟩ := h; rfl
section
variable {P : Program} {n : Nat} {F : List (Nat × Value)} {a : Act} {w : World} {d : Option Tmp} {t : TypeId} {pos : String} {af : Array Edge} {gd : Option (Nat × Bool)} {x : Operand}
end
section
variable {H : Type} {enc : TypeId × Value → H} {P : Program} {w w' : World} {base : Nat} {spare : Nat → Bool} {held : Bool}
theorem cells?_get {a : Addr} {n : Nat} {cs : List Value} (h : w.cells? base a n = some cs) : cs.length = n ∧ ∀ i, i < n → w.cell? (a.add i) = cs[i]? := by
  unfold World.cells? at h
  split at h
  · have hl := mapM_some_length h
    rw [List.length_range] at hl;refine ⟨hl.symm ▸ rfl, fun i hi => ?_⟩;have := mapM_some_get h i i (by rw [List.getElem?_range hi]);exact this
  · cases h
end
section
variable {H : Type} {enc : TypeId × Value → H} {P : Program} {w : World} {base : Nat} {spare : Nat → Bool} {held : Bool}
end
section
variable {P : Program} {X : List Nat} {w0 w : World} {L : Own} {D : Froz} {n : Nat} {F : List (Nat × Value)} {a : Act} {d : Option Tmp} {T : TypeId} {t : TypeId} {pos : String} {af : Array Edge} {gd : Option (Nat × Bool)} {x y : Operand}
end
end Go.Sw

namespace Go.Sw
open Go Go.RowKit Go.ChangeShapes Go.WideShapes Go.ChangeAt
def grpC (n : Int) (M : Nat → Nat → Nat) : Array Value := fnC 37 fun c => if c = 0 then .int .i64 n else .int .u8 (M ((c - 1) / 6) ((c - 1) % 6))
section
variable {n q : Int} {M N : Nat → Nat → Nat}
end
def grpKs : List IntKind := .i64 :: List.replicate 36 .u8
section
variable {H : Type} {enc : TypeId × Value → H} {P : Program} {w : World} {base : Nat} {spare : Nat → Bool} {held : Bool} {t : TypeId} {v : Value} {d : DataW H} {p : List MemPlace}
end
end Go.Sw

namespace Go.Sw
open Go Go.RowKit
variable {P : Program}
/-! ### Deferred calls: what was laid before lies behind the frame. -/
def addD (ds : List Deferred) (a : Act) : Act := ⟨a.tmps, a.defers ++ ds⟩
section
variable {ds : List Deferred} {ops : Array Oper} {Q : Exit → Act → World → Prop} {n : Nat} {F : List (Nat × Value)} {a : Act} {w : World}
theorem addD_put (ds : List Deferred) (a : Act) (d : Option Tmp) (v : Value) : (addD ds a).put d v = addD ds (a.put d v) := by cases d <;> rfl
theorem eval_addD (ds : List Deferred) (a : Act) : (addD ds a).eval = a.eval := by funext o; cases o <;> rfl
theorem upon_add {o : Oper} {K K' : Act → World → Prop} (hK : ∀ a w, K' a w → K (addD ds a) w) (r : Result Next) (h : o.upon P a K' (fun e a w => Q e (addD ds a) w) r) : o.upon P (addD ds a) K Q r := by
  have hout : LetsOut (fun e a w => Q e (addD ds a) w) → LetsOut Q := fun ⟨a, w, h⟩ => ⟨addD ds a, w, h⟩
  unfold Oper.upon at h ⊢
  split at h
  · rw [addD_put]; exact hK _ _ h
  · rw [addD_put]; exact hK _ _ h
  · rename_i d w'
    have := hK _ _ h;rw [← addD_put] at this;exact this
  · refine h.mono fun e w'' hq => ?_
    cases e with
    | returned v =>
      show K ((addD ds a).put o.dst v) w''
      rw [addD_put]; exact hK _ _ hq
    | panicked c => exact hq
    | outgrown => exact hout hq
  · exact h.mono fun v w'' hq => by rw [addD_put]; exact hK _ _ hq
  · exact h
  · rename_i h1 h2 h3 h4 h5 h6
    exact h.elim
theorem wpList_add : ∀ (l : List Oper) (a : Act) (w : World), wpList P ops (fun e a w => Q e (addD ds a) w) l a w → wpList P ops Q l (addD ds a) w
  | [], a, w, h => h
  | o :: r, a, w, h => by
    have ih := wpList_add r
    unfold wpList at h ⊢
    have e : yielded ops (addD ds a).tmps = yielded ops a.tmps := rfl
    rw [e]
    split
    · rename_i hw
      rw [if_pos hw] at h
      rcases h with h | h
      · refine Or.inl ?_
        unfold Oper.wp at h ⊢
        rw [eval_addD]
        exact upon_add ih _ h
      · refine Or.inr ⟨?_, ?_⟩
        · have := h.1
          unfold Oper.asks at this ⊢
          rw [eval_addD]; exact this
        · obtain ⟨a, w, h⟩ := h.2
          exact ⟨addD ds a, w, h⟩
    · rename_i hw
      rw [if_neg hw] at h
      rw [addD_put]
      exact ih _ _ h
theorem wp_regionD {id : Nat} {l : List Oper} (h : wpList P l.toArray (fun e a w => Q e (addD ds a) w) l a w) : (Code.region id l.toArray false).wp P Q (addD ds a) w := wp_region_lit (wpList_add _ _ _ h)
end
end Go.Sw

namespace Go.Sw
open Go Go.RowKit
variable {P : Program}
/-! ### A door: a deferred closure that recovers. -/
section
variable {ops : Array Oper} {Q : Exit → Act → World → Prop} {rest : List Oper} {n : Nat} {F : List (Nat × Value)} {a : Act} {w : World} {d : Option Tmp} {t : TypeId} {pos : String} {af : Array Edge} {gd : Option (Nat × Bool)}
theorem g_makeFunc {fn : Fn} {x : Operand} {v : Value} (hF : Fr n a F) (hx : look F x = some v) : Gives P ⟨d, .makeFunc fn #[] #[x], t, pos, af, gd⟩ a w (.func fn #[] #[v]) :=
  gives_of_run (by simp [execOp, Instr.makeFunc, hF.eval hx])
def okA (tm : Array Value) : List (Nat × Value) → Prop
  | [] => True
  | (t, v) :: r => tm.getD t undef = v ∧ okA tm r
def Clo (P : Program) (f b : Nat) (u : FrameMode) (w : World) (c : Value) : Prop :=
  CallsD P f #[ptr b 0] u w fun e u' w' => (∃ v, e = .returned v) ∧ settle u' = .returning ∧ ExtX [b] w w' ∧ Blk w' b #[c]
end
end Go.Sw

namespace Go.Sw
open Go Go.RowKit
def l4 (a b c d : Nat) (i : Nat) : Nat := match i with
  | 0 => a
  | 1 => b
  | 2 => c
  | _ => d
section
variable {P : Program} {n : Nat} {F : List (Nat × Value)} {a : Act} {w : World} {d : Option Tmp} {t : TypeId} {pos : String} {af : Array Edge} {gd : Option (Nat × Bool)}
end
end Go.Sw
