/- Plain lemmas of a small calculus for walks over frames and own memory; no statement of the seat is proved here. -/
import Derived.Test.YtkodkghomlkifaaSw14
import Derived.Recover
import Derived.Test.YtkodkghomlkifaaSw19
import Derived.Test.YtkodkghomlkifaaSw6
import Derived.Test.YtkodkghomlkifaaEch5
import Derived.Test.YtkodkghomlkifaaEch6
import Derived.Test.YtkodkghomlkifaaSw21
import Derived.Test.YtkodkghomlkifaaSw9
set_option linter.unusedVariables false
set_option linter.unusedSimpArgs false
namespace Go.Sw
open Go Go.RowKit
variable {P : Program}
/-! ### Deferred calls: what was laid before lies behind the frame. -/
def addD (ds : List Deferred) (a : Act) : Act := ⟨a.tmps, a.defers ++ ds⟩
section
variable {ds : List Deferred} {ops : Array Oper} {Q : Exit → Act → World → Prop} {n : Nat} {F : List (Nat × Value)} {a : Act} {w : World}
end
end Go.Sw

namespace Go.Sw
open Go Go.RowKit
variable {P : Program}
/-! ### A door: a deferred closure that recovers. -/
section
variable {ops : Array Oper} {Q : Exit → Act → World → Prop} {rest : List Oper} {n : Nat} {F : List (Nat × Value)} {a : Act} {w : World} {d : Option Tmp} {t : TypeId} {pos : String} {af : Array Edge} {gd : Option (Nat × Bool)}
def okA (tm : Array Value) : List (Nat × Value) → Prop
  | [] => True
  | (t, v) :: r => tm.getD t undef = v ∧ okA tm r
def Clo (P : Program) (f b : Nat) (u : FrameMode) (w : World) (c : Value) : Prop :=
  CallsD P f #[ptr b 0] u w fun e u' w' => (∃ v, e = .returned v) ∧ settle u' = .returning ∧ ExtX [b] w w' ∧ Blk w' b #[c]
end
end Go.Sw

namespace Go.Sw
open Go Go.RowKit
variable {P : Program}
/-! ### Regions that draw their order, with guards (as Sw4, but an operation may be passed over). -/
section
variable {ops : List Oper} {Q : Exit → Act → World → Prop} {n : Nat} {F : List (Nat × Value)} {G : Type} {S : G → World → Prop}
def dstsOkQ (n : Nat) (F : List (Nat × Value)) : List Oper → List Nat → Bool
  | [], _ => true
  | o :: r, seen => (match o.dst with
    | some d => Nat.blt d n && (lk F d).isNone && !(memNat d seen) && dstsOkQ n F r (d :: seen)
    | none => false)

def StepsQ {G : Type} (P : Program) (ops : List Oper) (k n : Nat) (F : List (Nat × Value)) (S : G → World → Prop) (φ : Facts G) : List Oper → Nat → Prop
  | [], _ => True
  | o :: r, i => (∀ a w g, Fr n a F → S g w → Deps ops k φ o g a w → if Region.wanted o (yielded ops.toArray a.tmps) = true then Does P o a w (After S φ i g w) else After S φ i g w undef w) ∧ StepsQ P ops k n F S φ r (i + 1)
theorem StepsQ.get {k : Nat} {φ : Facts G} : ∀ {l : List Oper} {i : Nat}, StepsQ P ops k n F S φ l i → ∀ (j : Nat) (o : Oper), l[j]? = some o →
    ∀ a w g, Fr n a F → S g w → Deps ops k φ o g a w → if Region.wanted o (yielded ops.toArray a.tmps) = true then Does P o a w (After S φ (i + j) g w) else After S φ (i + j) g w undef w
  | [], _, _, j, o, h => by simp at h
  | x :: r, i, hs, j, o, h => by
    cases j with
    | zero => simp at h; subst h; exact hs.1
    | succ j => have := hs.2.get j o (by simpa using h); rwa [show i + 1 + j = i + (j + 1) by omega] at this

end
end Go.Sw

namespace Go.Sw
open Go Go.RowKit Go.ChangeShapes Go.WideShapes Go.ChangeAt
def ArgVs (w : World) (sl : Value) (m : Nat) (V : Nat → Nat → Nat) : Prop :=
  (∃ x c, sl = .slice x m c) ∧ (0 < m → ∃ b o c, sl = .slice (some ⟨b, o, none⟩) m c ∧ ∀ i, i < m → ∀ j, j < 6 → w.cell? ⟨b, o + i * 6 + j, none⟩ = some (.int .u8 (V i j : Int)))
theorem ArgVs.ext {w w' : World} {sl : Value} {m : Nat} {V : Nat → Nat → Nat} (h : ArgVs w sl m V) (hx : Ext w w') : ArgVs w' sl m V :=
  ⟨h.1, fun hm => by obtain ⟨b, o, c, h1, h3⟩ := h.2 hm; exact ⟨b, o, c, h1, fun i hi j hj => cell_ext (h3 i hi j hj) hx⟩⟩
theorem ArgVs.one {w : World} {sl : Value} {m : Nat} {V : Nat → Nat → Nat} (h : ArgVs w sl m V) : sl.oneCell' = true := by
  obtain ⟨⟨x, c, rfl⟩, _⟩ := h; rfl
section
variable {P : Program} {n : Nat} {F : List (Nat × Value)} {a : Act} {w : World} {d : Option Tmp} {t : TypeId} {pos : String} {af : Array Edge} {gd : Option (Nat × Bool)} {x : Operand}
end
section
variable {H : Type} {enc : TypeId × Value → H} {P : Program} {w w' : World} {base : Nat} {spare : Nat → Bool} {held : Bool}
theorem cells?_get {a : Addr} {n : Nat} {cs : List Value} (h : w.cells? base a n = some cs) : cs.length = n ∧ ∀ i, i < n → w.cell? (a.add i) = cs[i]? := by
  unfold World.cells? at h
  split at h
  · have hl := mapM_some_length h
    rw [List.length_range] at hl;refine ⟨hl.symm ▸ rfl, fun i hi => ?_⟩;have := mapM_some_get h i i (by rw [List.getElem?_range hi]);exact this
  · cases h
end
section
variable {H : Type} {enc : TypeId × Value → H} {P : Program} {w : World} {base : Nat} {spare : Nat → Bool} {held : Bool}
end
section
variable {P : Program} {X : List Nat} {w0 w : World} {L : Own} {D : Froz} {n : Nat} {F : List (Nat × Value)} {a : Act} {d : Option Tmp} {T : TypeId} {t : TypeId} {pos : String} {af : Array Edge} {gd : Option (Nat × Bool)} {x y : Operand}
end
end Go.Sw

namespace Go.Sw
open Go Go.RowKit Go.ChangeShapes Go.WideShapes Go.ChangeAt
def grpC (n : Int) (M : Nat → Nat → Nat) : Array Value := fnC 37 fun c => if c = 0 then .int .i64 n else .int .u8 (M ((c - 1) / 6) ((c - 1) % 6))
section
variable {n q : Int} {M N : Nat → Nat → Nat}
end
def grpKs : List IntKind := .i64 :: List.replicate 36 .u8
section
variable {H : Type} {enc : TypeId × Value → H} {P : Program} {w : World} {base : Nat} {spare : Nat → Bool} {held : Bool} {t : TypeId} {v : Value} {d : DataW H} {p : List MemPlace}
end
end Go.Sw

namespace Go.Sw
open Go Go.RowKit
def l4 (a b c d : Nat) (i : Nat) : Nat := match i with
  | 0 => a
  | 1 => b
  | 2 => c
  | _ => d
theorem tabC_putRow {T : Nat → Nat → Nat → Nat} {v : Nat → Nat} {o : Nat} (a b : Nat) (h : o = a * 36 + b * 6) (ha : a < 6) (hb : b < 6) : splice (tabC T) o (vecC v) = tabC (fun i j k => if i = a ∧ j = b then v k else T i j k) := by
  subst h;have hz : a * 36 + b * 6 + (vecC v).size ≤ (tabC T).size := by rw [vecC_size, tabC_size]; omega
  apply fnC_ext (by rw [splice_size _ _ _ hz, tabC_size])
  intro i hi;rw [splice_get _ _ _ _ hz, vecC_size]
  by_cases e : a * 36 + b * 6 ≤ i ∧ i < a * 36 + b * 6 + 6
  · rw [if_pos e, vecC_get (i - (a * 36 + b * 6)) rfl (by omega)]; dsimp only; rw [if_pos ⟨by omega, by omega⟩, show i - (a * 36 + b * 6) = i % 6 by omega]
  · rw [if_neg e, tabC_get (i / 36) (i / 6 % 6) (i % 6) (by omega) (by omega) (by omega) (by omega)]; dsimp only; rw [if_neg (by omega)]
theorem tabC_congr {T U : Nat → Nat → Nat → Nat} (h : ∀ i, i < 6 → ∀ j, j < 6 → ∀ k, k < 6 → T i j k = U i j k) : tabC T = tabC U := by
  unfold tabC
  exact fnC_congr fun c hc => by rw [h _ (by omega) _ (by omega) _ (by omega)]
theorem algC_congr {p n : Int} {T U : Nat → Nat → Nat → Nat} {f : Nat → Nat} (h : ∀ i, i < 6 → ∀ j, j < 6 → ∀ k, k < 6 → T i j k = U i j k) : algC p n T f = algC p n U f := by
  unfold algC
  refine fnC_congr fun c hc => ?_
  by_cases h0 : c = 0
  · rw [if_pos h0, if_pos h0]
  · rw [if_neg h0, if_neg h0]
    by_cases h1 : c = 1
    · rw [if_pos h1, if_pos h1]
    · rw [if_neg h1, if_neg h1]
      by_cases h2 : c < 218
      · rw [if_pos h2, if_pos h2, h _ (by omega) _ (by omega) _ (by omega)]
      · rw [if_neg h2, if_neg h2]
section
variable {P : Program} {n : Nat} {F : List (Nat × Value)} {a : Act} {w : World} {d : Option Tmp} {t : TypeId} {pos : String} {af : Array Edge} {gd : Option (Nat × Bool)}
end
end Go.Sw
