/- Plain lemmas of a small calculus for walks over frames and own memory; no statement of the seat is proved here. -/
import Derived.Test.YtfencffdhenjdaaDoorSw24
import Derived.Laws.CopyRow
import Derived.Test.YtfencffdhenjdaaDoorSw23
set_option linter.unusedVariables false
set_option linter.unusedSimpArgs false
/-! The copy builtin, and slices of arrays with a bound: plain lemmas. -/
namespace Go.Sw
open Go Go.RowKit
section
variable {P : Program} {n : Nat} {a : Act} {w0 w : World} {X : List Nat} {F : List (Nat × Value)} {L : Own} {D : Froz} {d : Option Tmp} {T : TypeId} {x y : Operand} {t : TypeId} {pos : String} {af : Array Edge} {gd : Option (Nat × Bool)}
end
end Go.Sw

namespace Go.Sw
open Go Go.RowKit
/-- The cells of a tensor. -/
def tenC (p n i o : Int) (sl : Value) : Array Value := #[.int .i64 p, .int .i64 n, .int .i64 i, .int .i64 o, sl]
/-- The cells of sums: a prime and a list. -/
def smC (p : Int) (sl : Value) : Array Value := #[.int .i64 p, sl]
/-- m numbers, one behind the other. -/
def numC (m : Nat) (f : Nat → Nat) : Array Value := fnC m (fun c => .int .i64 ((f c : Nat) : Int))
section
variable {p n i o : Int} {sl : Value} {q m : Nat} {f g : Nat → Nat}
theorem numC_get {k : Nat} (h : q = k) (hk : k < m) : (numC m f)[q]? = some (.int .i64 ((f k : Nat) : Int)) := by subst h; exact fnC_get hk
theorem numC_congr (h : ∀ c, c < m → f c = g c) : numC m f = numC m g := fnC_congr fun c hc => by rw [h c hc]
theorem numC_set {k v : Nat} (h : q = k) (hg : ∀ c, c < m → g c = if c = k then v else f c) : (numC m f).setIfInBounds q (.int .i64 ((v : Nat) : Int)) = numC m g := by
  subst h
  exact fnC_set fun c hc => by rw [hg c hc]; split <;> rfl
end
/-- A new tensor, its numbers in memory of their own. -/
abbrev TenOut (w w' : World) (p n i o : Int) (m : Nat) (f : Nat → Nat) (v : Value) : Prop :=
  ∃ b, v = .agg (tenC p n i o (.slice (some ⟨b, 0, none⟩) m m)) ∧ w.heap.size ≤ b ∧ Blk w' b (numC m f)
/-- The same, with the code 0 beside it. -/
abbrev TenOut0 (w w' : World) (p n i o : Int) (m : Nat) (f : Nat → Nat) (v : Value) : Prop :=
  ∃ b, v = .tuple #[.agg (tenC p n i o (.slice (some ⟨b, 0, none⟩) m m)), .int .i64 0] ∧ w.heap.size ≤ b ∧ Blk w' b (numC m f)
/-- The power as the model reckons it: no further once it is past 1296. -/
def pwr (n : Nat) : Nat → Nat → Nat
  | 0, q => q
  | k + 1, q => if q ≤ 1296 then pwr n k (q * n) else q
/-- Numbers of legs and a size within the limits. -/
def wl (n i o : Nat) : Prop := i ≤ 8 ∧ o ≤ 8 ∧ n ^ (i + o) ≤ 1296
instance (n i o : Nat) : Decidable (wl n i o) := by unfold wl; infer_instance
section
variable {P : Program} {n : Nat} {F : List (Nat × Value)} {a : Act} {w : World} {d : Option Tmp} {t : TypeId} {pos : String} {af : Array Edge} {gd : Option (Nat × Bool)} {T : TypeId} {x y z u : Operand}
end
end Go.Sw
