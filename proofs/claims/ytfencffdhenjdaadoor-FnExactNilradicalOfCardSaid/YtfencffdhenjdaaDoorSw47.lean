/- Plain lemmas of a small calculus for walks over frames and own memory; no statement of the seat is proved here. -/
import Derived.Test.YtfencffdhenjdaaDoorSw37
set_option linter.unusedVariables false
set_option linter.unusedSimpArgs false
namespace Go.Sw
open Go Go.RowKit
variable {P : Program}
/-! ### Labels and jumps. -/
/-- By a jump: J; otherwise as Q. -/
def Exit.goes (J : Nat → Act → World → Prop) (Q : Exit → Act → World → Prop) : Exit → Act → World → Prop
  | .goto l, a, w => J l a w
  | e, a, w => Q e a w
section
variable {Q : Exit → Act → World → Prop} {J : Nat → Act → World → Prop} {K : Act → World → Prop} {a : Act} {w : World}
theorem gG {l : Nat} (h : J l a w) : Exit.goes J Q (.goto l) a w := h
end
section
variable {n : Nat} {F : List (Nat × Value)} {a : Act} {w : World} {d : Option Tmp} {t T : TypeId} {pos : String} {af : Array Edge} {gd : Option (Nat × Bool)} {x : Operand}
end
section
variable {P : Program} {fn : Func} {a : Act} {w : World}
end
end Go.Sw

namespace Go.Sw
open Go Go.RowKit
/-! ### Texts from bytes. -/
/-- The text of m bytes. -/
def txt (m : Nat) (g : Nat → Nat) : ByteArray := ((List.range m).map fun i => ((g i : Nat) : Int)).foldl (fun r n => r.push (UInt8.ofNat n.toNat)) ByteArray.empty
/-- m bytes in memory. -/
def dgC (m : Nat) (f : Nat → Nat) : Array Value := fnC m (fun c => .int .u8 ((f c : Nat) : Int))
theorem dgC_size {m : Nat} {f : Nat → Nat} : (dgC m f).size = m := fnC_size _ _
theorem dgC_congr {m : Nat} {f g : Nat → Nat} (h : ∀ c, c < m → f c = g c) : dgC m f = dgC m g := fnC_congr fun c hc => by rw [h c hc]
theorem dgC_set {m q k : Nat} {f g : Nat → Nat} {x : Int} (h : q = k) (hx : x = ((g k : Nat) : Int)) (hg : ∀ c, c < m → c ≠ k → g c = f c) : (dgC m f).setIfInBounds q (.int .u8 x) = dgC m g := by
  subst h; subst hx
  refine fnC_set fun c hc => ?_
  by_cases e : c = q
  · rw [if_pos e, e]
  · rw [if_neg e, hg c hc e]
/-- The letter of a number. -/
def dig (k : Nat) : Nat := if k < 10 then 48 + k else 97 + k - 10
def digs : ByteArray := ⟨#[48, 49, 50, 51, 52, 53, 54, 55, 56, 57, 97, 98, 99]⟩
section
variable {P : Program} {n : Nat} {F : List (Nat × Value)} {a : Act} {w : World} {d : Option Tmp} {t T T' : TypeId} {pos : String} {af : Array Edge} {gd : Option (Nat × Bool)} {x y z : Operand}
end
end Go.Sw
