/- Plain lemmas of a small calculus for walks over frames and own memory; no statement of the seat is proved here. -/
import Derived.Test.YtockjnhdllcfpaaSw86
import Derived.Test.YtockjnhdllcfpaaSw98
import Derived.Test.YtockjnhdllcfpaaSw27
import Derived.Test.YtockjnhdllcfpaaSw29
import Derived.Test.YtockjnhdllcfpaaSw23
import Derived.Test.YtockjnhdllcfpaaSw77
import Derived.ChangeVars
import Derived.LaidLaws
import Derived.Stop.LaidErr
set_option linter.unusedVariables false
set_option linter.unusedSimpArgs false
namespace Go.Sw
open Go Go.RowKit
/-! ### Rows of whole numbers, sorted -/
def rowJ (cs : Array Value) (N : Nat) (D : Nat → Int) : Array Value := fnC cs.size (fun c => if c < N then .int .i64 (D c) else (cs[c]?).getD undef)
def putJ (D : Nat → Int) (j : Nat) (x : Int) (i : Nat) : Int := if i = j then x else D i
section
variable {cs : Array Value} {N : Nat} {D D' : Nat → Int}
theorem rowJ_size : (rowJ cs N D).size = cs.size := fnC_size _ _
end
/-! ### Sorting by exchanges: what stays -/
def SameSetJ (N : Nat) (D E : Nat → Int) : Prop := ∀ x : Int, (∃ k, k < N ∧ D k = x) ↔ ∃ k, k < N ∧ E k = x
def AscJ (m : Nat) (D : Nat → Int) : Prop := ∀ a b, a < b → b < m → D a ≤ D b
def AscButJ (m j : Nat) (D : Nat → Int) : Prop := (∀ a b, a < b → b < m → a ≠ j → b ≠ j → D a ≤ D b) ∧ ∀ b, j < b → b < m → D j ≤ D b
theorem AscButJ.start {m : Nat} {D : Nat → Int} (h : AscJ m D) : AscButJ (m + 1) m D := ⟨fun a b h1 h2 _ h4 => h a b h1 (by omega), fun b h1 h2 => absurd h2 (by omega)⟩
theorem AscButJ.done {m j : Nat} {D : Nat → Int} (h : AscButJ m j D) (hj : j = 0 ∨ D (j - 1) ≤ D j) : AscJ m D := fun a b h1 h2 => by
  by_cases e1 : a = j
  · subst e1; exact h.2 b h1 h2
  · by_cases e2 : b = j
    · subst e2
      rcases hj with e | hj
      · omega
      · by_cases e3 : a = b - 1
        · subst e3; exact hj
        · exact Int.le_trans (h.1 a (b - 1) (by omega) (by omega) e1 (by omega)) hj
    · exact h.1 a b h1 h2 e1 e2
theorem AscButJ.step {m j : Nat} {D : Nat → Int} (h : AscButJ m j D) (hj0 : 0 < j) (hjm : j < m) (hlt : D j < D (j - 1)) : AscButJ m (j - 1) (putJ (putJ D j (D (j - 1))) (j - 1) (D j)) := by
  have key : ∀ k, putJ (putJ D j (D (j - 1))) (j - 1) (D j) k = if k = j - 1 then D j else if k = j then D (j - 1) else D k := fun k => rfl;refine ⟨fun a b h1 h2 h3 h4 => ?_, fun b h1 h2 => ?_⟩
  · rw [key, key, if_neg h3, if_neg h4]
    by_cases e1 : a = j
    · rw [if_pos e1, if_neg (by omega)]; exact h.1 (j - 1) b (by omega) h2 (by omega) (by omega)
    · rw [if_neg e1]
      by_cases e2 : b = j
      · rw [if_pos e2]; exact h.1 a (j - 1) (by omega) (by omega) e1 (by omega)
      · rw [if_neg e2]; exact h.1 a b h1 h2 e1 e2
  · rw [key, key, if_pos rfl, if_neg (by omega)]
    by_cases e2 : b = j
    · rw [if_pos e2]; omega
    · rw [if_neg e2]; exact h.2 b (by omega) h2
end Go.Sw

namespace Go.Sw
open Go Go.RowKit
/-! ### Lists of the numbers 0 .. m - 1, each once -/
def LegP (m : Nat) (F : Nat → Int) : Prop := (∀ i, i < m → 0 ≤ F i ∧ F i < m) ∧ ∀ i j, i < j → j < m → F i ≠ F j
def CovP (m : Nat) (F : Nat → Int) : Prop := ∀ x : Nat, x < m → ∃ k, k < m ∧ F k = (x : Int)
theorem CovP.same {m : Nat} {D F : Nat → Int} (hs : SameSetJ m D F) : CovP m D ↔ CovP m F :=
  ⟨fun h x hx => (hs x).1 (h x hx), fun h x hx => (hs x).2 (h x hx)⟩
end Go.Sw
namespace Go.Sw.Rw
open Go Go.RowKit
def ArgE (F : Nat → Int) (k : Nat) (_ _ : World) (args : Array Value) : Prop := args = #[.int .i64 (F k)]
def CapS (bx b m : Nat) (F : Nat → Int) (W : World) : Prop := Blk W bx #[.slice (some ⟨b, 0, none⟩) m m] ∧ Blk W b (numI m F)
def OutJ (w w' : World) (m : Nat) (F : Nat → Int) (v : Value) : Prop := ∃ b cap cs D, v = .slice (some ⟨b, 0, none⟩) m cap ∧ w.heap.size ≤ b ∧ m ≤ cs.size ∧ Blk w' b (rowJ cs m D) ∧ AscJ m D ∧ SameSetJ m D F
end Go.Sw.Rw

namespace Go.Sw
open Go Go.RowKit
variable {P : Program}
/-! ### A region that draws its order behind a mark of deferred calls. -/
section
variable {ops : List Oper} {Q : Exit → Act → World → Prop} {n : Nat} {F : List (Nat × Value)} {G : Type} {S : G → World → Prop}
end
section
variable {ops : List Oper} {Q : Exit → Act → World → Prop} {n : Nat} {F : List (Nat × Value)} {a : Act} {w w0 : World} {X : List Nat} {D : Froz} {L0 : Own} {ds : List Deferred}
end
/-! ### A list ranged over from its end. -/
namespace Rw
def ArgB (m : Nat) (c : Nat → Nat) (k : Nat) (_ _ : World) (args : Array Value) : Prop := args = #[.int .i64 ((m - 1 - k : Nat) : Int), .int .i64 (c (m - 1 - k) : Int)]
def CapB (bx b m : Nat) (c : Nat → Nat) (W : World) : Prop := Blk W bx #[.slice (some ⟨b, 0, none⟩) m m] ∧ Blk W b (numC m c)
end Rw
end Go.Sw
namespace Go.Sw
open Go Go.RowKit
def LstS (w w' : World) (N : Nat) (f : Nat → Value) (u : Value) : Prop := ∃ e, Sl 1 u e N f ∧ ∀ b cs, e = some (b, cs) → w.heap.size ≤ b ∧ Blk w' b cs
theorem LstS.own {w w' : World} {N : Nat} {f : Nat → Value} {u : Value} (h : LstS w w' N f u) (hN : 0 < N) : OwnSl 1 w N f u w' := by
  obtain ⟨e, h1, h2⟩ := h;obtain ⟨b, cap, cs, _, he, h⟩ := h1.pos hN;exact ⟨b, cap, cs, he ▸ h, (h2 b cs he).1, (h2 b cs he).2⟩
theorem LstS.len {w w' : World} {N : Nat} {f : Nat → Value} {u : Value} (h : LstS w w' N f u) : ∃ x c, u = .slice x N c := by
  obtain ⟨e, h1, h2⟩ := h
  rcases h1 with ⟨rfl, _, rfl⟩ | ⟨b, cap, cs, h⟩
  · exact ⟨none, 0, rfl⟩
  · exact ⟨_, cap, h.val⟩
theorem LstS.mono {w0 w w' : World} {N : Nat} {f : Nat → Value} {u : Value} (h : LstS w w' N f u) (hs : w0.heap.size ≤ w.heap.size) : LstS w0 w' N f u := by
  obtain ⟨e, h1, h2⟩ := h;exact ⟨e, h1, fun b cs he => ⟨Nat.le_trans hs (h2 b cs he).1, (h2 b cs he).2⟩⟩
end Go.Sw

/-! Inverses: plain lemmas, no program. -/
namespace Go.Ech
def Pr (n : Nat) (T : Nat → Nat → Nat → Nat) (x y : Nat → Int) (c : Nat) : Int := sI (fun a => sI (fun b => x a * y b * (T a b c : Int)) n) n
def AssI (p n : Nat) (T : Nat → Nat → Nat → Nat) : Prop := ∀ i, i < n → ∀ j, j < n → ∀ k, k < n → ∀ d, d < n → (p : Int) ∣ sI (fun a => (T i j a : Int) * (T a k d : Int)) n - sI (fun b => (T j k b : Int) * (T i b d : Int)) n
structure InvI (p n : Nat) (T : Nat → Nat → Nat → Nat) (u v w : Nat → Nat) : Prop where
  small : ∀ c, w c < p
  out : ∀ c, n ≤ c → w c = 0
  right : ∀ c, c < n → (p : Int) ∣ Pr n T (ci w) (ci v) c - (u c : Int)
  left : ∀ c, c < n → (p : Int) ∣ Pr n T (ci v) (ci w) c - (u c : Int)
end Go.Ech

namespace Go.Ech
open Go.Sw
/-! ### More unknowns than equations; nilpotent vectors. -/
def powU (u : Nat → Nat) (W : Nat → Nat → Nat) : Nat → Nat → Nat
  | 0 => u
  | k + 1 => W k
end Go.Ech

/-! Polynomials told by their numbers: values, slopes, roots. -/
namespace Go.Ech
open Go Go.Sw
def valN (c : Nat → Nat) (d r : Nat) : Nat → Nat
  | 0 => 1
  | k + 1 => valN c d r k * r + c (d - 1 - k)
def slN (c : Nat → Nat) (d r : Nat) : Nat → Nat
  | 0 => 0
  | k + 1 => slN c d r k * r + valN c d r k
def soN (c : Nat → Nat) (d r : Nat) : Nat → Nat
  | 0 => d
  | k + 1 => soN c d r k * r + (d - 1 - k) * c (d - 1 - k)
def rtB (c : Nat → Nat) (m p r : Nat) : Bool := decide (valN c m r m % p = 0)
def quoC (c : Nat → Nat) (d r : Nat) (i : Nat) : Nat := valN c d r (d - 1 - i)
end Go.Ech

namespace Go.Sw
open Go Go.RowKit Go.ChangeShapes Go.WideShapes Go.ChangeAt
section
variable {H : Type} {enc : TypeId × Value → H} {P : Program} {w w' : World}
end
end Go.Sw
