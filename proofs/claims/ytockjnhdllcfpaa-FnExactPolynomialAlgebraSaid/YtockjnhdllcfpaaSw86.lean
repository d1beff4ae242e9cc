/- Plain lemmas of a small calculus for walks over frames and own memory; no statement of the seat is proved here. -/
import Derived.Test.YtockjnhdllcfpaaSw29
import Derived.Test.YtockjnhdllcfpaaSw83
import Derived.Test.YtockjnhdllcfpaaSw6
import Derived.Test.YtockjnhdllcfpaaSw74
import Derived.Test.YtockjnhdllcfpaaSw27
set_option linter.unusedVariables false
set_option linter.unusedSimpArgs false
namespace Go.Sw
open Go Go.RowKit
/-! ### Ascending lists of the numbers that have a property -/
def cnt (S : Nat → Bool) : Nat → Nat
  | 0 => 0
  | i + 1 => cnt S i + if S i = true then 1 else 0
def asc (S : Nat → Bool) : Nat → Nat → Nat
  | 0, _ => 0
  | n + 1, k => if S n = true ∧ cnt S n = k then n else asc S n k
end Go.Sw

namespace Go.Sw
open Go Go.RowKit Go.Ech
/-! ### Numbers that are joined, and how many different ones there are -/
def isF (l : Nat → Nat) (i : Nat) : Bool := decide (∀ k, k < i → l k ≠ l i)
def dif (l : Nat → Nat) (N : Nat) : Nat := cnt (isF l) N
def joinL (l : Nat → Nat) (a b c : Nat) : Nat := if l c = l b then l a else l c
/-! ### Numbers that lead onward to one last number -/
structure UF (N : Nat) (par rt dp : Nat → Nat) : Prop where
  pl : ∀ c, c < N → par c < N
  rl : ∀ c, c < N → rt c < N
  rr : ∀ c, c < N → par (rt c) = rt c
  rp : ∀ c, c < N → rt (par c) = rt c
  r0 : ∀ c, c < N → par c = c → rt c = c
  dl : ∀ c, c < N → par c ≠ c → dp (par c) < dp c
theorem UF.start {N : Nat} : UF N (fun c => c) (fun c => c) (fun _ => 0) := ⟨fun _ h => h, fun _ h => h, fun _ _ => rfl, fun _ _ => rfl, fun _ _ _ => rfl, fun _ _ h => absurd rfl h⟩
def rtU (rt : Nat → Nat) (a b c : Nat) : Nat := if rt c = a then b else rt c
def dpU (rt dp : Nat → Nat) (a b c : Nat) : Nat := if rt c = a then dp c + dp b + 1 else dp c
/-! ### The ends of edges -/
def endK (K : Nat → Int) (x : Nat) : Nat := if 0 < K x then 2 * (K x).natAbs - 1 else 2 * (K x).natAbs - 2
def begK (K : Nat → Int) (x : Nat) : Nat := if 0 < K x then 2 * (K x).natAbs - 2 else 2 * (K x).natAbs - 1
def ldS (K : Nat → Int) : Nat → Nat → Nat
  | 0, c => c
  | x + 1, c => joinL (ldS K x) (endK K x) (begK K (nxt x)) c
def tipV (par tb : Nat → Nat) (c : Nat) : Value := if par c = c then .pointer none else ptr (tb (par c)) 0
structure Tp (D : Froz) (N : Nat) (tb par : Nat → Nat) : Prop where
  mem : ∀ c, c < N → (tb c, #[tipV par tb c]) ∈ D
  inj : ∀ c d, c < N → d < N → tb c = tb d → c = d
structure Gs (D : Froz) (lo N : Nat) (K : Nat → Int) (tw : Nat → Nat) (q u t : Nat) (τ σ φ ψ : Nat → Nat) : Prop where
  sid : ∀ x, x < q → (σ x, SC K tw τ σ φ ψ q u x) ∈ D
  tri : ∀ i, i < t → (τ i, TCv σ i) ∈ D
end Go.Sw

namespace Go.Sw
open Go Go.RowKit Go.Ech
/-! ### An end of an edge compared with nil -/
section
variable {P : Program} {n : Nat} {F : List (Nat × Value)} {a : Act} {w : World} {d : Option Tmp} {t T T' : TypeId} {pos : String} {af : Array Edge} {gd : Option (Nat × Bool)} {x y : Operand} {par tb : Nat → Nat} {c : Nat} {e : TypeId}
end
end Go.Sw

namespace Go.Sw
open Go Go.RowKit
variable {P : Program}
/-! ### Regions that draw their order, with guards (as Sw4, but an operation may be passed over). -/
section
variable {ops : List Oper} {Q : Exit → Act → World → Prop} {n : Nat} {F : List (Nat × Value)} {G : Type} {S : G → World → Prop}
def dstsOkQ (n : Nat) (F : List (Nat × Value)) : List Oper → List Nat → Bool
  | [], _ => true
  | o :: r, seen => (match o.dst with
    | some d => Nat.blt d n && (lk F d).isNone && !(memNat d seen) && dstsOkQ n F r (d :: seen)
    | none => false)

def StepsQ {G : Type} (P : Program) (ops : List Oper) (k n : Nat) (F : List (Nat × Value)) (S : G → World → Prop) (φ : Facts G) : List Oper → Nat → Prop
  | [], _ => True
  | o :: r, i => (∀ a w g, Fr n a F → S g w → Deps ops k φ o g a w → if Region.wanted o (yielded ops.toArray a.tmps) = true then Does P o a w (After S φ i g w) else After S φ i g w undef w) ∧ StepsQ P ops k n F S φ r (i + 1)
theorem StepsQ.get {k : Nat} {φ : Facts G} : ∀ {l : List Oper} {i : Nat}, StepsQ P ops k n F S φ l i → ∀ (j : Nat) (o : Oper), l[j]? = some o →
    ∀ a w g, Fr n a F → S g w → Deps ops k φ o g a w → if Region.wanted o (yielded ops.toArray a.tmps) = true then Does P o a w (After S φ (i + j) g w) else After S φ (i + j) g w undef w
  | [], _, _, j, o, h => by simp at h
  | x :: r, i, hs, j, o, h => by
    cases j with
    | zero => simp at h; subst h; exact hs.1
    | succ j => have := hs.2.get j o (by simpa using h); rwa [show i + 1 + j = i + (j + 1) by omega] at this

end
end Go.Sw

namespace Go.Sw
open Go Go.RowKit
def rowW (cs : Array Value) (N : Nat) (D : Nat → Nat) : Array Value := fnC cs.size (fun c => if c < N then .int .i64 (D c : Int) else (cs[c]?).getD undef)
def put1 (D : Nat → Nat) (j x i : Nat) : Nat := if i = j then x else D i
section
variable {cs : Array Value} {N : Nat} {D D' : Nat → Nat}
end
section
variable {P : Program} {X : List Nat} {w0 w : World} {L : Own} {D : Froz} {n : Nat} {F : List (Nat × Value)} {a : Act} {d : Option Tmp} {T : TypeId} {t : TypeId} {pos : String} {af : Array Edge} {gd : Option (Nat × Bool)} {x y : Operand}
end
section
variable {P : Program} {X : List Nat} {w0 w : World} {L : Own} {D : Froz} {n : Nat} {F : List (Nat × Value)} {a : Act} {d : Option Tmp} {T : TypeId} {t : TypeId} {pos : String} {af : Array Edge} {gd : Option (Nat × Bool)} {x : Operand}
end
/-! ### Sorting by exchanges: what stays -/
def SameSet (N : Nat) (D E : Nat → Nat) : Prop := ∀ x, (∃ k, k < N ∧ D k = x) ↔ ∃ k, k < N ∧ E k = x
def Asc (m : Nat) (D : Nat → Nat) : Prop := ∀ a b, a < b → b < m → D a ≤ D b
def AscBut (m j : Nat) (D : Nat → Nat) : Prop := (∀ a b, a < b → b < m → a ≠ j → b ≠ j → D a ≤ D b) ∧ ∀ b, j < b → b < m → D j ≤ D b
theorem AscBut.start {m : Nat} {D : Nat → Nat} (h : Asc m D) : AscBut (m + 1) m D := ⟨fun a b h1 h2 _ h4 => h a b h1 (by omega), fun b h1 h2 => absurd h2 (by omega)⟩
theorem AscBut.done {m j : Nat} {D : Nat → Nat} (h : AscBut m j D) (hj : j = 0 ∨ D (j - 1) ≤ D j) : Asc m D := fun a b h1 h2 => by
  by_cases e1 : a = j
  · subst e1; exact h.2 b h1 h2
  · by_cases e2 : b = j
    · subst e2
      rcases hj with e | hj
      · omega
      · by_cases e3 : a = b - 1
        · subst e3; exact hj
        · exact Nat.le_trans (h.1 a (b - 1) (by omega) (by omega) e1 (by omega)) hj
    · exact h.1 a b h1 h2 e1 e2
theorem AscBut.step {m j : Nat} {D : Nat → Nat} (h : AscBut m j D) (hj0 : 0 < j) (hjm : j < m) (hlt : D j < D (j - 1)) : AscBut m (j - 1) (put1 (put1 D j (D (j - 1))) (j - 1) (D j)) := by
  have key : ∀ k, put1 (put1 D j (D (j - 1))) (j - 1) (D j) k = if k = j - 1 then D j else if k = j then D (j - 1) else D k := fun k => rfl;refine ⟨fun a b h1 h2 h3 h4 => ?_, fun b h1 h2 => ?_⟩
  · rw [key, key, if_neg h3, if_neg h4]
    by_cases e1 : a = j
    · rw [if_pos e1, if_neg (by omega)]; exact h.1 (j - 1) b (by omega) h2 (by omega) (by omega)
    · rw [if_neg e1]
      by_cases e2 : b = j
      · rw [if_pos e2]; exact h.1 a (j - 1) (by omega) (by omega) e1 (by omega)
      · rw [if_neg e2]; exact h.1 a b h1 h2 e1 e2
  · rw [key, key, if_pos rfl, if_neg (by omega)]
    by_cases e2 : b = j
    · rw [if_pos e2]; omega
    · rw [if_neg e2]; exact h.2 b (by omega) h2
end Go.Sw

namespace Go.Sw
open Go Go.RowKit Go.Ech
def NumOut (w w' : World) (m : Nat) (f : Nat → Nat) (v : Value) : Prop := ∃ b c cs, v = .slice (some ⟨b, 0, none⟩) m c ∧ w.heap.size ≤ b ∧ Blk w' b cs ∧ SlAt 1 v (some (b, cs)) m b c cs (fun k => .int .i64 (f k : Int))
theorem NumOut.last {w w1 w2 : World} {m : Nat} {f : Nat → Nat} {v : Value} (h : NumOut w w1 m f v) (hx : Ext w1 w2) : NumOut w w2 m f v := by
  obtain ⟨b, c, cs, h1, h2, h3, h4⟩ := h;exact ⟨b, c, cs, h1, h2, h3.ext hx, h4⟩
theorem NumOut.mono {w w1 w2 : World} {m : Nat} {f : Nat → Nat} {v : Value} (h : NumOut w1 w2 m f v) (hs : w.heap.size ≤ w1.heap.size) : NumOut w w2 m f v := by
  obtain ⟨b, c, cs, h1, h2, h3, h4⟩ := h;exact ⟨b, c, cs, h1, Nat.le_trans hs h2, h3, h4⟩
def endI (k : Int) : Nat := if 0 < k then 2 * k.natAbs - 1 else 2 * k.natAbs - 2
def begI (k : Int) : Nat := if 0 < k then 2 * k.natAbs - 2 else 2 * k.natAbs - 1
end Go.Sw
