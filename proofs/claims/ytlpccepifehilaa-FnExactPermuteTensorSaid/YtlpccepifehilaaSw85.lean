/- Plain lemmas of a small calculus for walks over frames and own memory; no statement of the seat is proved here. -/
import Derived.Test.YtlpccepifehilaaSw81
import Derived.LaidEql
import Derived.Test.YtlpccepifehilaaEch10
set_option linter.unusedVariables false
set_option linter.unusedSimpArgs false
namespace Go.Sw
open Go Go.RowKit Go.Ech
variable {P : Program}
/-! ### 'append', and what it leaves as it was: maps -/
section
variable {ops : Array Oper} {Q : Exit → Act → World → Prop} {rest : List Oper} {n : Nat} {F : List (Nat × Value)} {a : Act} {X : List Nat} {w w0 : World} {L : Own} {D : Froz}
variable {d : Option Tmp} {t : TypeId} {pos : String} {af : Array Edge} {gd : Option (Nat × Bool)} {T : TypeId} {x y : Operand}
end
/-! ### Memory behind a side that was linked -/
section
variable {K : Nat → Int} {tw τ σ φ ψ : Nat → Nat} {q u bx b1 b2 bT : Nat} {k : Int}
end
end Go.Sw

namespace Go.Sw
open Go Go.RowKit Go.Ech
section
variable {P : Program} {n : Nat} {F : List (Nat × Value)} {a : Act} {w : World} {d : Option Tmp} {t T T' e : TypeId} {pos : String} {af : Array Edge} {gd : Option (Nat × Bool)} {x y : Operand} {b1 b2 : Nat} {c1 c2 : Array Value}
/-! ### Pointers compared -/
end
end Go.Sw

namespace Go.Sw
open Go Go.RowKit
/-! ### Ascending lists of the numbers that have a property -/
def cnt (S : Nat → Bool) : Nat → Nat
  | 0 => 0
  | i + 1 => cnt S i + if S i = true then 1 else 0
theorem cnt_yes {S : Nat → Bool} {i : Nat} (h : S i = true) : cnt S (i + 1) = cnt S i + 1 := by simp only [cnt]; rw [if_pos h]
theorem cnt_no {S : Nat → Bool} {i : Nat} (h : ¬ S i = true) : cnt S (i + 1) = cnt S i := by simp only [cnt]; rw [if_neg h]; rfl
theorem cnt_congr {S T : Nat → Bool} : ∀ {n : Nat}, (∀ i, i < n → S i = T i) → cnt S n = cnt T n
  | 0, _ => rfl
  | n + 1, h => by
    simp only [cnt]
    rw [cnt_congr (S := S) (T := T) (n := n) (fun i hi => h i (by omega)), h n (by omega)]
def asc (S : Nat → Bool) : Nat → Nat → Nat
  | 0, _ => 0
  | n + 1, k => if S n = true ∧ cnt S n = k then n else asc S n k
end Go.Sw

namespace Go.Sw
open Go Go.RowKit Go.Ech
/-! ### Numbers that are joined, and how many different ones there are -/
def isF (l : Nat → Nat) (i : Nat) : Bool := decide (∀ k, k < i → l k ≠ l i)
def dif (l : Nat → Nat) (N : Nat) : Nat := cnt (isF l) N
def joinL (l : Nat → Nat) (a b c : Nat) : Nat := if l c = l b then l a else l c
/-! ### Numbers that lead onward to one last number -/
structure UF (N : Nat) (par rt dp : Nat → Nat) : Prop where
  pl : ∀ c, c < N → par c < N
  rl : ∀ c, c < N → rt c < N
  rr : ∀ c, c < N → par (rt c) = rt c
  rp : ∀ c, c < N → rt (par c) = rt c
  r0 : ∀ c, c < N → par c = c → rt c = c
  dl : ∀ c, c < N → par c ≠ c → dp (par c) < dp c
theorem UF.start {N : Nat} : UF N (fun c => c) (fun c => c) (fun _ => 0) := ⟨fun _ h => h, fun _ h => h, fun _ _ => rfl, fun _ _ => rfl, fun _ _ _ => rfl, fun _ _ h => absurd rfl h⟩
def rtU (rt : Nat → Nat) (a b c : Nat) : Nat := if rt c = a then b else rt c
def dpU (rt dp : Nat → Nat) (a b c : Nat) : Nat := if rt c = a then dp c + dp b + 1 else dp c
/-! ### The ends of edges -/
def endK (K : Nat → Int) (x : Nat) : Nat := if 0 < K x then 2 * (K x).natAbs - 1 else 2 * (K x).natAbs - 2
def begK (K : Nat → Int) (x : Nat) : Nat := if 0 < K x then 2 * (K x).natAbs - 2 else 2 * (K x).natAbs - 1
def ldS (K : Nat → Int) : Nat → Nat → Nat
  | 0, c => c
  | x + 1, c => joinL (ldS K x) (endK K x) (begK K (nxt x)) c
def tipV (par tb : Nat → Nat) (c : Nat) : Value := if par c = c then .pointer none else ptr (tb (par c)) 0
structure Tp (D : Froz) (N : Nat) (tb par : Nat → Nat) : Prop where
  mem : ∀ c, c < N → (tb c, #[tipV par tb c]) ∈ D
  inj : ∀ c d, c < N → d < N → tb c = tb d → c = d
structure Gs (D : Froz) (lo N : Nat) (K : Nat → Int) (tw : Nat → Nat) (q u t : Nat) (τ σ φ ψ : Nat → Nat) : Prop where
  sid : ∀ x, x < q → (σ x, SC K tw τ σ φ ψ q u x) ∈ D
  tri : ∀ i, i < t → (τ i, TCv σ i) ∈ D
end Go.Sw

namespace Go.Sw
open Go Go.RowKit Go.Ech
/-! ### An end of an edge compared with nil -/
section
variable {P : Program} {n : Nat} {F : List (Nat × Value)} {a : Act} {w : World} {d : Option Tmp} {t T T' : TypeId} {pos : String} {af : Array Edge} {gd : Option (Nat × Bool)} {x y : Operand} {par tb : Nat → Nat} {c : Nat} {e : TypeId}
end
end Go.Sw
