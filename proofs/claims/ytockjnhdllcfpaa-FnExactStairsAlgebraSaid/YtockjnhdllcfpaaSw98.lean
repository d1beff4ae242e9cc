/- Plain lemmas of a small calculus for walks over frames and own memory; no statement of the seat is proved here. -/
import Derived.Test.YtockjnhdllcfpaaSw90
import Derived.Test.YtockjnhdllcfpaaSw83
import Derived.RangeFuncLeaves
import Derived.Test.YtockjnhdllcfpaaSw74
import Derived.Test.YtockjnhdllcfpaaSw27
import Derived.Test.YtockjnhdllcfpaaSw3
import Derived.Test.YtockjnhdllcfpaaSw86
set_option linter.unusedVariables false
set_option linter.unusedSimpArgs false
namespace Go.Sw.Rw
open Go Go.RowKit
variable {P : Program}
/-! ### A range over a function: the statement, out of what the iterator promises and one walk of the body -/
def KeepsNC (W W' : World) : Prop := ∀ (q : Nat) (o : Obj), W.heap[q]? = some o → (∀ cs t, o ≠ .cells cs t) → W'.heap[q]? = some o
theorem keepsNC_of {X : List Nat} {W W' : World} (h : ExtX X W W') (hX : ∀ b, b ∈ X → ∃ cs, Blk W b cs) : KeepsNC W W' := fun q o hq ho => by
  have hlt : q < W.heap.size := (Array.getElem?_eq_some_iff.1 hq).1
  refine (h.block q hlt fun hm => ?_).trans hq
  obtain ⟨cs, t, hb⟩ := hX q hm
  rw [hb] at hq
  exact ho _ _ (Option.some.inj hq).symm
def RoundQ (R Rx : World → Prop) : Exit → Act → World → Prop
  | .normal, _, w => R w
  | .ret, _, w => Rx w
  | _, _, _ => False
def IterC (P : Program) (gf : Nat) (cap : Array Value) (N : Nat) (arg : Nat → World → World → Array Value → Prop) (K : World → Prop) : Prop :=
  ∀ (l : Nat) (J : Nat → World → Prop) (Jx : World → Prop) (W : World),
    (∀ k A B, J k A → Ext A B → J k B) → (∀ k A, J k A → K A) →
    (∀ k A B args, k < N → J k A → Ext A B → arg k A B args → YieldAt Fence.wide 0 P l args B (fun e W' => (e = .returned (.bool true) ∧ J (k + 1) W') ∨ (e = .returned (.bool false) ∧ Jx W'))) →
    J 0 W → CallsIn Fence.wide 0 P gf (#[.func (.yield l) #[] #[]] ++ cap) W (fun e W' => (∃ v, e = .returned v) ∧ (J N W' ∨ Jx W'))
def roundTmps (ps : Array Tmp) (args tmps : Array Value) : Array Value := (ps.zip args).foldl (fun tmps (t, a) => tmps.setIfInBounds t a) tmps
end Go.Sw.Rw

namespace Go.Sw.Rw
open Go Go.RowKit
variable {P : Program}
abbrev mark (D : Nat) : Deferred := { target := .collected D, args := #[] }
section
variable {fn : Func} {n : Nat} {F : List (Nat × Value)} {a : Act} {w : World}
end
/-! ### Calls of yield -/
section
variable {ops : Array Oper} {Q : Exit → Act → World → Prop} {rest : List Oper} {n : Nat} {F : List (Nat × Value)} {a : Act} {w : World} {t : TypeId} {pos : String} {af : Array Edge}
theorem op_inW {o : Oper} {next next' : Act → World → Prop} (hn : ∀ a w, next a w → next' a w) (h : o.wp P a w next Q) : o.wpIn Fence.wide 0 P a w next' Q := by
  refine ⟨fun _ _ => trivial, ?_⟩
  show o.uponIn Fence.wide 0 P a next' Q ((execOp a.eval o).run P w)
  unfold Oper.wp at h
  generalize (execOp a.eval o).run P w = r at h
  unfold Oper.upon at h
  split at h
  · exact hn _ _ h
  · exact hn _ _ h
  · exact hn _ _ h
  · refine ⟨fun e => (by cases e), callsIn_wide.2 (h.mono fun e w'' hq => ?_)⟩
    cases e with
    | returned v => exact hn _ _ hq
    | panicked c => exact hq
    | outgrown => exact hq
  · refine ⟨fun e => (by cases e), fun c cs hr => ?_⟩
    obtain ⟨v, w', h1, h2⟩ := h c cs;exact ⟨v, w', hn _ _ h1, stepsIn_wide.2 h2⟩
  · exact h
  · exact h.elim
theorem stW {d : Nat} {op : Op} {v : Value} (hF : Fr n a F) (hd : Gives P ⟨some d, op, t, pos, af, none⟩ a w v) (hn : Nat.blt d n = true)
    (h : ∀ a', Fr n a' ((d, v) :: F) → wpListIn Fence.wide 0 P ops Q rest a' w) : wpListIn Fence.wide 0 P ops Q (⟨some d, op, t, pos, af, none⟩ :: rest) a w :=
  wpListIn_plain rfl fun K hK => op_inW (fun a w h => h) (hd.run K Q fun u w' ⟨h1, h2⟩ => by subst h1; subst h2; exact hK _ _ (h _ (hF.put d _ hn)))
end
end Go.Sw.Rw

namespace Go.Sw.Rw
open Go Go.RowKit
variable {P : Program}
def digF (s l k i : Nat) : Nat := k / s ^ (l - 1 - i) % s
def digG (s l k j i : Nat) : Nat := if l ≤ i + j then digF s l k i else 0
def ArgCh (s l : Nat) (k : Nat) (A B : World) (args : Array Value) : Prop := ∃ bn, args = #[.int .i64 (k : Int), .slice (some ⟨bn, 0, none⟩) l l] ∧ A.heap.size ≤ bn ∧ Blk B bn (numC l (digF s l k))
def CapK (bs bl s l : Nat) (W : World) : Prop := Blk W bs #[.int .i64 (s : Int)] ∧ Blk W bl #[.int .i64 (l : Int)]
end Go.Sw.Rw

namespace Go.Sw.Rw
open Go Go.RowKit
variable {P : Program}
def blks (L : Own) : List Nat := L.filterMap (fun x => x.map Prod.fst)
theorem mem_blks {L : Own} {b : Nat} : b ∈ blks L ↔ ∃ (k : Nat) (cs : Array Value), L[k]? = some (some (b, cs)) := by
  unfold blks
  rw [List.mem_filterMap]
  constructor
  · rintro ⟨x, hx, e⟩
    cases x with
    | none => cases e
    | some y =>
      obtain ⟨k, hk⟩ := List.mem_iff_getElem?.1 hx;obtain rfl := Option.some.inj e;exact ⟨k, y.2, hk⟩
  · rintro ⟨k, cs, hk⟩
    exact ⟨some (b, cs), List.mem_iff_getElem?.2 ⟨k, hk⟩, rfl⟩
theorem keeps {w0 w w' : World} {L L' : Own} {D D' : Froz} (h : Mem w0 w L D) (h2 : MemX (blks L) w w' L' D') : KeepsNC w w' :=
  keepsNC_of h2.bel fun b hb => by
    obtain ⟨k, cs, hk⟩ := mem_blks.1 hb
    exact ⟨cs, (h.blk k b cs hk).2⟩
end Go.Sw.Rw
namespace Go.Sw.Rw
def orgF (ord d : Nat → Nat) : Nat → Nat → Nat
  | 0, _ => 0
  | j + 1, c => if c = ord j then d j else orgF ord d j c
def plF (s : Nat) (g : Nat → Nat) : Nat → Nat
  | 0 => 0
  | j + 1 => plF s g j * s + g j
def pmF (s l : Nat) (ord f : Nat → Nat) (k : Nat) : Nat := f (plF s (orgF ord (digF s l k) l) l)
end Go.Sw.Rw

namespace Go.Sw.Rw
open Go Go.RowKit
variable {P : Program}
/-! ### A range over a function whose iterator ranges over a function itself -/
def KeepG (s : Nat) (B W : World) : Prop := B.heap.size ≤ W.heap.size ∧ ∀ q, s ≤ q → q < B.heap.size → W.heap[q]? = B.heap[q]?
theorem KeepG.trans {s : Nat} {A B C : World} (h1 : KeepG s A B) (h2 : KeepG s B C) : KeepG s A C := ⟨Nat.le_trans h1.1 h2.1, fun q hq hl => (h2.2 q hq (Nat.lt_of_lt_of_le hl h1.1)).trans (h1.2 q hq hl)⟩
theorem KeepG.put {s l : Nat} {A B : World} (h : KeepG s A B) {o : Obj} (hl : l < s ∨ A.heap.size ≤ l) : KeepG s A (B.putObj l o) := ⟨by simpa using h.1, fun q hq hlt => (World.putObj_heap_other (by omega)).trans (h.2 q hq hlt)⟩
theorem KeepG.blk {s b : Nat} {A B : World} {cs : Array Value} (h : KeepG s A B) (hb : Blk A b cs) (hs : s ≤ b) : Blk B b cs := by
  obtain ⟨t, ht⟩ := hb;exact ⟨t, (h.2 b hs (Array.getElem?_eq_some_iff.1 ht).1).trans ht⟩
theorem KeepG.mono {s s' : Nat} {A B : World} (h : KeepG s A B) (hs : s ≤ s') : KeepG s' A B := ⟨h.1, fun q hq hl => h.2 q (by omega) hl⟩
def IterM (P : Program) (gf : Nat) (cap : Array Value) (N : Nat) (arg : Nat → World → World → Array Value → Prop) (K : World → Prop) : Prop :=
  ∀ (l : Nat) (J : Nat → World → Prop) (Jx : World → Prop) (W : World),
    (∀ k A B, J k A → Ext A B → J k B) → (∀ k A, J k A → K A) →
    (∀ k A q o o', W.heap.size ≤ q → J k A → A.heap[q]? = some o → (∀ cs t, o ≠ .cells cs t) → J k (A.putObj q o')) →
    (∀ A q o o', W.heap.size ≤ q → Jx A → A.heap[q]? = some o → (∀ cs t, o ≠ .cells cs t) → Jx (A.putObj q o')) →
    (∀ k A B args, k < N → J k A → Ext A B → arg k A B args → YieldAt Fence.wide 0 P l args B (fun e W' => KeepG W.heap.size B W' ∧ ((e = .returned (.bool true) ∧ J (k + 1) W') ∨ (e = .returned (.bool false) ∧ Jx W')))) →
    J 0 W → CallsIn Fence.wide 0 P gf (#[.func (.yield l) #[] #[]] ++ cap) W (fun e W' => (∃ v, e = .returned v) ∧ (J N W' ∨ Jx W'))
/-! ### Code in a round that calls the yield of a caller -/
section
variable {ops : Array Oper} {Q : Exit → Act → World → Prop} {rest : List Oper} {n L : Nat} {F : List (Nat × Value)} {a : Act} {w : World} {t : TypeId} {pos : String} {af : Array Edge}
end
def ArgO (_ : Nat) (_ _ : World) (args : Array Value) : Prop := ∃ v, args = #[v]
/-! ### A function without results that ends with a range over a function -/
section
variable {fn : Func} {a : Act} {w : World}
end
end Go.Sw.Rw

namespace Go.Sw
open Go Go.RowKit
/-! ### Maps that are told by digits, and how many of them keep products -/
def digL (m k i : Nat) : Nat := k / m ^ i % m
def homP (n : Nat) (M M2 : Nat → Nat → Nat) (d : Nat → Nat) : Prop := ∀ i, i < n → ∀ j, j < n → d (M i j) = M2 (d i) (d j)
def homB (n : Nat) (M M2 : Nat → Nat → Nat) (d : Nat → Nat) : Bool := (List.range n).all fun i => (List.range n).all fun j => d (M i j) == M2 (d i) (d j)
def hmF (n m : Nat) (M M2 : Nat → Nat → Nat) (k : Nat) : Nat := cnt (fun x => homB n M M2 (Rw.digF m n x)) k
def hmL (n m : Nat) (M M2 : Nat → Nat → Nat) (k : Nat) : Nat := cnt (fun x => homB n M M2 (digL m x)) k
end Go.Sw
