/- Plain lemmas of a small calculus for walks over frames and own memory; no statement of the seat is proved here. -/
import Derived.Test.YtlpccepifehilaaSw93
import Derived.Test.YtlpccepifehilaaSw88
import Derived.Test.YtlpccepifehilaaSw3
import Derived.Test.YtlpccepifehilaaSw85
import Derived.Test.YtlpccepifehilaaEch6
import Derived.Test.YtlpccepifehilaaSw14
import Derived.Test.YtlpccepifehilaaSw38
import Derived.JoinedOf
import Derived.KernelRfl
set_option linter.unusedVariables false
set_option linter.unusedSimpArgs false
namespace Go.Sw.Rw
open Go Go.RowKit
variable {P : Program}
theorem round2 {n p q : Nat} {a : Act} {F : List (Nat × Value)} {u v : Value} (hF : Fr n a F) (hp : Nat.blt p n = true) (hq : Nat.blt q n = true) : Fr n { tmps := roundTmps #[p, q] #[u, v] a.tmps, defers := [] } ((q, v) :: (p, u) :: F) := by
  have h := (hF.put p u hp).put q v hq;have e : roundTmps #[p, q] #[u, v] a.tmps = ((a.put (some p) u).put (some q) v).tmps := by simp [roundTmps, Act.put]
  rw [e];exact ⟨rfl, h.size, h.get⟩
theorem args_inj {x y b c l : Nat} (h : (#[.int .i64 (x : Int), .slice (some ⟨b, 0, none⟩) l l] : Array Value) = #[.int .i64 (y : Int), .slice (some ⟨c, 0, none⟩) l l]) : x = y ∧ b = c := by
  simp only [Array.mk.injEq, List.cons.injEq, Value.int.injEq, true_and, Value.slice.injEq, Option.some.injEq, Addr.mk.injEq, and_true] at h;exact ⟨by have := h.1; omega, h.2⟩
def blks (L : Own) : List Nat := L.filterMap (fun x => x.map Prod.fst)
theorem mem_blks {L : Own} {b : Nat} : b ∈ blks L ↔ ∃ (k : Nat) (cs : Array Value), L[k]? = some (some (b, cs)) := by
  unfold blks
  rw [List.mem_filterMap]
  constructor
  · rintro ⟨x, hx, e⟩
    cases x with
    | none => cases e
    | some y =>
      obtain ⟨k, hk⟩ := List.mem_iff_getElem?.1 hx;obtain rfl := Option.some.inj e;exact ⟨k, y.2, hk⟩
  · rintro ⟨k, cs, hk⟩
    exact ⟨some (b, cs), List.mem_iff_getElem?.2 ⟨k, hk⟩, rfl⟩
theorem rebase {w0 w : World} {L : Own} {D : Froz} (h : Mem w0 w L D) : MemX (blks L) w w L D :=
  ⟨ExtX.refl _ w, fun k b cs hk => ⟨.inr (mem_blks.2 ⟨k, cs, hk⟩), (h.blk k b cs hk).2⟩, h.apart, h.froz⟩
theorem unbase {w0 w w' : World} {L L' : Own} {D D' : Froz} (h : Mem w0 w L D) (h2 : MemX (blks L) w w' L' D') (hD : ∀ x, x ∈ D → x ∈ D') : Mem w0 w' L' D := by
  have hge : ∀ b, b ∈ blks L → w0.heap.size ≤ b := fun b hb => by
    obtain ⟨k, cs, hk⟩ := mem_blks.1 hb;exact (h.blk k b cs hk).1.resolve_right (by simp)
  refine ⟨⟨h2.bel.os.trans h.bel.os, h2.bel.tape.trans h.bel.tape, h2.bel.output.trans h.bel.output, Nat.le_trans h.bel.size h2.bel.size, fun k hk hX => ?_⟩, fun k b cs hk => ⟨.inl ?_, (h2.blk k b cs hk).2⟩, h2.apart, fun b cs hm => h2.froz b cs (hD _ hm)⟩
  · exact (h2.bel.block k (Nat.lt_of_lt_of_le hk h.bel.size) (fun q => by have := hge k q; omega)).trans (h.bel.block k hk hX)
  · rcases (h2.blk k b cs hk).1 with q | q
    · exact Nat.le_trans h.bel.size q
    · exact hge b q
theorem keeps {w0 w w' : World} {L L' : Own} {D D' : Froz} (h : Mem w0 w L D) (h2 : MemX (blks L) w w' L' D') : KeepsNC w w' :=
  keepsNC_of h2.bel fun b hb => by
    obtain ⟨k, cs, hk⟩ := mem_blks.1 hb
    exact ⟨cs, (h.blk k b cs hk).2⟩
theorem addD_mark {n D : Nat} {a : Act} {F : List (Nat × Value)} (hF : Fr n a F) : ({ a with defers := [{ target := .collected D, args := #[] }] } : Act) = addD [mark D] a := by
  unfold addD; rw [hF.defers]; rfl
end Go.Sw.Rw
namespace Go.Sw.Rw
def orgF (ord d : Nat → Nat) : Nat → Nat → Nat
  | 0, _ => 0
  | j + 1, c => if c = ord j then d j else orgF ord d j c
def plF (s : Nat) (g : Nat → Nat) : Nat → Nat
  | 0 => 0
  | j + 1 => plF s g j * s + g j
theorem orgF_lt {ord d : Nat → Nat} {s : Nat} (hs : 0 < s) (h : ∀ j, d j < s) : ∀ j c, orgF ord d j c < s
  | 0, _ => hs
  | j + 1, c => by
    unfold orgF
    split
    · exact h j
    · exact orgF_lt hs h j c
theorem plF_lt {s : Nat} {g : Nat → Nat} (h : ∀ c, g c < s) : ∀ j, plF s g j < s ^ j
  | 0 => by unfold plF; exact Nat.lt_of_lt_of_le Nat.zero_lt_one (Nat.le_refl _)
  | j + 1 => by
    have ih := plF_lt h j
    have hg := h j
    unfold plF
    rw [Nat.pow_succ]
    have : (plF s g j + 1) * s ≤ s ^ j * s := Nat.mul_le_mul_right s ih
    rw [Nat.add_mul, Nat.one_mul] at this
    omega
def pmF (s l : Nat) (ord f : Nat → Nat) (k : Nat) : Nat := f (plF s (orgF ord (digF s l k) l) l)
end Go.Sw.Rw

namespace Go.Sw
open Go Go.RowKit
/-! ### Rows of whole numbers, sorted -/
def rowJ (cs : Array Value) (N : Nat) (D : Nat → Int) : Array Value := fnC cs.size (fun c => if c < N then .int .i64 (D c) else (cs[c]?).getD undef)
def putJ (D : Nat → Int) (j : Nat) (x : Int) (i : Nat) : Int := if i = j then x else D i
section
variable {cs : Array Value} {N : Nat} {D D' : Nat → Int}
theorem rowJ_size : (rowJ cs N D).size = cs.size := fnC_size _ _
theorem rowJ_of {u : Value} {e : Option (Nat × Array Value)} {b cap : Nat} (h : SlAt 1 u e N b cap cs (fun c => .int .i64 (D c))) : cs = rowJ cs N D :=
  fnC_ext rfl fun i hi => by
    by_cases e : i < N
    · rw [if_pos e]; exact h.get i (by omega)
    · rw [if_neg e, Array.getElem?_eq_getElem hi]; rfl
theorem rowJ_get (hN : N ≤ cs.size) {o : Nat} (c : Nat) (ho : o = c) (hc : c < N) : (rowJ cs N D)[o]? = some (.int .i64 (D c)) := by
  subst ho; unfold rowJ; rw [fnC_get (by omega), if_pos hc]
theorem rowJ_put (_hN : N ≤ cs.size) {o : Nat} {x : Int} (j : Nat) (ho : o = j) (hj : j < N) : (rowJ cs N D).setIfInBounds o (.int .i64 x) = rowJ cs N (putJ D j x) := by
  subst ho
  unfold rowJ
  refine fnC_set fun c hc => ?_
  unfold putJ
  by_cases e : c = o
  · subst e; rw [if_pos hj, if_pos rfl, if_pos rfl]
  · rw [if_neg e, if_neg e]
end
/-! ### Sorting by exchanges: what stays -/
def SameSetJ (N : Nat) (D E : Nat → Int) : Prop := ∀ x : Int, (∃ k, k < N ∧ D k = x) ↔ ∃ k, k < N ∧ E k = x
theorem SameSetJ.rfl' {N : Nat} {D : Nat → Int} : SameSetJ N D D := fun _ => Iff.rfl
theorem SameSetJ.swap {N : Nat} {D E : Nat → Int} (h : SameSetJ N D E) {i j : Nat} (hi : i < N) (hj : j < N) : SameSetJ N (putJ (putJ D j (D i)) i (D j)) E := fun x => by
  rw [← h x]
  have key : ∀ k, putJ (putJ D j (D i)) i (D j) k = if k = i then D j else if k = j then D i else D k := fun k => rfl
  constructor
  · rintro ⟨k, hk, e⟩
    rw [key] at e
    by_cases e1 : k = i
    · rw [if_pos e1] at e; exact ⟨j, hj, e⟩
    · rw [if_neg e1] at e
      by_cases e2 : k = j
      · rw [if_pos e2] at e; exact ⟨i, hi, e⟩
      · rw [if_neg e2] at e; exact ⟨k, hk, e⟩
  · rintro ⟨k, hk, e⟩
    by_cases e1 : k = i
    · subst e1
      by_cases e2 : k = j
      · subst e2; exact ⟨k, hk, by rw [key, if_pos rfl]; exact e⟩
      · exact ⟨j, hj, by rw [key, if_neg (fun q => e2 q.symm), if_pos rfl]; exact e⟩
    · by_cases e2 : k = j
      · subst e2; exact ⟨i, hi, by rw [key, if_pos rfl]; exact e⟩
      · exact ⟨k, hk, by rw [key, if_neg e1, if_neg e2]; exact e⟩
def AscJ (m : Nat) (D : Nat → Int) : Prop := ∀ a b, a < b → b < m → D a ≤ D b
def AscButJ (m j : Nat) (D : Nat → Int) : Prop := (∀ a b, a < b → b < m → a ≠ j → b ≠ j → D a ≤ D b) ∧ ∀ b, j < b → b < m → D j ≤ D b
theorem AscButJ.start {m : Nat} {D : Nat → Int} (h : AscJ m D) : AscButJ (m + 1) m D := ⟨fun a b h1 h2 _ h4 => h a b h1 (by omega), fun b h1 h2 => absurd h2 (by omega)⟩
theorem AscButJ.done {m j : Nat} {D : Nat → Int} (h : AscButJ m j D) (hj : j = 0 ∨ D (j - 1) ≤ D j) : AscJ m D := fun a b h1 h2 => by
  by_cases e1 : a = j
  · subst e1; exact h.2 b h1 h2
  · by_cases e2 : b = j
    · subst e2
      rcases hj with e | hj
      · omega
      · by_cases e3 : a = b - 1
        · subst e3; exact hj
        · exact Int.le_trans (h.1 a (b - 1) (by omega) (by omega) e1 (by omega)) hj
    · exact h.1 a b h1 h2 e1 e2
theorem AscButJ.step {m j : Nat} {D : Nat → Int} (h : AscButJ m j D) (hj0 : 0 < j) (hjm : j < m) (hlt : D j < D (j - 1)) : AscButJ m (j - 1) (putJ (putJ D j (D (j - 1))) (j - 1) (D j)) := by
  have key : ∀ k, putJ (putJ D j (D (j - 1))) (j - 1) (D j) k = if k = j - 1 then D j else if k = j then D (j - 1) else D k := fun k => rfl;refine ⟨fun a b h1 h2 h3 h4 => ?_, fun b h1 h2 => ?_⟩
  · rw [key, key, if_neg h3, if_neg h4]
    by_cases e1 : a = j
    · rw [if_pos e1, if_neg (by omega)]; exact h.1 (j - 1) b (by omega) h2 (by omega) (by omega)
    · rw [if_neg e1]
      by_cases e2 : b = j
      · rw [if_pos e2]; exact h.1 a (j - 1) (by omega) (by omega) e1 (by omega)
      · rw [if_neg e2]; exact h.1 a b h1 h2 e1 e2
  · rw [key, key, if_pos rfl, if_neg (by omega)]
    by_cases e2 : b = j
    · rw [if_pos e2]; omega
    · rw [if_neg e2]; exact h.2 b (by omega) h2
end Go.Sw

namespace Go.Sw.Rw
open Go Go.RowKit
variable {P : Program}
/-! ### A range over a function whose iterator ranges over a function itself -/
def KeepG (s : Nat) (B W : World) : Prop := B.heap.size ≤ W.heap.size ∧ ∀ q, s ≤ q → q < B.heap.size → W.heap[q]? = B.heap[q]?
theorem KeepG.trans {s : Nat} {A B C : World} (h1 : KeepG s A B) (h2 : KeepG s B C) : KeepG s A C := ⟨Nat.le_trans h1.1 h2.1, fun q hq hl => (h2.2 q hq (Nat.lt_of_lt_of_le hl h1.1)).trans (h1.2 q hq hl)⟩
theorem KeepG.put {s l : Nat} {A B : World} (h : KeepG s A B) {o : Obj} (hl : l < s ∨ A.heap.size ≤ l) : KeepG s A (B.putObj l o) := ⟨by simpa using h.1, fun q hq hlt => (World.putObj_heap_other (by omega)).trans (h.2 q hq hlt)⟩
theorem KeepG.blk {s b : Nat} {A B : World} {cs : Array Value} (h : KeepG s A B) (hb : Blk A b cs) (hs : s ≤ b) : Blk B b cs := by
  obtain ⟨t, ht⟩ := hb;exact ⟨t, (h.2 b hs (Array.getElem?_eq_some_iff.1 ht).1).trans ht⟩
theorem KeepG.mono {s s' : Nat} {A B : World} (h : KeepG s A B) (hs : s ≤ s') : KeepG s' A B := ⟨h.1, fun q hq hl => h.2 q (by omega) hl⟩
def IterM (P : Program) (gf : Nat) (cap : Array Value) (N : Nat) (arg : Nat → World → World → Array Value → Prop) (K : World → Prop) : Prop :=
  ∀ (l : Nat) (J : Nat → World → Prop) (Jx : World → Prop) (W : World),
    (∀ k A B, J k A → Ext A B → J k B) → (∀ k A, J k A → K A) →
    (∀ k A q o o', W.heap.size ≤ q → J k A → A.heap[q]? = some o → (∀ cs t, o ≠ .cells cs t) → J k (A.putObj q o')) →
    (∀ A q o o', W.heap.size ≤ q → Jx A → A.heap[q]? = some o → (∀ cs t, o ≠ .cells cs t) → Jx (A.putObj q o')) →
    (∀ k A B args, k < N → J k A → Ext A B → arg k A B args → YieldAt Fence.wide 0 P l args B (fun e W' => KeepG W.heap.size B W' ∧ ((e = .returned (.bool true) ∧ J (k + 1) W') ∨ (e = .returned (.bool false) ∧ Jx W')))) →
    J 0 W → CallsIn Fence.wide 0 P gf (#[.func (.yield l) #[] #[]] ++ cap) W (fun e W' => (∃ v, e = .returned v) ∧ (J N W' ∨ Jx W'))
/-! ### Code in a round that calls the yield of a caller -/
section
variable {ops : Array Oper} {Q : Exit → Act → World → Prop} {rest : List Oper} {n L : Nat} {F : List (Nat × Value)} {a : Act} {w : World} {t : TypeId} {pos : String} {af : Array Edge}
end
theorem round1 {n p : Nat} {a : Act} {F : List (Nat × Value)} {u : Value} (hF : Fr n a F) (hp : Nat.blt p n = true) : Fr n { tmps := roundTmps #[p] #[u] a.tmps, defers := [] } ((p, u) :: F) := by
  have h := hF.put p u hp;have e : roundTmps #[p] #[u] a.tmps = (a.put (some p) u).tmps := by simp [roundTmps, Act.put]
  rw [e];exact ⟨rfl, h.size, h.get⟩
def ArgO (_ : Nat) (_ _ : World) (args : Array Value) : Prop := ∃ v, args = #[v]
/-! ### A function without results that ends with a range over a function -/
section
variable {fn : Func} {a : Act} {w : World}
end
end Go.Sw.Rw

namespace Go.Sw
open Go Go.RowKit
/-! ### Maps that are told by digits, and how many of them keep products -/
def digL (m k i : Nat) : Nat := k / m ^ i % m
theorem cnt_erase {S : Nat → Bool} {y : Nat} : ∀ {N : Nat}, y < N → S y = true → cnt (fun x => S x && decide (x ≠ y)) N + 1 = cnt S N
  | 0, h, _ => absurd h (by omega)
  | N + 1, h, hS => by
    by_cases e : y = N
    · subst e
      rw [cnt_yes hS, cnt_no (by simp)]
      congr 1
      exact cnt_congr fun x hx => by rw [decide_eq_true (show x ≠ y by omega), Bool.and_true]
    · have ih := cnt_erase (S := S) (y := y) (N := N) (by omega) hS
      have e2 : (S N && decide (N ≠ y)) = S N := by rw [decide_eq_true (show N ≠ y by omega), Bool.and_true]
      by_cases q : S N = true
      · rw [cnt_yes (S := fun x => S x && decide (x ≠ y)) (i := N) (by show (S N && decide (N ≠ y)) = true; rw [e2]; exact q), cnt_yes q, ← ih]
      · rw [cnt_no (S := fun x => S x && decide (x ≠ y)) (i := N) (by show ¬ (S N && decide (N ≠ y)) = true; rw [e2]; exact q), cnt_no q, ← ih]
theorem cnt_map_le {π : Nat → Nat} {N : Nat} : ∀ {n : Nat} {S : Nat → Bool}, (∀ x, x < n → π x < N) → (∀ x y, x < n → y < n → π x = π y → x = y) → cnt (fun x => S (π x)) n ≤ cnt S N
  | 0, S, _, _ => Nat.zero_le _
  | n + 1, S, h1, h2 => by
    by_cases q : S (π n) = true
    · have ih := cnt_map_le (π := π) (N := N) (n := n) (S := fun x => S x && decide (x ≠ π n)) (fun x hx => h1 x (by omega)) (fun x y hx hy => h2 x y (by omega) (by omega))
      have e := cnt_erase (h1 n (by omega)) q
      have e2 : cnt (fun x => S (π x)) n = cnt (fun x => S (π x) && decide (π x ≠ π n)) n := cnt_congr fun x hx => by
        rw [decide_eq_true (show π x ≠ π n from fun z => by have := h2 x n (by omega) (by omega) z; omega), Bool.and_true]
      rw [cnt_yes (S := fun x => S (π x)) q, e2]
      omega
    · rw [cnt_no (S := fun x => S (π x)) q]
      exact cnt_map_le (fun x hx => h1 x (by omega)) (fun x y hx hy => h2 x y (by omega) (by omega))
def homP (n : Nat) (M M2 : Nat → Nat → Nat) (d : Nat → Nat) : Prop := ∀ i, i < n → ∀ j, j < n → d (M i j) = M2 (d i) (d j)
def homB (n : Nat) (M M2 : Nat → Nat → Nat) (d : Nat → Nat) : Bool := (List.range n).all fun i => (List.range n).all fun j => d (M i j) == M2 (d i) (d j)
def hmF (n m : Nat) (M M2 : Nat → Nat → Nat) (k : Nat) : Nat := cnt (fun x => homB n M M2 (Rw.digF m n x)) k
def hmL (n m : Nat) (M M2 : Nat → Nat → Nat) (k : Nat) : Nat := cnt (fun x => homB n M M2 (digL m x)) k
end Go.Sw

namespace Go.Sw
open Go Go.RowKit
/-! ### Lists of the numbers 0 .. m - 1, each once -/
def LegP (m : Nat) (F : Nat → Int) : Prop := (∀ i, i < m → 0 ≤ F i ∧ F i < m) ∧ ∀ i j, i < j → j < m → F i ≠ F j
def CovP (m : Nat) (F : Nat → Int) : Prop := ∀ x : Nat, x < m → ∃ k, k < m ∧ F k = (x : Int)
theorem cnt_all {n : Nat} {S : Nat → Bool} (h : ∀ x, x < n → S x = true) : cnt S n = n := by
  induction n with
  | zero => rfl
  | succ n ih => rw [cnt_yes (h n (by omega)), ih (fun x hx => h x (by omega))]
theorem inj_surj {m : Nat} {f : Nat → Nat} (h1 : ∀ x, x < m → f x < m) (h2 : ∀ x y, x < m → y < m → f x = f y → x = y) {y : Nat} (hy : y < m) : ∃ x, x < m ∧ f x = y := by
  refine Classical.byContradiction fun hn => ?_;have a := cnt_map_le (S := fun x => decide (x ≠ y)) h1 h2;have b := cnt_erase (S := fun _ => true) hy rfl;rw [cnt_all (S := fun _ => true) (fun _ _ => rfl)] at b;rw [cnt_all (S := fun x => decide (f x ≠ y)) (fun x hx => decide_eq_true fun e => hn ⟨x, hx, e⟩)] at a;have c : cnt (fun x => true && decide (x ≠ y)) m = cnt (fun x => decide (x ≠ y)) m := cnt_congr fun x _ => by rw [Bool.true_and]
  omega
theorem LegP.cov {m : Nat} {F : Nat → Int} (h : LegP m F) : CovP m F := fun x hx => by
  obtain ⟨k, hk, e⟩ := inj_surj (m := m) (f := fun i => (F i).toNat) (fun i hi => by have := h.1 i hi; show (F i).toNat < m; omega) (fun i j hi hj e => by
    have a := h.1 i hi
    have b := h.1 j hj
    have e : (F i).toNat = (F j).toNat := e
    rcases Nat.lt_trichotomy i j with q | q | q
    · exact absurd (show F i = F j by omega) (h.2 i j q hj)
    · exact q
    · exact absurd (show F j = F i by omega) (h.2 j i q hi)) hx
  have e : (F k).toNat = x := e
  have := h.1 k hk
  exact ⟨k, hk, by omega⟩
theorem CovP.leg {m : Nat} {F : Nat → Int} (h : CovP m F) : LegP m F := by
  obtain ⟨G, hG⟩ : ∃ G : Nat → Nat, ∀ x, x < m → G x < m ∧ F (G x) = (x : Int) := by
    refine ⟨fun x => if hx : x < m then Classical.choose (h x hx) else 0, fun x hx => ?_⟩
    show (if hx : x < m then Classical.choose (h x hx) else 0) < m ∧ F (if hx : x < m then Classical.choose (h x hx) else 0) = _
    rw [dif_pos hx];exact Classical.choose_spec (h x hx)
  have hs : ∀ i, i < m → ∃ x, x < m ∧ G x = i := fun i hi => inj_surj (fun x hx => (hG x hx).1) (fun x y hx hy e => by
    have a := (hG x hx).2;have b := (hG y hy).2;rw [e] at a
    omega) hi
  refine ⟨fun i hi => ?_, fun i j hij hj e => ?_⟩
  · obtain ⟨x, hx, rfl⟩ := hs i hi
    rw [(hG x hx).2]; omega
  · obtain ⟨x, hx, rfl⟩ := hs i (by omega)
    obtain ⟨y, hy, rfl⟩ := hs j hj;rw [(hG x hx).2, (hG y hy).2] at e;have : x = y := by omega
    subst this
    omega
theorem CovP.same {m : Nat} {D F : Nat → Int} (hs : SameSetJ m D F) : CovP m D ↔ CovP m F :=
  ⟨fun h x hx => (hs x).1 (h x hx), fun h x hx => (hs x).2 (h x hx)⟩
theorem asc_cov {m : Nat} {D : Nat → Int} (ha : AscJ m D) (hc : CovP m D) : ∀ i, i < m → D i = (i : Int) := by
  have up : ∀ x : Nat, x < m → ∀ k, k < m → D k = (x : Int) → x ≤ k := by
    intro x
    induction x with
    | zero => intro _ k _ _; omega
    | succ x ih =>
      intro hx k hk e;obtain ⟨k2, hk2, e2⟩ := hc x (by omega);have h1 := ih (by omega) k2 hk2 e2
      rcases Nat.lt_or_ge k2 k with q | q
      · omega
      · exfalso
        rcases Nat.lt_or_eq_of_le q with r | r
        · have := ha k k2 r hk2; omega
        · subst r; omega
  have down : ∀ d x : Nat, x + d + 1 = m → ∀ k, k < m → D k = (x : Int) → k ≤ x := by
    intro d
    induction d with
    | zero => intro x hx k hk e; omega
    | succ d ih =>
      intro x hx k hk e;obtain ⟨k2, hk2, e2⟩ := hc (x + 1) (by omega);have h1 := ih (x + 1) (by omega) k2 hk2 e2
      rcases Nat.lt_or_ge k k2 with q | q
      · omega
      · exfalso
        rcases Nat.lt_or_eq_of_le q with r | r
        · have := ha k2 k r hk; omega
        · subst r; omega
  intro i hi;obtain ⟨k, hk, e⟩ := hc i hi;have h1 := up i hi k hk e;have h2 := down (m - 1 - i) i (by omega) k hk e;rw [← show k = i by omega, e]
  omega
theorem leg_sorted {m : Nat} {D F : Nat → Int} (ha : AscJ m D) (hs : SameSetJ m D F) : (∀ i, i < m → D i = (i : Int)) ↔ LegP m F :=
  ⟨fun h => ((CovP.same hs).1 fun x hx => ⟨x, hx, h x hx⟩).leg, fun h => asc_cov ha ((CovP.same hs).2 h.cov)⟩
end Go.Sw
namespace Go.Sw.Rw
open Go Go.RowKit
def ArgE (F : Nat → Int) (k : Nat) (_ _ : World) (args : Array Value) : Prop := args = #[.int .i64 (F k)]
def CapS (bx b m : Nat) (F : Nat → Int) (W : World) : Prop := Blk W bx #[.slice (some ⟨b, 0, none⟩) m m] ∧ Blk W b (numI m F)
def OutJ (w w' : World) (m : Nat) (F : Nat → Int) (v : Value) : Prop := ∃ b cap cs D, v = .slice (some ⟨b, 0, none⟩) m cap ∧ w.heap.size ≤ b ∧ m ≤ cs.size ∧ Blk w' b (rowJ cs m D) ∧ AscJ m D ∧ SameSetJ m D F
end Go.Sw.Rw

namespace Go.Sw
open Go Go.RowKit
variable {P : Program}
/-! ### Appending what may be nothing. -/
theorem run_append0 {X : List Nat} {w0 w : World} {L : Own} {D : Froz} {T e : TypeId} {z : Value} {size bytes n k bx ox cx b cap : Nat} {cs : Array Value} {v : Value} {ent : Option (Nat × Array Value)} {f : Nat → Value} (hT : slI P T = some (e, some z, size, bytes))
    (hM : MemX X w0 w L D) (hk : L[k]? = some ent) (hat : SlAt size v ent n b cap cs f) (ty : TypeId) :
    ∃ w', (Builtin.append_ #[T, T] ty #[v, .slice (some ⟨bx, ox, none⟩) 0 cx]).run P w = .ok v w' ∧ MemX X w0 w' (L.set k ent) D := by
  unfold slI at hT
  cases hu : P.underlying T with
  | none => simp [hu] at hT
  | some dd =>
    cases dd <;> simp [hu] at hT
    rename_i el
    obtain ⟨inf, hinf, rfl, hz0, hsz, hby⟩ := hT;subst hsz;obtain ⟨rfl, rfl, hle, hmax, hcsz, hget⟩ := hat;obtain ⟨tt, hgg⟩ := hM.row k hk;have hf := run_firstCells_some (P := P) (w := w) inf.size 0 ⟨bx, ox, none⟩ 0 cx [] (by simp) (by simp);have hfit : n * inf.size + ([] : List Value).length ≤ cs.size := by rw [hcsz]; simp; exact Nat.mul_le_mul_right _ hle
    have hst := run_storeCells_at P b (n * inf.size) tt [] 0 cs w hgg (by simpa using hfit) (by simp);simp only [Nat.add_zero] at hst;have e1 : splice cs (n * inf.size) #[] = cs := by unfold splice; simp
    have hr : (Builtin.append_ #[T, T] ty #[.slice (some ⟨b, 0, none⟩) n cap, .slice (some ⟨bx, ox, none⟩) 0 cx]).run P w = .ok (.slice (some ⟨b, 0, none⟩) n cap) (w.setRow b (splice cs (n * inf.size) #[])) := by
      simp [Builtin.append_, run_underlying hu, Go.sizeOf, typeInfo, hinf, Builtin.lenOf, hle, hf, Addr.add_lit, hst, splice]
    refine ⟨_, hr, ?_⟩;rw [e1];exact hM.setRow k hk cs
section
variable {ops : Array Oper} {Q : Exit → Act → World → Prop} {rest : List Oper} {n : Nat} {F : List (Nat × Value)} {a : Act} {X : List Nat} {w w0 : World} {L : Own} {D : Froz}
variable {d : Option Tmp} {t : TypeId} {pos : String} {af : Array Edge} {gd : Option (Nat × Bool)} {T : TypeId} {x y : Operand}
theorem d_appendA {e : TypeId} {z : Value} {size bytes N k m bx ox cx b cap : Nat} {cs : Array Value} {v : Value} {ent : Option (Nat × Array Value)} {f g : Nat → Value} (hT : slI P T = some (e, some z, size, bytes)) (hz : z.cells.size = size) (hs0 : 0 < size)
    (hM : MemX X w0 w L D) (hk : L[k]? = some ent) (hF : Fr n a F) (hx : look F x = some v) (hy : look F y = some (.slice (some ⟨bx, ox, none⟩) m cx)) (hv : SlAt size v ent N b cap cs f) (hg : ∀ i, i < m * size → w.cell? ⟨bx, ox + i, none⟩ = some (g i)) (h1 : ∀ i, i < m * size → (g i).oneCell' = true)
    (h63 : N + m ≤ maxLen) (hb : (N + m) * bytes ≤ 140737488355328) :
    Does P ⟨d, .call { callee := .builtin .append, args := #[x, y], argTypes := #[T, T] }, t, pos, af, gd⟩ a w (fun u w' => ∃ b' cap' cs', u = .slice (some ⟨b', 0, none⟩) (N + m) cap' ∧ MemX X w0 w' (L.set k (some (b', cs'))) D ∧ SlAt size u (some (b', cs')) (N + m) b' cap' cs' (fun i => if i < N * size then f i else g (i - N * size))) := by
  by_cases hm : 0 < m
  · refine (d_append hT hz hs0 hM hk hF hx hy (.inr ⟨_, _, _, hv⟩) hg h1 hm h63 hb).mono fun u w' ⟨e', h2, h3⟩ => ?_
    obtain ⟨b', cap', cs', hu, rfl, h4⟩ := h3.pos (by omega);exact ⟨b', cap', cs', hu, h2, h4⟩
  · obtain rfl : m = 0 := by omega
    refine ⟨fun K Q hK => ?_⟩;obtain ⟨w', hr, h2⟩ := run_append0 (P := P) (T := T) (bx := bx) (ox := ox) (cx := cx) hT hM hk hv t
    unfold Oper.wp execOp
    simp only [resolve, invoke, builtin, Sem.run_bind, Sem.run_pure, Result.andThen_ok, List.map_toArray, List.map_cons, List.map_nil, hF.eval hx, hF.eval hy];rw [hr];obtain ⟨h5, rfl, h6, h7, h8, h9⟩ := hv;exact hK v w' ⟨b, cap, cs, h5, h2, h5, rfl, h6, h7, h8, fun i hi => by rw [if_pos (by simpa using hi)]; exact h9 i (by simpa using hi)⟩
end
end Go.Sw

namespace Go.Sw
theorem wordsSigns_nb : ∀ (c : Char) (r : List Char), c ≠ ' ' → wordsSigns (c :: r) = match wordsSigns r with
    | w :: ws => (c :: w) :: ws
    | [] => [[c]] := by
  intro c r h;rw [wordsSigns.eq_def]
  split
  · simp_all
  · rename_i heq; simp at heq; exact absurd heq.1 h
  · rename_i heq; simp only [List.cons.injEq] at heq; obtain ⟨rfl, rfl⟩ := heq; rfl
theorem wordsSigns_word : ∀ (w r : List Char), (∀ c ∈ w, c ≠ ' ') → wordsSigns (w ++ ' ' :: r) = w :: wordsSigns r
  | [], r, _ => by simp [wordsSigns]
  | c :: w, r, h => by
    rw [List.cons_append, wordsSigns_nb c _ (h c (by simp)), wordsSigns_word w r (fun d hd => h d (by simp [hd]))]
theorem sum_nb (s : List Char) (h : isSumSigns s = true) : ∀ c ∈ s, c ≠ ' ' := by
  intro c hc he
  unfold isSumSigns at h
  simp only [Bool.and_eq_true, List.all_eq_true] at h;have := h.2 c hc;subst he
  revert this; decide
theorem cutHead (L s r : List Char) (h : L = "harness".toList ++ ' ' :: (s ++ ' ' :: ("cut".toList ++ ' ' :: r))) (hs : isSumSigns s = true) :
    behindMainWord (wordsSigns L) = "cut".toList :: wordsSigns r := by
  rw [h, wordsSigns_word _ _ (by decide), wordsSigns_word _ _ (sum_nb s hs), wordsSigns_word _ _ (by decide)];have : ("harness".toList == "harness".toList || "harness".toList == "ownmain".toList) = true := by decide
  unfold behindMainWord
  show (if (("harness".toList == "harness".toList || "harness".toList == "ownmain".toList) && isSumSigns s) = true then _ else _) = _
  rw [if_pos (by rw [this, hs]; rfl)]
theorem strip_cut (R : List (List Char)) : stripLifts liftWords ("cut".toList :: R) = ([], "cut".toList :: R) := by
  kernel_rfl
theorem lifts_cut (P : Program) (R : List (List Char)) (h : behindMainWord (wordsSigns P.initOrder.toList) = "cut".toList :: R) : P.headLifts = [] := by
  unfold Program.headLifts; rw [h, strip_cut]; rfl
theorem make_cut (P : Program) (R : List (List Char)) (h : behindMainWord (wordsSigns P.initOrder.toList) = "cut".toList :: R) : P.make = some .cut := by
  unfold Program.make; rw [h]
  have h1 : ("cut".toList == "gc".toList || "cut".toList == "spec".toList) = false := by decide
  have h2 : ("cut".toList == "cut".toList) = true := by decide
  simp only [h1, h2]; rfl
theorem final_cut (P : Program) (R : List (List Char)) (h : behindMainWord (wordsSigns P.initOrder.toList) = "cut".toList :: R) : P.liftsFinal = false := by
  unfold Program.liftsFinal; rw [lifts_cut P R h, h]; kernel_rfl
theorem enter_cut (P : Program) (R : List (List Char)) (h : behindMainWord (wordsSigns P.initOrder.toList) = "cut".toList :: R)
    (hl : P.laysLater = false) (hb : P.bearsReflect = false) (hd : P.doorFits [] = true) : P.mayEnter = true := by
  unfold Program.mayEnter; rw [h]
  simp only [strip_cut, hl, hb, hd]
  kernel_rfl
end Go.Sw
