/- Plain lemmas of a small calculus for walks over frames and own memory; no statement of the seat is proved here. -/
import Derived.Test.YtjfmachfdpmdcaaDoorSw69
import Derived.Test.YtjfmachfdpmdcaaDoorEch5
import Derived.Test.YtjfmachfdpmdcaaDoorSw37
import Derived.Test.YtjfmachfdpmdcaaDoorSw6
import Derived.Test.YtjfmachfdpmdcaaDoorSw46
import Derived.Test.YtjfmachfdpmdcaaDoorSw14
import Derived.Laws.StructEq
import Derived.StringKeys
set_option linter.unusedVariables false
set_option linter.unusedSimpArgs false
namespace Go.Sw
open Go Go.RowKit
/-! ### A region that draws its order, with one store, and calls that give new blocks to read -/
def factsK (kt : Nat) (l : List Fact) (nw : List Nat) (Q : Froz → Value → Prop) : Facts (Own × Froz) := fun i g u w => match memNat i nw with
  | true => ∃ DK, (∀ x, x ∈ DK → x ∈ g.2) ∧ Q DK u
  | false => factsG kt l i g.1 u w
def ParK (X : List Nat) (w0 : World) (D : Froz) (W : List Nat) (L0 : Own) (kt : Nat) (csO csN : Array Value) (bb : Bool) (g : Own × Froz) (w : World) : Prop := ParG X w0 (g.2 ++ D) W L0 kt csO csN bb g.1 w
section
variable {P : Program} {X : List Nat} {w0 w : World} {D : Froz} {W : List Nat} {L0 : Own} {kt : Nat} {csO csN : Array Value} {bb : Bool} {l : List Fact} {i : Nat} {o : Oper} {a : Act} {g : Own × Froz} {nw : List Nat} {Q : Froz → Value → Prop}
theorem factsK_up {L L' : Own} {E E' : Froz} {w' : World} {j : Nat} {u : Value} (hE : ∀ x, x ∈ E → x ∈ E') (h : factsG kt l j L u w → factsG kt l j L' u w') (hq : factsK kt l nw Q j (L, E) u w) : factsK kt l nw Q j (L', E') u w' := by
  unfold factsK at *
  cases e : memNat j nw with
  | true => rw [e] at hq; obtain ⟨DK, h1, h2⟩ := hq; exact ⟨DK, fun x hx => hE x (h1 x hx), h2⟩
  | false => rw [e] at hq; exact h hq
theorem pk_of (hn : memNat i nw = false) (hd : Does P o a w (AfterG (ParG X w0 (g.2 ++ D) W L0 kt csO csN) (factsG kt l) bb i g.1 w)) : Does P o a w (AfterG (ParK X w0 D W L0 kt csO csN) (factsK kt l nw Q) bb i g w) :=
  hd.mono fun u w' ⟨L', h1, h2, h3⟩ => ⟨(L', g.2), h1, by unfold factsK; rw [hn]; exact h2, fun j u hj h => factsK_up (fun _ hx => hx) (h3 j u hj) h⟩
theorem pk_ofS (hd : Does P o a w (fun _ w' => AfterS (ParG X w0 (g.2 ++ D) W L0 kt csO csN) (factsG kt l) true g.1 w w')) : Does P o a w (fun _ w' => AfterS (ParK X w0 D W L0 kt csO csN) (factsK kt l nw Q) true g w w') :=
  hd.mono fun u w' ⟨L', h1, h3⟩ => ⟨(L', g.2), h1, fun j u h => factsK_up (fun _ hx => hx) (h3 j u) h⟩
theorem pk_new (hn : memNat i nw = true) (hS : ParK X w0 D W L0 kt csO csN bb g w)
    (hg : Does P o a w (fun u w' => Ext w w' ∧ ∃ D', (∀ x ds, (x, ds) ∈ D' → w.heap.size ≤ x ∧ Blk w' x ds) ∧ Q D' u)) : Does P o a w (AfterG (ParK X w0 D W L0 kt csO csN) (factsK kt l nw Q) bb i g w) :=
  hg.mono fun u w' ⟨hx, D', hD, hq⟩ => by
    obtain ⟨L, E⟩ := g
    refine ⟨(L, D' ++ E), ⟨⟨?_, hS.1.2⟩, hS.2⟩, ?_, fun j u hj h => factsK_up (fun x hx => List.mem_append_right _ hx) (fun h => factsG_ext j u h) h⟩
    · have := hS.1.1.addD hx hD
      rw [← List.append_assoc] at this
      exact this
    · unfold factsK; rw [hn]; exact ⟨D', fun x hx => List.mem_append_left _ hx, hq⟩
theorem ParK.drew (h : ParK X w0 D W L0 kt csO csN bb g w) : ParK X w0 D W L0 kt csO csN bb g w.drew := ⟨⟨h.1.1.ext (Below.drew (Below.refl _ _)), h.1.2⟩, h.2⟩
end
end Go.Sw

namespace Go.Sw
open Go Go.RowKit
/-! ### A region that draws its order, with any number of operations that give new blocks to read -/
inductive FactN where
  | val (v : Value)
  | new (R : Froz → Value → Prop)
def factsN (l : List FactN) : Facts Froz := fun i g u _ => match l[i]? with
  | some (.val v) => u = v
  | some (.new R) => ∃ DK, (∀ x, x ∈ DK → x ∈ g) ∧ R DK u
  | none => True
def ParN (X : List Nat) (w0 : World) (D : Froz) (L : Own) (g : Froz) (w : World) : Prop := MemX X w0 w L (g ++ D)
section
variable {P : Program} {X : List Nat} {w0 w : World} {D : Froz} {L : Own} {l : List FactN} {i : Nat} {o : Oper} {a : Act} {g : Froz}
theorem ParN.mem (h : ParN X w0 D L g w) : MemX X w0 w L D := h.keep0
def NewV (w0 : World) (N : Nat) (f : Nat → Value) (DK : Froz) (u : Value) : Prop := ∃ b cap cs, (b, cs) ∈ DK ∧ w0.heap.size ≤ b ∧ SlAt 6 u (some (b, cs)) N b cap cs f
end
end Go.Sw

namespace Go.Sw
open Go Go.RowKit
variable {P : Program}
/-! ### Pairs of whole numbers as structs, and lists of them. -/
def monC (a b : Int) : Array Value := #[.int .i64 a, .int .i64 b]
def fs2Ok (fs : List Field) (t : TypeId) : Bool := match fs with
  | [f, g] => f.name != "_" && g.name != "_" && Nat.beq f.type t && Nat.beq g.type t && Nat.beq f.offset 0 && Nat.beq g.offset 1
  | _ => false
theorem q_un {n : Nat} {ops : List Oper} {G : Type} {S : G → World → Prop} {φ : Facts G} {o : Oper} {a : Act} {w : World} {i j dj : Nat} {c : Bool} {g : G} {F' : List (Nat × Value)} (hg : o.guard = some (j, c)) (hF : Fr n a F') (hj : (ops.toArray[j]?).bind (·.dst) = some dj) (hjn : Nat.blt dj n = true) (hb : lk F' dj = some undef) (h : After S φ i g w undef w) : if Region.wanted o (yielded ops.toArray a.tmps) = true then Does P o a w (After S φ i g w) else After S φ i g w undef w := by
  have h1 := hF.get dj _ hb;have hlt : dj < a.tmps.size := by rw [hF.size]; exact Nat.blt_eq.mp hjn
  have hy : yielded ops.toArray a.tmps j = none := by
    unfold yielded
    rw [hj]
    simp [Array.getD_eq_getD_getElem?, hlt] at h1
    simp [hlt, h1, undef]
  rw [if_neg (by simp [Region.wanted, hg, hy])]; exact h
end Go.Sw

/-! Calls that end in a panic with an error. -/
namespace Go.Sw
open Go Go.RowKit
variable {P : Program}
def pch (T : TypeId) (v : Value) : List PanicEntry := [{ v := .iface T v, recovered := false }]
def CallsP (P : Program) (f : FuncId) (args : Array Value) (w : World) (T : TypeId) (v : Value) : Prop :=
  Calls P f args w fun e w' => e = .panicked (pch T v) ∧ Ext w w'
section
variable {ops : Array Oper} {Q : Exit → Act → World → Prop} {rest : List Oper} {n : Nat} {F : List (Nat × Value)} {a : Act} {w : World} {d : Option Tmp} {t : TypeId} {pos : String} {af : Array Edge} {T : TypeId} {v : Value}
theorem calls_frP {fn : Func} {f : FuncId} {c : Code} {N : Nat} (vs : List Value) (hf : P.funcs[f]? = some fn) (hb : fn.body = some c) (hN : fn.ntmps = N) (hn : Nat.ble vs.length N = true)
    (h : ∀ a, Fr N a (argF vs 0) → c.wp P (bodyPost P fn (fun e w' => e = .panicked (pch T v) ∧ Ext w w')) a w) : CallsP P f vs.toArray w T v := by
  subst hN;exact calls_of_wp hf hb (h _ (frameA vs rfl hn))
theorem finP {fn : Func} {w0 : World} (hF : Fr n a F) (hx : Ext w0 w) : bodyPost P fn (fun e w' => e = .panicked (pch T v) ∧ Ext w0 w') (.panic (pch T v)) a w := ⟨hF.defers, rfl, hx⟩
theorem st_callP {f : FuncId} {xs : List Operand} {vs : List Value} {ats : Array TypeId} (hf : ∀ args w, (callFunc f args).run P w = .ok (.enter f args) w) (hF : Fr n a F) (hx : looks F xs vs) (hc : CallsP P f vs.toArray w T v)
    (h : ∀ w', Ext w w' → Q (.panic (pch T v)) a w') : wpList P ops Q (⟨d, .call { callee := .value (.func f), args := xs.toArray, argTypes := ats }, t, pos, af, none⟩ :: rest) a w :=
  wpList_plain rfl fun K hK => by
    have hrun : (execOp a.eval ⟨d, .call { callee := .value (.func f), args := xs.toArray, argTypes := ats }, t, pos, af, none⟩).run P w = .ok (.enter f vs.toArray) w := by
      have e : (xs.toArray.map a.eval) = vs.toArray := by rw [← hF.evals hx]; simp
      simp [execOp, resolve, Act.eval, Deferred.ofValue, invoke, e, hf]
    unfold Oper.wp
    rw [hrun]
    show Calls P f vs.toArray w _
    exact Calls.mono (show Calls P f vs.toArray w _ from hc) fun e w' ⟨he, h1⟩ => by subst he; exact h w' h1
end
end Go.Sw

namespace Go.Sw
open Go Go.RowKit
/-! ### Maps of the call's own with texts as keys -/
section
variable {P : Program} {n : Nat} {F : List (Nat × Value)} {a : Act} {w w0 : World} {d : Option Tmp} {t T kt et : TypeId} {pos : String} {af : Array Edge} {gd : Option (Nat × Bool)} {x y z : Operand} {X : List Nat} {L : Own} {D : Froz}
end
end Go.Sw
namespace Go.Sw
open Go Go.RowKit
section
variable {P : Program} {n : Nat} {F : List (Nat × Value)} {a : Act} {w : World} {d : Option Tmp} {t T T' : TypeId} {pos : String} {af : Array Edge} {gd : Option (Nat × Bool)} {x y : Operand} {k : IntKind} {A B C : Int}
end
end Go.Sw

namespace Go.Sw
open Go Go.RowKit
/-! ### Maps of the call's own with arrays as keys; a function value with two captures -/
section
variable {P : Program} {n : Nat} {F : List (Nat × Value)} {a : Act} {w w0 : World} {d : Option Tmp} {t T kt et : TypeId} {pos : String} {af : Array Edge} {gd : Option (Nat × Bool)} {x y z : Operand} {X : List Nat} {L : Own} {D : Froz}
end
theorem IsMap.setRow {w : World} {b q : Nat} {cs cs' : Array Value} {es : Array MapEntry} {c : Nat} (h : IsMap w q es c) (hb : Blk w b cs) : IsMap (w.setRow b cs') q es c := by
  have hne : q ≠ b := fun e => by
    obtain ⟨t, ht⟩ := hb
    unfold IsMap at h
    rw [e, ht] at h; cases h
  unfold IsMap
  rw [setRow_other w b q cs' hne]; exact h
section
variable {P : Program} {n : Nat} {F : List (Nat × Value)} {a : Act} {w w0 : World} {d : Option Tmp} {t T : TypeId} {pos : String} {af : Array Edge} {gd : Option (Nat × Bool)} {x y : Operand} {X : List Nat} {L : Own} {D : Froz}
end
end Go.Sw

namespace Go.Ech
open Go.Sw
/-! ### The kernel of rows, as a reduced list. -/
def sol (p : Nat) (E : Nat → Nat → Nat) (k : Nat) (ld : Nat → Nat) (c d : Nat) : Nat := if d = c then 1 else match ldAt k ld d with
  | some j => (p - E j c) % p
  | none => 0
def nf (k : Nat) (ld : Nat → Nat) : Nat → Nat
  | 0 => 0
  | c + 1 => if isLd k ld c then nf k ld c else nf k ld c + 1
def SolR (p n : Nat) (E : Nat → Nat → Nat) (k : Nat) (ld : Nat → Nat) (S : Nat → Nat → Nat) : Prop := ∀ c, c < n → ¬ isLd k ld c → ∀ d, S (nf k ld c) d = sol p E k ld c d
def IsKer (p n : Nat) (M : Nat → Nat → Nat) (m r : Nat) (V : Nat → Nat → Nat) : Prop := ∃ (k : Nat) (E : Nat → Nat → Nat) (ld ld2 : Nat → Nat), Rref p n E k ld ∧ (∀ x, Ker p n E k x ↔ Ker p n M m x) ∧ Rref p n V r ld2 ∧
  ∀ x, Ker p n V r x ↔ ∀ c, c < n → ¬ isLd k ld c → (p : Int) ∣ dot n (ci (sol p E k ld c)) x
theorem isLd_congr {k : Nat} {ld ld' : Nat → Nat} (e : ∀ i, i < k → ld i = ld' i) (c : Nat) : isLd k ld c ↔ isLd k ld' c :=
  ⟨fun ⟨i, hi, h⟩ => ⟨i, hi, by rw [← e i hi]; exact h⟩, fun ⟨i, hi, h⟩ => ⟨i, hi, by rw [e i hi]; exact h⟩⟩
theorem ldAt_congr {k : Nat} {ld ld' : Nat → Nat} (e : ∀ i, i < k → ld i = ld' i) (d : Nat) : ldAt k ld d = ldAt k ld' d := by
  unfold ldAt
  have : ∀ l : List Nat, (∀ i ∈ l, i < k) → l.find? (fun i => ld i == d) = l.find? (fun i => ld' i == d) := by
    intro l
    induction l with
    | nil => intro _; rfl
    | cons a l ih =>
      intro h;rw [List.find?_cons, List.find?_cons, e a (h a (List.mem_cons_self ..)), ih (fun i hi => h i (List.mem_cons_of_mem _ hi))]
  exact this _ (fun i hi => List.mem_range.1 hi)
theorem sol_congr {p n k : Nat} {E E' : Nat → Nat → Nat} {ld ld' : Nat → Nat} (e : ∀ i, i < k → ld i = ld' i) (eE : ∀ i, i < k → ∀ c, c < n → E i c = E' i c) {c : Nat} (hc : c < n) (d : Nat) : sol p E k ld c d = sol p E' k ld' c d := by
  unfold sol
  rw [ldAt_congr e d]
  split
  · rfl
  · cases h : ldAt k ld' d with
    | none => rfl
    | some j => dsimp only; rw [eE j (ldAt_some h).1 c hc]
theorem IsKer.unique {p n m r r' : Nat} {M V V' : Nat → Nat → Nat} (hp : 2 ≤ p) (h : IsKer p n M m r V) (h' : IsKer p n M m r' V') : r = r' ∧ ∀ i, i < r → ∀ c, c < n → V i c = V' i c := by
  obtain ⟨k, E, ld, ld2, h1, h2, h3, h4⟩ := h;obtain ⟨k', E', ld', ld2', h1', h2', h3', h4'⟩ := h';obtain ⟨rfl, e1, e2⟩ := rref_unique hp h1 h1' (fun x => (h2 x).trans (h2' x).symm);have e3 : ∀ x, Ker p n V r x ↔ Ker p n V' r' x := fun x => by
    rw [h4 x, h4' x];have es : ∀ c, c < n → ci (sol p E k ld c) = ci (sol p E' k ld' c) := fun c hc => by
      funext d; unfold ci; rw [sol_congr e1 e2 hc d]
    exact ⟨fun q c hc hf => by rw [← es c hc]; exact q c hc (fun hl => hf ((isLd_congr e1 c).1 hl)), fun q c hc hf => by rw [es c hc]; exact q c hc (fun hl => hf ((isLd_congr e1 c).2 hl))⟩
  obtain ⟨er, _, eV⟩ := rref_unique hp h3 h3' e3;exact ⟨er, eV⟩
/-! Rows with zeros behind their first n numbers. -/
def padN (n : Nat) (E : Nat → Nat → Nat) (i c : Nat) : Nat := if c < n then E i c else 0
def lv (ld : Nat → Nat) (q c : Nat) : Nat := match ldAt q ld c with
  | some j => j + 1
  | none => 0
end Go.Ech

namespace Go.Ech
open Go.Sw
/-! ### More unknowns than equations; nilpotent vectors. -/
def powU (u : Nat → Nat) (W : Nat → Nat → Nat) : Nat → Nat → Nat
  | 0 => u
  | k + 1 => W k
end Go.Ech
