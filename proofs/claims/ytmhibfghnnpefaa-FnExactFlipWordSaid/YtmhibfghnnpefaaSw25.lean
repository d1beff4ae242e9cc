/- Plain lemmas of a small calculus for walks over frames and own memory; no statement of the seat is proved here. -/
import Derived.Test.YtmhibfghnnpefaaEch4
import Derived.Test.YtmhibfghnnpefaaSw19
import Derived.Laws.CopyRow
set_option linter.unusedVariables false
set_option linter.unusedSimpArgs false
/-! Units of tables, systems of equations with one solution: plain lemmas, no program. -/
namespace Go.Ech
def dl (i c : Nat) : Nat := if i = c then 1 else 0
def aug (n : Nat) (x : Nat → Nat) (c : Nat) : Int := if c < n then (x c : Int) else -1
structure Full (p n : Nat) (E : Nat → Nat → Nat) (k : Nat) (ld : Nat → Nat) : Prop where
  k : k = n
  ld : ∀ i, i < n → ld i = i
structure UnitI (p n : Nat) (T : Nat → Nat → Nat → Nat) (u : Nat → Nat) : Prop where
  small : ∀ c, u c < p
  out : ∀ c, n ≤ c → u c = 0
  right : ∀ i, i < n → ∀ c, c < n → (p : Int) ∣ sI (fun a => (u a : Int) * (T a i c : Int)) n - (dl i c : Int)
  left : ∀ i, i < n → ∀ c, c < n → (p : Int) ∣ sI (fun b => (u b : Int) * (T i b c : Int)) n - (dl i c : Int)
def fM (n : Nat) (T : Nat → Nat → Nat → Nat) (r c : Nat) : Nat := if c < n then T c (r / n) (r % n) else if r / n = r % n then 1 else 0
end Go.Ech

namespace Go.Sw
open Go Go.RowKit Go.Ech
variable {P : Program}
def BytesFr (w0 : World) (L : Own) (N m : Nat) (M : Nat → Nat → Nat) (u : Value) (w' : World) : Prop := ∃ (D : Froz) (β : Nat → Nat) (b : Nat) (cs : Array Value),
  (∀ x ds, (x, ds) ∈ D → w0.heap.size ≤ x ∧ Blk w' x ds ∧ ∀ (k : Nat) c es, L[k]? = some (some (c, es)) → c ≠ x) ∧ RowsB D N m β M ∧ u = .slice (some ⟨b, 0, none⟩) m m ∧ cs.size = m ∧ (∀ i, i < m → cs[0 + i * 1]? = some (.slice (some ⟨β i, 0, none⟩) N N)) ∧ (b, cs) ∈ D ∧ ∀ i, i < m → β i ≠ b
theorem BytesFr.last {w0 w w' : World} {L : Own} {N m : Nat} {M : Nat → Nat → Nat} {u : Value} (h : BytesFr w0 L N m M u w) (hx : Ext w w') : BytesFr w0 L N m M u w' := by
  obtain ⟨D, β, b, cs, h1, h2⟩ := h;exact ⟨D, β, b, cs, fun x ds hm => ⟨(h1 x ds hm).1, (h1 x ds hm).2.1.ext hx, (h1 x ds hm).2.2⟩, h2⟩
theorem BytesOut.fresh {X : List Nat} {w0 w w' : World} {L : Own} {D : Froz} {N m : Nat} {M : Nat → Nat → Nat} {u : Value} (hM : MemX X w0 w L D) (h : BytesOut w w' N m M u) : BytesFr w0 L N m M u w' := by
  obtain ⟨D', β, b, cs, h1, h2⟩ := h;refine ⟨D', β, b, cs, fun x ds hm => ⟨Nat.le_trans hM.bel.size (h1 x ds hm).1, (h1 x ds hm).2, fun k c es hk e => ?_⟩, h2⟩;have := (hM.blk k c es hk).2.lt;have := (h1 x ds hm).1
  omega
theorem no_lead {p N k m c : Nat} {E M : Nat → Nat → Nat} {ld : Nat → Nat} (hp : 2 ≤ p) (h : Rref p N E k ld) (hK : ∀ x, Ker p N E k x ↔ Ker p N M m x) (hc : c < N) (hz : ∀ i, i < m → M i c = 0) : ¬ isLd k ld c := by
  rintro ⟨j, hj, e⟩;have h1 : Ker p N M m (fun d => if d = c then 1 else 0) := fun i hi => by
    have : dot N (ci (M i)) (fun d => if d = c then 1 else 0) = 0 := by
      unfold dot
      refine sI_zero fun d _ => ?_
      by_cases ed : d = c
      · simp [ci, ed, hz i hi]
      · simp [ed]
    rw [this]; exact Int.dvd_zero _
  have h2 := h.ker_lead ((hK _).2 h1) hj (fun d h1 _ => by rw [if_neg (by omega)]);rw [e, if_pos rfl] at h2;have := Int.le_of_dvd (by omega) h2
  omega
end Go.Sw
namespace Go.Sw
open Go Go.RowKit
variable {P : Program}
section
variable {n : Nat} {F : List (Nat × Value)} {a : Act} {w : World} {d : Option Tmp} {t : TypeId} {pos : String} {af : Array Edge} {gd : Option (Nat × Bool)} {T T' : TypeId} {x y : Operand}
end
end Go.Sw

namespace Go.Sw
open Go Go.RowKit
variable {P : Program}
def vecsC (m : Nat) (V : Nat → Nat → Nat) : Array Value := fnC (m * 6) (fun c => .int .u8 (V (c / 6) (c % 6) : Int))
def vAtL (l : List (Nat → Nat)) (i : Nat) : Nat → Nat := l.getD i (fun _ => 0)
section
variable {n : Nat} {F : List (Nat × Value)} {a : Act} {w : World} {d : Option Tmp} {t : TypeId} {pos : String} {af : Array Edge} {gd : Option (Nat × Bool)} {x : Operand}
end
end Go.Sw
namespace Go.Sw
open Go Go.RowKit
variable {P : Program}
section
variable {n : Nat} {F : List (Nat × Value)} {a : Act} {w : World} {d : Option Tmp} {t : TypeId} {pos : String} {af : Array Edge} {gd : Option (Nat × Bool)} {T : TypeId} {x : Operand}
end
end Go.Sw

namespace Go.Sw
open Go Go.RowKit
variable {P : Program}
section
variable {ops : List Oper} {Q : Exit → Act → World → Prop} {n : Nat} {F : List (Nat × Value)}
def DepsH {G : Type} (ops : List Oper) (k s : Nat) (φ : Facts G) (o : Oper) (g : G) (a : Act) (w : World) : Prop :=
  ∀ j, Nat.blt j k = true → edgeTo o j = true → φ j g (a.tmps.getD (dstOf ops j) undef) w
def StepsH {G : Type} (P : Program) (ops : List Oper) (k s n : Nat) (F : List (Nat × Value)) (S : Bool → G → World → Prop) (φ : Facts G) : List Oper → Nat → Prop
  | [], _ => True
  | o :: r, i => (if Nat.beq i s = true then ∀ a w g, Fr n a F → S false g w → DepsH ops k s φ o g a w → Does P o a w (AfterG S φ true i g w)
      else ∀ a w b g, Fr n a F → S b g w → (edgeS ops s i = true → b = false) → DepsH ops k s φ o g a w → Does P o a w (AfterG S φ b i g w)) ∧ StepsH P ops k s n F S φ r (i + 1)
theorem StepsH.get {G : Type} {k s : Nat} {S : Bool → G → World → Prop} {φ : Facts G} : ∀ {l : List Oper} {i : Nat}, StepsH P ops k s n F S φ l i → ∀ (j : Nat) (o : Oper), l[j]? = some o →
    (if Nat.beq (i + j) s = true then ∀ a w g, Fr n a F → S false g w → DepsH ops k s φ o g a w → Does P o a w (AfterG S φ true (i + j) g w)
      else ∀ a w b g, Fr n a F → S b g w → (edgeS ops s (i + j) = true → b = false) → DepsH ops k s φ o g a w → Does P o a w (AfterG S φ b (i + j) g w))
  | [], _, _, j, o, h => by simp at h
  | x :: r, i, hs, j, o, h => by
    cases j with
    | zero => simp at h; subst h; exact hs.1
    | succ j => have := hs.2.get j o (by simpa using h); rwa [show i + 1 + j = i + (j + 1) by omega] at this
end
end Go.Sw
namespace Go.Sw
open Go Go.RowKit Go.Ech
variable {P : Program}
theorem MemX.extY {X Y : List Nat} {w0 w w' : World} {L : Own} {D : Froz} (h : MemX X w0 w L D) (hx : ExtX Y w w') (hY : ∀ y ∈ Y, w0.heap.size ≤ y ∧ (∀ (k : Nat) c ds, L[k]? = some (some (c, ds)) → c ≠ y) ∧ (∀ c ds, (c, ds) ∈ D → c ≠ y)) : MemX X w0 w' L D := by
  have other : ∀ {c ds}, Blk w c ds → c ∉ Y → Blk w' c ds := fun {c ds} hc hne => by
    obtain ⟨t, hc'⟩ := hc;exact ⟨t, (hx.block c (Blk.lt ⟨t, hc'⟩) hne).trans hc'⟩
  refine ⟨⟨hx.os.trans h.bel.os, hx.tape.trans h.bel.tape, hx.output.trans h.bel.output, Nat.le_trans h.bel.size hx.size, fun i hi hix => ?_⟩, fun k c ds hk => ⟨(h.blk k c ds hk).1, other (h.blk k c ds hk).2 (fun hc => (hY c hc).2.1 k c ds hk rfl)⟩, h.apart, fun c ds hm => ⟨other (h.froz c ds hm).1 (fun hc => (hY c hc).2.2 c ds hm rfl), (h.froz c ds hm).2⟩⟩;have hne : i ∉ Y := fun hc => by have := (hY i hc).1; omega
  exact (hx.block i (Nat.lt_of_lt_of_le hi h.bel.size) hne).trans (h.bel.block i hi hix)
def wid (n : Nat) (E : Nat → Nat → Nat) (i c : Nat) : Nat := if c < n then E i c else 0
theorem Rref.wid {p n N k : Nat} {E : Nat → Nat → Nat} {ld : Nat → Nat} (hp : 0 < p) (hn : n ≤ N) (h : Rref p n E k ld) : Rref p N (wid n E) k ld := by
  refine ⟨fun i hi => Nat.lt_of_lt_of_le (h.lt i hi) hn, h.mono, fun i hi => ?_, fun i hi c hc => ?_, fun i j hi hj hne => ?_, fun i hi c _ => ?_⟩
  · unfold Go.Sw.wid; rw [if_pos (h.lt i hi)]; exact h.one i hi
  · unfold Go.Sw.wid; rw [if_pos (by have := h.lt i hi; omega)]; exact h.left i hi c hc
  · unfold Go.Sw.wid; rw [if_pos (h.lt i hi)]; exact h.zero i j hi hj hne
  · unfold Go.Sw.wid; split
    · rename_i hcn; exact h.small i hi c hcn
    · exact hp
end Go.Sw
namespace Go.Sw
open Go Go.RowKit
variable {P : Program}
end Go.Sw
namespace Go.Sw
open Go Go.RowKit
variable {P : Program}
end Go.Sw

/-! The copy builtin, and slices of arrays with a bound: plain lemmas. -/
namespace Go.Sw
open Go Go.RowKit
section
variable {P : Program} {n : Nat} {a : Act} {w0 w : World} {X : List Nat} {F : List (Nat × Value)} {L : Own} {D : Froz} {d : Option Tmp} {T : TypeId} {x y : Operand} {t : TypeId} {pos : String} {af : Array Edge} {gd : Option (Nat × Bool)}
theorem g_buildP {parts : Array (Nat × Operand)} {vs : List (Nat × Value)} {z : Value} (_hF : Fr n a F) (hp : parts.toList.map (fun p => (p.1, a.eval p.2)) = vs) (hrun : ∀ w, (Instr.build T vs.toArray).run P w = .ok z w) : Gives P ⟨d, .build T parts, t, pos, af, gd⟩ a w z := by
  refine gives_of_run ?_;have e1 : (parts.map fun (i, x) => (i, a.eval x)) = vs.toArray := by rw [← hp]; apply Array.toList_inj.1; simp
  simp only [execOp, e1, Sem.run_bind, hrun, Result.andThen_ok, Sem.run_pure]
end
end Go.Sw
