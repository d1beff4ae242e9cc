/- Plain lemmas of a small calculus for walks over frames and own memory; no statement of the seat is proved here. -/
import Derived.Test.YtnedojhanlhjkaaSw21
import Derived.Laws.CopyRow
import Derived.Test.YtnedojhanlhjkaaSw9
import Derived.ReadAgain
import Derived.ChangeSlices
set_option linter.unusedVariables false
set_option linter.unusedSimpArgs false
namespace Go.Sw
open Go Go.RowKit
variable {P : Program}
section
variable {ops : List Oper} {Q : Exit → Act → World → Prop} {n : Nat} {F : List (Nat × Value)}
def DepsH {G : Type} (ops : List Oper) (k s : Nat) (φ : Facts G) (o : Oper) (g : G) (a : Act) (w : World) : Prop :=
  ∀ j, Nat.blt j k = true → edgeTo o j = true → φ j g (a.tmps.getD (dstOf ops j) undef) w
def StepsH {G : Type} (P : Program) (ops : List Oper) (k s n : Nat) (F : List (Nat × Value)) (S : Bool → G → World → Prop) (φ : Facts G) : List Oper → Nat → Prop
  | [], _ => True
  | o :: r, i => (if Nat.beq i s = true then ∀ a w g, Fr n a F → S false g w → DepsH ops k s φ o g a w → Does P o a w (AfterG S φ true i g w)
      else ∀ a w b g, Fr n a F → S b g w → (edgeS ops s i = true → b = false) → DepsH ops k s φ o g a w → Does P o a w (AfterG S φ b i g w)) ∧ StepsH P ops k s n F S φ r (i + 1)
theorem StepsH.get {G : Type} {k s : Nat} {S : Bool → G → World → Prop} {φ : Facts G} : ∀ {l : List Oper} {i : Nat}, StepsH P ops k s n F S φ l i → ∀ (j : Nat) (o : Oper), l[j]? = some o →
    (if Nat.beq (i + j) s = true then ∀ a w g, Fr n a F → S false g w → DepsH ops k s φ o g a w → Does P o a w (AfterG S φ true (i + j) g w)
      else ∀ a w b g, Fr n a F → S b g w → (edgeS ops s (i + j) = true → b = false) → DepsH ops k s φ o g a w → Does P o a w (AfterG S φ b (i + j) g w))
  | [], _, _, j, o, h => by simp at h
  | x :: r, i, hs, j, o, h => by
    cases j with
    | zero => simp at h; subst h; exact hs.1
    | succ j => have := hs.2.get j o (by simpa using h); rwa [show i + 1 + j = i + (j + 1) by omega] at this
end
end Go.Sw
namespace Go.Sw
open Go Go.RowKit Go.Ech
variable {P : Program}
theorem MemX.extY {X Y : List Nat} {w0 w w' : World} {L : Own} {D : Froz} (h : MemX X w0 w L D) (hx : ExtX Y w w') (hY : ∀ y ∈ Y, w0.heap.size ≤ y ∧ (∀ (k : Nat) c ds, L[k]? = some (some (c, ds)) → c ≠ y) ∧ (∀ c ds, (c, ds) ∈ D → c ≠ y)) : MemX X w0 w' L D := by
  have other : ∀ {c ds}, Blk w c ds → c ∉ Y → Blk w' c ds := fun {c ds} hc hne => by
    obtain ⟨t, hc'⟩ := hc;exact ⟨t, (hx.block c (Blk.lt ⟨t, hc'⟩) hne).trans hc'⟩
  refine ⟨⟨hx.os.trans h.bel.os, hx.tape.trans h.bel.tape, hx.output.trans h.bel.output, Nat.le_trans h.bel.size hx.size, fun i hi hix => ?_⟩, fun k c ds hk => ⟨(h.blk k c ds hk).1, other (h.blk k c ds hk).2 (fun hc => (hY c hc).2.1 k c ds hk rfl)⟩, h.apart, fun c ds hm => ⟨other (h.froz c ds hm).1 (fun hc => (hY c hc).2.2 c ds hm rfl), (h.froz c ds hm).2⟩⟩;have hne : i ∉ Y := fun hc => by have := (hY i hc).1; omega
  exact (hx.block i (Nat.lt_of_lt_of_le hi h.bel.size) hne).trans (h.bel.block i hi hix)
def wid (n : Nat) (E : Nat → Nat → Nat) (i c : Nat) : Nat := if c < n then E i c else 0
theorem Rref.wid {p n N k : Nat} {E : Nat → Nat → Nat} {ld : Nat → Nat} (hp : 0 < p) (hn : n ≤ N) (h : Rref p n E k ld) : Rref p N (wid n E) k ld := by
  refine ⟨fun i hi => Nat.lt_of_lt_of_le (h.lt i hi) hn, h.mono, fun i hi => ?_, fun i hi c hc => ?_, fun i j hi hj hne => ?_, fun i hi c _ => ?_⟩
  · unfold Go.Sw.wid; rw [if_pos (h.lt i hi)]; exact h.one i hi
  · unfold Go.Sw.wid; rw [if_pos (by have := h.lt i hi; omega)]; exact h.left i hi c hc
  · unfold Go.Sw.wid; rw [if_pos (h.lt i hi)]; exact h.zero i j hi hj hne
  · unfold Go.Sw.wid; split
    · rename_i hcn; exact h.small i hi c hcn
    · exact hp
end Go.Sw
namespace Go.Sw
open Go Go.RowKit
variable {P : Program}
end Go.Sw
namespace Go.Sw
open Go Go.RowKit
variable {P : Program}
end Go.Sw

/-! The copy builtin, and slices of arrays with a bound: plain lemmas. -/
namespace Go.Sw
open Go Go.RowKit
section
variable {P : Program} {n : Nat} {a : Act} {w0 w : World} {X : List Nat} {F : List (Nat × Value)} {L : Own} {D : Froz} {d : Option Tmp} {T : TypeId} {x y : Operand} {t : TypeId} {pos : String} {af : Array Edge} {gd : Option (Nat × Bool)}
theorem build013 {x0 x1 x2 : Operand} {v0 v1 v2 : Value} (hF : Fr n a F) (h0 : look F x0 = some v0) (h1 : look F x1 = some v1) (h2 : look F x2 = some v2) : (#[(0, x0), (1, x1), (3, x2)] : Array (Nat × Operand)).toList.map (fun p => (p.1, a.eval p.2)) = [(0, v0), (1, v1), (3, v2)] := by simp [hF.eval h0, hF.eval h1, hF.eval h2]
theorem g_buildP {parts : Array (Nat × Operand)} {vs : List (Nat × Value)} {z : Value} (_hF : Fr n a F) (hp : parts.toList.map (fun p => (p.1, a.eval p.2)) = vs) (hrun : ∀ w, (Instr.build T vs.toArray).run P w = .ok z w) : Gives P ⟨d, .build T parts, t, pos, af, gd⟩ a w z := by
  refine gives_of_run ?_;have e1 : (parts.map fun (i, x) => (i, a.eval x)) = vs.toArray := by rw [← hp]; apply Array.toList_inj.1; simp
  simp only [execOp, e1, Sem.run_bind, hrun, Result.andThen_ok, Sem.run_pure]
end
end Go.Sw

namespace Go.Sw
open Go Go.RowKit
def tenC (p n i o : Int) (sl : Value) : Array Value := #[.int .i64 p, .int .i64 n, .int .i64 i, .int .i64 o, sl]
def smC (p : Int) (sl : Value) : Array Value := #[.int .i64 p, sl]
def numC (m : Nat) (f : Nat → Nat) : Array Value := fnC m (fun c => .int .i64 (f c : Int))
section
variable {p n i o : Int} {sl : Value} {q m : Nat} {f g : Nat → Nat}
end
abbrev TenOut (w w' : World) (p n i o : Int) (m : Nat) (f : Nat → Nat) (v : Value) : Prop :=
  ∃ b, v = .agg (tenC p n i o (.slice (some ⟨b, 0, none⟩) m m)) ∧ w.heap.size ≤ b ∧ Blk w' b (numC m f)
abbrev TenOut0 (w w' : World) (p n i o : Int) (m : Nat) (f : Nat → Nat) (v : Value) : Prop :=
  ∃ b, v = .tuple #[.agg (tenC p n i o (.slice (some ⟨b, 0, none⟩) m m)), .int .i64 0] ∧ w.heap.size ≤ b ∧ Blk w' b (numC m f)
def pwr (n : Nat) : Nat → Nat → Nat
  | 0, q => q
  | k + 1, q => if q ≤ 1296 then pwr n k (q * n) else q
def wl (n i o : Nat) : Prop := i ≤ 8 ∧ o ≤ 8 ∧ n ^ (i + o) ≤ 1296
instance (n i o : Nat) : Decidable (wl n i o) := by unfold wl; infer_instance
section
variable {P : Program} {n : Nat} {F : List (Nat × Value)} {a : Act} {w : World} {d : Option Tmp} {t : TypeId} {pos : String} {af : Array Edge} {gd : Option (Nat × Bool)} {T : TypeId} {x y z u : Operand}
end
end Go.Sw

namespace Go.Sw
open Go Go.RowKit Go.ChangeShapes Go.WideShapes Go.ChangeAt
def numI (m : Nat) (g : Nat → Int) : Array Value := fnC m (fun c => .int .i64 (g c))
section
variable {m q : Nat} {f g : Nat → Int}
end
def ArgSl (w : World) (sl : Value) (m : Nat) (g : Nat → Int) : Prop :=
  (∃ x c, sl = .slice x m c) ∧ (0 < m → ∃ b o c, sl = .slice (some ⟨b, o, none⟩) m c ∧ ∀ i, i < m → w.cell? ⟨b, o + i * 1, none⟩ = some (.int .i64 (g i)))
theorem cell_ext {w w' : World} {b o : Nat} {v : Value} (h : w.cell? ⟨b, o, none⟩ = some v) (hx : Ext w w') : w'.cell? ⟨b, o, none⟩ = some v := by
  have hb : b < w.heap.size := by
    by_cases hb : b < w.heap.size
    · exact hb
    · have hn : w.heap[b]? = none := by simp; omega
      unfold World.cell? at h
      simp only [hn] at h
      cases h
  unfold World.cell? at h ⊢
  simp only [hx.block b hb];exact h
theorem ArgSl.ext {w w' : World} {sl : Value} {m : Nat} {g : Nat → Int} (h : ArgSl w sl m g) (hx : Ext w w') : ArgSl w' sl m g :=
  ⟨h.1, fun hm => by obtain ⟨b, o, c, h1, h3⟩ := h.2 hm; exact ⟨b, o, c, h1, fun i hi => cell_ext (h3 i hi) hx⟩⟩
theorem ArgSl.one {w : World} {sl : Value} {m : Nat} {g : Nat → Int} (h : ArgSl w sl m g) : sl.oneCell' = true := by
  obtain ⟨⟨x, c, rfl⟩, _⟩ := h; rfl
theorem ArgSl.congr {w : World} {sl : Value} {m : Nat} {g g' : Nat → Int} (h : ArgSl w sl m g) (e : ∀ i, i < m → g i = g' i) : ArgSl w sl m g' :=
  ⟨h.1, fun hm => by obtain ⟨b, o, c, h1, h3⟩ := h.2 hm; exact ⟨b, o, c, h1, fun i hi => by rw [← e i hi]; exact h3 i hi⟩⟩
section
variable {P : Program} {n : Nat} {F : List (Nat × Value)} {a : Act} {w : World} {d : Option Tmp} {t : TypeId} {pos : String} {af : Array Edge} {gd : Option (Nat × Bool)} {x : Operand}
end
section
variable {H : Type} {enc : TypeId × Value → H} {P : Program} {w w' : World}
variable {base : Nat} {spare : Nat → Bool} {held : Bool}
def tenFs (fs : Array Field) (ti ts : TypeId) : Bool := (List.range 5).all fun i => match fs[i]? with
  | some f => Nat.beq f.offset i && Nat.beq f.type (if i < 4 then ti else ts)
  | none => false
end
section
variable {P : Program} {X : List Nat} {w0 w : World} {L : Own} {D : Froz} {n : Nat} {F : List (Nat × Value)} {a : Act} {d : Option Tmp} {T : TypeId} {t : TypeId} {pos : String} {af : Array Edge} {gd : Option (Nat × Bool)} {x y : Operand}
end
abbrev TenOutI (w w' : World) (p n i o : Int) (m : Nat) (g : Nat → Int) (v : Value) : Prop :=
  ∃ b, v = .agg (tenC p n i o (.slice (some ⟨b, 0, none⟩) m m)) ∧ w.heap.size ≤ b ∧ Blk w' b (numI m g)
end Go.Sw
