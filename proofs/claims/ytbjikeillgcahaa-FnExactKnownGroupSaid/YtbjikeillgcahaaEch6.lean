/- Plain lemmas of a small calculus for walks over frames and own memory; no statement of the seat is proved here. -/
import Derived.Test.YtbjikeillgcahaaSw23
import Derived.Test.YtbjikeillgcahaaSw27
import Derived.Test.YtbjikeillgcahaaSw21
import Derived.Test.YtbjikeillgcahaaSw9
import Derived.Recover
import Derived.Test.YtbjikeillgcahaaSw22
set_option linter.unusedVariables false
set_option linter.unusedSimpArgs false
namespace Go.Sw
open Go Go.RowKit Go.ChangeShapes Go.WideShapes Go.ChangeAt
def ArgVs (w : World) (sl : Value) (m : Nat) (V : Nat → Nat → Nat) : Prop :=
  (∃ x c, sl = .slice x m c) ∧ (0 < m → ∃ b o c, sl = .slice (some ⟨b, o, none⟩) m c ∧ ∀ i, i < m → ∀ j, j < 6 → w.cell? ⟨b, o + i * 6 + j, none⟩ = some (.int .u8 (V i j : Int)))
theorem ArgVs.ext {w w' : World} {sl : Value} {m : Nat} {V : Nat → Nat → Nat} (h : ArgVs w sl m V) (hx : Ext w w') : ArgVs w' sl m V :=
  ⟨h.1, fun hm => by obtain ⟨b, o, c, h1, h3⟩ := h.2 hm; exact ⟨b, o, c, h1, fun i hi j hj => cell_ext (h3 i hi j hj) hx⟩⟩
theorem ArgVs.one {w : World} {sl : Value} {m : Nat} {V : Nat → Nat → Nat} (h : ArgVs w sl m V) : sl.oneCell' = true := by
  obtain ⟨⟨x, c, rfl⟩, _⟩ := h; rfl
section
variable {P : Program} {n : Nat} {F : List (Nat × Value)} {a : Act} {w : World} {d : Option Tmp} {t : TypeId} {pos : String} {af : Array Edge} {gd : Option (Nat × Bool)} {x : Operand}
end
section
variable {H : Type} {enc : TypeId × Value → H} {P : Program} {w w' : World} {base : Nat} {spare : Nat → Bool} {held : Bool}
theorem cells?_get {a : Addr} {n : Nat} {cs : List Value} (h : w.cells? base a n = some cs) : cs.length = n ∧ ∀ i, i < n → w.cell? (a.add i) = cs[i]? := by
  unfold World.cells? at h
  split at h
  · have hl := mapM_some_length h
    rw [List.length_range] at hl;refine ⟨hl.symm ▸ rfl, fun i hi => ?_⟩;have := mapM_some_get h i i (by rw [List.getElem?_range hi]);exact this
  · cases h
end
section
variable {H : Type} {enc : TypeId × Value → H} {P : Program} {w : World} {base : Nat} {spare : Nat → Bool} {held : Bool}
end
section
variable {P : Program} {X : List Nat} {w0 w : World} {L : Own} {D : Froz} {n : Nat} {F : List (Nat × Value)} {a : Act} {d : Option Tmp} {T : TypeId} {t : TypeId} {pos : String} {af : Array Edge} {gd : Option (Nat × Bool)} {x y : Operand}
end
end Go.Sw

namespace Go.Sw
open Go Go.RowKit Go.ChangeShapes Go.WideShapes Go.ChangeAt
def grpC (n : Int) (M : Nat → Nat → Nat) : Array Value := fnC 37 fun c => if c = 0 then .int .i64 n else .int .u8 (M ((c - 1) / 6) ((c - 1) % 6))
section
variable {n q : Int} {M N : Nat → Nat → Nat}
theorem grpC_size : (grpC n M).size = 37 := fnC_size _ _
theorem grpC_n {o : Nat} (h : o = 0) : (grpC n M)[o]? = some (.int .i64 n) := by subst h; exact fnC_get (by omega)
theorem grpC_M {o : Nat} (i j : Nat) (h : o = 1 + i * 6 + j) (hi : i < 6) (hj : j < 6) : (grpC n M)[o]? = some (.int .u8 (M i j : Int)) := by
  subst h
  unfold grpC
  rw [fnC_get (by omega), if_neg (by omega), show (1 + i * 6 + j - 1) / 6 = i by omega, show (1 + i * 6 + j - 1) % 6 = j by omega]
theorem grpC_tab {o e : Nat} (h : o = 1) (he : e = o + 36) : (grpC n M).extract o e = planeC M := by
  subst h;exact extract_ext he (by rw [grpC_size]; omega) fun c hc => grpC_M (c / 6) (c % 6) (by omega) (by omega) (by omega)
theorem grpC_one : ∀ u ∈ (grpC n M).toList, u.oneCell' = true := fnC_one fun i _ => by split <;> rfl
theorem grpC_eq {c : Array Value} (hs : c.size = 37) (h0 : c[0]? = some (.int .i64 n)) (hT : ∀ i j, i < 6 → j < 6 → c[1 + i * 6 + j]? = some (.int .u8 (M i j : Int))) : c = grpC n M := by
  apply Array.ext_getElem?
  intro i
  by_cases hi : i < 37
  · by_cases e0 : i = 0
    · subst e0; rw [h0, grpC_n rfl]
    · have e : i = 1 + ((i - 1) / 6) * 6 + (i - 1) % 6 := by omega
      rw [e, hT _ _ (by omega) (by omega), grpC_M _ _ rfl (by omega) (by omega)]
  · rw [Array.getElem?_eq_none (by omega), Array.getElem?_eq_none (by rw [grpC_size]; omega)]
theorem grpC_setn {o : Nat} (h : o = 0) : (grpC n M).setIfInBounds o (.int .i64 q) = grpC q M := by
  subst h;refine grpC_eq (by rw [Array.size_setIfInBounds, grpC_size]) ?_ ?_
  · rw [Array.getElem?_setIfInBounds_self_of_lt (by rw [grpC_size]; omega)]
  · intro i j hi hj; rw [Array.getElem?_setIfInBounds_ne (by omega)]; exact grpC_M i j rfl hi hj
theorem grpC_congr (h : ∀ i j, i < 6 → j < 6 → M i j = N i j) : grpC n M = grpC n N := fnC_congr fun c hc => by rw [h _ _ (by omega) (by omega)]
end
def grpKs : List IntKind := .i64 :: List.replicate 36 .u8
section
variable {H : Type} {enc : TypeId × Value → H} {P : Program} {w : World} {base : Nat} {spare : Nat → Bool} {held : Bool} {t : TypeId} {v : Value} {d : DataW H} {p : List MemPlace}
end
end Go.Sw

namespace Go.Sw
open Go Go.RowKit
variable {P : Program}
/-! ### Deferred calls: what was laid before lies behind the frame. -/
def addD (ds : List Deferred) (a : Act) : Act := ⟨a.tmps, a.defers ++ ds⟩
section
variable {ds : List Deferred} {ops : Array Oper} {Q : Exit → Act → World → Prop} {n : Nat} {F : List (Nat × Value)} {a : Act} {w : World}
end
end Go.Sw

namespace Go.Sw
open Go Go.RowKit
variable {P : Program}
section
variable {n : Nat} {F : List (Nat × Value)} {a : Act} {w : World} {d : Option Tmp} {t : TypeId} {pos : String} {af : Array Edge} {gd : Option (Nat × Bool)} {T : TypeId} {x y : Operand}
end
end Go.Sw

namespace Go.Sw
open Go Go.RowKit
inductive FactE where
  | val (v : Value)
  | frz (c : Array Value) (mk : Nat → Value)
  | own (mk : Nat → Value)
def factsE (kt : Nat) (l : List FactE) : Facts (Own × Froz) := fun i g u _ => match l[i]? with
  | some (.val v) => u = v
  | some (.frz c mk) => ∃ b, (b, c) ∈ g.2 ∧ u = mk b
  | some (.own mk) => ∃ b cs, u = mk b ∧ g.1[kt]? = some (some (b, cs))
  | none => True
def inE (c : Option (Array Value)) (b : Nat) (E : Froz) : Prop := match c with
  | none => True
  | some c => (b, c) ∈ E
theorem inE.more {c : Option (Array Value)} {b : Nat} {E : Froz} (h : inE c b E) (x : Nat × Array Value) : inE c b (x :: E) := by
  cases c with
  | none => trivial
  | some c => exact List.mem_cons_of_mem _ h
def ParE (X : List Nat) (w0 : World) (D : Froz) (L0 : Own) (kt : Nat) (csO : Array Value) (c3 : Option (Array Value)) (csN : Nat → Array Value) (bb : Bool) (g : Own × Froz) (w : World) : Prop :=
  (MemX X w0 w g.1 (g.2 ++ D) ∧ Same [kt] L0 g.1) ∧ ∀ b cs, g.1[kt]? = some (some (b, cs)) → (bb = false → cs = csO) ∧ (bb = true → ∃ x, inE c3 x g.2 ∧ cs = csN x)
section
variable {P : Program} {X : List Nat} {w0 w : World} {D : Froz} {L0 : Own} {g : Own × Froz} {kt : Nat} {csO : Array Value} {c3 : Option (Array Value)} {csN : Nat → Array Value} {bb : Bool} {l : List FactE} {i : Nat} {o : Oper} {a : Act}
def ownOnly : List FactE → Nat → Nat → Bool
  | [], _, _ => true
  | .own _ :: r, i, s => Nat.beq s i && ownOnly r i (s + 1)
  | _ :: r, i, s => ownOnly r i (s + 1)
end
end Go.Sw

namespace Go.Sw
open Go Go.RowKit
end Go.Sw

namespace Go.Sw
open Go Go.RowKit
def rowP (N K : Nat) (f : Nat → Nat) (x : Nat → Value) : Array Value := fnC K (fun c => if c < N then .int .u8 (f c : Int) else x c)
section
variable {N K o : Nat} {f g : Nat → Nat} {x : Nat → Value}
theorem rowP_congr (h : ∀ c, c < N → f c = g c) : rowP N K f x = rowP N K g x := fnC_congr fun c _ => by
  by_cases hc : c < N
  · rw [if_pos hc, if_pos hc, h c hc]
  · rw [if_neg hc, if_neg hc]
theorem SlAt.rowP {v : Value} {b cap : Nat} {cs : Array Value} (h : SlAt 1 v (some (b, cs)) N b cap cs (fun c => .int .u8 (f c : Int))) : cs = rowP N cap f (fun c => cs[c]?.getD undef) :=
  fnC_ext (by rw [h.sz, Nat.mul_one]) fun i hi => by
    by_cases e : i < N
    · rw [if_pos e]; exact h.get i (by omega)
    · rw [if_neg e]
      have : i < cs.size := by rw [h.sz]; omega
      simp [this]
end
structure RowsLP (L : Own) (N m : Nat) (κ : Nat → Nat) (Xs : Nat → Nat → Value) (γ pos : Nat → Nat) (M : Nat → Nat → Nat) : Prop where
  at_ : ∀ i, i < m → L[pos i]? = some (some (γ i, rowP N (κ (γ i)) (M i) (Xs (γ i))))
  inj : ∀ i j, i < m → j < m → pos i = pos j → i = j
  ne0 : ∀ i, i < m → pos i ≠ 0
namespace RowsLP
variable {L : Own} {N m : Nat} {κ : Nat → Nat} {Xs : Nat → Nat → Value} {γ pos : Nat → Nat} {M : Nat → Nat → Nat}
theorem setRow (h : RowsLP L N m κ Xs γ pos M) {i : Nat} (hi : i < m) (r : Nat → Nat) {cs : Array Value} (hc : cs = rowP N (κ (γ i)) r (Xs (γ i))) : RowsLP (L.set (pos i) (some (γ i, cs))) N m κ Xs γ pos (Go.Ech.upE M i r) :=
  ⟨fun j hj => by
    rw [List.getElem?_set]
    by_cases e : j = i
    · subst e
      have hl := (List.getElem?_eq_some_iff.1 (h.at_ j hj)).1
      rw [if_pos rfl, if_pos hl, hc]; simp only [Go.Ech.upE, if_true]
    · rw [if_neg (fun e2 => e (h.inj _ _ hj hi e2.symm))]; simp only [Go.Ech.upE, if_neg e]; exact h.at_ j hj, h.inj, h.ne0⟩
theorem congr {M' : Nat → Nat → Nat} (h : RowsLP L N m κ Xs γ pos M) (e : ∀ i, i < m → M i = M' i) : RowsLP L N m κ Xs γ pos M' :=
  ⟨fun i hi => by rw [← e i hi]; exact h.at_ i hi, h.inj, h.ne0⟩
theorem apart {X : List Nat} {w0 w : World} {D : Froz} (h : RowsLP L N m κ Xs γ pos M) (hM : MemX X w0 w L D) {i j : Nat} (hi : i < m) (hj : j < m) (hne : i ≠ j) : γ i ≠ γ j := fun e => by
  have h1 := h.at_ i hi
  have h2 := h.at_ j hj
  rw [e] at h1
  exact hne (h.inj i j hi hj (hM.apart _ _ _ _ _ h1 h2))
end RowsLP
def rowsLP0 (b0 : Nat) (cs0 : Array Value) (N m : Nat) (κ : Nat → Nat) (Xs : Nat → Nat → Value) (γ : Nat → Nat) (M : Nat → Nat → Nat) : Own := some (b0, cs0) :: (List.range m).map (fun i => some (γ i, rowP N (κ (γ i)) (M i) (Xs (γ i))))
end Go.Sw

namespace Go.Ech
open Go.Sw
def augI (F : Nat → Nat → Nat) (i c : Nat) : Nat := if c < 6 then F i c else if c = 6 + i then 1 else 0
theorem mono_id {n : Nat} {ld : Nat → Nat} (hm : ∀ i j, i < j → j < n → ld i < ld j) (hl : ∀ i, i < n → ld i < n) : ∀ i, i < n → ld i = i := by
  have h1 : ∀ i, i < n → i ≤ ld i := by
    intro i
    induction i with
    | zero => intro _; omega
    | succ i ih => intro hi; have := ih (by omega); have := hm i (i + 1) (by omega) hi; omega
  have h2 : ∀ d i, i + d + 1 = n → ld i + d < n := by
    intro d
    induction d with
    | zero => intro i hi; have := hl i (by omega); omega
    | succ d ih => intro i hi; have := ih (i + 1) (by omega); have := hm i (i + 1) (by omega) (by omega); omega
  intro i hi;have := h1 i hi;have := h2 (n - 1 - i) i (by omega)
  omega
def FullK (p n : Nat) (F : Nat → Nat → Nat) : Prop := ∃ E ld, Rref p 6 E n ld ∧ ∀ x, Ker p 6 E n x ↔ Ker p 6 F n x
theorem FullK.zero {p n : Nat} {F : Nat → Nat → Nat} (hp : 2 ≤ p) (hn : n ≤ 6) (hF : ∀ i c, n ≤ c → F i c = 0) (h : FullK p n F) {x : Nat → Int} (hx : Ker p 6 F n x) (h0 : ∀ d, n ≤ d → d < 6 → x d = 0) {c : Nat} (hc : c < n) : (p : Int) ∣ x c := by
  obtain ⟨E, ld, hR, hK⟩ := h;have hl : ∀ i, i < n → ld i < n := fun i hi => Decidable.byContradiction fun hno =>
    no_lead (c := ld i) hp hR hK (hR.lt i hi) (fun j _ => hF j _ (by omega)) ⟨i, hi, rfl⟩
  have hid := mono_id hR.mono hl;have := (hK x).2 hx c hc
  unfold dot at this
  rw [sI_one (a := c) (by omega)] at this
  · have e := hR.one c hc
    rw [hid c hc] at e
    simpa [ci, e] using this
  · intro d hd hne
    by_cases hdn : d < n
    · have := hR.zero d c hdn hc hne
      rw [hid d hdn] at this
      simp [ci, this]
    · rw [h0 d (by omega) hd]; simp
structure IsCop (p n : Nat) (F G : Nat → Nat → Nat) : Prop where
  lt : ∀ i j, G i j < p
  out : ∀ i j, n ≤ i ∨ n ≤ j → G i j = 0
  sol : ∀ i, i < n → ∀ j, j < n → (p : Int) ∣ sI (fun k => (F i k : Int) * (G k j : Int)) n - (dl i j : Int)
end Go.Ech
