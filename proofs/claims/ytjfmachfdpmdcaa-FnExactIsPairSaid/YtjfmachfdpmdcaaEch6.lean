/- Plain lemmas of a small calculus for walks over frames and own memory; no statement of the seat is proved here. -/
import Derived.Test.YtjfmachfdpmdcaaSw9
import Derived.Test.YtjfmachfdpmdcaaSw21
import Derived.ReadAgain
import Derived.ChangeSlices
import Derived.Test.YtjfmachfdpmdcaaEch5
import Derived.Test.YtjfmachfdpmdcaaSw19
set_option linter.unusedVariables false
set_option linter.unusedSimpArgs false
namespace Go.Sw
open Go Go.RowKit Go.ChangeShapes Go.WideShapes Go.ChangeAt
def numI (m : Nat) (g : Nat → Int) : Array Value := fnC m (fun c => .int .i64 (g c))
section
variable {m q : Nat} {f g : Nat → Int}
end
def ArgSl (w : World) (sl : Value) (m : Nat) (g : Nat → Int) : Prop :=
  (∃ x c, sl = .slice x m c) ∧ (0 < m → ∃ b o c, sl = .slice (some ⟨b, o, none⟩) m c ∧ ∀ i, i < m → w.cell? ⟨b, o + i * 1, none⟩ = some (.int .i64 (g i)))
theorem cell_ext {w w' : World} {b o : Nat} {v : Value} (h : w.cell? ⟨b, o, none⟩ = some v) (hx : Ext w w') : w'.cell? ⟨b, o, none⟩ = some v := by
  have hb : b < w.heap.size := by
    by_cases hb : b < w.heap.size
    · exact hb
    · have hn : w.heap[b]? = none := by simp; omega
      unfold World.cell? at h
      simp only [hn] at h
      cases h
  unfold World.cell? at h ⊢
  simp only [hx.block b hb];exact h
theorem ArgSl.ext {w w' : World} {sl : Value} {m : Nat} {g : Nat → Int} (h : ArgSl w sl m g) (hx : Ext w w') : ArgSl w' sl m g :=
  ⟨h.1, fun hm => by obtain ⟨b, o, c, h1, h3⟩ := h.2 hm; exact ⟨b, o, c, h1, fun i hi => cell_ext (h3 i hi) hx⟩⟩
theorem ArgSl.one {w : World} {sl : Value} {m : Nat} {g : Nat → Int} (h : ArgSl w sl m g) : sl.oneCell' = true := by
  obtain ⟨⟨x, c, rfl⟩, _⟩ := h; rfl
theorem ArgSl.congr {w : World} {sl : Value} {m : Nat} {g g' : Nat → Int} (h : ArgSl w sl m g) (e : ∀ i, i < m → g i = g' i) : ArgSl w sl m g' :=
  ⟨h.1, fun hm => by obtain ⟨b, o, c, h1, h3⟩ := h.2 hm; exact ⟨b, o, c, h1, fun i hi => by rw [← e i hi]; exact h3 i hi⟩⟩
section
variable {P : Program} {n : Nat} {F : List (Nat × Value)} {a : Act} {w : World} {d : Option Tmp} {t : TypeId} {pos : String} {af : Array Edge} {gd : Option (Nat × Bool)} {x : Operand}
end
section
variable {H : Type} {enc : TypeId × Value → H} {P : Program} {w w' : World}
variable {base : Nat} {spare : Nat → Bool} {held : Bool}
def tenFs (fs : Array Field) (ti ts : TypeId) : Bool := (List.range 5).all fun i => match fs[i]? with
  | some f => Nat.beq f.offset i && Nat.beq f.type (if i < 4 then ti else ts)
  | none => false
end
section
variable {P : Program} {X : List Nat} {w0 w : World} {L : Own} {D : Froz} {n : Nat} {F : List (Nat × Value)} {a : Act} {d : Option Tmp} {T : TypeId} {t : TypeId} {pos : String} {af : Array Edge} {gd : Option (Nat × Bool)} {x y : Operand}
end
abbrev TenOutI (w w' : World) (p n i o : Int) (m : Nat) (g : Nat → Int) (v : Value) : Prop :=
  ∃ b, v = .agg (tenC p n i o (.slice (some ⟨b, 0, none⟩) m m)) ∧ w.heap.size ≤ b ∧ Blk w' b (numI m g)
end Go.Sw

namespace Go.Sw
open Go Go.RowKit
inductive FactE where
  | val (v : Value)
  | frz (c : Array Value) (mk : Nat → Value)
  | own (mk : Nat → Value)
def factsE (kt : Nat) (l : List FactE) : Facts (Own × Froz) := fun i g u _ => match l[i]? with
  | some (.val v) => u = v
  | some (.frz c mk) => ∃ b, (b, c) ∈ g.2 ∧ u = mk b
  | some (.own mk) => ∃ b cs, u = mk b ∧ g.1[kt]? = some (some (b, cs))
  | none => True
def inE (c : Option (Array Value)) (b : Nat) (E : Froz) : Prop := match c with
  | none => True
  | some c => (b, c) ∈ E
theorem inE.more {c : Option (Array Value)} {b : Nat} {E : Froz} (h : inE c b E) (x : Nat × Array Value) : inE c b (x :: E) := by
  cases c with
  | none => trivial
  | some c => exact List.mem_cons_of_mem _ h
def ParE (X : List Nat) (w0 : World) (D : Froz) (L0 : Own) (kt : Nat) (csO : Array Value) (c3 : Option (Array Value)) (csN : Nat → Array Value) (bb : Bool) (g : Own × Froz) (w : World) : Prop :=
  (MemX X w0 w g.1 (g.2 ++ D) ∧ Same [kt] L0 g.1) ∧ ∀ b cs, g.1[kt]? = some (some (b, cs)) → (bb = false → cs = csO) ∧ (bb = true → ∃ x, inE c3 x g.2 ∧ cs = csN x)
section
variable {P : Program} {X : List Nat} {w0 w : World} {D : Froz} {L0 : Own} {g : Own × Froz} {kt : Nat} {csO : Array Value} {c3 : Option (Array Value)} {csN : Nat → Array Value} {bb : Bool} {l : List FactE} {i : Nat} {o : Oper} {a : Act}
def ownOnly : List FactE → Nat → Nat → Bool
  | [], _, _ => true
  | .own _ :: r, i, s => Nat.beq s i && ownOnly r i (s + 1)
  | _ :: r, i, s => ownOnly r i (s + 1)
end
theorem MemX.keep0 {X : List Nat} {w0 w : World} {L : Own} {D E : Froz} (h : MemX X w0 w L (E ++ D)) : MemX X w0 w L D := h.sub _ fun x hx => List.mem_append_right _ hx
end Go.Sw

namespace Go.Sw
open Go Go.RowKit
theorem vecs1_get {v : Nat → Nat} (q : Nat) (hq : q < 1 * 6) : (vecsC 1 (vAtL [v]))[0 + q]? = some (.int .u8 (v q : Int)) := by
  unfold vecsC
  rw [fnC_get (by omega), show (0 + q) / 6 = 0 by omega, show (0 + q) % 6 = q by omega]
  rfl
theorem Sl.snoc6 {u : Value} {e : Option (Nat × Array Value)} {N : Nat} {F G : Nat → Value} (h : Sl 6 u e (N + 1) (fun i => if i < N * 6 then F i else G (i - N * 6))) (hG : ∀ q, q < 6 → G q = F (N * 6 + q)) : Sl 6 u e (N + 1) F :=
  h.congr fun i hi => by
    by_cases h1 : i < N * 6
    · rw [if_pos h1]
    · rw [if_neg h1, hG _ (by omega), show N * 6 + (i - N * 6) = i by omega]
theorem SlAt.vec {u : Value} {e : Option (Nat × Array Value)} {N b cap : Nat} {cs : Array Value} {V : Nat → Nat → Nat} (h : SlAt 6 u e N b cap cs (fun c => .int .u8 (V (c / 6) (c % 6) : Int))) (i : Nat) (hi : i < N) : cs.extract (i * 6) (i * 6 + 6) = vecC (V i) :=
  extract_ext rfl (by rw [h.sz]; have := h.le; omega) fun q hq => by
    rw [h.get _ (by omega), show (i * 6 + q) / 6 = i by omega, show (i * 6 + q) % 6 = q by omega]
end Go.Sw

namespace Go.Sw
open Go Go.RowKit
def rowP (N K : Nat) (f : Nat → Nat) (x : Nat → Value) : Array Value := fnC K (fun c => if c < N then .int .u8 (f c : Int) else x c)
section
variable {N K o : Nat} {f g : Nat → Nat} {x : Nat → Value}
theorem rowP_congr (h : ∀ c, c < N → f c = g c) : rowP N K f x = rowP N K g x := fnC_congr fun c _ => by
  by_cases hc : c < N
  · rw [if_pos hc, if_pos hc, h c hc]
  · rw [if_neg hc, if_neg hc]
theorem SlAt.rowP {v : Value} {b cap : Nat} {cs : Array Value} (h : SlAt 1 v (some (b, cs)) N b cap cs (fun c => .int .u8 (f c : Int))) : cs = rowP N cap f (fun c => cs[c]?.getD undef) :=
  fnC_ext (by rw [h.sz, Nat.mul_one]) fun i hi => by
    by_cases e : i < N
    · rw [if_pos e]; exact h.get i (by omega)
    · rw [if_neg e]
      have : i < cs.size := by rw [h.sz]; omega
      simp [this]
end
structure RowsLP (L : Own) (N m : Nat) (κ : Nat → Nat) (Xs : Nat → Nat → Value) (γ pos : Nat → Nat) (M : Nat → Nat → Nat) : Prop where
  at_ : ∀ i, i < m → L[pos i]? = some (some (γ i, rowP N (κ (γ i)) (M i) (Xs (γ i))))
  inj : ∀ i j, i < m → j < m → pos i = pos j → i = j
  ne0 : ∀ i, i < m → pos i ≠ 0
namespace RowsLP
variable {L : Own} {N m : Nat} {κ : Nat → Nat} {Xs : Nat → Nat → Value} {γ pos : Nat → Nat} {M : Nat → Nat → Nat}
theorem set0 (h : RowsLP L N m κ Xs γ pos M) (x : Option (Nat × Array Value)) : RowsLP (L.set 0 x) N m κ Xs γ pos M :=
  ⟨fun i hi => by rw [List.getElem?_set, if_neg (fun e => h.ne0 i hi e.symm)]; exact h.at_ i hi, h.inj, h.ne0⟩
theorem setRow (h : RowsLP L N m κ Xs γ pos M) {i : Nat} (hi : i < m) (r : Nat → Nat) {cs : Array Value} (hc : cs = rowP N (κ (γ i)) r (Xs (γ i))) : RowsLP (L.set (pos i) (some (γ i, cs))) N m κ Xs γ pos (Go.Ech.upE M i r) :=
  ⟨fun j hj => by
    rw [List.getElem?_set]
    by_cases e : j = i
    · subst e
      have hl := (List.getElem?_eq_some_iff.1 (h.at_ j hj)).1
      rw [if_pos rfl, if_pos hl, hc]; simp only [Go.Ech.upE, if_true]
    · rw [if_neg (fun e2 => e (h.inj _ _ hj hi e2.symm))]; simp only [Go.Ech.upE, if_neg e]; exact h.at_ j hj, h.inj, h.ne0⟩
theorem swap (h : RowsLP L N m κ Xs γ pos M) {a b : Nat} (ha : a < m) (hb : b < m) : RowsLP L N m κ Xs (Go.Ech.sw a b γ) (Go.Ech.sw a b pos) (Go.Ech.sw a b M) := by
  refine ⟨fun i hi => ?_, fun i j hi hj e => ?_, fun i hi => ?_⟩
  · unfold Go.Ech.sw; split
    · exact h.at_ b hb
    · split
      · exact h.at_ a ha
      · exact h.at_ i hi
  · unfold Go.Ech.sw at e
    by_cases e1 : i = a <;> by_cases e2 : i = b <;> by_cases e3 : j = a <;> by_cases e4 : j = b <;> simp only [e1, e2, e3, e4, if_true, if_false] at e <;> first | omega | (have := h.inj _ _ hb ha e; omega) | (have := h.inj _ _ ha hb e; omega) | (split at e <;> first | (have := h.inj _ _ hb (by omega) e; omega) | (have := h.inj _ _ ha (by omega) e; omega) | (have := h.inj _ _ (by omega) (by omega) e; omega)) | (have := h.inj _ _ (by omega) (by omega) e; omega)
  · unfold Go.Ech.sw; split
    · exact h.ne0 b hb
    · split
      · exact h.ne0 a ha
      · exact h.ne0 i hi
theorem congr {M' : Nat → Nat → Nat} (h : RowsLP L N m κ Xs γ pos M) (e : ∀ i, i < m → M i = M' i) : RowsLP L N m κ Xs γ pos M' :=
  ⟨fun i hi => by rw [← e i hi]; exact h.at_ i hi, h.inj, h.ne0⟩
theorem apart {X : List Nat} {w0 w : World} {D : Froz} (h : RowsLP L N m κ Xs γ pos M) (hM : MemX X w0 w L D) {i j : Nat} (hi : i < m) (hj : j < m) (hne : i ≠ j) : γ i ≠ γ j := fun e => by
  have h1 := h.at_ i hi
  have h2 := h.at_ j hj
  rw [e] at h1
  exact hne (h.inj i j hi hj (hM.apart _ _ _ _ _ h1 h2))
end RowsLP
def rowsLP0 (b0 : Nat) (cs0 : Array Value) (N m : Nat) (κ : Nat → Nat) (Xs : Nat → Nat → Value) (γ : Nat → Nat) (M : Nat → Nat → Nat) : Own := some (b0, cs0) :: (List.range m).map (fun i => some (γ i, rowP N (κ (γ i)) (M i) (Xs (γ i))))
end Go.Sw

namespace Go.Ech
open Go.Sw
def augI (F : Nat → Nat → Nat) (i c : Nat) : Nat := if c < 6 then F i c else if c = 6 + i then 1 else 0
theorem mono_id {n : Nat} {ld : Nat → Nat} (hm : ∀ i j, i < j → j < n → ld i < ld j) (hl : ∀ i, i < n → ld i < n) : ∀ i, i < n → ld i = i := by
  have h1 : ∀ i, i < n → i ≤ ld i := by
    intro i
    induction i with
    | zero => intro _; omega
    | succ i ih => intro hi; have := ih (by omega); have := hm i (i + 1) (by omega) hi; omega
  have h2 : ∀ d i, i + d + 1 = n → ld i + d < n := by
    intro d
    induction d with
    | zero => intro i hi; have := hl i (by omega); omega
    | succ d ih => intro i hi; have := ih (i + 1) (by omega); have := hm i (i + 1) (by omega) (by omega); omega
  intro i hi;have := h1 i hi;have := h2 (n - 1 - i) i (by omega)
  omega
def FullK (p n : Nat) (F : Nat → Nat → Nat) : Prop := ∃ E ld, Rref p 6 E n ld ∧ ∀ x, Ker p 6 E n x ↔ Ker p 6 F n x
theorem FullK.zero {p n : Nat} {F : Nat → Nat → Nat} (hp : 2 ≤ p) (hn : n ≤ 6) (hF : ∀ i c, n ≤ c → F i c = 0) (h : FullK p n F) {x : Nat → Int} (hx : Ker p 6 F n x) (h0 : ∀ d, n ≤ d → d < 6 → x d = 0) {c : Nat} (hc : c < n) : (p : Int) ∣ x c := by
  obtain ⟨E, ld, hR, hK⟩ := h;have hl : ∀ i, i < n → ld i < n := fun i hi => Decidable.byContradiction fun hno =>
    no_lead (c := ld i) hp hR hK (hR.lt i hi) (fun j _ => hF j _ (by omega)) ⟨i, hi, rfl⟩
  have hid := mono_id hR.mono hl;have := (hK x).2 hx c hc
  unfold dot at this
  rw [sI_one (a := c) (by omega)] at this
  · have e := hR.one c hc
    rw [hid c hc] at e
    simpa [ci, e] using this
  · intro d hd hne
    by_cases hdn : d < n
    · have := hR.zero d c hdn hc hne
      rw [hid d hdn] at this
      simp [ci, this]
    · rw [h0 d (by omega) hd]; simp
structure IsCop (p n : Nat) (F G : Nat → Nat → Nat) : Prop where
  lt : ∀ i j, G i j < p
  out : ∀ i j, n ≤ i ∨ n ≤ j → G i j = 0
  sol : ∀ i, i < n → ∀ j, j < n → (p : Int) ∣ sI (fun k => (F i k : Int) * (G k j : Int)) n - (dl i j : Int)
theorem cop_col {p n : Nat} {F : Nat → Nat → Nat} (hp : 2 ≤ p) (hn : n ≤ 6) (hF : ∀ i c, n ≤ c → F i c = 0) (h : FullK p n F) {x y : Nat → Nat} {b : Nat → Int} (hx : ∀ c, c < n → x c < p) (hy : ∀ c, c < n → y c < p) (h1 : ∀ i, i < n → (p : Int) ∣ sI (fun k => (F i k : Int) * (x k : Int)) n - b i) (h2 : ∀ i, i < n → (p : Int) ∣ sI (fun k => (F i k : Int) * (y k : Int)) n - b i) : ∀ c, c < n → x c = y c := by
  intro c hc;have hK : Ker p 6 F n (fun c => if c < n then (x c : Int) - (y c : Int) else 0) := fun i hi => by
    have h3 := Int.dvd_sub (h1 i hi) (h2 i hi);have e : dot 6 (ci (F i)) (fun c => if c < n then (x c : Int) - (y c : Int) else 0) = sI (fun k => (F i k : Int) * (x k : Int)) n - b i - (sI (fun k => (F i k : Int) * (y k : Int)) n - b i) := by
      unfold dot
      rw [sI_cut hn (fun c h1 _ => by simp [show ¬ c < n by omega])];have : sI (fun k => (F i k : Int) * (x k : Int)) n = sI (fun c => ci (F i) c * (if c < n then (x c : Int) - (y c : Int) else 0)) n + sI (fun k => (F i k : Int) * (y k : Int)) n := by
        rw [← sI_add]; exact sI_congr fun c hc => by rw [if_pos hc]; grind
      rw [this]
      show sI (fun c => ci (F i) c * (if c < n then (x c : Int) - (y c : Int) else 0)) n = _
      omega
    rw [e]; exact h3
  have := h.zero hp hn hF hK (fun d h1 _ => by simp [show ¬ d < n by omega]) hc;simp only [if_pos hc] at this;exact eq_of_dvd (hx c hc) (hy c hc) this
theorem IsCop.unique {p n : Nat} {F G G' : Nat → Nat → Nat} (hp : 2 ≤ p) (hn : n ≤ 6) (hF : ∀ i c, n ≤ c → F i c = 0) (hf : FullK p n F) (h : IsCop p n F G) (h' : IsCop p n F G') : G = G' := by
  funext i j
  by_cases e : n ≤ i ∨ n ≤ j
  · rw [h.out i j e, h'.out i j e]
  · exact cop_col hp hn hF hf (x := fun k => G k j) (y := fun k => G' k j) (b := fun i => (dl i j : Int)) (fun c _ => h.lt c j) (fun c _ => h'.lt c j) (fun i hi => h.sol i hi j (by omega)) (fun i hi => h'.sol i hi j (by omega)) i (by omega)
end Go.Ech
