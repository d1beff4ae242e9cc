/- Plain lemmas of a small calculus for walks over frames and own memory; no statement of the seat is proved here. -/
import Derived.Test.YtfencffdhenjdaaDoorSw28
import Derived.Test.YtfencffdhenjdaaDoorSw23
import Derived.Test.YtfencffdhenjdaaDoorSw18
import Derived.Test.YtfencffdhenjdaaDoorSw23
set_option linter.unusedVariables false
set_option linter.unusedSimpArgs false
namespace Go.Sw
open Go Go.RowKit
theorem vecs1_get {v : Nat → Nat} (q : Nat) (hq : q < 1 * 6) : (vecsC 1 (vAtL [v]))[0 + q]? = some (.int .u8 ((v q : Nat) : Int)) := by
  unfold vecsC
  rw [fnC_get (by omega), show (0 + q) / 6 = 0 by omega, show (0 + q) % 6 = q by omega]
  rfl
/-- One vector more. -/
theorem Sl.snoc6 {u : Value} {e : Option (Nat × Array Value)} {N : Nat} {F G : Nat → Value} (h : Sl 6 u e (N + 1) (fun i => if i < N * 6 then F i else G (i - N * 6))) (hG : ∀ q, q < 6 → G q = F (N * 6 + q)) : Sl 6 u e (N + 1) F :=
  h.congr fun i hi => by
    by_cases h1 : i < N * 6
    · rw [if_pos h1]
    · rw [if_neg h1, hG _ (by omega), show N * 6 + (i - N * 6) = i by omega]
theorem SlAt.vec {u : Value} {e : Option (Nat × Array Value)} {N b cap : Nat} {cs : Array Value} {V : Nat → Nat → Nat} (h : SlAt 6 u e N b cap cs (fun c => .int .u8 ((V (c / 6) (c % 6) : Nat) : Int))) (i : Nat) (hi : i < N) : cs.extract (i * 6) (i * 6 + 6) = vecC (V i) :=
  extract_ext rfl (by rw [h.sz]; have := h.le; omega) fun q hq => by
    rw [h.get _ (by omega), show (i * 6 + q) / 6 = i by omega, show (i * 6 + q) % 6 = q by omega]
end Go.Sw

namespace Go.Sw
open Go Go.RowKit
/-- A row of N numbers, with spare cells behind it. -/
def rowP (N K : Nat) (f : Nat → Nat) (x : Nat → Value) : Array Value := fnC K (fun c => if c < N then .int .u8 ((f c : Nat) : Int) else x c)
section
variable {N K o : Nat} {f g : Nat → Nat} {x : Nat → Value}
theorem rowP_congr (h : ∀ c, c < N → f c = g c) : rowP N K f x = rowP N K g x := fnC_congr fun c _ => by
  by_cases hc : c < N
  · rw [if_pos hc, if_pos hc, h c hc]
  · rw [if_neg hc, if_neg hc]
theorem SlAt.rowP {v : Value} {b cap : Nat} {cs : Array Value} (h : SlAt 1 v (some (b, cs)) N b cap cs (fun c => .int .u8 ((f c : Nat) : Int))) : cs = rowP N cap f (fun c => cs[c]?.getD undef) :=
  fnC_ext (by rw [h.sz, Nat.mul_one]) fun i hi => by
    by_cases e : i < N
    · rw [if_pos e]; exact h.get i (by omega)
    · rw [if_neg e]
      have : i < cs.size := by rw [h.sz]; omega
      simp [this]
end
/-- m rows of N numbers with spare cells, each at a place of its own; the list of them is at place 0. -/
structure RowsLP (L : Own) (N m : Nat) (κ : Nat → Nat) (Xs : Nat → Nat → Value) (γ pos : Nat → Nat) (M : Nat → Nat → Nat) : Prop where
  at_ : ∀ i, i < m → L[pos i]? = some (some (γ i, rowP N (κ (γ i)) (M i) (Xs (γ i))))
  inj : ∀ i j, i < m → j < m → pos i = pos j → i = j
  ne0 : ∀ i, i < m → pos i ≠ 0
namespace RowsLP
variable {L : Own} {N m : Nat} {κ : Nat → Nat} {Xs : Nat → Nat → Value} {γ pos : Nat → Nat} {M : Nat → Nat → Nat}
theorem set0 (h : RowsLP L N m κ Xs γ pos M) (x : Option (Nat × Array Value)) : RowsLP (L.set 0 x) N m κ Xs γ pos M :=
  ⟨fun i hi => by rw [List.getElem?_set, if_neg (fun e => h.ne0 i hi e.symm)]; exact h.at_ i hi, h.inj, h.ne0⟩
theorem setRow (h : RowsLP L N m κ Xs γ pos M) {i : Nat} (hi : i < m) (r : Nat → Nat) {cs : Array Value} (hc : cs = rowP N (κ (γ i)) r (Xs (γ i))) : RowsLP (L.set (pos i) (some (γ i, cs))) N m κ Xs γ pos (Go.Ech.upE M i r) :=
  ⟨fun j hj => by
    rw [List.getElem?_set]
    by_cases e : j = i
    · subst e
      have hl := (List.getElem?_eq_some_iff.1 (h.at_ j hj)).1
      rw [if_pos rfl, if_pos hl, hc]; simp only [Go.Ech.upE, if_true]
    · rw [if_neg (fun e2 => e (h.inj _ _ hj hi e2.symm))]; simp only [Go.Ech.upE, if_neg e]; exact h.at_ j hj, h.inj, h.ne0⟩
theorem swap (h : RowsLP L N m κ Xs γ pos M) {a b : Nat} (ha : a < m) (hb : b < m) : RowsLP L N m κ Xs (Go.Ech.sw a b γ) (Go.Ech.sw a b pos) (Go.Ech.sw a b M) := by
  refine ⟨fun i hi => ?_, fun i j hi hj e => ?_, fun i hi => ?_⟩
  · unfold Go.Ech.sw; split
    · exact h.at_ b hb
    · split
      · exact h.at_ a ha
      · exact h.at_ i hi
  · unfold Go.Ech.sw at e
    by_cases e1 : i = a <;> by_cases e2 : i = b <;> by_cases e3 : j = a <;> by_cases e4 : j = b <;> simp only [e1, e2, e3, e4, if_true, if_false] at e <;> first | omega | (have := h.inj _ _ hb ha e; omega) | (have := h.inj _ _ ha hb e; omega) | (split at e <;> first | (have := h.inj _ _ hb (by omega) e; omega) | (have := h.inj _ _ ha (by omega) e; omega) | (have := h.inj _ _ (by omega) (by omega) e; omega)) | (have := h.inj _ _ (by omega) (by omega) e; omega)
  · unfold Go.Ech.sw; split
    · exact h.ne0 b hb
    · split
      · exact h.ne0 a ha
      · exact h.ne0 i hi
theorem congr {M' : Nat → Nat → Nat} (h : RowsLP L N m κ Xs γ pos M) (e : ∀ i, i < m → M i = M' i) : RowsLP L N m κ Xs γ pos M' :=
  ⟨fun i hi => by rw [← e i hi]; exact h.at_ i hi, h.inj, h.ne0⟩
theorem apart {X : List Nat} {w0 w : World} {D : Froz} (h : RowsLP L N m κ Xs γ pos M) (hM : MemX X w0 w L D) {i j : Nat} (hi : i < m) (hj : j < m) (hne : i ≠ j) : γ i ≠ γ j := fun e => by
  have h1 := h.at_ i hi
  have h2 := h.at_ j hj
  rw [e] at h1
  exact hne (h.inj i j hi hj (hM.apart _ _ _ _ _ h1 h2))
end RowsLP
def rowsLP0 (b0 : Nat) (cs0 : Array Value) (N m : Nat) (κ : Nat → Nat) (Xs : Nat → Nat → Value) (γ : Nat → Nat) (M : Nat → Nat → Nat) : Own := some (b0, cs0) :: (List.range m).map (fun i => some (γ i, rowP N (κ (γ i)) (M i) (Xs (γ i))))
end Go.Sw
