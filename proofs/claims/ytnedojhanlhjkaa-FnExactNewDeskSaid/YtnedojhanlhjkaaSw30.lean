/- Plain lemmas of a small calculus for walks over frames and own memory; no statement of the seat is proved here. -/
import Derived.Test.YtnedojhanlhjkaaSw21
import Derived.Test.YtnedojhanlhjkaaSw27
import Derived.Test.YtnedojhanlhjkaaSw14
import Derived.Test.YtnedojhanlhjkaaSw9
import Derived.Recover
import Derived.Test.YtnedojhanlhjkaaSw19
set_option linter.unusedVariables false
set_option linter.unusedSimpArgs false
namespace Go.Sw
open Go Go.RowKit Go.ChangeShapes Go.WideShapes Go.ChangeAt
def ArgVs (w : World) (sl : Value) (m : Nat) (V : Nat → Nat → Nat) : Prop :=
  (∃ x c, sl = .slice x m c) ∧ (0 < m → ∃ b o c, sl = .slice (some ⟨b, o, none⟩) m c ∧ ∀ i, i < m → ∀ j, j < 6 → w.cell? ⟨b, o + i * 6 + j, none⟩ = some (.int .u8 (V i j : Int)))
theorem ArgVs.ext {w w' : World} {sl : Value} {m : Nat} {V : Nat → Nat → Nat} (h : ArgVs w sl m V) (hx : Ext w w') : ArgVs w' sl m V :=
  ⟨h.1, fun hm => by obtain ⟨b, o, c, h1, h3⟩ := h.2 hm; exact ⟨b, o, c, h1, fun i hi j hj => cell_ext (h3 i hi j hj) hx⟩⟩
theorem ArgVs.one {w : World} {sl : Value} {m : Nat} {V : Nat → Nat → Nat} (h : ArgVs w sl m V) : sl.oneCell' = true := by
  obtain ⟨⟨x, c, rfl⟩, _⟩ := h; rfl
section
variable {P : Program} {n : Nat} {F : List (Nat × Value)} {a : Act} {w : World} {d : Option Tmp} {t : TypeId} {pos : String} {af : Array Edge} {gd : Option (Nat × Bool)} {x : Operand}
end
section
variable {H : Type} {enc : TypeId × Value → H} {P : Program} {w w' : World} {base : Nat} {spare : Nat → Bool} {held : Bool}
theorem cells?_get {a : Addr} {n : Nat} {cs : List Value} (h : w.cells? base a n = some cs) : cs.length = n ∧ ∀ i, i < n → w.cell? (a.add i) = cs[i]? := by
  unfold World.cells? at h
  split at h
  · have hl := mapM_some_length h
    rw [List.length_range] at hl;refine ⟨hl.symm ▸ rfl, fun i hi => ?_⟩;have := mapM_some_get h i i (by rw [List.getElem?_range hi]);exact this
  · cases h
end
section
variable {H : Type} {enc : TypeId × Value → H} {P : Program} {w : World} {base : Nat} {spare : Nat → Bool} {held : Bool}
end
section
variable {P : Program} {X : List Nat} {w0 w : World} {L : Own} {D : Froz} {n : Nat} {F : List (Nat × Value)} {a : Act} {d : Option Tmp} {T : TypeId} {t : TypeId} {pos : String} {af : Array Edge} {gd : Option (Nat × Bool)} {x y : Operand}
end
end Go.Sw

namespace Go.Sw
open Go Go.RowKit Go.ChangeShapes Go.WideShapes Go.ChangeAt
def grpC (n : Int) (M : Nat → Nat → Nat) : Array Value := fnC 37 fun c => if c = 0 then .int .i64 n else .int .u8 (M ((c - 1) / 6) ((c - 1) % 6))
section
variable {n q : Int} {M N : Nat → Nat → Nat}
theorem grpC_size : (grpC n M).size = 37 := fnC_size _ _
end
def grpKs : List IntKind := .i64 :: List.replicate 36 .u8
section
variable {H : Type} {enc : TypeId × Value → H} {P : Program} {w : World} {base : Nat} {spare : Nat → Bool} {held : Bool} {t : TypeId} {v : Value} {d : DataW H} {p : List MemPlace}
end
end Go.Sw

namespace Go.Sw
open Go Go.RowKit
variable {P : Program}
/-! ### Deferred calls: what was laid before lies behind the frame. -/
def addD (ds : List Deferred) (a : Act) : Act := ⟨a.tmps, a.defers ++ ds⟩
section
variable {ds : List Deferred} {ops : Array Oper} {Q : Exit → Act → World → Prop} {n : Nat} {F : List (Nat × Value)} {a : Act} {w : World}
end
end Go.Sw

namespace Go.Sw
open Go Go.RowKit
variable {P : Program}
/-! ### A door: a deferred closure that recovers. -/
section
variable {ops : Array Oper} {Q : Exit → Act → World → Prop} {rest : List Oper} {n : Nat} {F : List (Nat × Value)} {a : Act} {w : World} {d : Option Tmp} {t : TypeId} {pos : String} {af : Array Edge} {gd : Option (Nat × Bool)}
theorem d_callV {f : FuncId} {x : Operand} {cap : List Value} {xs : List Operand} {vs : List Value} {ats : Array TypeId} {R : Value → World → Prop} (hf : ∀ args w, (callFunc f args).run P w = .ok (.enter f args) w) (hF : Fr n a F) (hfx : look F x = some (.func (.func f) #[] cap.toArray)) (hx : looks F xs vs) (hc : CallsR P f (vs ++ cap).toArray w R) :
    Does P ⟨d, .call { callee := .value x, args := xs.toArray, argTypes := ats }, t, pos, af, gd⟩ a w (fun u w' => Ext w w' ∧ R u w') :=
  ⟨fun K Q hk => by
    have hrun : (execOp a.eval ⟨d, .call { callee := .value x, args := xs.toArray, argTypes := ats }, t, pos, af, gd⟩).run P w = .ok (.enter f (vs ++ cap).toArray) w := by
      have e : (xs.toArray.map a.eval) = vs.toArray := by rw [← hF.evals hx]; simp
      simp [execOp, resolve, hF.eval hfx, Deferred.ofValue, invoke, e, hf]
    unfold Oper.wp
    rw [hrun]
    show Calls P f (vs ++ cap).toArray w _
    exact Calls.mono (show Calls P f (vs ++ cap).toArray w _ from hc) fun e w' ⟨v, he, h1, h2⟩ => by subst he; exact hk v w' ⟨h1, h2⟩⟩
def okA (tm : Array Value) : List (Nat × Value) → Prop
  | [] => True
  | (t, v) :: r => tm.getD t undef = v ∧ okA tm r
def Clo (P : Program) (f b : Nat) (u : FrameMode) (w : World) (c : Value) : Prop :=
  CallsD P f #[ptr b 0] u w fun e u' w' => (∃ v, e = .returned v) ∧ settle u' = .returning ∧ ExtX [b] w w' ∧ Blk w' b #[c]
end
end Go.Sw

namespace Go.Sw
open Go Go.RowKit
def l4 (a b c d : Nat) (i : Nat) : Nat := match i with
  | 0 => a
  | 1 => b
  | 2 => c
  | _ => d
theorem algC_putRow {p n : Int} {T : Nat → Nat → Nat → Nat} {f v : Nat → Nat} {o : Nat} (a b : Nat) (h : o = 2 + a * 36 + b * 6) (ha : a < 6) (hb : b < 6) : splice (algC p n T f) o (vecC v) = algC p n (fun i j k => if i = a ∧ j = b then v k else T i j k) f := by
  subst h;have hz : 2 + a * 36 + b * 6 + (vecC v).size ≤ (algC p n T f).size := by rw [vecC_size, cells_size]; omega
  refine algC_eq (by rw [splice_size _ _ _ hz, cells_size]) ?_ ?_ ?_ ?_
  · rw [splice_get _ _ _ _ hz, if_neg (by omega)]; exact algC_p rfl
  · rw [splice_get _ _ _ _ hz, if_neg (by omega)]; exact algC_n rfl
  · intro i j k hi hj hk
    rw [splice_get _ _ _ _ hz, vecC_size]
    by_cases e : i = a ∧ j = b
    · rw [if_pos (by omega), if_pos e]; exact vecC_get k (by omega) hk
    · rw [if_neg (by omega), if_neg e]; exact algC_T i j k rfl hi hj hk
  · intro i hi; rw [splice_get _ _ _ _ hz, vecC_size, if_neg (by omega)]; exact algC_f i rfl hi
theorem algC_congr {p n : Int} {T U : Nat → Nat → Nat → Nat} {f : Nat → Nat} (h : ∀ i, i < 6 → ∀ j, j < 6 → ∀ k, k < 6 → T i j k = U i j k) : algC p n T f = algC p n U f := by
  unfold algC
  refine fnC_congr fun c hc => ?_
  by_cases h0 : c = 0
  · rw [if_pos h0, if_pos h0]
  · rw [if_neg h0, if_neg h0]
    by_cases h1 : c = 1
    · rw [if_pos h1, if_pos h1]
    · rw [if_neg h1, if_neg h1]
      by_cases h2 : c < 218
      · rw [if_pos h2, if_pos h2, h _ (by omega) _ (by omega) _ (by omega)]
      · rw [if_neg h2, if_neg h2]
theorem algC_setE {p n : Int} {T : Nat → Nat → Nat → Nat} {f : Nat → Nat} {o v : Nat} (a b c : Nat) (h : o = 2 + a * 36 + b * 6 + c) (ha : a < 6) (hb : b < 6) (hc : c < 6) : (algC p n T f).setIfInBounds o (.int .u8 (v : Int)) = algC p n (fun i j k => if i = a ∧ j = b ∧ k = c then v else T i j k) f := by
  subst h;refine algC_eq (by rw [Array.size_setIfInBounds, cells_size]) ?_ ?_ ?_ ?_
  · rw [Array.getElem?_setIfInBounds_ne (by omega)]; exact algC_p rfl
  · rw [Array.getElem?_setIfInBounds_ne (by omega)]; exact algC_n rfl
  · intro i j k hi hj hk
    by_cases e : i = a ∧ j = b ∧ k = c
    · obtain ⟨rfl, rfl, rfl⟩ := e
      rw [Array.getElem?_setIfInBounds_self_of_lt (by rw [cells_size]; omega), if_pos ⟨rfl, rfl, rfl⟩]
    · rw [Array.getElem?_setIfInBounds_ne (by omega), if_neg e]; exact algC_T i j k rfl hi hj hk
  · intro i hi; rw [Array.getElem?_setIfInBounds_ne (by omega)]; exact algC_f i rfl hi
section
variable {P : Program} {n : Nat} {F : List (Nat × Value)} {a : Act} {w : World} {d : Option Tmp} {t : TypeId} {pos : String} {af : Array Edge} {gd : Option (Nat × Bool)}
end
end Go.Sw

namespace Go.Sw
open Go Go.RowKit
inductive FactE where
  | val (v : Value)
  | frz (c : Array Value) (mk : Nat → Value)
  | own (mk : Nat → Value)
def factsE (kt : Nat) (l : List FactE) : Facts (Own × Froz) := fun i g u _ => match l[i]? with
  | some (.val v) => u = v
  | some (.frz c mk) => ∃ b, (b, c) ∈ g.2 ∧ u = mk b
  | some (.own mk) => ∃ b cs, u = mk b ∧ g.1[kt]? = some (some (b, cs))
  | none => True
def inE (c : Option (Array Value)) (b : Nat) (E : Froz) : Prop := match c with
  | none => True
  | some c => (b, c) ∈ E
theorem inE.more {c : Option (Array Value)} {b : Nat} {E : Froz} (h : inE c b E) (x : Nat × Array Value) : inE c b (x :: E) := by
  cases c with
  | none => trivial
  | some c => exact List.mem_cons_of_mem _ h
def ParE (X : List Nat) (w0 : World) (D : Froz) (L0 : Own) (kt : Nat) (csO : Array Value) (c3 : Option (Array Value)) (csN : Nat → Array Value) (bb : Bool) (g : Own × Froz) (w : World) : Prop :=
  (MemX X w0 w g.1 (g.2 ++ D) ∧ Same [kt] L0 g.1) ∧ ∀ b cs, g.1[kt]? = some (some (b, cs)) → (bb = false → cs = csO) ∧ (bb = true → ∃ x, inE c3 x g.2 ∧ cs = csN x)
section
variable {P : Program} {X : List Nat} {w0 w : World} {D : Froz} {L0 : Own} {g : Own × Froz} {kt : Nat} {csO : Array Value} {c3 : Option (Array Value)} {csN : Nat → Array Value} {bb : Bool} {l : List FactE} {i : Nat} {o : Oper} {a : Act}
def ownOnly : List FactE → Nat → Nat → Bool
  | [], _, _ => true
  | .own _ :: r, i, s => Nat.beq s i && ownOnly r i (s + 1)
  | _ :: r, i, s => ownOnly r i (s + 1)
end
end Go.Sw

namespace Go.Sw
open Go Go.RowKit
end Go.Sw

namespace Go.Sw
open Go Go.RowKit
def rowP (N K : Nat) (f : Nat → Nat) (x : Nat → Value) : Array Value := fnC K (fun c => if c < N then .int .u8 (f c : Int) else x c)
section
variable {N K o : Nat} {f g : Nat → Nat} {x : Nat → Value}
theorem rowP_congr (h : ∀ c, c < N → f c = g c) : rowP N K f x = rowP N K g x := fnC_congr fun c _ => by
  by_cases hc : c < N
  · rw [if_pos hc, if_pos hc, h c hc]
  · rw [if_neg hc, if_neg hc]
theorem SlAt.rowP {v : Value} {b cap : Nat} {cs : Array Value} (h : SlAt 1 v (some (b, cs)) N b cap cs (fun c => .int .u8 (f c : Int))) : cs = rowP N cap f (fun c => cs[c]?.getD undef) :=
  fnC_ext (by rw [h.sz, Nat.mul_one]) fun i hi => by
    by_cases e : i < N
    · rw [if_pos e]; exact h.get i (by omega)
    · rw [if_neg e]
      have : i < cs.size := by rw [h.sz]; omega
      simp [this]
end
structure RowsLP (L : Own) (N m : Nat) (κ : Nat → Nat) (Xs : Nat → Nat → Value) (γ pos : Nat → Nat) (M : Nat → Nat → Nat) : Prop where
  at_ : ∀ i, i < m → L[pos i]? = some (some (γ i, rowP N (κ (γ i)) (M i) (Xs (γ i))))
  inj : ∀ i j, i < m → j < m → pos i = pos j → i = j
  ne0 : ∀ i, i < m → pos i ≠ 0
namespace RowsLP
variable {L : Own} {N m : Nat} {κ : Nat → Nat} {Xs : Nat → Nat → Value} {γ pos : Nat → Nat} {M : Nat → Nat → Nat}
theorem set0 (h : RowsLP L N m κ Xs γ pos M) (x : Option (Nat × Array Value)) : RowsLP (L.set 0 x) N m κ Xs γ pos M :=
  ⟨fun i hi => by rw [List.getElem?_set, if_neg (fun e => h.ne0 i hi e.symm)]; exact h.at_ i hi, h.inj, h.ne0⟩
theorem setRow (h : RowsLP L N m κ Xs γ pos M) {i : Nat} (hi : i < m) (r : Nat → Nat) {cs : Array Value} (hc : cs = rowP N (κ (γ i)) r (Xs (γ i))) : RowsLP (L.set (pos i) (some (γ i, cs))) N m κ Xs γ pos (Go.Ech.upE M i r) :=
  ⟨fun j hj => by
    rw [List.getElem?_set]
    by_cases e : j = i
    · subst e
      have hl := (List.getElem?_eq_some_iff.1 (h.at_ j hj)).1
      rw [if_pos rfl, if_pos hl, hc]; simp only [Go.Ech.upE, if_true]
    · rw [if_neg (fun e2 => e (h.inj _ _ hj hi e2.symm))]; simp only [Go.Ech.upE, if_neg e]; exact h.at_ j hj, h.inj, h.ne0⟩
theorem swap (h : RowsLP L N m κ Xs γ pos M) {a b : Nat} (ha : a < m) (hb : b < m) : RowsLP L N m κ Xs (Go.Ech.sw a b γ) (Go.Ech.sw a b pos) (Go.Ech.sw a b M) := by
  refine ⟨fun i hi => ?_, fun i j hi hj e => ?_, fun i hi => ?_⟩
  · unfold Go.Ech.sw; split
    · exact h.at_ b hb
    · split
      · exact h.at_ a ha
      · exact h.at_ i hi
  · unfold Go.Ech.sw at e
    by_cases e1 : i = a <;> by_cases e2 : i = b <;> by_cases e3 : j = a <;> by_cases e4 : j = b <;> simp only [e1, e2, e3, e4, if_true, if_false] at e <;> first | omega | (have := h.inj _ _ hb ha e; omega) | (have := h.inj _ _ ha hb e; omega) | (split at e <;> first | (have := h.inj _ _ hb (by omega) e; omega) | (have := h.inj _ _ ha (by omega) e; omega) | (have := h.inj _ _ (by omega) (by omega) e; omega)) | (have := h.inj _ _ (by omega) (by omega) e; omega)
  · unfold Go.Ech.sw; split
    · exact h.ne0 b hb
    · split
      · exact h.ne0 a ha
      · exact h.ne0 i hi
theorem congr {M' : Nat → Nat → Nat} (h : RowsLP L N m κ Xs γ pos M) (e : ∀ i, i < m → M i = M' i) : RowsLP L N m κ Xs γ pos M' :=
  ⟨fun i hi => by rw [← e i hi]; exact h.at_ i hi, h.inj, h.ne0⟩
theorem apart {X : List Nat} {w0 w : World} {D : Froz} (h : RowsLP L N m κ Xs γ pos M) (hM : MemX X w0 w L D) {i j : Nat} (hi : i < m) (hj : j < m) (hne : i ≠ j) : γ i ≠ γ j := fun e => by
  have h1 := h.at_ i hi
  have h2 := h.at_ j hj
  rw [e] at h1
  exact hne (h.inj i j hi hj (hM.apart _ _ _ _ _ h1 h2))
end RowsLP
def rowsLP0 (b0 : Nat) (cs0 : Array Value) (N m : Nat) (κ : Nat → Nat) (Xs : Nat → Nat → Value) (γ : Nat → Nat) (M : Nat → Nat → Nat) : Own := some (b0, cs0) :: (List.range m).map (fun i => some (γ i, rowP N (κ (γ i)) (M i) (Xs (γ i))))
end Go.Sw
