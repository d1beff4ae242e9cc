/- Plain lemmas of a small calculus for walks over frames and own memory; no statement of the seat is proved here. -/
import Derived.Test.YtbmgeapfninlkaaSw53
import Derived.Test.YtbmgeapfninlkaaSw40
import Derived.DeepKeys4
import Derived.StringKeys
import Derived.JoinedOf
import Derived.KernelRfl
set_option linter.unusedVariables false
set_option linter.unusedSimpArgs false
/-! Two package variables that a row lists. -/
namespace Go.Sw
open Go Go.RowKit Go.ChangeShapes Go.WideShapes Go.ChangeAt
section
variable {H : Type} {enc : TypeId × Value → H} {P : Program} {w w' : World}
end
end Go.Sw

/-! The length of a list that may be nil. -/
namespace Go.Sw
open Go Go.RowKit
section
variable {P : Program} {n : Nat} {F : List (Nat × Value)} {a : Act} {w : World} {d : Option Tmp} {t : TypeId} {pos : String} {af : Array Edge} {gd : Option (Nat × Bool)} {x : Operand}
theorem g_lenSl {size N : Nat} {v : Value} {e : Option (Nat × Array Value)} {f : Nat → Value} {TT : TypeId} {el : TypeId} (hs : Sl size v e N f) (hT : P.underlying TT = some (.slice el)) (hF : Fr n a F) (hx : look F x = some v) : Gives P ⟨d, .call { callee := .builtin .len, args := #[x], argTypes := #[TT] }, t, pos, af, gd⟩ a w (.int .i64 (N : Int)) := by
  rcases hs with ⟨rfl, rfl, rfl⟩ | ⟨b, cap, cs, h⟩
  · exact g_lenX hT hF hx
  · obtain rfl := h.val
    exact g_len hT hF hx
end
section
variable {P : Program} {n : Nat} {F : List (Nat × Value)} {a : Act} {w : World} {d : Option Tmp} {t T : TypeId} {pos : String} {af : Array Edge} {gd : Option (Nat × Bool)} {x y z : Operand}
end
end Go.Sw

namespace Go.Sw
open Go Go.RowKit
def SlN (size : Nat) (v : Value) (e : Option (Nat × Array Value)) (n : Nat) (f : Nat → Value) : Prop := (v = .slice none 0 0 ∧ e = none ∧ n = 0) ∨ (0 < n ∧ ∃ b cap cs, SlAt size v e n b cap cs f)
theorem SlN.sl {size n : Nat} {v : Value} {e : Option (Nat × Array Value)} {f : Nat → Value} (h : SlN size v e n f) : Sl size v e n f := by
  rcases h with h | ⟨_, h⟩
  · exact .inl h
  · exact .inr h
theorem SlN.congr {size n m : Nat} {v : Value} {e : Option (Nat × Array Value)} {f g : Nat → Value} (h : SlN size v e n f) (hm : n = m) (hf : ∀ i, i < n * size → f i = g i) : SlN size v e m g := by
  subst hm
  rcases h with h | ⟨h0, b, cap, cs, h⟩
  · exact .inl h
  · exact .inr ⟨h0, b, cap, cs, h.val, h.ent, h.le, h.max, h.sz, fun i hi => by rw [← hf i hi]; exact h.get i hi⟩
theorem SlN.nil {size n : Nat} {v : Value} {e : Option (Nat × Array Value)} {f : Nat → Value} (h : SlN size v e n f) (h0 : n = 0) : v = .slice none 0 0 := by
  rcases h with h | ⟨h1, _⟩
  · exact h.1
  · omega
def LstOut (size : Nat) (w : World) (n : Nat) (f : Nat → Value) (v : Value) (w' : World) : Prop := (v = .slice none 0 0 ∧ n = 0) ∨ (0 < n ∧ OwnSl size w n f v w')
theorem LstOut.fill {size n k : Nat} {X : List Nat} {w0 w w' : World} {L : Own} {D : Froz} {f : Nat → Value} {v : Value} (hM : MemX X w0 w L D) (hk : L[k]? = some none) (hx : Ext w w') (h : LstOut size w n f v w') : ∃ e, SlN size v e n f ∧ MemX X w0 w' (L.set k e) D := by
  rcases h with ⟨h1, h2⟩ | ⟨h0, b, cap, cs, hs, hge, hb⟩
  · refine ⟨none, .inl ⟨h1, rfl, h2⟩, ?_⟩
    have e : L.set k none = L := by
      refine List.ext_getElem? fun i => ?_;rw [List.getElem?_set]
      split
      · rename_i q
        subst q;rw [hk]
        split
        · rfl
        · rename_i q; rw [List.getElem?_eq_none (by omega)] at hk; cases hk
      · rfl
    rw [e];exact hM.ext hx
  · exact ⟨some (b, cs), .inr ⟨h0, b, cap, cs, hs⟩, hM.fill hx k hb hge⟩
variable {P : Program}
section
variable {ops : Array Oper} {Q : Exit → Act → World → Prop} {rest : List Oper} {n : Nat} {F : List (Nat × Value)} {a : Act} {X : List Nat} {w w0 : World} {L : Own} {D : Froz}
variable {d : Option Tmp} {t : TypeId} {pos : String} {af : Array Edge} {gd : Option (Nat × Bool)} {T : TypeId} {x y : Operand}
end
noncomputable def toldT (t : ByteArray) : ByteArray := open Classical in if WD t then t else ⟨#[]⟩
noncomputable def toldC (t : ByteArray) : Nat := open Classical in if WD t then 0 else 3
theorem toldT_y {t : ByteArray} (h : WD t) : toldT t = t := if_pos h
theorem toldT_n {t : ByteArray} (h : ¬ WD t) : toldT t = ⟨#[]⟩ := if_neg h
theorem toldC_y {t : ByteArray} (h : WD t) : toldC t = 0 := if_pos h
theorem toldC_n {t : ByteArray} (h : ¬ WD t) : toldC t = 3 := if_neg h
def nL (s : ByteArray) : Nat := if s.size = 0 then 0 else nSg s 47
def legI (s : ByteArray) : Nat := if s.size = 0 then 0 else inR s (sgB s 47 0)
def legO (s : ByteArray) : Nat := if s.size = 0 then 0 else outR s (sgB s 47 (nSg s 47 - 1))
theorem nL_0 {s : ByteArray} (h : s.size = 0) : nL s = 0 := if_pos h
theorem nL_y {s : ByteArray} (h : 0 < s.size) : nL s = nSg s 47 := if_neg (by omega)
theorem nL_le {s : ByteArray} : nL s ≤ s.size + 1 := by
  unfold nL nSg
  have := cnt_le (s := s) (c := 47) s.size
  split <;> omega
theorem WD.size {s : ByteArray} (h : WD s) : s.size ≤ 300 := by
  rcases h with h | h
  · omega
  · exact h.1
theorem legO_le {s : ByteArray} (h : WD s) : legO s ≤ 6 := by
  unfold legO
  rcases h with h | h
  · rw [if_pos h]; omega
  · split
    · omega
    · exact (word_at h (k := nSg s 47 - 1) (by unfold nSg; omega)).2.2.1
def cmpX (v w : ByteArray) : ByteArray := if v.size = 0 then w else if w.size = 0 then v else (v ++ (⟨#[47]⟩ : ByteArray)) ++ w
end Go.Sw

namespace Go.Sw
open Go Go.RowKit
/-! ### Maps whose keys are structs of numbers. -/
def leafs (P : Program) : Nat → TypeId → List IntKind → Bool
  | 0, _, _ => false
  | d + 1, t, ks =>
    match P.underlying t with
    | some (.int q) => decide (ks = [q])
    | some (.array n e) => Nat.beq ks.length (P.cellsOf t) && (List.range n).all fun i => leafs P d e ((ks.drop (i * P.cellsOf e)).take (P.cellsOf e))
    | some (.struct fs) => Nat.beq ks.length (P.cellsOf t) && fs.all (·.name != "_") && fs.toList.all fun f => leafs P d f.type ((ks.drop f.offset).take (P.cellsOf f.type))
    | _ => false
def Leafy (cs : List Value) (ks : List IntKind) : Prop := cs.length = ks.length ∧ ∀ (i : Nat) (q : IntKind), ks[i]? = some q → ∃ x, cs[i]? = some (Value.int q x) ∧ (Lit.int q x).wf = true
theorem Leafy.part {cs : List Value} {ks : List IntKind} (h : Leafy cs ks) (o l : Nat) : Leafy ((cs.drop o).take l) ((ks.drop o).take l) :=
  ⟨by simp [h.1], fun i q hi => by
    rw [List.getElem?_take] at hi ⊢
    split at hi
    · rename_i hl
      rw [if_pos hl, List.getElem?_drop]
      rw [List.getElem?_drop] at hi
      exact h.2 _ q hi
    · cases hi⟩
def wideB (P : Program) (k : TypeId) : Bool := match P.underlying k with | some (.array _ _) | some (.struct _) => true | _ => false
def IsMap (w : World) (b : Nat) (es : Array MapEntry) (c : Nat) : Prop := w.heap[b]? = some (.map es c)
theorem IsMap.ext {w w' : World} {b : Nat} {es : Array MapEntry} {c : Nat} (h : IsMap w b es c) (hx : Ext w w') : IsMap w' b es c := by
  have hlt : b < w.heap.size := (Array.getElem?_eq_some_iff.1 h).1
  unfold IsMap
  rw [hx.block b hlt]; exact h
section
variable {P : Program} {n : Nat} {F : List (Nat × Value)} {a : Act} {w w0 : World} {d : Option Tmp} {t T kt et : TypeId} {pos : String} {af : Array Edge} {gd : Option (Nat × Bool)} {x y z : Operand} {X : List Nat} {L : Own} {D : Froz}
end
end Go.Sw

namespace Go.Sw
open Go Go.RowKit
/-! ### Maps of the call's own with texts as keys -/
section
variable {P : Program} {n : Nat} {F : List (Nat × Value)} {a : Act} {w w0 : World} {d : Option Tmp} {t T kt et : TypeId} {pos : String} {af : Array Edge} {gd : Option (Nat × Bool)} {x y z : Operand} {X : List Nat} {L : Own} {D : Froz}
end
end Go.Sw
namespace Go.Sw
open Go Go.RowKit
section
variable {P : Program} {n : Nat} {F : List (Nat × Value)} {a : Act} {w : World} {d : Option Tmp} {t T T' : TypeId} {pos : String} {af : Array Edge} {gd : Option (Nat × Bool)} {x y : Operand} {k : IntKind} {A B C : Int}
end
end Go.Sw

namespace Go.Sw
open Go Go.RowKit
/-! ### Maps of the call's own with arrays as keys; a function value with two captures -/
section
variable {P : Program} {n : Nat} {F : List (Nat × Value)} {a : Act} {w w0 : World} {d : Option Tmp} {t T kt et : TypeId} {pos : String} {af : Array Edge} {gd : Option (Nat × Bool)} {x y z : Operand} {X : List Nat} {L : Own} {D : Froz}
end
theorem IsMap.setRow {w : World} {b q : Nat} {cs cs' : Array Value} {es : Array MapEntry} {c : Nat} (h : IsMap w q es c) (hb : Blk w b cs) : IsMap (w.setRow b cs') q es c := by
  have hne : q ≠ b := fun e => by
    obtain ⟨t, ht⟩ := hb
    unfold IsMap at h
    rw [e, ht] at h; cases h
  unfold IsMap
  rw [setRow_other w b q cs' hne]; exact h
section
variable {P : Program} {n : Nat} {F : List (Nat × Value)} {a : Act} {w w0 : World} {d : Option Tmp} {t T : TypeId} {pos : String} {af : Array Edge} {gd : Option (Nat × Bool)} {x y : Operand} {X : List Nat} {L : Own} {D : Froz}
end
end Go.Sw

namespace Go.Sw
open Go Go.RowKit
variable {P : Program} {n : Nat} {F : List (Nat × Value)} {a : Act} {w : World} {d : Option Tmp} {t : TypeId} {pos : String} {af : Array Edge} {gd : Option (Nat × Bool)} {x y : Operand}
/-! ### The greater one of two numbers; a number turned over -/
theorem g_max {T1 T2 : TypeId} {k : IntKind} {A B C : Int} (hF : Fr n a F) (hx : look F x = some (.int k A)) (hy : look F y = some (.int k B)) (hC : (if B > A then B else A) = C) : Gives P ⟨d, .call { callee := .builtin .max, args := #[x, y], argTypes := #[T1, T2] }, t, pos, af, gd⟩ a w (.int k C) :=
  gives_of_run (by simp [execOp, resolve, invoke, hF.eval hx, hF.eval hy, builtin, Builtin.max_, Builtin.max2, hC])
end Go.Sw

namespace Go.Sw
theorem wordsSigns_nb : ∀ (c : Char) (r : List Char), c ≠ ' ' → wordsSigns (c :: r) = match wordsSigns r with
    | w :: ws => (c :: w) :: ws
    | [] => [[c]] := by
  intro c r h;rw [wordsSigns.eq_def]
  split
  · simp_all
  · rename_i heq; simp at heq; exact absurd heq.1 h
  · rename_i heq; simp only [List.cons.injEq] at heq; obtain ⟨rfl, rfl⟩ := heq; rfl
theorem wordsSigns_word : ∀ (w r : List Char), (∀ c ∈ w, c ≠ ' ') → wordsSigns (w ++ ' ' :: r) = w :: wordsSigns r
  | [], r, _ => by simp [wordsSigns]
  | c :: w, r, h => by
    rw [List.cons_append, wordsSigns_nb c _ (h c (by simp)), wordsSigns_word w r (fun d hd => h d (by simp [hd]))]
theorem sum_nb (s : List Char) (h : isSumSigns s = true) : ∀ c ∈ s, c ≠ ' ' := by
  intro c hc he
  unfold isSumSigns at h
  simp only [Bool.and_eq_true, List.all_eq_true] at h;have := h.2 c hc;subst he
  revert this; decide
theorem cutHead (L s r : List Char) (h : L = "harness".toList ++ ' ' :: (s ++ ' ' :: ("cut".toList ++ ' ' :: r))) (hs : isSumSigns s = true) :
    behindMainWord (wordsSigns L) = "cut".toList :: wordsSigns r := by
  rw [h, wordsSigns_word _ _ (by decide), wordsSigns_word _ _ (sum_nb s hs), wordsSigns_word _ _ (by decide)];have : ("harness".toList == "harness".toList || "harness".toList == "ownmain".toList) = true := by decide
  unfold behindMainWord
  show (if (("harness".toList == "harness".toList || "harness".toList == "ownmain".toList) && isSumSigns s) = true then _ else _) = _
  rw [if_pos (by rw [this, hs]; rfl)]
theorem strip_cut (R : List (List Char)) : stripLifts liftWords ("cut".toList :: R) = ([], "cut".toList :: R) := by
  kernel_rfl
theorem lifts_cut (P : Program) (R : List (List Char)) (h : behindMainWord (wordsSigns P.initOrder.toList) = "cut".toList :: R) : P.headLifts = [] := by
  unfold Program.headLifts; rw [h, strip_cut]; rfl
theorem make_cut (P : Program) (R : List (List Char)) (h : behindMainWord (wordsSigns P.initOrder.toList) = "cut".toList :: R) : P.make = some .cut := by
  unfold Program.make; rw [h]
  have h1 : ("cut".toList == "gc".toList || "cut".toList == "spec".toList) = false := by decide
  have h2 : ("cut".toList == "cut".toList) = true := by decide
  simp only [h1, h2]; rfl
theorem final_cut (P : Program) (R : List (List Char)) (h : behindMainWord (wordsSigns P.initOrder.toList) = "cut".toList :: R) : P.liftsFinal = false := by
  unfold Program.liftsFinal; rw [lifts_cut P R h, h]; kernel_rfl
theorem enter_cut (P : Program) (R : List (List Char)) (h : behindMainWord (wordsSigns P.initOrder.toList) = "cut".toList :: R)
    (hl : P.laysLater = false) (hb : P.bearsReflect = false) (hd : P.doorFits [] = true) : P.mayEnter = true := by
  unfold Program.mayEnter; rw [h]
  simp only [strip_cut, hl, hb, hd]
  kernel_rfl
end Go.Sw
