/- Plain lemmas of a small calculus for walks over frames and own memory; no statement of the seat is proved here. -/
import Derived.Test.YtnedojhanlhjkaaSw36
import Derived.DeepKeys4
import Derived.StringKeys
import Derived.Test.YtnedojhanlhjkaaSw21
import Derived.Test.YtnedojhanlhjkaaSw9
import Derived.ChangeSlices
import Derived.ShutString
set_option linter.unusedVariables false
set_option linter.unusedSimpArgs false
namespace Go.Sw
open Go Go.RowKit
variable {P : Program}
/-! ### Texts: length, bytes, parts. -/
def byt (s : ByteArray) (i : Nat) : Nat := (s.data.getD i 0).toNat
theorem byt_lt {s : ByteArray} {i : Nat} : byt s i < 256 := UInt8.toNat_lt _
section
variable {n : Nat} {F : List (Nat × Value)} {a : Act} {w : World} {d : Option Tmp} {t T T' : TypeId} {pos : String} {af : Array Edge} {gd : Option (Nat × Bool)} {x y z : Operand}
theorem g_lenS {s : ByteArray} {TT : TypeId} (hT : P.underlying TT = some .string) (hF : Fr n a F) (hx : look F x = some (.string s)) : Gives P ⟨d, .call { callee := .builtin .len, args := #[x], argTypes := #[TT] }, t, pos, af, gd⟩ a w (.int .i64 (s.size : Int)) :=
  gives_of_run (by simp [execOp, resolve, invoke, hF.eval hx, builtin, Builtin.len_, run_underlying hT, goInt])
theorem g_indexS {s : ByteArray} {i : Nat} {κ : IntKind} {X : Int} (hT : P.underlying T = some .string) (hF : Fr n a F) (hx : look F x = some (.string s)) (hy : look F y = some (.int κ X)) (hX : X = (i : Int)) (hi : i < s.size) :
    Gives P ⟨d, .index T x y, t, pos, af, gd⟩ a w (.int .u8 (byt s i : Int)) := by
  subst hX;have h2 : s[i]? = some s[i] := getElem?_pos s i hi;have h3 : (s[i]).toNat = byt s i := by
    unfold byt
    have : s.data.getD i 0 = s[i] := by
      rw [Array.getD_eq_getD_getElem?, Array.getElem?_eq_getElem hi]; rfl
    rw [this]
  exact gives_of_run (by simp [execOp, Instr.index, run_underlying hT, hF.eval hx, hF.eval hy, asIntOf, h2, h3])
theorem g_sliceS {s : ByteArray} {i j : Nat} {κ κ' : IntKind} {X Y : Int} (hT : P.underlying T = some .string) (hF : Fr n a F) (hx : look F x = some (.string s)) (hy : look F y = some (.int κ X)) (hz : look F z = some (.int κ' Y)) (hX : X = (i : Int)) (hY : Y = (j : Int)) (hi : i ≤ j) (hj : j ≤ s.size) :
    Gives P ⟨d, .slice T x (some y) (some z) none, t, pos, af, gd⟩ a w (.string (s.extract i j)) := by
  subst hX; subst hY;have h1 : (0 : Int) ≤ (i : Int) ∧ (i : Int) ≤ (j : Int) := by omega
  have h2 : (0 : Int) ≤ (j : Int) ∧ (j : Int) ≤ (s.size : Int) := by omega
  exact gives_of_run (by simp [execOp, Instr.sliceAt, Instr.slice, run_underlying hT, hF.eval hx, hF.eval hy, hF.eval hz, Instr.sliceBounds, Instr.sliceBound, asIntOf, h1, h2, hi, hj])
theorem g_sliceSLo {s : ByteArray} {i : Nat} {κ : IntKind} {X : Int} (hT : P.underlying T = some .string) (hF : Fr n a F) (hx : look F x = some (.string s)) (hy : look F y = some (.int κ X)) (hX : X = (i : Int)) (hi : i ≤ s.size) :
    Gives P ⟨d, .slice T x (some y) none none, t, pos, af, gd⟩ a w (.string (s.extract i s.size)) := by
  subst hX;have h1 : (0 : Int) ≤ (i : Int) ∧ (i : Int) ≤ (s.size : Int) := by omega
  exact gives_of_run (by simp [execOp, Instr.sliceAt, Instr.slice, run_underlying hT, hF.eval hx, hF.eval hy, Instr.sliceBounds, Instr.sliceBound, asIntOf, h1, hi])
end
end Go.Sw

namespace Go.Sw
open Go Go.RowKit
variable {P : Program}
/-! ### Labels and jumps. -/
def Exit.goes (J : Nat → Act → World → Prop) (Q : Exit → Act → World → Prop) : Exit → Act → World → Prop
  | .goto l, a, w => J l a w
  | e, a, w => Q e a w
section
variable {Q : Exit → Act → World → Prop} {J : Nat → Act → World → Prop} {K : Act → World → Prop} {a : Act} {w : World}
theorem tG {l : Nat} (h : Q (.goto l) a w) : Exit.then K Q (.goto l) a w := h
theorem gR (h : Q .ret a w) : Exit.goes J Q .ret a w := h
theorem gG {l : Nat} (h : J l a w) : Exit.goes J Q (.goto l) a w := h
theorem wp_scope_labels {c : Code} (J : Nat → Nat → Act → World → Prop) (hs : ∀ l m a w, J l m a w → ∃ x, findLabel c l = some (.seq .skip x))
    (pass : ∀ l m a w, J l m a w → ∀ x, findLabel c l = some (.seq .skip x) → x.wp P (Exit.goes (fun l' a' w' => ∃ m', m' < m ∧ J l' m' a' w') Q) a w)
    (first : (∀ l m a w, J l m a w → ∀ x, findLabel c l = some (.seq .skip x) → x.wp P (Exit.goes (fun l' a' w' => ∃ m', J l' m' a' w') Q) a w) → c.wp P (Exit.goes (fun l a w => ∃ m, J l m a w) Q) a w) : (Code.scope c).wp P Q a w := by
  intro b k cs;have key : ∀ m l a w, J l m a w → ∀ x, findLabel c l = some (.seq .skip x) → ∃ e a' w', Q e a' w' ∧ Arrives P (lone (b.at a (.code (.seq .skip x) :: .inScope c :: k)) cs w) b k cs e a' w' := by
    intro m
    induction m using Nat.strongRecOn with
    | _ m ih =>
      intro l a w hJ x hx;obtain ⟨e, a₁, w₁, hq, harr⟩ := (wp_seq (wp_skip (show Exit.then _ _ .normal a w from pass l m a w hJ x hx)) : (Code.seq .skip x).wp P _ a w) b (.inScope c :: k) cs
      cases e with
      | normal => exact ⟨.normal, a₁, w₁, hq, Steps.trans harr (.one step_inScope)⟩
      | exit id => exact ⟨.exit id, a₁, w₁, hq, fun k' hk => harr k' (by simp [exitTo, hk])⟩
      | goto l' =>
        obtain ⟨m', hlt, hJ'⟩ := hq;obtain ⟨x', hx'⟩ := hs l' m' a₁ w₁ hJ';obtain ⟨e₂, a₂, w₂, hq₂, harr₂⟩ := ih m' hlt l' a₁ w₁ hJ' x' hx';exact ⟨e₂, a₂, w₂, hq₂, .of_steps (harr _ (by simp [gotoIn, hx'])) harr₂⟩
      | ret => exact ⟨_, a₁, w₁, hq, harr⟩
      | panic ch => exact ⟨_, a₁, w₁, hq, harr⟩
      | outgrown => exact ⟨_, a₁, w₁, hq, harr⟩
  have first' := first fun l m a w hJ x hx => wp_mono (pass l m a w hJ x hx) fun e a w h => by
    cases e with
    | goto l' => obtain ⟨m', _, h'⟩ := h; exact ⟨m', h'⟩
    | _ => exact h
  obtain ⟨e, a₁, w₁, hq, harr⟩ := first' b (.inScope c :: k) cs
  cases e with
  | normal => exact ⟨.normal, a₁, w₁, hq, .head step_scope (Steps.trans harr (.one step_inScope))⟩
  | exit id => exact ⟨.exit id, a₁, w₁, hq, fun k' hk => .head step_scope (harr k' (by simp [exitTo, hk]))⟩
  | goto l' =>
    obtain ⟨m', hJ'⟩ := hq;obtain ⟨x', hx'⟩ := hs l' m' a₁ w₁ hJ';obtain ⟨e₂, a₂, w₂, hq₂, harr₂⟩ := key m' l' a₁ w₁ hJ' x' hx';exact ⟨e₂, a₂, w₂, hq₂, .of_steps (.head step_scope (harr _ (by simp [gotoIn, hx']))) harr₂⟩
  | ret => exact ⟨_, a₁, w₁, hq, .of_steps (.one step_scope) harr⟩
  | panic ch => exact ⟨_, a₁, w₁, hq, .of_steps (.one step_scope) harr⟩
  | outgrown => exact ⟨_, a₁, w₁, hq, .of_steps (.one step_scope) harr⟩
end
section
variable {n : Nat} {F : List (Nat × Value)} {a : Act} {w : World} {d : Option Tmp} {t T : TypeId} {pos : String} {af : Array Edge} {gd : Option (Nat × Bool)} {x : Operand}
theorem g_nilCheck {b o : Nat} (hF : Fr n a F) (hx : look F x = some (ptr b o)) : Gives P ⟨d, .nilCheck x, t, pos, af, gd⟩ a w (ptr b o) :=
  gives_of_run (by simp [execOp, hF.eval hx])
end
theorem str_eq {s u : ByteArray} (h : s.toList = u.toList) : s = u := by
  have h2 : (s.toList == u.toList) = true := by rw [h]; simp
  exact ByteArray.ext (by simpa [ByteArray.toList_eq] using h2)
theorem str_e0 {s : ByteArray} (h : s.size = 0) : s = ⟨#[]⟩ := by
  cases s with
  | mk d =>
    have : d = #[] := Array.eq_empty_of_size_eq_zero h;subst this; rfl
section
variable {P : Program} {fn : Func} {a : Act} {w : World}
theorem fin3 {r s t : ResultVar} {v u x : Value} {R : Ending → World → Prop} (hr : fn.results = #[r, s, t]) (hd : a.defers = []) (h1 : resIs P a w r v) (h2 : resIs P a w s u) (h3 : resIs P a w t x) (h : R (.returned (.tuple #[v, u, x])) w) : bodyPost P fn R .ret a w :=
  bodyPost_ret (by
    rw [results_eq, hr]
    simp [resIs_run h1, resIs_run h2, resIs_run h3]) hd h
end
end Go.Sw

namespace Go.Sw
open Go Go.RowKit
/-! ### Maps whose keys are structs of numbers. -/
def leafs (P : Program) : Nat → TypeId → List IntKind → Bool
  | 0, _, _ => false
  | d + 1, t, ks =>
    match P.underlying t with
    | some (.int q) => decide (ks = [q])
    | some (.array n e) => Nat.beq ks.length (P.cellsOf t) && (List.range n).all fun i => leafs P d e ((ks.drop (i * P.cellsOf e)).take (P.cellsOf e))
    | some (.struct fs) => Nat.beq ks.length (P.cellsOf t) && fs.all (·.name != "_") && fs.toList.all fun f => leafs P d f.type ((ks.drop f.offset).take (P.cellsOf f.type))
    | _ => false
def Leafy (cs : List Value) (ks : List IntKind) : Prop := cs.length = ks.length ∧ ∀ (i : Nat) (q : IntKind), ks[i]? = some q → ∃ x, cs[i]? = some (Value.int q x) ∧ (Lit.int q x).wf = true
theorem Leafy.part {cs : List Value} {ks : List IntKind} (h : Leafy cs ks) (o l : Nat) : Leafy ((cs.drop o).take l) ((ks.drop o).take l) :=
  ⟨by simp [h.1], fun i q hi => by
    rw [List.getElem?_take] at hi ⊢
    split at hi
    · rename_i hl
      rw [if_pos hl, List.getElem?_drop]
      rw [List.getElem?_drop] at hi
      exact h.2 _ q hi
    · cases hi⟩
def wideB (P : Program) (k : TypeId) : Bool := match P.underlying k with | some (.array _ _) | some (.struct _) => true | _ => false
def IsMap (w : World) (b : Nat) (es : Array MapEntry) (c : Nat) : Prop := w.heap[b]? = some (.map es c)
theorem IsMap.ext {w w' : World} {b : Nat} {es : Array MapEntry} {c : Nat} (h : IsMap w b es c) (hx : Ext w w') : IsMap w' b es c := by
  have hlt : b < w.heap.size := (Array.getElem?_eq_some_iff.1 h).1
  unfold IsMap
  rw [hx.block b hlt]; exact h
section
variable {P : Program} {n : Nat} {F : List (Nat × Value)} {a : Act} {w w0 : World} {d : Option Tmp} {t T kt et : TypeId} {pos : String} {af : Array Edge} {gd : Option (Nat × Bool)} {x y z : Operand} {X : List Nat} {L : Own} {D : Froz}
end
end Go.Sw

namespace Go.Sw
open Go Go.RowKit
/-! ### Maps of the call's own with texts as keys -/
section
variable {P : Program} {n : Nat} {F : List (Nat × Value)} {a : Act} {w w0 : World} {d : Option Tmp} {t T kt et : TypeId} {pos : String} {af : Array Edge} {gd : Option (Nat × Bool)} {x y z : Operand} {X : List Nat} {L : Own} {D : Froz}
end
end Go.Sw
namespace Go.Sw
open Go Go.RowKit
section
variable {P : Program} {n : Nat} {F : List (Nat × Value)} {a : Act} {w : World} {d : Option Tmp} {t T T' : TypeId} {pos : String} {af : Array Edge} {gd : Option (Nat × Bool)} {x y : Operand} {k : IntKind} {A B C : Int}
end
end Go.Sw

namespace Go.Sw
open Go Go.RowKit
/-! ### Maps of the call's own with arrays as keys; a function value with two captures -/
section
variable {P : Program} {n : Nat} {F : List (Nat × Value)} {a : Act} {w w0 : World} {d : Option Tmp} {t T kt et : TypeId} {pos : String} {af : Array Edge} {gd : Option (Nat × Bool)} {x y z : Operand} {X : List Nat} {L : Own} {D : Froz}
end
theorem IsMap.setRow {w : World} {b q : Nat} {cs cs' : Array Value} {es : Array MapEntry} {c : Nat} (h : IsMap w q es c) (hb : Blk w b cs) : IsMap (w.setRow b cs') q es c := by
  have hne : q ≠ b := fun e => by
    obtain ⟨t, ht⟩ := hb
    unfold IsMap at h
    rw [e, ht] at h; cases h
  unfold IsMap
  rw [setRow_other w b q cs' hne]; exact h
section
variable {P : Program} {n : Nat} {F : List (Nat × Value)} {a : Act} {w w0 : World} {d : Option Tmp} {t T : TypeId} {pos : String} {af : Array Edge} {gd : Option (Nat × Bool)} {x y : Operand} {X : List Nat} {L : Own} {D : Froz}
end
end Go.Sw

namespace Go.Sw
open Go Go.RowKit
section
variable {P : Program} {X : List Nat} {w0 w : World} {D : Froz} {W : List Nat} {L0 L : Own} {kt : Nat} {csO csN : Array Value} {bb : Bool} {l : List Fact} {i : Nat} {o : Oper} {a : Act}
end
end Go.Sw

namespace Go.Sw
open Go Go.RowKit
/-! ### Texts cut at a byte: the places of the byte, and what lies between them. -/
def bnd (s : ByteArray) (c : Nat) : Nat → List Nat
  | 0 => []
  | i + 1 => if byt s i = c then bnd s c i ++ [i] else bnd s c i
def cnt (s : ByteArray) (c i : Nat) : Nat := (bnd s c i).length
def sta (s : ByteArray) (c : Nat) : Nat → Nat
  | 0 => 0
  | i + 1 => if byt s i = c then i + 1 else sta s c i
def nSg (s : ByteArray) (c : Nat) : Nat := cnt s c s.size + 1
def sgB (s : ByteArray) (c k : Nat) : Nat := (bnd s c s.size ++ [s.size]).getD k s.size
def sgA (s : ByteArray) (c k : Nat) : Nat := if k = 0 then 0 else sgB s c (k - 1) + 1
def seg (s : ByteArray) (c k : Nat) : ByteArray := s.extract (sgA s c k) (sgB s c k)
section
variable {s : ByteArray} {c : Nat}
theorem cnt_yes {i : Nat} (h : byt s i = c) : cnt s c (i + 1) = cnt s c i + 1 := by unfold cnt; rw [bnd, if_pos h]; simp
theorem cnt_no {i : Nat} (h : ¬ byt s i = c) : cnt s c (i + 1) = cnt s c i := by unfold cnt; rw [bnd, if_neg h]
theorem sta_yes {i : Nat} (h : byt s i = c) : sta s c (i + 1) = i + 1 := by rw [sta, if_pos h]
theorem sta_no {i : Nat} (h : ¬ byt s i = c) : sta s c (i + 1) = sta s c i := by rw [sta, if_neg h]
theorem sta_le : ∀ i, sta s c i ≤ i
  | 0 => Nat.le_refl _
  | i + 1 => by
    have := sta_le i
    rw [sta]; split <;> omega
theorem cnt_le : ∀ i, cnt s c i ≤ i
  | 0 => Nat.le_refl _
  | i + 1 => by
    have := cnt_le i
    by_cases h : byt s i = c
    · rw [cnt_yes h]; omega
    · rw [cnt_no h]; omega
theorem cnt_mono {i j : Nat} (h : i ≤ j) : cnt s c i ≤ cnt s c j := by
  induction j with
  | zero => rw [show i = 0 by omega]; exact Nat.le_refl _
  | succ j ih =>
    by_cases e : i = j + 1
    · rw [e]; exact Nat.le_refl _
    · have := ih (by omega)
      by_cases h2 : byt s j = c
      · rw [cnt_yes h2]; omega
      · rw [cnt_no h2]; omega
theorem bnd_pre {i : Nat} : ∀ d, ∃ r, bnd s c (i + d) = bnd s c i ++ r
  | 0 => ⟨[], by simp⟩
  | d + 1 => by
    obtain ⟨r, hr⟩ := bnd_pre (i := i) d
    by_cases h : byt s (i + d) = c
    · exact ⟨r ++ [i + d], by rw [← Nat.add_assoc, bnd, if_pos h, hr]; simp⟩
    · exact ⟨r, by rw [← Nat.add_assoc, bnd, if_neg h, hr]⟩
theorem sgB_at {i : Nat} (hi : i < s.size) (h : byt s i = c) : sgB s c (cnt s c i) = i := by
  obtain ⟨r, hr⟩ := bnd_pre (s := s) (c := c) (i := i + 1) (s.size - (i + 1));rw [show i + 1 + (s.size - (i + 1)) = s.size by omega, bnd, if_pos h] at hr
  unfold sgB cnt
  rw [hr]
  simp [List.getD]
theorem sgB_end : sgB s c (cnt s c s.size) = s.size := by unfold sgB cnt; simp [List.getD]
theorem sgB_b {i : Nat} (h : i = s.size ∨ (i < s.size ∧ byt s i = c)) : sgB s c (cnt s c i) = i := by
  rcases h with rfl | ⟨h1, h2⟩
  · exact sgB_end
  · exact sgB_at h1 h2
theorem bnd_mem {k : Nat} : ∀ {i}, k < cnt s c i → ∃ b, (bnd s c i)[k]? = some b ∧ b < i ∧ byt s b = c ∧ cnt s c b = k
  | 0, h => by simp [cnt, bnd] at h
  | i + 1, h => by
    by_cases hb : byt s i = c
    · rw [cnt_yes hb] at h
      rw [bnd, if_pos hb]
      by_cases e : k < cnt s c i
      · obtain ⟨b, h1, h2, h3, h4⟩ := bnd_mem e
        exact ⟨b, by rw [List.getElem?_append_left (by unfold cnt at e; exact e)]; exact h1, by omega, h3, h4⟩
      · have e2 : k = cnt s c i := by omega
        subst e2
        exact ⟨i, by unfold cnt; simp, by omega, hb, rfl⟩
    · rw [cnt_no hb] at h
      rw [bnd, if_neg hb]
      obtain ⟨b, h1, h2, h3, h4⟩ := bnd_mem h
      exact ⟨b, h1, by omega, h3, h4⟩
theorem sgB_spec {k : Nat} (h : k < nSg s c) : (sgB s c k = s.size ∨ (sgB s c k < s.size ∧ byt s (sgB s c k) = c)) ∧ cnt s c (sgB s c k) = k := by
  by_cases e : k < cnt s c s.size
  · obtain ⟨b, h1, h2, h3, h4⟩ := bnd_mem e
    have e2 : sgB s c k = b := by
      unfold sgB
      rw [List.getD_eq_getElem?_getD, List.getElem?_append_left (by unfold cnt at e; exact e), h1]; rfl
    rw [e2]; exact ⟨.inr ⟨h2, h3⟩, h4⟩
  · have e2 : k = cnt s c s.size := by unfold nSg at h; omega
    rw [e2, sgB_end]; exact ⟨.inl rfl, rfl⟩
theorem sgB_le {k : Nat} (h : k < nSg s c) : sgB s c k ≤ s.size := by
  rcases (sgB_spec h).1 with e | e <;> omega
theorem sgA_cnt : ∀ {i}, i ≤ s.size → sgA s c (cnt s c i) = sta s c i
  | 0, _ => by simp [cnt, bnd, sgA, sta]
  | i + 1, h => by
    by_cases hb : byt s i = c
    · rw [cnt_yes hb, sta_yes hb]; unfold sgA
      rw [if_neg (by omega), Nat.add_sub_cancel, sgB_at (by omega) hb]
    · rw [cnt_no hb, sta_no hb]; exact sgA_cnt (by omega)
theorem sgA_sta {k : Nat} (h : k < nSg s c) : sgA s c k = sta s c (sgB s c k) := by
  have h1 := sgA_cnt (s := s) (c := c) (sgB_le h);rw [(sgB_spec h).2] at h1; exact h1
theorem seg_b {i : Nat} (h : i = s.size ∨ (i < s.size ∧ byt s i = c)) : seg s c (cnt s c i) = s.extract (sta s c i) i := by
  unfold seg
  rw [sgB_b h, sgA_cnt (by rcases h with rfl | h <;> omega)]
theorem sta_ne {i j : Nat} (hi : sta s c j ≤ i) (hj : i < j) : ¬ byt s i = c := by
  induction j with
  | zero => omega
  | succ j ih =>
    by_cases hb : byt s j = c
    · rw [sta_yes hb] at hi; omega
    · rw [sta_no hb] at hi
      by_cases e : i = j
      · rw [e]; exact hb
      · exact ih hi (by omega)
theorem byt_ext {a b j : Nat} (hb : b ≤ s.size) (hj : j < b - a) : byt (s.extract a b) j = byt s (a + j) := by
  unfold byt
  rw [ByteArray.data_extract, Array.getD_eq_getD_getElem?, Array.getElem?_extract, Array.getD_eq_getD_getElem?];have : s.data.size = s.size := rfl;rw [if_pos (by omega)]
theorem ext_size {a b : Nat} (hb : b ≤ s.size) : (s.extract a b).size = b - a := by
  rw [ByteArray.size_extract]; omega
end
/-! ### Words of pieces. -/
def pcB (c : Nat) : Bool := decide (c = 105) || decide (c = 120) || decide (c = 109) || decide (c = 115) || decide (c = 117) || decide (c = 101)
def inL (c : Nat) : Nat := if c = 105 then 1 else if c = 120 then 2 else if c = 109 then 2 else if c = 115 then 1 else if c = 117 then 0 else if c = 101 then 1 else 0
def outL (c : Nat) : Nat := if c = 105 then 1 else if c = 120 then 2 else if c = 109 then 1 else if c = 115 then 2 else if c = 117 then 1 else 0
def eulL (c : Nat) : Int := if c = 117 then 1 else if c = 101 then 1 else if c = 109 then -1 else if c = 115 then -1 else 0
theorem inL_le {c : Nat} : inL c ≤ 2 := by unfold inL; split; omega; split; omega; split; omega; split; omega; split; omega; split <;> omega
theorem outL_le {c : Nat} : outL c ≤ 2 := by unfold outL; split; omega; split; omega; split; omega; split; omega; split <;> omega
theorem pc_no {c : Nat} (h : c ≠ 105 ∧ c ≠ 120 ∧ c ≠ 109 ∧ c ≠ 115 ∧ c ≠ 117 ∧ c ≠ 101) : inL c = 0 ∧ outL c = 0 ∧ pcB c = false := by
  obtain ⟨h1, h2, h3, h4, h5, h6⟩ := h
  simp [inL, outL, pcB, h1, h2, h3, h4, h5, h6]
def inR (s : ByteArray) : Nat → Nat
  | 0 => 0
  | i + 1 => if byt s i = 47 then 0 else inR s i + inL (byt s i)
def outR (s : ByteArray) : Nat → Nat
  | 0 => 0
  | i + 1 => if byt s i = 47 then 0 else outR s i + outL (byt s i)
section
variable {s : ByteArray}
theorem inR_le : ∀ i, inR s i ≤ 2 * i
  | 0 => Nat.le_refl _
  | i + 1 => by have := inR_le i; have := inL_le (c := byt s i); rw [inR]; split <;> omega
theorem outR_le : ∀ i, outR s i ≤ 2 * i
  | 0 => Nat.le_refl _
  | i + 1 => by have := outR_le i; have := outL_le (c := byt s i); rw [outR]; split <;> omega
theorem inR_no {i : Nat} (h : ¬ byt s i = 47) : inR s (i + 1) = inR s i + inL (byt s i) := by rw [inR, if_neg h]
theorem outR_no {i : Nat} (h : ¬ byt s i = 47) : outR s (i + 1) = outR s i + outL (byt s i) := by rw [outR, if_neg h]
theorem inR_yes {i : Nat} (h : byt s i = 47) : inR s (i + 1) = 0 := by rw [inR, if_pos h]
theorem outR_yes {i : Nat} (h : byt s i = 47) : outR s (i + 1) = 0 := by rw [outR, if_pos h]
theorem inR_sta : ∀ i, inR s (sta s 47 i) = 0
  | 0 => rfl
  | i + 1 => by
    by_cases h : byt s i = 47
    · rw [sta_yes h, inR_yes h]
    · rw [sta_no h]; exact inR_sta i
theorem outR_sta : ∀ i, outR s (sta s 47 i) = 0
  | 0 => rfl
  | i + 1 => by
    by_cases h : byt s i = 47
    · rw [sta_yes h, outR_yes h]
    · rw [sta_no h]; exact outR_sta i
end
def layP (s : ByteArray) (b : Nat) : Prop := sta s 47 b < b ∧ inR s b ≤ 6 ∧ outR s b ≤ 6 ∧ (0 < sta s 47 b → inR s b = outR s (sta s 47 b - 1))
def isB (s : ByteArray) (b : Nat) : Prop := b = s.size ∨ (b < s.size ∧ byt s b = 47)
def WordP (s : ByteArray) : Prop := s.size ≤ 300 ∧ (∀ i, i < s.size → byt s i = 47 ∨ pcB (byt s i) = true) ∧ ∀ b, b ≤ s.size → isB s b → layP s b
end Go.Sw

namespace Go.Sw
open Go Go.RowKit
def layC (t : ByteArray) (a b : Int) : Array Value := #[.string t, .int .i64 a, .int .i64 b]
section
variable {t u : ByteArray} {a b x : Int} {q : Nat}
theorem layC_size : (layC t a b).size = 3 := rfl
theorem layC_0 (h : q = 0) : (layC t a b)[q]? = some (.string t) := by subst h; rfl
theorem layC_1 (h : q = 1) : (layC t a b)[q]? = some (.int .i64 a) := by subst h; rfl
theorem layC_2 (h : q = 2) : (layC t a b)[q]? = some (.int .i64 b) := by subst h; rfl
theorem layC_set0 (h : q = 0) : (layC t a b).setIfInBounds q (.string u) = layC u a b := by subst h; rfl
theorem layC_set1 (h : q = 1) : (layC t a b).setIfInBounds q (.int .i64 x) = layC t x b := by subst h; rfl
theorem layC_set2 (h : q = 2) : (layC t a b).setIfInBounds q (.int .i64 x) = layC t a x := by subst h; rfl
theorem layC_one : ∀ v ∈ (layC t a b).toList, v.oneCell' = true := by
  intro v hv
  simp [layC] at hv
  rcases hv with rfl | rfl | rfl <;> rfl
end
def layF (s : ByteArray) (q : Nat) : Value := if q % 3 = 0 then .string (seg s 47 (q / 3)) else if q % 3 = 1 then .int .i64 (inR s (sgB s 47 (q / 3)) : Int) else .int .i64 (outR s (sgB s 47 (q / 3)) : Int)
def segF (s : ByteArray) (c : Nat) (k : Nat) : Value := .string (seg s c k)
section
variable {s : ByteArray}
theorem layF_0 (k : Nat) {q : Nat} (h : q = k * 3) : layF s q = .string (seg s 47 k) := by
  subst h; unfold layF; rw [if_pos (by omega), show k * 3 / 3 = k by omega]
theorem layF_1 (k : Nat) {q : Nat} (h : q = k * 3 + 1) : layF s q = .int .i64 (inR s (sgB s 47 k) : Int) := by
  subst h; unfold layF; rw [if_neg (by omega), if_pos (by omega), show (k * 3 + 1) / 3 = k by omega]
theorem layF_2 (k : Nat) {q : Nat} (h : q = k * 3 + 2) : layF s q = .int .i64 (outR s (sgB s 47 k) : Int) := by
  subst h; unfold layF; rw [if_neg (by omega), if_neg (by omega), show (k * 3 + 2) / 3 = k by omega]
theorem layF_snoc {u : Value} {e : Option (Nat × Array Value)} {b : Nat} (hB : isB s b) (h : Sl 3 u e (cnt s 47 b + 1) (fun i => if i < cnt s 47 b * 3 then layF s i else (fun q => (layC (s.extract (sta s 47 b) b) (inR s b : Int) (outR s b : Int))[q]?.getD undef) (i - cnt s 47 b * 3))) : Sl 3 u e (cnt s 47 b + 1) (layF s) :=
  h.congr fun i hi => by
    by_cases hlt : i < cnt s 47 b * 3
    · rw [if_pos hlt]
    · rw [if_neg hlt]
      have e1 := seg_b hB
      have e2 := sgB_b hB
      obtain h0 | h0 | h0 : i = cnt s 47 b * 3 ∨ i = cnt s 47 b * 3 + 1 ∨ i = cnt s 47 b * 3 + 2 := by omega
      · rw [layF_0 _ h0, e1, h0, Nat.sub_self]; rfl
      · rw [layF_1 _ h0, e2, h0, show cnt s 47 b * 3 + 1 - cnt s 47 b * 3 = 1 by omega]; rfl
      · rw [layF_2 _ h0, e2, h0, show cnt s 47 b * 3 + 2 - cnt s 47 b * 3 = 2 by omega]; rfl
theorem SlAt.get3 {u : Value} {e : Option (Nat × Array Value)} {n b cap : Nat} {cs : Array Value} {f : Nat → Value} (h : SlAt 3 u e n b cap cs f) (i j : Nat) {o : Nat} (ho : o = 0 + i * 3 + j) (hi : i < n) (hj : j < 3) : cs[o]? = some (f (i * 3 + j)) := by
  subst ho;have := h.get (i * 3 + j) (by omega)
  rwa [Nat.zero_add]
theorem cnt_pos {i : Nat} (h : i ≤ s.size) : 0 < cnt s 47 i ↔ 0 < sta s 47 i := by
  induction i with
  | zero => simp [cnt, bnd, sta]
  | succ i ih =>
    by_cases hb : byt s i = 47
    · rw [cnt_yes hb, sta_yes hb]; omega
    · rw [cnt_no hb, sta_no hb]; exact ih (by omega)
theorem prev_out {b : Nat} (hb : b ≤ s.size) (h : 0 < cnt s 47 b) : sgB s 47 (cnt s 47 b - 1) = sta s 47 b - 1 := by
  have h1 := sgA_cnt (s := s) (c := 47) hb
  unfold sgA at h1
  rw [if_neg (by omega)] at h1
  omega
theorem word_at (h : WordP s) {k : Nat} (hk : k < nSg s 47) : layP s (sgB s 47 k) := h.2.2 _ (sgB_le hk) (sgB_spec hk).1
theorem word_of (h1 : s.size ≤ 300) (h2 : ∀ i, i < s.size → byt s i = 47 ∨ pcB (byt s i) = true) (h3 : ∀ k, k < nSg s 47 → layP s (sgB s 47 k)) : WordP s :=
  ⟨h1, h2, fun b hb hB => by
    have h4 := h3 (cnt s 47 b) (by unfold nSg; have := cnt_mono (s := s) (c := 47) hb; omega)
    rwa [sgB_b hB] at h4⟩
end
end Go.Sw

namespace Go.Sw
open Go Go.RowKit
theorem str_iff {t : ByteArray} : (t : ByteArray).toList = (⟨#[]⟩ : ByteArray).toList ↔ t.size = 0 :=
  ⟨fun h => by rw [str_eq h]; rfl, fun h => by rw [str_e0 h]⟩
def fitP (z a b k o : Nat) : Prop := 0 < z ∧ a ≤ 6 ∧ b ≤ 6 ∧ (0 < k → a = o)
instance (z a b k o : Nat) : Decidable (fitP z a b k o) := by unfold fitP; infer_instance
instance (s : ByteArray) (b : Nat) : Decidable (layP s b) := by unfold layP; infer_instance
section
variable {s : ByteArray}
theorem fit_iff {b st x y k : Nat} (hb : b ≤ s.size) (h1 : st = sta s 47 b) (h2 : x = inR s b) (h3 : y = outR s b) (h4 : k = cnt s 47 b) : fitP (s.extract st b).size x y k (outR s (sgB s 47 (k - 1))) ↔ layP s b := by
  subst h1; subst h2; subst h3; subst h4
  unfold fitP layP
  rw [ext_size hb, ← cnt_pos hb];have h := sta_le (s := s) (c := 47) b
  constructor
  · rintro ⟨q1, q2, q3, q4⟩
    exact ⟨by omega, q2, q3, fun q => by rw [q4 q, prev_out hb q]⟩
  · rintro ⟨q1, q2, q3, q4⟩
    exact ⟨by omega, q2, q3, fun q => by rw [q4 q, prev_out hb q]⟩
theorem fit_bool {b st x y k : Nat} (hb : b ≤ s.size) (h1 : st = sta s 47 b) (h2 : x = inR s b) (h3 : y = outR s b) (h4 : k = cnt s 47 b) : Value.bool (decide (fitP (s.extract st b).size x y k (outR s (sgB s 47 (k - 1))))) = Value.bool (decide (layP s b)) :=
  congrArg Value.bool (decide_eq_decide.2 (fit_iff hb h1 h2 h3 h4))
theorem lay_lit {t : ByteArray} {x y : Int} (i : Nat) (hi : i < 1 * 3) : (layC t x y)[0 + i]? = some ((layC t x y)[i]?.getD undef) := by
  obtain rfl | rfl | rfl : i = 0 ∨ i = 1 ∨ i = 2 := by omega
  · rfl
  · rfl
  · rfl
theorem lay_litone {t : ByteArray} {x y : Int} (i : Nat) (hi : i < 1 * 3) : ((layC t x y)[i]?.getD undef).oneCell' = true := by
  obtain rfl | rfl | rfl : i = 0 ∨ i = 1 ∨ i = 2 := by omega
  · rfl
  · rfl
  · rfl
theorem layF_snoc' {u : Value} {e : Option (Nat × Array Value)} {b st x y k : Nat} (hB : isB s b) (h1 : st = sta s 47 b) (h2 : x = inR s b) (h3 : y = outR s b) (h4 : k = cnt s 47 b) (h : Sl 3 u e (k + 1) (fun i => if i < k * 3 then layF s i else (fun q => (layC (s.extract st b) (x : Int) (y : Int))[q]?.getD undef) (i - k * 3))) : Sl 3 u e (k + 1) (layF s) := by
  subst h1; subst h2; subst h3; subst h4;exact layF_snoc hB h
theorem word_all {n : Nat} (hn : n = s.size) (h3 : s.size ≤ 300) (hpc : ∀ i, i < n → byt s i = 47 ∨ pcB (byt s i) = true) (hly : ∀ b, b < n → byt s b = 47 → layP s b) (hl : layP s n) : WordP s := by
  subst hn;refine ⟨h3, hpc, fun b hb hB => ?_⟩
  rcases hB with e | ⟨h1, h2⟩
  · rw [e]; exact hl
  · exact hly b h1 h2
end
end Go.Sw

namespace Go.Sw
open Go Go.RowKit Go.ChangeShapes Go.WideShapes Go.ChangeAt
section
variable {H : Type} {enc : TypeId × Value → H} {P : Program} {w : World} {base : Nat} {spare : Nat → Bool} {held : Bool}
end
end Go.Sw
