/- Plain lemmas of a small calculus for walks over frames and own memory; no statement of the seat is proved here. -/
import Derived.Test.YtlpccepifehilaaSw6
import Derived.Test.YtlpccepifehilaaSw85
import Derived.Test.YtlpccepifehilaaSw38
import Derived.Test.YtlpccepifehilaaSw9
set_option linter.unusedVariables false
set_option linter.unusedSimpArgs false
namespace Go.Sw
open Go Go.RowKit
variable {P : Program}
/-! ### Regions that draw their order, with guards (as Sw4, but an operation may be passed over). -/
section
variable {ops : List Oper} {Q : Exit → Act → World → Prop} {n : Nat} {F : List (Nat × Value)} {G : Type} {S : G → World → Prop}
def dstsOkQ (n : Nat) (F : List (Nat × Value)) : List Oper → List Nat → Bool
  | [], _ => true
  | o :: r, seen => (match o.dst with
    | some d => Nat.blt d n && (lk F d).isNone && !(memNat d seen) && dstsOkQ n F r (d :: seen)
    | none => false)

def StepsQ {G : Type} (P : Program) (ops : List Oper) (k n : Nat) (F : List (Nat × Value)) (S : G → World → Prop) (φ : Facts G) : List Oper → Nat → Prop
  | [], _ => True
  | o :: r, i => (∀ a w g, Fr n a F → S g w → Deps ops k φ o g a w → if Region.wanted o (yielded ops.toArray a.tmps) = true then Does P o a w (After S φ i g w) else After S φ i g w undef w) ∧ StepsQ P ops k n F S φ r (i + 1)
theorem StepsQ.get {k : Nat} {φ : Facts G} : ∀ {l : List Oper} {i : Nat}, StepsQ P ops k n F S φ l i → ∀ (j : Nat) (o : Oper), l[j]? = some o →
    ∀ a w g, Fr n a F → S g w → Deps ops k φ o g a w → if Region.wanted o (yielded ops.toArray a.tmps) = true then Does P o a w (After S φ (i + j) g w) else After S φ (i + j) g w undef w
  | [], _, _, j, o, h => by simp at h
  | x :: r, i, hs, j, o, h => by
    cases j with
    | zero => simp at h; subst h; exact hs.1
    | succ j => have := hs.2.get j o (by simpa using h); rwa [show i + 1 + j = i + (j + 1) by omega] at this

end
end Go.Sw

namespace Go.Sw
open Go Go.RowKit
def rowW (cs : Array Value) (N : Nat) (D : Nat → Nat) : Array Value := fnC cs.size (fun c => if c < N then .int .i64 (D c : Int) else (cs[c]?).getD undef)
def put1 (D : Nat → Nat) (j x i : Nat) : Nat := if i = j then x else D i
section
variable {cs : Array Value} {N : Nat} {D D' : Nat → Nat}
end
section
variable {P : Program} {X : List Nat} {w0 w : World} {L : Own} {D : Froz} {n : Nat} {F : List (Nat × Value)} {a : Act} {d : Option Tmp} {T : TypeId} {t : TypeId} {pos : String} {af : Array Edge} {gd : Option (Nat × Bool)} {x y : Operand}
end
section
variable {P : Program} {X : List Nat} {w0 w : World} {L : Own} {D : Froz} {n : Nat} {F : List (Nat × Value)} {a : Act} {d : Option Tmp} {T : TypeId} {t : TypeId} {pos : String} {af : Array Edge} {gd : Option (Nat × Bool)} {x : Operand}
end
/-! ### Sorting by exchanges: what stays -/
def SameSet (N : Nat) (D E : Nat → Nat) : Prop := ∀ x, (∃ k, k < N ∧ D k = x) ↔ ∃ k, k < N ∧ E k = x
def Asc (m : Nat) (D : Nat → Nat) : Prop := ∀ a b, a < b → b < m → D a ≤ D b
def AscBut (m j : Nat) (D : Nat → Nat) : Prop := (∀ a b, a < b → b < m → a ≠ j → b ≠ j → D a ≤ D b) ∧ ∀ b, j < b → b < m → D j ≤ D b
theorem AscBut.start {m : Nat} {D : Nat → Nat} (h : Asc m D) : AscBut (m + 1) m D := ⟨fun a b h1 h2 _ h4 => h a b h1 (by omega), fun b h1 h2 => absurd h2 (by omega)⟩
theorem AscBut.done {m j : Nat} {D : Nat → Nat} (h : AscBut m j D) (hj : j = 0 ∨ D (j - 1) ≤ D j) : Asc m D := fun a b h1 h2 => by
  by_cases e1 : a = j
  · subst e1; exact h.2 b h1 h2
  · by_cases e2 : b = j
    · subst e2
      rcases hj with e | hj
      · omega
      · by_cases e3 : a = b - 1
        · subst e3; exact hj
        · exact Nat.le_trans (h.1 a (b - 1) (by omega) (by omega) e1 (by omega)) hj
    · exact h.1 a b h1 h2 e1 e2
theorem AscBut.step {m j : Nat} {D : Nat → Nat} (h : AscBut m j D) (hj0 : 0 < j) (hjm : j < m) (hlt : D j < D (j - 1)) : AscBut m (j - 1) (put1 (put1 D j (D (j - 1))) (j - 1) (D j)) := by
  have key : ∀ k, put1 (put1 D j (D (j - 1))) (j - 1) (D j) k = if k = j - 1 then D j else if k = j then D (j - 1) else D k := fun k => rfl;refine ⟨fun a b h1 h2 h3 h4 => ?_, fun b h1 h2 => ?_⟩
  · rw [key, key, if_neg h3, if_neg h4]
    by_cases e1 : a = j
    · rw [if_pos e1, if_neg (by omega)]; exact h.1 (j - 1) b (by omega) h2 (by omega) (by omega)
    · rw [if_neg e1]
      by_cases e2 : b = j
      · rw [if_pos e2]; exact h.1 a (j - 1) (by omega) (by omega) e1 (by omega)
      · rw [if_neg e2]; exact h.1 a b h1 h2 e1 e2
  · rw [key, key, if_pos rfl, if_neg (by omega)]
    by_cases e2 : b = j
    · rw [if_pos e2]; omega
    · rw [if_neg e2]; exact h.2 b (by omega) h2
end Go.Sw

namespace Go.Sw
open Go Go.RowKit Go.Ech
def NumOut (w w' : World) (m : Nat) (f : Nat → Nat) (v : Value) : Prop := ∃ b c cs, v = .slice (some ⟨b, 0, none⟩) m c ∧ w.heap.size ≤ b ∧ Blk w' b cs ∧ SlAt 1 v (some (b, cs)) m b c cs (fun k => .int .i64 (f k : Int))
theorem NumOut.last {w w1 w2 : World} {m : Nat} {f : Nat → Nat} {v : Value} (h : NumOut w w1 m f v) (hx : Ext w1 w2) : NumOut w w2 m f v := by
  obtain ⟨b, c, cs, h1, h2, h3, h4⟩ := h;exact ⟨b, c, cs, h1, h2, h3.ext hx, h4⟩
theorem NumOut.mono {w w1 w2 : World} {m : Nat} {f : Nat → Nat} {v : Value} (h : NumOut w1 w2 m f v) (hs : w.heap.size ≤ w1.heap.size) : NumOut w w2 m f v := by
  obtain ⟨b, c, cs, h1, h2, h3, h4⟩ := h;exact ⟨b, c, cs, h1, Nat.le_trans hs h2, h3, h4⟩
def endI (k : Int) : Nat := if 0 < k then 2 * k.natAbs - 1 else 2 * k.natAbs - 2
def begI (k : Int) : Nat := if 0 < k then 2 * k.natAbs - 2 else 2 * k.natAbs - 1
end Go.Sw

namespace Go.Sw
open Go Go.RowKit Go.Ech
/-! ### Maps with pointers as keys, and bools as values -/
open Classical in
noncomputable def findB (b : Nat) : List MapEntry → Nat → Option (Nat × Value)
  | [], _ => none
  | e :: es, i => if e.key = ptr b 0 then some (i, e.val) else findB b es (i + 1)
theorem ptr_inj {a b : Nat} (h : ptr a 0 = ptr b 0) : a = b := by
  unfold ptr at h
  injection h with h
  injection h with h
  injection h
theorem findB_push {b q : Nat} {v : Value} {c : Nat} : ∀ {es : List MapEntry} {i : Nat}, (findB b (es ++ [{ key := ptr q 0, val := v, born := c }]) i).map (·.2) = match findB b es i with
    | some r => some r.2
    | none => if b = q then some v else none
  | [], i => by
    simp only [List.nil_append, findB]
    by_cases e : b = q
    · subst e; rw [if_pos rfl, if_pos rfl]; rfl
    · rw [if_neg (fun h => e (ptr_inj h).symm), if_neg e]; rfl
  | e :: es, i => by
    have ih := findB_push (b := b) (q := q) (v := v) (c := c) (es := es) (i := i + 1)
    simp only [List.cons_append, findB]
    by_cases h : e.key = ptr b 0
    · rw [if_pos h, if_pos h]; rfl
    · rw [if_neg h, if_neg h]; exact ih
section
variable {P : Program} {n : Nat} {F : List (Nat × Value)} {a : Act} {w w0 : World} {d : Option Tmp} {t T kt et pe : TypeId} {pos : String} {af : Array Edge} {gd : Option (Nat × Bool)} {x y z' : Operand} {X : List Nat} {L : Own} {D : Froz}
end
structure MpP (es : List MapEntry) (ta : Nat → Nat) (m : Nat) (M : Nat → Option Bool) : Prop where
  keys : ∀ e, e ∈ es → ∃ j, j < m ∧ e.key = ptr (ta j) 0
  val : ∀ j, j < m → (findB (ta j) es 0).map (·.2) = (M j).map Value.bool
def upM (M : Nat → Option Bool) (i : Nat) (b : Bool) (j : Nat) : Option Bool := if j = i then some b else M j
theorem MpP.none {ta : Nat → Nat} {m : Nat} : MpP [] ta m (fun _ => none) := ⟨fun e he => (by cases he), fun _ _ => rfl⟩
theorem MpP.push {es : List MapEntry} {ta : Nat → Nat} {m c i : Nat} {M : Nat → Option Bool} {b : Bool} (h : MpP es ta m M) (hi : i < m) (hM : M i = Option.none) (hinj : ∀ x y, x < m → y < m → ta x = ta y → x = y) : MpP (es ++ [{ key := ptr (ta i) 0, val := .bool b, born := c }]) ta m (upM M i b) := by
  refine ⟨fun e he => ?_, fun j hj => ?_⟩
  · rcases List.mem_append.1 he with he | he
    · exact h.keys e he
    · simp only [List.mem_singleton] at he; subst he; exact ⟨i, hi, rfl⟩
  · have hv := h.val j hj
    rw [findB_push]
    unfold upM
    by_cases e : j = i
    · subst e
      rw [hM] at hv;rw [if_pos rfl]
      cases hf : findB (ta j) es 0 with
      | none => rw [if_pos rfl]; rfl
      | some r => rw [hf] at hv; cases hv
    · rw [if_neg e]
      cases hf : findB (ta j) es 0 with
      | none => rw [hf] at hv; rw [if_neg (fun q => e (hinj j i hj hi q))]; exact hv
      | some r => rw [hf] at hv; exact hv
theorem MpP.no {es : List MapEntry} {ta : Nat → Nat} {m i : Nat} {M : Nat → Option Bool} (h : MpP es ta m M) (hi : i < m) (hM : M i = Option.none) : findB (ta i) es 0 = Option.none := by
  have := h.val i hi;rw [hM] at this
  cases hf : findB (ta i) es 0 with
  | none => rfl
  | some r => rw [hf] at this; cases this
theorem MpP.yes {es : List MapEntry} {ta : Nat → Nat} {m i : Nat} {M : Nat → Option Bool} {b : Bool} (h : MpP es ta m M) (hi : i < m) (hM : M i = some b) : ∃ ix, findB (ta i) es 0 = some (ix, .bool b) := by
  have := h.val i hi;rw [hM] at this
  cases hf : findB (ta i) es 0 with
  | none => rw [hf] at this; cases this
  | some r => rw [hf] at this; exact ⟨r.1, by have := Option.some.inj this; rw [← this]⟩
end Go.Sw

namespace Go.Sw
open Go Go.RowKit Go.Ech
/-! ### Orientations: which triangles are turned over -/
def alk (K : Nat → Int) (tw : Nat → Nat) (x : Nat) : Bool := decide (K x = K (tw x))
def nb (tw : Nat → Nat) (i s : Nat) : Nat := tw (i * 3 + s) / 3
def VO (m : Nat) (K : Nat → Int) (tw : Nat → Nat) (o : Nat → Bool) : Prop := ∀ i, i < m → ∀ s, s < 3 → o (nb tw i s) = decide (o i ≠ alk K tw (i * 3 + s))
def SubM (M M' : Nat → Option Bool) : Prop := ∀ j b, M j = some b → M' j = some b
def AgM (m : Nat) (o : Nat → Bool) (M : Nat → Option Bool) : Prop := ∀ j, j < m → ∀ b, M j = some b → o j = b
def unv (m : Nat) (M : Nat → Option Bool) : Nat := cnt (fun j => (M j).isNone) m
inductive Cn (m : Nat) (tw : Nat → Nat) (i : Nat) : Nat → Prop
  | refl : Cn m tw i i
  | step {j : Nat} (h : Cn m tw i j) (hj : j < m) (s : Nat) (hs : s < 3) : Cn m tw i (nb tw j s)
theorem Cn.trans {m : Nat} {tw : Nat → Nat} {i j k : Nat} (h : Cn m tw i j) (h2 : Cn m tw j k) : Cn m tw i k := by
  induction h2 with
  | refl => exact h
  | step _ hj s hs ih => exact .step ih hj s hs
structure TP (m : Nat) (K : Nat → Int) (tw : Nat → Nat) (M : Nat → Option Bool) (i : Nat) (ov r : Bool) (M' : Nat → Option Bool) : Prop where
  sub : SubM M M'
  conn : ∀ j, M j = none → M' j ≠ none → Cn m tw i j
  yes : r = true → M' i = some ov ∧ ∀ j, j < m → M j = none → ∀ b, M' j = some b → ∀ q, q < 3 → M' (nb tw j q) = some (decide (b ≠ alk K tw (j * 3 + q)))
  ag : ∀ o, VO m K tw o → AgM m o M → o i = ov → r = true ∧ AgM m o M'
structure TL (m : Nat) (K : Nat → Int) (tw : Nat → Nat) (M : Nat → Option Bool) (i : Nat) (ov : Bool) (s : Nat) (M2 : Nat → Option Bool) : Prop where
  sub : SubM (upM M i ov) M2
  clo : ∀ j, j < m → upM M i ov j = none → ∀ b, M2 j = some b → ∀ q, q < 3 → M2 (nb tw j q) = some (decide (b ≠ alk K tw (j * 3 + q)))
  side : ∀ q, q < s → M2 (nb tw i q) = some (decide (ov ≠ alk K tw (i * 3 + q)))
  conn : ∀ j, upM M i ov j = none → M2 j ≠ none → Cn m tw i j
  ag : ∀ o, VO m K tw o → AgM m o M → o i = ov → AgM m o M2
section
variable {m : Nat} {K : Nat → Int} {tw : Nat → Nat} {M M2 M3 : Nat → Option Bool} {i s : Nat} {ov : Bool}
theorem upM_eq : upM M i ov i = some ov := if_pos rfl
theorem upM_ne {j : Nat} (h : j ≠ i) : upM M i ov j = M j := if_neg h
theorem TL.start (h : M i = none) : TL m K tw M i ov 0 (upM M i ov) :=
  ⟨fun _ _ h => h, fun j _ h1 b h2 => (by rw [h1] at h2; cases h2), fun q hq => absurd hq (by omega), fun j h1 h2 => absurd h1 h2, fun o _ ha ho j hj b hb => by
    by_cases e : j = i
    · subst e; rw [upM_eq] at hb; rw [ho]; exact Option.some.inj hb
    · rw [upM_ne e] at hb; exact ha j hj b hb⟩
theorem TL.step (h : TL m K tw M i ov s M2) (hi : i < m) (hs : s < 3) (h3 : TP m K tw M2 (nb tw i s) (decide (ov ≠ alk K tw (i * 3 + s))) true M3) : TL m K tw M i ov (s + 1) M3 := by
  have hy := h3.yes rfl;refine ⟨fun j b hb => h3.sub j b (h.sub j b hb), fun j hj h1 b h2 q hq => ?_, fun q hq => ?_, fun j h1 h2 => ?_, fun o ho ha hov => ?_⟩
  · cases e : M2 j with
    | none => exact hy.2 j hj e b h2 q hq
    | some b2 =>
      have := h3.sub j b2 e;rw [this] at h2;obtain rfl := Option.some.inj h2;exact h3.sub _ _ (h.clo j hj h1 b2 e q hq)
  · by_cases e : q < s
    · exact h3.sub _ _ (h.side q e)
    · obtain rfl : q = s := by omega
      exact hy.1
  · cases e : M2 j with
    | none => exact (Cn.step .refl hi s hs).trans (h3.conn j e h2)
    | some b2 => exact h.conn j h1 (by rw [e]; exact fun q => by cases q)
  · have h4 := h.ag o ho ha hov
    have h5 := ho i hi s hs;rw [hov] at h5;exact (h3.ag o ho h4 h5).2
theorem TL.done (h : TL m K tw M i ov 3 M2) (hM : M i = none) : TP m K tw M i ov true M2 := by
  have hi2 : M2 i = some ov := h.sub i ov upM_eq;refine ⟨fun j b hb => h.sub j b (by rw [upM_ne (fun e => (by rw [e, hM] at hb; cases hb))]; exact hb), fun j h1 h2 => ?_, fun _ => ⟨hi2, fun j hj h1 b h2 q hq => ?_⟩, fun o ho ha hov => ⟨rfl, h.ag o ho ha hov⟩⟩
  · by_cases e : j = i
    · rw [e]; exact .refl
    · exact h.conn j (by rw [upM_ne e]; exact h1) h2
  · by_cases e : j = i
    · subst e
      rw [hi2] at h2;obtain rfl := Option.some.inj h2;exact h.side q hq
    · exact h.clo j hj (by rw [upM_ne e]; exact h1) b h2 q hq
end
end Go.Sw
