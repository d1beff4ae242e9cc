/- Plain lemmas of a small calculus for walks over frames and own memory; no statement of the seat is proved here. -/
import Derived.Test.YtockjnhdllcfpaaSw86
import Derived.Test.YtockjnhdllcfpaaSw83
import Derived.Test.YtockjnhdllcfpaaSw77
import Derived.Test.YtockjnhdllcfpaaSw6
import Derived.Test.YtockjnhdllcfpaaSw29
import Derived.RangeFuncIn
import Derived.RangeFuncSeq
import Derived.TacticsIn
import Derived.OrdersIn
import Derived.LoopNIn
import Derived.RangeFuncRecord
set_option linter.unusedVariables false
set_option linter.unusedSimpArgs false
namespace Go.Sw
open Go Go.RowKit Go.Ech
/-! ### Maps with pointers as keys, and bools as values -/
open Classical in
noncomputable def findB (b : Nat) : List MapEntry → Nat → Option (Nat × Value)
  | [], _ => none
  | e :: es, i => if e.key = ptr b 0 then some (i, e.val) else findB b es (i + 1)
theorem ptr_inj {a b : Nat} (h : ptr a 0 = ptr b 0) : a = b := by
  unfold ptr at h
  injection h with h
  injection h with h
  injection h
theorem findB_push {b q : Nat} {v : Value} {c : Nat} : ∀ {es : List MapEntry} {i : Nat}, (findB b (es ++ [{ key := ptr q 0, val := v, born := c }]) i).map (·.2) = match findB b es i with
    | some r => some r.2
    | none => if b = q then some v else none
  | [], i => by
    simp only [List.nil_append, findB]
    by_cases e : b = q
    · subst e; rw [if_pos rfl, if_pos rfl]; rfl
    · rw [if_neg (fun h => e (ptr_inj h).symm), if_neg e]; rfl
  | e :: es, i => by
    have ih := findB_push (b := b) (q := q) (v := v) (c := c) (es := es) (i := i + 1)
    simp only [List.cons_append, findB]
    by_cases h : e.key = ptr b 0
    · rw [if_pos h, if_pos h]; rfl
    · rw [if_neg h, if_neg h]; exact ih
section
variable {P : Program} {n : Nat} {F : List (Nat × Value)} {a : Act} {w w0 : World} {d : Option Tmp} {t T kt et pe : TypeId} {pos : String} {af : Array Edge} {gd : Option (Nat × Bool)} {x y z' : Operand} {X : List Nat} {L : Own} {D : Froz}
end
structure MpP (es : List MapEntry) (ta : Nat → Nat) (m : Nat) (M : Nat → Option Bool) : Prop where
  keys : ∀ e, e ∈ es → ∃ j, j < m ∧ e.key = ptr (ta j) 0
  val : ∀ j, j < m → (findB (ta j) es 0).map (·.2) = (M j).map Value.bool
def upM (M : Nat → Option Bool) (i : Nat) (b : Bool) (j : Nat) : Option Bool := if j = i then some b else M j
theorem MpP.none {ta : Nat → Nat} {m : Nat} : MpP [] ta m (fun _ => none) := ⟨fun e he => (by cases he), fun _ _ => rfl⟩
theorem MpP.push {es : List MapEntry} {ta : Nat → Nat} {m c i : Nat} {M : Nat → Option Bool} {b : Bool} (h : MpP es ta m M) (hi : i < m) (hM : M i = Option.none) (hinj : ∀ x y, x < m → y < m → ta x = ta y → x = y) : MpP (es ++ [{ key := ptr (ta i) 0, val := .bool b, born := c }]) ta m (upM M i b) := by
  refine ⟨fun e he => ?_, fun j hj => ?_⟩
  · rcases List.mem_append.1 he with he | he
    · exact h.keys e he
    · simp only [List.mem_singleton] at he; subst he; exact ⟨i, hi, rfl⟩
  · have hv := h.val j hj
    rw [findB_push]
    unfold upM
    by_cases e : j = i
    · subst e
      rw [hM] at hv;rw [if_pos rfl]
      cases hf : findB (ta j) es 0 with
      | none => rw [if_pos rfl]; rfl
      | some r => rw [hf] at hv; cases hv
    · rw [if_neg e]
      cases hf : findB (ta j) es 0 with
      | none => rw [hf] at hv; rw [if_neg (fun q => e (hinj j i hj hi q))]; exact hv
      | some r => rw [hf] at hv; exact hv
theorem MpP.no {es : List MapEntry} {ta : Nat → Nat} {m i : Nat} {M : Nat → Option Bool} (h : MpP es ta m M) (hi : i < m) (hM : M i = Option.none) : findB (ta i) es 0 = Option.none := by
  have := h.val i hi;rw [hM] at this
  cases hf : findB (ta i) es 0 with
  | none => rfl
  | some r => rw [hf] at this; cases this
theorem MpP.yes {es : List MapEntry} {ta : Nat → Nat} {m i : Nat} {M : Nat → Option Bool} {b : Bool} (h : MpP es ta m M) (hi : i < m) (hM : M i = some b) : ∃ ix, findB (ta i) es 0 = some (ix, .bool b) := by
  have := h.val i hi;rw [hM] at this
  cases hf : findB (ta i) es 0 with
  | none => rw [hf] at this; cases this
  | some r => rw [hf] at this; exact ⟨r.1, by have := Option.some.inj this; rw [← this]⟩
end Go.Sw

namespace Go.Sw
open Go Go.RowKit Go.Ech
/-! ### Orientations: which triangles are turned over -/
def alk (K : Nat → Int) (tw : Nat → Nat) (x : Nat) : Bool := decide (K x = K (tw x))
def nb (tw : Nat → Nat) (i s : Nat) : Nat := tw (i * 3 + s) / 3
def VO (m : Nat) (K : Nat → Int) (tw : Nat → Nat) (o : Nat → Bool) : Prop := ∀ i, i < m → ∀ s, s < 3 → o (nb tw i s) = decide (o i ≠ alk K tw (i * 3 + s))
def SubM (M M' : Nat → Option Bool) : Prop := ∀ j b, M j = some b → M' j = some b
def AgM (m : Nat) (o : Nat → Bool) (M : Nat → Option Bool) : Prop := ∀ j, j < m → ∀ b, M j = some b → o j = b
def unv (m : Nat) (M : Nat → Option Bool) : Nat := cnt (fun j => (M j).isNone) m
inductive Cn (m : Nat) (tw : Nat → Nat) (i : Nat) : Nat → Prop
  | refl : Cn m tw i i
  | step {j : Nat} (h : Cn m tw i j) (hj : j < m) (s : Nat) (hs : s < 3) : Cn m tw i (nb tw j s)
theorem Cn.trans {m : Nat} {tw : Nat → Nat} {i j k : Nat} (h : Cn m tw i j) (h2 : Cn m tw j k) : Cn m tw i k := by
  induction h2 with
  | refl => exact h
  | step _ hj s hs ih => exact .step ih hj s hs
structure TP (m : Nat) (K : Nat → Int) (tw : Nat → Nat) (M : Nat → Option Bool) (i : Nat) (ov r : Bool) (M' : Nat → Option Bool) : Prop where
  sub : SubM M M'
  conn : ∀ j, M j = none → M' j ≠ none → Cn m tw i j
  yes : r = true → M' i = some ov ∧ ∀ j, j < m → M j = none → ∀ b, M' j = some b → ∀ q, q < 3 → M' (nb tw j q) = some (decide (b ≠ alk K tw (j * 3 + q)))
  ag : ∀ o, VO m K tw o → AgM m o M → o i = ov → r = true ∧ AgM m o M'
structure TL (m : Nat) (K : Nat → Int) (tw : Nat → Nat) (M : Nat → Option Bool) (i : Nat) (ov : Bool) (s : Nat) (M2 : Nat → Option Bool) : Prop where
  sub : SubM (upM M i ov) M2
  clo : ∀ j, j < m → upM M i ov j = none → ∀ b, M2 j = some b → ∀ q, q < 3 → M2 (nb tw j q) = some (decide (b ≠ alk K tw (j * 3 + q)))
  side : ∀ q, q < s → M2 (nb tw i q) = some (decide (ov ≠ alk K tw (i * 3 + q)))
  conn : ∀ j, upM M i ov j = none → M2 j ≠ none → Cn m tw i j
  ag : ∀ o, VO m K tw o → AgM m o M → o i = ov → AgM m o M2
section
variable {m : Nat} {K : Nat → Int} {tw : Nat → Nat} {M M2 M3 : Nat → Option Bool} {i s : Nat} {ov : Bool}
theorem upM_eq : upM M i ov i = some ov := if_pos rfl
theorem upM_ne {j : Nat} (h : j ≠ i) : upM M i ov j = M j := if_neg h
theorem TL.start (h : M i = none) : TL m K tw M i ov 0 (upM M i ov) :=
  ⟨fun _ _ h => h, fun j _ h1 b h2 => (by rw [h1] at h2; cases h2), fun q hq => absurd hq (by omega), fun j h1 h2 => absurd h1 h2, fun o _ ha ho j hj b hb => by
    by_cases e : j = i
    · subst e; rw [upM_eq] at hb; rw [ho]; exact Option.some.inj hb
    · rw [upM_ne e] at hb; exact ha j hj b hb⟩
theorem TL.step (h : TL m K tw M i ov s M2) (hi : i < m) (hs : s < 3) (h3 : TP m K tw M2 (nb tw i s) (decide (ov ≠ alk K tw (i * 3 + s))) true M3) : TL m K tw M i ov (s + 1) M3 := by
  have hy := h3.yes rfl;refine ⟨fun j b hb => h3.sub j b (h.sub j b hb), fun j hj h1 b h2 q hq => ?_, fun q hq => ?_, fun j h1 h2 => ?_, fun o ho ha hov => ?_⟩
  · cases e : M2 j with
    | none => exact hy.2 j hj e b h2 q hq
    | some b2 =>
      have := h3.sub j b2 e;rw [this] at h2;obtain rfl := Option.some.inj h2;exact h3.sub _ _ (h.clo j hj h1 b2 e q hq)
  · by_cases e : q < s
    · exact h3.sub _ _ (h.side q e)
    · obtain rfl : q = s := by omega
      exact hy.1
  · cases e : M2 j with
    | none => exact (Cn.step .refl hi s hs).trans (h3.conn j e h2)
    | some b2 => exact h.conn j h1 (by rw [e]; exact fun q => by cases q)
  · have h4 := h.ag o ho ha hov
    have h5 := ho i hi s hs;rw [hov] at h5;exact (h3.ag o ho h4 h5).2
theorem TL.done (h : TL m K tw M i ov 3 M2) (hM : M i = none) : TP m K tw M i ov true M2 := by
  have hi2 : M2 i = some ov := h.sub i ov upM_eq;refine ⟨fun j b hb => h.sub j b (by rw [upM_ne (fun e => (by rw [e, hM] at hb; cases hb))]; exact hb), fun j h1 h2 => ?_, fun _ => ⟨hi2, fun j hj h1 b h2 q hq => ?_⟩, fun o ho ha hov => ⟨rfl, h.ag o ho ha hov⟩⟩
  · by_cases e : j = i
    · rw [e]; exact .refl
    · exact h.conn j (by rw [upM_ne e]; exact h1) h2
  · by_cases e : j = i
    · subst e
      rw [hi2] at h2;obtain rfl := Option.some.inj h2;exact h.side q hq
    · exact h.clo j hj (by rw [upM_ne e]; exact h1) b h2 q hq
end
end Go.Sw

namespace Go.Sw
open Go Go.RowKit Go.Ech
/-! ### Surfaces turned over -/
def ovr (f : Nat → Int) : Nat → Int := tri3 (-(f 2)) (-(f 1)) (-(f 0))
def orB (R : Nat → Nat → Int) (o : Nat → Bool) (i : Nat) : Nat → Int := if o i = true then ovr (R i) else R i
def NF (m : Nat) (tw : Nat → Nat) (o : Nat → Bool) : Prop := ∀ j, j < m → (∀ k, k < j → ¬ Cn m tw k j) → o j = false
structure PO (m : Nat) (K : Nat → Int) (tw : Nat → Nat) (gi : Nat) (M : Nat → Option Bool) : Prop where
  clo : ∀ j, j < m → ∀ b, M j = some b → ∀ q, q < 3 → M (nb tw j q) = some (decide (b ≠ alk K tw (j * 3 + q)))
  conn : ∀ j, M j ≠ none → ∃ k, k < gi ∧ Cn m tw k j
  told : ∀ k, k < gi → M k ≠ none
  nf : ∀ j, j < m → (∀ k, k < j → ¬ Cn m tw k j) → ∀ b, M j = some b → b = false
  ag : ∀ o, VO m K tw o → NF m tw o → AgM m o M
theorem PO.start {m : Nat} {K : Nat → Int} {tw : Nat → Nat} : PO m K tw 0 (fun _ => none) :=
  ⟨fun _ _ _ h => (by cases h), fun _ h => absurd rfl h, fun k h => absurd h (Nat.not_lt_zero _), fun _ _ _ _ h => (by cases h), fun _ _ _ _ _ _ h => (by cases h)⟩
theorem PO.same {m gi : Nat} {K : Nat → Int} {tw : Nat → Nat} {M : Nat → Option Bool} {b : Bool} (h : PO m K tw gi M) (hg : M gi = some b) : PO m K tw (gi + 1) M :=
  ⟨h.clo, fun j hj => by obtain ⟨k, h1, h2⟩ := h.conn j hj; exact ⟨k, by omega, h2⟩, fun k hk => by
    by_cases e : k = gi
    · rw [e, hg]; exact fun q => (by cases q)
    · exact h.told k (by omega), h.nf, h.ag⟩
theorem PO.cn {m gi : Nat} {K : Nat → Int} {tw : Nat → Nat} {M : Nat → Option Bool} (h : PO m K tw gi M) {k j : Nat} (hk : M k ≠ none) (hc : Cn m tw k j) : M j ≠ none := by
  induction hc with
  | refl => exact hk
  | @step j hc hj s hs ih =>
    cases e : M j with
    | none => exact absurd e ih
    | some b => rw [h.clo j hj b e s hs]; exact fun q => (by cases q)
theorem PO.first {m gi : Nat} {K : Nat → Int} {tw : Nat → Nat} {M : Nat → Option Bool} (h : PO m K tw gi M) (hg : M gi = none) : ∀ k, k < gi → ¬ Cn m tw k gi :=
  fun k hk hc => h.cn (h.told k hk) hc hg
theorem PO.step {m gi : Nat} {K : Nat → Int} {tw : Nat → Nat} {M M' : Nat → Option Bool} (h : PO m K tw gi M) (hgi : gi < m) (hg : M gi = none) (hT : TP m K tw M gi false true M') : PO m K tw (gi + 1) M' := by
  have hy := hT.yes rfl;refine ⟨fun j hj b hb q hq => ?_, fun j hj => ?_, fun k hk => ?_, fun j hj hf b hb => ?_, fun o ho hn => (hT.ag o ho (h.ag o ho hn) (hn gi hgi (h.first hg))).2⟩
  · cases e : M j with
    | none => exact hy.2 j hj e b hb q hq
    | some b2 =>
      have := hT.sub j b2 e;rw [this] at hb;obtain rfl := Option.some.inj hb;exact hT.sub _ _ (h.clo j hj b2 e q hq)
  · cases e : M j with
    | none => exact ⟨gi, by omega, hT.conn j e hj⟩
    | some b =>
      obtain ⟨k, h1, h2⟩ := h.conn j (by rw [e]; exact fun q => (by cases q));exact ⟨k, by omega, h2⟩
  · by_cases e : k = gi
    · rw [e, hy.1]; exact fun q => (by cases q)
    · cases e2 : M k with
      | none => exact absurd e2 (h.told k (by omega))
      | some b => rw [hT.sub k b e2]; exact fun q => (by cases q)
  · cases e : M j with
    | some b2 =>
      have := hT.sub j b2 e;rw [this] at hb;obtain rfl := Option.some.inj hb;exact h.nf j hj hf b2 e
    | none =>
      have hc := hT.conn j e (by rw [hb]; exact fun q => (by cases q));have h1 : ¬ gi < j := fun q => hf gi q hc;have h2 : ¬ j < gi := fun q => h.told j q e;obtain rfl : j = gi := by omega
      rw [hy.1] at hb;exact (Option.some.inj hb).symm
structure LL (D : Froz) (lo m : Nat) (F : Nat → Nat → Int) (b cap : Nat) (cs : Array Value) (β κ : Nat → Nat) (C : Nat → Array Value) : Prop where
  sl : SlAt 1 (.slice (some ⟨b, 0, none⟩) m cap) (some (b, cs)) m b cap cs (fun i => .slice (some ⟨β i, 0, none⟩) 3 (κ i))
  rows : RowsC D m β C
  row : ∀ i, i < m → SlAt 1 (.slice (some ⟨β i, 0, none⟩) 3 (κ i)) (some (β i, C i)) 3 (β i) (κ i) (C i) (fun c => .int .i64 (F i c))
  ge : ∀ i, i < m → lo ≤ β i
namespace LL
variable {D D' : Froz} {lo m b cap : Nat} {F G : Nat → Nat → Int} {cs : Array Value} {β κ : Nat → Nat} {C : Nat → Array Value}
theorem congr (h : LL D lo m F b cap cs β κ C) (e : ∀ i, i < m → F i = G i) : LL D lo m G b cap cs β κ C := ⟨h.sl, h.rows, fun i hi => by rw [← e i hi]; exact h.row i hi, h.ge⟩
theorem more (h : LL D lo m F b cap cs β κ C) (hs : ∀ x, x ∈ D → x ∈ D') : LL D' lo m F b cap cs β κ C := ⟨h.sl, h.rows.more hs, h.row, h.ge⟩
theorem set (h : LL D lo m F b cap cs β κ C) {i b1 k1 : Nat} {c1 : Array Value} {f : Nat → Int} (hi : i < m) (hs : ∀ x, x ∈ D → x ∈ D') (hm : (b1, c1) ∈ D') (hne : ∀ k, k < m → β k ≠ b1) (hg : lo ≤ b1)
    (hr : SlAt 1 (.slice (some ⟨b1, 0, none⟩) 3 k1) (some (b1, c1)) 3 b1 k1 c1 (fun c => .int .i64 (f c))) : LL D' lo m (fun k => if k = i then f else F k) b cap (cs.setIfInBounds (0 + i * 1) (.slice (some ⟨b1, 0, none⟩) 3 k1)) (up β i b1) (up κ i k1) (upE C i c1) := by
  refine ⟨h.sl.set (o := 0 + i * 1) i (by omega) (by omega) (fun j hj => ?_), ⟨fun k hk => ?_, fun x y hx hy e => ?_⟩, fun k hk => ?_, fun k hk => ?_⟩
  · unfold up
    by_cases e : j = i
    · simp only [if_pos e]
    · simp only [if_neg e]
  · unfold up upE
    by_cases e : k = i
    · rw [if_pos e, if_pos e]; exact hm
    · rw [if_neg e, if_neg e]; exact hs _ (h.rows.mem k hk)
  · unfold up at e
    by_cases e1 : x = i
    · by_cases e2 : y = i
      · omega
      · rw [if_pos e1, if_neg e2] at e; exact absurd e.symm (hne y hy)
    · by_cases e2 : y = i
      · rw [if_neg e1, if_pos e2] at e; exact absurd e (hne x hx)
      · rw [if_neg e1, if_neg e2] at e; exact h.rows.inj x y hx hy e
  · unfold up upE
    by_cases e : k = i
    · simp only [if_pos e]; exact hr
    · simp only [if_neg e]; exact h.row k hk
  · unfold up
    by_cases e : k = i
    · rw [if_pos e]; exact hg
    · rw [if_neg e]; exact h.ge k hk
theorem out {w w' : World} {L : Own} {q : Nat} (h : LL D w.heap.size m F b cap cs β κ C) (hM : Mem w w' L D) (hq : L[q]? = some (some (b, cs))) : SSOutR w w' m (fun _ => 3) F (.slice (some ⟨b, 0, none⟩) m cap) :=
  SSOutR.of (Ln := fun _ => 3) hM h.rows hq h.sl h.ge h.row
end LL
theorem Gs.more {D D' : Froz} {lo N : Nat} {K : Nat → Int} {tw : Nat → Nat} {q u t : Nat} {τ σ φ ψ : Nat → Nat} (h : Gs D lo N K tw q u t τ σ φ ψ) (hs : ∀ x, x ∈ D → x ∈ D') : Gs D' lo N K tw q u t τ σ φ ψ := ⟨fun x hx => hs _ (h.sid x hx), fun i hi => hs _ (h.tri i hi)⟩
def OrOut (w w' : World) (m : Nat) (R : Nat → Nat → Int) (K : Nat → Int) (tw : Nat → Nat) (bad ok u : Value) : Prop :=
  (u = bad ∧ ∀ o, VO m K tw o → NF m tw o → False) ∨
  ∃ (o : Nat → Bool) (l : Value), u = .tuple #[l, ok] ∧ VO m K tw o ∧ NF m tw o ∧ (∀ o', VO m K tw o' → NF m tw o' → ∀ j, j < m → o' j = o j) ∧ SSOutR w w' m (fun _ => 3) (orB R o) l
def orN (R : Nat → Nat → Int) (M : Nat → Option Bool) (gi i : Nat) : Nat → Int := if i < gi ∧ M i = some true then ovr (R i) else R i
end Go.Sw

/-! ### Walks within a round of a range over a function -/
namespace Go.Sw.Rw
open Go Go.RowKit
variable {P : Program}
abbrev FR (l : Nat) : Fence := Fence.wide.inRound l
def noDefer (o : Oper) : Bool := match o.op with
  | .defer _ => false
  | _ => true
def noDefers : List Oper → Bool
  | [] => true
  | o :: r => noDefer o && noDefers r
theorem noDefer_spec {o : Oper} (h : noDefer o = true) : ∀ c, o.op ≠ .defer c := fun c e => by unfold noDefer at h; rw [e] at h; cases h
theorem noDefers_get : ∀ {l : List Oper}, noDefers l = true → ∀ (i : Nat) (o : Oper), l[i]? = some o → noDefer o = true
  | [], _, i, o, h => by simp at h
  | x :: r, hb, i, o, h => by
    simp only [noDefers, Bool.and_eq_true] at hb
    cases i with
    | zero => simp at h; subst h; exact hb.1
    | succ i => exact noDefers_get hb.2 i o (by simpa using h)
section
variable {l m : Nat} {Q : Exit → Act → World → Prop} {a : Act} {w : World} {o : Oper}
theorem calls_in {f : FuncId} {args : Array Value} {R : Ending → World → Prop} (h : Calls P f args w R) : CallsIn (FR l) m P f args w R := (show CallsIn Fence.wide m P f args w R from callsIn_wide.2 h)
theorem op_in {next next' : Act → World → Prop} (hd : noDefer o = true) (hn : ∀ a w, next a w → next' a w) (h : o.wp P a w next Q) : o.wpIn (FR l) m P a w next' Q := by
  refine ⟨fun _ _ => trivial, ?_⟩;have he : (o.semAt (FR l).round a.eval) = execOp a.eval o := Oper.semAt_eq _ _ _ (noDefer_spec hd);rw [he]
  unfold Oper.wp at h
  generalize (execOp a.eval o).run P w = r at h
  unfold Oper.upon at h
  split at h
  · exact hn _ _ h
  · exact hn _ _ h
  · exact hn _ _ h
  · refine ⟨fun e => (by cases e), calls_in (h.mono fun e w'' hq => ?_)⟩
    cases e with
    | returned v => exact hn _ _ hq
    | panicked c => exact hq
    | outgrown => exact hq
  · refine ⟨fun e => (by cases e), fun c cs hr => ?_⟩
    obtain ⟨v, w', h1, h2⟩ := h c cs;exact ⟨v, w', hn _ _ h1, stepsIn_wide.2 h2⟩
  · exact h
  · exact h.elim
theorem list_in {ops : Array Oper} (hQ : ∀ a w, ¬ Q .outgrown a w) : ∀ (is : List Oper) (a : Act) (w : World), noDefers is = true → wpList P ops Q is a w → wpListIn (FR l) m P ops Q is a w
  | [], a, w, _, h => h
  | o :: r, a, w, hb, h => by
    simp only [noDefers, Bool.and_eq_true] at hb
    have ih := list_in (ops := ops) hQ r
    unfold wpList at h
    unfold wpListIn
    split
    · rename_i hw
      rw [if_pos hw] at h
      rcases h with h | h
      · exact op_in hb.1 (fun a w q => ih a w hb.2 q) h
      · obtain ⟨a', w', q⟩ := h.2
        exact (hQ a' w' q).elim
    · rename_i hw
      rw [if_neg hw] at h
      exact ⟨fun _ _ => trivial, ih _ _ hb.2 h⟩
theorem any_in {ops : List Oper} (hQ : ∀ a w, ¬ Q .outgrown a w) (hb : noDefers ops = true) : ∀ (f : Nat) (listed : Array Bool) (a : Act) (w : World), wpAny P .any ops.toArray Q f listed a w → wpAnyIn (FR l) m P .any ops.toArray Q f listed a w
  | 0, listed, a, w, h => h
  | f + 1, listed, a, w, h => by
    have ih := any_in hQ hb f
    refine ⟨h.1, fun i hi => ?_⟩
    have h2 := h.2 i hi
    unfold wpOp at h2
    unfold wpOpIn
    cases ho : ops.toArray[i]? with
    | none =>
      rw [ho] at h2
      exact ih _ _ _ h2
    | some o =>
      rw [ho] at h2
      dsimp only at h2 ⊢
      split
      · rename_i hw
        rw [if_pos hw] at h2
        have hd := noDefers_get hb i o (by simpa using ho)
        first
          | exact op_in hd (fun a w q => ih _ a w q) h2
          | (rcases h2 with h2 | h2
             · exact op_in hd (fun a w q => ih _ a w q) h2
             · obtain ⟨a', w', q⟩ := h2.2
               exact (hQ a' w' q).elim)
      · rename_i hw
        rw [if_neg hw] at h2
        exact ⟨fun _ _ => trivial, ih _ _ _ h2⟩
end
section
variable {l m n : Nat} {Q : Exit → Act → World → Prop} {a : Act} {w : World} {F : List (Nat × Value)}
theorem sq {x y : Code} (h : x.wpIn (FR l) m P (Exit.then (fun a w => y.wpIn (FR l) m P Q a w) Q) a w) : (x.seq y).wpIn (FR l) m P Q a w := wpIn_seq h
theorem wp_skip (h : Q .normal a w) : Code.skip.wpIn (FR l) m P Q a w := wpIn_skip h
theorem wp_exit {id : Nat} (h : Q (.exit id) a w) : (Code.exit id).wpIn (FR l) m P Q a w := wpIn_exit h
theorem wp_ret (h : Q .ret a w) : Code.ret.wpIn (FR l) m P Q a w := wpIn_ret h
theorem wp_block {id : Nat} {c : Code} (h : c.wpIn (FR l) m P (Exit.inBlock id Q) a w) : (Code.block id c).wpIn (FR l) m P Q a w := wpIn_block h
theorem wp_region_lit {id : Nat} {ops : List Oper} (h : wpList P ops.toArray Q ops a w) (hd : noDefers ops = true := by rfl) (hQ : ∀ a w, ¬ Q .outgrown a w := by exact fun _ _ h => h) : (Code.region id ops.toArray false).wpIn (FR l) m P Q a w :=
  wpIn_region_lit (list_in hQ _ _ _ hd h)
theorem c_cond {c : Operand} {x y : Code} {p : Prop} [Decidable p] (hF : Fr n a F) (hc : look F c = some (.bool (decide p))) (h1 : p → x.wpIn (FR l) m P Q a w) (h2 : ¬ p → y.wpIn (FR l) m P Q a w) : (Code.cond c x y).wpIn (FR l) m P Q a w :=
  wpIn_cond_split (hF.eval hc) (fun h => h1 (of_decide_eq_true h)) (fun h => h2 (of_decide_eq_false h))
theorem c_condB {c : Operand} {x y : Code} {b : Bool} (hF : Fr n a F) (hc : look F c = some (.bool b)) (h1 : b = true → x.wpIn (FR l) m P Q a w) (h2 : b = false → y.wpIn (FR l) m P Q a w) : (Code.cond c x y).wpIn (FR l) m P Q a w :=
  wpIn_cond_split (hF.eval hc) h1 h2
theorem c_kT {c : Operand} {x y : Code} {p : Prop} [Decidable p] (hF : Fr n a F) (hc : look F c = some (.bool (decide p))) (hp : p) (h : x.wpIn (FR l) m P Q a w) : (Code.cond c x y).wpIn (FR l) m P Q a w := c_cond hF hc (fun _ => h) (fun e => absurd hp e)
theorem c_T {c : Operand} {x y : Code} (hF : Fr n a F) (hc : look F c = some (.bool true)) (h : x.wpIn (FR l) m P Q a w) : (Code.cond c x y).wpIn (FR l) m P Q a w := c_condB hF hc (fun _ => h) (fun e => by cases e)
theorem c_Fl {c : Operand} {x y : Code} (hF : Fr n a F) (hc : look F c = some (.bool false)) (h : y.wpIn (FR l) m P Q a w) : (Code.cond c x y).wpIn (FR l) m P Q a w := c_condB hF hc (fun e => by cases e) (fun _ => h)
theorem c_loop {α : Type} {c : Code} (I : α → Act → World → Prop) (μ : α → Nat) (x0 : α) (h0 : I x0 a w)
    (hr : ∀ x a w, I x a w → c.wpIn (FR l) m P (Exit.then (fun a' w' => ∃ y, I y a' w' ∧ μ y < μ x) Q) a w) : (Code.loop c).wpIn (FR l) m P Q a w := by
  have key : ∀ k x a w, μ x ≤ k → I x a w → Code.roundsIn (FR l) m P c Q (k + 1) a w := by
    intro k
    induction k with
    | zero =>
      intro x a w hm hI;rw [roundsIn_succ];refine Code.wpIn_mono (fun e a' w' q => ?_) (hr x a w hI)
      cases e <;> first | exact q | (obtain ⟨y, _, hy⟩ := q; omega)
    | succ k ih =>
      intro x a w hm hI;rw [roundsIn_succ];refine Code.wpIn_mono (fun e a' w' q => ?_) (hr x a w hI)
      cases e <;> first | exact q | (obtain ⟨y, hy1, hy⟩ := q; exact ih y a' w' (by omega) hy1)
  exact wpIn_loop_rounds _ (key _ x0 a w (Nat.le_refl _) h0)
end
section
variable {ops : List Oper} {Q : Exit → Act → World → Prop} {n : Nat} {F : List (Nat × Value)} {G : Type} {S : G → World → Prop}
theorem draw_any {k : Nat} {a : Act} {w : World} (hk : tailOk ops k = true) (hF : Fr n a F) (hdst : dstsOk n F (ops.take k) [] = true) (g : G) (hS : S g w)
    (hdr : ∀ w, S g w → S g w.drew) (φ : Facts G)
    (hsteps : StepsOk P ops k n F S φ (ops.take k) 0)
    (hend : ∀ a w g, Fr n a F → S g w → (∀ i, i < k → i < ops.length → φ i g (a.tmps.getD (dstOf ops i) undef) w) → wpList P ops.toArray Q (ops.drop k) a w) :
    wpAny P .any ops.toArray Q ops.toArray.size (Array.replicate ops.toArray.size false) a { w with drawn := w.drawn + 1 } := by
  simp only [tailOk, Bool.and_eq_true] at hk;obtain ⟨hback, htail⟩ := hk;have hge : ∀ (i : Nat), ops.toArray[i]? = ops[i]? := fun i => by simp
  have hreach : ∀ i j, k ≤ i → i < ops.length → j < i → Reach ops i j := fun i j h1 h2 h3 =>
    masks_spec ops [] (fun i => by simp) (fun m j h => by simp at h) i j (bitsFrom_spec htail i h1 h2 (by omega) j h3)
  have edge_listed : ∀ {i : Nat} {o : Oper} {listed : Array Bool} {j : Nat}, i ∈ Region.ready .any ops.toArray listed → ops[i]? = some o → edgeTo o j = true → listed.getD j false = true := by
    intro i o listed j hi ho he;obtain ⟨_, o', ho', hall⟩ := mem_ready.1 hi;rw [hge, ho] at ho';obtain rfl := Option.some.inj ho';simp only [edgeTo, List.any_eq_true, Bool.and_eq_true] at he;obtain ⟨e, hm', hb, hj⟩ := he;obtain rfl := Nat.eq_of_beq_eq_true hj;exact hall e (by simpa using hm') hb
  have reach_listed : ∀ {listed : Array Bool}, (∀ (j : Nat) o, ops[j]? = some o → listed.getD j false = true → ∀ e ∈ o.after, Region.binds .any e = true → listed.getD e.on false = true) → ∀ i j, Reach ops i j → (∀ o m, ops[i]? = some o → edgeTo o m = true → listed.getD m false = true) → listed.getD j false = true := by
    intro listed hcl i j hr
    induction hr with
    | one ho he => intro h; exact h _ _ ho he
    | more ho he _ ih =>
      intro h;have hm' := h _ _ ho he;refine ih (fun o m ho2 he2 => ?_);simp only [edgeTo, List.any_eq_true, Bool.and_eq_true] at he2;obtain ⟨e, hin, hb, hj⟩ := he2;obtain rfl := Nat.eq_of_beq_eq_true hj;exact hcl _ o ho2 hm' e (by simpa using hin) hb
  -- the tail
  have tail : ∀ (f m : Nat) (listed : Array Bool) (a : Act) (w : World), k ≤ m → ops.length - m ≤ f → (∀ j, j < m → j < ops.length → listed.getD j false = true) → (∀ j, m ≤ j → j < ops.length → listed.getD j true = false) →
      wpList P ops.toArray Q (ops.drop m) a w → wpAny P .any ops.toArray Q f listed a w := by
    intro f
    induction f with
    | zero =>
      intro m listed a w hkm hf h1 h2 h;rw [List.drop_eq_nil_of_le (by omega)] at h;refine ⟨?_, h⟩
      cases hr : Region.ready .any ops.toArray listed with
      | nil => rfl
      | cons i r =>
        obtain ⟨g1, o, ho, _⟩ := mem_ready.1 (hr ▸ List.mem_cons_self .. : i ∈ Region.ready .any ops.toArray listed);rw [hge] at ho;have hi := (List.getElem?_eq_some_iff.1 ho).1;have := h1 i (by omega) hi
        simp [Array.getD_eq_getD_getElem?] at this g1
        cases hh : listed[i]? <;> simp [hh] at this g1
        rw [this] at g1; cases g1
    | succ f ih =>
      intro m listed a w hkm hf h1 h2 h;have only : ∀ i ∈ Region.ready .any ops.toArray listed, i = m := by
        intro i hi;obtain ⟨g1, o, ho, hall⟩ := mem_ready.1 hi;have ho' := ho;rw [hge] at ho';have hil := (List.getElem?_eq_some_iff.1 ho').1
        by_cases hlt : i < m
        · have := h1 i hlt hil
          simp [Array.getD_eq_getD_getElem?] at this g1
          cases hh : listed[i]? <;> simp [hh] at this g1
          rw [this] at g1; cases g1
        · by_cases e : i = m
          · exact e
          · have := reach_listed (listed := listed) (fun j o hj hl e he hbnd => by
                have hjl := (List.getElem?_eq_some_iff.1 hj).1;have hjm : j < m := by
                  rcases Nat.lt_or_ge j m with h | h
                  · exact h
                  · have h3 := h2 j h hjl
                    simp [Array.getD_eq_getD_getElem?] at hl h3
                    cases hh : listed[j]? <;> simp [hh] at hl h3
                    rw [hl] at h3; cases h3
                have := edgesBack_spec hback j o hj e he hbnd;exact h1 e.on (by omega) (by omega)) i m (hreach i m (by omega) hil (by omega)) (fun o2 q ho2 he2 => by
                rw [ho'] at ho2; obtain rfl := Option.some.inj ho2; exact edge_listed hi ho' he2)
            have h3 := h2 m (Nat.le_refl _) (by omega)
            simp [Array.getD_eq_getD_getElem?] at this h3
            cases hh : listed[m]? <;> simp [hh] at this h3
            rw [this] at h3; cases h3
      refine ⟨fun hr => ?_, fun i hi => ?_⟩
      · by_cases hml : m < ops.length
        · exfalso
          have : m ∈ Region.ready .any ops.toArray listed := by
            refine mem_ready.2 ⟨h2 m (Nat.le_refl _) hml, ops[m], by simp [hml], fun e he hbnd => ?_⟩;have := edgesBack_spec hback m ops[m] (by simp [hml]) e he hbnd;exact h1 e.on (by omega) (by omega)
          rw [hr] at this; cases this
        · rw [List.drop_eq_nil_of_le (by omega)] at h; exact h
      · obtain rfl := only i hi
        obtain ⟨g1, o, ho, _⟩ := mem_ready.1 hi;rw [hge] at ho;have hil := (List.getElem?_eq_some_iff.1 ho).1;have hdrop : ops.drop i = o :: ops.drop (i + 1) := by
          rw [List.drop_eq_getElem_cons hil]; congr 1; exact (List.getElem?_eq_some_iff.1 ho).2
        rw [hdrop] at h;have K : ∀ a w, wpList P ops.toArray Q (ops.drop (i + 1)) a w → wpAny P .any ops.toArray Q f (listed.setIfInBounds i true) a w := by
          intro a w hh;refine ih (i + 1) _ a w (by omega) (by omega) (fun j hj hjl => ?_) (fun j hj hjl => ?_) hh
          · by_cases e : i = j
            · subst e
              have hsz : i < listed.size := by
                rcases Nat.lt_or_ge i listed.size with h' | h'
                · exact h'
                · simp [Array.getElem?_eq_none h'] at g1
              simp [hsz]
            · rw [getD_set_ne false e]; exact h1 j (by omega) hjl
          · rw [getD_set_ne true (by omega)]; exact h2 j (by omega) hjl
        unfold wpOp
        rw [hge, ho]
        unfold wpList at h
        show (if Region.wanted o (yielded ops.toArray a.tmps) then _ else _)
        split
        · rename_i hw
          rw [if_pos hw] at h;exact h.imp (Oper.wp_mono K) (fun x => x)
        · rename_i hw
          rw [if_neg hw] at h;exact K _ _ h
  -- the head
  have head : ∀ (f : Nat) (listed : Array Bool) (a : Act) (w : World) (g : G), listed.size = ops.length → (List.range ops.length).countP (fun i => !listed.getD i true) ≤ f → (∀ j, k ≤ j → j < ops.length → listed.getD j true = false) → (∀ (j : Nat) o, ops[j]? = some o → listed.getD j false = true → ∀ e ∈ o.after, Region.binds .any e = true → listed.getD e.on false = true) →
      Fr n a F → S g w → (∀ i, i < k → i < ops.length → listed.getD i false = true → φ i g (a.tmps.getD (dstOf ops i) undef) w) → wpAny P .any ops.toArray Q f listed a w := by
    intro f
    induction f with
    | zero =>
      intro listed a w g hsz hc h2 hcl hF hS hφ';have all : ∀ j, j < ops.length → listed.getD j true = true := by
        intro j hj;have h0 : (List.range ops.length).countP (fun i => !listed.getD i true) = 0 := by omega
        have := List.countP_eq_zero.1 h0 j (by simpa using hj)
        simpa using this
      have hlen : ops.length ≤ k := by
        rcases Nat.lt_or_ge k ops.length with h | h
        · have e1 := h2 k (Nat.le_refl _) h
          rw [all k h] at e1; cases e1
        · exact h
      refine tail 0 k listed a w (Nat.le_refl _) (by omega) (fun j _ hj => ?_) (fun j hj hjl => by omega) ?_
      · have := all j hj
        have hjs : j < listed.size := by omega
        simpa [Array.getD_eq_getD_getElem?, hjs] using this
      · refine hend a w g hF hS (fun i hi hil => hφ' i hi hil ?_)
        have := all i hil;have hjs : i < listed.size := by omega
        simpa [Array.getD_eq_getD_getElem?, hjs] using this
    | succ f ih =>
      intro listed a w g hsz hc h2 hcl hF hS hφ'
      by_cases all : ∀ j, j < k → j < ops.length → listed.getD j false = true
      · refine tail (f + 1) k listed a w (Nat.le_refl _) ?_ all h2 (hend a w g hF hS (fun i hi hil => hφ' i hi hil (all i hi hil)))
        -- as many are left as stand behind k
        have hge' : ∀ (m : Nat), m ≤ ops.length → m - k ≤ (List.range m).countP (fun i => !listed.getD i true) := by
          intro m
          induction m with
          | zero => intro _; simp
          | succ m ihm =>
            intro hm';have := ihm (by omega);rw [List.range_succ, List.countP_append]
            by_cases hkm : k ≤ m
            · have e1 := h2 m hkm (by omega)
              have e2 : List.countP (fun i => !listed.getD i true) [m] = 1 := by rw [List.countP_cons, e1]; rfl
              omega
            · omega
        have := hge' ops.length (Nat.le_refl _)
        omega
      · have step : ∀ i ∈ Region.ready .any ops.toArray listed, i < k := by
          intro i hi
          rcases Nat.lt_or_ge i k with h | h
          · exact h
          · exfalso
            obtain ⟨g1, o, ho, _⟩ := mem_ready.1 hi;rw [hge] at ho;have hil := (List.getElem?_eq_some_iff.1 ho).1;exact all (fun j hj hjl => reach_listed hcl i j (hreach i j h hil (by omega)) (fun o2 q ho2 he2 => by
              rw [ho] at ho2; obtain rfl := Option.some.inj ho2; exact edge_listed hi ho he2))
        refine ⟨fun hr => ?_, fun i hi => ?_⟩
        · exfalso
          apply all
          intro j
          induction j using Nat.strongRecOn with
          | _ j ihj =>
            intro hjk hjl
            cases hl : listed.getD j false with
            | true => rfl
            | false =>
              have hjs : j < listed.size := by omega
              have hm' : j ∈ Region.ready .any ops.toArray listed := by
                refine mem_ready.2 ⟨?_, ops[j], by simp [hjl], fun e he hbnd => ?_⟩
                · simpa [Array.getD_eq_getD_getElem?, hjs] using hl
                · have := edgesBack_spec hback j ops[j] (by simp [hjl]) e he hbnd
                  exact ihj e.on (by omega) (by omega) (by omega)
              rw [hr] at hm'; cases hm'
        · have hik := step i hi
          obtain ⟨g1, o, ho, hall'⟩ := mem_ready.1 hi;rw [hge] at ho;have hil := (List.getElem?_eq_some_iff.1 ho).1;have hti : (ops.take k)[i]? = some o := by rw [List.getElem?_take, if_pos hik]; exact ho
          obtain ⟨d, hd1, hd2, hd3, _, hd5, hd6⟩ := dstsOk_spec hdst i o hti;have hdo : dstOf ops i = d := by simp [dstOf, ho, hd1]
          have hdne : ∀ j, j < k → j < ops.length → j ≠ i → dstOf ops j ≠ d := by
            intro j hj hjl hne e;have hoj : ops[j]? = some ops[j] := by simp [hjl]
            have htj : (ops.take k)[j]? = some ops[j] := by rw [List.getElem?_take, if_pos hj]; exact hoj
            obtain ⟨d', e1, _, _, _, e5, _⟩ := dstsOk_spec hdst j ops[j] htj;have hdj : dstOf ops j = d' := by simp only [dstOf, hoj, Option.bind_some, e1, Option.getD_some]
            have hdd : d' = d := by rw [← hdj]; exact e
            subst hdd
            rcases Nat.lt_or_gt_of_ne hne with h | h
            · exact hd5 j ops[j] h htj e1
            · exact e5 i o h hti hd1
          have hdoes := StepsOk.get hsteps i o hti a w g hF hS (fun j hj he => by
            have hj' : j < k := Nat.blt_eq.mp hj;have hl := edge_listed hi ho he;have hjl : j < ops.length := by
              rcases Nat.lt_or_ge j listed.size with h | h
              · omega
              · simp [Array.getElem?_eq_none h] at hl
            exact hφ' j hj' hjl hl)
          unfold wpOp
          rw [hge, ho]
          show (if Region.wanted o (yielded ops.toArray a.tmps) then _ else _)
          rw [if_pos (by simp [Region.wanted, hd6])];refine .inl (hdoes.run _ _ fun v w' hv => ?_);rw [Nat.zero_add] at hv;obtain ⟨g', hS', hvi, hothers⟩ := hv;have hF' : Fr n (a.put o.dst v) F := by
            rw [hd1];have := hF.put d v (Nat.blt_eq.mpr hd2);refine ⟨this.defers, this.size, fun t u ht => this.get t u ?_⟩;simp only [lk];have hne : ¬ d = t := fun e => by subst e; rw [hd3] at ht; cases ht
            rw [beqF hne]; exact ht
          refine ih _ _ _ g' (by simpa using hsz) ?_ (fun j hj hjl => ?_) (fun j oj hoj hl e he hb => ?_) hF' hS' (fun j hj hjl hl => ?_)
          · have : (List.range ops.length).countP (fun j => !(listed.setIfInBounds i true).getD j true) < (List.range ops.length).countP (fun j => !listed.getD j true) := by
              refine countP_lt (fun x hx => ?_) ⟨i, by simpa using hil, by simpa using g1, ?_⟩
              · by_cases e : i = x
                · subst e; simp only [g1]; rfl
                · rw [getD_set_ne true e] at hx; exact hx
              · have : i < listed.size := by omega
                simp [this]
            omega
          · rw [getD_set_ne true (by omega)]; exact h2 j hj hjl
          · refine getD_set_true ?_
            by_cases ej : j = i
            · subst ej
              rw [ho] at hoj; obtain rfl := Option.some.inj hoj;exact hall' e he hb
            · rw [getD_set_ne false (Ne.symm ej)] at hl
              exact hcl j oj hoj hl e he hb
          · by_cases e : j = i
            · subst e
              rw [hd1, hdo];have : (a.put (some d) v).tmps.getD d undef = v := by simp [Act.put, hF.size, hd2]
              rw [this]; exact hvi
            · rw [getD_set_ne false (Ne.symm e)] at hl
              have hold := hothers j _ e (hφ' j hj hjl hl);have hdn := hdne j hj hjl e;rw [hd1];have : (a.put (some d) v).tmps.getD (dstOf ops j) undef = a.tmps.getD (dstOf ops j) undef := by
                simp [Act.put, Array.getElem?_setIfInBounds_ne (Ne.symm hdn)]
              rw [this]; exact hold
  refine head ops.toArray.size (Array.replicate ops.toArray.size false) a _ g (by simp) ?_ (fun j _ hj => by simp [hj]) (fun j o hj hl e he hbnd => by have hjl := (List.getElem?_eq_some_iff.1 hj).1; simp [hjl] at hl) hF (hdr _ hS) (fun i _ hi hl => by simp [hi] at hl)
  · have := List.countP_le_length (l := List.range ops.length) (p := fun i => !(Array.replicate ops.toArray.size false).getD i true)
    simpa using this
theorem c_draw {id k l m : Nat} {a : Act} {w : World} (hm : P.follows .mixedOrders = true) (hk : tailOk ops k = true) (hF : Fr n a F) (hdst : dstsOk n F (ops.take k) [] = true) (g : G) (hS : S g w)
    (hdr : ∀ w, S g w → S g w.drew) (φ : Facts G)
    (hsteps : StepsOk P ops k n F S φ (ops.take k) 0)
    (hend : ∀ a w g, Fr n a F → S g w → (∀ i, i < k → i < ops.length → φ i g (a.tmps.getD (dstOf ops i) undef) w) → wpList P ops.toArray Q (ops.drop k) a w)
    (hd : noDefers ops = true := by rfl) (hQ : ∀ a w, ¬ Q .outgrown a w := by exact fun _ _ h => h) :
    (Code.region id ops.toArray true).wpIn (FR l) m P Q a w :=
  wpIn_region_any hm (any_in hQ hd _ _ _ _ (draw_any hk hF hdst g hS hdr φ hsteps hend))
end
section
variable {ops : List Oper} {Q : Exit → Act → World → Prop} {n : Nat} {F : List (Nat × Value)} {a : Act} {X : List Nat} {w w0 : World} {L0 : Own} {D : Froz}
theorem c_par {id l' m : Nat} (k : Nat) (W : List Nat) (l : List Fact) (hm : P.follows .mixedOrders = true) (hk : tailOk ops k = true) (hF : Fr n a F) (hdst : dstsOk n F (ops.take k) [] = true) (hM : MemX X w0 w L0 D)
    (hsteps : StepsOk P ops k n F (Par X w0 D W L0) (factsOf l) (ops.take k) 0)
    (hend : ∀ a w L, Fr n a F → Par X w0 D W L0 L w → (∀ i, Nat.blt i k = true → Nat.blt i ops.length = true → factsOf l i L (a.tmps.getD (dstOf ops i) undef) w) → wpList P ops.toArray Q (ops.drop k) a w)
    (hd : noDefers ops = true := by rfl) (hQ : ∀ a w, ¬ Q .outgrown a w := by exact fun _ _ h => h) :
    (Code.region id ops.toArray true).wpIn (FR l') m P Q a w :=
  c_draw (S := Par X w0 D W L0) hm hk hF hdst L0 ⟨hM, Same.refl W L0⟩ (fun _ h => ⟨h.1.ext (Below.drew (Below.refl _ _)), h.2⟩) (factsOf l) hsteps
    (fun a w L hF hS hq => hend a w L hF hS fun i h1 h2 => hq i (Nat.blt_eq.mp h1) (Nat.blt_eq.mp h2)) hd hQ
end
end Go.Sw.Rw
