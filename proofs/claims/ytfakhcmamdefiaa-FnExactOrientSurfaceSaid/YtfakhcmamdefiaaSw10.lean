/- Plain lemmas of a small calculus for walks over frames and own memory; no statement of the seat is proved here. -/
import Derived.Test.YtfakhcmamdefiaaSw88
import Derived.Test.YtfakhcmamdefiaaSw85
import Derived.Test.YtfakhcmamdefiaaSw81
import Derived.JoinedOf
import Derived.KernelRfl
set_option linter.unusedVariables false
set_option linter.unusedSimpArgs false
namespace Go.Sw
open Go Go.RowKit Go.Ech
/-! ### Surfaces turned over -/
def ovr (f : Nat → Int) : Nat → Int := tri3 (-(f 2)) (-(f 1)) (-(f 0))
def orB (R : Nat → Nat → Int) (o : Nat → Bool) (i : Nat) : Nat → Int := if o i = true then ovr (R i) else R i
def NF (m : Nat) (tw : Nat → Nat) (o : Nat → Bool) : Prop := ∀ j, j < m → (∀ k, k < j → ¬ Cn m tw k j) → o j = false
structure PO (m : Nat) (K : Nat → Int) (tw : Nat → Nat) (gi : Nat) (M : Nat → Option Bool) : Prop where
  clo : ∀ j, j < m → ∀ b, M j = some b → ∀ q, q < 3 → M (nb tw j q) = some (decide (b ≠ alk K tw (j * 3 + q)))
  conn : ∀ j, M j ≠ none → ∃ k, k < gi ∧ Cn m tw k j
  told : ∀ k, k < gi → M k ≠ none
  nf : ∀ j, j < m → (∀ k, k < j → ¬ Cn m tw k j) → ∀ b, M j = some b → b = false
  ag : ∀ o, VO m K tw o → NF m tw o → AgM m o M
theorem PO.start {m : Nat} {K : Nat → Int} {tw : Nat → Nat} : PO m K tw 0 (fun _ => none) :=
  ⟨fun _ _ _ h => (by cases h), fun _ h => absurd rfl h, fun k h => absurd h (Nat.not_lt_zero _), fun _ _ _ _ h => (by cases h), fun _ _ _ _ _ _ h => (by cases h)⟩
theorem PO.same {m gi : Nat} {K : Nat → Int} {tw : Nat → Nat} {M : Nat → Option Bool} {b : Bool} (h : PO m K tw gi M) (hg : M gi = some b) : PO m K tw (gi + 1) M :=
  ⟨h.clo, fun j hj => by obtain ⟨k, h1, h2⟩ := h.conn j hj; exact ⟨k, by omega, h2⟩, fun k hk => by
    by_cases e : k = gi
    · rw [e, hg]; exact fun q => (by cases q)
    · exact h.told k (by omega), h.nf, h.ag⟩
theorem PO.cn {m gi : Nat} {K : Nat → Int} {tw : Nat → Nat} {M : Nat → Option Bool} (h : PO m K tw gi M) {k j : Nat} (hk : M k ≠ none) (hc : Cn m tw k j) : M j ≠ none := by
  induction hc with
  | refl => exact hk
  | @step j hc hj s hs ih =>
    cases e : M j with
    | none => exact absurd e ih
    | some b => rw [h.clo j hj b e s hs]; exact fun q => (by cases q)
theorem PO.first {m gi : Nat} {K : Nat → Int} {tw : Nat → Nat} {M : Nat → Option Bool} (h : PO m K tw gi M) (hg : M gi = none) : ∀ k, k < gi → ¬ Cn m tw k gi :=
  fun k hk hc => h.cn (h.told k hk) hc hg
theorem PO.fail {m gi : Nat} {K : Nat → Int} {tw : Nat → Nat} {M M' : Nat → Option Bool} (h : PO m K tw gi M) (hgi : gi < m) (hg : M gi = none) (hT : TP m K tw M gi false false M') : ∀ o, VO m K tw o → NF m tw o → False := fun o ho hn => by
  have := (hT.ag o ho (h.ag o ho hn) (hn gi hgi (h.first hg))).1
  cases this
theorem PO.step {m gi : Nat} {K : Nat → Int} {tw : Nat → Nat} {M M' : Nat → Option Bool} (h : PO m K tw gi M) (hgi : gi < m) (hg : M gi = none) (hT : TP m K tw M gi false true M') : PO m K tw (gi + 1) M' := by
  have hy := hT.yes rfl;refine ⟨fun j hj b hb q hq => ?_, fun j hj => ?_, fun k hk => ?_, fun j hj hf b hb => ?_, fun o ho hn => (hT.ag o ho (h.ag o ho hn) (hn gi hgi (h.first hg))).2⟩
  · cases e : M j with
    | none => exact hy.2 j hj e b hb q hq
    | some b2 =>
      have := hT.sub j b2 e;rw [this] at hb;obtain rfl := Option.some.inj hb;exact hT.sub _ _ (h.clo j hj b2 e q hq)
  · cases e : M j with
    | none => exact ⟨gi, by omega, hT.conn j e hj⟩
    | some b =>
      obtain ⟨k, h1, h2⟩ := h.conn j (by rw [e]; exact fun q => (by cases q));exact ⟨k, by omega, h2⟩
  · by_cases e : k = gi
    · rw [e, hy.1]; exact fun q => (by cases q)
    · cases e2 : M k with
      | none => exact absurd e2 (h.told k (by omega))
      | some b => rw [hT.sub k b e2]; exact fun q => (by cases q)
  · cases e : M j with
    | some b2 =>
      have := hT.sub j b2 e;rw [this] at hb;obtain rfl := Option.some.inj hb;exact h.nf j hj hf b2 e
    | none =>
      have hc := hT.conn j e (by rw [hb]; exact fun q => (by cases q));have h1 : ¬ gi < j := fun q => hf gi q hc;have h2 : ¬ j < gi := fun q => h.told j q e;obtain rfl : j = gi := by omega
      rw [hy.1] at hb;exact (Option.some.inj hb).symm
theorem PO.fin {m : Nat} {K : Nat → Int} {tw : Nat → Nat} {M : Nat → Option Bool} (h : PO m K tw m M) (hlt : ∀ i, i < m → ∀ s, s < 3 → nb tw i s < m) :
    VO m K tw (fun j => decide (M j = some true)) ∧ NF m tw (fun j => decide (M j = some true)) ∧ ∀ o, VO m K tw o → NF m tw o → ∀ j, j < m → o j = decide (M j = some true) := by
  have ex : ∀ j, j < m → M j = some (decide (M j = some true)) := fun j hj => by
    cases e : M j with
    | none => exact absurd e (h.told j hj)
    | some b => cases b <;> rfl
  refine ⟨fun i hi s hs => ?_, fun j hj hf => ?_, fun o ho hn j hj => h.ag o ho hn j hj _ (ex j hj)⟩
  · have h1 := h.clo i hi _ (ex i hi) s hs
    have h2 := ex _ (hlt i hi s hs);rw [h2] at h1;exact Option.some.inj h1
  · exact h.nf j hj hf _ (ex j hj)
structure LL (D : Froz) (lo m : Nat) (F : Nat → Nat → Int) (b cap : Nat) (cs : Array Value) (β κ : Nat → Nat) (C : Nat → Array Value) : Prop where
  sl : SlAt 1 (.slice (some ⟨b, 0, none⟩) m cap) (some (b, cs)) m b cap cs (fun i => .slice (some ⟨β i, 0, none⟩) 3 (κ i))
  rows : RowsC D m β C
  row : ∀ i, i < m → SlAt 1 (.slice (some ⟨β i, 0, none⟩) 3 (κ i)) (some (β i, C i)) 3 (β i) (κ i) (C i) (fun c => .int .i64 (F i c))
  ge : ∀ i, i < m → lo ≤ β i
namespace LL
variable {D D' : Froz} {lo m b cap : Nat} {F G : Nat → Nat → Int} {cs : Array Value} {β κ : Nat → Nat} {C : Nat → Array Value}
theorem congr (h : LL D lo m F b cap cs β κ C) (e : ∀ i, i < m → F i = G i) : LL D lo m G b cap cs β κ C := ⟨h.sl, h.rows, fun i hi => by rw [← e i hi]; exact h.row i hi, h.ge⟩
theorem more (h : LL D lo m F b cap cs β κ C) (hs : ∀ x, x ∈ D → x ∈ D') : LL D' lo m F b cap cs β κ C := ⟨h.sl, h.rows.more hs, h.row, h.ge⟩
theorem set (h : LL D lo m F b cap cs β κ C) {i b1 k1 : Nat} {c1 : Array Value} {f : Nat → Int} (hi : i < m) (hs : ∀ x, x ∈ D → x ∈ D') (hm : (b1, c1) ∈ D') (hne : ∀ k, k < m → β k ≠ b1) (hg : lo ≤ b1)
    (hr : SlAt 1 (.slice (some ⟨b1, 0, none⟩) 3 k1) (some (b1, c1)) 3 b1 k1 c1 (fun c => .int .i64 (f c))) : LL D' lo m (fun k => if k = i then f else F k) b cap (cs.setIfInBounds (0 + i * 1) (.slice (some ⟨b1, 0, none⟩) 3 k1)) (up β i b1) (up κ i k1) (upE C i c1) := by
  refine ⟨h.sl.set (o := 0 + i * 1) i (by omega) (by omega) (fun j hj => ?_), ⟨fun k hk => ?_, fun x y hx hy e => ?_⟩, fun k hk => ?_, fun k hk => ?_⟩
  · unfold up
    by_cases e : j = i
    · simp only [if_pos e]
    · simp only [if_neg e]
  · unfold up upE
    by_cases e : k = i
    · rw [if_pos e, if_pos e]; exact hm
    · rw [if_neg e, if_neg e]; exact hs _ (h.rows.mem k hk)
  · unfold up at e
    by_cases e1 : x = i
    · by_cases e2 : y = i
      · omega
      · rw [if_pos e1, if_neg e2] at e; exact absurd e.symm (hne y hy)
    · by_cases e2 : y = i
      · rw [if_neg e1, if_pos e2] at e; exact absurd e (hne x hx)
      · rw [if_neg e1, if_neg e2] at e; exact h.rows.inj x y hx hy e
  · unfold up upE
    by_cases e : k = i
    · simp only [if_pos e]; exact hr
    · simp only [if_neg e]; exact h.row k hk
  · unfold up
    by_cases e : k = i
    · rw [if_pos e]; exact hg
    · rw [if_neg e]; exact h.ge k hk
theorem out {w w' : World} {L : Own} {q : Nat} (h : LL D w.heap.size m F b cap cs β κ C) (hM : Mem w w' L D) (hq : L[q]? = some (some (b, cs))) : SSOutR w w' m (fun _ => 3) F (.slice (some ⟨b, 0, none⟩) m cap) :=
  SSOutR.of (Ln := fun _ => 3) hM h.rows hq h.sl h.ge h.row
end LL
theorem Gs.more {D D' : Froz} {lo N : Nat} {K : Nat → Int} {tw : Nat → Nat} {q u t : Nat} {τ σ φ ψ : Nat → Nat} (h : Gs D lo N K tw q u t τ σ φ ψ) (hs : ∀ x, x ∈ D → x ∈ D') : Gs D' lo N K tw q u t τ σ φ ψ := ⟨fun x hx => hs _ (h.sid x hx), fun i hi => hs _ (h.tri i hi)⟩
def OrOut (w w' : World) (m : Nat) (R : Nat → Nat → Int) (K : Nat → Int) (tw : Nat → Nat) (bad ok u : Value) : Prop :=
  (u = bad ∧ ∀ o, VO m K tw o → NF m tw o → False) ∨
  ∃ (o : Nat → Bool) (l : Value), u = .tuple #[l, ok] ∧ VO m K tw o ∧ NF m tw o ∧ (∀ o', VO m K tw o' → NF m tw o' → ∀ j, j < m → o' j = o j) ∧ SSOutR w w' m (fun _ => 3) (orB R o) l
def orN (R : Nat → Nat → Int) (M : Nat → Option Bool) (gi i : Nat) : Nat → Int := if i < gi ∧ M i = some true then ovr (R i) else R i
theorem orN_same {R : Nat → Nat → Int} {M M' : Nat → Option Bool} {gi : Nat} (h : ∀ j b, M j = some b → M' j = some b) (ht : ∀ k, k < gi → M k ≠ none) (hg : M' gi = some false) : ∀ i, orN R M gi i = orN R M' (gi + 1) i := fun i => by
  unfold orN
  by_cases e : i < gi
  · cases e2 : M i with
    | none => exact absurd e2 (ht i e)
    | some b =>
      rw [h i b e2]
      cases b
      · rw [if_neg (fun q => (by cases q.2)), if_neg (fun q => (by cases q.2))]
      · rw [if_pos ⟨e, rfl⟩, if_pos ⟨by omega, rfl⟩]
  · rw [if_neg (fun q => e q.1)]
    by_cases e3 : i = gi
    · rw [e3, hg, if_neg (fun q => (by cases q.2))]
    · rw [if_neg (fun q => by omega)]
theorem orN_over {R : Nat → Nat → Int} {M : Nat → Option Bool} {gi : Nat} (hg : M gi = some true) : ∀ i, (if i = gi then ovr (R gi) else orN R M gi i) = orN R M (gi + 1) i := fun i => by
  unfold orN
  by_cases e3 : i = gi
  · rw [if_pos e3, e3, if_pos ⟨by omega, hg⟩]
  · rw [if_neg e3]
    by_cases e : i < gi ∧ M i = some true
    · rw [if_pos e, if_pos ⟨by omega, e.2⟩]
    · rw [if_neg e, if_neg (fun q => e ⟨by omega, q.2⟩)]
theorem orN_fin {R : Nat → Nat → Int} {M : Nat → Option Bool} {m : Nat} : ∀ i, i < m → orN R M m i = orB R (fun j => decide (M j = some true)) i := fun i hi => by
  unfold orN orB
  by_cases e : M i = some true
  · rw [if_pos ⟨hi, e⟩, if_pos (decide_eq_true e)]
  · rw [if_neg (fun q => e q.2), if_neg (fun q => e (of_decide_eq_true q))]
end Go.Sw

namespace Go.Sw
theorem wordsSigns_nb : ∀ (c : Char) (r : List Char), c ≠ ' ' → wordsSigns (c :: r) = match wordsSigns r with
    | w :: ws => (c :: w) :: ws
    | [] => [[c]] := by
  intro c r h;rw [wordsSigns.eq_def]
  split
  · simp_all
  · rename_i heq; simp at heq; exact absurd heq.1 h
  · rename_i heq; simp only [List.cons.injEq] at heq; obtain ⟨rfl, rfl⟩ := heq; rfl
theorem wordsSigns_word : ∀ (w r : List Char), (∀ c ∈ w, c ≠ ' ') → wordsSigns (w ++ ' ' :: r) = w :: wordsSigns r
  | [], r, _ => by simp [wordsSigns]
  | c :: w, r, h => by
    rw [List.cons_append, wordsSigns_nb c _ (h c (by simp)), wordsSigns_word w r (fun d hd => h d (by simp [hd]))]
theorem sum_nb (s : List Char) (h : isSumSigns s = true) : ∀ c ∈ s, c ≠ ' ' := by
  intro c hc he
  unfold isSumSigns at h
  simp only [Bool.and_eq_true, List.all_eq_true] at h;have := h.2 c hc;subst he
  revert this; decide
theorem cutHead (L s r : List Char) (h : L = "harness".toList ++ ' ' :: (s ++ ' ' :: ("cut".toList ++ ' ' :: r))) (hs : isSumSigns s = true) :
    behindMainWord (wordsSigns L) = "cut".toList :: wordsSigns r := by
  rw [h, wordsSigns_word _ _ (by decide), wordsSigns_word _ _ (sum_nb s hs), wordsSigns_word _ _ (by decide)];have : ("harness".toList == "harness".toList || "harness".toList == "ownmain".toList) = true := by decide
  unfold behindMainWord
  show (if (("harness".toList == "harness".toList || "harness".toList == "ownmain".toList) && isSumSigns s) = true then _ else _) = _
  rw [if_pos (by rw [this, hs]; rfl)]
theorem strip_cut (R : List (List Char)) : stripLifts liftWords ("cut".toList :: R) = ([], "cut".toList :: R) := by
  kernel_rfl
theorem lifts_cut (P : Program) (R : List (List Char)) (h : behindMainWord (wordsSigns P.initOrder.toList) = "cut".toList :: R) : P.headLifts = [] := by
  unfold Program.headLifts; rw [h, strip_cut]; rfl
theorem make_cut (P : Program) (R : List (List Char)) (h : behindMainWord (wordsSigns P.initOrder.toList) = "cut".toList :: R) : P.make = some .cut := by
  unfold Program.make; rw [h]
  have h1 : ("cut".toList == "gc".toList || "cut".toList == "spec".toList) = false := by decide
  have h2 : ("cut".toList == "cut".toList) = true := by decide
  simp only [h1, h2]; rfl
theorem final_cut (P : Program) (R : List (List Char)) (h : behindMainWord (wordsSigns P.initOrder.toList) = "cut".toList :: R) : P.liftsFinal = false := by
  unfold Program.liftsFinal; rw [lifts_cut P R h, h]; kernel_rfl
theorem enter_cut (P : Program) (R : List (List Char)) (h : behindMainWord (wordsSigns P.initOrder.toList) = "cut".toList :: R)
    (hl : P.laysLater = false) (hb : P.bearsReflect = false) (hd : P.doorFits [] = true) : P.mayEnter = true := by
  unfold Program.mayEnter; rw [h]
  simp only [strip_cut, hl, hb, hd]
  kernel_rfl
end Go.Sw
