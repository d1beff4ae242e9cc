/- Plain lemmas of a small calculus for walks over frames and own memory; no statement of the seat is proved here. -/
import Derived.Test.YtlpccepifehilaaSw88
import Derived.Test.YtlpccepifehilaaSw85
import Derived.Test.YtlpccepifehilaaSw81
import Derived.Test.YtlpccepifehilaaSw6
import Derived.Test.YtlpccepifehilaaSw63
import Derived.RangeFuncIn
import Derived.RangeFuncSeq
import Derived.TacticsIn
import Derived.OrdersIn
import Derived.LoopNIn
import Derived.RangeFuncRecord
import Derived.RangeFuncLeaves
import Derived.Test.YtlpccepifehilaaSw9
set_option linter.unusedVariables false
set_option linter.unusedSimpArgs false
namespace Go.Sw
open Go Go.RowKit Go.Ech
/-! ### Surfaces turned over -/
def ovr (f : Nat → Int) : Nat → Int := tri3 (-(f 2)) (-(f 1)) (-(f 0))
def orB (R : Nat → Nat → Int) (o : Nat → Bool) (i : Nat) : Nat → Int := if o i = true then ovr (R i) else R i
def NF (m : Nat) (tw : Nat → Nat) (o : Nat → Bool) : Prop := ∀ j, j < m → (∀ k, k < j → ¬ Cn m tw k j) → o j = false
structure PO (m : Nat) (K : Nat → Int) (tw : Nat → Nat) (gi : Nat) (M : Nat → Option Bool) : Prop where
  clo : ∀ j, j < m → ∀ b, M j = some b → ∀ q, q < 3 → M (nb tw j q) = some (decide (b ≠ alk K tw (j * 3 + q)))
  conn : ∀ j, M j ≠ none → ∃ k, k < gi ∧ Cn m tw k j
  told : ∀ k, k < gi → M k ≠ none
  nf : ∀ j, j < m → (∀ k, k < j → ¬ Cn m tw k j) → ∀ b, M j = some b → b = false
  ag : ∀ o, VO m K tw o → NF m tw o → AgM m o M
theorem PO.start {m : Nat} {K : Nat → Int} {tw : Nat → Nat} : PO m K tw 0 (fun _ => none) :=
  ⟨fun _ _ _ h => (by cases h), fun _ h => absurd rfl h, fun k h => absurd h (Nat.not_lt_zero _), fun _ _ _ _ h => (by cases h), fun _ _ _ _ _ _ h => (by cases h)⟩
theorem PO.same {m gi : Nat} {K : Nat → Int} {tw : Nat → Nat} {M : Nat → Option Bool} {b : Bool} (h : PO m K tw gi M) (hg : M gi = some b) : PO m K tw (gi + 1) M :=
  ⟨h.clo, fun j hj => by obtain ⟨k, h1, h2⟩ := h.conn j hj; exact ⟨k, by omega, h2⟩, fun k hk => by
    by_cases e : k = gi
    · rw [e, hg]; exact fun q => (by cases q)
    · exact h.told k (by omega), h.nf, h.ag⟩
theorem PO.cn {m gi : Nat} {K : Nat → Int} {tw : Nat → Nat} {M : Nat → Option Bool} (h : PO m K tw gi M) {k j : Nat} (hk : M k ≠ none) (hc : Cn m tw k j) : M j ≠ none := by
  induction hc with
  | refl => exact hk
  | @step j hc hj s hs ih =>
    cases e : M j with
    | none => exact absurd e ih
    | some b => rw [h.clo j hj b e s hs]; exact fun q => (by cases q)
theorem PO.first {m gi : Nat} {K : Nat → Int} {tw : Nat → Nat} {M : Nat → Option Bool} (h : PO m K tw gi M) (hg : M gi = none) : ∀ k, k < gi → ¬ Cn m tw k gi :=
  fun k hk hc => h.cn (h.told k hk) hc hg
theorem PO.step {m gi : Nat} {K : Nat → Int} {tw : Nat → Nat} {M M' : Nat → Option Bool} (h : PO m K tw gi M) (hgi : gi < m) (hg : M gi = none) (hT : TP m K tw M gi false true M') : PO m K tw (gi + 1) M' := by
  have hy := hT.yes rfl;refine ⟨fun j hj b hb q hq => ?_, fun j hj => ?_, fun k hk => ?_, fun j hj hf b hb => ?_, fun o ho hn => (hT.ag o ho (h.ag o ho hn) (hn gi hgi (h.first hg))).2⟩
  · cases e : M j with
    | none => exact hy.2 j hj e b hb q hq
    | some b2 =>
      have := hT.sub j b2 e;rw [this] at hb;obtain rfl := Option.some.inj hb;exact hT.sub _ _ (h.clo j hj b2 e q hq)
  · cases e : M j with
    | none => exact ⟨gi, by omega, hT.conn j e hj⟩
    | some b =>
      obtain ⟨k, h1, h2⟩ := h.conn j (by rw [e]; exact fun q => (by cases q));exact ⟨k, by omega, h2⟩
  · by_cases e : k = gi
    · rw [e, hy.1]; exact fun q => (by cases q)
    · cases e2 : M k with
      | none => exact absurd e2 (h.told k (by omega))
      | some b => rw [hT.sub k b e2]; exact fun q => (by cases q)
  · cases e : M j with
    | some b2 =>
      have := hT.sub j b2 e;rw [this] at hb;obtain rfl := Option.some.inj hb;exact h.nf j hj hf b2 e
    | none =>
      have hc := hT.conn j e (by rw [hb]; exact fun q => (by cases q));have h1 : ¬ gi < j := fun q => hf gi q hc;have h2 : ¬ j < gi := fun q => h.told j q e;obtain rfl : j = gi := by omega
      rw [hy.1] at hb;exact (Option.some.inj hb).symm
theorem PO.fin {m : Nat} {K : Nat → Int} {tw : Nat → Nat} {M : Nat → Option Bool} (h : PO m K tw m M) (hlt : ∀ i, i < m → ∀ s, s < 3 → nb tw i s < m) :
    VO m K tw (fun j => decide (M j = some true)) ∧ NF m tw (fun j => decide (M j = some true)) ∧ ∀ o, VO m K tw o → NF m tw o → ∀ j, j < m → o j = decide (M j = some true) := by
  have ex : ∀ j, j < m → M j = some (decide (M j = some true)) := fun j hj => by
    cases e : M j with
    | none => exact absurd e (h.told j hj)
    | some b => cases b <;> rfl
  refine ⟨fun i hi s hs => ?_, fun j hj hf => ?_, fun o ho hn j hj => h.ag o ho hn j hj _ (ex j hj)⟩
  · have h1 := h.clo i hi _ (ex i hi) s hs
    have h2 := ex _ (hlt i hi s hs);rw [h2] at h1;exact Option.some.inj h1
  · exact h.nf j hj hf _ (ex j hj)
structure LL (D : Froz) (lo m : Nat) (F : Nat → Nat → Int) (b cap : Nat) (cs : Array Value) (β κ : Nat → Nat) (C : Nat → Array Value) : Prop where
  sl : SlAt 1 (.slice (some ⟨b, 0, none⟩) m cap) (some (b, cs)) m b cap cs (fun i => .slice (some ⟨β i, 0, none⟩) 3 (κ i))
  rows : RowsC D m β C
  row : ∀ i, i < m → SlAt 1 (.slice (some ⟨β i, 0, none⟩) 3 (κ i)) (some (β i, C i)) 3 (β i) (κ i) (C i) (fun c => .int .i64 (F i c))
  ge : ∀ i, i < m → lo ≤ β i
namespace LL
variable {D D' : Froz} {lo m b cap : Nat} {F G : Nat → Nat → Int} {cs : Array Value} {β κ : Nat → Nat} {C : Nat → Array Value}
theorem congr (h : LL D lo m F b cap cs β κ C) (e : ∀ i, i < m → F i = G i) : LL D lo m G b cap cs β κ C := ⟨h.sl, h.rows, fun i hi => by rw [← e i hi]; exact h.row i hi, h.ge⟩
theorem more (h : LL D lo m F b cap cs β κ C) (hs : ∀ x, x ∈ D → x ∈ D') : LL D' lo m F b cap cs β κ C := ⟨h.sl, h.rows.more hs, h.row, h.ge⟩
theorem set (h : LL D lo m F b cap cs β κ C) {i b1 k1 : Nat} {c1 : Array Value} {f : Nat → Int} (hi : i < m) (hs : ∀ x, x ∈ D → x ∈ D') (hm : (b1, c1) ∈ D') (hne : ∀ k, k < m → β k ≠ b1) (hg : lo ≤ b1)
    (hr : SlAt 1 (.slice (some ⟨b1, 0, none⟩) 3 k1) (some (b1, c1)) 3 b1 k1 c1 (fun c => .int .i64 (f c))) : LL D' lo m (fun k => if k = i then f else F k) b cap (cs.setIfInBounds (0 + i * 1) (.slice (some ⟨b1, 0, none⟩) 3 k1)) (up β i b1) (up κ i k1) (upE C i c1) := by
  refine ⟨h.sl.set (o := 0 + i * 1) i (by omega) (by omega) (fun j hj => ?_), ⟨fun k hk => ?_, fun x y hx hy e => ?_⟩, fun k hk => ?_, fun k hk => ?_⟩
  · unfold up
    by_cases e : j = i
    · simp only [if_pos e]
    · simp only [if_neg e]
  · unfold up upE
    by_cases e : k = i
    · rw [if_pos e, if_pos e]; exact hm
    · rw [if_neg e, if_neg e]; exact hs _ (h.rows.mem k hk)
  · unfold up at e
    by_cases e1 : x = i
    · by_cases e2 : y = i
      · omega
      · rw [if_pos e1, if_neg e2] at e; exact absurd e.symm (hne y hy)
    · by_cases e2 : y = i
      · rw [if_neg e1, if_pos e2] at e; exact absurd e (hne x hx)
      · rw [if_neg e1, if_neg e2] at e; exact h.rows.inj x y hx hy e
  · unfold up upE
    by_cases e : k = i
    · simp only [if_pos e]; exact hr
    · simp only [if_neg e]; exact h.row k hk
  · unfold up
    by_cases e : k = i
    · rw [if_pos e]; exact hg
    · rw [if_neg e]; exact h.ge k hk
theorem out {w w' : World} {L : Own} {q : Nat} (h : LL D w.heap.size m F b cap cs β κ C) (hM : Mem w w' L D) (hq : L[q]? = some (some (b, cs))) : SSOutR w w' m (fun _ => 3) F (.slice (some ⟨b, 0, none⟩) m cap) :=
  SSOutR.of (Ln := fun _ => 3) hM h.rows hq h.sl h.ge h.row
end LL
theorem Gs.more {D D' : Froz} {lo N : Nat} {K : Nat → Int} {tw : Nat → Nat} {q u t : Nat} {τ σ φ ψ : Nat → Nat} (h : Gs D lo N K tw q u t τ σ φ ψ) (hs : ∀ x, x ∈ D → x ∈ D') : Gs D' lo N K tw q u t τ σ φ ψ := ⟨fun x hx => hs _ (h.sid x hx), fun i hi => hs _ (h.tri i hi)⟩
def OrOut (w w' : World) (m : Nat) (R : Nat → Nat → Int) (K : Nat → Int) (tw : Nat → Nat) (bad ok u : Value) : Prop :=
  (u = bad ∧ ∀ o, VO m K tw o → NF m tw o → False) ∨
  ∃ (o : Nat → Bool) (l : Value), u = .tuple #[l, ok] ∧ VO m K tw o ∧ NF m tw o ∧ (∀ o', VO m K tw o' → NF m tw o' → ∀ j, j < m → o' j = o j) ∧ SSOutR w w' m (fun _ => 3) (orB R o) l
def orN (R : Nat → Nat → Int) (M : Nat → Option Bool) (gi i : Nat) : Nat → Int := if i < gi ∧ M i = some true then ovr (R i) else R i
end Go.Sw

/-! ### Walks within a round of a range over a function -/
namespace Go.Sw.Rw
open Go Go.RowKit
variable {P : Program}
abbrev FR (l : Nat) : Fence := Fence.wide.inRound l
def noDefer (o : Oper) : Bool := match o.op with
  | .defer _ => false
  | _ => true
def noDefers : List Oper → Bool
  | [] => true
  | o :: r => noDefer o && noDefers r
theorem noDefer_spec {o : Oper} (h : noDefer o = true) : ∀ c, o.op ≠ .defer c := fun c e => by unfold noDefer at h; rw [e] at h; cases h
theorem noDefers_get : ∀ {l : List Oper}, noDefers l = true → ∀ (i : Nat) (o : Oper), l[i]? = some o → noDefer o = true
  | [], _, i, o, h => by simp at h
  | x :: r, hb, i, o, h => by
    simp only [noDefers, Bool.and_eq_true] at hb
    cases i with
    | zero => simp at h; subst h; exact hb.1
    | succ i => exact noDefers_get hb.2 i o (by simpa using h)
section
variable {l m : Nat} {Q : Exit → Act → World → Prop} {a : Act} {w : World} {o : Oper}
theorem calls_in {f : FuncId} {args : Array Value} {R : Ending → World → Prop} (h : Calls P f args w R) : CallsIn (FR l) m P f args w R := (show CallsIn Fence.wide m P f args w R from callsIn_wide.2 h)
theorem op_in {next next' : Act → World → Prop} (hd : noDefer o = true) (hn : ∀ a w, next a w → next' a w) (h : o.wp P a w next Q) : o.wpIn (FR l) m P a w next' Q := by
  refine ⟨fun _ _ => trivial, ?_⟩;have he : (o.semAt (FR l).round a.eval) = execOp a.eval o := Oper.semAt_eq _ _ _ (noDefer_spec hd);rw [he]
  unfold Oper.wp at h
  generalize (execOp a.eval o).run P w = r at h
  unfold Oper.upon at h
  split at h
  · exact hn _ _ h
  · exact hn _ _ h
  · exact hn _ _ h
  · refine ⟨fun e => (by cases e), calls_in (h.mono fun e w'' hq => ?_)⟩
    cases e with
    | returned v => exact hn _ _ hq
    | panicked c => exact hq
    | outgrown => exact hq
  · refine ⟨fun e => (by cases e), fun c cs hr => ?_⟩
    obtain ⟨v, w', h1, h2⟩ := h c cs;exact ⟨v, w', hn _ _ h1, stepsIn_wide.2 h2⟩
  · exact h
  · exact h.elim
theorem list_in {ops : Array Oper} (hQ : ∀ a w, ¬ Q .outgrown a w) : ∀ (is : List Oper) (a : Act) (w : World), noDefers is = true → wpList P ops Q is a w → wpListIn (FR l) m P ops Q is a w
  | [], a, w, _, h => h
  | o :: r, a, w, hb, h => by
    simp only [noDefers, Bool.and_eq_true] at hb
    have ih := list_in (ops := ops) hQ r
    unfold wpList at h
    unfold wpListIn
    split
    · rename_i hw
      rw [if_pos hw] at h
      rcases h with h | h
      · exact op_in hb.1 (fun a w q => ih a w hb.2 q) h
      · obtain ⟨a', w', q⟩ := h.2
        exact (hQ a' w' q).elim
    · rename_i hw
      rw [if_neg hw] at h
      exact ⟨fun _ _ => trivial, ih _ _ hb.2 h⟩
theorem any_in {ops : List Oper} (hQ : ∀ a w, ¬ Q .outgrown a w) (hb : noDefers ops = true) : ∀ (f : Nat) (listed : Array Bool) (a : Act) (w : World), wpAny P .any ops.toArray Q f listed a w → wpAnyIn (FR l) m P .any ops.toArray Q f listed a w
  | 0, listed, a, w, h => h
  | f + 1, listed, a, w, h => by
    have ih := any_in hQ hb f
    refine ⟨h.1, fun i hi => ?_⟩
    have h2 := h.2 i hi
    unfold wpOp at h2
    unfold wpOpIn
    cases ho : ops.toArray[i]? with
    | none =>
      rw [ho] at h2
      exact ih _ _ _ h2
    | some o =>
      rw [ho] at h2
      dsimp only at h2 ⊢
      split
      · rename_i hw
        rw [if_pos hw] at h2
        have hd := noDefers_get hb i o (by simpa using ho)
        first
          | exact op_in hd (fun a w q => ih _ a w q) h2
          | (rcases h2 with h2 | h2
             · exact op_in hd (fun a w q => ih _ a w q) h2
             · obtain ⟨a', w', q⟩ := h2.2
               exact (hQ a' w' q).elim)
      · rename_i hw
        rw [if_neg hw] at h2
        exact ⟨fun _ _ => trivial, ih _ _ _ h2⟩
end
section
variable {l m n : Nat} {Q : Exit → Act → World → Prop} {a : Act} {w : World} {F : List (Nat × Value)}
theorem sq {x y : Code} (h : x.wpIn (FR l) m P (Exit.then (fun a w => y.wpIn (FR l) m P Q a w) Q) a w) : (x.seq y).wpIn (FR l) m P Q a w := wpIn_seq h
theorem wp_skip (h : Q .normal a w) : Code.skip.wpIn (FR l) m P Q a w := wpIn_skip h
theorem wp_exit {id : Nat} (h : Q (.exit id) a w) : (Code.exit id).wpIn (FR l) m P Q a w := wpIn_exit h
theorem wp_ret (h : Q .ret a w) : Code.ret.wpIn (FR l) m P Q a w := wpIn_ret h
theorem wp_block {id : Nat} {c : Code} (h : c.wpIn (FR l) m P (Exit.inBlock id Q) a w) : (Code.block id c).wpIn (FR l) m P Q a w := wpIn_block h
theorem wp_region_lit {id : Nat} {ops : List Oper} (h : wpList P ops.toArray Q ops a w) (hd : noDefers ops = true := by rfl) (hQ : ∀ a w, ¬ Q .outgrown a w := by exact fun _ _ h => h) : (Code.region id ops.toArray false).wpIn (FR l) m P Q a w :=
  wpIn_region_lit (list_in hQ _ _ _ hd h)
theorem c_cond {c : Operand} {x y : Code} {p : Prop} [Decidable p] (hF : Fr n a F) (hc : look F c = some (.bool (decide p))) (h1 : p → x.wpIn (FR l) m P Q a w) (h2 : ¬ p → y.wpIn (FR l) m P Q a w) : (Code.cond c x y).wpIn (FR l) m P Q a w :=
  wpIn_cond_split (hF.eval hc) (fun h => h1 (of_decide_eq_true h)) (fun h => h2 (of_decide_eq_false h))
theorem c_condB {c : Operand} {x y : Code} {b : Bool} (hF : Fr n a F) (hc : look F c = some (.bool b)) (h1 : b = true → x.wpIn (FR l) m P Q a w) (h2 : b = false → y.wpIn (FR l) m P Q a w) : (Code.cond c x y).wpIn (FR l) m P Q a w :=
  wpIn_cond_split (hF.eval hc) h1 h2
theorem c_kT {c : Operand} {x y : Code} {p : Prop} [Decidable p] (hF : Fr n a F) (hc : look F c = some (.bool (decide p))) (hp : p) (h : x.wpIn (FR l) m P Q a w) : (Code.cond c x y).wpIn (FR l) m P Q a w := c_cond hF hc (fun _ => h) (fun e => absurd hp e)
theorem c_kF {c : Operand} {x y : Code} {p : Prop} [Decidable p] (hF : Fr n a F) (hc : look F c = some (.bool (decide p))) (hp : ¬ p) (h : y.wpIn (FR l) m P Q a w) : (Code.cond c x y).wpIn (FR l) m P Q a w := c_cond hF hc (fun e => absurd e hp) (fun _ => h)
theorem c_T {c : Operand} {x y : Code} (hF : Fr n a F) (hc : look F c = some (.bool true)) (h : x.wpIn (FR l) m P Q a w) : (Code.cond c x y).wpIn (FR l) m P Q a w := c_condB hF hc (fun _ => h) (fun e => by cases e)
theorem c_Fl {c : Operand} {x y : Code} (hF : Fr n a F) (hc : look F c = some (.bool false)) (h : y.wpIn (FR l) m P Q a w) : (Code.cond c x y).wpIn (FR l) m P Q a w := c_condB hF hc (fun e => by cases e) (fun _ => h)
theorem c_loop {α : Type} {c : Code} (I : α → Act → World → Prop) (μ : α → Nat) (x0 : α) (h0 : I x0 a w)
    (hr : ∀ x a w, I x a w → c.wpIn (FR l) m P (Exit.then (fun a' w' => ∃ y, I y a' w' ∧ μ y < μ x) Q) a w) : (Code.loop c).wpIn (FR l) m P Q a w := by
  have key : ∀ k x a w, μ x ≤ k → I x a w → Code.roundsIn (FR l) m P c Q (k + 1) a w := by
    intro k
    induction k with
    | zero =>
      intro x a w hm hI;rw [roundsIn_succ];refine Code.wpIn_mono (fun e a' w' q => ?_) (hr x a w hI)
      cases e <;> first | exact q | (obtain ⟨y, _, hy⟩ := q; omega)
    | succ k ih =>
      intro x a w hm hI;rw [roundsIn_succ];refine Code.wpIn_mono (fun e a' w' q => ?_) (hr x a w hI)
      cases e <;> first | exact q | (obtain ⟨y, hy1, hy⟩ := q; exact ih y a' w' (by omega) hy1)
  exact wpIn_loop_rounds _ (key _ x0 a w (Nat.le_refl _) h0)
end
section
variable {ops : List Oper} {Q : Exit → Act → World → Prop} {n : Nat} {F : List (Nat × Value)} {G : Type} {S : G → World → Prop}
theorem draw_any {k : Nat} {a : Act} {w : World} (hk : tailOk ops k = true) (hF : Fr n a F) (hdst : dstsOk n F (ops.take k) [] = true) (g : G) (hS : S g w)
    (hdr : ∀ w, S g w → S g w.drew) (φ : Facts G)
    (hsteps : StepsOk P ops k n F S φ (ops.take k) 0)
    (hend : ∀ a w g, Fr n a F → S g w → (∀ i, i < k → i < ops.length → φ i g (a.tmps.getD (dstOf ops i) undef) w) → wpList P ops.toArray Q (ops.drop k) a w) :
    wpAny P .any ops.toArray Q ops.toArray.size (Array.replicate ops.toArray.size false) a { w with drawn := w.drawn + 1 } := by
  simp only [tailOk, Bool.and_eq_true] at hk;obtain ⟨hback, htail⟩ := hk;have hge : ∀ (i : Nat), ops.toArray[i]? = ops[i]? := fun i => by simp
  have hreach : ∀ i j, k ≤ i → i < ops.length → j < i → Reach ops i j := fun i j h1 h2 h3 =>
    masks_spec ops [] (fun i => by simp) (fun m j h => by simp at h) i j (bitsFrom_spec htail i h1 h2 (by omega) j h3)
  have edge_listed : ∀ {i : Nat} {o : Oper} {listed : Array Bool} {j : Nat}, i ∈ Region.ready .any ops.toArray listed → ops[i]? = some o → edgeTo o j = true → listed.getD j false = true := by
    intro i o listed j hi ho he;obtain ⟨_, o', ho', hall⟩ := mem_ready.1 hi;rw [hge, ho] at ho';obtain rfl := Option.some.inj ho';simp only [edgeTo, List.any_eq_true, Bool.and_eq_true] at he;obtain ⟨e, hm', hb, hj⟩ := he;obtain rfl := Nat.eq_of_beq_eq_true hj;exact hall e (by simpa using hm') hb
  have reach_listed : ∀ {listed : Array Bool}, (∀ (j : Nat) o, ops[j]? = some o → listed.getD j false = true → ∀ e ∈ o.after, Region.binds .any e = true → listed.getD e.on false = true) → ∀ i j, Reach ops i j → (∀ o m, ops[i]? = some o → edgeTo o m = true → listed.getD m false = true) → listed.getD j false = true := by
    intro listed hcl i j hr
    induction hr with
    | one ho he => intro h; exact h _ _ ho he
    | more ho he _ ih =>
      intro h;have hm' := h _ _ ho he;refine ih (fun o m ho2 he2 => ?_);simp only [edgeTo, List.any_eq_true, Bool.and_eq_true] at he2;obtain ⟨e, hin, hb, hj⟩ := he2;obtain rfl := Nat.eq_of_beq_eq_true hj;exact hcl _ o ho2 hm' e (by simpa using hin) hb
  -- the tail
  have tail : ∀ (f m : Nat) (listed : Array Bool) (a : Act) (w : World), k ≤ m → ops.length - m ≤ f → (∀ j, j < m → j < ops.length → listed.getD j false = true) → (∀ j, m ≤ j → j < ops.length → listed.getD j true = false) →
      wpList P ops.toArray Q (ops.drop m) a w → wpAny P .any ops.toArray Q f listed a w := by
    intro f
    induction f with
    | zero =>
      intro m listed a w hkm hf h1 h2 h;rw [List.drop_eq_nil_of_le (by omega)] at h;refine ⟨?_, h⟩
      cases hr : Region.ready .any ops.toArray listed with
      | nil => rfl
      | cons i r =>
        obtain ⟨g1, o, ho, _⟩ := mem_ready.1 (hr ▸ List.mem_cons_self .. : i ∈ Region.ready .any ops.toArray listed);rw [hge] at ho;have hi := (List.getElem?_eq_some_iff.1 ho).1;have := h1 i (by omega) hi
        simp [Array.getD_eq_getD_getElem?] at this g1
        cases hh : listed[i]? <;> simp [hh] at this g1
        rw [this] at g1; cases g1
    | succ f ih =>
      intro m listed a w hkm hf h1 h2 h;have only : ∀ i ∈ Region.ready .any ops.toArray listed, i = m := by
        intro i hi;obtain ⟨g1, o, ho, hall⟩ := mem_ready.1 hi;have ho' := ho;rw [hge] at ho';have hil := (List.getElem?_eq_some_iff.1 ho').1
        by_cases hlt : i < m
        · have := h1 i hlt hil
          simp [Array.getD_eq_getD_getElem?] at this g1
          cases hh : listed[i]? <;> simp [hh] at this g1
          rw [this] at g1; cases g1
        · by_cases e : i = m
          · exact e
          · have := reach_listed (listed := listed) (fun j o hj hl e he hbnd => by
                have hjl := (List.getElem?_eq_some_iff.1 hj).1;have hjm : j < m := by
                  rcases Nat.lt_or_ge j m with h | h
                  · exact h
                  · have h3 := h2 j h hjl
                    simp [Array.getD_eq_getD_getElem?] at hl h3
                    cases hh : listed[j]? <;> simp [hh] at hl h3
                    rw [hl] at h3; cases h3
                have := edgesBack_spec hback j o hj e he hbnd;exact h1 e.on (by omega) (by omega)) i m (hreach i m (by omega) hil (by omega)) (fun o2 q ho2 he2 => by
                rw [ho'] at ho2; obtain rfl := Option.some.inj ho2; exact edge_listed hi ho' he2)
            have h3 := h2 m (Nat.le_refl _) (by omega)
            simp [Array.getD_eq_getD_getElem?] at this h3
            cases hh : listed[m]? <;> simp [hh] at this h3
            rw [this] at h3; cases h3
      refine ⟨fun hr => ?_, fun i hi => ?_⟩
      · by_cases hml : m < ops.length
        · exfalso
          have : m ∈ Region.ready .any ops.toArray listed := by
            refine mem_ready.2 ⟨h2 m (Nat.le_refl _) hml, ops[m], by simp [hml], fun e he hbnd => ?_⟩;have := edgesBack_spec hback m ops[m] (by simp [hml]) e he hbnd;exact h1 e.on (by omega) (by omega)
          rw [hr] at this; cases this
        · rw [List.drop_eq_nil_of_le (by omega)] at h; exact h
      · obtain rfl := only i hi
        obtain ⟨g1, o, ho, _⟩ := mem_ready.1 hi;rw [hge] at ho;have hil := (List.getElem?_eq_some_iff.1 ho).1;have hdrop : ops.drop i = o :: ops.drop (i + 1) := by
          rw [List.drop_eq_getElem_cons hil]; congr 1; exact (List.getElem?_eq_some_iff.1 ho).2
        rw [hdrop] at h;have K : ∀ a w, wpList P ops.toArray Q (ops.drop (i + 1)) a w → wpAny P .any ops.toArray Q f (listed.setIfInBounds i true) a w := by
          intro a w hh;refine ih (i + 1) _ a w (by omega) (by omega) (fun j hj hjl => ?_) (fun j hj hjl => ?_) hh
          · by_cases e : i = j
            · subst e
              have hsz : i < listed.size := by
                rcases Nat.lt_or_ge i listed.size with h' | h'
                · exact h'
                · simp [Array.getElem?_eq_none h'] at g1
              simp [hsz]
            · rw [getD_set_ne false e]; exact h1 j (by omega) hjl
          · rw [getD_set_ne true (by omega)]; exact h2 j (by omega) hjl
        unfold wpOp
        rw [hge, ho]
        unfold wpList at h
        show (if Region.wanted o (yielded ops.toArray a.tmps) then _ else _)
        split
        · rename_i hw
          rw [if_pos hw] at h;exact h.imp (Oper.wp_mono K) (fun x => x)
        · rename_i hw
          rw [if_neg hw] at h;exact K _ _ h
  -- the head
  have head : ∀ (f : Nat) (listed : Array Bool) (a : Act) (w : World) (g : G), listed.size = ops.length → (List.range ops.length).countP (fun i => !listed.getD i true) ≤ f → (∀ j, k ≤ j → j < ops.length → listed.getD j true = false) → (∀ (j : Nat) o, ops[j]? = some o → listed.getD j false = true → ∀ e ∈ o.after, Region.binds .any e = true → listed.getD e.on false = true) →
      Fr n a F → S g w → (∀ i, i < k → i < ops.length → listed.getD i false = true → φ i g (a.tmps.getD (dstOf ops i) undef) w) → wpAny P .any ops.toArray Q f listed a w := by
    intro f
    induction f with
    | zero =>
      intro listed a w g hsz hc h2 hcl hF hS hφ';have all : ∀ j, j < ops.length → listed.getD j true = true := by
        intro j hj;have h0 : (List.range ops.length).countP (fun i => !listed.getD i true) = 0 := by omega
        have := List.countP_eq_zero.1 h0 j (by simpa using hj)
        simpa using this
      have hlen : ops.length ≤ k := by
        rcases Nat.lt_or_ge k ops.length with h | h
        · have e1 := h2 k (Nat.le_refl _) h
          rw [all k h] at e1; cases e1
        · exact h
      refine tail 0 k listed a w (Nat.le_refl _) (by omega) (fun j _ hj => ?_) (fun j hj hjl => by omega) ?_
      · have := all j hj
        have hjs : j < listed.size := by omega
        simpa [Array.getD_eq_getD_getElem?, hjs] using this
      · refine hend a w g hF hS (fun i hi hil => hφ' i hi hil ?_)
        have := all i hil;have hjs : i < listed.size := by omega
        simpa [Array.getD_eq_getD_getElem?, hjs] using this
    | succ f ih =>
      intro listed a w g hsz hc h2 hcl hF hS hφ'
      by_cases all : ∀ j, j < k → j < ops.length → listed.getD j false = true
      · refine tail (f + 1) k listed a w (Nat.le_refl _) ?_ all h2 (hend a w g hF hS (fun i hi hil => hφ' i hi hil (all i hi hil)))
        -- as many are left as stand behind k
        have hge' : ∀ (m : Nat), m ≤ ops.length → m - k ≤ (List.range m).countP (fun i => !listed.getD i true) := by
          intro m
          induction m with
          | zero => intro _; simp
          | succ m ihm =>
            intro hm';have := ihm (by omega);rw [List.range_succ, List.countP_append]
            by_cases hkm : k ≤ m
            · have e1 := h2 m hkm (by omega)
              have e2 : List.countP (fun i => !listed.getD i true) [m] = 1 := by rw [List.countP_cons, e1]; rfl
              omega
            · omega
        have := hge' ops.length (Nat.le_refl _)
        omega
      · have step : ∀ i ∈ Region.ready .any ops.toArray listed, i < k := by
          intro i hi
          rcases Nat.lt_or_ge i k with h | h
          · exact h
          · exfalso
            obtain ⟨g1, o, ho, _⟩ := mem_ready.1 hi;rw [hge] at ho;have hil := (List.getElem?_eq_some_iff.1 ho).1;exact all (fun j hj hjl => reach_listed hcl i j (hreach i j h hil (by omega)) (fun o2 q ho2 he2 => by
              rw [ho] at ho2; obtain rfl := Option.some.inj ho2; exact edge_listed hi ho he2))
        refine ⟨fun hr => ?_, fun i hi => ?_⟩
        · exfalso
          apply all
          intro j
          induction j using Nat.strongRecOn with
          | _ j ihj =>
            intro hjk hjl
            cases hl : listed.getD j false with
            | true => rfl
            | false =>
              have hjs : j < listed.size := by omega
              have hm' : j ∈ Region.ready .any ops.toArray listed := by
                refine mem_ready.2 ⟨?_, ops[j], by simp [hjl], fun e he hbnd => ?_⟩
                · simpa [Array.getD_eq_getD_getElem?, hjs] using hl
                · have := edgesBack_spec hback j ops[j] (by simp [hjl]) e he hbnd
                  exact ihj e.on (by omega) (by omega) (by omega)
              rw [hr] at hm'; cases hm'
        · have hik := step i hi
          obtain ⟨g1, o, ho, hall'⟩ := mem_ready.1 hi;rw [hge] at ho;have hil := (List.getElem?_eq_some_iff.1 ho).1;have hti : (ops.take k)[i]? = some o := by rw [List.getElem?_take, if_pos hik]; exact ho
          obtain ⟨d, hd1, hd2, hd3, _, hd5, hd6⟩ := dstsOk_spec hdst i o hti;have hdo : dstOf ops i = d := by simp [dstOf, ho, hd1]
          have hdne : ∀ j, j < k → j < ops.length → j ≠ i → dstOf ops j ≠ d := by
            intro j hj hjl hne e;have hoj : ops[j]? = some ops[j] := by simp [hjl]
            have htj : (ops.take k)[j]? = some ops[j] := by rw [List.getElem?_take, if_pos hj]; exact hoj
            obtain ⟨d', e1, _, _, _, e5, _⟩ := dstsOk_spec hdst j ops[j] htj;have hdj : dstOf ops j = d' := by simp only [dstOf, hoj, Option.bind_some, e1, Option.getD_some]
            have hdd : d' = d := by rw [← hdj]; exact e
            subst hdd
            rcases Nat.lt_or_gt_of_ne hne with h | h
            · exact hd5 j ops[j] h htj e1
            · exact e5 i o h hti hd1
          have hdoes := StepsOk.get hsteps i o hti a w g hF hS (fun j hj he => by
            have hj' : j < k := Nat.blt_eq.mp hj;have hl := edge_listed hi ho he;have hjl : j < ops.length := by
              rcases Nat.lt_or_ge j listed.size with h | h
              · omega
              · simp [Array.getElem?_eq_none h] at hl
            exact hφ' j hj' hjl hl)
          unfold wpOp
          rw [hge, ho]
          show (if Region.wanted o (yielded ops.toArray a.tmps) then _ else _)
          rw [if_pos (by simp [Region.wanted, hd6])];refine .inl (hdoes.run _ _ fun v w' hv => ?_);rw [Nat.zero_add] at hv;obtain ⟨g', hS', hvi, hothers⟩ := hv;have hF' : Fr n (a.put o.dst v) F := by
            rw [hd1];have := hF.put d v (Nat.blt_eq.mpr hd2);refine ⟨this.defers, this.size, fun t u ht => this.get t u ?_⟩;simp only [lk];have hne : ¬ d = t := fun e => by subst e; rw [hd3] at ht; cases ht
            rw [beqF hne]; exact ht
          refine ih _ _ _ g' (by simpa using hsz) ?_ (fun j hj hjl => ?_) (fun j oj hoj hl e he hb => ?_) hF' hS' (fun j hj hjl hl => ?_)
          · have : (List.range ops.length).countP (fun j => !(listed.setIfInBounds i true).getD j true) < (List.range ops.length).countP (fun j => !listed.getD j true) := by
              refine countP_lt (fun x hx => ?_) ⟨i, by simpa using hil, by simpa using g1, ?_⟩
              · by_cases e : i = x
                · subst e; simp only [g1]; rfl
                · rw [getD_set_ne true e] at hx; exact hx
              · have : i < listed.size := by omega
                simp [this]
            omega
          · rw [getD_set_ne true (by omega)]; exact h2 j hj hjl
          · refine getD_set_true ?_
            by_cases ej : j = i
            · subst ej
              rw [ho] at hoj; obtain rfl := Option.some.inj hoj;exact hall' e he hb
            · rw [getD_set_ne false (Ne.symm ej)] at hl
              exact hcl j oj hoj hl e he hb
          · by_cases e : j = i
            · subst e
              rw [hd1, hdo];have : (a.put (some d) v).tmps.getD d undef = v := by simp [Act.put, hF.size, hd2]
              rw [this]; exact hvi
            · rw [getD_set_ne false (Ne.symm e)] at hl
              have hold := hothers j _ e (hφ' j hj hjl hl);have hdn := hdne j hj hjl e;rw [hd1];have : (a.put (some d) v).tmps.getD (dstOf ops j) undef = a.tmps.getD (dstOf ops j) undef := by
                simp [Act.put, Array.getElem?_setIfInBounds_ne (Ne.symm hdn)]
              rw [this]; exact hold
  refine head ops.toArray.size (Array.replicate ops.toArray.size false) a _ g (by simp) ?_ (fun j _ hj => by simp [hj]) (fun j o hj hl e he hbnd => by have hjl := (List.getElem?_eq_some_iff.1 hj).1; simp [hjl] at hl) hF (hdr _ hS) (fun i _ hi hl => by simp [hi] at hl)
  · have := List.countP_le_length (l := List.range ops.length) (p := fun i => !(Array.replicate ops.toArray.size false).getD i true)
    simpa using this
theorem c_draw {id k l m : Nat} {a : Act} {w : World} (hm : P.follows .mixedOrders = true) (hk : tailOk ops k = true) (hF : Fr n a F) (hdst : dstsOk n F (ops.take k) [] = true) (g : G) (hS : S g w)
    (hdr : ∀ w, S g w → S g w.drew) (φ : Facts G)
    (hsteps : StepsOk P ops k n F S φ (ops.take k) 0)
    (hend : ∀ a w g, Fr n a F → S g w → (∀ i, i < k → i < ops.length → φ i g (a.tmps.getD (dstOf ops i) undef) w) → wpList P ops.toArray Q (ops.drop k) a w)
    (hd : noDefers ops = true := by rfl) (hQ : ∀ a w, ¬ Q .outgrown a w := by exact fun _ _ h => h) :
    (Code.region id ops.toArray true).wpIn (FR l) m P Q a w :=
  wpIn_region_any hm (any_in hQ hd _ _ _ _ (draw_any hk hF hdst g hS hdr φ hsteps hend))
end
section
variable {ops : List Oper} {Q : Exit → Act → World → Prop} {n : Nat} {F : List (Nat × Value)} {a : Act} {X : List Nat} {w w0 : World} {L0 : Own} {D : Froz}
theorem c_par {id l' m : Nat} (k : Nat) (W : List Nat) (l : List Fact) (hm : P.follows .mixedOrders = true) (hk : tailOk ops k = true) (hF : Fr n a F) (hdst : dstsOk n F (ops.take k) [] = true) (hM : MemX X w0 w L0 D)
    (hsteps : StepsOk P ops k n F (Par X w0 D W L0) (factsOf l) (ops.take k) 0)
    (hend : ∀ a w L, Fr n a F → Par X w0 D W L0 L w → (∀ i, Nat.blt i k = true → Nat.blt i ops.length = true → factsOf l i L (a.tmps.getD (dstOf ops i) undef) w) → wpList P ops.toArray Q (ops.drop k) a w)
    (hd : noDefers ops = true := by rfl) (hQ : ∀ a w, ¬ Q .outgrown a w := by exact fun _ _ h => h) :
    (Code.region id ops.toArray true).wpIn (FR l') m P Q a w :=
  c_draw (S := Par X w0 D W L0) hm hk hF hdst L0 ⟨hM, Same.refl W L0⟩ (fun _ h => ⟨h.1.ext (Below.drew (Below.refl _ _)), h.2⟩) (factsOf l) hsteps
    (fun a w L hF hS hq => hend a w L hF hS fun i h1 h2 => hq i (Nat.blt_eq.mp h1) (Nat.blt_eq.mp h2)) hd hQ
end
end Go.Sw.Rw

namespace Go.Sw.Rw
open Go Go.RowKit
variable {P : Program}
/-! ### A range over a function: the statement, out of what the iterator promises and one walk of the body -/
def KeepsNC (W W' : World) : Prop := ∀ (q : Nat) (o : Obj), W.heap[q]? = some o → (∀ cs t, o ≠ .cells cs t) → W'.heap[q]? = some o
theorem keepsNC_of {X : List Nat} {W W' : World} (h : ExtX X W W') (hX : ∀ b, b ∈ X → ∃ cs, Blk W b cs) : KeepsNC W W' := fun q o hq ho => by
  have hlt : q < W.heap.size := (Array.getElem?_eq_some_iff.1 hq).1
  refine (h.block q hlt fun hm => ?_).trans hq
  obtain ⟨cs, t, hb⟩ := hX q hm
  rw [hb] at hq
  exact ho _ _ (Option.some.inj hq).symm
def RoundQ (R Rx : World → Prop) : Exit → Act → World → Prop
  | .normal, _, w => R w
  | .ret, _, w => Rx w
  | _, _, _ => False
def IterC (P : Program) (gf : Nat) (cap : Array Value) (N : Nat) (arg : Nat → World → World → Array Value → Prop) (K : World → Prop) : Prop :=
  ∀ (l : Nat) (J : Nat → World → Prop) (Jx : World → Prop) (W : World),
    (∀ k A B, J k A → Ext A B → J k B) → (∀ k A, J k A → K A) →
    (∀ k A B args, k < N → J k A → Ext A B → arg k A B args → YieldAt Fence.wide 0 P l args B (fun e W' => (e = .returned (.bool true) ∧ J (k + 1) W') ∨ (e = .returned (.bool false) ∧ Jx W'))) →
    J 0 W → CallsIn Fence.wide 0 P gf (#[.func (.yield l) #[] #[]] ++ cap) W (fun e W' => (∃ v, e = .returned v) ∧ (J N W' ∨ Jx W'))
def roundTmps (ps : Array Tmp) (args tmps : Array Value) : Array Value := (ps.zip args).foldl (fun tmps (t, a) => tmps.setIfInBounds t a) tmps
theorem ext_put {A B : World} {l : Nat} {o : Obj} (h : Ext A B) (hl : l < A.heap.size) : Ext (A.putObj l o) (B.putObj l o) := by
  refine ⟨h.os, h.tape, h.output, by simpa using h.size, fun k hk => ?_⟩;have hk' : k < A.heap.size := by simpa using hk
  by_cases e : k = l
  · subst e
    rw [World.putObj_heap_same hk', World.putObj_heap_same (Nat.lt_of_lt_of_le hk' h.size)]
  · rw [World.putObj_heap_other e, World.putObj_heap_other e]
    exact h.block k hk'
theorem c_rangeFn {g : Operand} {ps : Array Tmp} {assign body : Code} {Q : Exit → Act → World → Prop} {a : Act} {w : World} {gf : Nat} {cap : Array Value} {N : Nat} {arg : Nat → World → World → Array Value → Prop} {K : World → Prop}
    (hdf : a.defers = []) (hg : a.eval g = .func (.func gf) #[] cap) (eg : ∀ args w, (callFunc gf args).run P w = .ok (.enter gf args) w) (hit : IterC P gf cap N arg K)
    (hps : ∀ k A B args, arg k A B args → args.size = ps.size)
    (harg : ∀ k A B args l o o', arg k A B args → A.heap[l]? = some (.loop o) → B.heap[l]? = some (.loop o) → arg k (A.putObj l o') (B.putObj l o') args)
    (I : Nat → World → Prop) (Ix : World → Prop)
    (hIe : ∀ k A B, I k A → Ext A B → I k B) (hIl : ∀ k A l o o', w.heap.size ≤ l → I k A → A.heap[l]? = some (.loop o) → I k (A.putObj l o')) (hXl : ∀ A l o o', w.heap.size ≤ l → Ix A → A.heap[l]? = some (.loop o) → Ix (A.putObj l o')) (hK : ∀ k A, I k A → K A) (h0 : I 0 w)
    (A1 : Array Value → Act → Prop)
    (hassign : ∀ (l k : Nat) (A B : World) (args : Array Value) (K : Act → World → Prop), arg k A B args → (∀ a1, A1 args a1 → K a1 B) →
      assign.wpIn (FR l) 0 P (Exit.then K (fun _ _ _ => False)) { tmps := roundTmps ps args a.tmps, defers := [] } B)
    (hbody : ∀ (l k : Nat) (A B : World) (args : Array Value) (a1 : Act), k < N → I k A → Ext A B → arg k A B args → A1 args a1 →
      body.wpIn (FR l) 0 P (RoundQ (fun W' => KeepsNC B W' ∧ I (k + 1) W') (fun W' => KeepsNC B W' ∧ Ix W')) a1 B)
    (hend : ∀ (D : Nat) (W : World), w.heap.size ≤ D → I N W → W.heap[D]? = some (.deferred (some [])) → Q .normal { a with defers := [{ target := .collected D, args := #[] }] } W)
    (hret : ∀ (D : Nat) (W : World), w.heap.size ≤ D → Ix W → W.heap[D]? = some (.deferred (some [])) → Q .ret { a with defers := [{ target := .collected D, args := #[] }] } W) :
    (Code.rangeFunc g ps assign body).wp P Q a w := by
  refine wpIn_wide.1 (wpIn_rangeFunc (n := 0) fun fn _ => ?_);obtain ⟨rec, hrec⟩ : ∃ rec : LoopState → Option Code → Loop, rec = fun st pe => { state := st, pending := pe, fn, tmps := a.tmps, params := ps, assign, body, defers := w.heap.size } := ⟨_, rfl⟩;obtain ⟨W1, hW1⟩ : ∃ W1, (w.alloc (.deferred (some []))).alloc (.loop (rec .ready none)) = W1 := ⟨_, rfl⟩;have hL1 : W1.heap[w.heap.size + 1]? = some (.loop (rec .ready none)) := by
    rw [← hW1]; have := World.alloc_heap_new (w.alloc (.deferred (some []))) (.loop (rec .ready none)); rwa [World.size_alloc] at this
  have hE1 : Ext w W1 := by rw [← hW1]; exact (Ext.alloc _ _).trans (Ext.alloc _ _)
  have hK1 : W1.heap[w.heap.size]? = some (.deferred (some [])) := by
    have e := Ext.alloc (w.alloc (.deferred (some []))) (.loop (rec .ready none));rw [← hW1]; exact (e.block w.heap.size (by rw [World.size_alloc]; omega)).trans (World.alloc_heap_new w _)
  have hI1 : I 0 W1 := hIe _ _ _ h0 hE1;have hne : w.heap.size ≠ w.heap.size + 1 := by omega
  refine ⟨w.heap.size + 1, [{ target := .collected w.heap.size, args := #[] }], W1, { target := .fn (.func gf) cap, args := #[.func (.yield (w.heap.size + 1)) #[] #[]] }, W1, gf,
    #[.func (.yield (w.heap.size + 1)) #[] #[]] ++ cap, W1, ?_, ?_, fun _ _ => trivial, ?_, fun e => (by cases e), ?_⟩
  · rw [← hW1, hrec]; exact run_enterLoop_outer _ _ _ _ _
  · simp only [resolve, hg]
    simp [go_sem]
  · simp [invoke, go_sem, eg]
  · have hdf2 : ([{ target := .collected w.heap.size, args := #[] }] : List Deferred) ++ a.defers = [{ target := .collected w.heap.size, args := #[] }] := by rw [hdf]; rfl
    refine (hit (w.heap.size + 1)
      (fun k W => I k W ∧ W.heap[w.heap.size + 1]? = some (.loop (rec .ready none)) ∧ W.heap[w.heap.size]? = some (.deferred (some [])))
      (fun W => Ix W ∧ W.heap[w.heap.size + 1]? = some (.loop (rec .done (some .ret))) ∧ W.heap[w.heap.size]? = some (.deferred (some [])))
      W1 (fun k A B hA hx => ⟨hIe k A B hA.1 hx, (hx.block _ (Array.getElem?_eq_some_iff.1 hA.2.1).1).trans hA.2.1, (hx.block _ (Array.getElem?_eq_some_iff.1 hA.2.2).1).trans hA.2.2⟩)
      (fun k A hA => hK k A hA.1) ?_ ⟨hI1, hL1, hK1⟩).mono ?_
    · rintro k A B args hk ⟨hIA, hlA, hdA⟩ hx ha
      have hltA : w.heap.size + 1 < A.heap.size := (Array.getElem?_eq_some_iff.1 hlA).1;have hlB : B.heap[w.heap.size + 1]? = some (.loop (rec .ready none)) := (hx.block _ hltA).trans hlA;have hltB : w.heap.size + 1 < B.heap.size := (Array.getElem?_eq_some_iff.1 hlB).1;have hdB : B.heap[w.heap.size]? = some (.deferred (some [])) := (hx.block _ (Array.getElem?_eq_some_iff.1 hdA).1).trans hdA;have hy := run_yield (P := P) (args := args) hlB (by rw [hrec]; exact hps k A B args ha);rw [hrec] at hy;refine ⟨fn, _, assign, body, hy, roundIn_of_wpIn trivial (hassign _ k A B args _ ha fun a1 hA1 => ⟨_, run_beginRound hlB (by rw [hrec]), ?_⟩)⟩;have hb := hbody (w.heap.size + 1) k _ _ args a1 hk (hIl k A (w.heap.size + 1) _ (.loop { rec .ready none with state := .busy }) (by omega) hIA hlA) (ext_put hx hltA) (harg k A B args (w.heap.size + 1) _ (.loop { rec .ready none with state := .busy }) ha hlA hlB) hA1;have hl2 : (B.putObj (w.heap.size + 1) (.loop { rec .ready none with state := .busy })).heap[w.heap.size + 1]? = some (.loop { rec .ready none with state := .busy }) := World.putObj_heap_same hltB;have hd2 : (B.putObj (w.heap.size + 1) (.loop { rec .ready none with state := .busy })).heap[w.heap.size]? = some (.deferred (some [])) := (World.putObj_heap_other hne).trans hdB;refine Code.wpIn_mono ?_ hb;have fin : ∀ (jump : Option Code) (W3 : World), KeepsNC (B.putObj (w.heap.size + 1) (.loop { rec .ready none with state := .busy })) W3 →
          (Instr.endRound (w.heap.size + 1) jump).run P W3 = .ok (.bool jump.isNone) (W3.putObj (w.heap.size + 1) (.loop (rec (if jump.isNone then .ready else .done) jump))) ∧
          W3.heap[w.heap.size + 1]? = some (.loop { rec .ready none with state := .busy }) ∧
          (W3.putObj (w.heap.size + 1) (.loop (rec (if jump.isNone then .ready else .done) jump))).heap[w.heap.size + 1]? = some (.loop (rec (if jump.isNone then .ready else .done) jump)) ∧
          (W3.putObj (w.heap.size + 1) (.loop (rec (if jump.isNone then .ready else .done) jump))).heap[w.heap.size]? = some (.deferred (some [])) := fun jump W3 hk3 => by
        have hl3 := hk3 _ _ hl2 (fun _ _ q => by cases q);have hd3 := hk3 _ _ hd2 (fun _ _ q => by cases q);have hlt3 : w.heap.size + 1 < W3.heap.size := (Array.getElem?_eq_some_iff.1 hl3).1;have := run_endRound (P := P) jump hl3;refine ⟨?_, hl3, World.putObj_heap_same hlt3, (World.putObj_heap_other hne).trans hd3⟩;rw [this, hrec]
      intro e a3 W3 hq
      cases e with
      | normal =>
        obtain ⟨hk3, hI3⟩ := hq;obtain ⟨h1, h2, h3, h4⟩ := fin none W3 hk3;exact ⟨_, _, h1, .inl ⟨rfl, hIl _ _ _ _ _ (by omega) hI3 h2, h3, h4⟩⟩
      | ret =>
        obtain ⟨hk3, hX3⟩ := hq;obtain ⟨h1, h2, h3, h4⟩ := fin (some .ret) W3 hk3;exact ⟨_, _, h1, .inr ⟨rfl, hXl _ _ _ _ (by omega) hX3 h2, h3, h4⟩⟩
      | exit id => exact hq.elim
      | goto t => exact hq.elim
      | panic c => exact hq.elim
      | outgrown => exact hq.elim
    · rintro e W3 ⟨⟨v, rfl⟩, ⟨hI3, hl3, hd3⟩ | ⟨hX3, hl3, hd3⟩⟩
      · refine ⟨none, W3.putObj (w.heap.size + 1) (.loop { rec .ready none with state := .exhausted }), (run_endLoop hl3 (by rw [hrec]; exact fun q => by cases q)).trans (by rw [hrec]), ?_⟩
        have hd4 : (W3.putObj (w.heap.size + 1) (.loop { rec .ready none with state := .exhausted })).heap[w.heap.size]? = some (.deferred (some [])) := (World.putObj_heap_other hne).trans hd3;have := hend _ _ (Nat.le_refl _) (hIl _ _ _ _ (.loop { rec .ready none with state := .exhausted }) (by omega) hI3 hl3) hd4;rw [← hdf2] at this;exact this
      · refine ⟨some .ret, W3.putObj (w.heap.size + 1) (.loop { rec .done (some .ret) with state := .exhausted }), (run_endLoop hl3 (by rw [hrec]; exact fun q => by cases q)).trans (by rw [hrec]), ?_⟩
        have hd4 : (W3.putObj (w.heap.size + 1) (.loop { rec .done (some .ret) with state := .exhausted })).heap[w.heap.size]? = some (.deferred (some [])) := (World.putObj_heap_other hne).trans hd3;have := hret _ _ (Nat.le_refl _) (hXl _ _ _ (.loop { rec .done (some .ret) with state := .exhausted }) (by omega) hX3 hl3) hd4;rw [← hdf2] at this;exact wpIn_ret this
end Go.Sw.Rw

namespace Go.Sw.Rw
open Go Go.RowKit
variable {P : Program}
theorem mem_put {X : List Nat} {w0 w : World} {L : Own} {D : Froz} (h : MemX X w0 w L D) {l : Nat} {o : Obj} (o' : Obj) (hl : w.heap[l]? = some o) (hno : ∀ cs t, o ≠ .cells cs t) (hge : w0.heap.size ≤ l) : MemX X w0 (w.putObj l o') L D := by
  have hbl : ∀ {q : Nat} {cs : Array Value}, Blk w q cs → Blk (w.putObj l o') q cs := fun {q cs} hq => by
    obtain ⟨t, ht⟩ := hq;refine ⟨t, (World.putObj_heap_other fun e => ?_).trans ht⟩;subst e;rw [hl] at ht;exact hno _ _ (Option.some.inj ht)
  refine ⟨⟨h.bel.os, h.bel.tape, h.bel.output, by simpa using h.bel.size, fun k hk hX => ?_⟩, fun k b cs hk => ⟨(h.blk k b cs hk).1, hbl (h.blk k b cs hk).2⟩, h.apart, fun b cs hm => ⟨hbl (h.froz b cs hm).1, (h.froz b cs hm).2⟩⟩;rw [World.putObj_heap_other (by omega)];exact h.bel.block k hk hX
theorem blk_put {w : World} {l q : Nat} {o : Obj} {cs : Array Value} (o' : Obj) (h : Blk w q cs) (hl : w.heap[l]? = some o) (hno : ∀ cs t, o ≠ .cells cs t) : Blk (w.putObj l o') q cs := by
  obtain ⟨t, ht⟩ := h;refine ⟨t, (World.putObj_heap_other fun e => ?_).trans ht⟩;subst e;rw [hl] at ht;exact hno _ _ (Option.some.inj ht)
abbrev mark (D : Nat) : Deferred := { target := .collected D, args := #[] }
section
variable {fn : Func} {n : Nat} {F : List (Nat × Value)} {a : Act} {w : World}
theorem calls_frM {f : FuncId} {c : Code} {R : Value → World → Prop} {N : Nat} (vs : List Value) (hf : P.funcs[f]? = some fn) (hb : fn.body = some c) (hN : fn.ntmps = N) (hn : Nat.ble vs.length N = true)
    (h : ∀ a, Fr N a (argF vs 0) → c.wp P (bodyPostM Fence.wide 0 P fn (fun e w' => ∃ v, e = .returned v ∧ Ext w w' ∧ R v w')) a w) : CallsR P f vs.toArray w R := by
  subst hN;exact callsIn_wide.1 (callsIn_of_wp_marks (n := 0) hf hb trivial (wpIn_wide.2 (h _ (frameA vs rfl hn))))
theorem fin1K {r : ResultVar} {v : Value} {R : Ending → World → Prop} {D : Nat} (hr : fn.results = #[r]) (hd : a.defers = []) (hD : w.heap[D]? = some (.deferred (some []))) (h1 : resIs P a (w.putObj D (.deferred none)) r v) (h : R (.returned v) (w.putObj D (.deferred none))) : bodyPostM Fence.wide 0 P fn R .ret (addD [mark D] a) w := by
  show LeavesInM _ _ _ _ a.tmps _ (a.defers ++ [mark D]) _ _
  rw [hd];exact ⟨fun q => (by cases q), .inl ⟨D, _, rfl, run_takeDeferred hD, v, by rw [results_eq, hr]; simp [resIs_run h1], h⟩⟩
end
/-! ### Calls of yield -/
section
variable {ops : Array Oper} {Q : Exit → Act → World → Prop} {rest : List Oper} {n : Nat} {F : List (Nat × Value)} {a : Act} {w : World} {t : TypeId} {pos : String} {af : Array Edge}
theorem op_inW {o : Oper} {next next' : Act → World → Prop} (hn : ∀ a w, next a w → next' a w) (h : o.wp P a w next Q) : o.wpIn Fence.wide 0 P a w next' Q := by
  refine ⟨fun _ _ => trivial, ?_⟩
  show o.uponIn Fence.wide 0 P a next' Q ((execOp a.eval o).run P w)
  unfold Oper.wp at h
  generalize (execOp a.eval o).run P w = r at h
  unfold Oper.upon at h
  split at h
  · exact hn _ _ h
  · exact hn _ _ h
  · exact hn _ _ h
  · refine ⟨fun e => (by cases e), callsIn_wide.2 (h.mono fun e w'' hq => ?_)⟩
    cases e with
    | returned v => exact hn _ _ hq
    | panicked c => exact hq
    | outgrown => exact hq
  · refine ⟨fun e => (by cases e), fun c cs hr => ?_⟩
    obtain ⟨v, w', h1, h2⟩ := h c cs;exact ⟨v, w', hn _ _ h1, stepsIn_wide.2 h2⟩
  · exact h
  · exact h.elim
theorem region_W {id : Nat} {l : List Oper} (h : wpListIn Fence.wide 0 P l.toArray Q l a w) : (Code.region id l.toArray false).wp P Q a w := wpIn_wide.1 (wpIn_region_lit h)
theorem stW {d : Nat} {op : Op} {v : Value} (hF : Fr n a F) (hd : Gives P ⟨some d, op, t, pos, af, none⟩ a w v) (hn : Nat.blt d n = true)
    (h : ∀ a', Fr n a' ((d, v) :: F) → wpListIn Fence.wide 0 P ops Q rest a' w) : wpListIn Fence.wide 0 P ops Q (⟨some d, op, t, pos, af, none⟩ :: rest) a w :=
  wpListIn_plain rfl fun K hK => op_inW (fun a w h => h) (hd.run K Q fun u w' ⟨h1, h2⟩ => by subst h1; subst h2; exact hK _ _ (h _ (hF.put d _ hn)))
theorem stYield {d l : Nat} {x : Operand} {xs : List Operand} {vs : List Value} {ats : Array TypeId} {R : Value → World → Prop} (hF : Fr n a F) (hx : look F x = some (.func (.yield l) #[] #[])) (hxs : looks F xs vs) (hn : Nat.blt d n = true)
    (hY : YieldAt Fence.wide 0 P l vs.toArray w (fun e W' => ∃ v, e = .returned v ∧ R v W'))
    (h : ∀ v w' a', R v w' → Fr n a' ((d, v) :: F) → wpListIn Fence.wide 0 P ops Q rest a' w') : wpListIn Fence.wide 0 P ops Q (⟨some d, .call { callee := .value x, args := xs.toArray, argTypes := ats }, t, pos, af, none⟩ :: rest) a w :=
  wpListIn_plain rfl fun K hK => by
    obtain ⟨fn, tmps, assign, body, hy, hR⟩ := hY
    refine ⟨fun _ _ => trivial, ?_⟩
    have e : (xs.toArray.map a.eval) = vs.toArray := by rw [← hF.evals hxs]; simp
    have hrun : (execOp a.eval ⟨some d, .call { callee := .value x, args := xs.toArray, argTypes := ats }, t, pos, af, none⟩).run P w = .ok (.round l fn tmps assign body) w := by
      simp [execOp, resolve, hF.eval hx, Deferred.ofValue, invoke, e, hy]
    rw [show ∀ o, Oper.semAt Fence.wide.round a.eval o = execOp a.eval o from fun o => rfl, hrun];refine ⟨fun e => (by cases e), hR.mono fun e w'' ⟨v, he, hv⟩ => ?_⟩;subst he;exact hK _ _ (h _ _ _ hv (hF.put d _ hn))
theorem nilW (h : Q .normal a w) : wpListIn Fence.wide 0 P ops Q [] a w := h
end
end Go.Sw.Rw

namespace Go.Sw.Rw
open Go Go.RowKit
variable {P : Program}
theorem callsW_fr {fn : Func} {w : World} {f : FuncId} {c : Code} {R : Ending → World → Prop} {N : Nat} (vs : List Value) (hf : P.funcs[f]? = some fn) (hb : fn.body = some c) (hN : fn.ntmps = N) (hn : Nat.ble vs.length N = true)
    (h : ∀ a, Fr N a (argF vs 0) → c.wp P (bodyPost P fn R) a w) : CallsIn Fence.wide 0 P f vs.toArray w R := by
  subst hN;exact callsIn_of_wp hf hb trivial (wpIn_wide.2 (h _ (frameA vs rfl hn)))
def digF (s l k i : Nat) : Nat := k / s ^ (l - 1 - i) % s
def digG (s l k j i : Nat) : Nat := if l ≤ i + j then digF s l k i else 0
theorem digG_put {s l k j i : Nat} (hj : j < l) : (if i = l - 1 - j then k / s ^ j % s else digG s l k j i) = digG s l k (j + 1) i := by
  unfold digG
  by_cases e : i = l - 1 - j
  · rw [if_pos e, if_pos (by omega), e]; unfold digF; rw [show l - 1 - (l - 1 - j) = j by omega]
  · rw [if_neg e]
    by_cases h : l ≤ i + j
    · rw [if_pos h, if_pos (by omega)]
    · rw [if_neg h, if_neg (by omega)]
theorem digF_lt {s l k i : Nat} (h : 0 < s) : digF s l k i < s := Nat.mod_lt _ h
theorem div_step {k s j : Nat} : k / s ^ j / s = k / s ^ (j + 1) := by rw [Nat.div_div_eq_div_mul, Nat.pow_succ]
def ArgCh (s l : Nat) (k : Nat) (A B : World) (args : Array Value) : Prop := ∃ bn, args = #[.int .i64 (k : Int), .slice (some ⟨bn, 0, none⟩) l l] ∧ A.heap.size ≤ bn ∧ Blk B bn (numC l (digF s l k))
def CapK (bs bl s l : Nat) (W : World) : Prop := Blk W bs #[.int .i64 (s : Int)] ∧ Blk W bl #[.int .i64 (l : Int)]
theorem argCh_put {s l k : Nat} (A B : World) (args : Array Value) (q : Nat) (o : Loop) (o' : Obj) (h : ArgCh s l k A B args) (hB : B.heap[q]? = some (.loop o)) : ArgCh s l k (A.putObj q o') (B.putObj q o') args := by
  obtain ⟨bn, h1, h2, h3⟩ := h;exact ⟨bn, h1, by simpa using h2, blk_put o' h3 hB (fun _ _ e => by cases e)⟩
end Go.Sw.Rw
