/- Plain lemmas of a small calculus for walks over frames and own memory; no statement of the seat is proved here. -/
import Derived.Test.YtppbjdebomikbaaSw21
set_option linter.unusedVariables false
set_option linter.unusedSimpArgs false
namespace Go.Sw
open Go Go.RowKit
variable {P : Program}
section
variable {n : Nat} {F : List (Nat × Value)} {a : Act} {w w0 : World} {d : Option Tmp} {t : TypeId} {pos : String} {af : Array Edge} {gd : Option (Nat × Bool)} {T : TypeId} {x y : Operand} {X : List Nat} {L : Own} {D : Froz}
end
end Go.Sw

namespace Go.Sw
open Go Go.RowKit
variable {P : Program}
/-! ### Lists of rows: each row a block of its own -/
theorem MemX.addD {X : List Nat} {w0 w w' : World} {L : Own} {D D' : Froz} (h : MemX X w0 w L D) (hb : Ext w w') (hD : ∀ b cs, (b, cs) ∈ D' → w.heap.size ≤ b ∧ Blk w' b cs) : MemX X w0 w' L (D' ++ D) := by
  have h2 := h.ext hb;refine ⟨h2.bel, h2.blk, h2.apart, fun b cs hm => ?_⟩
  rcases List.mem_append.1 hm with hm | hm
  · refine ⟨(hD b cs hm).2, fun k c ds hk e => ?_⟩
    have h3 := (h.blk k c ds hk).2.lt;have h4 := (hD b cs hm).1
    omega
  · exact h2.froz b cs hm
theorem MemX.fzm {X : List Nat} {w0 w : World} {L : Own} {D : Froz} (h : MemX X w0 w L D) {b : Nat} {cs : Array Value} (hk : (b, cs) ∈ D) : Blk w b cs := (h.froz b cs hk).1
def up {α : Type} (f : Nat → α) (m : Nat) (x : α) (i : Nat) : α := if i = m then x else f i
theorem up_eq {α : Type} {f : Nat → α} {m : Nat} {x : α} : up f m x m = x := by simp [up]
theorem up_ne {α : Type} {f : Nat → α} {m i : Nat} {x : α} (h : i ≠ m) : up f m x i = f i := by simp [up, h]
structure RowsD (D : Froz) (N m : Nat) (β κ : Nat → Nat) (C : Nat → Array Value) (f : Nat → Nat → Value) : Prop where
  mem : ∀ i, i < m → (β i, C i) ∈ D
  sl : ∀ i, i < m → SlAt 1 (.slice (some ⟨β i, 0, none⟩) N (κ i)) (some (β i, C i)) N (β i) (κ i) (C i) (f i)
namespace RowsD
variable {D D' : Froz} {N m : Nat} {β κ : Nat → Nat} {C : Nat → Array Value} {f : Nat → Nat → Value}
theorem get (h : RowsD D N m β κ C f) {i : Nat} (hi : i < m) (c : Nat) (hc : c < N) : (C i)[0 + c * 1]? = some (f i c) := (h.sl i hi).get1 c hc
theorem more (h : RowsD D N m β κ C f) (hs : ∀ x ∈ D, x ∈ D') : RowsD D' N m β κ C f := ⟨fun i hi => hs _ (h.mem i hi), h.sl⟩
theorem none : RowsD D N 0 β κ C f := ⟨fun i hi => absurd hi (by omega), fun i hi => absurd hi (by omega)⟩
theorem congr (h : RowsD D N m β κ C f) {g : Nat → Nat → Value} (hf : ∀ i, i < m → ∀ c, c < N → f i c = g i c) : RowsD D N m β κ C g :=
  ⟨h.mem, fun i hi => by
    have := h.sl i hi
    exact ⟨this.val, this.ent, this.le, this.max, this.sz, fun c hc => by rw [← hf i hi c (by omega)]; exact this.get c hc⟩⟩
theorem snoc (h : RowsD D N m β κ C f) {b cap : Nat} {cs : Array Value} {v : Value} {r : Nat → Value} (hm : (b, cs) ∈ D) (hs : SlAt 1 v (some (b, cs)) N b cap cs r) : RowsD D N (m + 1) (up β m b) (up κ m cap) (up C m cs) (up f m r) :=
  ⟨fun i hi => by
    by_cases e : i = m
    · subst e; simp only [up_eq]; exact hm
    · simp only [up_ne e]; exact h.mem i (by omega),
   fun i hi => by
    by_cases e : i = m
    · subst e; simp only [up_eq]; have := hs.val; subst this; exact hs
    · simp only [up_ne e]; exact h.sl i (by omega)⟩
end RowsD
def rowV (β κ : Nat → Nat) (N : Nat) (i : Nat) : Value := .slice (some ⟨β i, 0, none⟩) N (κ i)
def RowsOut (w w' : World) (N k : Nat) (f : Nat → Nat → Value) (u : Value) : Prop := ∃ (D : Froz) (β κ : Nat → Nat) (C : Nat → Array Value) (b cap : Nat) (cs : Array Value),
  (∀ x ds, (x, ds) ∈ D → w.heap.size ≤ x ∧ Blk w' x ds) ∧ RowsD D N k β κ C f ∧ SlAt 1 u (some (b, cs)) k b cap cs (fun i => .slice (some ⟨β i, 0, none⟩) N (κ i)) ∧ (b, cs) ∈ D
theorem SlAt.set {v : Value} {n b cap : Nat} {cs : Array Value} {f g : Nat → Value} {x : Value} (h : SlAt 1 v (some (b, cs)) n b cap cs f) (i : Nat) {o : Nat} (ho : o = i) (hi : i < n) (hg : ∀ j, j < n → g j = if j = i then x else f j) : SlAt 1 v (some (b, cs.setIfInBounds o x)) n b cap (cs.setIfInBounds o x) g := by
  subst ho;refine ⟨h.val, rfl, h.le, h.max, by rw [Array.size_setIfInBounds]; exact h.sz, fun j hj => ?_⟩;rw [Array.getElem?_setIfInBounds];have hsz := h.sz;have hle := h.le
  by_cases e : o = j
  · subst e; rw [if_pos rfl, if_pos (by omega), hg o hi, if_pos rfl]
  · rw [if_neg e, hg j (by omega), if_neg (fun x => e x.symm)]; exact h.get j hj
theorem SlAt.congr {size : Nat} {v : Value} {e : Option (Nat × Array Value)} {n b cap : Nat} {cs : Array Value} {f g : Nat → Value} (h : SlAt size v e n b cap cs f) (hf : ∀ i, i < n * size → f i = g i) : SlAt size v e n b cap cs g :=
  ⟨h.val, h.ent, h.le, h.max, h.sz, fun i hi => by rw [← hf i hi]; exact h.get i hi⟩
theorem OwnSl.congr {size n : Nat} {w w' : World} {v : Value} {f g : Nat → Value} (h : OwnSl size w n f v w') (hf : ∀ i, i < n * size → f i = g i) : OwnSl size w n g v w' := by
  obtain ⟨b, cap, cs, h1, h2, h3⟩ := h;exact ⟨b, cap, cs, h1.congr hf, h2, h3⟩
theorem CallsR.mono {f : FuncId} {args : Array Value} {w : World} {R R' : Value → World → Prop} (h : CallsR P f args w R) (hr : ∀ v w', Ext w w' → R v w' → R' v w') : CallsR P f args w R' :=
  Calls.mono h (fun _ _ ⟨v, he, h1, h2⟩ => ⟨v, he, h1, hr v _ h1 h2⟩)
theorem RowsOut.of {w w' : World} {L : Own} {D : Froz} {N k : Nat} {β κ : Nat → Nat} {C : Nat → Array Value} {f : Nat → Nat → Value} {u : Value} {b cap : Nat} {cs : Array Value} (hM : Mem w w' L D) (hR : RowsD D N k β κ C f)
    (hs : SlAt 1 u (some (b, cs)) k b cap cs (fun i => .slice (some ⟨β i, 0, none⟩) N (κ i))) (hm : (b, cs) ∈ D) (hge : ∀ i, i < k → w.heap.size ≤ β i) (hb : w.heap.size ≤ b) : RowsOut w w' N k f u := by
  refine ⟨(b, cs) :: (List.range k).map (fun i => (β i, C i)), β, κ, C, b, cap, cs, fun x ds hx => ?_, ⟨fun i hi => ?_, hR.sl⟩, hs, List.mem_cons_self ..⟩
  · rcases List.mem_cons.1 hx with e | hx
    · simp only [Prod.mk.injEq] at e; obtain ⟨rfl, rfl⟩ := e; exact ⟨hb, hM.fzm hm⟩
    · obtain ⟨i, hi, e⟩ := List.mem_map.1 hx
      simp only [Prod.mk.injEq] at e; obtain ⟨rfl, rfl⟩ := e;have hi : i < k := by simpa using hi
      exact ⟨hge i hi, hM.fzm (hR.mem i hi)⟩
  · exact List.mem_cons_of_mem _ (List.mem_map.2 ⟨i, by simpa using hi, rfl⟩)
def FreshSl (w0 : World) (L : Own) (N : Nat) (f : Nat → Value) (u : Value) (w' : World) : Prop := ∃ b cap cs, SlAt 1 u (some (b, cs)) N b cap cs f ∧ Blk w' b cs ∧ w0.heap.size ≤ b ∧ ∀ (k : Nat) c ds, L[k]? = some (some (c, ds)) → c ≠ b
def LitF (w0 : World) (L : Own) (N : Nat) (f : Nat → Value) (u : Value) (w' : World) : Prop := ∃ b x, u = .slice (some ⟨b, 0, none⟩) 1 1 ∧ Blk w' b #[x] ∧ FreshSl w0 L N f x w'
theorem FreshSl.last {w0 w w' : World} {L : Own} {N : Nat} {f : Nat → Value} {u : Value} (h : FreshSl w0 L N f u w) (hx : Ext w w') : FreshSl w0 L N f u w' := by
  obtain ⟨b, cap, cs, h1, h2, h3⟩ := h; exact ⟨b, cap, cs, h1, h2.ext hx, h3⟩
theorem LitF.last {w0 w w' : World} {L : Own} {N : Nat} {f : Nat → Value} {u : Value} (h : LitF w0 L N f u w) (hx : Ext w w') : LitF w0 L N f u w' := by
  obtain ⟨b, x, h1, h2, h3⟩ := h; exact ⟨b, x, h1, h2.ext hx, h3.last hx⟩
theorem OwnSl.fresh {X : List Nat} {w0 w w' : World} {L : Own} {D : Froz} {N : Nat} {f : Nat → Value} {u : Value} (hM : MemX X w0 w L D) (h : OwnSl 1 w N f u w') : FreshSl w0 L N f u w' := by
  obtain ⟨b, cap, cs, h1, h2, h3⟩ := h;refine ⟨b, cap, cs, h1, h3, Nat.le_trans hM.bel.size h2, fun k c ds hk e => ?_⟩;have := (hM.blk k c ds hk).2.lt
  omega
section
variable {X : List Nat} {w0 : World} {D : Froz} {l : List Fact} {i : Nat} {L0 L : Own} {o : Oper} {a : Act} {w : World}
end
end Go.Sw

namespace Go.Sw
open Go Go.RowKit
variable {P : Program}
def RowsFr (w0 : World) (L : Own) (N k : Nat) (f : Nat → Nat → Value) (u : Value) (w' : World) : Prop := ∃ (D : Froz) (β κ : Nat → Nat) (C : Nat → Array Value) (b cap : Nat) (cs : Array Value),
  (∀ x ds, (x, ds) ∈ D → w0.heap.size ≤ x ∧ Blk w' x ds ∧ ∀ (k : Nat) c es, L[k]? = some (some (c, es)) → c ≠ x) ∧ RowsD D N k β κ C f ∧ SlAt 1 u (some (b, cs)) k b cap cs (fun i => .slice (some ⟨β i, 0, none⟩) N (κ i)) ∧ (b, cs) ∈ D
theorem RowsFr.last {w0 w w' : World} {L : Own} {N k : Nat} {f : Nat → Nat → Value} {u : Value} (h : RowsFr w0 L N k f u w) (hx : Ext w w') : RowsFr w0 L N k f u w' := by
  obtain ⟨D, β, κ, C, b, cap, cs, h1, h2⟩ := h;exact ⟨D, β, κ, C, b, cap, cs, fun x ds hm => ⟨(h1 x ds hm).1, (h1 x ds hm).2.1.ext hx, (h1 x ds hm).2.2⟩, h2⟩
theorem RowsOut.fresh {X : List Nat} {w0 w w' : World} {L : Own} {D : Froz} {N k : Nat} {f : Nat → Nat → Value} {u : Value} (hM : MemX X w0 w L D) (h : RowsOut w w' N k f u) : RowsFr w0 L N k f u w' := by
  obtain ⟨D', β, κ, C, b, cap, cs, h1, h2⟩ := h;refine ⟨D', β, κ, C, b, cap, cs, fun x ds hm => ⟨Nat.le_trans hM.bel.size (h1 x ds hm).1, (h1 x ds hm).2, fun k c es hk e => ?_⟩, h2⟩;have := (hM.blk k c es hk).2.lt;have := (h1 x ds hm).1
  omega
end Go.Sw

namespace Go.Sw
open Go Go.RowKit
variable {P : Program}
section
variable {ops : List Oper} {Q : Exit → Act → World → Prop} {n : Nat} {F : List (Nat × Value)}
def edgesBackB : List Oper → Nat → Bool
  | [], _ => true
  | o :: r, i => (o.after.toList.all fun e => !(Region.binds .any e) || Nat.blt e.on i) && edgesBackB r (i + 1)
theorem edgesBackB_spec : ∀ {l : List Oper} {i : Nat}, edgesBackB l i = true → ∀ j o, l[j]? = some o → ∀ e ∈ o.after, Region.binds .any e = true → e.on < i + j
  | [], _, _, j, o, h, _, _ => by simp at h
  | x :: r, i, hb, j, o, h, e, he => by
    intro hbnd
    simp only [edgesBackB, Bool.and_eq_true, List.all_eq_true] at hb
    cases j with
    | zero => simp at h; subst h; have := hb.1 e (by simpa using he); rw [hbnd] at this; simpa using this
    | succ j => have := edgesBackB_spec hb.2 j o (by simpa using h) e he hbnd; omega
def tailOkB (ops : List Oper) (k : Nat) : Bool := edgesBackB ops 0 && bitsFrom (masks ops []) ops.length ops.length k
def dstsOkS (n : Nat) (F : List (Nat × Value)) : List Oper → List Nat → Bool
  | [], _ => true
  | o :: r, seen => o.guard.isNone && (match o.dst with
    | some d => Nat.blt d n && (lk F d).isNone && !(memNat d seen) && dstsOkS n F r (d :: seen)
    | none => dstsOkS n F r seen)
theorem dstsOkS_spec : ∀ {l : List Oper} {seen : List Nat}, dstsOkS n F l seen = true → ∀ (i : Nat) (o : Oper), l[i]? = some o → o.guard = none ∧ ∀ d, o.dst = some d → d < n ∧ lk F d = none ∧ d ∉ seen ∧ (∀ (j : Nat) (o' : Oper), j < i → l[j]? = some o' → o'.dst ≠ some d)
  | [], _, _, i, o, h => by simp at h
  | x :: r, seen, hb, i, o, h => by
    simp only [dstsOkS, Bool.and_eq_true] at hb
    obtain ⟨hgn, hb⟩ := hb
    cases hx : x.dst with
    | none =>
      simp only [hx] at hb
      cases i with
      | zero =>
        simp at h; subst h
        exact ⟨by simpa using hgn, fun d hd => by rw [hx] at hd; cases hd⟩
      | succ i =>
        obtain ⟨g1, g2⟩ := dstsOkS_spec hb i o (by simpa using h)
        refine ⟨g1, fun d hd => ⟨(g2 d hd).1, (g2 d hd).2.1, (g2 d hd).2.2.1, fun j o' hj ho' => ?_⟩⟩
        cases j with
        | zero => simp at ho'; subst ho'; rw [hx]; exact fun e => by cases e
        | succ j => exact (g2 d hd).2.2.2 j o' (by omega) (by simpa using ho')
    | some d0 =>
      simp only [hx, Bool.and_eq_true, Bool.not_eq_true', Option.isNone_iff_eq_none] at hb
      obtain ⟨⟨⟨h1, h2⟩, h3⟩, h4⟩ := hb
      cases i with
      | zero =>
        simp at h; subst h
        refine ⟨by simpa using hgn, fun d hd => ?_⟩
        rw [hx] at hd; obtain rfl := Option.some.inj hd
        exact ⟨Nat.blt_eq.mp h1, h2, (fun hm => by rw [memNat_iff.2 hm] at h3; cases h3), (fun j o' hj => by omega)⟩
      | succ i =>
        obtain ⟨g1, g2⟩ := dstsOkS_spec h4 i o (by simpa using h)
        refine ⟨g1, fun d hd => ⟨(g2 d hd).1, (g2 d hd).2.1, fun hm => (g2 d hd).2.2.1 (List.mem_cons_of_mem _ hm), fun j o' hj ho' => ?_⟩⟩
        cases j with
        | zero => simp at ho'; subst ho'; rw [hx]; intro e; obtain rfl := Option.some.inj e; exact (g2 _ hd).2.2.1 (List.mem_cons_self ..)
        | succ j => exact (g2 d hd).2.2.2 j o' (by omega) (by simpa using ho')
def DepsS (ops : List Oper) (k s : Nat) (φ : Nat → Value → Prop) (o : Oper) (a : Act) : Prop :=
  ∀ j, Nat.blt j k = true → Nat.beq j s = false → edgeTo o j = true → φ j (a.tmps.getD (dstOf ops j) undef)
def edgeS (ops : List Oper) (s i : Nat) : Bool := match ops[s]? with | some o => edgeTo o i | none => false
def StepsS (P : Program) (ops : List Oper) (k s n : Nat) (F : List (Nat × Value)) (S : Bool → World → Prop) (φ : Nat → Value → Prop) : List Oper → Nat → Prop
  | [], _ => True
  | o :: r, i => (if Nat.beq i s = true then ∀ a w, Fr n a F → S false w → DepsS ops k s φ o a → Does P o a w (fun _ w' => S true w')
      else ∀ a w b, Fr n a F → S b w → (edgeS ops s i = true → b = false) → DepsS ops k s φ o a → Does P o a w (fun v w' => S b w' ∧ φ i v)) ∧ StepsS P ops k s n F S φ r (i + 1)
theorem StepsS.get {k s : Nat} {S : Bool → World → Prop} {φ : Nat → Value → Prop} : ∀ {l : List Oper} {i : Nat}, StepsS P ops k s n F S φ l i → ∀ (j : Nat) (o : Oper), l[j]? = some o →
    (if Nat.beq (i + j) s = true then ∀ a w, Fr n a F → S false w → DepsS ops k s φ o a → Does P o a w (fun _ w' => S true w')
      else ∀ a w b, Fr n a F → S b w → (edgeS ops s (i + j) = true → b = false) → DepsS ops k s φ o a → Does P o a w (fun v w' => S b w' ∧ φ (i + j) v))
  | [], _, _, j, o, h => by simp at h
  | x :: r, i, hs, j, o, h => by
    cases j with
    | zero => simp at h; subst h; exact hs.1
    | succ j => have := hs.2.get j o (by simpa using h); rwa [show i + 1 + j = i + (j + 1) by omega] at this
theorem c_drawS {S : Bool → World → Prop} {id : Nat} (k s : Nat) {a : Act} {w : World} (hm : P.follows .mixedOrders = true) (hk : tailOkB ops k = true) (hsk : Nat.blt s k = true) (hsl : Nat.blt s ops.length = true) (hF : Fr n a F) (hdst : dstsOkS n F (ops.take k) [] = true) (hdall : ∀ (j : Nat) (o : Oper), (ops.take k)[j]? = some o → j ≠ s → o.dst ≠ none) (hS : S false w)
    (hdr : ∀ b w, S b w → S b w.drew) (φ : Nat → Value → Prop)
    (hsteps : StepsS P ops k s n F S φ (ops.take k) 0)
    (hend : ∀ a w, Fr n a F → S true w → (∀ i, Nat.blt i k = true → Nat.blt i ops.length = true → Nat.beq i s = false → φ i (a.tmps.getD (dstOf ops i) undef)) → wpList P ops.toArray Q (ops.drop k) a w) :
    (Code.region id ops.toArray true).wp P Q a w := by
  refine wp_region_any hm ?_;simp only [tailOkB, Bool.and_eq_true] at hk;obtain ⟨hback, htail⟩ := hk;have hge : ∀ (i : Nat), ops.toArray[i]? = ops[i]? := fun i => by simp
  have hreach : ∀ i j, k ≤ i → i < ops.length → j < i → Reach ops i j := fun i j h1 h2 h3 =>
    masks_spec ops [] (fun i => by simp) (fun m j h => by simp at h) i j (bitsFrom_spec htail i h1 h2 (by omega) j h3)
  have edge_listed : ∀ {i : Nat} {o : Oper} {listed : Array Bool} {j : Nat}, i ∈ Region.ready .any ops.toArray listed → ops[i]? = some o → edgeTo o j = true → listed.getD j false = true := by
    intro i o listed j hi ho he;obtain ⟨_, o', ho', hall⟩ := mem_ready.1 hi;rw [hge, ho] at ho';obtain rfl := Option.some.inj ho';simp only [edgeTo, List.any_eq_true, Bool.and_eq_true] at he;obtain ⟨e, hm', hb, hj⟩ := he;obtain rfl := Nat.eq_of_beq_eq_true hj;exact hall e (by simpa using hm') hb
  have reach_listed : ∀ {listed : Array Bool}, (∀ (j : Nat) o, ops[j]? = some o → listed.getD j false = true → ∀ e ∈ o.after, Region.binds .any e = true → listed.getD e.on false = true) → ∀ i j, Reach ops i j → (∀ o m, ops[i]? = some o → edgeTo o m = true → listed.getD m false = true) → listed.getD j false = true := by
    intro listed hcl i j hr
    induction hr with
    | one ho he => intro h; exact h _ _ ho he
    | more ho he _ ih =>
      intro h;have hm' := h _ _ ho he;refine ih (fun o m ho2 he2 => ?_);simp only [edgeTo, List.any_eq_true, Bool.and_eq_true] at he2;obtain ⟨e, hin, hb, hj⟩ := he2;obtain rfl := Nat.eq_of_beq_eq_true hj;exact hcl _ o ho2 hm' e (by simpa using hin) hb
  -- the tail
  have tail : ∀ (f m : Nat) (listed : Array Bool) (a : Act) (w : World), k ≤ m → ops.length - m ≤ f → (∀ j, j < m → j < ops.length → listed.getD j false = true) → (∀ j, m ≤ j → j < ops.length → listed.getD j true = false) →
      wpList P ops.toArray Q (ops.drop m) a w → wpAny P .any ops.toArray Q f listed a w := by
    intro f
    induction f with
    | zero =>
      intro m listed a w hkm hf h1 h2 h;rw [List.drop_eq_nil_of_le (by omega)] at h;refine ⟨?_, h⟩
      cases hr : Region.ready .any ops.toArray listed with
      | nil => rfl
      | cons i r =>
        obtain ⟨g1, o, ho, _⟩ := mem_ready.1 (hr ▸ List.mem_cons_self .. : i ∈ Region.ready .any ops.toArray listed);rw [hge] at ho;have hi := (List.getElem?_eq_some_iff.1 ho).1;have := h1 i (by omega) hi
        simp [Array.getD_eq_getD_getElem?] at this g1
        cases hh : listed[i]? <;> simp [hh] at this g1
        rw [this] at g1; cases g1
    | succ f ih =>
      intro m listed a w hkm hf h1 h2 h;have only : ∀ i ∈ Region.ready .any ops.toArray listed, i = m := by
        intro i hi;obtain ⟨g1, o, ho, hall⟩ := mem_ready.1 hi;have ho' := ho;rw [hge] at ho';have hil := (List.getElem?_eq_some_iff.1 ho').1
        by_cases hlt : i < m
        · have := h1 i hlt hil
          simp [Array.getD_eq_getD_getElem?] at this g1
          cases hh : listed[i]? <;> simp [hh] at this g1
          rw [this] at g1; cases g1
        · by_cases e : i = m
          · exact e
          · have := reach_listed (listed := listed) (fun j o hj hl e he hbnd => by
                have hjl := (List.getElem?_eq_some_iff.1 hj).1;have hjm : j < m := by
                  rcases Nat.lt_or_ge j m with h | h
                  · exact h
                  · have h3 := h2 j h hjl
                    simp [Array.getD_eq_getD_getElem?] at hl h3
                    cases hh : listed[j]? <;> simp [hh] at hl h3
                    rw [hl] at h3; cases h3
                have := edgesBackB_spec hback j o hj e he hbnd;exact h1 e.on (by omega) (by omega)) i m (hreach i m (by omega) hil (by omega)) (fun o2 q ho2 he2 => by
                rw [ho'] at ho2; obtain rfl := Option.some.inj ho2; exact edge_listed hi ho' he2)
            have h3 := h2 m (Nat.le_refl _) (by omega)
            simp [Array.getD_eq_getD_getElem?] at this h3
            cases hh : listed[m]? <;> simp [hh] at this h3
            rw [this] at h3; cases h3
      refine ⟨fun hr => ?_, fun i hi => ?_⟩
      · by_cases hml : m < ops.length
        · exfalso
          have : m ∈ Region.ready .any ops.toArray listed := by
            refine mem_ready.2 ⟨h2 m (Nat.le_refl _) hml, ops[m], by simp [hml], fun e he hbnd => ?_⟩;have := edgesBackB_spec hback m ops[m] (by simp [hml]) e he hbnd;exact h1 e.on (by omega) (by omega)
          rw [hr] at this; cases this
        · rw [List.drop_eq_nil_of_le (by omega)] at h; exact h
      · obtain rfl := only i hi
        obtain ⟨g1, o, ho, _⟩ := mem_ready.1 hi;rw [hge] at ho;have hil := (List.getElem?_eq_some_iff.1 ho).1;have hdrop : ops.drop i = o :: ops.drop (i + 1) := by
          rw [List.drop_eq_getElem_cons hil]; congr 1; exact (List.getElem?_eq_some_iff.1 ho).2
        rw [hdrop] at h;have K : ∀ a w, wpList P ops.toArray Q (ops.drop (i + 1)) a w → wpAny P .any ops.toArray Q f (listed.setIfInBounds i true) a w := by
          intro a w hh;refine ih (i + 1) _ a w (by omega) (by omega) (fun j hj hjl => ?_) (fun j hj hjl => ?_) hh
          · by_cases e : i = j
            · subst e
              have hsz : i < listed.size := by
                rcases Nat.lt_or_ge i listed.size with h' | h'
                · exact h'
                · simp [Array.getElem?_eq_none h'] at g1
              simp [hsz]
            · rw [getD_set_ne false e]; exact h1 j (by omega) hjl
          · rw [getD_set_ne true (by omega)]; exact h2 j (by omega) hjl
        unfold wpOp
        rw [hge, ho]
        unfold wpList at h
        show (if Region.wanted o (yielded ops.toArray a.tmps) then _ else _)
        split
        · rename_i hw
          rw [if_pos hw] at h;exact h.imp (Oper.wp_mono K) (fun x => x)
        · rename_i hw
          rw [if_neg hw] at h;exact K _ _ h
  -- the head
  have hskl : s < ops.length := Nat.blt_eq.mp hsl;have hsk' : s < k := Nat.blt_eq.mp hsk;have hnodst : ∀ (j : Nat) (o : Oper), (ops.take k)[j]? = some o → j ≠ s → o.dst ≠ none := fun j o hj hne => hdall j o hj hne;have head : ∀ (f : Nat) (listed : Array Bool) (a : Act) (w : World), listed.size = ops.length → (List.range ops.length).countP (fun i => !listed.getD i true) ≤ f → (∀ j, k ≤ j → j < ops.length → listed.getD j true = false) → (∀ (j : Nat) o, ops[j]? = some o → listed.getD j false = true → ∀ e ∈ o.after, Region.binds .any e = true → listed.getD e.on false = true) →
      Fr n a F → S (listed.getD s false) w → (∀ i, i < k → i < ops.length → i ≠ s → listed.getD i false = true → φ i (a.tmps.getD (dstOf ops i) undef)) → wpAny P .any ops.toArray Q f listed a w := by
    intro f
    induction f with
    | zero =>
      intro listed a w hsz hc h2 hcl hF hS hφ';have all : ∀ j, j < ops.length → listed.getD j true = true := by
        intro j hj;have h0 : (List.range ops.length).countP (fun i => !listed.getD i true) = 0 := by omega
        have := List.countP_eq_zero.1 h0 j (by simpa using hj)
        simpa using this
      have all' : ∀ j, j < ops.length → listed.getD j false = true := by
        intro j hj;have := all j hj;have hjs : j < listed.size := by omega
        simpa [Array.getD_eq_getD_getElem?, hjs] using this
      have hlen : ops.length ≤ k := by
        rcases Nat.lt_or_ge k ops.length with h | h
        · have e1 := h2 k (Nat.le_refl _) h
          rw [all k h] at e1; cases e1
        · exact h
      refine tail 0 k listed a w (Nat.le_refl _) (by omega) (fun j _ hj => all' j hj) (fun j hj hjl => by omega) <| hend a w hF (by rw [all' s hskl] at hS; exact hS) (fun i hi hil hne => hφ' i (Nat.blt_eq.mp hi) (Nat.blt_eq.mp hil) (fun e => by subst e; simp at hne) (all' i (Nat.blt_eq.mp hil)))
    | succ f ih =>
      intro listed a w hsz hc h2 hcl hF hS hφ'
      by_cases all : ∀ j, j < k → j < ops.length → listed.getD j false = true
      · refine tail (f + 1) k listed a w (Nat.le_refl _) ?_ all h2 (hend a w hF (by rw [all s hsk' hskl] at hS; exact hS) (fun i hi hil hne => hφ' i (Nat.blt_eq.mp hi) (Nat.blt_eq.mp hil) (fun e => by subst e; simp at hne) (all i (Nat.blt_eq.mp hi) (Nat.blt_eq.mp hil))))
        -- as many are left as stand behind k
        have hge' : ∀ (m : Nat), m ≤ ops.length → m - k ≤ (List.range m).countP (fun i => !listed.getD i true) := by
          intro m
          induction m with
          | zero => intro _; simp
          | succ m ihm =>
            intro hm';have := ihm (by omega);rw [List.range_succ, List.countP_append]
            by_cases hkm : k ≤ m
            · have e1 := h2 m hkm (by omega)
              have e2 : List.countP (fun i => !listed.getD i true) [m] = 1 := by rw [List.countP_cons, e1]; rfl
              omega
            · omega
        have := hge' ops.length (Nat.le_refl _)
        omega
      · have step : ∀ i ∈ Region.ready .any ops.toArray listed, i < k := by
          intro i hi
          rcases Nat.lt_or_ge i k with h | h
          · exact h
          · exfalso
            obtain ⟨g1, o, ho, _⟩ := mem_ready.1 hi;rw [hge] at ho;have hil := (List.getElem?_eq_some_iff.1 ho).1;exact all (fun j hj hjl => reach_listed hcl i j (hreach i j h hil (by omega)) (fun o2 q ho2 he2 => by
              rw [ho] at ho2; obtain rfl := Option.some.inj ho2; exact edge_listed hi ho he2))
        refine ⟨fun hr => ?_, fun i hi => ?_⟩
        · exfalso
          apply all
          intro j
          induction j using Nat.strongRecOn with
          | _ j ihj =>
            intro hjk hjl
            cases hl : listed.getD j false with
            | true => rfl
            | false =>
              have hjs : j < listed.size := by omega
              have hm' : j ∈ Region.ready .any ops.toArray listed := by
                refine mem_ready.2 ⟨?_, ops[j], by simp [hjl], fun e he hbnd => ?_⟩
                · simpa [Array.getD_eq_getD_getElem?, hjs] using hl
                · have := edgesBackB_spec hback j ops[j] (by simp [hjl]) e he hbnd
                  exact ihj e.on (by omega) (by omega) (by omega)
              rw [hr] at hm'; cases hm'
        · have hik := step i hi
          obtain ⟨g1, o, ho, hall'⟩ := mem_ready.1 hi;rw [hge] at ho;have hil := (List.getElem?_eq_some_iff.1 ho).1;have hti : (ops.take k)[i]? = some o := by rw [List.getElem?_take, if_pos hik]; exact ho
          obtain ⟨hd6, hdd⟩ := dstsOkS_spec hdst i o hti;have hnl : listed.getD i false = false := by
            have : i < listed.size := by omega
            simp [Array.getD_eq_getD_getElem?, this] at g1 ⊢; exact g1
          have hdep : DepsS ops k s φ o a := fun j hj hjs he => by
            have hj' : j < k := Nat.blt_eq.mp hj;have hl := edge_listed hi ho he;have hjl : j < ops.length := by
              rcases Nat.lt_or_ge j listed.size with h | h
              · omega
              · simp [Array.getElem?_eq_none h] at hl
            exact hφ' j hj' hjl (fun e => by subst e; simp at hjs) hl
          -- what the rest needs
          have rest : ∀ (v : Value) (w' : World), S ((listed.setIfInBounds i true).getD s false) w' → (i ≠ s → φ i v) → wpAny P .any ops.toArray Q f (listed.setIfInBounds i true) (a.put o.dst v) w' := by
            intro v w' hS' hvi;have hF' : Fr n (a.put o.dst v) F := by
              cases hd : o.dst with
              | none => exact hF
              | some d =>
                obtain ⟨hd2, hd3, _⟩ := hdd d hd;have := hF.put d v (Nat.blt_eq.mpr hd2);refine ⟨this.defers, this.size, fun t u ht => this.get t u ?_⟩;simp only [lk];have hne : ¬ d = t := fun e => by subst e; rw [hd3] at ht; cases ht
                rw [beqF hne]; exact ht
            refine ih _ _ _ (by simpa using hsz) ?_ (fun j hj hjl => ?_) (fun j oj hoj hl e he hb => ?_) hF' hS' (fun j hj hjl hjs hl => ?_)
            · have : (List.range ops.length).countP (fun j => !(listed.setIfInBounds i true).getD j true) < (List.range ops.length).countP (fun j => !listed.getD j true) := by
                refine countP_lt (fun x hx => ?_) ⟨i, by simpa using hil, by simpa using g1, ?_⟩
                · by_cases e : i = x
                  · subst e; simp only [g1]; rfl
                  · rw [getD_set_ne true e] at hx; exact hx
                · have : i < listed.size := by omega
                  simp [this]
              omega
            · rw [getD_set_ne true (by omega)]; exact h2 j hj hjl
            · refine getD_set_true ?_
              by_cases ej : j = i
              · subst ej
                rw [ho] at hoj; obtain rfl := Option.some.inj hoj;exact hall' e he hb
              · rw [getD_set_ne false (Ne.symm ej)] at hl
                exact hcl j oj hoj hl e he hb
            · by_cases e : j = i
              · subst e
                have hv := hvi hjs
                cases hd : o.dst with
                | none => simp only [dstOf, ho, Option.bind_some, hd] at hv ⊢; exact absurd hd (by
                    intro _;exact hnodst j o hti hjs hd)
                | some d =>
                  obtain ⟨hd2, _⟩ := hdd d hd;have hdo : dstOf ops j = d := by simp [dstOf, ho, hd]
                  rw [hdo];have : (a.put (some d) v).tmps.getD d undef = v := by simp [Act.put, hF.size, hd2]
                  rw [this]; exact hv
              · rw [getD_set_ne false (Ne.symm e)] at hl
                have hold := hφ' j hj hjl hjs hl
                cases hd : o.dst with
                | none => exact hold
                | some d =>
                  obtain ⟨hd2, hd3, _, hd5⟩ := hdd d hd;have hoj : ops[j]? = some ops[j] := by simp [hjl]
                  have htj : (ops.take k)[j]? = some ops[j] := by rw [List.getElem?_take, if_pos hj]; exact hoj
                  have hdn : dstOf ops j ≠ d := by
                    intro e2
                    cases hdj : (ops[j]).dst with
                    | none => exact hnodst j _ htj hjs hdj
                    | some d' =>
                      have : dstOf ops j = d' := by simp only [dstOf, hoj, Option.bind_some, hdj, Option.getD_some]
                      rw [this] at e2; subst e2
                      rcases Nat.lt_or_gt_of_ne e with h | h
                      · exact hd5 j ops[j] h htj hdj
                      · exact ((dstsOkS_spec hdst j ops[j] htj).2 _ hdj).2.2.2 i o h hti hd
                  have : (a.put (some d) v).tmps.getD (dstOf ops j) undef = a.tmps.getD (dstOf ops j) undef := by
                    simp [Act.put, Array.getElem?_setIfInBounds_ne (Ne.symm hdn)]
                  rw [this]; exact hold
          have hdoes := StepsS.get hsteps i o hti;rw [Nat.zero_add] at hdoes
          unfold wpOp
          rw [hge, ho]
          show (if Region.wanted o (yielded ops.toArray a.tmps) then _ else _)
          rw [if_pos (by simp [Region.wanted, hd6])]
          by_cases his : i = s
          · subst his
            rw [if_pos (by simp)] at hdoes;rw [hnl] at hS;refine .inl ((hdoes a w hF hS hdep).run _ _ fun v w' hv => rest v w' ?_ (fun e => absurd rfl e));have : i < listed.size := by omega
            have e1 : (listed.setIfInBounds i true).getD i false = true := by simp [this]
            rw [e1]; exact hv
          · rw [if_neg (by simpa using his)] at hdoes
            refine .inl ((hdoes a w (listed.getD s false) hF hS (fun he => ?_) hdep).run _ _ fun v w' hv => rest v w' ?_ (fun _ => hv.2))
            · cases hb : listed.getD s false with
              | false => rfl
              | true =>
                exfalso
                unfold edgeS at he
                have hos : ops[s]? = some ops[s] := by simp [hskl]
                rw [hos] at he;simp only [edgeTo, List.any_eq_true, Bool.and_eq_true] at he;obtain ⟨e, hin, hb2, hj⟩ := he;have hj := Nat.eq_of_beq_eq_true hj;have := hcl s _ hos hb e (by simpa using hin) hb2;rw [hj, hnl] at this; cases this
            · rw [getD_set_ne false his]; exact hv.1
  refine head ops.toArray.size (Array.replicate ops.toArray.size false) a _ (by simp) ?_ (fun j _ hj => by simp [hj]) (fun j o hj hl e he hbnd => by have hjl := (List.getElem?_eq_some_iff.1 hj).1; simp [hjl] at hl) hF (by simp [hskl]; exact hdr _ _ hS) (fun i _ hi _ hl => by simp [hi] at hl)
  · have := List.countP_le_length (l := List.range ops.length) (p := fun i => !(Array.replicate ops.toArray.size false).getD i true)
    simpa using this
end
end Go.Sw

/-! Sums, rows modulo p, reduced lists of rows: plain lemmas, no program. -/
namespace Go.Ech
def sI (f : Nat → Int) : Nat → Int
  | 0 => 0
  | n + 1 => sI f n + f n
theorem sI_congr {f g : Nat → Int} {n : Nat} (h : ∀ i, i < n → f i = g i) : sI f n = sI g n := by
  induction n with
  | zero => rfl
  | succ n ih => simp only [sI]; rw [ih (fun i hi => h i (by omega)), h n (by omega)]
theorem sI_zero {f : Nat → Int} {n : Nat} (h : ∀ i, i < n → f i = 0) : sI f n = 0 := by
  induction n with
  | zero => rfl
  | succ n ih => simp only [sI]; rw [ih (fun i hi => h i (by omega)), h n (by omega)]; rfl
theorem sI_one {f : Nat → Int} {n a : Nat} (ha : a < n) (h : ∀ i, i < n → i ≠ a → f i = 0) : sI f n = f a := by
  induction n with
  | zero => omega
  | succ n ih =>
    simp only [sI]
    by_cases e : a = n
    · subst e; rw [sI_zero (fun i hi => h i (by omega) (by omega))]; omega
    · rw [ih (by omega) (fun i hi => h i (by omega)), h n (by omega) (by omega)]; omega
theorem sI_add (f g : Nat → Int) (n : Nat) : sI (fun i => f i + g i) n = sI f n + sI g n := by
  induction n with
  | zero => rfl
  | succ n ih => simp only [sI]; rw [ih]; omega
theorem sI_mul (k : Int) (f : Nat → Int) (n : Nat) : sI (fun i => k * f i) n = k * sI f n := by
  induction n with
  | zero => simp [sI]
  | succ n ih => simp only [sI]; rw [ih, Int.mul_add]
theorem sI_dvd {p : Int} {f : Nat → Int} {n : Nat} (h : ∀ i, i < n → p ∣ f i) : p ∣ sI f n := by
  induction n with
  | zero => exact Int.dvd_zero p
  | succ n ih => exact Int.dvd_add (ih fun i hi => h i (by omega)) (h n (by omega))
def dot (N : Nat) (r x : Nat → Int) : Int := sI (fun c => r c * x c) N
abbrev ci (r : Nat → Nat) : Nat → Int := fun c => (r c : Int)
def Ker (p N : Nat) (M : Nat → Nat → Nat) (m : Nat) (x : Nat → Int) : Prop := ∀ i, i < m → (p : Int) ∣ dot N (ci (M i)) x
theorem dot_lin {p N : Nat} {r s t x : Nat → Int} {k : Int} (h : ∀ c, c < N → (p : Int) ∣ t c - (r c + k * s c)) : (p : Int) ∣ dot N t x - (dot N r x + k * dot N s x) := by
  unfold dot
  have e : sI (fun c => t c * x c) N - (sI (fun c => r c * x c) N + k * sI (fun c => s c * x c) N) = sI (fun c => (t c - (r c + k * s c)) * x c) N := by
    rw [← sI_mul, ← sI_add];have : sI (fun c => t c * x c) N = sI (fun c => (t c - (r c + k * s c)) * x c) N + sI (fun c => r c * x c + k * (s c * x c)) N := by
      rw [← sI_add]; exact sI_congr fun c _ => by grind
    omega
  rw [e];exact sI_dvd fun c hc => Int.dvd_mul_of_dvd_left (h c hc)
theorem dvd_iff_sub {p a b : Int} (h : p ∣ a - b) : p ∣ a ↔ p ∣ b := by
  constructor
  · intro ha; have := Int.dvd_sub ha h; rwa [show a - (a - b) = b by omega] at this
  · intro hb; have := Int.dvd_add hb h; rwa [show b + (a - b) = a by omega] at this
structure Rref (p N : Nat) (E : Nat → Nat → Nat) (k : Nat) (ld : Nat → Nat) : Prop where
  lt : ∀ i, i < k → ld i < N
  mono : ∀ i j, i < j → j < k → ld i < ld j
  one : ∀ i, i < k → E i (ld i) = 1
  left : ∀ i, i < k → ∀ c, c < ld i → E i c = 0
  zero : ∀ i j, i < k → j < k → i ≠ j → E j (ld i) = 0
  small : ∀ i, i < k → ∀ c, c < N → E i c < p
def isLd (k : Nat) (ld : Nat → Nat) (c : Nat) : Prop := ∃ i, i < k ∧ ld i = c
instance (k : Nat) (ld : Nat → Nat) (c : Nat) : Decidable (isLd k ld c) := inferInstanceAs (Decidable (∃ i, i < k ∧ ld i = c))
def ldAt (k : Nat) (ld : Nat → Nat) (c : Nat) : Option Nat := (List.range k).find? (fun i => ld i == c)
def free (E : Nat → Nat → Nat) (k : Nat) (ld : Nat → Nat) (c : Nat) : Nat → Int := fun d =>
  if d = c then 1 else match ldAt k ld d with
    | some j => -(E j c : Int)
    | none => 0
namespace Rref
variable {p N k : Nat} {E : Nat → Nat → Nat} {ld : Nat → Nat}
theorem inj (h : Rref p N E k ld) {i j : Nat} (hi : i < k) (hj : j < k) (e : ld i = ld j) : i = j := by
  rcases Nat.lt_trichotomy i j with hh | hh | hh
  · have := h.mono i j hh hj; omega
  · exact hh
  · have := h.mono j i hh hi; omega
theorem ker_lead (h : Rref p N E k ld) {x : Nat → Int} (hx : Ker p N E k x) {i : Nat} (hi : i < k) (hz : ∀ d, ld i < d → d < N → x d = 0) : (p : Int) ∣ x (ld i) := by
  have := hx i hi
  unfold dot at this
  rw [sI_one (h.lt i hi)] at this
  · simpa [ci, h.one i hi] using this
  · intro d hd hne
    rcases Nat.lt_or_gt_of_ne hne with hh | hh
    · simp [ci, h.left i hi d hh]
    · simp [hz d hh hd]
end Rref
end Go.Ech
