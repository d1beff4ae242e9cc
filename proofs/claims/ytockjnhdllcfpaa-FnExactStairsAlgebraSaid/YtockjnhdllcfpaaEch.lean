/- Plain lemmas of a small calculus for walks over frames and own memory; no statement of the seat is proved here. -/
import Derived.Test.YtockjnhdllcfpaaSw21
set_option linter.unusedVariables false
set_option linter.unusedSimpArgs false
namespace Go.Sw
open Go Go.RowKit
variable {P : Program}
section
variable {n : Nat} {F : List (Nat × Value)} {a : Act} {w w0 : World} {d : Option Tmp} {t : TypeId} {pos : String} {af : Array Edge} {gd : Option (Nat × Bool)} {T : TypeId} {x y : Operand} {X : List Nat} {L : Own} {D : Froz}
theorem d_makeC {len : Nat} {cs : Array Value} {e : TypeId} (k : Nat) (hM : MemX X w0 w L D) (hF : Fr n a F) (hx : look F x = some (.int .i64 (len : Int))) (hy : look F y = some (.int .i64 (len : Int)))
    (hrun : ∀ w, (Instr.makeSlice T (.int .i64 (len : Int)) (.int .i64 (len : Int))).run P w = .ok (.slice (some ⟨w.heap.size, 0, none⟩) len len) (w.alloc (.cells cs e))) :
    Does P ⟨d, .makeSlice T x y, t, pos, af, gd⟩ a w (fun u w' => ∃ b, u = .slice (some ⟨b, 0, none⟩) len len ∧ MemX X w0 w' (L.set k (some (b, cs))) D ∧ Ext w w') :=
  ⟨fun K Q hk => by
    have := hk _ (w.alloc (.cells cs e)) ⟨w.heap.size, rfl, hM.fill (Ext.alloc _ _) k (Blk.new _ _ _) (Nat.le_refl _), Ext.alloc _ _⟩
    unfold Oper.wp execOp
    simp only [hF.eval hx, hF.eval hy, Sem.run_bind, hrun, Result.andThen_ok, Sem.run_pure]
    exact this⟩
end
end Go.Sw

namespace Go.Sw
open Go Go.RowKit
variable {P : Program}
/-! ### Lists of rows: each row a block of its own -/
theorem MemX.addD {X : List Nat} {w0 w w' : World} {L : Own} {D D' : Froz} (h : MemX X w0 w L D) (hb : Ext w w') (hD : ∀ b cs, (b, cs) ∈ D' → w.heap.size ≤ b ∧ Blk w' b cs) : MemX X w0 w' L (D' ++ D) := by
  have h2 := h.ext hb;refine ⟨h2.bel, h2.blk, h2.apart, fun b cs hm => ?_⟩
  rcases List.mem_append.1 hm with hm | hm
  · refine ⟨(hD b cs hm).2, fun k c ds hk e => ?_⟩
    have h3 := (h.blk k c ds hk).2.lt;have h4 := (hD b cs hm).1
    omega
  · exact h2.froz b cs hm
theorem MemX.fzm {X : List Nat} {w0 w : World} {L : Own} {D : Froz} (h : MemX X w0 w L D) {b : Nat} {cs : Array Value} (hk : (b, cs) ∈ D) : Blk w b cs := (h.froz b cs hk).1
def up {α : Type} (f : Nat → α) (m : Nat) (x : α) (i : Nat) : α := if i = m then x else f i
theorem up_eq {α : Type} {f : Nat → α} {m : Nat} {x : α} : up f m x m = x := by simp [up]
theorem up_ne {α : Type} {f : Nat → α} {m i : Nat} {x : α} (h : i ≠ m) : up f m x i = f i := by simp [up, h]
structure RowsD (D : Froz) (N m : Nat) (β κ : Nat → Nat) (C : Nat → Array Value) (f : Nat → Nat → Value) : Prop where
  mem : ∀ i, i < m → (β i, C i) ∈ D
  sl : ∀ i, i < m → SlAt 1 (.slice (some ⟨β i, 0, none⟩) N (κ i)) (some (β i, C i)) N (β i) (κ i) (C i) (f i)
namespace RowsD
variable {D D' : Froz} {N m : Nat} {β κ : Nat → Nat} {C : Nat → Array Value} {f : Nat → Nat → Value}
theorem get (h : RowsD D N m β κ C f) {i : Nat} (hi : i < m) (c : Nat) (hc : c < N) : (C i)[0 + c * 1]? = some (f i c) := (h.sl i hi).get1 c hc
theorem more (h : RowsD D N m β κ C f) (hs : ∀ x ∈ D, x ∈ D') : RowsD D' N m β κ C f := ⟨fun i hi => hs _ (h.mem i hi), h.sl⟩
theorem none : RowsD D N 0 β κ C f := ⟨fun i hi => absurd hi (by omega), fun i hi => absurd hi (by omega)⟩
theorem congr (h : RowsD D N m β κ C f) {g : Nat → Nat → Value} (hf : ∀ i, i < m → ∀ c, c < N → f i c = g i c) : RowsD D N m β κ C g :=
  ⟨h.mem, fun i hi => by
    have := h.sl i hi
    exact ⟨this.val, this.ent, this.le, this.max, this.sz, fun c hc => by rw [← hf i hi c (by omega)]; exact this.get c hc⟩⟩
end RowsD
def rowV (β κ : Nat → Nat) (N : Nat) (i : Nat) : Value := .slice (some ⟨β i, 0, none⟩) N (κ i)
def RowsOut (w w' : World) (N k : Nat) (f : Nat → Nat → Value) (u : Value) : Prop := ∃ (D : Froz) (β κ : Nat → Nat) (C : Nat → Array Value) (b cap : Nat) (cs : Array Value),
  (∀ x ds, (x, ds) ∈ D → w.heap.size ≤ x ∧ Blk w' x ds) ∧ RowsD D N k β κ C f ∧ SlAt 1 u (some (b, cs)) k b cap cs (fun i => .slice (some ⟨β i, 0, none⟩) N (κ i)) ∧ (b, cs) ∈ D
theorem SlAt.set {v : Value} {n b cap : Nat} {cs : Array Value} {f g : Nat → Value} {x : Value} (h : SlAt 1 v (some (b, cs)) n b cap cs f) (i : Nat) {o : Nat} (ho : o = i) (hi : i < n) (hg : ∀ j, j < n → g j = if j = i then x else f j) : SlAt 1 v (some (b, cs.setIfInBounds o x)) n b cap (cs.setIfInBounds o x) g := by
  subst ho;refine ⟨h.val, rfl, h.le, h.max, by rw [Array.size_setIfInBounds]; exact h.sz, fun j hj => ?_⟩;rw [Array.getElem?_setIfInBounds];have hsz := h.sz;have hle := h.le
  by_cases e : o = j
  · subst e; rw [if_pos rfl, if_pos (by omega), hg o hi, if_pos rfl]
  · rw [if_neg e, hg j (by omega), if_neg (fun x => e x.symm)]; exact h.get j hj
theorem SlAt.congr {size : Nat} {v : Value} {e : Option (Nat × Array Value)} {n b cap : Nat} {cs : Array Value} {f g : Nat → Value} (h : SlAt size v e n b cap cs f) (hf : ∀ i, i < n * size → f i = g i) : SlAt size v e n b cap cs g :=
  ⟨h.val, h.ent, h.le, h.max, h.sz, fun i hi => by rw [← hf i hi]; exact h.get i hi⟩
theorem OwnSl.congr {size n : Nat} {w w' : World} {v : Value} {f g : Nat → Value} (h : OwnSl size w n f v w') (hf : ∀ i, i < n * size → f i = g i) : OwnSl size w n g v w' := by
  obtain ⟨b, cap, cs, h1, h2, h3⟩ := h;exact ⟨b, cap, cs, h1.congr hf, h2, h3⟩
theorem CallsR.mono {f : FuncId} {args : Array Value} {w : World} {R R' : Value → World → Prop} (h : CallsR P f args w R) (hr : ∀ v w', Ext w w' → R v w' → R' v w') : CallsR P f args w R' :=
  Calls.mono h (fun _ _ ⟨v, he, h1, h2⟩ => ⟨v, he, h1, hr v _ h1 h2⟩)
theorem RowsOut.of {w w' : World} {L : Own} {D : Froz} {N k : Nat} {β κ : Nat → Nat} {C : Nat → Array Value} {f : Nat → Nat → Value} {u : Value} {b cap : Nat} {cs : Array Value} (hM : Mem w w' L D) (hR : RowsD D N k β κ C f)
    (hs : SlAt 1 u (some (b, cs)) k b cap cs (fun i => .slice (some ⟨β i, 0, none⟩) N (κ i))) (hm : (b, cs) ∈ D) (hge : ∀ i, i < k → w.heap.size ≤ β i) (hb : w.heap.size ≤ b) : RowsOut w w' N k f u := by
  refine ⟨(b, cs) :: (List.range k).map (fun i => (β i, C i)), β, κ, C, b, cap, cs, fun x ds hx => ?_, ⟨fun i hi => ?_, hR.sl⟩, hs, List.mem_cons_self ..⟩
  · rcases List.mem_cons.1 hx with e | hx
    · simp only [Prod.mk.injEq] at e; obtain ⟨rfl, rfl⟩ := e; exact ⟨hb, hM.fzm hm⟩
    · obtain ⟨i, hi, e⟩ := List.mem_map.1 hx
      simp only [Prod.mk.injEq] at e; obtain ⟨rfl, rfl⟩ := e;have hi : i < k := by simpa using hi
      exact ⟨hge i hi, hM.fzm (hR.mem i hi)⟩
  · exact List.mem_cons_of_mem _ (List.mem_map.2 ⟨i, by simpa using hi, rfl⟩)
def FreshSl (w0 : World) (L : Own) (N : Nat) (f : Nat → Value) (u : Value) (w' : World) : Prop := ∃ b cap cs, SlAt 1 u (some (b, cs)) N b cap cs f ∧ Blk w' b cs ∧ w0.heap.size ≤ b ∧ ∀ (k : Nat) c ds, L[k]? = some (some (c, ds)) → c ≠ b
def LitF (w0 : World) (L : Own) (N : Nat) (f : Nat → Value) (u : Value) (w' : World) : Prop := ∃ b x, u = .slice (some ⟨b, 0, none⟩) 1 1 ∧ Blk w' b #[x] ∧ FreshSl w0 L N f x w'
theorem FreshSl.last {w0 w w' : World} {L : Own} {N : Nat} {f : Nat → Value} {u : Value} (h : FreshSl w0 L N f u w) (hx : Ext w w') : FreshSl w0 L N f u w' := by
  obtain ⟨b, cap, cs, h1, h2, h3⟩ := h; exact ⟨b, cap, cs, h1, h2.ext hx, h3⟩
theorem LitF.last {w0 w w' : World} {L : Own} {N : Nat} {f : Nat → Value} {u : Value} (h : LitF w0 L N f u w) (hx : Ext w w') : LitF w0 L N f u w' := by
  obtain ⟨b, x, h1, h2, h3⟩ := h; exact ⟨b, x, h1, h2.ext hx, h3.last hx⟩
theorem OwnSl.fresh {X : List Nat} {w0 w w' : World} {L : Own} {D : Froz} {N : Nat} {f : Nat → Value} {u : Value} (hM : MemX X w0 w L D) (h : OwnSl 1 w N f u w') : FreshSl w0 L N f u w' := by
  obtain ⟨b, cap, cs, h1, h2, h3⟩ := h;refine ⟨b, cap, cs, h1, h3, Nat.le_trans hM.bel.size h2, fun k c ds hk e => ?_⟩;have := (hM.blk k c ds hk).2.lt
  omega
section
variable {X : List Nat} {w0 : World} {D : Froz} {l : List Fact} {i : Nat} {L0 L : Own} {o : Oper} {a : Act} {w : World}
end
end Go.Sw

namespace Go.Sw
open Go Go.RowKit
variable {P : Program}
def RowsFr (w0 : World) (L : Own) (N k : Nat) (f : Nat → Nat → Value) (u : Value) (w' : World) : Prop := ∃ (D : Froz) (β κ : Nat → Nat) (C : Nat → Array Value) (b cap : Nat) (cs : Array Value),
  (∀ x ds, (x, ds) ∈ D → w0.heap.size ≤ x ∧ Blk w' x ds ∧ ∀ (k : Nat) c es, L[k]? = some (some (c, es)) → c ≠ x) ∧ RowsD D N k β κ C f ∧ SlAt 1 u (some (b, cs)) k b cap cs (fun i => .slice (some ⟨β i, 0, none⟩) N (κ i)) ∧ (b, cs) ∈ D
theorem RowsFr.last {w0 w w' : World} {L : Own} {N k : Nat} {f : Nat → Nat → Value} {u : Value} (h : RowsFr w0 L N k f u w) (hx : Ext w w') : RowsFr w0 L N k f u w' := by
  obtain ⟨D, β, κ, C, b, cap, cs, h1, h2⟩ := h;exact ⟨D, β, κ, C, b, cap, cs, fun x ds hm => ⟨(h1 x ds hm).1, (h1 x ds hm).2.1.ext hx, (h1 x ds hm).2.2⟩, h2⟩
theorem RowsOut.fresh {X : List Nat} {w0 w w' : World} {L : Own} {D : Froz} {N k : Nat} {f : Nat → Nat → Value} {u : Value} (hM : MemX X w0 w L D) (h : RowsOut w w' N k f u) : RowsFr w0 L N k f u w' := by
  obtain ⟨D', β, κ, C, b, cap, cs, h1, h2⟩ := h;refine ⟨D', β, κ, C, b, cap, cs, fun x ds hm => ⟨Nat.le_trans hM.bel.size (h1 x ds hm).1, (h1 x ds hm).2, fun k c es hk e => ?_⟩, h2⟩;have := (hM.blk k c es hk).2.lt;have := (h1 x ds hm).1
  omega
end Go.Sw

namespace Go.Sw
open Go Go.RowKit
variable {P : Program}
section
variable {ops : List Oper} {Q : Exit → Act → World → Prop} {n : Nat} {F : List (Nat × Value)}
def edgesBackB : List Oper → Nat → Bool
  | [], _ => true
  | o :: r, i => (o.after.toList.all fun e => !(Region.binds .any e) || Nat.blt e.on i) && edgesBackB r (i + 1)
def tailOkB (ops : List Oper) (k : Nat) : Bool := edgesBackB ops 0 && bitsFrom (masks ops []) ops.length ops.length k
def dstsOkS (n : Nat) (F : List (Nat × Value)) : List Oper → List Nat → Bool
  | [], _ => true
  | o :: r, seen => o.guard.isNone && (match o.dst with
    | some d => Nat.blt d n && (lk F d).isNone && !(memNat d seen) && dstsOkS n F r (d :: seen)
    | none => dstsOkS n F r seen)
def DepsS (ops : List Oper) (k s : Nat) (φ : Nat → Value → Prop) (o : Oper) (a : Act) : Prop :=
  ∀ j, Nat.blt j k = true → Nat.beq j s = false → edgeTo o j = true → φ j (a.tmps.getD (dstOf ops j) undef)
def edgeS (ops : List Oper) (s i : Nat) : Bool := match ops[s]? with | some o => edgeTo o i | none => false
def StepsS (P : Program) (ops : List Oper) (k s n : Nat) (F : List (Nat × Value)) (S : Bool → World → Prop) (φ : Nat → Value → Prop) : List Oper → Nat → Prop
  | [], _ => True
  | o :: r, i => (if Nat.beq i s = true then ∀ a w, Fr n a F → S false w → DepsS ops k s φ o a → Does P o a w (fun _ w' => S true w')
      else ∀ a w b, Fr n a F → S b w → (edgeS ops s i = true → b = false) → DepsS ops k s φ o a → Does P o a w (fun v w' => S b w' ∧ φ i v)) ∧ StepsS P ops k s n F S φ r (i + 1)
theorem StepsS.get {k s : Nat} {S : Bool → World → Prop} {φ : Nat → Value → Prop} : ∀ {l : List Oper} {i : Nat}, StepsS P ops k s n F S φ l i → ∀ (j : Nat) (o : Oper), l[j]? = some o →
    (if Nat.beq (i + j) s = true then ∀ a w, Fr n a F → S false w → DepsS ops k s φ o a → Does P o a w (fun _ w' => S true w')
      else ∀ a w b, Fr n a F → S b w → (edgeS ops s (i + j) = true → b = false) → DepsS ops k s φ o a → Does P o a w (fun v w' => S b w' ∧ φ (i + j) v))
  | [], _, _, j, o, h => by simp at h
  | x :: r, i, hs, j, o, h => by
    cases j with
    | zero => simp at h; subst h; exact hs.1
    | succ j => have := hs.2.get j o (by simpa using h); rwa [show i + 1 + j = i + (j + 1) by omega] at this
end
end Go.Sw

/-! Sums, rows modulo p, reduced lists of rows: plain lemmas, no program. -/
namespace Go.Ech
def sI (f : Nat → Int) : Nat → Int
  | 0 => 0
  | n + 1 => sI f n + f n
theorem sI_congr {f g : Nat → Int} {n : Nat} (h : ∀ i, i < n → f i = g i) : sI f n = sI g n := by
  induction n with
  | zero => rfl
  | succ n ih => simp only [sI]; rw [ih (fun i hi => h i (by omega)), h n (by omega)]
theorem sI_zero {f : Nat → Int} {n : Nat} (h : ∀ i, i < n → f i = 0) : sI f n = 0 := by
  induction n with
  | zero => rfl
  | succ n ih => simp only [sI]; rw [ih (fun i hi => h i (by omega)), h n (by omega)]; rfl
theorem sI_one {f : Nat → Int} {n a : Nat} (ha : a < n) (h : ∀ i, i < n → i ≠ a → f i = 0) : sI f n = f a := by
  induction n with
  | zero => omega
  | succ n ih =>
    simp only [sI]
    by_cases e : a = n
    · subst e; rw [sI_zero (fun i hi => h i (by omega) (by omega))]; omega
    · rw [ih (by omega) (fun i hi => h i (by omega)), h n (by omega) (by omega)]; omega
theorem sI_add (f g : Nat → Int) (n : Nat) : sI (fun i => f i + g i) n = sI f n + sI g n := by
  induction n with
  | zero => rfl
  | succ n ih => simp only [sI]; rw [ih]; omega
theorem sI_mul (k : Int) (f : Nat → Int) (n : Nat) : sI (fun i => k * f i) n = k * sI f n := by
  induction n with
  | zero => simp [sI]
  | succ n ih => simp only [sI]; rw [ih, Int.mul_add]
theorem sI_dvd {p : Int} {f : Nat → Int} {n : Nat} (h : ∀ i, i < n → p ∣ f i) : p ∣ sI f n := by
  induction n with
  | zero => exact Int.dvd_zero p
  | succ n ih => exact Int.dvd_add (ih fun i hi => h i (by omega)) (h n (by omega))
theorem sI_swap (f : Nat → Nat → Int) (n m : Nat) : sI (fun i => sI (fun j => f i j) m) n = sI (fun j => sI (fun i => f i j) n) m := by
  induction n with
  | zero => simp only [sI]; exact (sI_zero fun i _ => rfl).symm
  | succ n ih => simp only [sI]; rw [ih, ← sI_add]
def dot (N : Nat) (r x : Nat → Int) : Int := sI (fun c => r c * x c) N
abbrev ci (r : Nat → Nat) : Nat → Int := fun c => (r c : Int)
def Ker (p N : Nat) (M : Nat → Nat → Nat) (m : Nat) (x : Nat → Int) : Prop := ∀ i, i < m → (p : Int) ∣ dot N (ci (M i)) x
theorem dot_lin {p N : Nat} {r s t x : Nat → Int} {k : Int} (h : ∀ c, c < N → (p : Int) ∣ t c - (r c + k * s c)) : (p : Int) ∣ dot N t x - (dot N r x + k * dot N s x) := by
  unfold dot
  have e : sI (fun c => t c * x c) N - (sI (fun c => r c * x c) N + k * sI (fun c => s c * x c) N) = sI (fun c => (t c - (r c + k * s c)) * x c) N := by
    rw [← sI_mul, ← sI_add];have : sI (fun c => t c * x c) N = sI (fun c => (t c - (r c + k * s c)) * x c) N + sI (fun c => r c * x c + k * (s c * x c)) N := by
      rw [← sI_add]; exact sI_congr fun c _ => by grind
    omega
  rw [e];exact sI_dvd fun c hc => Int.dvd_mul_of_dvd_left (h c hc)
theorem dvd_iff_sub {p a b : Int} (h : p ∣ a - b) : p ∣ a ↔ p ∣ b := by
  constructor
  · intro ha; have := Int.dvd_sub ha h; rwa [show a - (a - b) = b by omega] at this
  · intro hb; have := Int.dvd_add hb h; rwa [show b + (a - b) = a by omega] at this
structure Rref (p N : Nat) (E : Nat → Nat → Nat) (k : Nat) (ld : Nat → Nat) : Prop where
  lt : ∀ i, i < k → ld i < N
  mono : ∀ i j, i < j → j < k → ld i < ld j
  one : ∀ i, i < k → E i (ld i) = 1
  left : ∀ i, i < k → ∀ c, c < ld i → E i c = 0
  zero : ∀ i j, i < k → j < k → i ≠ j → E j (ld i) = 0
  small : ∀ i, i < k → ∀ c, c < N → E i c < p
def isLd (k : Nat) (ld : Nat → Nat) (c : Nat) : Prop := ∃ i, i < k ∧ ld i = c
instance (k : Nat) (ld : Nat → Nat) (c : Nat) : Decidable (isLd k ld c) := inferInstanceAs (Decidable (∃ i, i < k ∧ ld i = c))
def ldAt (k : Nat) (ld : Nat → Nat) (c : Nat) : Option Nat := (List.range k).find? (fun i => ld i == c)
def free (E : Nat → Nat → Nat) (k : Nat) (ld : Nat → Nat) (c : Nat) : Nat → Int := fun d =>
  if d = c then 1 else match ldAt k ld d with
    | some j => -(E j c : Int)
    | none => 0
namespace Rref
variable {p N k : Nat} {E : Nat → Nat → Nat} {ld : Nat → Nat}
theorem inj (h : Rref p N E k ld) {i j : Nat} (hi : i < k) (hj : j < k) (e : ld i = ld j) : i = j := by
  rcases Nat.lt_trichotomy i j with hh | hh | hh
  · have := h.mono i j hh hj; omega
  · exact hh
  · have := h.mono j i hh hi; omega
theorem ker_lead (h : Rref p N E k ld) {x : Nat → Int} (hx : Ker p N E k x) {i : Nat} (hi : i < k) (hz : ∀ d, ld i < d → d < N → x d = 0) : (p : Int) ∣ x (ld i) := by
  have := hx i hi
  unfold dot at this
  rw [sI_one (h.lt i hi)] at this
  · simpa [ci, h.one i hi] using this
  · intro d hd hne
    rcases Nat.lt_or_gt_of_ne hne with hh | hh
    · simp [ci, h.left i hi d hh]
    · simp [hz d hh hd]
end Rref
end Go.Ech
