/- Plain lemmas of a small calculus for walks over frames and own memory; no statement of the seat is proved here. -/
import Derived.Test.YtlpccepifehilaaSw6
set_option linter.unusedVariables false
set_option linter.unusedSimpArgs false
namespace Go.Sw
open Go Go.RowKit
variable {P : Program}

/-! ### Slices that the call owns: their cells lie at a place of their own. -/
structure SlAt (size : Nat) (v : Value) (e : Option (Nat × Array Value)) (n b cap : Nat) (cs : Array Value) (f : Nat → Value) : Prop where
  val : v = .slice (some ⟨b, 0, none⟩) n cap
  ent : e = some (b, cs)
  le : n ≤ cap
  max : cap ≤ maxLen
  sz : cs.size = cap * size
  get : ∀ i, i < n * size → cs[i]? = some (f i)
def Sl (size : Nat) (v : Value) (e : Option (Nat × Array Value)) (n : Nat) (f : Nat → Value) : Prop :=
  (v = .slice none 0 0 ∧ e = none ∧ n = 0) ∨ ∃ b cap cs, SlAt size v e n b cap cs f
theorem Sl.nil (size : Nat) (f : Nat → Value) : Sl size (.slice none 0 0) none 0 f := .inl ⟨rfl, rfl, rfl⟩
theorem Sl.pos {size n : Nat} {v : Value} {e : Option (Nat × Array Value)} {f : Nat → Value} (h : Sl size v e n f) (hn : 0 < n) : ∃ b cap cs, v = .slice (some ⟨b, 0, none⟩) n cap ∧ e = some (b, cs) ∧ SlAt size v e n b cap cs f := by
  rcases h with ⟨_, _, h0⟩ | ⟨b, cap, cs, h⟩
  · omega
  · exact ⟨b, cap, cs, h.val, h.ent, h⟩
theorem Sl.congr {size n : Nat} {v : Value} {e : Option (Nat × Array Value)} {f g : Nat → Value} (h : Sl size v e n f) (hf : ∀ i, i < n * size → f i = g i) : Sl size v e n g := by
  rcases h with h | ⟨b, cap, cs, h⟩
  · exact .inl h
  · exact .inr ⟨b, cap, cs, h.val, h.ent, h.le, h.max, h.sz, fun i hi => by rw [← hf i hi]; exact h.get i hi⟩
def slI (P : Program) (T : TypeId) : Option (TypeId × Option Value × Nat × Nat) :=
  match P.underlying T with
  | some (.slice e) => (P.info? e).map fun i => (e, i.zero, i.size, i.bytes)
  | _ => none

section
variable {ops : Array Oper} {Q : Exit → Act → World → Prop} {rest : List Oper} {n : Nat} {F : List (Nat × Value)} {a : Act} {X : List Nat} {w w0 : World} {L : Own} {D : Froz}
variable {d : Option Tmp} {t : TypeId} {pos : String} {af : Array Edge} {gd : Option (Nat × Bool)} {T : TypeId} {x y : Operand}
end

theorem MemX.startD (w : World) (n : Nat) (D : Froz) (h : ∀ b cs, (b, cs) ∈ D → Blk w b cs) : Mem w w (List.replicate n none) D :=
  ⟨ExtX.refl _ w, fun k b cs h => by simp [List.getElem?_replicate] at h, fun k j b cs ds h => by simp [List.getElem?_replicate] at h, fun b cs hm => ⟨h b cs hm, fun k c ds hk => by simp [List.getElem?_replicate] at hk⟩⟩
theorem MemX.fz {X : List Nat} {w0 w : World} {L : Own} {D : Froz} (h : MemX X w0 w L D) (k : Nat) {b : Nat} {cs : Array Value} (hk : D[k]? = some (b, cs)) : Blk w b cs := (h.froz b cs (List.mem_of_getElem? hk)).1
theorem startD1 {w : World} {b : Nat} {cs : Array Value} (h : Blk w b cs) : ∀ c ds, (c, ds) ∈ [(b, cs)] → Blk w c ds := fun c ds hm => by simp at hm; obtain ⟨rfl, rfl⟩ := hm; exact h
theorem startD2 {w : World} {b b' : Nat} {cs cs' : Array Value} (h : Blk w b cs) (h' : Blk w b' cs') : ∀ c ds, (c, ds) ∈ [(b, cs), (b', cs')] → Blk w c ds := fun c ds hm => by
  simp at hm
  rcases hm with ⟨rfl, rfl⟩ | ⟨rfl, rfl⟩
  · exact h
  · exact h'
theorem SlAt.get1 {v : Value} {e : Option (Nat × Array Value)} {n b cap : Nat} {cs : Array Value} {f : Nat → Value} (h : SlAt 1 v e n b cap cs f) (i : Nat) (hi : i < n) : cs[0 + i * 1]? = some (f i) := by
  have := h.get i (by omega); simpa using this
def OwnSl (size : Nat) (w : World) (n : Nat) (f : Nat → Value) (v : Value) (w' : World) : Prop := ∃ b cap cs, SlAt size v (some (b, cs)) n b cap cs f ∧ w.heap.size ≤ b ∧ Blk w' b cs
theorem OwnSl.of {size n k : Nat} {w w' : World} {L : Own} {D : Froz} {v : Value} {e : Option (Nat × Array Value)} {f g : Nat → Value} (hM : Mem w w' L D) (hk : L[k]? = some e) (h : Sl size v e n g) (he : ∀ b, v = b → v ≠ .slice none 0 0) (hf : ∀ i, i < n * size → g i = f i) : OwnSl size w n f v w' := by
  rcases h.congr hf with ⟨rfl, _⟩ | ⟨b, cap, cs, h⟩
  · exact absurd rfl (he _ rfl)
  · obtain rfl := h.ent
    exact ⟨b, cap, cs, h, hM.ge k hk, hM.row k hk⟩
def leadN (f : Nat → Int) (n : Nat) : Nat := ((List.range n).find? (fun i => f i != 0)).getD n
theorem Sl.empty (size b : Nat) (f : Nat → Value) : Sl size (.slice (some ⟨b, 0, none⟩) 0 0) (some (b, #[])) 0 f :=
  .inr ⟨b, 0, #[], ⟨rfl, rfl, Nat.le_refl _, Nat.zero_le _, by simp, fun i hi => by simp at hi⟩⟩
theorem OwnSl.pos {size n k : Nat} {w w' : World} {L : Own} {D : Froz} {v : Value} {e : Option (Nat × Array Value)} {f : Nat → Value} (hM : Mem w w' L D) (hk : L[k]? = some e) (h : Sl size v e n f) (hn : 0 < n) : OwnSl size w n f v w' := by
  obtain ⟨b, cap, cs, _, rfl, h⟩ := h.pos hn;exact ⟨b, cap, cs, h, hM.ge k hk, hM.row k hk⟩
end Go.Sw

namespace Go.Sw
open Go Go.RowKit
variable {P : Program}
/-! ### Calls that write into blocks that they are handed -/
def CallsX (P : Program) (X : List Nat) (f : FuncId) (args : Array Value) (w : World) (R : Value → World → Prop) : Prop :=
  Calls P f args w fun e w' => ∃ v, e = .returned v ∧ ExtX X w w' ∧ R v w'
section
variable {n : Nat} {F : List (Nat × Value)} {a : Act} {w : World} {d : Option Tmp} {t : TypeId} {pos : String} {af : Array Edge} {gd : Option (Nat × Bool)} {T T' : TypeId} {x y : Operand}
/-! ### Strings -/
end
end Go.Sw

namespace Go.Sw
open Go Go.RowKit
variable {P : Program}
section
variable {fn : Func} {a : Act} {w : World}
theorem fin0 {R : Ending → World → Prop} (hr : fn.results = #[]) (hd : a.defers = []) (h : R (.returned (.tuple #[])) w) : bodyPost P fn R .ret a w :=
  bodyPost_ret (by rw [results_eq, hr]; simp) hd h
theorem fin0n {R : Ending → World → Prop} (hr : fn.results = #[]) (hd : a.defers = []) (h : R (.returned (.tuple #[])) w) : bodyPost P fn R .normal a w := by
  have := fin0 (P := P) (R := R) hr hd h;exact this
end
end Go.Sw

namespace Go.Sw
open Go Go.RowKit
section
variable {p n q : Int} {T U : Nat → Nat → Nat → Nat} {f v : Nat → Nat} {M : Nat → Nat → Nat}
theorem planeC_put {o : Nat} (j : Nat) (h : o = j * 6) (hj : j < 6) : splice (planeC M) o (vecC v) = planeC (fun a k => if a = j then v k else M a k) := by
  subst h
  apply fnC_ext (by rw [splice_size _ _ _ (by rw [vecC_size, planeC_size]; omega), planeC_size])
  intro i hi;rw [splice_get _ _ _ _ (by rw [vecC_size, planeC_size]; omega), vecC_size]
  by_cases e : j * 6 ≤ i ∧ i < j * 6 + 6
  · rw [if_pos e, vecC_get (i - j * 6) rfl (by omega)]; dsimp only; rw [if_pos (by omega), show i - j * 6 = i % 6 by omega]
  · rw [if_neg e, planeC_get (i / 6) (i % 6) (by omega) (by omega) (by omega)]; dsimp only; rw [if_neg (by omega)]
end
end Go.Sw

/-! Steps that follow one another, as one. -/
namespace Go.Sw
open Go Go.RowKit
variable {P : Program}
section
variable {ops : Array Oper} {Q : Exit → Act → World → Prop} {rest : List Oper} {n : Nat} {F : List (Nat × Value)} {a : Act} {w : World}
theorem mv {d : Nat} {x : Operand} {t : TypeId} {pos : String} {af : Array Edge} {v : Value} (hF : Fr n a F) (hx : look F x = some v) (hn : Nat.blt d n = true)
    (h : ∀ a', Fr n a' ((d, v) :: F) → wpList P ops Q rest a' w) : wpList P ops Q (⟨some d, .move x, t, pos, af, none⟩ :: rest) a w := st hF (g_move hF hx) hn h
theorem ag {d : Nat} {x : Operand} {t : TypeId} {pos : String} {af : Array Edge} {v : Value} (hF : Fr n a F) (hx : look F x = some v) (hn : Nat.blt d n = true)
    (h : ∀ a', Fr n a' ((d, v) :: F) → wpList P ops Q rest a' w) : wpList P ops Q (⟨some d, .assign x, t, pos, af, none⟩ :: rest) a w := st hF (g_assign hF hx) hn h
theorem sr {id : Nat} {l : List Oper} {y : Code} (h : wpList P l.toArray (Exit.then (fun a w => y.wp P Q a w) Q) l a w) : ((Code.region id l.toArray false).seq y).wp P Q a w := sq (wp_region_lit h)
theorem nt {K : Act → World → Prop} {Q' : Exit → Act → World → Prop} (h : K a w) : wpList P ops (Exit.then K Q') [] a w := h
theorem ns {id : Nat} {l : List Oper} {y : Code} {Q' : Exit → Act → World → Prop} (h : wpList P l.toArray (Exit.then (fun a w => y.wp P Q a w) Q) l a w) : wpList P ops (Exit.then (fun a w => ((Code.region id l.toArray false).seq y).wp P Q a w) Q') [] a w := sq (wp_region_lit h)
end
section
variable {X : List Nat} {w0 w : World} {D : Froz} {W : List Nat} {l : List Fact} {i : Nat} {L0 L : Own} {o : Oper} {a : Act} {n : Nat} {F : List (Nat × Value)} {d : Option Tmp} {x : Operand} {t : TypeId} {pos : String} {af : Array Edge} {gd : Option (Nat × Bool)} {v : Value}
theorem pmv (hS : Par X w0 D W L0 L w) (hi : l[i]? = some (.val v)) (hF : Fr n a F) (hx : look F x = some v) : Does P ⟨d, .move x, t, pos, af, gd⟩ a w (After (Par X w0 D W L0) (factsOf l) i L w) := par_val hS hi (g_move hF hx)
end
theorem sz0 : (∀ n f, (fnC n f).size = n) ∧ (∀ p n T f, (algC p n T f).size = 224) ∧ (∀ v, (vecC v).size = 6) ∧ (∀ T, (tabC T).size = 216) ∧ (∀ M, (planeC M).size = 36) :=
  ⟨fnC_size, fun _ _ _ _ => cells_size, fun _ => vecC_size, fun _ => tabC_size, fun _ => planeC_size⟩
end Go.Sw

namespace Go.Sw
open Go Go.RowKit
variable {P : Program}
section
variable {n : Nat} {F : List (Nat × Value)} {a : Act} {w w0 : World} {d : Option Tmp} {t : TypeId} {pos : String} {af : Array Edge} {gd : Option (Nat × Bool)} {T : TypeId} {x y : Operand} {X : List Nat} {L : Own} {D : Froz}
end
end Go.Sw

namespace Go.Sw
open Go Go.RowKit
variable {P : Program}
/-! ### Lists of rows: each row a block of its own -/
theorem MemX.addD {X : List Nat} {w0 w w' : World} {L : Own} {D D' : Froz} (h : MemX X w0 w L D) (hb : Ext w w') (hD : ∀ b cs, (b, cs) ∈ D' → w.heap.size ≤ b ∧ Blk w' b cs) : MemX X w0 w' L (D' ++ D) := by
  have h2 := h.ext hb;refine ⟨h2.bel, h2.blk, h2.apart, fun b cs hm => ?_⟩
  rcases List.mem_append.1 hm with hm | hm
  · refine ⟨(hD b cs hm).2, fun k c ds hk e => ?_⟩
    have h3 := (h.blk k c ds hk).2.lt;have h4 := (hD b cs hm).1
    omega
  · exact h2.froz b cs hm
theorem MemX.fzm {X : List Nat} {w0 w : World} {L : Own} {D : Froz} (h : MemX X w0 w L D) {b : Nat} {cs : Array Value} (hk : (b, cs) ∈ D) : Blk w b cs := (h.froz b cs hk).1
def up {α : Type} (f : Nat → α) (m : Nat) (x : α) (i : Nat) : α := if i = m then x else f i
theorem up_eq {α : Type} {f : Nat → α} {m : Nat} {x : α} : up f m x m = x := by simp [up]
theorem up_ne {α : Type} {f : Nat → α} {m i : Nat} {x : α} (h : i ≠ m) : up f m x i = f i := by simp [up, h]
structure RowsD (D : Froz) (N m : Nat) (β κ : Nat → Nat) (C : Nat → Array Value) (f : Nat → Nat → Value) : Prop where
  mem : ∀ i, i < m → (β i, C i) ∈ D
  sl : ∀ i, i < m → SlAt 1 (.slice (some ⟨β i, 0, none⟩) N (κ i)) (some (β i, C i)) N (β i) (κ i) (C i) (f i)
namespace RowsD
variable {D D' : Froz} {N m : Nat} {β κ : Nat → Nat} {C : Nat → Array Value} {f : Nat → Nat → Value}
theorem get (h : RowsD D N m β κ C f) {i : Nat} (hi : i < m) (c : Nat) (hc : c < N) : (C i)[0 + c * 1]? = some (f i c) := (h.sl i hi).get1 c hc
theorem more (h : RowsD D N m β κ C f) (hs : ∀ x ∈ D, x ∈ D') : RowsD D' N m β κ C f := ⟨fun i hi => hs _ (h.mem i hi), h.sl⟩
theorem none : RowsD D N 0 β κ C f := ⟨fun i hi => absurd hi (by omega), fun i hi => absurd hi (by omega)⟩
theorem congr (h : RowsD D N m β κ C f) {g : Nat → Nat → Value} (hf : ∀ i, i < m → ∀ c, c < N → f i c = g i c) : RowsD D N m β κ C g :=
  ⟨h.mem, fun i hi => by
    have := h.sl i hi
    exact ⟨this.val, this.ent, this.le, this.max, this.sz, fun c hc => by rw [← hf i hi c (by omega)]; exact this.get c hc⟩⟩
end RowsD
def rowV (β κ : Nat → Nat) (N : Nat) (i : Nat) : Value := .slice (some ⟨β i, 0, none⟩) N (κ i)
def RowsOut (w w' : World) (N k : Nat) (f : Nat → Nat → Value) (u : Value) : Prop := ∃ (D : Froz) (β κ : Nat → Nat) (C : Nat → Array Value) (b cap : Nat) (cs : Array Value),
  (∀ x ds, (x, ds) ∈ D → w.heap.size ≤ x ∧ Blk w' x ds) ∧ RowsD D N k β κ C f ∧ SlAt 1 u (some (b, cs)) k b cap cs (fun i => .slice (some ⟨β i, 0, none⟩) N (κ i)) ∧ (b, cs) ∈ D
theorem SlAt.set {v : Value} {n b cap : Nat} {cs : Array Value} {f g : Nat → Value} {x : Value} (h : SlAt 1 v (some (b, cs)) n b cap cs f) (i : Nat) {o : Nat} (ho : o = i) (hi : i < n) (hg : ∀ j, j < n → g j = if j = i then x else f j) : SlAt 1 v (some (b, cs.setIfInBounds o x)) n b cap (cs.setIfInBounds o x) g := by
  subst ho;refine ⟨h.val, rfl, h.le, h.max, by rw [Array.size_setIfInBounds]; exact h.sz, fun j hj => ?_⟩;rw [Array.getElem?_setIfInBounds];have hsz := h.sz;have hle := h.le
  by_cases e : o = j
  · subst e; rw [if_pos rfl, if_pos (by omega), hg o hi, if_pos rfl]
  · rw [if_neg e, hg j (by omega), if_neg (fun x => e x.symm)]; exact h.get j hj
theorem SlAt.congr {size : Nat} {v : Value} {e : Option (Nat × Array Value)} {n b cap : Nat} {cs : Array Value} {f g : Nat → Value} (h : SlAt size v e n b cap cs f) (hf : ∀ i, i < n * size → f i = g i) : SlAt size v e n b cap cs g :=
  ⟨h.val, h.ent, h.le, h.max, h.sz, fun i hi => by rw [← hf i hi]; exact h.get i hi⟩
theorem OwnSl.congr {size n : Nat} {w w' : World} {v : Value} {f g : Nat → Value} (h : OwnSl size w n f v w') (hf : ∀ i, i < n * size → f i = g i) : OwnSl size w n g v w' := by
  obtain ⟨b, cap, cs, h1, h2, h3⟩ := h;exact ⟨b, cap, cs, h1.congr hf, h2, h3⟩
theorem CallsR.mono {f : FuncId} {args : Array Value} {w : World} {R R' : Value → World → Prop} (h : CallsR P f args w R) (hr : ∀ v w', Ext w w' → R v w' → R' v w') : CallsR P f args w R' :=
  Calls.mono h (fun _ _ ⟨v, he, h1, h2⟩ => ⟨v, he, h1, hr v _ h1 h2⟩)
theorem RowsOut.of {w w' : World} {L : Own} {D : Froz} {N k : Nat} {β κ : Nat → Nat} {C : Nat → Array Value} {f : Nat → Nat → Value} {u : Value} {b cap : Nat} {cs : Array Value} (hM : Mem w w' L D) (hR : RowsD D N k β κ C f)
    (hs : SlAt 1 u (some (b, cs)) k b cap cs (fun i => .slice (some ⟨β i, 0, none⟩) N (κ i))) (hm : (b, cs) ∈ D) (hge : ∀ i, i < k → w.heap.size ≤ β i) (hb : w.heap.size ≤ b) : RowsOut w w' N k f u := by
  refine ⟨(b, cs) :: (List.range k).map (fun i => (β i, C i)), β, κ, C, b, cap, cs, fun x ds hx => ?_, ⟨fun i hi => ?_, hR.sl⟩, hs, List.mem_cons_self ..⟩
  · rcases List.mem_cons.1 hx with e | hx
    · simp only [Prod.mk.injEq] at e; obtain ⟨rfl, rfl⟩ := e; exact ⟨hb, hM.fzm hm⟩
    · obtain ⟨i, hi, e⟩ := List.mem_map.1 hx
      simp only [Prod.mk.injEq] at e; obtain ⟨rfl, rfl⟩ := e;have hi : i < k := by simpa using hi
      exact ⟨hge i hi, hM.fzm (hR.mem i hi)⟩
  · exact List.mem_cons_of_mem _ (List.mem_map.2 ⟨i, by simpa using hi, rfl⟩)
def FreshSl (w0 : World) (L : Own) (N : Nat) (f : Nat → Value) (u : Value) (w' : World) : Prop := ∃ b cap cs, SlAt 1 u (some (b, cs)) N b cap cs f ∧ Blk w' b cs ∧ w0.heap.size ≤ b ∧ ∀ (k : Nat) c ds, L[k]? = some (some (c, ds)) → c ≠ b
def LitF (w0 : World) (L : Own) (N : Nat) (f : Nat → Value) (u : Value) (w' : World) : Prop := ∃ b x, u = .slice (some ⟨b, 0, none⟩) 1 1 ∧ Blk w' b #[x] ∧ FreshSl w0 L N f x w'
theorem FreshSl.last {w0 w w' : World} {L : Own} {N : Nat} {f : Nat → Value} {u : Value} (h : FreshSl w0 L N f u w) (hx : Ext w w') : FreshSl w0 L N f u w' := by
  obtain ⟨b, cap, cs, h1, h2, h3⟩ := h; exact ⟨b, cap, cs, h1, h2.ext hx, h3⟩
theorem LitF.last {w0 w w' : World} {L : Own} {N : Nat} {f : Nat → Value} {u : Value} (h : LitF w0 L N f u w) (hx : Ext w w') : LitF w0 L N f u w' := by
  obtain ⟨b, x, h1, h2, h3⟩ := h; exact ⟨b, x, h1, h2.ext hx, h3.last hx⟩
theorem OwnSl.fresh {X : List Nat} {w0 w w' : World} {L : Own} {D : Froz} {N : Nat} {f : Nat → Value} {u : Value} (hM : MemX X w0 w L D) (h : OwnSl 1 w N f u w') : FreshSl w0 L N f u w' := by
  obtain ⟨b, cap, cs, h1, h2, h3⟩ := h;refine ⟨b, cap, cs, h1, h3, Nat.le_trans hM.bel.size h2, fun k c ds hk e => ?_⟩;have := (hM.blk k c ds hk).2.lt
  omega
section
variable {X : List Nat} {w0 : World} {D : Froz} {l : List Fact} {i : Nat} {L0 L : Own} {o : Oper} {a : Act} {w : World}
end
end Go.Sw
