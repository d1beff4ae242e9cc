/- Plain lemmas of a small calculus for walks over frames and own memory; no statement of the seat is proved here. -/
import Derived.Test.YtfencffdhenjdaaDoorSw12
set_option linter.unusedVariables false
set_option linter.unusedSimpArgs false
namespace Go.Sw
open Go Go.RowKit
variable {P : Program}
section
variable {n : Nat} {F : List (Nat × Value)} {a : Act} {w w0 : World} {d : Option Tmp} {t : TypeId} {pos : String} {af : Array Edge} {gd : Option (Nat × Bool)} {T : TypeId} {x y : Operand} {X : List Nat} {L : Own} {D : Froz}
/-- A new slice of a length that is a closed number: its run is a closed fact. -/
theorem d_makeC {len : Nat} {cs : Array Value} {e : TypeId} (k : Nat) (hM : MemX X w0 w L D) (hF : Fr n a F) (hx : look F x = some (.int .i64 (len : Int))) (hy : look F y = some (.int .i64 (len : Int)))
    (hrun : ∀ w, (Instr.makeSlice T (.int .i64 (len : Int)) (.int .i64 (len : Int))).run P w = .ok (.slice (some ⟨w.heap.size, 0, none⟩) len len) (w.alloc (.cells cs e))) :
    Does P ⟨d, .makeSlice T x y, t, pos, af, gd⟩ a w (fun u w' => ∃ b, u = .slice (some ⟨b, 0, none⟩) len len ∧ MemX X w0 w' (L.set k (some (b, cs))) D ∧ Ext w w') :=
  ⟨fun K Q hk => by
    have := hk _ (w.alloc (.cells cs e)) ⟨w.heap.size, rfl, hM.fill (Ext.alloc _ _) k (Blk.new _ _ _) (Nat.le_refl _), Ext.alloc _ _⟩
    unfold Oper.wp execOp
    simp only [hF.eval hx, hF.eval hy, Sem.run_bind, hrun, Result.andThen_ok, Sem.run_pure]
    exact this⟩
theorem g_toArr {b o len c k : Nat} {e : TypeId} (hT : P.underlying T = some (.array k e)) (hF : Fr n a F) (hx : look F x = some (.slice (some ⟨b, o, none⟩) len c)) (hk : k ≤ len) : Gives P ⟨d, .sliceToArrayPointer T x, t, pos, af, gd⟩ a w (ptr b o) :=
  gives_of_run (by simp [execOp, hF.eval hx, Instr.arrayAt, run_underlying hT, show ¬ len < k by omega])
end
end Go.Sw

namespace Go.Sw
open Go Go.RowKit
variable {P : Program}
/-! ### Lists of rows: each row a block of its own -/
/-- New blocks, only read from now on. -/
theorem MemX.addD {X : List Nat} {w0 w w' : World} {L : Own} {D D' : Froz} (h : MemX X w0 w L D) (hb : Ext w w') (hD : ∀ b cs, (b, cs) ∈ D' → w.heap.size ≤ b ∧ Blk w' b cs) : MemX X w0 w' L (D' ++ D) := by
  have h2 := h.ext hb
  refine ⟨h2.bel, h2.blk, h2.apart, fun b cs hm => ?_⟩
  rcases List.mem_append.1 hm with hm | hm
  · refine ⟨(hD b cs hm).2, fun k c ds hk e => ?_⟩
    have h3 := (h.blk k c ds hk).2.lt
    have h4 := (hD b cs hm).1
    omega
  · exact h2.froz b cs hm
theorem MemX.fzm {X : List Nat} {w0 w : World} {L : Own} {D : Froz} (h : MemX X w0 w L D) {b : Nat} {cs : Array Value} (hk : (b, cs) ∈ D) : Blk w b cs := (h.froz b cs hk).1
def up {α : Type} (f : Nat → α) (m : Nat) (x : α) (i : Nat) : α := if i = m then x else f i
theorem up_eq {α : Type} {f : Nat → α} {m : Nat} {x : α} : up f m x m = x := by simp [up]
theorem up_ne {α : Type} {f : Nat → α} {m i : Nat} {x : α} (h : i ≠ m) : up f m x i = f i := by simp [up, h]
/-- m rows of N cells, in blocks of D. -/
structure RowsD (D : Froz) (N m : Nat) (β κ : Nat → Nat) (C : Nat → Array Value) (f : Nat → Nat → Value) : Prop where
  mem : ∀ i, i < m → (β i, C i) ∈ D
  sl : ∀ i, i < m → SlAt 1 (.slice (some ⟨β i, 0, none⟩) N (κ i)) (some (β i, C i)) N (β i) (κ i) (C i) (f i)
namespace RowsD
variable {D D' : Froz} {N m : Nat} {β κ : Nat → Nat} {C : Nat → Array Value} {f : Nat → Nat → Value}
theorem get (h : RowsD D N m β κ C f) {i : Nat} (hi : i < m) (c : Nat) (hc : c < N) : (C i)[0 + c * 1]? = some (f i c) := (h.sl i hi).get1 c hc
theorem more (h : RowsD D N m β κ C f) (hs : ∀ x ∈ D, x ∈ D') : RowsD D' N m β κ C f := ⟨fun i hi => hs _ (h.mem i hi), h.sl⟩
theorem none : RowsD D N 0 β κ C f := ⟨fun i hi => absurd hi (by omega), fun i hi => absurd hi (by omega)⟩
theorem congr (h : RowsD D N m β κ C f) {g : Nat → Nat → Value} (hf : ∀ i, i < m → ∀ c, c < N → f i c = g i c) : RowsD D N m β κ C g :=
  ⟨h.mem, fun i hi => by
    have := h.sl i hi
    exact ⟨this.val, this.ent, this.le, this.max, this.sz, fun c hc => by rw [← hf i hi c (by omega)]; exact this.get c hc⟩⟩
theorem snoc (h : RowsD D N m β κ C f) {b cap : Nat} {cs : Array Value} {v : Value} {r : Nat → Value} (hm : (b, cs) ∈ D) (hs : SlAt 1 v (some (b, cs)) N b cap cs r) : RowsD D N (m + 1) (up β m b) (up κ m cap) (up C m cs) (up f m r) :=
  ⟨fun i hi => by
    by_cases e : i = m
    · subst e; simp only [up_eq]; exact hm
    · simp only [up_ne e]; exact h.mem i (by omega),
   fun i hi => by
    by_cases e : i = m
    · subst e; simp only [up_eq]; have := hs.val; subst this; exact hs
    · simp only [up_ne e]; exact h.sl i (by omega)⟩
end RowsD
/-- The cells of a list of rows. -/
def rowV (β κ : Nat → Nat) (N : Nat) (i : Nat) : Value := .slice (some ⟨β i, 0, none⟩) N (κ i)
/-- A new list of rows. -/
def RowsOut (w w' : World) (N k : Nat) (f : Nat → Nat → Value) (u : Value) : Prop := ∃ (D : Froz) (β κ : Nat → Nat) (C : Nat → Array Value) (b cap : Nat) (cs : Array Value),
  (∀ x ds, (x, ds) ∈ D → w.heap.size ≤ x ∧ Blk w' x ds) ∧ RowsD D N k β κ C f ∧ SlAt 1 u (some (b, cs)) k b cap cs (fun i => .slice (some ⟨β i, 0, none⟩) N (κ i)) ∧ (b, cs) ∈ D
theorem SlAt.set {v : Value} {n b cap : Nat} {cs : Array Value} {f g : Nat → Value} {x : Value} (h : SlAt 1 v (some (b, cs)) n b cap cs f) (i : Nat) {o : Nat} (ho : o = i) (hi : i < n) (hg : ∀ j, j < n → g j = if j = i then x else f j) : SlAt 1 v (some (b, cs.setIfInBounds o x)) n b cap (cs.setIfInBounds o x) g := by
  subst ho
  refine ⟨h.val, rfl, h.le, h.max, by rw [Array.size_setIfInBounds]; exact h.sz, fun j hj => ?_⟩
  rw [Array.getElem?_setIfInBounds]
  have hsz := h.sz
  have hle := h.le
  by_cases e : o = j
  · subst e; rw [if_pos rfl, if_pos (by omega), hg o hi, if_pos rfl]
  · rw [if_neg e, hg j (by omega), if_neg (fun x => e x.symm)]; exact h.get j hj
theorem SlAt.congr {size : Nat} {v : Value} {e : Option (Nat × Array Value)} {n b cap : Nat} {cs : Array Value} {f g : Nat → Value} (h : SlAt size v e n b cap cs f) (hf : ∀ i, i < n * size → f i = g i) : SlAt size v e n b cap cs g :=
  ⟨h.val, h.ent, h.le, h.max, h.sz, fun i hi => by rw [← hf i hi]; exact h.get i hi⟩
theorem OwnSl.congr {size n : Nat} {w w' : World} {v : Value} {f g : Nat → Value} (h : OwnSl size w n f v w') (hf : ∀ i, i < n * size → f i = g i) : OwnSl size w n g v w' := by
  obtain ⟨b, cap, cs, h1, h2, h3⟩ := h
  exact ⟨b, cap, cs, h1.congr hf, h2, h3⟩
theorem CallsR.mono {f : FuncId} {args : Array Value} {w : World} {R R' : Value → World → Prop} (h : CallsR P f args w R) (hr : ∀ v w', Ext w w' → R v w' → R' v w') : CallsR P f args w R' :=
  Calls.mono h (fun _ _ ⟨v, he, h1, h2⟩ => ⟨v, he, h1, hr v _ h1 h2⟩)
theorem RowsOut.of {w w' : World} {L : Own} {D : Froz} {N k : Nat} {β κ : Nat → Nat} {C : Nat → Array Value} {f : Nat → Nat → Value} {u : Value} {b cap : Nat} {cs : Array Value} (hM : Mem w w' L D) (hR : RowsD D N k β κ C f)
    (hs : SlAt 1 u (some (b, cs)) k b cap cs (fun i => .slice (some ⟨β i, 0, none⟩) N (κ i))) (hm : (b, cs) ∈ D) (hge : ∀ i, i < k → w.heap.size ≤ β i) (hb : w.heap.size ≤ b) : RowsOut w w' N k f u := by
  refine ⟨(b, cs) :: (List.range k).map (fun i => (β i, C i)), β, κ, C, b, cap, cs, fun x ds hx => ?_, ⟨fun i hi => ?_, hR.sl⟩, hs, List.mem_cons_self ..⟩
  · rcases List.mem_cons.1 hx with e | hx
    · simp only [Prod.mk.injEq] at e; obtain ⟨rfl, rfl⟩ := e; exact ⟨hb, hM.fzm hm⟩
    · obtain ⟨i, hi, e⟩ := List.mem_map.1 hx
      simp only [Prod.mk.injEq] at e; obtain ⟨rfl, rfl⟩ := e
      have hi : i < k := by simpa using hi
      exact ⟨hge i hi, hM.fzm (hR.mem i hi)⟩
  · exact List.mem_cons_of_mem _ (List.mem_map.2 ⟨i, by simpa using hi, rfl⟩)
theorem Sl.snocR {u : Value} {e : Option (Nat × Array Value)} {n N b cap : Nat} {β κ : Nat → Nat} (h : Sl 1 u e (n + 1) (fun i => if i < n * 1 then (fun i => .slice (some ⟨β i, 0, none⟩) N (κ i)) i else (fun _ => .slice (some ⟨b, 0, none⟩) N cap) (i - n * 1))) :
    Sl 1 u e (n + 1) (fun i => .slice (some ⟨up β n b i, 0, none⟩) N (up κ n cap i)) :=
  h.congr fun i hi => by
    by_cases e : i < n
    · rw [if_pos (by omega)]; simp only [up_ne (show i ≠ n by omega)]
    · rw [if_neg (by omega)]; simp only [show i = n by omega, up_eq]
/-- A slice in memory of its own, apart from the places L. -/
def FreshSl (w0 : World) (L : Own) (N : Nat) (f : Nat → Value) (u : Value) (w' : World) : Prop := ∃ b cap cs, SlAt 1 u (some (b, cs)) N b cap cs f ∧ Blk w' b cs ∧ w0.heap.size ≤ b ∧ ∀ (k : Nat) c ds, L[k]? = some (some (c, ds)) → c ≠ b
/-- A slice of one, that leads to such a slice. -/
def LitF (w0 : World) (L : Own) (N : Nat) (f : Nat → Value) (u : Value) (w' : World) : Prop := ∃ b x, u = .slice (some ⟨b, 0, none⟩) 1 1 ∧ Blk w' b #[x] ∧ FreshSl w0 L N f x w'
theorem FreshSl.last {w0 w w' : World} {L : Own} {N : Nat} {f : Nat → Value} {u : Value} (h : FreshSl w0 L N f u w) (hx : Ext w w') : FreshSl w0 L N f u w' := by
  obtain ⟨b, cap, cs, h1, h2, h3⟩ := h; exact ⟨b, cap, cs, h1, h2.ext hx, h3⟩
theorem LitF.last {w0 w w' : World} {L : Own} {N : Nat} {f : Nat → Value} {u : Value} (h : LitF w0 L N f u w) (hx : Ext w w') : LitF w0 L N f u w' := by
  obtain ⟨b, x, h1, h2, h3⟩ := h; exact ⟨b, x, h1, h2.ext hx, h3.last hx⟩
theorem OwnSl.fresh {X : List Nat} {w0 w w' : World} {L : Own} {D : Froz} {N : Nat} {f : Nat → Value} {u : Value} (hM : MemX X w0 w L D) (h : OwnSl 1 w N f u w') : FreshSl w0 L N f u w' := by
  obtain ⟨b, cap, cs, h1, h2, h3⟩ := h
  refine ⟨b, cap, cs, h1, h3, Nat.le_trans hM.bel.size h2, fun k c ds hk e => ?_⟩
  have := (hM.blk k c ds hk).2.lt
  omega
theorem MemX.addF {X : List Nat} {w0 w : World} {L : Own} {D : Froz} {N : Nat} {f : Nat → Value} {u : Value} (h : MemX X w0 w L D) (hf : FreshSl w0 L N f u w) : ∃ b cap cs, SlAt 1 u (some (b, cs)) N b cap cs f ∧ w0.heap.size ≤ b ∧ MemX X w0 w L ((b, cs) :: D) := by
  obtain ⟨b, cap, cs, h1, h2, h3, h4⟩ := hf
  refine ⟨b, cap, cs, h1, h3, h.bel, h.blk, h.apart, fun c ds hm => ?_⟩
  rcases List.mem_cons.1 hm with e | hm
  · simp only [Prod.mk.injEq] at e; obtain ⟨rfl, rfl⟩ := e; exact ⟨h2, h4⟩
  · exact h.froz c ds hm
section
variable {X : List Nat} {w0 : World} {D : Froz} {l : List Fact} {i : Nat} {L0 L : Own} {o : Oper} {a : Act} {w : World}
theorem par_fresh {N : Nat} {f : Nat → Value} (hl : Lasts l) (hS : Par X w0 D [] L0 L w) (hi : l[i]? = some (.rel (FreshSl w0 L0 N f))) (hc : Does P o a w (fun u w' => Ext w w' ∧ OwnSl 1 w N f u w')) :
    Does P o a w (After (Par X w0 D [] L0) (factsOf l) i L w) :=
  par_rel hl hS hi hc (fun _ _ h => OwnSl.fresh (hS.mem rfl) h)
theorem d_lit1 {n : Nat} {F : List (Nat × Value)} {N : Nat} {f : Nat → Value} {T e : TypeId} {x : Operand} {v : Value} {d : Option Tmp} {t : TypeId} {pos : String} {af : Array Edge} {gd : Option (Nat × Bool)} (hF : Fr n a F) (hx : look F x = some v) (hf : FreshSl w0 L0 N f v w)
    (hrun : ∀ (x : Option Addr) (n c : Nat) (w : World), (Instr.buildSlice T 1 #[(0, .slice x n c)]).run P w = .ok (.slice (some ⟨w.heap.size, 0, none⟩) 1 1) (w.alloc (.cells #[.slice x n c] e))) :
    Does P ⟨d, .buildSlice T 1 #[(0, x)], t, pos, af, gd⟩ a w (fun u w' => Ext w w' ∧ LitF w0 L0 N f u w') :=
  ⟨fun K Q hk => by
    have hf' := hf
    obtain ⟨b, cap, cs, h1, _⟩ := hf'
    have h1v := h1.val
    have := hk _ (w.alloc (.cells #[v] e)) ⟨Ext.alloc _ _, w.heap.size, v, rfl, Blk.new _ _ _, hf.last (Ext.alloc _ _)⟩
    unfold Oper.wp execOp
    have e1 : (#[(0, x)].map fun (i, x) => (i, a.eval x)) = #[(0, v)] := by simp [hF.eval hx]
    simp only [e1, Sem.run_bind]
    subst h1v
    rw [hrun]
    exact this⟩
end
theorem SlAt.get1e {v : Value} {e : Option (Nat × Array Value)} {n b cap : Nat} {cs : Array Value} {f : Nat → Value} {x : Value} (h : SlAt 1 v e n b cap cs f) (i : Nat) (hi : i < n) (hx : f i = x) : cs[0 + i * 1]? = some x := by
  rw [← hx]; exact h.get1 i hi
end Go.Sw
