/- Plain lemmas of a small calculus for walks over frames and own memory; no statement of the seat is proved here. -/
import Derived.Test.YtbeodbfbfbefkaaDoorSw11
set_option linter.unusedVariables false
set_option linter.unusedSimpArgs false
namespace Go.Sw
open Go Go.RowKit
section
variable {p n q : Int} {T U : Nat → Nat → Nat → Nat} {f v : Nat → Nat} {M : Nat → Nat → Nat}
theorem planeC_put {o : Nat} (j : Nat) (h : o = j * 6) (hj : j < 6) : splice (planeC M) o (vecC v) = planeC (fun a k => if a = j then v k else M a k) := by
  subst h
  apply fnC_ext (by rw [splice_size _ _ _ (by rw [vecC_size, planeC_size]; omega), planeC_size])
  intro i hi
  rw [splice_get _ _ _ _ (by rw [vecC_size, planeC_size]; omega), vecC_size]
  by_cases e : j * 6 ≤ i ∧ i < j * 6 + 6
  · rw [if_pos e, vecC_get (i - j * 6) rfl (by omega)]; dsimp only; rw [if_pos (by omega), show i - j * 6 = i % 6 by omega]
  · rw [if_neg e, planeC_get (i / 6) (i % 6) (by omega) (by omega) (by omega)]; dsimp only; rw [if_neg (by omega)]
theorem tabC_put {o : Nat} (a : Nat) (h : o = a * 36) (ha : a < 6) : splice (tabC T) o (planeC M) = tabC (fun i j k => if i = a then M j k else T i j k) := by
  subst h
  apply fnC_ext (by rw [splice_size _ _ _ (by rw [planeC_size, tabC_size]; omega), tabC_size])
  intro i hi
  rw [splice_get _ _ _ _ (by rw [planeC_size, tabC_size]; omega), planeC_size]
  by_cases e : a * 36 ≤ i ∧ i < a * 36 + 36
  · rw [if_pos e, planeC_get (i / 6 % 6) (i % 6) (by omega) (by omega) (by omega)]; dsimp only; rw [if_pos (by omega)]
  · rw [if_neg e, tabC_get (i / 36) (i / 6 % 6) (i % 6) (by omega) (by omega) (by omega) (by omega)]; dsimp only; rw [if_neg (by omega)]
theorem algC_eq {c : Array Value} (hs : c.size = 224) (h0 : c[0]? = some (.int .i64 p)) (h1 : c[1]? = some (.int .i64 n)) (hT : ∀ i j k, i < 6 → j < 6 → k < 6 → c[2 + i * 36 + j * 6 + k]? = some (.int .u8 ((T i j k : Nat) : Int)))
    (hf : ∀ i, i < 6 → c[218 + i]? = some (.int .u8 ((f i : Nat) : Int))) : c = algC p n T f := by
  apply Array.ext_getElem?
  intro i
  by_cases hi : i < 224
  · by_cases e0 : i = 0
    · subst e0; rw [h0, algC_p rfl]
    · by_cases e1 : i = 1
      · subst e1; rw [h1, algC_n rfl]
      · by_cases e2 : i < 218
        · have e : i = 2 + ((i - 2) / 36) * 36 + ((i - 2) / 6 % 6) * 6 + (i - 2) % 6 := by omega
          rw [e, hT _ _ _ (by omega) (by omega) (by omega), algC_T _ _ _ rfl (by omega) (by omega) (by omega)]
        · have e : i = 218 + (i - 218) := by omega
          rw [e, hf _ (by omega), algC_f _ rfl (by omega)]
  · rw [Array.getElem?_eq_none (by omega), Array.getElem?_eq_none (by rw [cells_size]; omega)]
theorem algC_setp {o : Nat} (h : o = 0) : (algC p n T f).setIfInBounds o (.int .i64 q) = algC q n T f := by
  subst h
  refine algC_eq (by rw [Array.size_setIfInBounds, cells_size]) ?_ ?_ ?_ ?_
  · rw [Array.getElem?_setIfInBounds_self_of_lt (by rw [cells_size]; omega)]
  · rw [Array.getElem?_setIfInBounds_ne (by omega)]; exact algC_n rfl
  · intro i j k hi hj hk; rw [Array.getElem?_setIfInBounds_ne (by omega)]; exact algC_T i j k rfl hi hj hk
  · intro i hi; rw [Array.getElem?_setIfInBounds_ne (by omega)]; exact algC_f i rfl hi
theorem algC_setn {o : Nat} (h : o = 1) : (algC p n T f).setIfInBounds o (.int .i64 q) = algC p q T f := by
  subst h
  refine algC_eq (by rw [Array.size_setIfInBounds, cells_size]) ?_ ?_ ?_ ?_
  · rw [Array.getElem?_setIfInBounds_ne (by omega)]; exact algC_p rfl
  · rw [Array.getElem?_setIfInBounds_self_of_lt (by rw [cells_size]; omega)]
  · intro i j k hi hj hk; rw [Array.getElem?_setIfInBounds_ne (by omega)]; exact algC_T i j k rfl hi hj hk
  · intro i hi; rw [Array.getElem?_setIfInBounds_ne (by omega)]; exact algC_f i rfl hi
theorem algC_putT {o : Nat} (h : o = 2) : splice (algC p n T f) o (tabC U) = algC p n U f := by
  subst h
  have hz : 2 + (tabC U).size ≤ (algC p n T f).size := by rw [tabC_size, cells_size]; omega
  refine algC_eq (by rw [splice_size _ _ _ hz, cells_size]) ?_ ?_ ?_ ?_
  · rw [splice_get _ _ _ _ hz, if_neg (by omega)]; exact algC_p rfl
  · rw [splice_get _ _ _ _ hz, if_neg (by omega)]; exact algC_n rfl
  · intro i j k hi hj hk; rw [splice_get _ _ _ _ hz, tabC_size, if_pos (by omega)]; exact tabC_get i j k (by omega) hi hj hk
  · intro i hi; rw [splice_get _ _ _ _ hz, tabC_size, if_neg (by omega)]; exact algC_f i rfl hi
theorem algC_putF {o : Nat} (h : o = 218) : splice (algC p n T f) o (vecC v) = algC p n T v := by
  subst h
  have hz : 218 + (vecC v).size ≤ (algC p n T f).size := by rw [vecC_size, cells_size]; omega
  refine algC_eq (by rw [splice_size _ _ _ hz, cells_size]) ?_ ?_ ?_ ?_
  · rw [splice_get _ _ _ _ hz, if_neg (by omega)]; exact algC_p rfl
  · rw [splice_get _ _ _ _ hz, if_neg (by omega)]; exact algC_n rfl
  · intro i j k hi hj hk; rw [splice_get _ _ _ _ hz, vecC_size, if_neg (by omega)]; exact algC_T i j k rfl hi hj hk
  · intro i hi; rw [splice_get _ _ _ _ hz, vecC_size, if_pos (by omega)]; exact vecC_get i (by omega) hi
end
end Go.Sw

namespace Go.Sw
open Go Go.RowKit
variable {P : Program}
section
variable {n : Nat} {F : List (Nat × Value)} {a : Act} {w w0 : World} {d : Option Tmp} {t : TypeId} {pos : String} {af : Array Edge} {gd : Option (Nat × Bool)} {T : TypeId} {x y : Operand} {X : List Nat} {L : Own} {D : Froz}
theorem d_makeC {len : Nat} {cs : Array Value} {e : TypeId} (k : Nat) (hM : MemX X w0 w L D) (hF : Fr n a F) (hx : look F x = some (.int .i64 (len : Int))) (hy : look F y = some (.int .i64 (len : Int)))
    (hrun : ∀ w, (Instr.makeSlice T (.int .i64 (len : Int)) (.int .i64 (len : Int))).run P w = .ok (.slice (some ⟨w.heap.size, 0, none⟩) len len) (w.alloc (.cells cs e))) :
    Does P ⟨d, .makeSlice T x y, t, pos, af, gd⟩ a w (fun u w' => ∃ b, u = .slice (some ⟨b, 0, none⟩) len len ∧ MemX X w0 w' (L.set k (some (b, cs))) D ∧ Ext w w') :=
  ⟨fun K Q hk => by
    have := hk _ (w.alloc (.cells cs e)) ⟨w.heap.size, rfl, hM.fill (Ext.alloc _ _) k (Blk.new _ _ _) (Nat.le_refl _), Ext.alloc _ _⟩
    unfold Oper.wp execOp
    simp only [hF.eval hx, hF.eval hy, Sem.run_bind, hrun, Result.andThen_ok, Sem.run_pure]
    exact this⟩
theorem g_toArr {b o len c k : Nat} {e : TypeId} (hT : P.underlying T = some (.array k e)) (hF : Fr n a F) (hx : look F x = some (.slice (some ⟨b, o, none⟩) len c)) (hk : k ≤ len) : Gives P ⟨d, .sliceToArrayPointer T x, t, pos, af, gd⟩ a w (ptr b o) :=
  gives_of_run (by simp [execOp, hF.eval hx, Instr.arrayAt, run_underlying hT, show ¬ len < k by omega])
end
end Go.Sw

namespace Go.Sw
open Go Go.RowKit
variable {P : Program}
/-! ### Lists of rows: each row a block of its own -/
theorem MemX.addD {X : List Nat} {w0 w w' : World} {L : Own} {D D' : Froz} (h : MemX X w0 w L D) (hb : Ext w w') (hD : ∀ b cs, (b, cs) ∈ D' → w.heap.size ≤ b ∧ Blk w' b cs) : MemX X w0 w' L (D' ++ D) := by
  have h2 := h.ext hb
  refine ⟨h2.bel, h2.blk, h2.apart, fun b cs hm => ?_⟩
  rcases List.mem_append.1 hm with hm | hm
  · refine ⟨(hD b cs hm).2, fun k c ds hk e => ?_⟩
    have h3 := (h.blk k c ds hk).2.lt
    have h4 := (hD b cs hm).1
    omega
  · exact h2.froz b cs hm
theorem MemX.fzm {X : List Nat} {w0 w : World} {L : Own} {D : Froz} (h : MemX X w0 w L D) {b : Nat} {cs : Array Value} (hk : (b, cs) ∈ D) : Blk w b cs := (h.froz b cs hk).1
def up {α : Type} (f : Nat → α) (m : Nat) (x : α) (i : Nat) : α := if i = m then x else f i
theorem up_eq {α : Type} {f : Nat → α} {m : Nat} {x : α} : up f m x m = x := by simp [up]
theorem up_ne {α : Type} {f : Nat → α} {m i : Nat} {x : α} (h : i ≠ m) : up f m x i = f i := by simp [up, h]
structure RowsD (D : Froz) (N m : Nat) (β κ : Nat → Nat) (C : Nat → Array Value) (f : Nat → Nat → Value) : Prop where
  mem : ∀ i, i < m → (β i, C i) ∈ D
  sl : ∀ i, i < m → SlAt 1 (.slice (some ⟨β i, 0, none⟩) N (κ i)) (some (β i, C i)) N (β i) (κ i) (C i) (f i)
namespace RowsD
variable {D D' : Froz} {N m : Nat} {β κ : Nat → Nat} {C : Nat → Array Value} {f : Nat → Nat → Value}
theorem get (h : RowsD D N m β κ C f) {i : Nat} (hi : i < m) (c : Nat) (hc : c < N) : (C i)[0 + c * 1]? = some (f i c) := (h.sl i hi).get1 c hc
theorem more (h : RowsD D N m β κ C f) (hs : ∀ x ∈ D, x ∈ D') : RowsD D' N m β κ C f := ⟨fun i hi => hs _ (h.mem i hi), h.sl⟩
theorem none : RowsD D N 0 β κ C f := ⟨fun i hi => absurd hi (by omega), fun i hi => absurd hi (by omega)⟩
theorem congr (h : RowsD D N m β κ C f) {g : Nat → Nat → Value} (hf : ∀ i, i < m → ∀ c, c < N → f i c = g i c) : RowsD D N m β κ C g :=
  ⟨h.mem, fun i hi => by
    have := h.sl i hi
    exact ⟨this.val, this.ent, this.le, this.max, this.sz, fun c hc => by rw [← hf i hi c (by omega)]; exact this.get c hc⟩⟩
theorem snoc (h : RowsD D N m β κ C f) {b cap : Nat} {cs : Array Value} {v : Value} {r : Nat → Value} (hm : (b, cs) ∈ D) (hs : SlAt 1 v (some (b, cs)) N b cap cs r) : RowsD D N (m + 1) (up β m b) (up κ m cap) (up C m cs) (up f m r) :=
  ⟨fun i hi => by
    by_cases e : i = m
    · subst e; simp only [up_eq]; exact hm
    · simp only [up_ne e]; exact h.mem i (by omega),
   fun i hi => by
    by_cases e : i = m
    · subst e; simp only [up_eq]; have := hs.val; subst this; exact hs
    · simp only [up_ne e]; exact h.sl i (by omega)⟩
end RowsD
def rowV (β κ : Nat → Nat) (N : Nat) (i : Nat) : Value := .slice (some ⟨β i, 0, none⟩) N (κ i)
def RowsOut (w w' : World) (N k : Nat) (f : Nat → Nat → Value) (u : Value) : Prop := ∃ (D : Froz) (β κ : Nat → Nat) (C : Nat → Array Value) (b cap : Nat) (cs : Array Value),
  (∀ x ds, (x, ds) ∈ D → w.heap.size ≤ x ∧ Blk w' x ds) ∧ RowsD D N k β κ C f ∧ SlAt 1 u (some (b, cs)) k b cap cs (fun i => .slice (some ⟨β i, 0, none⟩) N (κ i)) ∧ (b, cs) ∈ D
theorem SlAt.set {v : Value} {n b cap : Nat} {cs : Array Value} {f g : Nat → Value} {x : Value} (h : SlAt 1 v (some (b, cs)) n b cap cs f) (i : Nat) {o : Nat} (ho : o = i) (hi : i < n) (hg : ∀ j, j < n → g j = if j = i then x else f j) : SlAt 1 v (some (b, cs.setIfInBounds o x)) n b cap (cs.setIfInBounds o x) g := by
  subst ho
  refine ⟨h.val, rfl, h.le, h.max, by rw [Array.size_setIfInBounds]; exact h.sz, fun j hj => ?_⟩
  rw [Array.getElem?_setIfInBounds]
  have hsz := h.sz
  have hle := h.le
  by_cases e : o = j
  · subst e; rw [if_pos rfl, if_pos (by omega), hg o hi, if_pos rfl]
  · rw [if_neg e, hg j (by omega), if_neg (fun x => e x.symm)]; exact h.get j hj
theorem SlAt.congr {size : Nat} {v : Value} {e : Option (Nat × Array Value)} {n b cap : Nat} {cs : Array Value} {f g : Nat → Value} (h : SlAt size v e n b cap cs f) (hf : ∀ i, i < n * size → f i = g i) : SlAt size v e n b cap cs g :=
  ⟨h.val, h.ent, h.le, h.max, h.sz, fun i hi => by rw [← hf i hi]; exact h.get i hi⟩
theorem OwnSl.congr {size n : Nat} {w w' : World} {v : Value} {f g : Nat → Value} (h : OwnSl size w n f v w') (hf : ∀ i, i < n * size → f i = g i) : OwnSl size w n g v w' := by
  obtain ⟨b, cap, cs, h1, h2, h3⟩ := h
  exact ⟨b, cap, cs, h1.congr hf, h2, h3⟩
theorem CallsR.mono {f : FuncId} {args : Array Value} {w : World} {R R' : Value → World → Prop} (h : CallsR P f args w R) (hr : ∀ v w', Ext w w' → R v w' → R' v w') : CallsR P f args w R' :=
  Calls.mono h (fun _ _ ⟨v, he, h1, h2⟩ => ⟨v, he, h1, hr v _ h1 h2⟩)
theorem RowsOut.of {w w' : World} {L : Own} {D : Froz} {N k : Nat} {β κ : Nat → Nat} {C : Nat → Array Value} {f : Nat → Nat → Value} {u : Value} {b cap : Nat} {cs : Array Value} (hM : Mem w w' L D) (hR : RowsD D N k β κ C f)
    (hs : SlAt 1 u (some (b, cs)) k b cap cs (fun i => .slice (some ⟨β i, 0, none⟩) N (κ i))) (hm : (b, cs) ∈ D) (hge : ∀ i, i < k → w.heap.size ≤ β i) (hb : w.heap.size ≤ b) : RowsOut w w' N k f u := by
  refine ⟨(b, cs) :: (List.range k).map (fun i => (β i, C i)), β, κ, C, b, cap, cs, fun x ds hx => ?_, ⟨fun i hi => ?_, hR.sl⟩, hs, List.mem_cons_self ..⟩
  · rcases List.mem_cons.1 hx with e | hx
    · simp only [Prod.mk.injEq] at e; obtain ⟨rfl, rfl⟩ := e; exact ⟨hb, hM.fzm hm⟩
    · obtain ⟨i, hi, e⟩ := List.mem_map.1 hx
      simp only [Prod.mk.injEq] at e; obtain ⟨rfl, rfl⟩ := e
      have hi : i < k := by simpa using hi
      exact ⟨hge i hi, hM.fzm (hR.mem i hi)⟩
  · exact List.mem_cons_of_mem _ (List.mem_map.2 ⟨i, by simpa using hi, rfl⟩)
theorem Sl.snocR {u : Value} {e : Option (Nat × Array Value)} {n N b cap : Nat} {β κ : Nat → Nat} (h : Sl 1 u e (n + 1) (fun i => if i < n * 1 then (fun i => .slice (some ⟨β i, 0, none⟩) N (κ i)) i else (fun _ => .slice (some ⟨b, 0, none⟩) N cap) (i - n * 1))) :
    Sl 1 u e (n + 1) (fun i => .slice (some ⟨up β n b i, 0, none⟩) N (up κ n cap i)) :=
  h.congr fun i hi => by
    by_cases e : i < n
    · rw [if_pos (by omega)]; simp only [up_ne (show i ≠ n by omega)]
    · rw [if_neg (by omega)]; simp only [show i = n by omega, up_eq]
def FreshSl (w0 : World) (L : Own) (N : Nat) (f : Nat → Value) (u : Value) (w' : World) : Prop := ∃ b cap cs, SlAt 1 u (some (b, cs)) N b cap cs f ∧ Blk w' b cs ∧ w0.heap.size ≤ b ∧ ∀ (k : Nat) c ds, L[k]? = some (some (c, ds)) → c ≠ b
def LitF (w0 : World) (L : Own) (N : Nat) (f : Nat → Value) (u : Value) (w' : World) : Prop := ∃ b x, u = .slice (some ⟨b, 0, none⟩) 1 1 ∧ Blk w' b #[x] ∧ FreshSl w0 L N f x w'
theorem FreshSl.last {w0 w w' : World} {L : Own} {N : Nat} {f : Nat → Value} {u : Value} (h : FreshSl w0 L N f u w) (hx : Ext w w') : FreshSl w0 L N f u w' := by
  obtain ⟨b, cap, cs, h1, h2, h3⟩ := h; exact ⟨b, cap, cs, h1, h2.ext hx, h3⟩
theorem LitF.last {w0 w w' : World} {L : Own} {N : Nat} {f : Nat → Value} {u : Value} (h : LitF w0 L N f u w) (hx : Ext w w') : LitF w0 L N f u w' := by
  obtain ⟨b, x, h1, h2, h3⟩ := h; exact ⟨b, x, h1, h2.ext hx, h3.last hx⟩
theorem OwnSl.fresh {X : List Nat} {w0 w w' : World} {L : Own} {D : Froz} {N : Nat} {f : Nat → Value} {u : Value} (hM : MemX X w0 w L D) (h : OwnSl 1 w N f u w') : FreshSl w0 L N f u w' := by
  obtain ⟨b, cap, cs, h1, h2, h3⟩ := h
  refine ⟨b, cap, cs, h1, h3, Nat.le_trans hM.bel.size h2, fun k c ds hk e => ?_⟩
  have := (hM.blk k c ds hk).2.lt
  omega
theorem MemX.addF {X : List Nat} {w0 w : World} {L : Own} {D : Froz} {N : Nat} {f : Nat → Value} {u : Value} (h : MemX X w0 w L D) (hf : FreshSl w0 L N f u w) : ∃ b cap cs, SlAt 1 u (some (b, cs)) N b cap cs f ∧ w0.heap.size ≤ b ∧ MemX X w0 w L ((b, cs) :: D) := by
  obtain ⟨b, cap, cs, h1, h2, h3, h4⟩ := hf
  refine ⟨b, cap, cs, h1, h3, h.bel, h.blk, h.apart, fun c ds hm => ?_⟩
  rcases List.mem_cons.1 hm with e | hm
  · simp only [Prod.mk.injEq] at e; obtain ⟨rfl, rfl⟩ := e; exact ⟨h2, h4⟩
  · exact h.froz c ds hm
section
variable {X : List Nat} {w0 : World} {D : Froz} {l : List Fact} {i : Nat} {L0 L : Own} {o : Oper} {a : Act} {w : World}
theorem par_fresh {N : Nat} {f : Nat → Value} (hl : Lasts l) (hS : Par X w0 D [] L0 L w) (hi : l[i]? = some (.rel (FreshSl w0 L0 N f))) (hc : Does P o a w (fun u w' => Ext w w' ∧ OwnSl 1 w N f u w')) :
    Does P o a w (After (Par X w0 D [] L0) (factsOf l) i L w) :=
  par_rel hl hS hi hc (fun _ _ h => OwnSl.fresh (hS.mem rfl) h)
theorem d_lit1 {n : Nat} {F : List (Nat × Value)} {N : Nat} {f : Nat → Value} {T e : TypeId} {x : Operand} {v : Value} {d : Option Tmp} {t : TypeId} {pos : String} {af : Array Edge} {gd : Option (Nat × Bool)} (hF : Fr n a F) (hx : look F x = some v) (hf : FreshSl w0 L0 N f v w)
    (hrun : ∀ (x : Option Addr) (n c : Nat) (w : World), (Instr.buildSlice T 1 #[(0, .slice x n c)]).run P w = .ok (.slice (some ⟨w.heap.size, 0, none⟩) 1 1) (w.alloc (.cells #[.slice x n c] e))) :
    Does P ⟨d, .buildSlice T 1 #[(0, x)], t, pos, af, gd⟩ a w (fun u w' => Ext w w' ∧ LitF w0 L0 N f u w') :=
  ⟨fun K Q hk => by
    have hf' := hf
    obtain ⟨b, cap, cs, h1, _⟩ := hf'
    have h1v := h1.val
    have := hk _ (w.alloc (.cells #[v] e)) ⟨Ext.alloc _ _, w.heap.size, v, rfl, Blk.new _ _ _, hf.last (Ext.alloc _ _)⟩
    unfold Oper.wp execOp
    have e1 : (#[(0, x)].map fun (i, x) => (i, a.eval x)) = #[(0, v)] := by simp [hF.eval hx]
    simp only [e1, Sem.run_bind]
    subst h1v
    rw [hrun]
    exact this⟩
end
theorem SlAt.get1e {v : Value} {e : Option (Nat × Array Value)} {n b cap : Nat} {cs : Array Value} {f : Nat → Value} {x : Value} (h : SlAt 1 v e n b cap cs f) (i : Nat) (hi : i < n) (hx : f i = x) : cs[0 + i * 1]? = some x := by
  rw [← hx]; exact h.get1 i hi
end Go.Sw

/-! Sums, rows modulo p, reduced lists of rows: plain lemmas, no program. -/
namespace Go.Ech
def sI (f : Nat → Int) : Nat → Int
  | 0 => 0
  | n + 1 => sI f n + f n
theorem sI_congr {f g : Nat → Int} {n : Nat} (h : ∀ i, i < n → f i = g i) : sI f n = sI g n := by
  induction n with
  | zero => rfl
  | succ n ih => simp only [sI]; rw [ih (fun i hi => h i (by omega)), h n (by omega)]
theorem sI_zero {f : Nat → Int} {n : Nat} (h : ∀ i, i < n → f i = 0) : sI f n = 0 := by
  induction n with
  | zero => rfl
  | succ n ih => simp only [sI]; rw [ih (fun i hi => h i (by omega)), h n (by omega)]; rfl
theorem sI_one {f : Nat → Int} {n a : Nat} (ha : a < n) (h : ∀ i, i < n → i ≠ a → f i = 0) : sI f n = f a := by
  induction n with
  | zero => omega
  | succ n ih =>
    simp only [sI]
    by_cases e : a = n
    · subst e; rw [sI_zero (fun i hi => h i (by omega) (by omega))]; omega
    · rw [ih (by omega) (fun i hi => h i (by omega)), h n (by omega) (by omega)]; omega
theorem sI_two {f : Nat → Int} {n a b : Nat} (ha : a < n) (hb : b < n) (hab : a ≠ b) (h : ∀ i, i < n → i ≠ a → i ≠ b → f i = 0) : sI f n = f a + f b := by
  induction n with
  | zero => omega
  | succ n ih =>
    simp only [sI]
    by_cases e : a = n
    · subst e; rw [sI_one (a := b) (by omega) (fun i hi hib => h i (by omega) (by omega) hib)]; omega
    · by_cases e2 : b = n
      · subst e2; rw [sI_one (a := a) (by omega) (fun i hi hia => h i (by omega) hia (by omega))]
      · rw [ih (by omega) (by omega) (fun i hi => h i (by omega)), h n (by omega) (by omega) (by omega)]; omega
theorem sI_add (f g : Nat → Int) (n : Nat) : sI (fun i => f i + g i) n = sI f n + sI g n := by
  induction n with
  | zero => rfl
  | succ n ih => simp only [sI]; rw [ih]; omega
theorem sI_mul (k : Int) (f : Nat → Int) (n : Nat) : sI (fun i => k * f i) n = k * sI f n := by
  induction n with
  | zero => simp [sI]
  | succ n ih => simp only [sI]; rw [ih, Int.mul_add]
theorem sI_dvd {p : Int} {f : Nat → Int} {n : Nat} (h : ∀ i, i < n → p ∣ f i) : p ∣ sI f n := by
  induction n with
  | zero => exact Int.dvd_zero p
  | succ n ih => exact Int.dvd_add (ih fun i hi => h i (by omega)) (h n (by omega))
theorem sI_swap (f : Nat → Nat → Int) (n m : Nat) : sI (fun i => sI (fun j => f i j) m) n = sI (fun j => sI (fun i => f i j) n) m := by
  induction n with
  | zero => simp only [sI]; exact (sI_zero fun i _ => rfl).symm
  | succ n ih => simp only [sI]; rw [ih, ← sI_add]

def dot (N : Nat) (r x : Nat → Int) : Int := sI (fun c => r c * x c) N
abbrev ci (r : Nat → Nat) : Nat → Int := fun c => (r c : Int)
def Ker (p N : Nat) (M : Nat → Nat → Nat) (m : Nat) (x : Nat → Int) : Prop := ∀ i, i < m → (p : Int) ∣ dot N (ci (M i)) x
theorem dot_lin {p N : Nat} {r s t x : Nat → Int} {k : Int} (h : ∀ c, c < N → (p : Int) ∣ t c - (r c + k * s c)) : (p : Int) ∣ dot N t x - (dot N r x + k * dot N s x) := by
  unfold dot
  have e : sI (fun c => t c * x c) N - (sI (fun c => r c * x c) N + k * sI (fun c => s c * x c) N) = sI (fun c => (t c - (r c + k * s c)) * x c) N := by
    rw [← sI_mul, ← sI_add]
    have : sI (fun c => t c * x c) N = sI (fun c => (t c - (r c + k * s c)) * x c) N + sI (fun c => r c * x c + k * (s c * x c)) N := by
      rw [← sI_add]; exact sI_congr fun c _ => by grind
    omega
  rw [e]
  exact sI_dvd fun c hc => Int.dvd_mul_of_dvd_left (h c hc)
theorem dvd_iff_sub {p a b : Int} (h : p ∣ a - b) : p ∣ a ↔ p ∣ b := by
  constructor
  · intro ha; have := Int.dvd_sub ha h; rwa [show a - (a - b) = b by omega] at this
  · intro hb; have := Int.dvd_add hb h; rwa [show b + (a - b) = a by omega] at this
theorem dot_add (N : Nat) (r x y : Nat → Int) : dot N r (fun c => x c + y c) = dot N r x + dot N r y := by
  unfold dot; rw [← sI_add]; exact sI_congr fun c _ => by grind
theorem dot_mul (N : Nat) (k : Int) (r x : Nat → Int) : dot N r (fun c => k * x c) = k * dot N r x := by
  unfold dot; rw [← sI_mul]; exact sI_congr fun c _ => by grind

structure Rref (p N : Nat) (E : Nat → Nat → Nat) (k : Nat) (ld : Nat → Nat) : Prop where
  lt : ∀ i, i < k → ld i < N
  mono : ∀ i j, i < j → j < k → ld i < ld j
  one : ∀ i, i < k → E i (ld i) = 1
  left : ∀ i, i < k → ∀ c, c < ld i → E i c = 0
  zero : ∀ i j, i < k → j < k → i ≠ j → E j (ld i) = 0
  small : ∀ i, i < k → ∀ c, c < N → E i c < p
def isLd (k : Nat) (ld : Nat → Nat) (c : Nat) : Prop := ∃ i, i < k ∧ ld i = c
instance (k : Nat) (ld : Nat → Nat) (c : Nat) : Decidable (isLd k ld c) := inferInstanceAs (Decidable (∃ i, i < k ∧ ld i = c))
def ldAt (k : Nat) (ld : Nat → Nat) (c : Nat) : Option Nat := (List.range k).find? (fun i => ld i == c)
theorem ldAt_some {k : Nat} {ld : Nat → Nat} {c i : Nat} (h : ldAt k ld c = some i) : i < k ∧ ld i = c := by
  unfold ldAt at h
  have h1 := List.find?_some h
  have h2 := List.mem_of_find?_eq_some h
  exact ⟨by simpa using h2, by simpa using h1⟩
theorem ldAt_none {k : Nat} {ld : Nat → Nat} {c : Nat} (h : ldAt k ld c = none) : ∀ i, i < k → ld i ≠ c := by
  unfold ldAt at h
  intro i hi e
  have := List.find?_eq_none.1 h i (by simpa using hi)
  simp [e] at this
def free (E : Nat → Nat → Nat) (k : Nat) (ld : Nat → Nat) (c : Nat) : Nat → Int := fun d =>
  if d = c then 1 else match ldAt k ld d with
    | some j => -(E j c : Int)
    | none => 0
namespace Rref
variable {p N k : Nat} {E : Nat → Nat → Nat} {ld : Nat → Nat}
theorem inj (h : Rref p N E k ld) {i j : Nat} (hi : i < k) (hj : j < k) (e : ld i = ld j) : i = j := by
  rcases Nat.lt_trichotomy i j with hh | hh | hh
  · have := h.mono i j hh hj; omega
  · exact hh
  · have := h.mono j i hh hi; omega
theorem ldAt_eq (h : Rref p N E k ld) {i : Nat} (hi : i < k) : ldAt k ld (ld i) = some i := by
  cases e : ldAt k ld (ld i) with
  | none => exact absurd rfl (ldAt_none e i hi)
  | some j => have := ldAt_some e; rw [h.inj this.1 hi this.2]
theorem free_ker (h : Rref p N E k ld) {c : Nat} (hc : c < N) (hn : ¬ isLd k ld c) : Ker p N E k (free E k ld c) := by
  intro i hi
  have hne : c ≠ ld i := fun e => hn ⟨i, hi, e.symm⟩
  have e : dot N (ci (E i)) (free E k ld c) = 0 := by
    unfold dot
    rw [sI_two hc (h.lt i hi) hne]
    · have h1 : free E k ld c c = 1 := by simp [free]
      have h2 : free E k ld c (ld i) = -(E i c : Int) := by
        unfold free; rw [if_neg (Ne.symm hne), h.ldAt_eq hi]
      rw [h1, h2]; simp only [ci, h.one i hi]; omega
    · intro d hd hdc hdi
      unfold free; rw [if_neg hdc]
      cases e : ldAt k ld d with
      | none => simp
      | some j =>
        obtain ⟨hj, rfl⟩ := ldAt_some e
        have : j ≠ i := fun e => hdi (by rw [e])
        simp [ci, h.zero j i hj hi this]
  rw [e]; exact Int.dvd_zero _
theorem ker_lead (h : Rref p N E k ld) {x : Nat → Int} (hx : Ker p N E k x) {i : Nat} (hi : i < k) (hz : ∀ d, ld i < d → d < N → x d = 0) : (p : Int) ∣ x (ld i) := by
  have := hx i hi
  unfold dot at this
  rw [sI_one (h.lt i hi)] at this
  · simpa [ci, h.one i hi] using this
  · intro d hd hne
    rcases Nat.lt_or_gt_of_ne hne with hh | hh
    · simp [ci, h.left i hi d hh]
    · simp [hz d hh hd]
end Rref
theorem ld_same {k k' : Nat} {ld ld' : Nat → Nat} (hm : ∀ i j, i < j → j < k → ld i < ld j) (hm' : ∀ i j, i < j → j < k' → ld' i < ld' j) (h : ∀ c, isLd k ld c ↔ isLd k' ld' c) :
    k = k' ∧ ∀ i, i < k → ld i = ld' i := by
  have half : ∀ {k k' : Nat} {ld ld' : Nat → Nat}, (∀ i j, i < j → j < k → ld i < ld j) → (∀ i j, i < j → j < k' → ld' i < ld' j) → (∀ c, isLd k ld c ↔ isLd k' ld' c) → ∀ i, (∀ j, j < i → j < k ∧ j < k' ∧ ld j = ld' j) → i < k → i < k' ∧ ld' i ≤ ld i := by
    intro k k' ld ld' hm hm' h i hall hi
    obtain ⟨j, hj, e⟩ := (h (ld i)).1 ⟨i, hi, rfl⟩
    have hij : i ≤ j := by
      rcases Nat.lt_or_ge j i with hh | hh
      · have := hall j hh; have := hm j i hh hi; omega
      · exact hh
    refine ⟨by omega, ?_⟩
    by_cases e2 : i = j
    · subst e2; omega
    · have := hm' i j (by omega) hj; omega
  have key : ∀ i, (∀ j, j < i → j < k ∧ j < k' ∧ ld j = ld' j) → (i < k ↔ i < k') ∧ (i < k → ld i = ld' i) := by
    intro i hall
    have a := half hm hm' h i hall
    have b := half hm' hm (fun c => (h c).symm) i (fun j hj => ⟨(hall j hj).2.1, (hall j hj).1, (hall j hj).2.2.symm⟩)
    refine ⟨⟨fun x => (a x).1, fun x => (b x).1⟩, fun x => ?_⟩
    have := a x; have := b this.1; omega
  have all : ∀ i, i ≤ k → i ≤ k' → ∀ j, j < i → j < k ∧ j < k' ∧ ld j = ld' j := by
    intro i
    induction i with
    | zero => intro _ _ j hj; omega
    | succ i ih =>
      intro h1 h2 j hj
      have hi := ih (by omega) (by omega)
      by_cases e : j = i
      · subst e; exact ⟨by omega, by omega, (key j hi).2 (by omega)⟩
      · exact hi j (by omega)
  have hk : k = k' := by
    rcases Nat.lt_trichotomy k k' with hh | hh | hh
    · have := (key k (all k (Nat.le_refl _) (by omega))).1.2 hh; omega
    · exact hh
    · have := (key k' (all k' (by omega) (Nat.le_refl _))).1.1 hh; omega
  exact ⟨hk, fun i hi => (all k (Nat.le_refl _) (by omega) i hi).2.2⟩
theorem rref_unique {p N k k' : Nat} {E E' : Nat → Nat → Nat} {ld ld' : Nat → Nat} (hp : 2 ≤ p) (h : Rref p N E k ld) (h' : Rref p N E' k' ld') (hk : ∀ x, Ker p N E k x ↔ Ker p N E' k' x) :
    k = k' ∧ (∀ i, i < k → ld i = ld' i) ∧ ∀ i, i < k → ∀ c, c < N → E i c = E' i c := by
  have half : ∀ {k k' : Nat} {E E' : Nat → Nat → Nat} {ld ld' : Nat → Nat}, Rref p N E k ld → Rref p N E' k' ld' → (∀ x, Ker p N E k x ↔ Ker p N E' k' x) → ∀ c, isLd k ld c → isLd k' ld' c := by
    intro k k' E E' ld ld' h h' hk c hc
    obtain ⟨i, hi, rfl⟩ := hc
    refine Decidable.byContradiction fun hn => ?_
    have hx := (hk _).2 (h'.free_ker (h.lt i hi) hn)
    -- the free vector is 0 behind c
    have := h.ker_lead hx hi (fun d hd hdN => by
      unfold free; rw [if_neg (by omega)]
      cases e : ldAt k' ld' d with
      | none => rfl
      | some j => obtain ⟨hj, rfl⟩ := ldAt_some e; simp [h'.left j hj _ hd])
    simp only [free, if_true] at this
    have := Int.le_of_dvd (by omega) this
    omega
  have hld := ld_same h.mono h'.mono (fun c => ⟨half h h' hk c, half h' h (fun x => (hk x).symm) c⟩)
  obtain ⟨rfl, hl⟩ := hld
  refine ⟨rfl, hl, fun i hi c hc => ?_⟩
  by_cases hlc : isLd k ld c
  · obtain ⟨j, hj, rfl⟩ := hlc
    by_cases e : j = i
    · subst e; rw [h.one j hj, hl j hj, h'.one j hj]
    · rw [h.zero j i hj hi e, hl j hj, h'.zero j i hj hi e]
  · have hx := (hk _).1 (h.free_ker hc hlc) i hi
    have hne : c ≠ ld' i := fun e => hlc ⟨i, hi, by rw [hl i hi, e]⟩
    have e : dot N (ci (E' i)) (free E k ld c) = (E' i c : Int) - (E i c : Int) := by
      unfold dot
      rw [sI_two hc (h'.lt i hi) hne]
      · have h1 : free E k ld c c = 1 := by simp [free]
        have h2 : free E k ld c (ld' i) = -(E i c : Int) := by
          unfold free; rw [if_neg (Ne.symm hne), ← hl i hi, h.ldAt_eq hi]
        rw [h1, h2]; simp only [ci, h'.one i hi]; omega
      · intro d hd hdc hdi
        unfold free; rw [if_neg hdc]
        cases e : ldAt k ld d with
        | none => simp
        | some j =>
          obtain ⟨hj, rfl⟩ := ldAt_some e
          have : j ≠ i := fun e => hdi (by rw [e, hl i hi])
          simp [ci, hl j hj, h'.zero j i hj hi this]
    rw [e] at hx
    have h1 := h.small i hi c hc
    have h2 := h'.small i hi c hc
    obtain ⟨q, hq⟩ := hx
    have : q = 0 := by
      rcases Int.lt_trichotomy q 0 with hh | hh | hh
      · have := Int.mul_le_mul_of_nonneg_left (show q ≤ -1 by omega) (show (0 : Int) ≤ p by omega); omega
      · exact hh
      · have := Int.mul_le_mul_of_nonneg_left (show 1 ≤ q by omega) (show (0 : Int) ≤ p by omega); omega
    subst this; omega
end Go.Ech
