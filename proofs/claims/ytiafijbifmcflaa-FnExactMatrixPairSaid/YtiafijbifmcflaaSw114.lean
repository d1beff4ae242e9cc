/- Plain lemmas of a small calculus for walks over frames and own memory; no statement of the seat is proved here. -/
import Derived.Test.YtiafijbifmcflaaSw36
import Derived.DeepKeys4
import Derived.StringKeys
import Derived.Test.YtiafijbifmcflaaSw30
set_option linter.unusedVariables false
set_option linter.unusedSimpArgs false
namespace Go.Sw
open Go Go.RowKit
variable {P : Program}
/-! ### Texts: length, bytes, parts. -/
def byt (s : ByteArray) (i : Nat) : Nat := (s.data.getD i 0).toNat
section
variable {n : Nat} {F : List (Nat × Value)} {a : Act} {w : World} {d : Option Tmp} {t T T' : TypeId} {pos : String} {af : Array Edge} {gd : Option (Nat × Bool)} {x y z : Operand}
end
end Go.Sw

namespace Go.Sw
open Go Go.RowKit
variable {P : Program}
/-! ### Labels and jumps. -/
def Exit.goes (J : Nat → Act → World → Prop) (Q : Exit → Act → World → Prop) : Exit → Act → World → Prop
  | .goto l, a, w => J l a w
  | e, a, w => Q e a w
section
variable {Q : Exit → Act → World → Prop} {J : Nat → Act → World → Prop} {K : Act → World → Prop} {a : Act} {w : World}
theorem gG {l : Nat} (h : J l a w) : Exit.goes J Q (.goto l) a w := h
end
section
variable {n : Nat} {F : List (Nat × Value)} {a : Act} {w : World} {d : Option Tmp} {t T : TypeId} {pos : String} {af : Array Edge} {gd : Option (Nat × Bool)} {x : Operand}
end
section
variable {P : Program} {fn : Func} {a : Act} {w : World}
end
end Go.Sw

namespace Go.Sw
open Go Go.RowKit
/-! ### Maps whose keys are structs of numbers. -/
def leafs (P : Program) : Nat → TypeId → List IntKind → Bool
  | 0, _, _ => false
  | d + 1, t, ks =>
    match P.underlying t with
    | some (.int q) => decide (ks = [q])
    | some (.array n e) => Nat.beq ks.length (P.cellsOf t) && (List.range n).all fun i => leafs P d e ((ks.drop (i * P.cellsOf e)).take (P.cellsOf e))
    | some (.struct fs) => Nat.beq ks.length (P.cellsOf t) && fs.all (·.name != "_") && fs.toList.all fun f => leafs P d f.type ((ks.drop f.offset).take (P.cellsOf f.type))
    | _ => false
def Leafy (cs : List Value) (ks : List IntKind) : Prop := cs.length = ks.length ∧ ∀ (i : Nat) (q : IntKind), ks[i]? = some q → ∃ x, cs[i]? = some (Value.int q x) ∧ (Lit.int q x).wf = true
theorem Leafy.part {cs : List Value} {ks : List IntKind} (h : Leafy cs ks) (o l : Nat) : Leafy ((cs.drop o).take l) ((ks.drop o).take l) :=
  ⟨by simp [h.1], fun i q hi => by
    rw [List.getElem?_take] at hi ⊢
    split at hi
    · rename_i hl
      rw [if_pos hl, List.getElem?_drop]
      rw [List.getElem?_drop] at hi
      exact h.2 _ q hi
    · cases hi⟩
def wideB (P : Program) (k : TypeId) : Bool := match P.underlying k with | some (.array _ _) | some (.struct _) => true | _ => false
def IsMap (w : World) (b : Nat) (es : Array MapEntry) (c : Nat) : Prop := w.heap[b]? = some (.map es c)
theorem IsMap.ext {w w' : World} {b : Nat} {es : Array MapEntry} {c : Nat} (h : IsMap w b es c) (hx : Ext w w') : IsMap w' b es c := by
  have hlt : b < w.heap.size := (Array.getElem?_eq_some_iff.1 h).1
  unfold IsMap
  rw [hx.block b hlt]; exact h
theorem MemX.setMap {X : List Nat} {w0 w : World} {L : Own} {D : Froz} (h : MemX X w0 w L D) {b : Nat} {es : Array MapEntry} {c : Nat} (hb : IsMap w b es c) (hge : w0.heap.size ≤ b) (o : Obj) : MemX X w0 { w with heap := w.heap.setIfInBounds b o } L D := by
  have hne : ∀ {q : Nat} {cs : Array Value}, Blk w q cs → q ≠ b := fun hq e => by
    obtain ⟨t, ht⟩ := hq
    unfold IsMap at hb
    rw [e, hb] at ht; cases ht
  have hbl : ∀ {q : Nat} {cs : Array Value}, Blk w q cs → Blk { w with heap := w.heap.setIfInBounds b o } q cs := fun hq => by
    have h1 := hne hq;obtain ⟨t, ht⟩ := hq;exact ⟨t, by show (w.heap.setIfInBounds b o)[_]? = _; rw [Array.getElem?_setIfInBounds_ne (Ne.symm h1)]; exact ht⟩
  refine ⟨⟨h.bel.os, h.bel.tape, h.bel.output, by show _ ≤ (w.heap.setIfInBounds b o).size; rw [Array.size_setIfInBounds]; exact h.bel.size, fun k hk hX => ?_⟩, fun k q cs hq => ⟨(h.blk k q cs hq).1, hbl (h.blk k q cs hq).2⟩, h.apart, fun q cs hq => ⟨hbl (h.froz q cs hq).1, (h.froz q cs hq).2⟩⟩
  show (w.heap.setIfInBounds b o)[k]? = _
  rw [Array.getElem?_setIfInBounds_ne (by omega)];exact h.bel.block k hk hX
section
variable {P : Program} {n : Nat} {F : List (Nat × Value)} {a : Act} {w w0 : World} {d : Option Tmp} {t T kt et : TypeId} {pos : String} {af : Array Edge} {gd : Option (Nat × Bool)} {x y z : Operand} {X : List Nat} {L : Own} {D : Froz}
theorem d_makeMap (hM : MemX X w0 w L D) : Does P ⟨d, .makeMap T none, t, pos, af, gd⟩ a w (fun u w' => ∃ b, u = .map (some b) ∧ MemX X w0 w' L D ∧ w0.heap.size ≤ b ∧ IsMap w' b #[] 0) :=
  ⟨fun K Q hk => by
    have h := hk (.map (some w.heap.size)) (w.alloc (.map #[] 0)) ⟨_, rfl, hM.ext (Ext.alloc _ _), hM.bel.size, by unfold IsMap; show (w.heap.push _)[w.heap.size]? = _; simp⟩
    unfold Oper.wp execOp
    simp [Instr.makeMap]
    exact h⟩
end
end Go.Sw

namespace Go.Sw
open Go Go.RowKit
/-! ### Maps of the call's own with texts as keys -/
section
variable {P : Program} {n : Nat} {F : List (Nat × Value)} {a : Act} {w w0 : World} {d : Option Tmp} {t T kt et : TypeId} {pos : String} {af : Array Edge} {gd : Option (Nat × Bool)} {x y z : Operand} {X : List Nat} {L : Own} {D : Froz}
end
end Go.Sw
namespace Go.Sw
open Go Go.RowKit
section
variable {P : Program} {n : Nat} {F : List (Nat × Value)} {a : Act} {w : World} {d : Option Tmp} {t T T' : TypeId} {pos : String} {af : Array Edge} {gd : Option (Nat × Bool)} {x y : Operand} {k : IntKind} {A B C : Int}
end
end Go.Sw

namespace Go.Sw
open Go Go.RowKit
/-! ### Maps of the call's own with arrays as keys; a function value with two captures -/
section
variable {P : Program} {n : Nat} {F : List (Nat × Value)} {a : Act} {w w0 : World} {d : Option Tmp} {t T kt et : TypeId} {pos : String} {af : Array Edge} {gd : Option (Nat × Bool)} {x y z : Operand} {X : List Nat} {L : Own} {D : Froz}
theorem d_mapUpd {b c : Nat} {es : Array MapEntry} {k v : Value} (hT : P.underlying T = some (.map kt et)) (hM : MemX X w0 w L D) (hb : IsMap w b es c) (hge : w0.heap.size ≤ b) (hF : Fr n a F) (hx : look F x = some (.map (some b))) (hy : look F y = some k) (hz : look F z = some v)
    (hc : ∀ w, (Instr.checkKey false 10000 kt k).run P w = .ok () w) (hf : ∀ w, (Instr.findKey kt k es.toList).run P w = .ok none w) :
    Does P ⟨d, .mapUpdate T x y z, t, pos, af, gd⟩ a w (fun _ w' => MemX X w0 w' L D ∧ IsMap w' b (es.push { key := k, val := v, born := c }) (c + 1)) :=
  ⟨fun Kk Q hkk => by
    have hlt : b < w.heap.size := (Array.getElem?_eq_some_iff.1 hb).1
    have hr : (Instr.mapUpdate T (.map (some b)) k v).run P w = .ok () { w with heap := w.heap.setIfInBounds b (.map (es.push { key := k, val := v, born := c }) (c + 1)) } := by
      simp [Instr.mapUpdate, run_underlying hT, MapKept.run_getObj_map hb, hc, hf, MapKept.run_setObj_map _ hb, Result.andThen]
    have h := hkk undef _ ⟨hM.setMap hb hge (.map (es.push { key := k, val := v, born := c }) (c + 1)), by unfold IsMap; show (w.heap.setIfInBounds b _)[b]? = _; simp [hlt]⟩
    unfold Oper.wp execOp
    simp [hF.eval hx, hF.eval hy, hF.eval hz, hr, Result.andThen]
    exact h⟩
theorem d_insK {b c : Nat} {es : Array MapEntry} {k v : Value} (hT : P.underlying T = some (.map kt et)) (hM : MemX X w0 w L D) (hb : IsMap w b es c) (hge : w0.heap.size ≤ b) (hF : Fr n a F) (hx : look F x = some (.map (some b))) (hy : look F y = some k) (hz : look F z = some v)
    (hc : ∀ w, (Instr.checkKey false 10000 kt k).run P w = .ok () w) (hf : ∀ w, (Instr.findKey kt k es.toList).run P w = .ok none w) :
    Does P ⟨d, .insert T x y z, t, pos, af, gd⟩ a w (fun _ w' => MemX X w0 w' L D ∧ IsMap w' b (es.push { key := k, val := v, born := c }) (c + 1)) :=
  ⟨fun Kk Q hkk => by
    have hlt : b < w.heap.size := (Array.getElem?_eq_some_iff.1 hb).1
    have hr : (Instr.mapUpdate T (.map (some b)) k v).run P w = .ok () { w with heap := w.heap.setIfInBounds b (.map (es.push { key := k, val := v, born := c }) (c + 1)) } := by
      simp [Instr.mapUpdate, run_underlying hT, MapKept.run_getObj_map hb, hc, hf, MapKept.run_setObj_map _ hb, Result.andThen]
    have h := hkk undef _ ⟨hM.setMap hb hge (.map (es.push { key := k, val := v, born := c }) (c + 1)), by unfold IsMap; show (w.heap.setIfInBounds b _)[b]? = _; simp [hlt]⟩
    unfold Oper.wp execOp
    simp [hF.eval hx, hF.eval hy, hF.eval hz, hr, Result.andThen]
    exact h⟩
theorem g_lookupK {b c : Nat} {es : Array MapEntry} {k v : Value} {l : Lit} (K : WideMaps.KeyLaw P kt) (hT : P.underlying T = some (.map kt et)) (hb : IsMap w b es c) (hF : Fr n a F) (hx : look F x = some (.map (some b))) (hy : look F y = some k) (hk : keyOf P kt k = some l)
    (hes : ∀ e ∈ es.toList, ∃ l, keyOf P kt e.key = some l) (hex : ∃ e ∈ es.toList, e.key = k) (hv : ∀ e ∈ es.toList, e.key = k → e.val = v) :
    Gives P ⟨d, .lookup T x y false, t, pos, af, gd⟩ a w v := by
  rcases K.find w hk es.toList hes with ⟨h1, h2⟩ | ⟨j, e, h1, h2, h3⟩
  · obtain ⟨e, he, hq⟩ := hex
    exact absurd hq (h2 e he)
  · have he : e ∈ es.toList := List.mem_of_getElem? h2
    have := hv e he h3;subst this;exact gives_of_run (by simp [execOp, Instr.lookup, run_underlying hT, hF.eval hx, hF.eval hy, MapKept.run_getObj_map hb, K.check w _ hk, h1, Result.andThen])
theorem g_makeFunc2 {f : FuncId} {u v : Value} (hF : Fr n a F) (hx : look F x = some u) (hy : look F y = some v) : Gives P ⟨d, .makeFunc (.func f) #[] #[x, y], t, pos, af, gd⟩ a w (.func (.func f) #[] #[u, v]) :=
  gives_of_run (by simp [execOp, Instr.makeFunc, hF.eval hx, hF.eval hy])
end
theorem extract_whole (cs : Array Value) (n : Nat) (h : n = cs.size) : cs.extract 0 n = cs := by subst h; simp
theorem IsMap.setRow {w : World} {b q : Nat} {cs cs' : Array Value} {es : Array MapEntry} {c : Nat} (h : IsMap w q es c) (hb : Blk w b cs) : IsMap (w.setRow b cs') q es c := by
  have hne : q ≠ b := fun e => by
    obtain ⟨t, ht⟩ := hb
    unfold IsMap at h
    rw [e, ht] at h; cases h
  unfold IsMap
  rw [setRow_other w b q cs' hne]; exact h
section
variable {P : Program} {n : Nat} {F : List (Nat × Value)} {a : Act} {w w0 : World} {d : Option Tmp} {t T : TypeId} {pos : String} {af : Array Edge} {gd : Option (Nat × Bool)} {x y : Operand} {X : List Nat} {L : Own} {D : Froz}
theorem d_storeM {b o : Nat} {cs : Array Value} {v : Value} (k : Nat) (hM : MemX X w0 w L D) (hk : L[k]? = some (some (b, cs))) (hT : oneP P T = true) (hF : Fr n a F) (hx : look F x = some (ptr b o)) (hy : look F y = some v)
    (h1 : v.oneCell' = true) (ho : o < cs.size) :
    Does P ⟨d, .store T x y, t, pos, af, gd⟩ a w (fun _ w' => MemX X w0 w' (L.set k (some (b, cs.setIfInBounds o v))) D ∧ ∀ q es c, IsMap w q es c → IsMap w' q es c) := by
  have hb := hM.row k hk;have hs := (run_isAgg_one hT w).2;have hbb := hb;obtain ⟨tt, hg⟩ := hb;have hM' := hM.setRow k hk (cs.setIfInBounds o v);have hst := run_storeCells_at P b o tt [v] 0 cs w hg (by simp; omega) (by simpa using h1);have e : (List.take (o + 0) cs.toList ++ [v] ++ List.drop (o + 0 + [v].length) cs.toList).toArray = cs.setIfInBounds o v := by
    apply Array.toList_inj.1
    simp [List.set_eq_take_append_cons_drop, ho]
  rw [e] at hst;have hcs : v.cells = #[v] := by cases v <;> first | rfl | (simp [Value.oneCell'] at h1)
  refine ⟨fun K Q hk => ?_⟩;have hrun : (execOp a.eval ⟨d, .store T x y, t, pos, af, gd⟩).run P w = .ok .skip (w.setRow b (cs.setIfInBounds o v)) := by
    simp [execOp, Instr.storeAt, Instr.sureAddr, hF.eval hx, hF.eval hy, storeVar, hs, hcs, hst]
  unfold Oper.wp
  rw [hrun];exact hk _ _ ⟨hM', fun q es c h => h.setRow hbb⟩
theorem d_storeAggM {b o s : Nat} {cs vs cs' : Array Value} (k : Nat) (hM : MemX X w0 w L D) (hk : L[k]? = some (some (b, cs))) (hT : sizeP P T = some s) (hF : Fr n a F) (hx : look F x = some (ptr b o)) (hy : look F y = some (.agg vs))
    (h1 : ∀ v ∈ vs.toList, v.oneCell' = true) (hs : vs.size = s) (ho : o + vs.size ≤ cs.size) (hC : splice cs o vs = cs') :
    Does P ⟨d, .store T x y, t, pos, af, gd⟩ a w (fun _ w' => MemX X w0 w' (L.set k (some (b, cs'))) D ∧ ∀ q es c, IsMap w q es c → IsMap w' q es c) := by
  have hb := hM.row k hk;have hbb := hb;have hs' := run_sizeOf hT w;obtain ⟨tt, hg⟩ := hb;have hM' := hM.setRow k hk cs';have hst := run_storeCells_at P b o tt vs.toList 0 cs w hg (by simpa using ho) h1;have e : (List.take (o + 0) cs.toList ++ vs.toList ++ List.drop (o + 0 + vs.toList.length) cs.toList).toArray = cs' := by
    rw [← hC]; simp [splice]
  rw [e] at hst;refine ⟨fun K Q hk => ?_⟩;have hrun : (execOp a.eval ⟨d, .store T x y, t, pos, af, gd⟩).run P w = .ok .skip (w.setRow b cs') := by
    simp [execOp, Instr.storeAt, Instr.sureAddr, hF.eval hx, hF.eval hy, storeVar, hs', Value.cells, hs, hst]
  unfold Oper.wp
  rw [hrun];exact hk _ _ ⟨hM', fun q es c h => h.setRow hbb⟩
end
end Go.Sw

namespace Go.Sw
open Go Go.RowKit
section
variable {P : Program} {X : List Nat} {w0 w : World} {D : Froz} {W : List Nat} {L0 L : Own} {kt : Nat} {csO csN : Array Value} {bb : Bool} {l : List Fact} {i : Nat} {o : Oper} {a : Act}
end
end Go.Sw

namespace Go.Sw
open Go Go.RowKit Go.ChangeShapes Go.WideShapes Go.ChangeAt
def algE (p n : Int) (T : Nat → Nat → Nat → Nat) (f : Nat → Nat) (c : Nat) : Value :=
  if c = 0 then .int .i64 p else if c = 1 then .int .i64 n else if c < 218 then .int .u8 (T ((c - 2) / 36) ((c - 2) / 6 % 6) ((c - 2) % 6)) else .int .u8 (f (c - 218))
def pairC (p n : Int) (T : Nat → Nat → Nat → Nat) (f : Nat → Nat) (q m : Int) (U : Nat → Nat → Nat → Nat) (g : Nat → Nat) (Z : Nat → Nat → Nat) : Array Value :=
  fnC 484 fun c => if c < 224 then algE p n T f c else if c < 448 then algE q m U g (c - 224) else .int .u8 (Z ((c - 448) / 6) ((c - 448) % 6))
section
variable {p n q m p' n' : Int} {T U T' : Nat → Nat → Nat → Nat} {f g f' : Nat → Nat} {Z Z' : Nat → Nat → Nat}
theorem algC_algE {c : Nat} (h : c < 224) : (algC p n T f)[c]? = some (algE p n T f c) := fnC_get h
theorem pairC_size : (pairC p n T f q m U g Z).size = 484 := fnC_size _ _
theorem pairC_A {o : Nat} (h : o < 224) : (pairC p n T f q m U g Z)[o]? = (algC p n T f)[o]? := by
  unfold pairC
  rw [fnC_get (by omega), if_pos h, algC_algE h]
theorem pairC_B {o : Nat} (r : Nat) (h : o = 224 + r) (hr : r < 224) : (pairC p n T f q m U g Z)[o]? = (algC q m U g)[r]? := by
  subst h
  unfold pairC
  rw [fnC_get (by omega), if_neg (by omega), if_pos (by omega), algC_algE hr, show 224 + r - 224 = r by omega]
theorem pairC_Z {o : Nat} (i j : Nat) (h : o = 448 + i * 6 + j) (hi : i < 6) (hj : j < 6) : (pairC p n T f q m U g Z)[o]? = some (.int .u8 (Z i j : Int)) := by
  subst h
  unfold pairC
  rw [fnC_get (by omega), if_neg (by omega), if_neg (by omega), show (448 + i * 6 + j - 448) / 6 = i by omega, show (448 + i * 6 + j - 448) % 6 = j by omega]
theorem pairC_exA {o e : Nat} (h : e ≤ 224) : (pairC p n T f q m U g Z).extract o e = (algC p n T f).extract o e := by
  apply Array.ext_getElem?
  intro i;rw [Array.getElem?_extract, Array.getElem?_extract, pairC_size, cells_size]
  by_cases hi : i < e - o
  · rw [if_pos (by omega), if_pos (by omega)]; exact pairC_A (by omega)
  · rw [if_neg (by omega), if_neg (by omega)]
theorem pairC_exB {o e : Nat} (r s : Nat) (h : o = 224 + r) (h2 : e = 224 + s) (hs : s ≤ 224) : (pairC p n T f q m U g Z).extract o e = (algC q m U g).extract r s := by
  subst h h2
  apply Array.ext_getElem?
  intro i;rw [Array.getElem?_extract, Array.getElem?_extract, pairC_size, cells_size]
  by_cases hi : i < s - r
  · rw [if_pos (by omega), if_pos (by omega)]; exact pairC_B (r + i) (by omega) (by omega)
  · rw [if_neg (by omega), if_neg (by omega)]
theorem algC_whole : (algC p n T f).extract 0 224 = algC p n T f := by
  apply Array.ext_getElem?
  intro i;rw [Array.getElem?_extract, cells_size]
  by_cases hi : i < 224
  · rw [if_pos (by omega), Nat.zero_add]
  · rw [if_neg (by omega), Array.getElem?_eq_none (by rw [cells_size]; omega)]
theorem pairC_closed {o e : Nat} (h : o = 0) (he : e = o + 224) : (pairC p n T f q m U g Z).extract o e = algC p n T f := by
  subst h he;rw [pairC_exA (by omega)]; exact algC_whole
theorem pairC_open {o e : Nat} (h : o = 224) (he : e = o + 224) : (pairC p n T f q m U g Z).extract o e = algC q m U g := by
  subst h he;rw [pairC_exB 0 224 rfl rfl (Nat.le_refl _)]; exact algC_whole
theorem pairC_zip {o e : Nat} (h : o = 448) (he : e = o + 36) : (pairC p n T f q m U g Z).extract o e = planeC Z := by
  subst h;exact extract_ext he (by rw [pairC_size]; omega) fun c hc => pairC_Z (c / 6) (c % 6) (by omega) (by omega) (by omega)
theorem algE_one (c : Nat) : (algE p n T f c).oneCell' = true := by
  unfold algE
  split
  · rfl
  · split
    · rfl
    · split <;> rfl
theorem pairC_one : ∀ u ∈ (pairC p n T f q m U g Z).toList, u.oneCell' = true := fnC_one fun i _ => by
  split
  · exact algE_one _
  · split
    · exact algE_one _
    · rfl
theorem pairC_eq {c : Array Value} (hs : c.size = 484) (hA : ∀ i, i < 224 → c[i]? = (algC p n T f)[i]?) (hB : ∀ i, i < 224 → c[224 + i]? = (algC q m U g)[i]?) (hZ : ∀ i j, i < 6 → j < 6 → c[448 + i * 6 + j]? = some (.int .u8 (Z i j : Int))) : c = pairC p n T f q m U g Z := by
  apply Array.ext_getElem?
  intro i
  by_cases h1 : i < 224
  · rw [hA i h1, pairC_A h1]
  · by_cases h2 : i < 448
    · have e : i = 224 + (i - 224) := by omega
      rw [e, hB _ (by omega), pairC_B (i - 224) rfl (by omega)]
    · by_cases h3 : i < 484
      · have e : i = 448 + ((i - 448) / 6) * 6 + (i - 448) % 6 := by omega
        rw [e, hZ _ _ (by omega) (by omega), pairC_Z _ _ rfl (by omega) (by omega)]
      · rw [Array.getElem?_eq_none (by omega), Array.getElem?_eq_none (by rw [pairC_size]; omega)]
theorem pairC_putR {o : Nat} {v : Nat → Nat} (k : Nat) (h : o = 448 + k * 6) (hk : k < 6) : splice (pairC p n T f q m U g Z) o (vecC v) = pairC p n T f q m U g (fun a c => if a = k then v c else Z a c) := by
  subst h;have hz : 448 + k * 6 + (vecC v).size ≤ (pairC p n T f q m U g Z).size := by rw [vecC_size, pairC_size]; omega
  refine pairC_eq (by rw [splice_size _ _ _ hz, pairC_size]) ?_ ?_ ?_
  · intro i hi; rw [splice_get _ _ _ _ hz, vecC_size, if_neg (by omega)]; exact pairC_A hi
  · intro i hi; rw [splice_get _ _ _ _ hz, vecC_size, if_neg (by omega)]; exact pairC_B i rfl hi
  · intro i j hi hj
    rw [splice_get _ _ _ _ hz, vecC_size]
    by_cases e : i = k
    · subst e; rw [if_pos (by omega), if_pos rfl]; exact vecC_get j (by omega) hj
    · rw [if_neg (by omega), if_neg e]; exact pairC_Z i j rfl hi hj
end
def pairKs : List IntKind := algKs ++ (algKs ++ List.replicate 36 .u8)
section
variable {H : Type} {enc : TypeId × Value → H} {P : Program} {w : World} {base : Nat} {spare : Nat → Bool} {held : Bool} {t : TypeId} {v : Value} {d : DataW H} {p : List MemPlace}
end
end Go.Sw
