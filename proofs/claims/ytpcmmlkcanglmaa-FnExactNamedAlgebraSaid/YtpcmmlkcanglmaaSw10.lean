/- Plain lemmas of a small calculus for walks over frames and own memory; no statement of the seat is proved here. -/
import Derived.Test.YtpcmmlkcanglmaaSw36
import Derived.DeepKeys4
import Derived.StringKeys
import Derived.Test.YtpcmmlkcanglmaaSw21
import Derived.Test.YtpcmmlkcanglmaaSw9
import Derived.ChangeSlices
import Derived.ShutString
import Derived.JoinedOf
import Derived.KernelRfl
set_option linter.unusedVariables false
set_option linter.unusedSimpArgs false
namespace Go.Sw
open Go Go.RowKit
variable {P : Program}
/-! ### Texts: length, bytes, parts. -/
def byt (s : ByteArray) (i : Nat) : Nat := (s.data.getD i 0).toNat
section
variable {n : Nat} {F : List (Nat × Value)} {a : Act} {w : World} {d : Option Tmp} {t T T' : TypeId} {pos : String} {af : Array Edge} {gd : Option (Nat × Bool)} {x y z : Operand}
theorem g_lenS {s : ByteArray} {TT : TypeId} (hT : P.underlying TT = some .string) (hF : Fr n a F) (hx : look F x = some (.string s)) : Gives P ⟨d, .call { callee := .builtin .len, args := #[x], argTypes := #[TT] }, t, pos, af, gd⟩ a w (.int .i64 (s.size : Int)) :=
  gives_of_run (by simp [execOp, resolve, invoke, hF.eval hx, builtin, Builtin.len_, run_underlying hT, goInt])
end
end Go.Sw

namespace Go.Sw
open Go Go.RowKit
variable {P : Program}
/-! ### Labels and jumps. -/
def Exit.goes (J : Nat → Act → World → Prop) (Q : Exit → Act → World → Prop) : Exit → Act → World → Prop
  | .goto l, a, w => J l a w
  | e, a, w => Q e a w
section
variable {Q : Exit → Act → World → Prop} {J : Nat → Act → World → Prop} {K : Act → World → Prop} {a : Act} {w : World}
theorem gG {l : Nat} (h : J l a w) : Exit.goes J Q (.goto l) a w := h
end
section
variable {n : Nat} {F : List (Nat × Value)} {a : Act} {w : World} {d : Option Tmp} {t T : TypeId} {pos : String} {af : Array Edge} {gd : Option (Nat × Bool)} {x : Operand}
end
section
variable {P : Program} {fn : Func} {a : Act} {w : World}
end
end Go.Sw

namespace Go.Sw
open Go Go.RowKit
/-! ### Maps whose keys are structs of numbers. -/
def leafs (P : Program) : Nat → TypeId → List IntKind → Bool
  | 0, _, _ => false
  | d + 1, t, ks =>
    match P.underlying t with
    | some (.int q) => decide (ks = [q])
    | some (.array n e) => Nat.beq ks.length (P.cellsOf t) && (List.range n).all fun i => leafs P d e ((ks.drop (i * P.cellsOf e)).take (P.cellsOf e))
    | some (.struct fs) => Nat.beq ks.length (P.cellsOf t) && fs.all (·.name != "_") && fs.toList.all fun f => leafs P d f.type ((ks.drop f.offset).take (P.cellsOf f.type))
    | _ => false
def Leafy (cs : List Value) (ks : List IntKind) : Prop := cs.length = ks.length ∧ ∀ (i : Nat) (q : IntKind), ks[i]? = some q → ∃ x, cs[i]? = some (Value.int q x) ∧ (Lit.int q x).wf = true
theorem Leafy.part {cs : List Value} {ks : List IntKind} (h : Leafy cs ks) (o l : Nat) : Leafy ((cs.drop o).take l) ((ks.drop o).take l) :=
  ⟨by simp [h.1], fun i q hi => by
    rw [List.getElem?_take] at hi ⊢
    split at hi
    · rename_i hl
      rw [if_pos hl, List.getElem?_drop]
      rw [List.getElem?_drop] at hi
      exact h.2 _ q hi
    · cases hi⟩
def wideB (P : Program) (k : TypeId) : Bool := match P.underlying k with | some (.array _ _) | some (.struct _) => true | _ => false
def IsMap (w : World) (b : Nat) (es : Array MapEntry) (c : Nat) : Prop := w.heap[b]? = some (.map es c)
theorem IsMap.ext {w w' : World} {b : Nat} {es : Array MapEntry} {c : Nat} (h : IsMap w b es c) (hx : Ext w w') : IsMap w' b es c := by
  have hlt : b < w.heap.size := (Array.getElem?_eq_some_iff.1 h).1
  unfold IsMap
  rw [hx.block b hlt]; exact h
theorem MemX.setMap {X : List Nat} {w0 w : World} {L : Own} {D : Froz} (h : MemX X w0 w L D) {b : Nat} {es : Array MapEntry} {c : Nat} (hb : IsMap w b es c) (hge : w0.heap.size ≤ b) (o : Obj) : MemX X w0 { w with heap := w.heap.setIfInBounds b o } L D := by
  have hne : ∀ {q : Nat} {cs : Array Value}, Blk w q cs → q ≠ b := fun hq e => by
    obtain ⟨t, ht⟩ := hq
    unfold IsMap at hb
    rw [e, hb] at ht; cases ht
  have hbl : ∀ {q : Nat} {cs : Array Value}, Blk w q cs → Blk { w with heap := w.heap.setIfInBounds b o } q cs := fun hq => by
    have h1 := hne hq;obtain ⟨t, ht⟩ := hq;exact ⟨t, by show (w.heap.setIfInBounds b o)[_]? = _; rw [Array.getElem?_setIfInBounds_ne (Ne.symm h1)]; exact ht⟩
  refine ⟨⟨h.bel.os, h.bel.tape, h.bel.output, by show _ ≤ (w.heap.setIfInBounds b o).size; rw [Array.size_setIfInBounds]; exact h.bel.size, fun k hk hX => ?_⟩, fun k q cs hq => ⟨(h.blk k q cs hq).1, hbl (h.blk k q cs hq).2⟩, h.apart, fun q cs hq => ⟨hbl (h.froz q cs hq).1, (h.froz q cs hq).2⟩⟩
  show (w.heap.setIfInBounds b o)[k]? = _
  rw [Array.getElem?_setIfInBounds_ne (by omega)];exact h.bel.block k hk hX
section
variable {P : Program} {n : Nat} {F : List (Nat × Value)} {a : Act} {w w0 : World} {d : Option Tmp} {t T kt et : TypeId} {pos : String} {af : Array Edge} {gd : Option (Nat × Bool)} {x y z : Operand} {X : List Nat} {L : Own} {D : Froz}
theorem d_makeMap (hM : MemX X w0 w L D) : Does P ⟨d, .makeMap T none, t, pos, af, gd⟩ a w (fun u w' => ∃ b, u = .map (some b) ∧ MemX X w0 w' L D ∧ w0.heap.size ≤ b ∧ IsMap w' b #[] 0) :=
  ⟨fun K Q hk => by
    have h := hk (.map (some w.heap.size)) (w.alloc (.map #[] 0)) ⟨_, rfl, hM.ext (Ext.alloc _ _), hM.bel.size, by unfold IsMap; show (w.heap.push _)[w.heap.size]? = _; simp⟩
    unfold Oper.wp execOp
    simp [Instr.makeMap]
    exact h⟩
end
end Go.Sw

namespace Go.Sw
open Go Go.RowKit
/-! ### Maps of the call's own with texts as keys -/
section
variable {P : Program} {n : Nat} {F : List (Nat × Value)} {a : Act} {w w0 : World} {d : Option Tmp} {t T kt et : TypeId} {pos : String} {af : Array Edge} {gd : Option (Nat × Bool)} {x y z : Operand} {X : List Nat} {L : Own} {D : Froz}
end
end Go.Sw
namespace Go.Sw
open Go Go.RowKit
section
variable {P : Program} {n : Nat} {F : List (Nat × Value)} {a : Act} {w : World} {d : Option Tmp} {t T T' : TypeId} {pos : String} {af : Array Edge} {gd : Option (Nat × Bool)} {x y : Operand} {k : IntKind} {A B C : Int}
end
end Go.Sw

namespace Go.Sw
open Go Go.RowKit
/-! ### Maps of the call's own with arrays as keys; a function value with two captures -/
section
variable {P : Program} {n : Nat} {F : List (Nat × Value)} {a : Act} {w w0 : World} {d : Option Tmp} {t T kt et : TypeId} {pos : String} {af : Array Edge} {gd : Option (Nat × Bool)} {x y z : Operand} {X : List Nat} {L : Own} {D : Froz}
theorem d_mapUpd {b c : Nat} {es : Array MapEntry} {k v : Value} (hT : P.underlying T = some (.map kt et)) (hM : MemX X w0 w L D) (hb : IsMap w b es c) (hge : w0.heap.size ≤ b) (hF : Fr n a F) (hx : look F x = some (.map (some b))) (hy : look F y = some k) (hz : look F z = some v)
    (hc : ∀ w, (Instr.checkKey false 10000 kt k).run P w = .ok () w) (hf : ∀ w, (Instr.findKey kt k es.toList).run P w = .ok none w) :
    Does P ⟨d, .mapUpdate T x y z, t, pos, af, gd⟩ a w (fun _ w' => MemX X w0 w' L D ∧ IsMap w' b (es.push { key := k, val := v, born := c }) (c + 1)) :=
  ⟨fun Kk Q hkk => by
    have hlt : b < w.heap.size := (Array.getElem?_eq_some_iff.1 hb).1
    have hr : (Instr.mapUpdate T (.map (some b)) k v).run P w = .ok () { w with heap := w.heap.setIfInBounds b (.map (es.push { key := k, val := v, born := c }) (c + 1)) } := by
      simp [Instr.mapUpdate, run_underlying hT, MapKept.run_getObj_map hb, hc, hf, MapKept.run_setObj_map _ hb, Result.andThen]
    have h := hkk undef _ ⟨hM.setMap hb hge (.map (es.push { key := k, val := v, born := c }) (c + 1)), by unfold IsMap; show (w.heap.setIfInBounds b _)[b]? = _; simp [hlt]⟩
    unfold Oper.wp execOp
    simp [hF.eval hx, hF.eval hy, hF.eval hz, hr, Result.andThen]
    exact h⟩
theorem d_insK {b c : Nat} {es : Array MapEntry} {k v : Value} (hT : P.underlying T = some (.map kt et)) (hM : MemX X w0 w L D) (hb : IsMap w b es c) (hge : w0.heap.size ≤ b) (hF : Fr n a F) (hx : look F x = some (.map (some b))) (hy : look F y = some k) (hz : look F z = some v)
    (hc : ∀ w, (Instr.checkKey false 10000 kt k).run P w = .ok () w) (hf : ∀ w, (Instr.findKey kt k es.toList).run P w = .ok none w) :
    Does P ⟨d, .insert T x y z, t, pos, af, gd⟩ a w (fun _ w' => MemX X w0 w' L D ∧ IsMap w' b (es.push { key := k, val := v, born := c }) (c + 1)) :=
  ⟨fun Kk Q hkk => by
    have hlt : b < w.heap.size := (Array.getElem?_eq_some_iff.1 hb).1
    have hr : (Instr.mapUpdate T (.map (some b)) k v).run P w = .ok () { w with heap := w.heap.setIfInBounds b (.map (es.push { key := k, val := v, born := c }) (c + 1)) } := by
      simp [Instr.mapUpdate, run_underlying hT, MapKept.run_getObj_map hb, hc, hf, MapKept.run_setObj_map _ hb, Result.andThen]
    have h := hkk undef _ ⟨hM.setMap hb hge (.map (es.push { key := k, val := v, born := c }) (c + 1)), by unfold IsMap; show (w.heap.setIfInBounds b _)[b]? = _; simp [hlt]⟩
    unfold Oper.wp execOp
    simp [hF.eval hx, hF.eval hy, hF.eval hz, hr, Result.andThen]
    exact h⟩
theorem g_lookupK {b c : Nat} {es : Array MapEntry} {k v : Value} {l : Lit} (K : WideMaps.KeyLaw P kt) (hT : P.underlying T = some (.map kt et)) (hb : IsMap w b es c) (hF : Fr n a F) (hx : look F x = some (.map (some b))) (hy : look F y = some k) (hk : keyOf P kt k = some l)
    (hes : ∀ e ∈ es.toList, ∃ l, keyOf P kt e.key = some l) (hex : ∃ e ∈ es.toList, e.key = k) (hv : ∀ e ∈ es.toList, e.key = k → e.val = v) :
    Gives P ⟨d, .lookup T x y false, t, pos, af, gd⟩ a w v := by
  rcases K.find w hk es.toList hes with ⟨h1, h2⟩ | ⟨j, e, h1, h2, h3⟩
  · obtain ⟨e, he, hq⟩ := hex
    exact absurd hq (h2 e he)
  · have he : e ∈ es.toList := List.mem_of_getElem? h2
    have := hv e he h3;subst this;exact gives_of_run (by simp [execOp, Instr.lookup, run_underlying hT, hF.eval hx, hF.eval hy, MapKept.run_getObj_map hb, K.check w _ hk, h1, Result.andThen])
theorem g_makeFunc2 {f : FuncId} {u v : Value} (hF : Fr n a F) (hx : look F x = some u) (hy : look F y = some v) : Gives P ⟨d, .makeFunc (.func f) #[] #[x, y], t, pos, af, gd⟩ a w (.func (.func f) #[] #[u, v]) :=
  gives_of_run (by simp [execOp, Instr.makeFunc, hF.eval hx, hF.eval hy])
end
theorem build6 {n : Nat} {a : Act} {F : List (Nat × Value)} {x0 x1 x2 x3 x4 x5 : Operand} {v0 v1 v2 v3 v4 v5 : Value} (hF : Fr n a F) (h0 : look F x0 = some v0) (h1 : look F x1 = some v1) (h2 : look F x2 = some v2) (h3 : look F x3 = some v3) (h4 : look F x4 = some v4) (h5 : look F x5 = some v5) : (#[(0, x0), (1, x1), (2, x2), (3, x3), (4, x4), (5, x5)] : Array (Nat × Operand)).toList.map (fun p => (p.1, a.eval p.2)) = [(0, v0), (1, v1), (2, v2), (3, v3), (4, v4), (5, v5)] := by simp [hF.eval h0, hF.eval h1, hF.eval h2, hF.eval h3, hF.eval h4, hF.eval h5]
theorem extract_whole (cs : Array Value) (n : Nat) (h : n = cs.size) : cs.extract 0 n = cs := by subst h; simp
theorem IsMap.setRow {w : World} {b q : Nat} {cs cs' : Array Value} {es : Array MapEntry} {c : Nat} (h : IsMap w q es c) (hb : Blk w b cs) : IsMap (w.setRow b cs') q es c := by
  have hne : q ≠ b := fun e => by
    obtain ⟨t, ht⟩ := hb
    unfold IsMap at h
    rw [e, ht] at h; cases h
  unfold IsMap
  rw [setRow_other w b q cs' hne]; exact h
section
variable {P : Program} {n : Nat} {F : List (Nat × Value)} {a : Act} {w w0 : World} {d : Option Tmp} {t T : TypeId} {pos : String} {af : Array Edge} {gd : Option (Nat × Bool)} {x y : Operand} {X : List Nat} {L : Own} {D : Froz}
theorem d_storeM {b o : Nat} {cs : Array Value} {v : Value} (k : Nat) (hM : MemX X w0 w L D) (hk : L[k]? = some (some (b, cs))) (hT : oneP P T = true) (hF : Fr n a F) (hx : look F x = some (ptr b o)) (hy : look F y = some v)
    (h1 : v.oneCell' = true) (ho : o < cs.size) :
    Does P ⟨d, .store T x y, t, pos, af, gd⟩ a w (fun _ w' => MemX X w0 w' (L.set k (some (b, cs.setIfInBounds o v))) D ∧ ∀ q es c, IsMap w q es c → IsMap w' q es c) := by
  have hb := hM.row k hk;have hs := (run_isAgg_one hT w).2;have hbb := hb;obtain ⟨tt, hg⟩ := hb;have hM' := hM.setRow k hk (cs.setIfInBounds o v);have hst := run_storeCells_at P b o tt [v] 0 cs w hg (by simp; omega) (by simpa using h1);have e : (List.take (o + 0) cs.toList ++ [v] ++ List.drop (o + 0 + [v].length) cs.toList).toArray = cs.setIfInBounds o v := by
    apply Array.toList_inj.1
    simp [List.set_eq_take_append_cons_drop, ho]
  rw [e] at hst;have hcs : v.cells = #[v] := by cases v <;> first | rfl | (simp [Value.oneCell'] at h1)
  refine ⟨fun K Q hk => ?_⟩;have hrun : (execOp a.eval ⟨d, .store T x y, t, pos, af, gd⟩).run P w = .ok .skip (w.setRow b (cs.setIfInBounds o v)) := by
    simp [execOp, Instr.storeAt, Instr.sureAddr, hF.eval hx, hF.eval hy, storeVar, hs, hcs, hst]
  unfold Oper.wp
  rw [hrun];exact hk _ _ ⟨hM', fun q es c h => h.setRow hbb⟩
theorem d_storeAggM {b o s : Nat} {cs vs cs' : Array Value} (k : Nat) (hM : MemX X w0 w L D) (hk : L[k]? = some (some (b, cs))) (hT : sizeP P T = some s) (hF : Fr n a F) (hx : look F x = some (ptr b o)) (hy : look F y = some (.agg vs))
    (h1 : ∀ v ∈ vs.toList, v.oneCell' = true) (hs : vs.size = s) (ho : o + vs.size ≤ cs.size) (hC : splice cs o vs = cs') :
    Does P ⟨d, .store T x y, t, pos, af, gd⟩ a w (fun _ w' => MemX X w0 w' (L.set k (some (b, cs'))) D ∧ ∀ q es c, IsMap w q es c → IsMap w' q es c) := by
  have hb := hM.row k hk;have hbb := hb;have hs' := run_sizeOf hT w;obtain ⟨tt, hg⟩ := hb;have hM' := hM.setRow k hk cs';have hst := run_storeCells_at P b o tt vs.toList 0 cs w hg (by simpa using ho) h1;have e : (List.take (o + 0) cs.toList ++ vs.toList ++ List.drop (o + 0 + vs.toList.length) cs.toList).toArray = cs' := by
    rw [← hC]; simp [splice]
  rw [e] at hst;refine ⟨fun K Q hk => ?_⟩;have hrun : (execOp a.eval ⟨d, .store T x y, t, pos, af, gd⟩).run P w = .ok .skip (w.setRow b cs') := by
    simp [execOp, Instr.storeAt, Instr.sureAddr, hF.eval hx, hF.eval hy, storeVar, hs', Value.cells, hs, hst]
  unfold Oper.wp
  rw [hrun];exact hk _ _ ⟨hM', fun q es c h => h.setRow hbb⟩
end
end Go.Sw

namespace Go.Sw
open Go Go.RowKit
section
variable {P : Program} {X : List Nat} {w0 w : World} {D : Froz} {W : List Nat} {L0 L : Own} {kt : Nat} {csO csN : Array Value} {bb : Bool} {l : List Fact} {i : Nat} {o : Oper} {a : Act}
theorem pg_own2 {mk : Nat → Value} {k : Nat} {cs : Array Value} (hS : ParG X w0 D W L0 kt csO csN bb L w) (hi : l[i]? = some (.own k cs mk)) (hne : Nat.beq k kt = false) (hk : memNat k W = true) (hkl : Nat.blt k L0.length = true) (h1 : onePlace k i l 0 = true)
    (hg : Does P o a w (fun u w' => ∃ b, u = mk b ∧ MemX X w0 w' (L.set k (some (b, cs))) D ∧ Ext w w')) : Does P o a w (AfterG (ParG X w0 D W L0 kt csO csN) (factsG kt l) bb i L w) :=
  hg.mono fun u w' ⟨b, hu, hM, hx⟩ => by
    have hkl' : k < L.length := by rw [hS.1.2.1]; exact Nat.blt_eq.mp hkl
    have hn : ¬ k = kt := fun e => by rw [e, Nat.beq_refl] at hne; cases hne
    refine ⟨L.set k (some (b, cs)), ⟨⟨hM, hS.1.2.set k hk _⟩, fun c ds hc => ?_⟩, ?_, fun j u hj h => factsG_set h1 j u hj h⟩
    · rw [List.getElem?_set_ne hn] at hc; exact hS.2 c ds hc
    · unfold factsG; rw [hi]; show (if k = kt then _ else _); rw [if_neg hn]; exact ⟨b, hu, by simp [hkl']⟩
end
end Go.Sw

namespace Go.Sw
open Go Go.RowKit
/-! ### Texts cut at a byte: the places of the byte, and what lies between them. -/
def bnd (s : ByteArray) (c : Nat) : Nat → List Nat
  | 0 => []
  | i + 1 => if byt s i = c then bnd s c i ++ [i] else bnd s c i
def cnt (s : ByteArray) (c i : Nat) : Nat := (bnd s c i).length
def sta (s : ByteArray) (c : Nat) : Nat → Nat
  | 0 => 0
  | i + 1 => if byt s i = c then i + 1 else sta s c i
def nSg (s : ByteArray) (c : Nat) : Nat := cnt s c s.size + 1
def sgB (s : ByteArray) (c k : Nat) : Nat := (bnd s c s.size ++ [s.size]).getD k s.size
def sgA (s : ByteArray) (c k : Nat) : Nat := if k = 0 then 0 else sgB s c (k - 1) + 1
def seg (s : ByteArray) (c k : Nat) : ByteArray := s.extract (sgA s c k) (sgB s c k)
section
variable {s : ByteArray} {c : Nat}
end
/-! ### Words of pieces. -/
def pcB (c : Nat) : Bool := decide (c = 105) || decide (c = 120) || decide (c = 109) || decide (c = 115) || decide (c = 117) || decide (c = 101)
def inL (c : Nat) : Nat := if c = 105 then 1 else if c = 120 then 2 else if c = 109 then 2 else if c = 115 then 1 else if c = 117 then 0 else if c = 101 then 1 else 0
def outL (c : Nat) : Nat := if c = 105 then 1 else if c = 120 then 2 else if c = 109 then 1 else if c = 115 then 2 else if c = 117 then 1 else 0
def eulL (c : Nat) : Int := if c = 117 then 1 else if c = 101 then 1 else if c = 109 then -1 else if c = 115 then -1 else 0
def inR (s : ByteArray) : Nat → Nat
  | 0 => 0
  | i + 1 => if byt s i = 47 then 0 else inR s i + inL (byt s i)
def outR (s : ByteArray) : Nat → Nat
  | 0 => 0
  | i + 1 => if byt s i = 47 then 0 else outR s i + outL (byt s i)
section
variable {s : ByteArray}
end
def layP (s : ByteArray) (b : Nat) : Prop := sta s 47 b < b ∧ inR s b ≤ 6 ∧ outR s b ≤ 6 ∧ (0 < sta s 47 b → inR s b = outR s (sta s 47 b - 1))
def isB (s : ByteArray) (b : Nat) : Prop := b = s.size ∨ (b < s.size ∧ byt s b = 47)
def WordP (s : ByteArray) : Prop := s.size ≤ 300 ∧ (∀ i, i < s.size → byt s i = 47 ∨ pcB (byt s i) = true) ∧ ∀ b, b ≤ s.size → isB s b → layP s b
end Go.Sw

namespace Go.Sw
open Go Go.RowKit
def layC (t : ByteArray) (a b : Int) : Array Value := #[.string t, .int .i64 a, .int .i64 b]
section
variable {t u : ByteArray} {a b x : Int} {q : Nat}
end
def layF (s : ByteArray) (q : Nat) : Value := if q % 3 = 0 then .string (seg s 47 (q / 3)) else if q % 3 = 1 then .int .i64 (inR s (sgB s 47 (q / 3)) : Int) else .int .i64 (outR s (sgB s 47 (q / 3)) : Int)
def segF (s : ByteArray) (c : Nat) (k : Nat) : Value := .string (seg s c k)
section
variable {s : ByteArray}
end
end Go.Sw

namespace Go.Sw
open Go Go.RowKit
def fitP (z a b k o : Nat) : Prop := 0 < z ∧ a ≤ 6 ∧ b ≤ 6 ∧ (0 < k → a = o)
instance (z a b k o : Nat) : Decidable (fitP z a b k o) := by unfold fitP; infer_instance
instance (s : ByteArray) (b : Nat) : Decidable (layP s b) := by unfold layP; infer_instance
section
variable {s : ByteArray}
end
end Go.Sw

namespace Go.Sw
open Go Go.RowKit Go.ChangeShapes Go.WideShapes Go.ChangeAt
section
variable {H : Type} {enc : TypeId × Value → H} {P : Program} {w : World} {base : Nat} {spare : Nat → Bool} {held : Bool}
theorem open_str {r : Go.Reach} {b0 : Nat} {t : TypeId} {v : Value} {d : DataW H} {ps : List MemPlace} (ht : P.underlying t = some .string) (hval : Value.okWide P w r b0 t v) (hd : DataW.Trod enc P w base spare held t v d ps) :
    ∃ s : ByteArray, v = .string s ∧ d = .lit (.string s.data.toList) ∧ ps = [] ∧ s.size ≤ maxLen := by
  obtain ⟨s, rfl⟩ := okWide_string ht hval;obtain ⟨fuel, hf⟩ := hd;obtain ⟨s', h, hx, hw⟩ := DataW.trod_string ht hf
  simp [Value.cells] at h
  subst h;simp only [Prod.mk.injEq] at hx;exact ⟨s, rfl, hx.1, hx.2, hw⟩
theorem shut_str {t : TypeId} {s : ByteArray} (ht : P.underlying t = some .string) (hw : s.size ≤ maxLen) : DataW.Trod enc P w base spare held t (.string s) (.lit (.string s.data.toList)) [] :=
  ⟨1, by simp [DataW.trod, Value.cells, ht, hw]⟩
end
end Go.Sw

namespace Go.Sw
theorem wordsSigns_nb : ∀ (c : Char) (r : List Char), c ≠ ' ' → wordsSigns (c :: r) = match wordsSigns r with
    | w :: ws => (c :: w) :: ws
    | [] => [[c]] := by
  intro c r h;rw [wordsSigns.eq_def]
  split
  · simp_all
  · rename_i heq; simp at heq; exact absurd heq.1 h
  · rename_i heq; simp only [List.cons.injEq] at heq; obtain ⟨rfl, rfl⟩ := heq; rfl
theorem wordsSigns_word : ∀ (w r : List Char), (∀ c ∈ w, c ≠ ' ') → wordsSigns (w ++ ' ' :: r) = w :: wordsSigns r
  | [], r, _ => by simp [wordsSigns]
  | c :: w, r, h => by
    rw [List.cons_append, wordsSigns_nb c _ (h c (by simp)), wordsSigns_word w r (fun d hd => h d (by simp [hd]))]
theorem sum_nb (s : List Char) (h : isSumSigns s = true) : ∀ c ∈ s, c ≠ ' ' := by
  intro c hc he
  unfold isSumSigns at h
  simp only [Bool.and_eq_true, List.all_eq_true] at h;have := h.2 c hc;subst he
  revert this; decide
theorem cutHead (L s r : List Char) (h : L = "harness".toList ++ ' ' :: (s ++ ' ' :: ("cut".toList ++ ' ' :: r))) (hs : isSumSigns s = true) :
    behindMainWord (wordsSigns L) = "cut".toList :: wordsSigns r := by
  rw [h, wordsSigns_word _ _ (by decide), wordsSigns_word _ _ (sum_nb s hs), wordsSigns_word _ _ (by decide)];have : ("harness".toList == "harness".toList || "harness".toList == "ownmain".toList) = true := by decide
  unfold behindMainWord
  show (if (("harness".toList == "harness".toList || "harness".toList == "ownmain".toList) && isSumSigns s) = true then _ else _) = _
  rw [if_pos (by rw [this, hs]; rfl)]
theorem strip_cut (R : List (List Char)) : stripLifts liftWords ("cut".toList :: R) = ([], "cut".toList :: R) := by
  kernel_rfl
theorem lifts_cut (P : Program) (R : List (List Char)) (h : behindMainWord (wordsSigns P.initOrder.toList) = "cut".toList :: R) : P.headLifts = [] := by
  unfold Program.headLifts; rw [h, strip_cut]; rfl
theorem make_cut (P : Program) (R : List (List Char)) (h : behindMainWord (wordsSigns P.initOrder.toList) = "cut".toList :: R) : P.make = some .cut := by
  unfold Program.make; rw [h]
  have h1 : ("cut".toList == "gc".toList || "cut".toList == "spec".toList) = false := by decide
  have h2 : ("cut".toList == "cut".toList) = true := by decide
  simp only [h1, h2]; rfl
theorem final_cut (P : Program) (R : List (List Char)) (h : behindMainWord (wordsSigns P.initOrder.toList) = "cut".toList :: R) : P.liftsFinal = false := by
  unfold Program.liftsFinal; rw [lifts_cut P R h, h]; kernel_rfl
theorem enter_cut (P : Program) (R : List (List Char)) (h : behindMainWord (wordsSigns P.initOrder.toList) = "cut".toList :: R)
    (hl : P.laysLater = false) (hb : P.bearsReflect = false) (hd : P.doorFits [] = true) : P.mayEnter = true := by
  unfold Program.mayEnter; rw [h]
  simp only [strip_cut, hl, hb, hd]
  kernel_rfl
end Go.Sw
