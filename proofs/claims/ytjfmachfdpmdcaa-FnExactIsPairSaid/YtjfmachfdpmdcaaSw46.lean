/- Plain lemmas of a small calculus for walks over frames and own memory; no statement of the seat is proved here. -/
import Derived.Test.YtjfmachfdpmdcaaSw37
import Derived.DeepKeys4
import Derived.Test.YtjfmachfdpmdcaaSw14
import Derived.Recover
import Derived.Test.YtjfmachfdpmdcaaSw19
import Derived.Test.YtjfmachfdpmdcaaSw6
import Derived.Test.YtjfmachfdpmdcaaEch5
import Derived.Test.YtjfmachfdpmdcaaEch6
set_option linter.unusedVariables false
set_option linter.unusedSimpArgs false
namespace Go.Sw
open Go Go.RowKit
/-! ### Maps whose keys are structs of numbers. -/
def leafs (P : Program) : Nat → TypeId → List IntKind → Bool
  | 0, _, _ => false
  | d + 1, t, ks =>
    match P.underlying t with
    | some (.int q) => decide (ks = [q])
    | some (.array n e) => Nat.beq ks.length (P.cellsOf t) && (List.range n).all fun i => leafs P d e ((ks.drop (i * P.cellsOf e)).take (P.cellsOf e))
    | some (.struct fs) => Nat.beq ks.length (P.cellsOf t) && fs.all (·.name != "_") && fs.toList.all fun f => leafs P d f.type ((ks.drop f.offset).take (P.cellsOf f.type))
    | _ => false
def Leafy (cs : List Value) (ks : List IntKind) : Prop := cs.length = ks.length ∧ ∀ (i : Nat) (q : IntKind), ks[i]? = some q → ∃ x, cs[i]? = some (Value.int q x) ∧ (Lit.int q x).wf = true
theorem Leafy.part {cs : List Value} {ks : List IntKind} (h : Leafy cs ks) (o l : Nat) : Leafy ((cs.drop o).take l) ((ks.drop o).take l) :=
  ⟨by simp [h.1], fun i q hi => by
    rw [List.getElem?_take] at hi ⊢
    split at hi
    · rename_i hl
      rw [if_pos hl, List.getElem?_drop]
      rw [List.getElem?_drop] at hi
      exact h.2 _ q hi
    · cases hi⟩
theorem mapM_some {α β : Type} {f : α → Option β} : ∀ {l : List α}, (∀ x ∈ l, ∃ y, f x = some y) → ∃ ys, l.mapM f = some ys
  | [], _ => ⟨[], rfl⟩
  | x :: r, h => by
    obtain ⟨y, hy⟩ := h x (by simp)
    obtain ⟨ys, hys⟩ := mapM_some (l := r) fun z hz => h z (by simp [hz])
    exact ⟨y :: ys, by simp [List.mapM_cons, hy, hys]⟩
theorem leafs_lits {P : Program} : ∀ (d : Nat) (t : TypeId) (ks : List IntKind) (cs : List Value), leafs P d t ks = true → Leafy cs ks → ∃ l, P.keyLits d t cs = some l
  | 0, _, _, _, h, _ => by simp [leafs] at h
  | d + 1, t, ks, cs, h, hl => by
    unfold leafs at h
    unfold Program.keyLits
    cases hu : P.underlying t with
    | none => simp [hu] at h
    | some dd =>
      cases dd
      case int q =>
        simp only [hu, decide_eq_true_eq] at h
        subst h
        obtain ⟨x, hx, hw⟩ := hl.2 0 q rfl
        have h1 := hl.1
        match cs, h1, hx with
        | [c], _, hx =>
          simp at hx; subst hx
          exact ⟨[.int q x], by simp [hw]⟩
      case array n e =>
        simp only [hu, Bool.and_eq_true, List.all_eq_true, List.mem_range] at h
        have h1 := Nat.eq_of_beq_eq_true h.1
        obtain ⟨ys, hys⟩ := mapM_some (l := List.range n) (f := fun i => P.keyLits d e ((cs.drop (i * P.cellsOf e)).take (P.cellsOf e))) fun i hi =>
          leafs_lits d e _ _ (h.2 i (by simpa using hi)) (hl.part _ _)
        refine ⟨ys.flatten, ?_⟩
        simp only
        rw [if_pos (hl.1.trans h1), hys]; rfl
      case struct fs =>
        simp only [hu, Bool.and_eq_true, List.all_eq_true] at h
        have h1 := Nat.eq_of_beq_eq_true h.1.1
        obtain ⟨ys, hys⟩ := mapM_some (l := fs.toList) (f := fun f => P.keyLits d f.type ((cs.drop f.offset).take (P.cellsOf f.type))) fun f hf =>
          leafs_lits d f.type _ _ (h.2 f hf) (hl.part _ _)
        refine ⟨ys.flatten, ?_⟩
        simp only
        rw [if_pos ⟨hl.1.trans h1, h.1.2⟩, hys]; rfl
      all_goals simp [hu] at h
def wideB (P : Program) (k : TypeId) : Bool := match P.underlying k with | some (.array _ _) | some (.struct _) => true | _ => false
theorem keyOf_leafs {P : Program} {k : TypeId} {ks : List IntKind} {cs : Array Value} (hw : wideB P k = true) (hk : P.keyType k = true) (hl : leafs P (P.types.size + 1) k ks = true) (hc : P.cellsOf k = ks.length) (h : Leafy cs.toList ks) : ∃ l, keyOf P k (.agg cs) = some l := by
  obtain ⟨ls, hls⟩ := leafs_lits _ k ks cs.toList hl h;have hz : cs.size = P.cellsOf k := by rw [hc, ← h.1]; simp
  unfold wideB at hw
  unfold keyOf
  cases hu : P.underlying k with
  | none => simp [hu] at hw
  | some dd =>
    cases dd <;> simp [hu] at hw <;> exact ⟨_, by simp [hk, Value.formed, hu, hz, Value.cells, hls]; rfl⟩
def IsMap (w : World) (b : Nat) (es : Array MapEntry) (c : Nat) : Prop := w.heap[b]? = some (.map es c)
theorem IsMap.ext {w w' : World} {b : Nat} {es : Array MapEntry} {c : Nat} (h : IsMap w b es c) (hx : Ext w w') : IsMap w' b es c := by
  have hlt : b < w.heap.size := (Array.getElem?_eq_some_iff.1 h).1
  unfold IsMap
  rw [hx.block b hlt]; exact h
theorem MemX.setMap {X : List Nat} {w0 w : World} {L : Own} {D : Froz} (h : MemX X w0 w L D) {b : Nat} {es : Array MapEntry} {c : Nat} (hb : IsMap w b es c) (hge : w0.heap.size ≤ b) (o : Obj) : MemX X w0 { w with heap := w.heap.setIfInBounds b o } L D := by
  have hne : ∀ {q : Nat} {cs : Array Value}, Blk w q cs → q ≠ b := fun hq e => by
    obtain ⟨t, ht⟩ := hq
    unfold IsMap at hb
    rw [e, hb] at ht; cases ht
  have hbl : ∀ {q : Nat} {cs : Array Value}, Blk w q cs → Blk { w with heap := w.heap.setIfInBounds b o } q cs := fun hq => by
    have h1 := hne hq;obtain ⟨t, ht⟩ := hq;exact ⟨t, by show (w.heap.setIfInBounds b o)[_]? = _; rw [Array.getElem?_setIfInBounds_ne (Ne.symm h1)]; exact ht⟩
  refine ⟨⟨h.bel.os, h.bel.tape, h.bel.output, by show _ ≤ (w.heap.setIfInBounds b o).size; rw [Array.size_setIfInBounds]; exact h.bel.size, fun k hk hX => ?_⟩, fun k q cs hq => ⟨(h.blk k q cs hq).1, hbl (h.blk k q cs hq).2⟩, h.apart, fun q cs hq => ⟨hbl (h.froz q cs hq).1, (h.froz q cs hq).2⟩⟩
  show (w.heap.setIfInBounds b o)[k]? = _
  rw [Array.getElem?_setIfInBounds_ne (by omega)];exact h.bel.block k hk hX
section
variable {P : Program} {n : Nat} {F : List (Nat × Value)} {a : Act} {w w0 : World} {d : Option Tmp} {t T kt et : TypeId} {pos : String} {af : Array Edge} {gd : Option (Nat × Bool)} {x y z : Operand} {X : List Nat} {L : Own} {D : Froz}
theorem d_makeMap (hM : MemX X w0 w L D) : Does P ⟨d, .makeMap T none, t, pos, af, gd⟩ a w (fun u w' => ∃ b, u = .map (some b) ∧ MemX X w0 w' L D ∧ w0.heap.size ≤ b ∧ IsMap w' b #[] 0) :=
  ⟨fun K Q hk => by
    have h := hk (.map (some w.heap.size)) (w.alloc (.map #[] 0)) ⟨_, rfl, hM.ext (Ext.alloc _ _), hM.bel.size, by unfold IsMap; show (w.heap.push _)[w.heap.size]? = _; simp⟩
    unfold Oper.wp execOp
    simp [Instr.makeMap]
    exact h⟩
theorem d_insert {b : Nat} {k v : Value} {l : Lit} (K : WideMaps.KeyLaw P kt) (hT : P.underlying T = some (.map kt et)) (hM : MemX X w0 w L D) (hb : IsMap w b #[] 0) (hge : w0.heap.size ≤ b) (hF : Fr n a F) (hx : look F x = some (.map (some b))) (hy : look F y = some k) (hz : look F z = some v) (hk : keyOf P kt k = some l) :
    Does P ⟨d, .insert T x y z, t, pos, af, gd⟩ a w (fun _ w' => MemX X w0 w' L D ∧ IsMap w' b #[{ key := k, val := v, born := 0 }] 1) :=
  ⟨fun Kk Q hkk => by
    have hlt : b < w.heap.size := (Array.getElem?_eq_some_iff.1 hb).1
    have hf : (Instr.findKey kt k []).run P w = .ok none w := by
      rcases K.find w hk [] (by simp) with h | ⟨j, e, _, h2, _⟩
      · exact h.1
      · simp at h2
    have hr : (Instr.mapUpdate T (.map (some b)) k v).run P w = .ok () { w with heap := w.heap.setIfInBounds b (.map #[{ key := k, val := v, born := 0 }] 1) } := by
      simp [Instr.mapUpdate, run_underlying hT, MapKept.run_getObj_map hb, K.check w false hk, hf, MapKept.run_setObj_map _ hb, Result.andThen]
    have h := hkk undef _ ⟨hM.setMap hb hge (.map #[{ key := k, val := v, born := 0 }] 1), by unfold IsMap; show (w.heap.setIfInBounds b _)[b]? = _; simp [hlt]⟩
    unfold Oper.wp execOp
    simp [hF.eval hx, hF.eval hy, hF.eval hz, hr, Result.andThen]
    exact h⟩
theorem g_lookup1 {b c : Nat} {k k0 : Value} {l l0 : Lit} {v z0 : Value} {p : Prop} [Decidable p] (K : WideMaps.KeyLaw P kt) (hT : P.underlying T = some (.map kt et)) (hz : zeroP P et = some z0) (hb : IsMap w b #[{ key := k0, val := v, born := c }] 1) (hF : Fr n a F) (hx : look F x = some (.map (some b))) (hy : look F y = some k) (hk : keyOf P kt k = some l) (hk0 : keyOf P kt k0 = some l0) (hp : k0 = k ↔ p) :
    Gives P ⟨d, .lookup T x y false, t, pos, af, gd⟩ a w (if p then v else z0) := by
  have hzr : (zeroValue et).run P w = .ok z0 w := by
    unfold zeroP at hz
    cases hi : P.info? et with
    | none => simp [hi] at hz
    | some i => simp [hi] at hz; simp [zeroValue, typeInfo, hi, hz]
  rcases K.find w hk [{ key := k0, val := v, born := c }] (by intro e he; simp at he; subst he; exact ⟨l0, hk0⟩) with ⟨h1, h2⟩ | ⟨j, e, h1, h2, h3⟩
  · have hne : ¬ p := fun hh => h2 { key := k0, val := v, born := c } (by simp) (hp.2 hh)
    rw [if_neg hne];exact gives_of_run (by simp [execOp, Instr.lookup, run_underlying hT, hF.eval hx, hF.eval hy, MapKept.run_getObj_map hb, K.check w _ hk, h1, hzr, Result.andThen])
  · have he : e = { key := k0, val := v, born := c } := by
      have := List.mem_of_getElem? h2; simpa using this
    subst he;rw [if_pos (hp.1 h3)];exact gives_of_run (by simp [execOp, Instr.lookup, run_underlying hT, hF.eval hx, hF.eval hy, MapKept.run_getObj_map hb, K.check w _ hk, h1, Result.andThen])
end
end Go.Sw

namespace Go.Sw
open Go Go.RowKit
section
variable {P : Program} {X : List Nat} {w0 w : World} {D : Froz} {W : List Nat} {L0 L : Own} {kt : Nat} {csO csN : Array Value} {bb : Bool} {l : List Fact} {i : Nat} {o : Oper} {a : Act}
theorem pg_own2 {mk : Nat → Value} {k : Nat} {cs : Array Value} (hS : ParG X w0 D W L0 kt csO csN bb L w) (hi : l[i]? = some (.own k cs mk)) (hne : Nat.beq k kt = false) (hk : memNat k W = true) (hkl : Nat.blt k L0.length = true) (h1 : onePlace k i l 0 = true)
    (hg : Does P o a w (fun u w' => ∃ b, u = mk b ∧ MemX X w0 w' (L.set k (some (b, cs))) D ∧ Ext w w')) : Does P o a w (AfterG (ParG X w0 D W L0 kt csO csN) (factsG kt l) bb i L w) :=
  hg.mono fun u w' ⟨b, hu, hM, hx⟩ => by
    have hkl' : k < L.length := by rw [hS.1.2.1]; exact Nat.blt_eq.mp hkl
    have hn : ¬ k = kt := fun e => by rw [e, Nat.beq_refl] at hne; cases hne
    refine ⟨L.set k (some (b, cs)), ⟨⟨hM, hS.1.2.set k hk _⟩, fun c ds hc => ?_⟩, ?_, fun j u hj h => factsG_set h1 j u hj h⟩
    · rw [List.getElem?_set_ne hn] at hc; exact hS.2 c ds hc
    · unfold factsG; rw [hi]; show (if k = kt then _ else _); rw [if_neg hn]; exact ⟨b, hu, by simp [hkl']⟩
end
theorem leafy_alg {p n : Int} {T : Nat → Nat → Nat → Nat} {f : Nat → Nat} (hp : -9223372036854775808 ≤ p ∧ p ≤ 9223372036854775807) (hn : -9223372036854775808 ≤ n ∧ n ≤ 9223372036854775807) (hT : ∀ i j k, T i j k ≤ 255) (hf : ∀ i, f i ≤ 255) :
    Leafy (algC p n T f).toList (.i64 :: .i64 :: List.replicate 222 .u8) := by
  have w64 : ∀ {x : Int}, -9223372036854775808 ≤ x ∧ x ≤ 9223372036854775807 → (Lit.int .i64 x).wf = true := fun {x} h => by
    have e1 : IntKind.i64.min = -9223372036854775808 := by decide
    have e2 : IntKind.i64.max = 9223372036854775807 := by decide
    simp [Lit.wf, e1, e2, h.1, h.2]
  have w8 : ∀ {x : Nat}, x ≤ 255 → (Lit.int .u8 (x : Int)).wf = true := fun {x} h => by
    have e1 : IntKind.u8.min = 0 := by decide
    have e2 : IntKind.u8.max = 255 := by decide
    simp [Lit.wf, e1, e2]; omega
  refine ⟨by rw [Array.length_toList, cells_size]; simp only [List.length_cons, List.length_replicate], fun i q hi => ?_⟩;rw [Array.getElem?_toList]
  match i, hi with
  | 0, hi => rw [List.getElem?_cons_zero] at hi; obtain rfl := Option.some.inj hi; exact ⟨p, algC_p rfl, w64 hp⟩
  | 1, hi => rw [List.getElem?_cons_succ, List.getElem?_cons_zero] at hi; obtain rfl := Option.some.inj hi; exact ⟨n, algC_n rfl, w64 hn⟩
  | i + 2, hi =>
    have h2 := hi;rw [List.getElem?_cons_succ, List.getElem?_cons_succ, List.getElem?_replicate] at h2
    split at h2
    · rename_i hlt
      cases h2
      by_cases e : i < 216
      · exact ⟨_, algC_T (i / 36) (i / 6 % 6) (i % 6) (by omega) (by omega) (by omega) (by omega), w8 (hT _ _ _)⟩
      · exact ⟨_, algC_f (i - 216) (by omega) (by omega), w8 (hf _)⟩
    · cases h2
end Go.Sw

namespace Go.Sw
open Go Go.RowKit
variable {P : Program}
/-! ### Deferred calls: what was laid before lies behind the frame. -/
def addD (ds : List Deferred) (a : Act) : Act := ⟨a.tmps, a.defers ++ ds⟩
section
variable {ds : List Deferred} {ops : Array Oper} {Q : Exit → Act → World → Prop} {n : Nat} {F : List (Nat × Value)} {a : Act} {w : World}
end
end Go.Sw

namespace Go.Sw
open Go Go.RowKit
variable {P : Program}
/-! ### A door: a deferred closure that recovers. -/
section
variable {ops : Array Oper} {Q : Exit → Act → World → Prop} {rest : List Oper} {n : Nat} {F : List (Nat × Value)} {a : Act} {w : World} {d : Option Tmp} {t : TypeId} {pos : String} {af : Array Edge} {gd : Option (Nat × Bool)}
def okA (tm : Array Value) : List (Nat × Value) → Prop
  | [] => True
  | (t, v) :: r => tm.getD t undef = v ∧ okA tm r
def Clo (P : Program) (f b : Nat) (u : FrameMode) (w : World) (c : Value) : Prop :=
  CallsD P f #[ptr b 0] u w fun e u' w' => (∃ v, e = .returned v) ∧ settle u' = .returning ∧ ExtX [b] w w' ∧ Blk w' b #[c]
end
end Go.Sw

namespace Go.Sw
open Go Go.RowKit
variable {P : Program}
/-! ### Regions that draw their order, with guards (as Sw4, but an operation may be passed over). -/
section
variable {ops : List Oper} {Q : Exit → Act → World → Prop} {n : Nat} {F : List (Nat × Value)} {G : Type} {S : G → World → Prop}
def dstsOkQ (n : Nat) (F : List (Nat × Value)) : List Oper → List Nat → Bool
  | [], _ => true
  | o :: r, seen => (match o.dst with
    | some d => Nat.blt d n && (lk F d).isNone && !(memNat d seen) && dstsOkQ n F r (d :: seen)
    | none => false)

theorem dstsOkQ_spec : ∀ {l : List Oper} {seen : List Nat}, dstsOkQ n F l seen = true → ∀ (i : Nat) (o : Oper), l[i]? = some o → ∃ d, o.dst = some d ∧ d < n ∧ lk F d = none ∧ d ∉ seen ∧ (∀ (j : Nat) (o' : Oper), j < i → l[j]? = some o' → o'.dst ≠ some d)
  | [], _, _, i, o, h => by simp at h
  | x :: r, seen, hb, i, o, h => by
    simp only [dstsOkQ] at hb
    cases hx : x.dst with
    | none => simp [hx] at hb
    | some d =>
      simp only [hx, Bool.and_eq_true, Bool.not_eq_true', Option.isNone_iff_eq_none] at hb
      obtain ⟨⟨⟨h1, h2⟩, h3⟩, h4⟩ := hb
      cases i with
      | zero =>
        simp at h; subst h
        exact ⟨d, hx, Nat.blt_eq.mp h1, h2, (fun hm => by rw [memNat_iff.2 hm] at h3; cases h3), (fun j o' hj => by omega)⟩
      | succ i =>
        obtain ⟨d', g1, g2, g3, g4, g5⟩ := dstsOkQ_spec h4 i o (by simpa using h)
        refine ⟨d', g1, g2, g3, fun hm => g4 (List.mem_cons_of_mem _ hm), fun j o' hj ho' => ?_⟩
        cases j with
        | zero => simp at ho'; subst ho'; rw [hx]; intro e; obtain rfl := Option.some.inj e; exact g4 (List.mem_cons_self ..)
        | succ j => exact g5 j o' (by omega) (by simpa using ho')

def StepsQ {G : Type} (P : Program) (ops : List Oper) (k n : Nat) (F : List (Nat × Value)) (S : G → World → Prop) (φ : Facts G) : List Oper → Nat → Prop
  | [], _ => True
  | o :: r, i => (∀ a w g, Fr n a F → S g w → Deps ops k φ o g a w → if Region.wanted o (yielded ops.toArray a.tmps) = true then Does P o a w (After S φ i g w) else After S φ i g w undef w) ∧ StepsQ P ops k n F S φ r (i + 1)
theorem StepsQ.get {k : Nat} {φ : Facts G} : ∀ {l : List Oper} {i : Nat}, StepsQ P ops k n F S φ l i → ∀ (j : Nat) (o : Oper), l[j]? = some o →
    ∀ a w g, Fr n a F → S g w → Deps ops k φ o g a w → if Region.wanted o (yielded ops.toArray a.tmps) = true then Does P o a w (After S φ (i + j) g w) else After S φ (i + j) g w undef w
  | [], _, _, j, o, h => by simp at h
  | x :: r, i, hs, j, o, h => by
    cases j with
    | zero => simp at h; subst h; exact hs.1
    | succ j => have := hs.2.get j o (by simpa using h); rwa [show i + 1 + j = i + (j + 1) by omega] at this

theorem c_drawQ {id k : Nat} {a : Act} {w : World} (hm : P.follows .mixedOrders = true) (hk : tailOk ops k = true) (hF : Fr n a F) (hdst : dstsOkQ n F (ops.take k) [] = true) (g : G) (hS : S g w)
    (hdr : ∀ w, S g w → S g w.drew) (φ : Facts G)
    (hsteps : StepsQ P ops k n F S φ (ops.take k) 0)
    (hend : ∀ a w g, Fr n a F → S g w → (∀ i, i < k → i < ops.length → φ i g (a.tmps.getD (dstOf ops i) undef) w) → wpList P ops.toArray Q (ops.drop k) a w) :
    (Code.region id ops.toArray true).wp P Q a w := by
  refine wp_region_any hm ?_;simp only [tailOk, Bool.and_eq_true] at hk;obtain ⟨hback, htail⟩ := hk;have hge : ∀ (i : Nat), ops.toArray[i]? = ops[i]? := fun i => by simp
  have hreach : ∀ i j, k ≤ i → i < ops.length → j < i → Reach ops i j := fun i j h1 h2 h3 =>
    masks_spec ops [] (fun i => by simp) (fun m j h => by simp at h) i j (bitsFrom_spec htail i h1 h2 (by omega) j h3)
  have edge_listed : ∀ {i : Nat} {o : Oper} {listed : Array Bool} {j : Nat}, i ∈ Region.ready .any ops.toArray listed → ops[i]? = some o → edgeTo o j = true → listed.getD j false = true := by
    intro i o listed j hi ho he;obtain ⟨_, o', ho', hall⟩ := mem_ready.1 hi;rw [hge, ho] at ho';obtain rfl := Option.some.inj ho';simp only [edgeTo, List.any_eq_true, Bool.and_eq_true] at he;obtain ⟨e, hm', hb, hj⟩ := he;obtain rfl := Nat.eq_of_beq_eq_true hj;exact hall e (by simpa using hm') hb
  have reach_listed : ∀ {listed : Array Bool}, (∀ (j : Nat) o, ops[j]? = some o → listed.getD j false = true → ∀ e ∈ o.after, Region.binds .any e = true → listed.getD e.on false = true) → ∀ i j, Reach ops i j → (∀ o m, ops[i]? = some o → edgeTo o m = true → listed.getD m false = true) → listed.getD j false = true := by
    intro listed hcl i j hr
    induction hr with
    | one ho he => intro h; exact h _ _ ho he
    | more ho he _ ih =>
      intro h;have hm' := h _ _ ho he;refine ih (fun o m ho2 he2 => ?_);simp only [edgeTo, List.any_eq_true, Bool.and_eq_true] at he2;obtain ⟨e, hin, hb, hj⟩ := he2;obtain rfl := Nat.eq_of_beq_eq_true hj;exact hcl _ o ho2 hm' e (by simpa using hin) hb
  -- the tail
  have tail : ∀ (f m : Nat) (listed : Array Bool) (a : Act) (w : World), k ≤ m → ops.length - m ≤ f → (∀ j, j < m → j < ops.length → listed.getD j false = true) → (∀ j, m ≤ j → j < ops.length → listed.getD j true = false) →
      wpList P ops.toArray Q (ops.drop m) a w → wpAny P .any ops.toArray Q f listed a w := by
    intro f
    induction f with
    | zero =>
      intro m listed a w hkm hf h1 h2 h;rw [List.drop_eq_nil_of_le (by omega)] at h;refine ⟨?_, h⟩
      cases hr : Region.ready .any ops.toArray listed with
      | nil => rfl
      | cons i r =>
        obtain ⟨g1, o, ho, _⟩ := mem_ready.1 (hr ▸ List.mem_cons_self .. : i ∈ Region.ready .any ops.toArray listed);rw [hge] at ho;have hi := (List.getElem?_eq_some_iff.1 ho).1;have := h1 i (by omega) hi
        simp [Array.getD_eq_getD_getElem?] at this g1
        cases hh : listed[i]? <;> simp [hh] at this g1
        rw [this] at g1; cases g1
    | succ f ih =>
      intro m listed a w hkm hf h1 h2 h;have only : ∀ i ∈ Region.ready .any ops.toArray listed, i = m := by
        intro i hi;obtain ⟨g1, o, ho, hall⟩ := mem_ready.1 hi;have ho' := ho;rw [hge] at ho';have hil := (List.getElem?_eq_some_iff.1 ho').1
        by_cases hlt : i < m
        · have := h1 i hlt hil
          simp [Array.getD_eq_getD_getElem?] at this g1
          cases hh : listed[i]? <;> simp [hh] at this g1
          rw [this] at g1; cases g1
        · by_cases e : i = m
          · exact e
          · have := reach_listed (listed := listed) (fun j o hj hl e he hbnd => by
                have hjl := (List.getElem?_eq_some_iff.1 hj).1;have hjm : j < m := by
                  rcases Nat.lt_or_ge j m with h | h
                  · exact h
                  · have h3 := h2 j h hjl
                    simp [Array.getD_eq_getD_getElem?] at hl h3
                    cases hh : listed[j]? <;> simp [hh] at hl h3
                    rw [hl] at h3; cases h3
                have := edgesBack_spec hback j o hj e he hbnd;exact h1 e.on (by omega) (by omega)) i m (hreach i m (by omega) hil (by omega)) (fun o2 q ho2 he2 => by
                rw [ho'] at ho2; obtain rfl := Option.some.inj ho2; exact edge_listed hi ho' he2)
            have h3 := h2 m (Nat.le_refl _) (by omega)
            simp [Array.getD_eq_getD_getElem?] at this h3
            cases hh : listed[m]? <;> simp [hh] at this h3
            rw [this] at h3; cases h3
      refine ⟨fun hr => ?_, fun i hi => ?_⟩
      · by_cases hml : m < ops.length
        · exfalso
          have : m ∈ Region.ready .any ops.toArray listed := by
            refine mem_ready.2 ⟨h2 m (Nat.le_refl _) hml, ops[m], by simp [hml], fun e he hbnd => ?_⟩;have := edgesBack_spec hback m ops[m] (by simp [hml]) e he hbnd;exact h1 e.on (by omega) (by omega)
          rw [hr] at this; cases this
        · rw [List.drop_eq_nil_of_le (by omega)] at h; exact h
      · obtain rfl := only i hi
        obtain ⟨g1, o, ho, _⟩ := mem_ready.1 hi;rw [hge] at ho;have hil := (List.getElem?_eq_some_iff.1 ho).1;have hdrop : ops.drop i = o :: ops.drop (i + 1) := by
          rw [List.drop_eq_getElem_cons hil]; congr 1; exact (List.getElem?_eq_some_iff.1 ho).2
        rw [hdrop] at h;have K : ∀ a w, wpList P ops.toArray Q (ops.drop (i + 1)) a w → wpAny P .any ops.toArray Q f (listed.setIfInBounds i true) a w := by
          intro a w hh;refine ih (i + 1) _ a w (by omega) (by omega) (fun j hj hjl => ?_) (fun j hj hjl => ?_) hh
          · by_cases e : i = j
            · subst e
              have hsz : i < listed.size := by
                rcases Nat.lt_or_ge i listed.size with h' | h'
                · exact h'
                · simp [Array.getElem?_eq_none h'] at g1
              simp [hsz]
            · rw [getD_set_ne false e]; exact h1 j (by omega) hjl
          · rw [getD_set_ne true (by omega)]; exact h2 j (by omega) hjl
        unfold wpOp
        rw [hge, ho]
        unfold wpList at h
        show (if Region.wanted o (yielded ops.toArray a.tmps) then _ else _)
        split
        · rename_i hw
          rw [if_pos hw] at h;exact h.imp (Oper.wp_mono K) (fun x => x)
        · rename_i hw
          rw [if_neg hw] at h;exact K _ _ h
  -- the head
  have head : ∀ (f : Nat) (listed : Array Bool) (a : Act) (w : World) (g : G), listed.size = ops.length → (List.range ops.length).countP (fun i => !listed.getD i true) ≤ f → (∀ j, k ≤ j → j < ops.length → listed.getD j true = false) → (∀ (j : Nat) o, ops[j]? = some o → listed.getD j false = true → ∀ e ∈ o.after, Region.binds .any e = true → listed.getD e.on false = true) →
      Fr n a F → S g w → (∀ i, i < k → i < ops.length → listed.getD i false = true → φ i g (a.tmps.getD (dstOf ops i) undef) w) → wpAny P .any ops.toArray Q f listed a w := by
    intro f
    induction f with
    | zero =>
      intro listed a w g hsz hc h2 hcl hF hS hφ';have all : ∀ j, j < ops.length → listed.getD j true = true := by
        intro j hj;have h0 : (List.range ops.length).countP (fun i => !listed.getD i true) = 0 := by omega
        have := List.countP_eq_zero.1 h0 j (by simpa using hj)
        simpa using this
      have hlen : ops.length ≤ k := by
        rcases Nat.lt_or_ge k ops.length with h | h
        · have e1 := h2 k (Nat.le_refl _) h
          rw [all k h] at e1; cases e1
        · exact h
      refine tail 0 k listed a w (Nat.le_refl _) (by omega) (fun j _ hj => ?_) (fun j hj hjl => by omega) ?_
      · have := all j hj
        have hjs : j < listed.size := by omega
        simpa [Array.getD_eq_getD_getElem?, hjs] using this
      · refine hend a w g hF hS (fun i hi hil => hφ' i hi hil ?_)
        have := all i hil;have hjs : i < listed.size := by omega
        simpa [Array.getD_eq_getD_getElem?, hjs] using this
    | succ f ih =>
      intro listed a w g hsz hc h2 hcl hF hS hφ'
      by_cases all : ∀ j, j < k → j < ops.length → listed.getD j false = true
      · refine tail (f + 1) k listed a w (Nat.le_refl _) ?_ all h2 (hend a w g hF hS (fun i hi hil => hφ' i hi hil (all i hi hil)))
        -- as many are left as stand behind k
        have hge' : ∀ (m : Nat), m ≤ ops.length → m - k ≤ (List.range m).countP (fun i => !listed.getD i true) := by
          intro m
          induction m with
          | zero => intro _; simp
          | succ m ihm =>
            intro hm';have := ihm (by omega);rw [List.range_succ, List.countP_append]
            by_cases hkm : k ≤ m
            · have e1 := h2 m hkm (by omega)
              have e2 : List.countP (fun i => !listed.getD i true) [m] = 1 := by rw [List.countP_cons, e1]; rfl
              omega
            · omega
        have := hge' ops.length (Nat.le_refl _)
        omega
      · have step : ∀ i ∈ Region.ready .any ops.toArray listed, i < k := by
          intro i hi
          rcases Nat.lt_or_ge i k with h | h
          · exact h
          · exfalso
            obtain ⟨g1, o, ho, _⟩ := mem_ready.1 hi;rw [hge] at ho;have hil := (List.getElem?_eq_some_iff.1 ho).1;exact all (fun j hj hjl => reach_listed hcl i j (hreach i j h hil (by omega)) (fun o2 q ho2 he2 => by
              rw [ho] at ho2; obtain rfl := Option.some.inj ho2; exact edge_listed hi ho he2))
        refine ⟨fun hr => ?_, fun i hi => ?_⟩
        · exfalso
          apply all
          intro j
          induction j using Nat.strongRecOn with
          | _ j ihj =>
            intro hjk hjl
            cases hl : listed.getD j false with
            | true => rfl
            | false =>
              have hjs : j < listed.size := by omega
              have hm' : j ∈ Region.ready .any ops.toArray listed := by
                refine mem_ready.2 ⟨?_, ops[j], by simp [hjl], fun e he hbnd => ?_⟩
                · simpa [Array.getD_eq_getD_getElem?, hjs] using hl
                · have := edgesBack_spec hback j ops[j] (by simp [hjl]) e he hbnd
                  exact ihj e.on (by omega) (by omega) (by omega)
              rw [hr] at hm'; cases hm'
        · have hik := step i hi
          obtain ⟨g1, o, ho, hall'⟩ := mem_ready.1 hi;rw [hge] at ho;have hil := (List.getElem?_eq_some_iff.1 ho).1;have hti : (ops.take k)[i]? = some o := by rw [List.getElem?_take, if_pos hik]; exact ho
          obtain ⟨d, hd1, hd2, hd3, _, hd5⟩ := dstsOkQ_spec hdst i o hti;have hdo : dstOf ops i = d := by simp [dstOf, ho, hd1]
          have hdne : ∀ j, j < k → j < ops.length → j ≠ i → dstOf ops j ≠ d := by
            intro j hj hjl hne e;have hoj : ops[j]? = some ops[j] := by simp [hjl]
            have htj : (ops.take k)[j]? = some ops[j] := by rw [List.getElem?_take, if_pos hj]; exact hoj
            obtain ⟨d', e1, _, _, _, e5⟩ := dstsOkQ_spec hdst j ops[j] htj;have hdj : dstOf ops j = d' := by simp only [dstOf, hoj, Option.bind_some, e1, Option.getD_some]
            have hdd : d' = d := by rw [← hdj]; exact e
            subst hdd
            rcases Nat.lt_or_gt_of_ne hne with h | h
            · exact hd5 j ops[j] h htj e1
            · exact e5 i o h hti hd1
          have hdoes := StepsQ.get hsteps i o hti a w g hF hS (fun j hj he => by
            have hj' : j < k := Nat.blt_eq.mp hj;have hl := edge_listed hi ho he;have hjl : j < ops.length := by
              rcases Nat.lt_or_ge j listed.size with h | h
              · omega
              · simp [Array.getElem?_eq_none h] at hl
            exact hφ' j hj' hjl hl)
          unfold wpOp
          rw [hge, ho]
          show (if Region.wanted o (yielded ops.toArray a.tmps) then _ else _)
          simp only [Nat.zero_add] at hdoes;have cont : ∀ v w', After S φ i g w v w' → wpAny P .any ops.toArray Q f (listed.setIfInBounds i true) (a.put o.dst v) w' := by
            intro v w' hv;obtain ⟨g', hS', hvi, hothers⟩ := hv;have hF' : Fr n (a.put o.dst v) F := by
              rw [hd1];have := hF.put d v (Nat.blt_eq.mpr hd2);refine ⟨this.defers, this.size, fun t u ht => this.get t u ?_⟩;simp only [lk];have hne : ¬ d = t := fun e => by subst e; rw [hd3] at ht; cases ht
              rw [beqF hne]; exact ht
            refine ih _ _ _ g' (by simpa using hsz) ?_ (fun j hj hjl => ?_) (fun j oj hoj hl e he hb => ?_) hF' hS' (fun j hj hjl hl => ?_)
            · have : (List.range ops.length).countP (fun j => !(listed.setIfInBounds i true).getD j true) < (List.range ops.length).countP (fun j => !listed.getD j true) := by
                refine countP_lt (fun x hx => ?_) ⟨i, by simpa using hil, by simpa using g1, ?_⟩
                · by_cases e : i = x
                  · subst e; simp only [g1]; rfl
                  · rw [getD_set_ne true e] at hx; exact hx
                · have : i < listed.size := by omega
                  simp [this]
              omega
            · rw [getD_set_ne true (by omega)]; exact h2 j hj hjl
            · refine getD_set_true ?_
              by_cases ej : j = i
              · subst ej
                rw [ho] at hoj; obtain rfl := Option.some.inj hoj;exact hall' e he hb
              · rw [getD_set_ne false (Ne.symm ej)] at hl
                exact hcl j oj hoj hl e he hb
            · by_cases e : j = i
              · subst e
                rw [hd1, hdo];have : (a.put (some d) v).tmps.getD d undef = v := by simp [Act.put, hF.size, hd2]
                rw [this]; exact hvi
              · rw [getD_set_ne false (Ne.symm e)] at hl
                have hold := hothers j _ e (hφ' j hj hjl hl);have hdn := hdne j hj hjl e;rw [hd1];have : (a.put (some d) v).tmps.getD (dstOf ops j) undef = a.tmps.getD (dstOf ops j) undef := by
                  simp [Act.put, Array.getElem?_setIfInBounds_ne (Ne.symm hdn)]
                rw [this]; exact hold
          by_cases hw : Region.wanted o (yielded ops.toArray a.tmps) = true
          · rw [if_pos hw] at hdoes ⊢; exact .inl (hdoes.run _ _ cont)
          · rw [if_neg hw] at hdoes ⊢; exact cont _ _ hdoes
  refine head ops.toArray.size (Array.replicate ops.toArray.size false) a _ g (by simp) ?_ (fun j _ hj => by simp [hj]) (fun j o hj hl e he hbnd => by have hjl := (List.getElem?_eq_some_iff.1 hj).1; simp [hjl] at hl) hF (hdr _ hS) (fun i _ hi hl => by simp [hi] at hl)
  · have := List.countP_le_length (l := List.range ops.length) (p := fun i => !(Array.replicate ops.toArray.size false).getD i true)
    simpa using this
theorem q_none {o : Oper} {a : Act} {w : World} {S : G → World → Prop} {φ : Facts G} {i : Nat} {g : G} (hg : o.guard = none) (h : Does P o a w (After S φ i g w)) : if Region.wanted o (yielded ops.toArray a.tmps) = true then Does P o a w (After S φ i g w) else After S φ i g w undef w := by
  rw [if_pos (by simp [Region.wanted, hg])]; exact h
theorem q_yes {o : Oper} {a : Act} {w : World} {S : G → World → Prop} {φ : Facts G} {i j dj : Nat} {b : Bool} {g : G} {F' : List (Nat × Value)} (hg : o.guard = some (j, b)) (hF : Fr n a F') (hj : (ops.toArray[j]?).bind (·.dst) = some dj) (hjn : Nat.blt dj n = true) (hb : lk F' dj = some (.bool b)) (h : Does P o a w (After S φ i g w)) : if Region.wanted o (yielded ops.toArray a.tmps) = true then Does P o a w (After S φ i g w) else After S φ i g w undef w := by
  rw [if_pos (by simp [Region.wanted, hg, yielded_of hF hj hjn hb])]; exact h
theorem q_no {o : Oper} {a : Act} {w : World} {S : G → World → Prop} {φ : Facts G} {i j dj : Nat} {b c : Bool} {g : G} {F' : List (Nat × Value)} (hg : o.guard = some (j, c)) (hF : Fr n a F') (hj : (ops.toArray[j]?).bind (·.dst) = some dj) (hjn : Nat.blt dj n = true) (hb : lk F' dj = some (.bool b)) (hbc : (b == c) = false) (h : After S φ i g w undef w) : if Region.wanted o (yielded ops.toArray a.tmps) = true then Does P o a w (After S φ i g w) else After S φ i g w undef w := by
  rw [if_neg (by simp [Region.wanted, hg, yielded_of hF hj hjn hb]; intro e; subst e; simp at hbc)]; exact h
end
theorem gives_eq {P : Program} {o : Oper} {a : Act} {w : World} {v v' : Value} (h : Gives P o a w v) (e : v = v') : Gives P o a w v' := e ▸ h
theorem c_parQ {P : Program} {ops : List Oper} {Q : Exit → Act → World → Prop} {n : Nat} {F : List (Nat × Value)} {X : List Nat} {w0 : World} {L0 : Own} {D : Froz} {id : Nat} {a : Act} {w : World} (k : Nat) (W : List Nat) (l : List Fact) (hm : P.follows .mixedOrders = true) (hk : tailOk ops k = true) (hF : Fr n a F) (hdst : dstsOkQ n F (ops.take k) [] = true) (hM : MemX X w0 w L0 D)
    (hsteps : StepsQ P ops k n F (Par X w0 D W L0) (factsOf l) (ops.take k) 0)
    (hend : ∀ a w L, Fr n a F → Par X w0 D W L0 L w → (∀ i, Nat.blt i k = true → Nat.blt i ops.length = true → factsOf l i L (a.tmps.getD (dstOf ops i) undef) w) → wpList P ops.toArray Q (ops.drop k) a w) :
    (Code.region id ops.toArray true).wp P Q a w :=
  c_drawQ (S := Par X w0 D W L0) hm hk hF hdst L0 ⟨hM, Same.refl _ _⟩ (fun _ h => ⟨h.1.ext (Below.drew (Below.refl _ _)), h.2⟩) (factsOf l) hsteps
    (fun a w L hF hS hq => hend a w L hF hS fun i h1 h2 => hq i (Nat.blt_eq.mp h1) (Nat.blt_eq.mp h2))
end Go.Sw

namespace Go.Sw
open Go Go.RowKit Go.ChangeShapes Go.WideShapes Go.ChangeAt
def ArgVs (w : World) (sl : Value) (m : Nat) (V : Nat → Nat → Nat) : Prop :=
  (∃ x c, sl = .slice x m c) ∧ (0 < m → ∃ b o c, sl = .slice (some ⟨b, o, none⟩) m c ∧ ∀ i, i < m → ∀ j, j < 6 → w.cell? ⟨b, o + i * 6 + j, none⟩ = some (.int .u8 (V i j : Int)))
theorem ArgVs.ext {w w' : World} {sl : Value} {m : Nat} {V : Nat → Nat → Nat} (h : ArgVs w sl m V) (hx : Ext w w') : ArgVs w' sl m V :=
  ⟨h.1, fun hm => by obtain ⟨b, o, c, h1, h3⟩ := h.2 hm; exact ⟨b, o, c, h1, fun i hi j hj => cell_ext (h3 i hi j hj) hx⟩⟩
theorem ArgVs.one {w : World} {sl : Value} {m : Nat} {V : Nat → Nat → Nat} (h : ArgVs w sl m V) : sl.oneCell' = true := by
  obtain ⟨⟨x, c, rfl⟩, _⟩ := h; rfl
section
variable {P : Program} {n : Nat} {F : List (Nat × Value)} {a : Act} {w : World} {d : Option Tmp} {t : TypeId} {pos : String} {af : Array Edge} {gd : Option (Nat × Bool)} {x : Operand}
end
section
variable {H : Type} {enc : TypeId × Value → H} {P : Program} {w w' : World} {base : Nat} {spare : Nat → Bool} {held : Bool}
theorem cells?_get {a : Addr} {n : Nat} {cs : List Value} (h : w.cells? base a n = some cs) : cs.length = n ∧ ∀ i, i < n → w.cell? (a.add i) = cs[i]? := by
  unfold World.cells? at h
  split at h
  · have hl := mapM_some_length h
    rw [List.length_range] at hl;refine ⟨hl.symm ▸ rfl, fun i hi => ?_⟩;have := mapM_some_get h i i (by rw [List.getElem?_range hi]);exact this
  · cases h
end
section
variable {H : Type} {enc : TypeId × Value → H} {P : Program} {w : World} {base : Nat} {spare : Nat → Bool} {held : Bool}
end
section
variable {P : Program} {X : List Nat} {w0 w : World} {L : Own} {D : Froz} {n : Nat} {F : List (Nat × Value)} {a : Act} {d : Option Tmp} {T : TypeId} {t : TypeId} {pos : String} {af : Array Edge} {gd : Option (Nat × Bool)} {x y : Operand}
end
end Go.Sw
