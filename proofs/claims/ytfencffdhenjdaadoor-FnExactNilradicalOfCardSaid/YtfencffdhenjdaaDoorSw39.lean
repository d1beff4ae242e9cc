/- Plain lemmas of a small calculus for walks over frames and own memory; no statement of the seat is proved here. -/
import Derived.Test.YtfencffdhenjdaaDoorSw37
import Derived.DeepKeys4
set_option linter.unusedVariables false
set_option linter.unusedSimpArgs false
namespace Go.Sw
open Go Go.RowKit
/-! ### Maps whose keys are structs of numbers. -/
/-- The kinds of a type's cells, where all are integers. -/
def leafs (P : Program) : Nat → TypeId → List IntKind → Bool
  | 0, _, _ => false
  | d + 1, t, ks =>
    match P.underlying t with
    | some (.int q) => decide (ks = [q])
    | some (.array n e) => Nat.beq ks.length (P.cellsOf t) && (List.range n).all fun i => leafs P d e ((ks.drop (i * P.cellsOf e)).take (P.cellsOf e))
    | some (.struct fs) => Nat.beq ks.length (P.cellsOf t) && fs.all (·.name != "_") && fs.toList.all fun f => leafs P d f.type ((ks.drop f.offset).take (P.cellsOf f.type))
    | _ => false
def Leafy (cs : List Value) (ks : List IntKind) : Prop := cs.length = ks.length ∧ ∀ (i : Nat) (q : IntKind), ks[i]? = some q → ∃ x, cs[i]? = some (Value.int q x) ∧ (Lit.int q x).wf = true
theorem Leafy.part {cs : List Value} {ks : List IntKind} (h : Leafy cs ks) (o l : Nat) : Leafy ((cs.drop o).take l) ((ks.drop o).take l) :=
  ⟨by simp [h.1], fun i q hi => by
    rw [List.getElem?_take] at hi ⊢
    split at hi
    · rename_i hl
      rw [if_pos hl, List.getElem?_drop]
      rw [List.getElem?_drop] at hi
      exact h.2 _ q hi
    · cases hi⟩
theorem mapM_some {α β : Type} {f : α → Option β} : ∀ {l : List α}, (∀ x ∈ l, ∃ y, f x = some y) → ∃ ys, l.mapM f = some ys
  | [], _ => ⟨[], rfl⟩
  | x :: r, h => by
    obtain ⟨y, hy⟩ := h x (by simp)
    obtain ⟨ys, hys⟩ := mapM_some (l := r) fun z hz => h z (by simp [hz])
    exact ⟨y :: ys, by simp [List.mapM_cons, hy, hys]⟩
theorem leafs_lits {P : Program} : ∀ (d : Nat) (t : TypeId) (ks : List IntKind) (cs : List Value), leafs P d t ks = true → Leafy cs ks → ∃ l, P.keyLits d t cs = some l
  | 0, _, _, _, h, _ => by simp [leafs] at h
  | d + 1, t, ks, cs, h, hl => by
    unfold leafs at h
    unfold Program.keyLits
    cases hu : P.underlying t with
    | none => simp [hu] at h
    | some dd =>
      cases dd
      case int q =>
        simp only [hu, decide_eq_true_eq] at h
        subst h
        obtain ⟨x, hx, hw⟩ := hl.2 0 q rfl
        have h1 := hl.1
        match cs, h1, hx with
        | [c], _, hx =>
          simp at hx; subst hx
          exact ⟨[.int q x], by simp [hw]⟩
      case array n e =>
        simp only [hu, Bool.and_eq_true, List.all_eq_true, List.mem_range] at h
        have h1 := Nat.eq_of_beq_eq_true h.1
        obtain ⟨ys, hys⟩ := mapM_some (l := List.range n) (f := fun i => P.keyLits d e ((cs.drop (i * P.cellsOf e)).take (P.cellsOf e))) fun i hi =>
          leafs_lits d e _ _ (h.2 i (by simpa using hi)) (hl.part _ _)
        refine ⟨ys.flatten, ?_⟩
        simp only
        rw [if_pos (hl.1.trans h1), hys]; rfl
      case struct fs =>
        simp only [hu, Bool.and_eq_true, List.all_eq_true] at h
        have h1 := Nat.eq_of_beq_eq_true h.1.1
        obtain ⟨ys, hys⟩ := mapM_some (l := fs.toList) (f := fun f => P.keyLits d f.type ((cs.drop f.offset).take (P.cellsOf f.type))) fun f hf =>
          leafs_lits d f.type _ _ (h.2 f hf) (hl.part _ _)
        refine ⟨ys.flatten, ?_⟩
        simp only
        rw [if_pos ⟨hl.1.trans h1, h.1.2⟩, hys]; rfl
      all_goals simp [hu] at h
def wideB (P : Program) (k : TypeId) : Bool := match P.underlying k with | some (.array _ _) | some (.struct _) => true | _ => false
theorem keyOf_leafs {P : Program} {k : TypeId} {ks : List IntKind} {cs : Array Value} (hw : wideB P k = true) (hk : P.keyType k = true) (hl : leafs P (P.types.size + 1) k ks = true) (hc : P.cellsOf k = ks.length) (h : Leafy cs.toList ks) : ∃ l, keyOf P k (.agg cs) = some l := by
  obtain ⟨ls, hls⟩ := leafs_lits _ k ks cs.toList hl h
  have hz : cs.size = P.cellsOf k := by rw [hc, ← h.1]; simp
  unfold wideB at hw
  unfold keyOf
  cases hu : P.underlying k with
  | none => simp [hu] at hw
  | some dd =>
    cases dd <;> simp [hu] at hw <;> exact ⟨_, by simp [hk, Value.formed, hu, hz, Value.cells, hls]; rfl⟩
/-- A map that was not there. -/
def IsMap (w : World) (b : Nat) (es : Array MapEntry) (c : Nat) : Prop := w.heap[b]? = some (.map es c)
theorem IsMap.ext {w w' : World} {b : Nat} {es : Array MapEntry} {c : Nat} (h : IsMap w b es c) (hx : Ext w w') : IsMap w' b es c := by
  have hlt : b < w.heap.size := (Array.getElem?_eq_some_iff.1 h).1
  unfold IsMap
  rw [hx.block b hlt]; exact h
theorem MemX.setMap {X : List Nat} {w0 w : World} {L : Own} {D : Froz} (h : MemX X w0 w L D) {b : Nat} {es : Array MapEntry} {c : Nat} (hb : IsMap w b es c) (hge : w0.heap.size ≤ b) (o : Obj) : MemX X w0 { w with heap := w.heap.setIfInBounds b o } L D := by
  have hne : ∀ {q : Nat} {cs : Array Value}, Blk w q cs → q ≠ b := fun hq e => by
    obtain ⟨t, ht⟩ := hq
    unfold IsMap at hb
    rw [e, hb] at ht; cases ht
  have hbl : ∀ {q : Nat} {cs : Array Value}, Blk w q cs → Blk { w with heap := w.heap.setIfInBounds b o } q cs := fun hq => by
    have h1 := hne hq
    obtain ⟨t, ht⟩ := hq
    exact ⟨t, by show (w.heap.setIfInBounds b o)[_]? = _; rw [Array.getElem?_setIfInBounds_ne (Ne.symm h1)]; exact ht⟩
  refine ⟨⟨h.bel.os, h.bel.tape, h.bel.output, by show _ ≤ (w.heap.setIfInBounds b o).size; rw [Array.size_setIfInBounds]; exact h.bel.size, fun k hk hX => ?_⟩, fun k q cs hq => ⟨(h.blk k q cs hq).1, hbl (h.blk k q cs hq).2⟩, h.apart, fun q cs hq => ⟨hbl (h.froz q cs hq).1, (h.froz q cs hq).2⟩⟩
  show (w.heap.setIfInBounds b o)[k]? = _
  rw [Array.getElem?_setIfInBounds_ne (by omega)]
  exact h.bel.block k hk hX
section
variable {P : Program} {n : Nat} {F : List (Nat × Value)} {a : Act} {w w0 : World} {d : Option Tmp} {t T kt et : TypeId} {pos : String} {af : Array Edge} {gd : Option (Nat × Bool)} {x y z : Operand} {X : List Nat} {L : Own} {D : Froz}
theorem d_makeMap (hM : MemX X w0 w L D) : Does P ⟨d, .makeMap T none, t, pos, af, gd⟩ a w (fun u w' => ∃ b, u = .map (some b) ∧ MemX X w0 w' L D ∧ w0.heap.size ≤ b ∧ IsMap w' b #[] 0) :=
  ⟨fun K Q hk => by
    have h := hk (.map (some w.heap.size)) (w.alloc (.map #[] 0)) ⟨_, rfl, hM.ext (Ext.alloc _ _), hM.bel.size, by unfold IsMap; show (w.heap.push _)[w.heap.size]? = _; simp⟩
    unfold Oper.wp execOp
    simp [Instr.makeMap]
    exact h⟩
theorem d_insert {b : Nat} {k v : Value} {l : Lit} (K : WideMaps.KeyLaw P kt) (hT : P.underlying T = some (.map kt et)) (hM : MemX X w0 w L D) (hb : IsMap w b #[] 0) (hge : w0.heap.size ≤ b) (hF : Fr n a F) (hx : look F x = some (.map (some b))) (hy : look F y = some k) (hz : look F z = some v) (hk : keyOf P kt k = some l) :
    Does P ⟨d, .insert T x y z, t, pos, af, gd⟩ a w (fun _ w' => MemX X w0 w' L D ∧ IsMap w' b #[{ key := k, val := v, born := 0 }] 1) :=
  ⟨fun Kk Q hkk => by
    have hlt : b < w.heap.size := (Array.getElem?_eq_some_iff.1 hb).1
    have hf : (Instr.findKey kt k []).run P w = .ok none w := by
      rcases K.find w hk [] (by simp) with h | ⟨j, e, _, h2, _⟩
      · exact h.1
      · simp at h2
    have hr : (Instr.mapUpdate T (.map (some b)) k v).run P w = .ok () { w with heap := w.heap.setIfInBounds b (.map #[{ key := k, val := v, born := 0 }] 1) } := by
      simp [Instr.mapUpdate, run_underlying hT, MapKept.run_getObj_map hb, K.check w false hk, hf, MapKept.run_setObj_map _ hb, Result.andThen]
    have h := hkk undef _ ⟨hM.setMap hb hge (.map #[{ key := k, val := v, born := 0 }] 1), by unfold IsMap; show (w.heap.setIfInBounds b _)[b]? = _; simp [hlt]⟩
    unfold Oper.wp execOp
    simp [hF.eval hx, hF.eval hy, hF.eval hz, hr, Result.andThen]
    exact h⟩
theorem g_lookup1 {b c : Nat} {k k0 : Value} {l l0 : Lit} {v z0 : Value} {p : Prop} [Decidable p] (K : WideMaps.KeyLaw P kt) (hT : P.underlying T = some (.map kt et)) (hz : zeroP P et = some z0) (hb : IsMap w b #[{ key := k0, val := v, born := c }] 1) (hF : Fr n a F) (hx : look F x = some (.map (some b))) (hy : look F y = some k) (hk : keyOf P kt k = some l) (hk0 : keyOf P kt k0 = some l0) (hp : k0 = k ↔ p) :
    Gives P ⟨d, .lookup T x y false, t, pos, af, gd⟩ a w (if p then v else z0) := by
  have hzr : (zeroValue et).run P w = .ok z0 w := by
    unfold zeroP at hz
    cases hi : P.info? et with
    | none => simp [hi] at hz
    | some i => simp [hi] at hz; simp [zeroValue, typeInfo, hi, hz]
  rcases K.find w hk [{ key := k0, val := v, born := c }] (by intro e he; simp at he; subst he; exact ⟨l0, hk0⟩) with ⟨h1, h2⟩ | ⟨j, e, h1, h2, h3⟩
  · have hne : ¬ p := fun hh => h2 { key := k0, val := v, born := c } (by simp) (hp.2 hh)
    rw [if_neg hne]
    exact gives_of_run (by simp [execOp, Instr.lookup, run_underlying hT, hF.eval hx, hF.eval hy, MapKept.run_getObj_map hb, K.check w _ hk, h1, hzr, Result.andThen])
  · have he : e = { key := k0, val := v, born := c } := by
      have := List.mem_of_getElem? h2; simpa using this
    subst he
    rw [if_pos (hp.1 h3)]
    exact gives_of_run (by simp [execOp, Instr.lookup, run_underlying hT, hF.eval hx, hF.eval hy, MapKept.run_getObj_map hb, K.check w _ hk, h1, Result.andThen])
end
end Go.Sw

namespace Go.Sw
open Go Go.RowKit
section
variable {P : Program} {X : List Nat} {w0 w : World} {D : Froz} {W : List Nat} {L0 L : Own} {kt : Nat} {csO csN : Array Value} {bb : Bool} {l : List Fact} {i : Nat} {o : Oper} {a : Act}
end
/-- The key of an algebra's map: its cells are numbers of their kinds. -/
theorem leafy_alg {p n : Int} {T : Nat → Nat → Nat → Nat} {f : Nat → Nat} (hp : -9223372036854775808 ≤ p ∧ p ≤ 9223372036854775807) (hn : -9223372036854775808 ≤ n ∧ n ≤ 9223372036854775807) (hT : ∀ i j k, T i j k ≤ 255) (hf : ∀ i, f i ≤ 255) :
    Leafy (algC p n T f).toList (.i64 :: .i64 :: List.replicate 222 .u8) := by
  have w64 : ∀ {x : Int}, -9223372036854775808 ≤ x ∧ x ≤ 9223372036854775807 → (Lit.int .i64 x).wf = true := fun {x} h => by
    have e1 : IntKind.i64.min = -9223372036854775808 := by decide
    have e2 : IntKind.i64.max = 9223372036854775807 := by decide
    simp [Lit.wf, e1, e2, h.1, h.2]
  have w8 : ∀ {x : Nat}, x ≤ 255 → (Lit.int .u8 (x : Int)).wf = true := fun {x} h => by
    have e1 : IntKind.u8.min = 0 := by decide
    have e2 : IntKind.u8.max = 255 := by decide
    simp [Lit.wf, e1, e2]; omega
  refine ⟨by rw [Array.length_toList, cells_size]; simp only [List.length_cons, List.length_replicate], fun i q hi => ?_⟩
  rw [Array.getElem?_toList]
  match i, hi with
  | 0, hi => rw [List.getElem?_cons_zero] at hi; obtain rfl := Option.some.inj hi; exact ⟨p, algC_p rfl, w64 hp⟩
  | 1, hi => rw [List.getElem?_cons_succ, List.getElem?_cons_zero] at hi; obtain rfl := Option.some.inj hi; exact ⟨n, algC_n rfl, w64 hn⟩
  | i + 2, hi =>
    have h2 := hi
    rw [List.getElem?_cons_succ, List.getElem?_cons_succ, List.getElem?_replicate] at h2
    split at h2
    · rename_i hlt
      cases h2
      by_cases e : i < 216
      · exact ⟨_, algC_T (i / 36) (i / 6 % 6) (i % 6) (by omega) (by omega) (by omega) (by omega), w8 (hT _ _ _)⟩
      · exact ⟨_, algC_f (i - 216) (by omega) (by omega), w8 (hf _)⟩
    · cases h2
end Go.Sw
