/- Plain lemmas of a small calculus for walks over frames and own memory; no statement of the seat is proved here. -/
import Derived.Test.YtbeodbfbfbefkaaDoorSw2
import Derived.LoopN
set_option linter.unusedVariables false
set_option linter.unusedSimpArgs false
namespace Go.Sw
open Go Go.RowKit
variable {P : Program}

/-! ### Types, as closed facts -/
def sizeP (P : Program) (T : TypeId) : Option Nat := (P.info? T).map (·.size)
def fieldOff (P : Program) (T : TypeId) (k : Nat) : Option Nat :=
  match P.underlying T with
  | some (.struct fs) => match fs[k]? with
    | some f => match P.info? f.type with
      | some i => if i.size = 0 then none else some f.offset
      | none => none
    | none => none
  | _ => none
def arrOf (P : Program) (T : TypeId) : Option (Nat × Nat) :=
  match P.underlying T with
  | some (.array len e) => (P.info? e).map fun i => (len, i.size)
  | _ => none
def sliceOf (P : Program) (T : TypeId) : Option Nat :=
  match P.underlying T with
  | some (.slice e) => (P.info? e).map fun i => i.size
  | _ => none
def aggP (P : Program) (T : TypeId) : Option Nat :=
  match P.underlying T with
  | some (.struct _) | some (.array _ _) => sizeP P T
  | _ => none
def oneP (P : Program) (T : TypeId) : Bool :=
  match P.underlying T with
  | some (.struct _) | some (.array _ _) | none => false
  | some _ => sizeP P T == some 1
def zeroP (P : Program) (T : TypeId) : Option Value := (P.info? T).bind (·.zero)

theorem run_sizeOf {T : TypeId} {s : Nat} (h : sizeP P T = some s) (w : World) : (Go.sizeOf T).run P w = .ok s w := by
  unfold sizeP at h
  cases hi : P.info? T with
  | none => simp [hi] at h
  | some i => simp [hi] at h; simp [Go.sizeOf, typeInfo, hi, h]
theorem run_isAgg_agg {T : TypeId} {s : Nat} (h : aggP P T = some s) (w : World) : (isAgg T).run P w = .ok true w ∧ (Go.sizeOf T).run P w = .ok s w := by
  unfold aggP at h
  cases hu : P.underlying T with
  | none => simp [hu] at h
  | some d =>
    cases d <;> simp [hu] at h
    all_goals exact ⟨by simp [isAgg, run_underlying hu], run_sizeOf h w⟩
theorem run_isAgg_one {T : TypeId} (h : oneP P T = true) (w : World) : (isAgg T).run P w = .ok false w ∧ (Go.sizeOf T).run P w = .ok 1 w := by
  unfold oneP at h
  cases hu : P.underlying T with
  | none => simp [hu] at h
  | some d =>
    cases d <;> simp [hu] at h
    all_goals exact ⟨by simp [isAgg, run_underlying hu], run_sizeOf h w⟩

def splice (cs : Array Value) (off : Nat) (vs : Array Value) : Array Value := (cs.toList.take off ++ vs.toList ++ cs.toList.drop (off + vs.size)).toArray
theorem splice_whole (cs vs : Array Value) (h : vs.size = cs.size) : splice cs 0 vs = vs := by
  unfold splice
  have : cs.toList.drop (0 + vs.size) = [] := List.drop_eq_nil_of_le (by simp [h])
  rw [this]; simp
theorem splice_get (cs vs : Array Value) (off j : Nat) (h : off + vs.size ≤ cs.size) : (splice cs off vs)[j]? = if off ≤ j ∧ j < off + vs.size then vs[j - off]? else cs[j]? := by
  unfold splice
  simp only [List.getElem?_toArray]
  rw [List.append_assoc, List.getElem?_append, List.length_take, Array.length_toList, Nat.min_eq_left (by omega)]
  split
  · rename_i h1
    rw [if_neg (by omega), List.getElem?_take, if_pos h1]; simp
  · rename_i h1
    rw [List.getElem?_append, Array.length_toList]
    split
    · rename_i h2; rw [if_pos (by omega)]; simp
    · rename_i h2
      rw [if_neg (by omega), List.getElem?_drop]
      simp only [Array.getElem?_toList]
      congr 1; omega
theorem splice_size (cs vs : Array Value) (off : Nat) (h : off + vs.size ≤ cs.size) : (splice cs off vs).size = cs.size := by
  unfold splice; simp; omega

section
variable {ops : Array Oper} {Q : Exit → Act → World → Prop} {rest : List Oper} {n : Nat} {F : List (Nat × Value)} {a : Act} {X : List Nat} {w w0 : World} {L : Own} {D : Froz}
variable {d : Option Tmp} {t : TypeId} {pos : String} {af : Array Edge} {gd : Option (Nat × Bool)} {T : TypeId} {x y : Operand}

abbrev ptr (b off : Nat) : Value := .pointer (some ⟨b, off, none⟩)

theorem g_fieldAddr {k b o off : Nat} (hT : fieldOff P T k = some off) (hF : Fr n a F) (hx : look F x = some (ptr b o)) : Gives P ⟨d, .fieldAddr T x k, t, pos, af, gd⟩ a w (ptr b (o + off)) := by
  unfold fieldOff at hT
  cases hu : P.underlying T with
  | none => simp [hu] at hT
  | some dd =>
    cases dd <;> simp [hu] at hT
    rename_i fs
    cases hf : fs[k]? with
    | none => simp [hf] at hT
    | some f =>
      simp only [hf] at hT
      cases hi : P.info? f.type with
      | none => simp [hi] at hT
      | some i =>
        simp only [hi] at hT
        by_cases h0 : i.size = 0
        · simp [h0] at hT
        · simp only [h0, if_false, Option.some.injEq] at hT
          subst hT
          exact gives_of_run (by simp [execOp, Instr.fieldAt, run_underlying hu, hf, hF.eval hx, Instr.sureAddr, fieldPlace, Go.sizeOf, typeInfo, hi, h0, Addr.add_lit])

theorem g_indexAddr {b o i len s : Nat} {κ : IntKind} {X : Int} (hT : arrOf P T = some (len, s)) (hF : Fr n a F) (hx : look F x = some (ptr b o)) (hy : look F y = some (.int κ X)) (hX : X = (i : Int)) (hi : i < len) :
    Gives P ⟨d, .indexAddr T x y, t, pos, af, gd⟩ a w (ptr b (o + i * s)) := by
  unfold arrOf at hT
  cases hu : P.underlying T with
  | none => simp [hu] at hT
  | some dd =>
    cases dd <;> simp [hu] at hT
    rename_i len' e
    obtain ⟨inf, hinf, rfl, rfl⟩ := hT
    subst hX
    exact gives_of_run (by
      have h1 : (0 : Int) ≤ (i : Int) ∧ (i : Int) < (len' : Int) := ⟨by omega, by omega⟩
      simp [execOp, Instr.indexAt, run_underlying hu, hF.eval hx, hF.eval hy, asIntOf, Instr.sureAddr, Go.sizeOf, typeInfo, hinf, hi, Addr.add_lit])

theorem g_indexSl {b o i len c s : Nat} {κ : IntKind} {X : Int} (hT : sliceOf P T = some s) (hF : Fr n a F) (hx : look F x = some (.slice (some ⟨b, o, none⟩) len c)) (hy : look F y = some (.int κ X)) (hX : X = (i : Int)) (hi : i < len) :
    Gives P ⟨d, .indexAddr T x y, t, pos, af, gd⟩ a w (ptr b (o + i * s)) := by
  unfold sliceOf at hT
  cases hu : P.underlying T with
  | none => simp [hu] at hT
  | some dd =>
    cases dd <;> simp [hu] at hT
    rename_i e
    obtain ⟨inf, hinf, rfl⟩ := hT
    subst hX
    exact gives_of_run (by
      simp [execOp, Instr.indexAt, run_underlying hu, hF.eval hx, hF.eval hy, asIntOf, Go.sizeOf, typeInfo, hinf, hi, Addr.add_lit])

theorem g_load {b o : Nat} {cs : Array Value} {v : Value} (hT : oneP P T = true) (hF : Fr n a F) (hx : look F x = some (ptr b o)) (hb : Blk w b cs) (hv : cs[o]? = some v) : Gives P ⟨d, .load T x, t, pos, af, gd⟩ a w v := by
  have h1 := (run_isAgg_one hT w).1
  have hc := hb.cell o
  rw [hv] at hc
  exact gives_of_run (by simp [execOp, Instr.loadAt, Instr.sureAddr, hF.eval hx, loadVar, h1, hc])

theorem run_loadAgg {b o s : Nat} {cs : Array Value} (hT : aggP P T = some s) (hb : Blk w b cs) (hs : o + s ≤ cs.size) : (loadVar T ⟨b, o, none⟩).run P w = .ok (.agg (cs.extract o (o + s))) w := by
  have h1 := run_isAgg_agg hT w
  have hl := run_loadCells_list (P := P) (w := w) ⟨b, o, none⟩ (cs.extract o (o + s)).toList (fun j v hj => by
    rw [Addr.add_lit, hb.cell]
    simp at hj
    rw [List.getElem?_take] at hj
    split at hj
    · simpa using hj
    · cases hj)
  have hlen : (cs.extract o (o + s)).toList.length = s := by simp; omega
  rw [hlen, Array.toArray_toList] at hl
  simp only [loadVar, Sem.run_bind, h1.1, Result.andThen_ok, if_true, h1.2, hl]
  rfl

theorem g_loadAgg {b o s : Nat} {cs C : Array Value} (hT : aggP P T = some s) (hF : Fr n a F) (hx : look F x = some (ptr b o)) (hb : Blk w b cs) (hs : o + s ≤ cs.size) (hC : cs.extract o (o + s) = C) : Gives P ⟨d, .load T x, t, pos, af, gd⟩ a w (.agg C) := by
  have h1 := run_loadAgg (w := w) hT hb hs
  rw [hC] at h1
  exact gives_of_run (by simp [execOp, Instr.loadAt, Instr.sureAddr, hF.eval hx, h1])

theorem d_store {b o : Nat} {cs : Array Value} {v : Value} (k : Nat) (hM : MemX X w0 w L D) (hk : L[k]? = some (some (b, cs))) (hT : oneP P T = true) (hF : Fr n a F) (hx : look F x = some (ptr b o)) (hy : look F y = some v)
    (h1 : v.oneCell' = true) (ho : o < cs.size) :
    Does P ⟨d, .store T x y, t, pos, af, gd⟩ a w (fun _ w' => MemX X w0 w' (L.set k (some (b, cs.setIfInBounds o v))) D) := by
  have hb := hM.row k hk
  have hs := (run_isAgg_one hT w).2
  obtain ⟨tt, hg⟩ := hb
  have hM' := hM.setRow k hk (cs.setIfInBounds o v)
  have hst := run_storeCells_at P b o tt [v] 0 cs w hg (by simp; omega) (by simpa using h1)
  have e : (List.take (o + 0) cs.toList ++ [v] ++ List.drop (o + 0 + [v].length) cs.toList).toArray = cs.setIfInBounds o v := by
    apply Array.toList_inj.1
    simp [List.set_eq_take_append_cons_drop, ho]
  rw [e] at hst
  have hcs : v.cells = #[v] := by cases v <;> first | rfl | (simp [Value.oneCell'] at h1)
  refine ⟨fun K Q hk => ?_⟩
  have hrun : (execOp a.eval ⟨d, .store T x y, t, pos, af, gd⟩).run P w = .ok .skip (w.setRow b (cs.setIfInBounds o v)) := by
    simp [execOp, Instr.storeAt, Instr.sureAddr, hF.eval hx, hF.eval hy, storeVar, hs, hcs, hst]
  unfold Oper.wp
  rw [hrun]
  exact hk _ _ hM'

theorem d_storeAgg {b o s : Nat} {cs vs cs' : Array Value} (k : Nat) (hM : MemX X w0 w L D) (hk : L[k]? = some (some (b, cs))) (hT : sizeP P T = some s) (hF : Fr n a F) (hx : look F x = some (ptr b o)) (hy : look F y = some (.agg vs))
    (h1 : ∀ v ∈ vs.toList, v.oneCell' = true) (hs : vs.size = s) (ho : o + vs.size ≤ cs.size) (hC : splice cs o vs = cs') :
    Does P ⟨d, .store T x y, t, pos, af, gd⟩ a w (fun _ w' => MemX X w0 w' (L.set k (some (b, cs'))) D) := by
  have hb := hM.row k hk
  have hs' := run_sizeOf hT w
  obtain ⟨tt, hg⟩ := hb
  have hM' := hM.setRow k hk cs'
  have hst := run_storeCells_at P b o tt vs.toList 0 cs w hg (by simpa using ho) h1
  have e : (List.take (o + 0) cs.toList ++ vs.toList ++ List.drop (o + 0 + vs.toList.length) cs.toList).toArray = cs' := by
    rw [← hC]; simp [splice]
  rw [e] at hst
  refine ⟨fun K Q hk => ?_⟩
  have hrun : (execOp a.eval ⟨d, .store T x y, t, pos, af, gd⟩).run P w = .ok .skip (w.setRow b cs') := by
    simp [execOp, Instr.storeAt, Instr.sureAddr, hF.eval hx, hF.eval hy, storeVar, hs', Value.cells, hs, hst]
  unfold Oper.wp
  rw [hrun]
  exact hk _ _ hM'

theorem d_box {v : Value} (k : Nat) (hM : MemX X w0 w L D) (hF : Fr n a F) (hx : look F x = some v) :
    Does P ⟨d, .box T x, t, pos, af, gd⟩ a w (fun u w' => ∃ b, u = ptr b 0 ∧ MemX X w0 w' (L.set k (some (b, v.cells))) D ∧ Ext w w') :=
  ⟨fun K Q hk => by
    have := hk (ptr w.heap.size 0) (w.alloc (.cells v.cells T)) ⟨_, rfl, hM.fill (Ext.alloc _ _) k (Blk.new _ _ _) (Nat.le_refl _), Ext.alloc _ _⟩
    unfold Oper.wp execOp
    simp only [Instr.box, newVar, newRow, hF.eval hx]
    exact this⟩
theorem d_alloc {z : Value} (k : Nat) (hM : MemX X w0 w L D) (hT : zeroP P T = some z) :
    Does P ⟨d, .alloc T, t, pos, af, gd⟩ a w (fun u w' => ∃ b, u = ptr b 0 ∧ MemX X w0 w' (L.set k (some (b, z.cells))) D ∧ Ext w w') :=
  ⟨fun K Q hk => by
    have := hk (ptr w.heap.size 0) (w.alloc (.cells z.cells T)) ⟨_, rfl, hM.fill (Ext.alloc _ _) k (Blk.new _ _ _) (Nat.le_refl _), Ext.alloc _ _⟩
    unfold zeroP at hT
    cases hi : P.info? T with
    | none => simp [hi] at hT
    | some i =>
      simp [hi] at hT
      unfold Oper.wp execOp
      simp [Instr.alloc, newVar, newRow, zeroValue, typeInfo, hi, hT]
      exact this⟩

theorem g_index {i len : Nat} {κ : IntKind} {X : Int} {cs : Array Value} {v : Value} {e : TypeId} (hT : P.underlying T = some (.array len e)) (he : oneP P e = true) (hF : Fr n a F) (hx : look F x = some (.agg cs)) (hy : look F y = some (.int κ X)) (hX : X = (i : Int)) (hi : i < len)
    (hv : cs[i]? = some v) : Gives P ⟨d, .index T x y, t, pos, af, gd⟩ a w v := by
  have h1 := run_isAgg_one he w
  subst hX
  exact gives_of_run (by simp [execOp, Instr.index, run_underlying hT, hF.eval hx, hF.eval hy, asIntOf, hi, part, h1.1, h1.2, hv])
end

/-! ### Calls -/
def CallsR (P : Program) (f : FuncId) (args : Array Value) (w : World) (R : Value → World → Prop) : Prop :=
  Calls P f args w fun e w' => ∃ v, e = .returned v ∧ Ext w w' ∧ R v w'
abbrev CallsV (P : Program) (f : FuncId) (args : Array Value) (w : World) (v : Value) : Prop := CallsR P f args w (fun u _ => u = v)

section
variable {n : Nat} {F : List (Nat × Value)} {a : Act} {w : World} {d : Option Tmp} {t : TypeId} {pos : String} {af : Array Edge} {gd : Option (Nat × Bool)}
theorem d_call {f : FuncId} {xs : List Operand} {vs : List Value} {ats : Array TypeId} {R : Value → World → Prop} (hf : ∀ args w, (callFunc f args).run P w = .ok (.enter f args) w) (hF : Fr n a F) (hx : looks F xs vs) (hc : CallsR P f vs.toArray w R) :
    Does P ⟨d, .call { callee := .value (.func f), args := xs.toArray, argTypes := ats }, t, pos, af, gd⟩ a w (fun u w' => Ext w w' ∧ R u w') :=
  ⟨fun K Q hk => by
    have hrun : (execOp a.eval ⟨d, .call { callee := .value (.func f), args := xs.toArray, argTypes := ats }, t, pos, af, gd⟩).run P w = .ok (.enter f vs.toArray) w := by
      have e : (xs.toArray.map a.eval) = vs.toArray := by rw [← hF.evals hx]; simp
      simp [execOp, resolve, Act.eval, Deferred.ofValue, invoke, e, hf]
    unfold Oper.wp
    rw [hrun]
    show Calls P f vs.toArray w _
    exact hc.mono fun e w' ⟨v, he, h1, h2⟩ => by subst he; exact hk v w' ⟨h1, h2⟩⟩
end

/-! ### Control -/
section
variable {Q : Exit → Act → World → Prop} {n : Nat} {F : List (Nat × Value)} {a : Act} {w : World}
theorem c_seq {x y : Code} (M : Act → World → Prop) (h : x.wp P (Exit.then M Q) a w) (h2 : ∀ a w, M a w → y.wp P Q a w) : (x.seq y).wp P Q a w :=
  wp_seq_k fun K hK => Code.wp_mono (fun e a w q => by cases e <;> first | exact hK _ _ (h2 _ _ q) | exact q) h
theorem c_cond {c : Operand} {x y : Code} {p : Prop} [Decidable p] (hF : Fr n a F) (hc : look F c = some (.bool (decide p))) (h1 : p → x.wp P Q a w) (h2 : ¬ p → y.wp P Q a w) : (Code.cond c x y).wp P Q a w :=
  wp_cond_split (hF.eval hc) (fun h => h1 (of_decide_eq_true h)) (fun h => h2 (of_decide_eq_false h))
theorem c_condB {c : Operand} {x y : Code} {b : Bool} (hF : Fr n a F) (hc : look F c = some (.bool b)) (h1 : b = true → x.wp P Q a w) (h2 : b = false → y.wp P Q a w) : (Code.cond c x y).wp P Q a w :=
  wp_cond_split (hF.eval hc) h1 h2
theorem c_kT {c : Operand} {x y : Code} {p : Prop} [Decidable p] (hF : Fr n a F) (hc : look F c = some (.bool (decide p))) (hp : p) (h : x.wp P Q a w) : (Code.cond c x y).wp P Q a w := c_cond hF hc (fun _ => h) (fun e => absurd hp e)
theorem c_kF {c : Operand} {x y : Code} {p : Prop} [Decidable p] (hF : Fr n a F) (hc : look F c = some (.bool (decide p))) (hp : ¬ p) (h : y.wp P Q a w) : (Code.cond c x y).wp P Q a w := c_cond hF hc (fun e => absurd e hp) (fun _ => h)
theorem c_T {c : Operand} {x y : Code} (hF : Fr n a F) (hc : look F c = some (.bool true)) (h : x.wp P Q a w) : (Code.cond c x y).wp P Q a w := c_condB hF hc (fun _ => h) (fun e => by cases e)
theorem c_Fl {c : Operand} {x y : Code} (hF : Fr n a F) (hc : look F c = some (.bool false)) (h : y.wp P Q a w) : (Code.cond c x y).wp P Q a w := c_condB hF hc (fun e => by cases e) (fun _ => h)
theorem c_loop {α : Type} {c : Code} (I : α → Act → World → Prop) (μ : α → Nat) (x0 : α) (h0 : I x0 a w)
    (hr : ∀ x a w, I x a w → c.wp P (Exit.then (fun a' w' => ∃ y, I y a' w' ∧ μ y < μ x) Q) a w) : (Code.loop c).wp P Q a w := by
  have key : ∀ m x a w, μ x ≤ m → I x a w → Code.rounds P c Q (m + 1) a w := by
    intro m
    induction m with
    | zero =>
      intro x a w hm hI
      rw [rounds_succ]
      refine Code.wp_mono (fun e a' w' q => ?_) (hr x a w hI)
      cases e <;> first | exact q | (obtain ⟨y, _, hy⟩ := q; omega)
    | succ m ih =>
      intro x a w hm hI
      rw [rounds_succ]
      refine Code.wp_mono (fun e a' w' q => ?_) (hr x a w hI)
      cases e <;> first | exact q | (obtain ⟨y, hy1, hy⟩ := q; exact ih y a' w' (by omega) hy1)
  exact wp_loop_rounds _ (key _ x0 a w (Nat.le_refl _) h0)
theorem ib_same {id : Nat} (h : Q .normal a w) : Exit.inBlock id Q (.exit id) a w := by simpa [Exit.inBlock] using h
theorem ib_other {id id' : Nat} (hne : Nat.beq id' id = false) (h : Q (.exit id') a w) : Exit.inBlock id Q (.exit id') a w := by
  have : ¬ id' = id := fun e => by subst e; simp at hne
  simpa [Exit.inBlock, this] using h
end

/-! ### The end of a body -/
section
variable {fn : Func} {n : Nat} {F : List (Nat × Value)} {a : Act} {X : List Nat} {w w0 : World}
theorem calls_of {f : FuncId} {c : Code} {args : Array Value} {R : Value → World → Prop} (hf : P.funcs[f]? = some fn) (hb : fn.body = some c)
    (h : c.wp P (bodyPost P fn (fun e w' => ∃ v, e = .returned v ∧ Ext w w' ∧ R v w')) { tmps := args ++ Array.replicate (fn.ntmps - args.size) undef, defers := [] } w) : CallsR P f args w R :=
  calls_of_wp hf hb h
theorem frame0 {args : Array Value} {N : Nat} (vs : List Value) (hv : args = vs.toArray) (hn : vs.length ≤ N) (F : List (Nat × Value)) (hF : ∀ t v, lk F t = some v → vs[t]? = some v) :
    Fr N { tmps := args ++ Array.replicate (N - args.size) undef, defers := [] } F := by
  subst hv
  refine ⟨rfl, by simp; omega, fun t v ht => ?_⟩
  have := hF t v ht
  have hlt : t < vs.length := (List.getElem?_eq_some_iff.1 this).1
  simp [Array.getD_eq_getD_getElem?, Array.getElem?_append, hlt]
  simpa using (List.getElem?_eq_some_iff.1 this).2

def resIs (P : Program) (a : Act) (w : World) : ResultVar → Value → Prop
  | .tmp t, v => a.tmps.getD t undef = v
  | .cell t T, v => ∃ b o, a.tmps.getD t undef = ptr b o ∧ (loadVar T ⟨b, o, none⟩).run P w = .ok v w
theorem res_tmp {t : Tmp} {v : Value} (hF : Fr n a F) (ht : lk F t = some v) : resIs P a w (.tmp t) v := hF.get t v ht
theorem res_agg {t : Tmp} {T : TypeId} {b s : Nat} {cs : Array Value} (hT : aggP P T = some s) (hF : Fr n a F) (ht : lk F t = some (ptr b 0)) (hb : Blk w b cs) (hs : cs.size = s) : resIs P a w (.cell t T) (.agg cs) := by
  refine ⟨b, 0, hF.get t _ ht, ?_⟩
  have := run_loadAgg (w := w) (o := 0) hT hb (by omega)
  rw [this]; congr 2; subst hs; simp
theorem res_one {t : Tmp} {T : TypeId} {b : Nat} {cs : Array Value} {v : Value} (hT : oneP P T = true) (hF : Fr n a F) (ht : lk F t = some (ptr b 0)) (hb : Blk w b cs) (hv : cs[0]? = some v) : resIs P a w (.cell t T) v := by
  refine ⟨b, 0, hF.get t _ ht, ?_⟩
  have hc := hb.cell 0
  rw [hv] at hc
  simp [loadVar, (run_isAgg_one hT w).1, hc]
def rvOf (tmps : Array Value) (r : ResultVar) : Sem Value :=
  match r with
  | .tmp t => pure (tmps.getD t undef)
  | .cell q T => do let u ← asAddr (tmps.getD q undef); loadVar T u
theorem resIs_run {r : ResultVar} {v : Value} (h : resIs P a w r v) : (rvOf a.tmps r).run P w = .ok v w := by
  cases r with
  | tmp t => simp only [resIs] at h; simp only [rvOf, h, Sem.run_pure]
  | cell q T =>
    obtain ⟨b, o, h1, h2⟩ := h
    simp only [rvOf, h1]
    simp [asAddr, h2]
theorem results_eq (fn : Func) (tmps : Array Value) : results fn tmps = (do let vs ← fn.results.mapM (rvOf tmps); pure (if h : vs.size = 1 then vs[0] else .tuple vs)) := rfl
theorem fin1 {r : ResultVar} {v : Value} {R : Ending → World → Prop} (hr : fn.results = #[r]) (hd : a.defers = []) (h1 : resIs P a w r v) (h : R (.returned v) w) : bodyPost P fn R .ret a w :=
  bodyPost_ret (by
    rw [results_eq, hr]
    simp [resIs_run h1]) hd h
theorem fin2 {r s : ResultVar} {v u : Value} {R : Ending → World → Prop} (hr : fn.results = #[r, s]) (hd : a.defers = []) (h1 : resIs P a w r v) (h2 : resIs P a w s u) (h : R (.returned (.tuple #[v, u])) w) : bodyPost P fn R .ret a w :=
  bodyPost_ret (by
    rw [results_eq, hr]
    simp [resIs_run h1, resIs_run h2]) hd h
end
end Go.Sw
