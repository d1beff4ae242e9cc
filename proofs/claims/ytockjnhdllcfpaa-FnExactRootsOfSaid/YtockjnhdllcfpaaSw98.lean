/- Plain lemmas of a small calculus for walks over frames and own memory; no statement of the seat is proved here. -/
import Derived.Test.YtockjnhdllcfpaaSw90
import Derived.Test.YtockjnhdllcfpaaSw83
import Derived.RangeFuncLeaves
import Derived.Test.YtockjnhdllcfpaaSw74
import Derived.Test.YtockjnhdllcfpaaSw27
import Derived.Test.YtockjnhdllcfpaaSw3
import Derived.Test.YtockjnhdllcfpaaSw86
set_option linter.unusedVariables false
set_option linter.unusedSimpArgs false
namespace Go.Sw.Rw
open Go Go.RowKit
variable {P : Program}
/-! ### A range over a function: the statement, out of what the iterator promises and one walk of the body -/
def KeepsNC (W W' : World) : Prop := ∀ (q : Nat) (o : Obj), W.heap[q]? = some o → (∀ cs t, o ≠ .cells cs t) → W'.heap[q]? = some o
theorem keepsNC_of {X : List Nat} {W W' : World} (h : ExtX X W W') (hX : ∀ b, b ∈ X → ∃ cs, Blk W b cs) : KeepsNC W W' := fun q o hq ho => by
  have hlt : q < W.heap.size := (Array.getElem?_eq_some_iff.1 hq).1
  refine (h.block q hlt fun hm => ?_).trans hq
  obtain ⟨cs, t, hb⟩ := hX q hm
  rw [hb] at hq
  exact ho _ _ (Option.some.inj hq).symm
def RoundQ (R Rx : World → Prop) : Exit → Act → World → Prop
  | .normal, _, w => R w
  | .ret, _, w => Rx w
  | _, _, _ => False
def IterC (P : Program) (gf : Nat) (cap : Array Value) (N : Nat) (arg : Nat → World → World → Array Value → Prop) (K : World → Prop) : Prop :=
  ∀ (l : Nat) (J : Nat → World → Prop) (Jx : World → Prop) (W : World),
    (∀ k A B, J k A → Ext A B → J k B) → (∀ k A, J k A → K A) →
    (∀ k A B args, k < N → J k A → Ext A B → arg k A B args → YieldAt Fence.wide 0 P l args B (fun e W' => (e = .returned (.bool true) ∧ J (k + 1) W') ∨ (e = .returned (.bool false) ∧ Jx W'))) →
    J 0 W → CallsIn Fence.wide 0 P gf (#[.func (.yield l) #[] #[]] ++ cap) W (fun e W' => (∃ v, e = .returned v) ∧ (J N W' ∨ Jx W'))
def roundTmps (ps : Array Tmp) (args tmps : Array Value) : Array Value := (ps.zip args).foldl (fun tmps (t, a) => tmps.setIfInBounds t a) tmps
theorem ext_put {A B : World} {l : Nat} {o : Obj} (h : Ext A B) (hl : l < A.heap.size) : Ext (A.putObj l o) (B.putObj l o) := by
  refine ⟨h.os, h.tape, h.output, by simpa using h.size, fun k hk => ?_⟩;have hk' : k < A.heap.size := by simpa using hk
  by_cases e : k = l
  · subst e
    rw [World.putObj_heap_same hk', World.putObj_heap_same (Nat.lt_of_lt_of_le hk' h.size)]
  · rw [World.putObj_heap_other e, World.putObj_heap_other e]
    exact h.block k hk'
theorem c_rangeFn {g : Operand} {ps : Array Tmp} {assign body : Code} {Q : Exit → Act → World → Prop} {a : Act} {w : World} {gf : Nat} {cap : Array Value} {N : Nat} {arg : Nat → World → World → Array Value → Prop} {K : World → Prop}
    (hdf : a.defers = []) (hg : a.eval g = .func (.func gf) #[] cap) (eg : ∀ args w, (callFunc gf args).run P w = .ok (.enter gf args) w) (hit : IterC P gf cap N arg K)
    (hps : ∀ k A B args, arg k A B args → args.size = ps.size)
    (harg : ∀ k A B args l o o', arg k A B args → A.heap[l]? = some (.loop o) → B.heap[l]? = some (.loop o) → arg k (A.putObj l o') (B.putObj l o') args)
    (I : Nat → World → Prop) (Ix : World → Prop)
    (hIe : ∀ k A B, I k A → Ext A B → I k B) (hIl : ∀ k A l o o', w.heap.size ≤ l → I k A → A.heap[l]? = some (.loop o) → I k (A.putObj l o')) (hXl : ∀ A l o o', w.heap.size ≤ l → Ix A → A.heap[l]? = some (.loop o) → Ix (A.putObj l o')) (hK : ∀ k A, I k A → K A) (h0 : I 0 w)
    (A1 : Array Value → Act → Prop)
    (hassign : ∀ (l k : Nat) (A B : World) (args : Array Value) (K : Act → World → Prop), arg k A B args → (∀ a1, A1 args a1 → K a1 B) →
      assign.wpIn (FR l) 0 P (Exit.then K (fun _ _ _ => False)) { tmps := roundTmps ps args a.tmps, defers := [] } B)
    (hbody : ∀ (l k : Nat) (A B : World) (args : Array Value) (a1 : Act), k < N → I k A → Ext A B → arg k A B args → A1 args a1 →
      body.wpIn (FR l) 0 P (RoundQ (fun W' => KeepsNC B W' ∧ I (k + 1) W') (fun W' => KeepsNC B W' ∧ Ix W')) a1 B)
    (hend : ∀ (D : Nat) (W : World), w.heap.size ≤ D → I N W → W.heap[D]? = some (.deferred (some [])) → Q .normal { a with defers := [{ target := .collected D, args := #[] }] } W)
    (hret : ∀ (D : Nat) (W : World), w.heap.size ≤ D → Ix W → W.heap[D]? = some (.deferred (some [])) → Q .ret { a with defers := [{ target := .collected D, args := #[] }] } W) :
    (Code.rangeFunc g ps assign body).wp P Q a w := by
  refine wpIn_wide.1 (wpIn_rangeFunc (n := 0) fun fn _ => ?_);obtain ⟨rec, hrec⟩ : ∃ rec : LoopState → Option Code → Loop, rec = fun st pe => { state := st, pending := pe, fn, tmps := a.tmps, params := ps, assign, body, defers := w.heap.size } := ⟨_, rfl⟩;obtain ⟨W1, hW1⟩ : ∃ W1, (w.alloc (.deferred (some []))).alloc (.loop (rec .ready none)) = W1 := ⟨_, rfl⟩;have hL1 : W1.heap[w.heap.size + 1]? = some (.loop (rec .ready none)) := by
    rw [← hW1]; have := World.alloc_heap_new (w.alloc (.deferred (some []))) (.loop (rec .ready none)); rwa [World.size_alloc] at this
  have hE1 : Ext w W1 := by rw [← hW1]; exact (Ext.alloc _ _).trans (Ext.alloc _ _)
  have hK1 : W1.heap[w.heap.size]? = some (.deferred (some [])) := by
    have e := Ext.alloc (w.alloc (.deferred (some []))) (.loop (rec .ready none));rw [← hW1]; exact (e.block w.heap.size (by rw [World.size_alloc]; omega)).trans (World.alloc_heap_new w _)
  have hI1 : I 0 W1 := hIe _ _ _ h0 hE1;have hne : w.heap.size ≠ w.heap.size + 1 := by omega
  refine ⟨w.heap.size + 1, [{ target := .collected w.heap.size, args := #[] }], W1, { target := .fn (.func gf) cap, args := #[.func (.yield (w.heap.size + 1)) #[] #[]] }, W1, gf,
    #[.func (.yield (w.heap.size + 1)) #[] #[]] ++ cap, W1, ?_, ?_, fun _ _ => trivial, ?_, fun e => (by cases e), ?_⟩
  · rw [← hW1, hrec]; exact run_enterLoop_outer _ _ _ _ _
  · simp only [resolve, hg]
    simp [go_sem]
  · simp [invoke, go_sem, eg]
  · have hdf2 : ([{ target := .collected w.heap.size, args := #[] }] : List Deferred) ++ a.defers = [{ target := .collected w.heap.size, args := #[] }] := by rw [hdf]; rfl
    refine (hit (w.heap.size + 1)
      (fun k W => I k W ∧ W.heap[w.heap.size + 1]? = some (.loop (rec .ready none)) ∧ W.heap[w.heap.size]? = some (.deferred (some [])))
      (fun W => Ix W ∧ W.heap[w.heap.size + 1]? = some (.loop (rec .done (some .ret))) ∧ W.heap[w.heap.size]? = some (.deferred (some [])))
      W1 (fun k A B hA hx => ⟨hIe k A B hA.1 hx, (hx.block _ (Array.getElem?_eq_some_iff.1 hA.2.1).1).trans hA.2.1, (hx.block _ (Array.getElem?_eq_some_iff.1 hA.2.2).1).trans hA.2.2⟩)
      (fun k A hA => hK k A hA.1) ?_ ⟨hI1, hL1, hK1⟩).mono ?_
    · rintro k A B args hk ⟨hIA, hlA, hdA⟩ hx ha
      have hltA : w.heap.size + 1 < A.heap.size := (Array.getElem?_eq_some_iff.1 hlA).1;have hlB : B.heap[w.heap.size + 1]? = some (.loop (rec .ready none)) := (hx.block _ hltA).trans hlA;have hltB : w.heap.size + 1 < B.heap.size := (Array.getElem?_eq_some_iff.1 hlB).1;have hdB : B.heap[w.heap.size]? = some (.deferred (some [])) := (hx.block _ (Array.getElem?_eq_some_iff.1 hdA).1).trans hdA;have hy := run_yield (P := P) (args := args) hlB (by rw [hrec]; exact hps k A B args ha);rw [hrec] at hy;refine ⟨fn, _, assign, body, hy, roundIn_of_wpIn trivial (hassign _ k A B args _ ha fun a1 hA1 => ⟨_, run_beginRound hlB (by rw [hrec]), ?_⟩)⟩;have hb := hbody (w.heap.size + 1) k _ _ args a1 hk (hIl k A (w.heap.size + 1) _ (.loop { rec .ready none with state := .busy }) (by omega) hIA hlA) (ext_put hx hltA) (harg k A B args (w.heap.size + 1) _ (.loop { rec .ready none with state := .busy }) ha hlA hlB) hA1;have hl2 : (B.putObj (w.heap.size + 1) (.loop { rec .ready none with state := .busy })).heap[w.heap.size + 1]? = some (.loop { rec .ready none with state := .busy }) := World.putObj_heap_same hltB;have hd2 : (B.putObj (w.heap.size + 1) (.loop { rec .ready none with state := .busy })).heap[w.heap.size]? = some (.deferred (some [])) := (World.putObj_heap_other hne).trans hdB;refine Code.wpIn_mono ?_ hb;have fin : ∀ (jump : Option Code) (W3 : World), KeepsNC (B.putObj (w.heap.size + 1) (.loop { rec .ready none with state := .busy })) W3 →
          (Instr.endRound (w.heap.size + 1) jump).run P W3 = .ok (.bool jump.isNone) (W3.putObj (w.heap.size + 1) (.loop (rec (if jump.isNone then .ready else .done) jump))) ∧
          W3.heap[w.heap.size + 1]? = some (.loop { rec .ready none with state := .busy }) ∧
          (W3.putObj (w.heap.size + 1) (.loop (rec (if jump.isNone then .ready else .done) jump))).heap[w.heap.size + 1]? = some (.loop (rec (if jump.isNone then .ready else .done) jump)) ∧
          (W3.putObj (w.heap.size + 1) (.loop (rec (if jump.isNone then .ready else .done) jump))).heap[w.heap.size]? = some (.deferred (some [])) := fun jump W3 hk3 => by
        have hl3 := hk3 _ _ hl2 (fun _ _ q => by cases q);have hd3 := hk3 _ _ hd2 (fun _ _ q => by cases q);have hlt3 : w.heap.size + 1 < W3.heap.size := (Array.getElem?_eq_some_iff.1 hl3).1;have := run_endRound (P := P) jump hl3;refine ⟨?_, hl3, World.putObj_heap_same hlt3, (World.putObj_heap_other hne).trans hd3⟩;rw [this, hrec]
      intro e a3 W3 hq
      cases e with
      | normal =>
        obtain ⟨hk3, hI3⟩ := hq;obtain ⟨h1, h2, h3, h4⟩ := fin none W3 hk3;exact ⟨_, _, h1, .inl ⟨rfl, hIl _ _ _ _ _ (by omega) hI3 h2, h3, h4⟩⟩
      | ret =>
        obtain ⟨hk3, hX3⟩ := hq;obtain ⟨h1, h2, h3, h4⟩ := fin (some .ret) W3 hk3;exact ⟨_, _, h1, .inr ⟨rfl, hXl _ _ _ _ (by omega) hX3 h2, h3, h4⟩⟩
      | exit id => exact hq.elim
      | goto t => exact hq.elim
      | panic c => exact hq.elim
      | outgrown => exact hq.elim
    · rintro e W3 ⟨⟨v, rfl⟩, ⟨hI3, hl3, hd3⟩ | ⟨hX3, hl3, hd3⟩⟩
      · refine ⟨none, W3.putObj (w.heap.size + 1) (.loop { rec .ready none with state := .exhausted }), (run_endLoop hl3 (by rw [hrec]; exact fun q => by cases q)).trans (by rw [hrec]), ?_⟩
        have hd4 : (W3.putObj (w.heap.size + 1) (.loop { rec .ready none with state := .exhausted })).heap[w.heap.size]? = some (.deferred (some [])) := (World.putObj_heap_other hne).trans hd3;have := hend _ _ (Nat.le_refl _) (hIl _ _ _ _ (.loop { rec .ready none with state := .exhausted }) (by omega) hI3 hl3) hd4;rw [← hdf2] at this;exact this
      · refine ⟨some .ret, W3.putObj (w.heap.size + 1) (.loop { rec .done (some .ret) with state := .exhausted }), (run_endLoop hl3 (by rw [hrec]; exact fun q => by cases q)).trans (by rw [hrec]), ?_⟩
        have hd4 : (W3.putObj (w.heap.size + 1) (.loop { rec .done (some .ret) with state := .exhausted })).heap[w.heap.size]? = some (.deferred (some [])) := (World.putObj_heap_other hne).trans hd3;have := hret _ _ (Nat.le_refl _) (hXl _ _ _ (.loop { rec .done (some .ret) with state := .exhausted }) (by omega) hX3 hl3) hd4;rw [← hdf2] at this;exact wpIn_ret this
end Go.Sw.Rw

namespace Go.Sw.Rw
open Go Go.RowKit
variable {P : Program}
theorem mem_put {X : List Nat} {w0 w : World} {L : Own} {D : Froz} (h : MemX X w0 w L D) {l : Nat} {o : Obj} (o' : Obj) (hl : w.heap[l]? = some o) (hno : ∀ cs t, o ≠ .cells cs t) (hge : w0.heap.size ≤ l) : MemX X w0 (w.putObj l o') L D := by
  have hbl : ∀ {q : Nat} {cs : Array Value}, Blk w q cs → Blk (w.putObj l o') q cs := fun {q cs} hq => by
    obtain ⟨t, ht⟩ := hq;refine ⟨t, (World.putObj_heap_other fun e => ?_).trans ht⟩;subst e;rw [hl] at ht;exact hno _ _ (Option.some.inj ht)
  refine ⟨⟨h.bel.os, h.bel.tape, h.bel.output, by simpa using h.bel.size, fun k hk hX => ?_⟩, fun k b cs hk => ⟨(h.blk k b cs hk).1, hbl (h.blk k b cs hk).2⟩, h.apart, fun b cs hm => ⟨hbl (h.froz b cs hm).1, (h.froz b cs hm).2⟩⟩;rw [World.putObj_heap_other (by omega)];exact h.bel.block k hk hX
abbrev mark (D : Nat) : Deferred := { target := .collected D, args := #[] }
section
variable {fn : Func} {n : Nat} {F : List (Nat × Value)} {a : Act} {w : World}
theorem calls_frM {f : FuncId} {c : Code} {R : Value → World → Prop} {N : Nat} (vs : List Value) (hf : P.funcs[f]? = some fn) (hb : fn.body = some c) (hN : fn.ntmps = N) (hn : Nat.ble vs.length N = true)
    (h : ∀ a, Fr N a (argF vs 0) → c.wp P (bodyPostM Fence.wide 0 P fn (fun e w' => ∃ v, e = .returned v ∧ Ext w w' ∧ R v w')) a w) : CallsR P f vs.toArray w R := by
  subst hN;exact callsIn_wide.1 (callsIn_of_wp_marks (n := 0) hf hb trivial (wpIn_wide.2 (h _ (frameA vs rfl hn))))
theorem fin2K {r s : ResultVar} {v u : Value} {R : Ending → World → Prop} {D : Nat} (hr : fn.results = #[r, s]) (hd : a.defers = []) (hD : w.heap[D]? = some (.deferred (some []))) (h1 : resIs P a (w.putObj D (.deferred none)) r v) (h2 : resIs P a (w.putObj D (.deferred none)) s u) (h : R (.returned (.tuple #[v, u])) (w.putObj D (.deferred none))) : bodyPostM Fence.wide 0 P fn R .ret (addD [mark D] a) w := by
  show LeavesInM _ _ _ _ a.tmps _ (a.defers ++ [mark D]) _ _
  rw [hd];exact ⟨fun q => (by cases q), .inl ⟨D, _, rfl, run_takeDeferred hD, .tuple #[v, u], by rw [results_eq, hr]; simp [resIs_run h1, resIs_run h2], h⟩⟩
end
/-! ### Calls of yield -/
section
variable {ops : Array Oper} {Q : Exit → Act → World → Prop} {rest : List Oper} {n : Nat} {F : List (Nat × Value)} {a : Act} {w : World} {t : TypeId} {pos : String} {af : Array Edge}
theorem op_inW {o : Oper} {next next' : Act → World → Prop} (hn : ∀ a w, next a w → next' a w) (h : o.wp P a w next Q) : o.wpIn Fence.wide 0 P a w next' Q := by
  refine ⟨fun _ _ => trivial, ?_⟩
  show o.uponIn Fence.wide 0 P a next' Q ((execOp a.eval o).run P w)
  unfold Oper.wp at h
  generalize (execOp a.eval o).run P w = r at h
  unfold Oper.upon at h
  split at h
  · exact hn _ _ h
  · exact hn _ _ h
  · exact hn _ _ h
  · refine ⟨fun e => (by cases e), callsIn_wide.2 (h.mono fun e w'' hq => ?_)⟩
    cases e with
    | returned v => exact hn _ _ hq
    | panicked c => exact hq
    | outgrown => exact hq
  · refine ⟨fun e => (by cases e), fun c cs hr => ?_⟩
    obtain ⟨v, w', h1, h2⟩ := h c cs;exact ⟨v, w', hn _ _ h1, stepsIn_wide.2 h2⟩
  · exact h
  · exact h.elim
theorem region_W {id : Nat} {l : List Oper} (h : wpListIn Fence.wide 0 P l.toArray Q l a w) : (Code.region id l.toArray false).wp P Q a w := wpIn_wide.1 (wpIn_region_lit h)
theorem stW {d : Nat} {op : Op} {v : Value} (hF : Fr n a F) (hd : Gives P ⟨some d, op, t, pos, af, none⟩ a w v) (hn : Nat.blt d n = true)
    (h : ∀ a', Fr n a' ((d, v) :: F) → wpListIn Fence.wide 0 P ops Q rest a' w) : wpListIn Fence.wide 0 P ops Q (⟨some d, op, t, pos, af, none⟩ :: rest) a w :=
  wpListIn_plain rfl fun K hK => op_inW (fun a w h => h) (hd.run K Q fun u w' ⟨h1, h2⟩ => by subst h1; subst h2; exact hK _ _ (h _ (hF.put d _ hn)))
theorem stYield {d l : Nat} {x : Operand} {xs : List Operand} {vs : List Value} {ats : Array TypeId} {R : Value → World → Prop} (hF : Fr n a F) (hx : look F x = some (.func (.yield l) #[] #[])) (hxs : looks F xs vs) (hn : Nat.blt d n = true)
    (hY : YieldAt Fence.wide 0 P l vs.toArray w (fun e W' => ∃ v, e = .returned v ∧ R v W'))
    (h : ∀ v w' a', R v w' → Fr n a' ((d, v) :: F) → wpListIn Fence.wide 0 P ops Q rest a' w') : wpListIn Fence.wide 0 P ops Q (⟨some d, .call { callee := .value x, args := xs.toArray, argTypes := ats }, t, pos, af, none⟩ :: rest) a w :=
  wpListIn_plain rfl fun K hK => by
    obtain ⟨fn, tmps, assign, body, hy, hR⟩ := hY
    refine ⟨fun _ _ => trivial, ?_⟩
    have e : (xs.toArray.map a.eval) = vs.toArray := by rw [← hF.evals hxs]; simp
    have hrun : (execOp a.eval ⟨some d, .call { callee := .value x, args := xs.toArray, argTypes := ats }, t, pos, af, none⟩).run P w = .ok (.round l fn tmps assign body) w := by
      simp [execOp, resolve, hF.eval hx, Deferred.ofValue, invoke, e, hy]
    rw [show ∀ o, Oper.semAt Fence.wide.round a.eval o = execOp a.eval o from fun o => rfl, hrun];refine ⟨fun e => (by cases e), hR.mono fun e w'' ⟨v, he, hv⟩ => ?_⟩;subst he;exact hK _ _ (h _ _ _ hv (hF.put d _ hn))
theorem nilW (h : Q .normal a w) : wpListIn Fence.wide 0 P ops Q [] a w := h
end
end Go.Sw.Rw

namespace Go.Sw.Rw
open Go Go.RowKit
variable {P : Program}
theorem callsW_fr {fn : Func} {w : World} {f : FuncId} {c : Code} {R : Ending → World → Prop} {N : Nat} (vs : List Value) (hf : P.funcs[f]? = some fn) (hb : fn.body = some c) (hN : fn.ntmps = N) (hn : Nat.ble vs.length N = true)
    (h : ∀ a, Fr N a (argF vs 0) → c.wp P (bodyPost P fn R) a w) : CallsIn Fence.wide 0 P f vs.toArray w R := by
  subst hN;exact callsIn_of_wp hf hb trivial (wpIn_wide.2 (h _ (frameA vs rfl hn)))
def digF (s l k i : Nat) : Nat := k / s ^ (l - 1 - i) % s
def digG (s l k j i : Nat) : Nat := if l ≤ i + j then digF s l k i else 0
def ArgCh (s l : Nat) (k : Nat) (A B : World) (args : Array Value) : Prop := ∃ bn, args = #[.int .i64 (k : Int), .slice (some ⟨bn, 0, none⟩) l l] ∧ A.heap.size ≤ bn ∧ Blk B bn (numC l (digF s l k))
def CapK (bs bl s l : Nat) (W : World) : Prop := Blk W bs #[.int .i64 (s : Int)] ∧ Blk W bl #[.int .i64 (l : Int)]
end Go.Sw.Rw

namespace Go.Sw.Rw
open Go Go.RowKit
variable {P : Program}
theorem round2 {n p q : Nat} {a : Act} {F : List (Nat × Value)} {u v : Value} (hF : Fr n a F) (hp : Nat.blt p n = true) (hq : Nat.blt q n = true) : Fr n { tmps := roundTmps #[p, q] #[u, v] a.tmps, defers := [] } ((q, v) :: (p, u) :: F) := by
  have h := (hF.put p u hp).put q v hq;have e : roundTmps #[p, q] #[u, v] a.tmps = ((a.put (some p) u).put (some q) v).tmps := by simp [roundTmps, Act.put]
  rw [e];exact ⟨rfl, h.size, h.get⟩
def blks (L : Own) : List Nat := L.filterMap (fun x => x.map Prod.fst)
theorem mem_blks {L : Own} {b : Nat} : b ∈ blks L ↔ ∃ (k : Nat) (cs : Array Value), L[k]? = some (some (b, cs)) := by
  unfold blks
  rw [List.mem_filterMap]
  constructor
  · rintro ⟨x, hx, e⟩
    cases x with
    | none => cases e
    | some y =>
      obtain ⟨k, hk⟩ := List.mem_iff_getElem?.1 hx;obtain rfl := Option.some.inj e;exact ⟨k, y.2, hk⟩
  · rintro ⟨k, cs, hk⟩
    exact ⟨some (b, cs), List.mem_iff_getElem?.2 ⟨k, hk⟩, rfl⟩
theorem rebase {w0 w : World} {L : Own} {D : Froz} (h : Mem w0 w L D) : MemX (blks L) w w L D :=
  ⟨ExtX.refl _ w, fun k b cs hk => ⟨.inr (mem_blks.2 ⟨k, cs, hk⟩), (h.blk k b cs hk).2⟩, h.apart, h.froz⟩
theorem unbase {w0 w w' : World} {L L' : Own} {D D' : Froz} (h : Mem w0 w L D) (h2 : MemX (blks L) w w' L' D') (hD : ∀ x, x ∈ D → x ∈ D') : Mem w0 w' L' D := by
  have hge : ∀ b, b ∈ blks L → w0.heap.size ≤ b := fun b hb => by
    obtain ⟨k, cs, hk⟩ := mem_blks.1 hb;exact (h.blk k b cs hk).1.resolve_right (by simp)
  refine ⟨⟨h2.bel.os.trans h.bel.os, h2.bel.tape.trans h.bel.tape, h2.bel.output.trans h.bel.output, Nat.le_trans h.bel.size h2.bel.size, fun k hk hX => ?_⟩, fun k b cs hk => ⟨.inl ?_, (h2.blk k b cs hk).2⟩, h2.apart, fun b cs hm => h2.froz b cs (hD _ hm)⟩
  · exact (h2.bel.block k (Nat.lt_of_lt_of_le hk h.bel.size) (fun q => by have := hge k q; omega)).trans (h.bel.block k hk hX)
  · rcases (h2.blk k b cs hk).1 with q | q
    · exact Nat.le_trans h.bel.size q
    · exact hge b q
theorem keeps {w0 w w' : World} {L L' : Own} {D D' : Froz} (h : Mem w0 w L D) (h2 : MemX (blks L) w w' L' D') : KeepsNC w w' :=
  keepsNC_of h2.bel fun b hb => by
    obtain ⟨k, cs, hk⟩ := mem_blks.1 hb
    exact ⟨cs, (h.blk k b cs hk).2⟩
theorem addD_mark {n D : Nat} {a : Act} {F : List (Nat × Value)} (hF : Fr n a F) : ({ a with defers := [{ target := .collected D, args := #[] }] } : Act) = addD [mark D] a := by
  unfold addD; rw [hF.defers]; rfl
end Go.Sw.Rw
namespace Go.Sw.Rw
def orgF (ord d : Nat → Nat) : Nat → Nat → Nat
  | 0, _ => 0
  | j + 1, c => if c = ord j then d j else orgF ord d j c
def plF (s : Nat) (g : Nat → Nat) : Nat → Nat
  | 0 => 0
  | j + 1 => plF s g j * s + g j
def pmF (s l : Nat) (ord f : Nat → Nat) (k : Nat) : Nat := f (plF s (orgF ord (digF s l k) l) l)
end Go.Sw.Rw

namespace Go.Sw.Rw
open Go Go.RowKit
variable {P : Program}
/-! ### A range over a function whose iterator ranges over a function itself -/
def KeepG (s : Nat) (B W : World) : Prop := B.heap.size ≤ W.heap.size ∧ ∀ q, s ≤ q → q < B.heap.size → W.heap[q]? = B.heap[q]?
theorem KeepG.trans {s : Nat} {A B C : World} (h1 : KeepG s A B) (h2 : KeepG s B C) : KeepG s A C := ⟨Nat.le_trans h1.1 h2.1, fun q hq hl => (h2.2 q hq (Nat.lt_of_lt_of_le hl h1.1)).trans (h1.2 q hq hl)⟩
theorem KeepG.put {s l : Nat} {A B : World} (h : KeepG s A B) {o : Obj} (hl : l < s ∨ A.heap.size ≤ l) : KeepG s A (B.putObj l o) := ⟨by simpa using h.1, fun q hq hlt => (World.putObj_heap_other (by omega)).trans (h.2 q hq hlt)⟩
theorem KeepG.blk {s b : Nat} {A B : World} {cs : Array Value} (h : KeepG s A B) (hb : Blk A b cs) (hs : s ≤ b) : Blk B b cs := by
  obtain ⟨t, ht⟩ := hb;exact ⟨t, (h.2 b hs (Array.getElem?_eq_some_iff.1 ht).1).trans ht⟩
theorem KeepG.mono {s s' : Nat} {A B : World} (h : KeepG s A B) (hs : s ≤ s') : KeepG s' A B := ⟨h.1, fun q hq hl => h.2 q (by omega) hl⟩
def IterM (P : Program) (gf : Nat) (cap : Array Value) (N : Nat) (arg : Nat → World → World → Array Value → Prop) (K : World → Prop) : Prop :=
  ∀ (l : Nat) (J : Nat → World → Prop) (Jx : World → Prop) (W : World),
    (∀ k A B, J k A → Ext A B → J k B) → (∀ k A, J k A → K A) →
    (∀ k A q o o', W.heap.size ≤ q → J k A → A.heap[q]? = some o → (∀ cs t, o ≠ .cells cs t) → J k (A.putObj q o')) →
    (∀ A q o o', W.heap.size ≤ q → Jx A → A.heap[q]? = some o → (∀ cs t, o ≠ .cells cs t) → Jx (A.putObj q o')) →
    (∀ k A B args, k < N → J k A → Ext A B → arg k A B args → YieldAt Fence.wide 0 P l args B (fun e W' => KeepG W.heap.size B W' ∧ ((e = .returned (.bool true) ∧ J (k + 1) W') ∨ (e = .returned (.bool false) ∧ Jx W')))) →
    J 0 W → CallsIn Fence.wide 0 P gf (#[.func (.yield l) #[] #[]] ++ cap) W (fun e W' => (∃ v, e = .returned v) ∧ (J N W' ∨ Jx W'))
/-! ### Code in a round that calls the yield of a caller -/
section
variable {ops : Array Oper} {Q : Exit → Act → World → Prop} {rest : List Oper} {n L : Nat} {F : List (Nat × Value)} {a : Act} {w : World} {t : TypeId} {pos : String} {af : Array Edge}
end
def ArgO (_ : Nat) (_ _ : World) (args : Array Value) : Prop := ∃ v, args = #[v]
/-! ### A function without results that ends with a range over a function -/
section
variable {fn : Func} {a : Act} {w : World}
end
end Go.Sw.Rw

namespace Go.Sw
open Go Go.RowKit
/-! ### Maps that are told by digits, and how many of them keep products -/
def digL (m k i : Nat) : Nat := k / m ^ i % m
def homP (n : Nat) (M M2 : Nat → Nat → Nat) (d : Nat → Nat) : Prop := ∀ i, i < n → ∀ j, j < n → d (M i j) = M2 (d i) (d j)
def homB (n : Nat) (M M2 : Nat → Nat → Nat) (d : Nat → Nat) : Bool := (List.range n).all fun i => (List.range n).all fun j => d (M i j) == M2 (d i) (d j)
def hmF (n m : Nat) (M M2 : Nat → Nat → Nat) (k : Nat) : Nat := cnt (fun x => homB n M M2 (Rw.digF m n x)) k
def hmL (n m : Nat) (M M2 : Nat → Nat → Nat) (k : Nat) : Nat := cnt (fun x => homB n M M2 (digL m x)) k
end Go.Sw
