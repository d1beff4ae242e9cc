/- Plain lemmas of a small calculus for walks over frames and own memory; no statement of the seat is proved here. -/
import Derived.Test.YtlpccepifehilaaSw51
import Derived.Test.YtlpccepifehilaaSw3
import Derived.Test.YtlpccepifehilaaSw85
import Derived.JoinedOf
import Derived.KernelRfl
set_option linter.unusedVariables false
set_option linter.unusedSimpArgs false
namespace Go.Sw.Rw
open Go Go.RowKit
variable {P : Program}
theorem round2 {n p q : Nat} {a : Act} {F : List (Nat × Value)} {u v : Value} (hF : Fr n a F) (hp : Nat.blt p n = true) (hq : Nat.blt q n = true) : Fr n { tmps := roundTmps #[p, q] #[u, v] a.tmps, defers := [] } ((q, v) :: (p, u) :: F) := by
  have h := (hF.put p u hp).put q v hq;have e : roundTmps #[p, q] #[u, v] a.tmps = ((a.put (some p) u).put (some q) v).tmps := by simp [roundTmps, Act.put]
  rw [e];exact ⟨rfl, h.size, h.get⟩
theorem args_inj {x y b c l : Nat} (h : (#[.int .i64 (x : Int), .slice (some ⟨b, 0, none⟩) l l] : Array Value) = #[.int .i64 (y : Int), .slice (some ⟨c, 0, none⟩) l l]) : x = y ∧ b = c := by
  simp only [Array.mk.injEq, List.cons.injEq, Value.int.injEq, true_and, Value.slice.injEq, Option.some.injEq, Addr.mk.injEq, and_true] at h;exact ⟨by have := h.1; omega, h.2⟩
def blks (L : Own) : List Nat := L.filterMap (fun x => x.map Prod.fst)
theorem mem_blks {L : Own} {b : Nat} : b ∈ blks L ↔ ∃ (k : Nat) (cs : Array Value), L[k]? = some (some (b, cs)) := by
  unfold blks
  rw [List.mem_filterMap]
  constructor
  · rintro ⟨x, hx, e⟩
    cases x with
    | none => cases e
    | some y =>
      obtain ⟨k, hk⟩ := List.mem_iff_getElem?.1 hx;obtain rfl := Option.some.inj e;exact ⟨k, y.2, hk⟩
  · rintro ⟨k, cs, hk⟩
    exact ⟨some (b, cs), List.mem_iff_getElem?.2 ⟨k, hk⟩, rfl⟩
theorem rebase {w0 w : World} {L : Own} {D : Froz} (h : Mem w0 w L D) : MemX (blks L) w w L D :=
  ⟨ExtX.refl _ w, fun k b cs hk => ⟨.inr (mem_blks.2 ⟨k, cs, hk⟩), (h.blk k b cs hk).2⟩, h.apart, h.froz⟩
theorem unbase {w0 w w' : World} {L L' : Own} {D D' : Froz} (h : Mem w0 w L D) (h2 : MemX (blks L) w w' L' D') (hD : ∀ x, x ∈ D → x ∈ D') : Mem w0 w' L' D := by
  have hge : ∀ b, b ∈ blks L → w0.heap.size ≤ b := fun b hb => by
    obtain ⟨k, cs, hk⟩ := mem_blks.1 hb;exact (h.blk k b cs hk).1.resolve_right (by simp)
  refine ⟨⟨h2.bel.os.trans h.bel.os, h2.bel.tape.trans h.bel.tape, h2.bel.output.trans h.bel.output, Nat.le_trans h.bel.size h2.bel.size, fun k hk hX => ?_⟩, fun k b cs hk => ⟨.inl ?_, (h2.blk k b cs hk).2⟩, h2.apart, fun b cs hm => h2.froz b cs (hD _ hm)⟩
  · exact (h2.bel.block k (Nat.lt_of_lt_of_le hk h.bel.size) (fun q => by have := hge k q; omega)).trans (h.bel.block k hk hX)
  · rcases (h2.blk k b cs hk).1 with q | q
    · exact Nat.le_trans h.bel.size q
    · exact hge b q
theorem keeps {w0 w w' : World} {L L' : Own} {D D' : Froz} (h : Mem w0 w L D) (h2 : MemX (blks L) w w' L' D') : KeepsNC w w' :=
  keepsNC_of h2.bel fun b hb => by
    obtain ⟨k, cs, hk⟩ := mem_blks.1 hb
    exact ⟨cs, (h.blk k b cs hk).2⟩
theorem addD_mark {n D : Nat} {a : Act} {F : List (Nat × Value)} (hF : Fr n a F) : ({ a with defers := [{ target := .collected D, args := #[] }] } : Act) = addD [mark D] a := by
  unfold addD; rw [hF.defers]; rfl
end Go.Sw.Rw
namespace Go.Sw.Rw
def orgF (ord d : Nat → Nat) : Nat → Nat → Nat
  | 0, _ => 0
  | j + 1, c => if c = ord j then d j else orgF ord d j c
def plF (s : Nat) (g : Nat → Nat) : Nat → Nat
  | 0 => 0
  | j + 1 => plF s g j * s + g j
theorem plF_lt {s : Nat} {g : Nat → Nat} (h : ∀ c, g c < s) : ∀ j, plF s g j < s ^ j
  | 0 => by unfold plF; exact Nat.lt_of_lt_of_le Nat.zero_lt_one (Nat.le_refl _)
  | j + 1 => by
    have ih := plF_lt h j
    have hg := h j
    unfold plF
    rw [Nat.pow_succ]
    have : (plF s g j + 1) * s ≤ s ^ j * s := Nat.mul_le_mul_right s ih
    rw [Nat.add_mul, Nat.one_mul] at this
    omega
def pmF (s l : Nat) (ord f : Nat → Nat) (k : Nat) : Nat := f (plF s (orgF ord (digF s l k) l) l)
end Go.Sw.Rw

namespace Go.Sw.Rw
open Go Go.RowKit
variable {P : Program}
/-! ### A range over a function whose iterator ranges over a function itself -/
def KeepG (s : Nat) (B W : World) : Prop := B.heap.size ≤ W.heap.size ∧ ∀ q, s ≤ q → q < B.heap.size → W.heap[q]? = B.heap[q]?
theorem KeepG.trans {s : Nat} {A B C : World} (h1 : KeepG s A B) (h2 : KeepG s B C) : KeepG s A C := ⟨Nat.le_trans h1.1 h2.1, fun q hq hl => (h2.2 q hq (Nat.lt_of_lt_of_le hl h1.1)).trans (h1.2 q hq hl)⟩
theorem KeepG.of_ext {s : Nat} {A B : World} (h : Ext A B) : KeepG s A B := ⟨h.size, fun q _ hl => h.block q hl⟩
theorem KeepG.of_extX {X : List Nat} {s : Nat} {A B : World} (h : ExtX X A B) (hX : ∀ b, b ∈ X → b < s) : KeepG s A B := ⟨h.size, fun q hq hl => h.block q hl fun hm => by have := hX q hm; omega⟩
theorem KeepG.put {s l : Nat} {A B : World} (h : KeepG s A B) {o : Obj} (hl : l < s ∨ A.heap.size ≤ l) : KeepG s A (B.putObj l o) := ⟨by simpa using h.1, fun q hq hlt => (World.putObj_heap_other (by omega)).trans (h.2 q hq hlt)⟩
theorem KeepG.blk {s b : Nat} {A B : World} {cs : Array Value} (h : KeepG s A B) (hb : Blk A b cs) (hs : s ≤ b) : Blk B b cs := by
  obtain ⟨t, ht⟩ := hb;exact ⟨t, (h.2 b hs (Array.getElem?_eq_some_iff.1 ht).1).trans ht⟩
theorem KeepG.mono {s s' : Nat} {A B : World} (h : KeepG s A B) (hs : s ≤ s') : KeepG s' A B := ⟨h.1, fun q hq hl => h.2 q (by omega) hl⟩
def IterM (P : Program) (gf : Nat) (cap : Array Value) (N : Nat) (arg : Nat → World → World → Array Value → Prop) (K : World → Prop) : Prop :=
  ∀ (l : Nat) (J : Nat → World → Prop) (Jx : World → Prop) (W : World),
    (∀ k A B, J k A → Ext A B → J k B) → (∀ k A, J k A → K A) →
    (∀ k A q o o', W.heap.size ≤ q → J k A → A.heap[q]? = some o → (∀ cs t, o ≠ .cells cs t) → J k (A.putObj q o')) →
    (∀ A q o o', W.heap.size ≤ q → Jx A → A.heap[q]? = some o → (∀ cs t, o ≠ .cells cs t) → Jx (A.putObj q o')) →
    (∀ k A B args, k < N → J k A → Ext A B → arg k A B args → YieldAt Fence.wide 0 P l args B (fun e W' => KeepG W.heap.size B W' ∧ ((e = .returned (.bool true) ∧ J (k + 1) W') ∨ (e = .returned (.bool false) ∧ Jx W')))) →
    J 0 W → CallsIn Fence.wide 0 P gf (#[.func (.yield l) #[] #[]] ++ cap) W (fun e W' => (∃ v, e = .returned v) ∧ (J N W' ∨ Jx W'))
theorem yield_mono {F : Fence} {m l : Nat} {args : Array Value} {W : World} {R R' : Ending → World → Prop} (h : YieldAt F m P l args W R) (hr : ∀ e w, R e w → R' e w) : YieldAt F m P l args W R' := by
  obtain ⟨fn, tmps, assign, body, hy, hR⟩ := h;exact ⟨fn, tmps, assign, body, hy, hR.mono hr⟩
theorem IterC.toM {gf N : Nat} {cap : Array Value} {arg : Nat → World → World → Array Value → Prop} {K : World → Prop} (h : IterC P gf cap N arg K) : IterM P gf cap N arg K :=
  fun l J Jx W h1 h2 _ _ h5 h6 => h l J Jx W h1 h2 (fun k A B args a b c d => yield_mono (h5 k A B args a b c d) fun _ _ q => q.2) h6
theorem c_rangeFnM {g : Operand} {ps : Array Tmp} {assign body : Code} {Q : Exit → Act → World → Prop} {a : Act} {w : World} {gf : Nat} {cap : Array Value} {N : Nat} {arg : Nat → World → World → Array Value → Prop} {K : World → Prop}
    (hdf : a.defers = []) (hg : a.eval g = .func (.func gf) #[] cap) (eg : ∀ args w, (callFunc gf args).run P w = .ok (.enter gf args) w) (hit : IterM P gf cap N arg K)
    (hps : ∀ k A B args, arg k A B args → args.size = ps.size)
    (harg : ∀ k A B args l o o', arg k A B args → A.heap[l]? = some (.loop o) → B.heap[l]? = some (.loop o) → arg k (A.putObj l o') (B.putObj l o') args)
    (I : Nat → World → Prop) (Ix : World → Prop)
    (hIe : ∀ k A B, I k A → Ext A B → I k B) (hIl : ∀ k A l o o', w.heap.size ≤ l → I k A → A.heap[l]? = some o → (∀ cs t, o ≠ .cells cs t) → I k (A.putObj l o')) (hXl : ∀ A l o o', w.heap.size ≤ l → Ix A → A.heap[l]? = some o → (∀ cs t, o ≠ .cells cs t) → Ix (A.putObj l o')) (hK : ∀ k A, I k A → K A) (h0 : I 0 w)
    (A1 : Array Value → Act → Prop)
    (hassign : ∀ (l k : Nat) (A B : World) (args : Array Value) (K : Act → World → Prop), arg k A B args → (∀ a1, A1 args a1 → K a1 B) →
      assign.wpIn (FR l) 0 P (Exit.then K (fun _ _ _ => False)) { tmps := roundTmps ps args a.tmps, defers := [] } B)
    (hbody : ∀ (l k : Nat) (A B : World) (args : Array Value) (a1 : Act), k < N → I k A → Ext A B → arg k A B args → A1 args a1 →
      body.wpIn (FR l) 0 P (RoundQ (fun W' => KeepG w.heap.size B W' ∧ I (k + 1) W') (fun W' => KeepG w.heap.size B W' ∧ Ix W')) a1 B)
    (hend : ∀ (D : Nat) (W : World), w.heap.size ≤ D → I N W → W.heap[D]? = some (.deferred (some [])) → Q .normal { a with defers := [{ target := .collected D, args := #[] }] } W)
    (hret : ∀ (D : Nat) (W : World), w.heap.size ≤ D → Ix W → W.heap[D]? = some (.deferred (some [])) → Q .ret { a with defers := [{ target := .collected D, args := #[] }] } W) :
    (Code.rangeFunc g ps assign body).wp P Q a w := by
  refine wpIn_wide.1 (wpIn_rangeFunc (n := 0) fun fn _ => ?_);obtain ⟨rec, hrec⟩ : ∃ rec : LoopState → Option Code → Loop, rec = fun st pe => { state := st, pending := pe, fn, tmps := a.tmps, params := ps, assign, body, defers := w.heap.size } := ⟨_, rfl⟩;obtain ⟨W1, hW1⟩ : ∃ W1, (w.alloc (.deferred (some []))).alloc (.loop (rec .ready none)) = W1 := ⟨_, rfl⟩;have hL1 : W1.heap[w.heap.size + 1]? = some (.loop (rec .ready none)) := by
    rw [← hW1]; have := World.alloc_heap_new (w.alloc (.deferred (some []))) (.loop (rec .ready none)); rwa [World.size_alloc] at this
  have hE1 : Ext w W1 := by rw [← hW1]; exact (Ext.alloc _ _).trans (Ext.alloc _ _)
  have hK1 : W1.heap[w.heap.size]? = some (.deferred (some [])) := by
    have e := Ext.alloc (w.alloc (.deferred (some []))) (.loop (rec .ready none));rw [← hW1]; exact (e.block w.heap.size (by rw [World.size_alloc]; omega)).trans (World.alloc_heap_new w _)
  have hI1 : I 0 W1 := hIe _ _ _ h0 hE1;have hne : w.heap.size ≠ w.heap.size + 1 := by omega
  have hs1 : W1.heap.size = w.heap.size + 2 := by rw [← hW1, World.size_alloc, World.size_alloc]
  have nl : ∀ {o : Loop}, ∀ cs t, (Obj.loop o) ≠ .cells cs t := fun cs t q => by cases q
  refine ⟨w.heap.size + 1, [{ target := .collected w.heap.size, args := #[] }], W1, { target := .fn (.func gf) cap, args := #[.func (.yield (w.heap.size + 1)) #[] #[]] }, W1, gf,
    #[.func (.yield (w.heap.size + 1)) #[] #[]] ++ cap, W1, ?_, ?_, fun _ _ => trivial, ?_, fun e => (by cases e), ?_⟩
  · rw [← hW1, hrec]; exact run_enterLoop_outer _ _ _ _ _
  · simp only [resolve, hg]
    simp [go_sem]
  · simp [invoke, go_sem, eg]
  · have hdf2 : ([{ target := .collected w.heap.size, args := #[] }] : List Deferred) ++ a.defers = [{ target := .collected w.heap.size, args := #[] }] := by rw [hdf]; rfl
    refine (hit (w.heap.size + 1)
      (fun k W => I k W ∧ W.heap[w.heap.size + 1]? = some (.loop (rec .ready none)) ∧ W.heap[w.heap.size]? = some (.deferred (some [])))
      (fun W => Ix W ∧ W.heap[w.heap.size + 1]? = some (.loop (rec .done (some .ret))) ∧ W.heap[w.heap.size]? = some (.deferred (some [])))
      W1 (fun k A B hA hx => ⟨hIe k A B hA.1 hx, (hx.block _ (Array.getElem?_eq_some_iff.1 hA.2.1).1).trans hA.2.1, (hx.block _ (Array.getElem?_eq_some_iff.1 hA.2.2).1).trans hA.2.2⟩)
      (fun k A hA => hK k A hA.1)
      (fun k A q o o' hq hA ho hno => ⟨hIl k A q o o' (by rw [hs1] at hq; omega) hA.1 ho hno, (World.putObj_heap_other (by rw [hs1] at hq; omega)).trans hA.2.1, (World.putObj_heap_other (by rw [hs1] at hq; omega)).trans hA.2.2⟩)
      (fun A q o o' hq hA ho hno => ⟨hXl A q o o' (by rw [hs1] at hq; omega) hA.1 ho hno, (World.putObj_heap_other (by rw [hs1] at hq; omega)).trans hA.2.1, (World.putObj_heap_other (by rw [hs1] at hq; omega)).trans hA.2.2⟩)
      ?_ ⟨hI1, hL1, hK1⟩).mono ?_
    · rintro k A B args hk ⟨hIA, hlA, hdA⟩ hx ha
      have hltA : w.heap.size + 1 < A.heap.size := (Array.getElem?_eq_some_iff.1 hlA).1;have hlB : B.heap[w.heap.size + 1]? = some (.loop (rec .ready none)) := (hx.block _ hltA).trans hlA;have hltB : w.heap.size + 1 < B.heap.size := (Array.getElem?_eq_some_iff.1 hlB).1;have hdB : B.heap[w.heap.size]? = some (.deferred (some [])) := (hx.block _ (Array.getElem?_eq_some_iff.1 hdA).1).trans hdA;have hy := run_yield (P := P) (args := args) hlB (by rw [hrec]; exact hps k A B args ha);rw [hrec] at hy;refine ⟨fn, _, assign, body, hy, roundIn_of_wpIn trivial (hassign _ k A B args _ ha fun a1 hA1 => ⟨_, run_beginRound hlB (by rw [hrec]), ?_⟩)⟩;have hb := hbody (w.heap.size + 1) k _ _ args a1 hk (hIl k A (w.heap.size + 1) _ (.loop { rec .ready none with state := .busy }) (by omega) hIA hlA nl) (ext_put hx hltA) (harg k A B args (w.heap.size + 1) _ (.loop { rec .ready none with state := .busy }) ha hlA hlB) hA1;have hl2 : (B.putObj (w.heap.size + 1) (.loop { rec .ready none with state := .busy })).heap[w.heap.size + 1]? = some (.loop { rec .ready none with state := .busy }) := World.putObj_heap_same hltB;have hd2 : (B.putObj (w.heap.size + 1) (.loop { rec .ready none with state := .busy })).heap[w.heap.size]? = some (.deferred (some [])) := (World.putObj_heap_other hne).trans hdB;refine Code.wpIn_mono ?_ hb;have fin : ∀ (jump : Option Code) (W3 : World), KeepG w.heap.size (B.putObj (w.heap.size + 1) (.loop { rec .ready none with state := .busy })) W3 →
          (Instr.endRound (w.heap.size + 1) jump).run P W3 = .ok (.bool jump.isNone) (W3.putObj (w.heap.size + 1) (.loop (rec (if jump.isNone then .ready else .done) jump))) ∧
          W3.heap[w.heap.size + 1]? = some (.loop { rec .ready none with state := .busy }) ∧
          (W3.putObj (w.heap.size + 1) (.loop (rec (if jump.isNone then .ready else .done) jump))).heap[w.heap.size + 1]? = some (.loop (rec (if jump.isNone then .ready else .done) jump)) ∧
          (W3.putObj (w.heap.size + 1) (.loop (rec (if jump.isNone then .ready else .done) jump))).heap[w.heap.size]? = some (.deferred (some [])) := fun jump W3 hk3 => by
        have hl3 := (hk3.2 _ (by omega) (by simpa using hltB)).trans hl2;have hd3 := (hk3.2 _ (by omega) (by simpa using (Array.getElem?_eq_some_iff.1 hdB).1)).trans hd2;have hlt3 : w.heap.size + 1 < W3.heap.size := (Array.getElem?_eq_some_iff.1 hl3).1;have := run_endRound (P := P) jump hl3;refine ⟨?_, hl3, World.putObj_heap_same hlt3, (World.putObj_heap_other hne).trans hd3⟩;rw [this, hrec]
      have kg : ∀ (W3 : World), KeepG w.heap.size (B.putObj (w.heap.size + 1) (.loop { rec .ready none with state := .busy })) W3 → ∀ o, KeepG W1.heap.size B (W3.putObj (w.heap.size + 1) o) := fun W3 h3 o => by
        refine ⟨by simpa using h3.1, fun q h1 h2 => ?_⟩;rw [World.putObj_heap_other (by omega), h3.2 q (by omega) (by simpa using h2), World.putObj_heap_other (by omega)]
      intro e a3 W3 hq
      cases e with
      | normal =>
        obtain ⟨hk3, hI3⟩ := hq;obtain ⟨h1, h2, h3, h4⟩ := fin none W3 hk3;exact ⟨_, _, h1, kg W3 hk3 _, .inl ⟨rfl, hIl _ _ _ _ _ (by omega) hI3 h2 nl, h3, h4⟩⟩
      | ret =>
        obtain ⟨hk3, hX3⟩ := hq;obtain ⟨h1, h2, h3, h4⟩ := fin (some .ret) W3 hk3;exact ⟨_, _, h1, kg W3 hk3 _, .inr ⟨rfl, hXl _ _ _ _ (by omega) hX3 h2 nl, h3, h4⟩⟩
      | exit id => exact hq.elim
      | goto t => exact hq.elim
      | panic c => exact hq.elim
      | outgrown => exact hq.elim
    · rintro e W3 ⟨⟨v, rfl⟩, ⟨hI3, hl3, hd3⟩ | ⟨hX3, hl3, hd3⟩⟩
      · refine ⟨none, W3.putObj (w.heap.size + 1) (.loop { rec .ready none with state := .exhausted }), (run_endLoop hl3 (by rw [hrec]; exact fun q => by cases q)).trans (by rw [hrec]), ?_⟩
        have hd4 : (W3.putObj (w.heap.size + 1) (.loop { rec .ready none with state := .exhausted })).heap[w.heap.size]? = some (.deferred (some [])) := (World.putObj_heap_other hne).trans hd3;have := hend _ _ (Nat.le_refl _) (hIl _ _ _ _ (.loop { rec .ready none with state := .exhausted }) (by omega) hI3 hl3 nl) hd4;rw [← hdf2] at this;exact this
      · refine ⟨some .ret, W3.putObj (w.heap.size + 1) (.loop { rec .done (some .ret) with state := .exhausted }), (run_endLoop hl3 (by rw [hrec]; exact fun q => by cases q)).trans (by rw [hrec]), ?_⟩
        have hd4 : (W3.putObj (w.heap.size + 1) (.loop { rec .done (some .ret) with state := .exhausted })).heap[w.heap.size]? = some (.deferred (some [])) := (World.putObj_heap_other hne).trans hd3;have := hret _ _ (Nat.le_refl _) (hXl _ _ _ (.loop { rec .done (some .ret) with state := .exhausted }) (by omega) hX3 hl3 nl) hd4;rw [← hdf2] at this;exact wpIn_ret this
/-! ### Code in a round that calls the yield of a caller -/
section
variable {ops : Array Oper} {Q : Exit → Act → World → Prop} {rest : List Oper} {n L : Nat} {F : List (Nat × Value)} {a : Act} {w : World} {t : TypeId} {pos : String} {af : Array Edge}
theorem region_F {id : Nat} {l : List Oper} (h : wpListIn (FR L) 0 P l.toArray Q l a w) : (Code.region id l.toArray false).wpIn (FR L) 0 P Q a w := wpIn_region_lit h
theorem stF {d : Nat} {op : Op} {v : Value} (hF : Fr n a F) (hd : Gives P ⟨some d, op, t, pos, af, none⟩ a w v) (hn : Nat.blt d n = true) (hnd : noDefer ⟨some d, op, t, pos, af, none⟩ = true)
    (h : ∀ a', Fr n a' ((d, v) :: F) → wpListIn (FR L) 0 P ops Q rest a' w) : wpListIn (FR L) 0 P ops Q (⟨some d, op, t, pos, af, none⟩ :: rest) a w :=
  wpListIn_plain rfl fun K hK => op_in hnd (fun a w h => h) (hd.run K Q fun u w' ⟨h1, h2⟩ => by subst h1; subst h2; exact hK _ _ (h _ (hF.put d _ hn)))
theorem stRF {d : Nat} {op : Op} {R : Value → World → Prop} (hF : Fr n a F) (hd : Does P ⟨some d, op, t, pos, af, none⟩ a w R) (hn : Nat.blt d n = true) (hnd : noDefer ⟨some d, op, t, pos, af, none⟩ = true)
    (h : ∀ v w' a', R v w' → Fr n a' ((d, v) :: F) → wpListIn (FR L) 0 P ops Q rest a' w') : wpListIn (FR L) 0 P ops Q (⟨some d, op, t, pos, af, none⟩ :: rest) a w :=
  wpListIn_plain rfl fun K hK => op_in hnd (fun a w h => h) (hd.run K Q fun u w' hr => hK _ _ (h u w' _ hr (hF.put d _ hn)))
theorem stYF {j dj d : Nat} {b : Bool} {op : Op} {v : Value} (hF : Fr n a F) (hj : (ops[j]?).bind (·.dst) = some dj) (hjn : Nat.blt dj n = true) (hb : lk F dj = some (.bool b)) (hd : Gives P ⟨some d, op, t, pos, af, some (j, b)⟩ a w v) (hn : Nat.blt d n = true) (hnd : noDefer ⟨some d, op, t, pos, af, some (j, b)⟩ = true)
    (h : ∀ a', Fr n a' ((d, v) :: F) → wpListIn (FR L) 0 P ops Q rest a' w) : wpListIn (FR L) 0 P ops Q (⟨some d, op, t, pos, af, some (j, b)⟩ :: rest) a w := by
  unfold wpListIn
  rw [if_pos (by simp [Region.wanted, yielded_of hF hj hjn hb])];exact op_in hnd (fun a w h => h) (hd.run _ Q fun u w' ⟨h1, h2⟩ => by subst h1; subst h2; exact h _ (hF.put d _ hn))
theorem stSF {j dj d : Nat} {b c : Bool} {op : Op} (hF : Fr n a F) (hj : (ops[j]?).bind (·.dst) = some dj) (hjn : Nat.blt dj n = true) (hb : lk F dj = some (.bool b)) (hbc : (b == c) = false) (hn : Nat.blt d n = true)
    (h : ∀ a', Fr n a' ((d, undef) :: F) → wpListIn (FR L) 0 P ops Q rest a' w) : wpListIn (FR L) 0 P ops Q (⟨some d, op, t, pos, af, some (j, c)⟩ :: rest) a w := by
  unfold wpListIn
  rw [if_neg (by simp [Region.wanted, yielded_of hF hj hjn hb]; intro e; subst e; simp at hbc)];exact ⟨fun _ _ => trivial, h _ (hF.put d _ hn)⟩
theorem stYieldG {j dj d l : Nat} {b : Bool} {x : Operand} {xs : List Operand} {vs : List Value} {ats : Array TypeId} {R : Value → World → Prop} (hF : Fr n a F) (hj : (ops[j]?).bind (·.dst) = some dj) (hjn : Nat.blt dj n = true) (hb : lk F dj = some (.bool b)) (hx : look F x = some (.func (.yield l) #[] #[])) (hxs : looks F xs vs) (hn : Nat.blt d n = true)
    (hY : YieldAt Fence.wide 0 P l vs.toArray w (fun e W' => ∃ v, e = .returned v ∧ R v W'))
    (h : ∀ v w' a', R v w' → Fr n a' ((d, v) :: F) → wpListIn (FR L) 0 P ops Q rest a' w') : wpListIn (FR L) 0 P ops Q (⟨some d, .call { callee := .value x, args := xs.toArray, argTypes := ats }, t, pos, af, some (j, b)⟩ :: rest) a w := by
  unfold wpListIn
  rw [if_pos (by simp [Region.wanted, yielded_of hF hj hjn hb])];obtain ⟨fn, tmps, assign, body, hy, hR⟩ := hY;refine ⟨fun _ _ => trivial, ?_⟩;have e : (xs.toArray.map a.eval) = vs.toArray := by rw [← hF.evals hxs]; simp
  have hrun : (execOp a.eval ⟨some d, .call { callee := .value x, args := xs.toArray, argTypes := ats }, t, pos, af, some (j, b)⟩).run P w = .ok (.round l fn tmps assign body) w := by
    simp [execOp, resolve, hF.eval hx, Deferred.ofValue, invoke, e, hy]
  rw [show Oper.semAt (FR L).round a.eval ⟨some d, .call { callee := .value x, args := xs.toArray, argTypes := ats }, t, pos, af, some (j, b)⟩ = execOp a.eval ⟨some d, .call { callee := .value x, args := xs.toArray, argTypes := ats }, t, pos, af, some (j, b)⟩ from rfl, hrun];refine ⟨fun e => (by cases e), RoundIn.mono (show RoundIn (FR L) 0 P l fn tmps assign body w _ from hR) fun e w'' ⟨v, he, hv⟩ => ?_⟩;subst he;exact h _ _ _ hv (hF.put d _ hn)
theorem nilF (h : Q .normal a w) : wpListIn (FR L) 0 P ops Q [] a w := h
end
theorem round1 {n p : Nat} {a : Act} {F : List (Nat × Value)} {u : Value} (hF : Fr n a F) (hp : Nat.blt p n = true) : Fr n { tmps := roundTmps #[p] #[u] a.tmps, defers := [] } ((p, u) :: F) := by
  have h := hF.put p u hp;have e : roundTmps #[p] #[u] a.tmps = (a.put (some p) u).tmps := by simp [roundTmps, Act.put]
  rw [e];exact ⟨rfl, h.size, h.get⟩
theorem startD4 {w : World} {b1 b2 b3 b4 : Nat} {c1 c2 c3 c4 : Array Value} (h1 : Blk w b1 c1) (h2 : Blk w b2 c2) (h3 : Blk w b3 c3) (h4 : Blk w b4 c4) : ∀ c ds, (c, ds) ∈ ([(b1, c1), (b2, c2), (b3, c3), (b4, c4)] : Froz) → Blk w c ds := fun c ds hm => by
  simp only [List.mem_cons, Prod.mk.injEq, List.not_mem_nil, or_false] at hm
  rcases hm with ⟨rfl, rfl⟩ | ⟨rfl, rfl⟩ | ⟨rfl, rfl⟩ | ⟨rfl, rfl⟩
  · exact h1
  · exact h2
  · exact h3
  · exact h4
def ArgO (_ : Nat) (_ _ : World) (args : Array Value) : Prop := ∃ v, args = #[v]
/-! ### A function without results that ends with a range over a function -/
section
variable {fn : Func} {a : Act} {w : World}
theorem fin0K {R : Ending → World → Prop} {D : Nat} (hr : fn.results = #[]) (hd : a.defers = []) (hD : w.heap[D]? = some (.deferred (some []))) (h : R (.returned (.tuple #[])) (w.putObj D (.deferred none))) : bodyPostM Fence.wide 0 P fn R .normal (addD [mark D] a) w := by
  show LeavesInM _ _ _ _ a.tmps _ (a.defers ++ [mark D]) _ _
  rw [hd];exact ⟨fun q => (by cases q), .inl ⟨D, _, rfl, run_takeDeferred hD, .tuple #[], by rw [results_eq, hr]; simp, h⟩⟩
theorem fin0K' {R : Ending → World → Prop} {D : Nat} (hr : fn.results = #[]) (hd : a.defers = []) (hD : w.heap[D]? = some (.deferred (some []))) (h : R (.returned (.tuple #[])) (w.putObj D (.deferred none))) : bodyPostM Fence.wide 0 P fn R .ret (addD [mark D] a) w := by
  show LeavesInM _ _ _ _ a.tmps _ (a.defers ++ [mark D]) _ _
  rw [hd];exact ⟨fun q => (by cases q), .inl ⟨D, _, rfl, run_takeDeferred hD, .tuple #[], by rw [results_eq, hr]; simp, h⟩⟩
theorem calls_frMW {f : FuncId} {c : Code} {R : Ending → World → Prop} {N : Nat} (vs : List Value) (hf : P.funcs[f]? = some fn) (hb : fn.body = some c) (hN : fn.ntmps = N) (hn : Nat.ble vs.length N = true)
    (h : ∀ a, Fr N a (argF vs 0) → c.wp P (bodyPostM Fence.wide 0 P fn R) a w) : CallsIn Fence.wide 0 P f vs.toArray w R := by
  subst hN;exact callsIn_of_wp_marks (n := 0) hf hb trivial (wpIn_wide.2 (h _ (frameA vs rfl hn)))
end
end Go.Sw.Rw

namespace Go.Sw
open Go Go.RowKit
/-! ### Maps that are told by digits, and how many of them keep products -/
def digL (m k i : Nat) : Nat := k / m ^ i % m
theorem digL_lt {m k i : Nat} (h : 0 < m) : digL m k i < m := Nat.mod_lt _ h
theorem digL_s {m k i : Nat} : digL m (k / m) i = digL m k (i + 1) := by
  unfold digL
  rw [Nat.div_div_eq_div_mul, Nat.pow_succ, Nat.mul_comm m]
theorem digL_inj {m : Nat} (hm : 0 < m) : ∀ {n k j : Nat}, k < m ^ n → j < m ^ n → (∀ i, i < n → digL m k i = digL m j i) → k = j
  | 0, k, j, hk, hj, _ => by rw [Nat.pow_zero] at hk hj; omega
  | n + 1, k, j, hk, hj, h => by
    have h0 := h 0 (by omega)
    unfold digL at h0
    rw [Nat.pow_zero, Nat.div_one, Nat.div_one] at h0
    rw [Nat.pow_succ] at hk hj
    have e := digL_inj hm (n := n) (k := k / m) (j := j / m) ((Nat.div_lt_iff_lt_mul hm).2 hk) ((Nat.div_lt_iff_lt_mul hm).2 hj) fun i hi => by rw [digL_s, digL_s]; exact h (i + 1) (by omega)
    have e1 := Nat.div_add_mod k m
    have e2 := Nat.div_add_mod j m
    rw [e, h0] at e1
    omega
theorem digF_plF {s : Nat} {g : Nat → Nat} (hg : ∀ c, g c < s) : ∀ {l i : Nat}, i < l → Rw.digF s l (Rw.plF s g l) i = g i
  | 0, i, h => absurd h (by omega)
  | l + 1, i, h => by
    have hs : 0 < s := Nat.lt_of_le_of_lt (Nat.zero_le _) (hg 0)
    have hd : (Rw.plF s g l * s + g l) / s = Rw.plF s g l := by rw [Nat.add_comm, Nat.add_mul_div_right _ _ hs, Nat.div_eq_of_lt (hg l), Nat.zero_add]
    have hm : (Rw.plF s g l * s + g l) % s = g l := by rw [Nat.add_comm, Nat.add_mul_mod_self_right, Nat.mod_eq_of_lt (hg l)]
    unfold Rw.digF
    show (Rw.plF s g l * s + g l) / s ^ (l + 1 - 1 - i) % s = g i
    by_cases e : i = l
    · subst e
      rw [show i + 1 - 1 - i = 0 by omega, Nat.pow_zero, Nat.div_one, hm]
    · rw [show l + 1 - 1 - i = (l - 1 - i) + 1 by omega, Nat.pow_succ, Nat.mul_comm (s ^ (l - 1 - i)) s, ← Nat.div_div_eq_div_mul, hd]
      exact digF_plF hg (by omega)
theorem cnt_erase {S : Nat → Bool} {y : Nat} : ∀ {N : Nat}, y < N → S y = true → cnt (fun x => S x && decide (x ≠ y)) N + 1 = cnt S N
  | 0, h, _ => absurd h (by omega)
  | N + 1, h, hS => by
    by_cases e : y = N
    · subst e
      rw [cnt_yes hS, cnt_no (by simp)]
      congr 1
      exact cnt_congr fun x hx => by rw [decide_eq_true (show x ≠ y by omega), Bool.and_true]
    · have ih := cnt_erase (S := S) (y := y) (N := N) (by omega) hS
      have e2 : (S N && decide (N ≠ y)) = S N := by rw [decide_eq_true (show N ≠ y by omega), Bool.and_true]
      by_cases q : S N = true
      · rw [cnt_yes (S := fun x => S x && decide (x ≠ y)) (i := N) (by show (S N && decide (N ≠ y)) = true; rw [e2]; exact q), cnt_yes q, ← ih]
      · rw [cnt_no (S := fun x => S x && decide (x ≠ y)) (i := N) (by show ¬ (S N && decide (N ≠ y)) = true; rw [e2]; exact q), cnt_no q, ← ih]
theorem cnt_map_le {π : Nat → Nat} {N : Nat} : ∀ {n : Nat} {S : Nat → Bool}, (∀ x, x < n → π x < N) → (∀ x y, x < n → y < n → π x = π y → x = y) → cnt (fun x => S (π x)) n ≤ cnt S N
  | 0, S, _, _ => Nat.zero_le _
  | n + 1, S, h1, h2 => by
    by_cases q : S (π n) = true
    · have ih := cnt_map_le (π := π) (N := N) (n := n) (S := fun x => S x && decide (x ≠ π n)) (fun x hx => h1 x (by omega)) (fun x y hx hy => h2 x y (by omega) (by omega))
      have e := cnt_erase (h1 n (by omega)) q
      have e2 : cnt (fun x => S (π x)) n = cnt (fun x => S (π x) && decide (π x ≠ π n)) n := cnt_congr fun x hx => by
        rw [decide_eq_true (show π x ≠ π n from fun z => by have := h2 x n (by omega) (by omega) z; omega), Bool.and_true]
      rw [cnt_yes (S := fun x => S (π x)) q, e2]
      omega
    · rw [cnt_no (S := fun x => S (π x)) q]
      exact cnt_map_le (fun x hx => h1 x (by omega)) (fun x y hx hy => h2 x y (by omega) (by omega))
theorem cnt_not {S : Nat → Bool} : ∀ {n : Nat}, cnt S n + cnt (fun x => !(S x)) n = n
  | 0 => rfl
  | n + 1 => by
    have ih := cnt_not (S := S) (n := n)
    by_cases q : S n = true
    · rw [cnt_yes q, cnt_no (S := fun x => !(S x)) (i := n) (by simp [q])]; omega
    · rw [cnt_no q, cnt_yes (S := fun x => !(S x)) (i := n) (by simpa using q)]; omega
theorem cnt_map {π : Nat → Nat} {N : Nat} {S : Nat → Bool} (h1 : ∀ x, x < N → π x < N) (h2 : ∀ x y, x < N → y < N → π x = π y → x = y) : cnt (fun x => S (π x)) N = cnt S N := by
  have a := cnt_map_le (S := S) h1 h2;have b := cnt_map_le (S := fun x => !(S x)) h1 h2;have c := cnt_not (S := S) (n := N);have d := cnt_not (S := fun x => S (π x)) (n := N)
  omega
def homP (n : Nat) (M M2 : Nat → Nat → Nat) (d : Nat → Nat) : Prop := ∀ i, i < n → ∀ j, j < n → d (M i j) = M2 (d i) (d j)
def homB (n : Nat) (M M2 : Nat → Nat → Nat) (d : Nat → Nat) : Bool := (List.range n).all fun i => (List.range n).all fun j => d (M i j) == M2 (d i) (d j)
theorem homB_iff {n : Nat} {M M2 : Nat → Nat → Nat} {d : Nat → Nat} : homB n M M2 d = true ↔ homP n M M2 d := by
  unfold homB homP
  simp [List.all_eq_true]
theorem homB_congr {n : Nat} {M M2 : Nat → Nat → Nat} {d e : Nat → Nat} (hM : ∀ i j, i < n → j < n → M i j < n) (h : ∀ i, i < n → d i = e i) : homB n M M2 d = homB n M M2 e := by
  rw [Bool.eq_iff_iff, homB_iff, homB_iff]
  unfold homP
  constructor <;> intro q i hi j hj
  · rw [← h _ (hM i j hi hj), ← h i hi, ← h j hj]; exact q i hi j hj
  · rw [h _ (hM i j hi hj), h i hi, h j hj]; exact q i hi j hj
def hmF (n m : Nat) (M M2 : Nat → Nat → Nat) (k : Nat) : Nat := cnt (fun x => homB n M M2 (Rw.digF m n x)) k
def hmL (n m : Nat) (M M2 : Nat → Nat → Nat) (k : Nat) : Nat := cnt (fun x => homB n M M2 (digL m x)) k
theorem hm_eq {n m : Nat} {M M2 : Nat → Nat → Nat} (hm : 0 < m) (hM : ∀ i j, i < n → j < n → M i j < n) : hmL n m M M2 (m ^ n) = hmF n m M M2 (m ^ n) := by
  have hlt : ∀ x c, digL m x c < m := fun x c => digL_lt hm
  unfold hmL hmF
  rw [← cnt_map (π := fun x => Rw.plF m (digL m x) n) (S := fun x => homB n M M2 (Rw.digF m n x)) (fun x _ => Rw.plF_lt (hlt x) n)]
  · exact cnt_congr fun x _ => homB_congr hM fun i hi => (digF_plF (hlt x) hi).symm
  · intro x y hx hy e
    refine digL_inj hm hx hy fun i hi => ?_;rw [← digF_plF (hlt x) hi, ← digF_plF (hlt y) hi];exact congrArg (fun z => Rw.digF m n z i) e
theorem hmF_yes {n m k : Nat} {M M2 : Nat → Nat → Nat} (h : homP n M M2 (Rw.digF m n k)) : hmF n m M M2 (k + 1) = hmF n m M M2 k + 1 := cnt_yes (homB_iff.2 h)
theorem hmF_no {n m k : Nat} {M M2 : Nat → Nat → Nat} (h : ¬ homP n M M2 (Rw.digF m n k)) : hmF n m M M2 (k + 1) = hmF n m M M2 k := cnt_no (fun q => h (homB_iff.1 q))
theorem hmL_yes {n m k : Nat} {M M2 : Nat → Nat → Nat} (h : homP n M M2 (digL m k)) : hmL n m M M2 (k + 1) = hmL n m M M2 k + 1 := cnt_yes (homB_iff.2 h)
theorem hmL_no {n m k : Nat} {M M2 : Nat → Nat → Nat} (h : ¬ homP n M M2 (digL m k)) : hmL n m M M2 (k + 1) = hmL n m M M2 k := cnt_no (fun q => h (homB_iff.1 q))
theorem hmF_le {n m k : Nat} {M M2 : Nat → Nat → Nat} : hmF n m M M2 k ≤ k := cnt_le k
theorem hmL_le {n m k : Nat} {M M2 : Nat → Nat → Nat} : hmL n m M M2 k ≤ k := cnt_le k
theorem digF_0 {m n k : Nat} (hn : 0 < n) (hk : k < m ^ n) : Rw.digF m n k 0 = k / m ^ (n - 1) := by
  unfold Rw.digF
  rw [show n - 1 - 0 = n - 1 by omega];refine Nat.mod_eq_of_lt ?_;rw [show m ^ n = m ^ (n - 1) * m from by rw [← Nat.pow_succ, show (n - 1).succ = n by omega]] at hk;exact Nat.div_lt_of_lt_mul hk
theorem digF_up {m n k j : Nat} (hn : 0 < n) (hk : k ≤ j) (hj : j < m ^ n) (h : Rw.digF m n k 0 ≠ 0) : Rw.digF m n j 0 ≠ 0 := by
  rw [digF_0 hn (by omega)] at h;rw [digF_0 hn hj];have h3 := Nat.div_le_div_right (c := m ^ (n - 1)) hk;intro e;rw [e] at h3;exact h (Nat.le_zero.1 h3)
theorem hmF_end {n m k : Nat} {M M2 : Nat → Nat → Nat} (hn : 0 < n) (h0 : ∀ x, homP n M M2 (Rw.digF m n x) → Rw.digF m n x 0 = 0) (hk : k < m ^ n) (h : Rw.digF m n k 0 ≠ 0) : hmF n m M M2 k = hmF n m M M2 (m ^ n) := by
  have key : ∀ d, k + d ≤ m ^ n → hmF n m M M2 (k + d) = hmF n m M M2 k := by
    intro d
    induction d with
    | zero => intro _; rfl
    | succ d ih =>
      intro hd;rw [show k + (d + 1) = k + d + 1 by omega, hmF_no (fun q => digF_up hn (show k ≤ k + d by omega) (by omega) h (h0 _ q))];exact ih (by omega)
  have := key (m ^ n - k) (by omega);rw [show k + (m ^ n - k) = m ^ n by omega] at this;exact this.symm
end Go.Sw

namespace Go.Sw
theorem wordsSigns_nb : ∀ (c : Char) (r : List Char), c ≠ ' ' → wordsSigns (c :: r) = match wordsSigns r with
    | w :: ws => (c :: w) :: ws
    | [] => [[c]] := by
  intro c r h;rw [wordsSigns.eq_def]
  split
  · simp_all
  · rename_i heq; simp at heq; exact absurd heq.1 h
  · rename_i heq; simp only [List.cons.injEq] at heq; obtain ⟨rfl, rfl⟩ := heq; rfl
theorem wordsSigns_word : ∀ (w r : List Char), (∀ c ∈ w, c ≠ ' ') → wordsSigns (w ++ ' ' :: r) = w :: wordsSigns r
  | [], r, _ => by simp [wordsSigns]
  | c :: w, r, h => by
    rw [List.cons_append, wordsSigns_nb c _ (h c (by simp)), wordsSigns_word w r (fun d hd => h d (by simp [hd]))]
theorem sum_nb (s : List Char) (h : isSumSigns s = true) : ∀ c ∈ s, c ≠ ' ' := by
  intro c hc he
  unfold isSumSigns at h
  simp only [Bool.and_eq_true, List.all_eq_true] at h;have := h.2 c hc;subst he
  revert this; decide
theorem cutHead (L s r : List Char) (h : L = "harness".toList ++ ' ' :: (s ++ ' ' :: ("cut".toList ++ ' ' :: r))) (hs : isSumSigns s = true) :
    behindMainWord (wordsSigns L) = "cut".toList :: wordsSigns r := by
  rw [h, wordsSigns_word _ _ (by decide), wordsSigns_word _ _ (sum_nb s hs), wordsSigns_word _ _ (by decide)];have : ("harness".toList == "harness".toList || "harness".toList == "ownmain".toList) = true := by decide
  unfold behindMainWord
  show (if (("harness".toList == "harness".toList || "harness".toList == "ownmain".toList) && isSumSigns s) = true then _ else _) = _
  rw [if_pos (by rw [this, hs]; rfl)]
theorem strip_cut (R : List (List Char)) : stripLifts liftWords ("cut".toList :: R) = ([], "cut".toList :: R) := by
  kernel_rfl
theorem lifts_cut (P : Program) (R : List (List Char)) (h : behindMainWord (wordsSigns P.initOrder.toList) = "cut".toList :: R) : P.headLifts = [] := by
  unfold Program.headLifts; rw [h, strip_cut]; rfl
theorem make_cut (P : Program) (R : List (List Char)) (h : behindMainWord (wordsSigns P.initOrder.toList) = "cut".toList :: R) : P.make = some .cut := by
  unfold Program.make; rw [h]
  have h1 : ("cut".toList == "gc".toList || "cut".toList == "spec".toList) = false := by decide
  have h2 : ("cut".toList == "cut".toList) = true := by decide
  simp only [h1, h2]; rfl
theorem final_cut (P : Program) (R : List (List Char)) (h : behindMainWord (wordsSigns P.initOrder.toList) = "cut".toList :: R) : P.liftsFinal = false := by
  unfold Program.liftsFinal; rw [lifts_cut P R h, h]; kernel_rfl
theorem enter_cut (P : Program) (R : List (List Char)) (h : behindMainWord (wordsSigns P.initOrder.toList) = "cut".toList :: R)
    (hl : P.laysLater = false) (hb : P.bearsReflect = false) (hd : P.doorFits [] = true) : P.mayEnter = true := by
  unfold Program.mayEnter; rw [h]
  simp only [strip_cut, hl, hb, hd]
  kernel_rfl
end Go.Sw
