/- Plain lemmas of a small calculus for walks over frames and own memory; no statement of the seat is proved here. -/
import Derived.Test.YtfakhcmamdefiaaSw49
import Derived.Test.YtfakhcmamdefiaaSw58
set_option linter.unusedVariables false
set_option linter.unusedSimpArgs false
namespace Go.Sw
open Go Go.RowKit Go.Ech
def TwoR (c1 c2 : Array Value) (e0 : Option (Nat × Array Value)) (D : Froz) (e : Option (Nat × Array Value)) (u : Value) : Prop := e = e0 ∧ ∃ b b1 b2, u = .slice (some ⟨b, 0, none⟩) 2 2 ∧ (b, #[.slice (some ⟨b1, 0, none⟩) 3 3, .slice (some ⟨b2, 0, none⟩) 3 3]) ∈ D ∧ (b1, c1) ∈ D ∧ (b2, c2) ∈ D
theorem TwoR.more {c1 c2 : Array Value} {e0 : Option (Nat × Array Value)} (D1 D2 : Froz) (e : Option (Nat × Array Value)) (u : Value) (hs : ∀ x, x ∈ D1 → x ∈ D2) (h : TwoR c1 c2 e0 D1 e u) : TwoR c1 c2 e0 D2 e u := by
  obtain ⟨h0, b, b1, b2, h1, h2, h3, h4⟩ := h;exact ⟨h0, b, b1, b2, h1, hs _ h2, hs _ h3, hs _ h4⟩
end Go.Sw
namespace Go.Sw
open Go Go.RowKit Go.Ech
theorem SSOutR.last {w w1 w2 : World} {m : Nat} {Ln : Nat → Nat} {F : Nat → Nat → Int} {u : Value} (h : SSOutR w w1 m Ln F u) (hx : Ext w1 w2) : SSOutR w w2 m Ln F u := by
  obtain ⟨D, b, cap, cs, β, κ, C, h1, h2⟩ := h;exact ⟨D, b, cap, cs, β, κ, C, fun x ds hm => ⟨(h1 x ds hm).1, (h1 x ds hm).2.ext hx⟩, h2⟩
end Go.Sw

namespace Go.Sw
open Go Go.RowKit Go.Ech
/-! ### Maps with numbers as keys, of the call's own or of its caller -/
def iKey (k : Int) : Value := .int .i64 k
def findI (k : Int) (es : List MapEntry) (i : Nat) : Option (Option (Nat × Value)) := Instr.findNow (.int .i64) (iKey k) es i
def IKeys (es : List MapEntry) : Prop := ∀ e, e ∈ es → ∃ k, e.key = iKey k
theorem findI_push {k q : Int} {v : Value} {c : Nat} : ∀ {es : List MapEntry} {i : Nat}, IKeys es → findI k (es ++ [{ key := iKey q, val := v, born := c }]) i = match findI k es i with
    | some (some r) => some (some r)
    | _ => if k = q then some (some (i + es.length, v)) else some none
  | [], i, _ => by
    unfold findI Instr.findNow
    simp only [List.nil_append, Instr.findNow, iKey, Instr.sameNow, if_pos rfl]
    by_cases e : k = q
    · subst e; simp
    · have : (k == q) = false := by simpa using e
      simp [this, e]
  | e :: es, i, h => by
    obtain ⟨p, hp⟩ := h e (List.mem_cons_self ..)
    have ih := findI_push (k := k) (q := q) (v := v) (c := c) (es := es) (i := i + 1) (fun e he => h e (List.mem_cons_of_mem _ he))
    unfold findI at *
    simp only [List.cons_append, Instr.findNow, hp, iKey, Instr.sameNow, ↓reduceIte]
    by_cases e2 : k = p
    · subst e2; simp
    · have : (k == p) = false := by simpa using e2
      simp only [this]
      simp only [iKey] at ih
      rw [ih]
      simp only [List.length_cons, Nat.add_assoc, Nat.add_comm 1]
theorem IKeys.push {es : List MapEntry} {q : Int} {v : Value} {c : Nat} (h : IKeys es) : IKeys (es ++ [{ key := iKey q, val := v, born := c }]) := fun e he => by
  rcases List.mem_append.1 he with he | he
  · exact h e he
  · simp only [List.mem_singleton] at he; subst he; exact ⟨q, rfl⟩
section
variable {P : Program} {n : Nat} {F : List (Nat × Value)} {a : Act} {w w0 : World} {d : Option Tmp} {t T kt et : TypeId} {pos : String} {af : Array Edge} {gd : Option (Nat × Bool)} {x y z : Operand} {X : List Nat} {L : Own} {D : Froz}
theorem MemX.setMapX (h : MemX X w0 w L D) {b : Nat} {es : Array MapEntry} {c : Nat} (hb : IsMap w b es c) (ho : w0.heap.size ≤ b ∨ b ∈ X) (o : Obj) : MemX X w0 { w with heap := w.heap.setIfInBounds b o } L D := by
  have hne : ∀ {q : Nat} {cs : Array Value}, Blk w q cs → q ≠ b := fun hq e => by
    obtain ⟨t, ht⟩ := hq
    unfold IsMap at hb
    rw [e, hb] at ht; cases ht
  have hbl : ∀ {q : Nat} {cs : Array Value}, Blk w q cs → Blk { w with heap := w.heap.setIfInBounds b o } q cs := fun hq => by
    have h1 := hne hq;obtain ⟨t, ht⟩ := hq;exact ⟨t, by show (w.heap.setIfInBounds b o)[_]? = _; rw [Array.getElem?_setIfInBounds_ne (Ne.symm h1)]; exact ht⟩
  refine ⟨⟨h.bel.os, h.bel.tape, h.bel.output, by show _ ≤ (w.heap.setIfInBounds b o).size; rw [Array.size_setIfInBounds]; exact h.bel.size, fun k hk hX => ?_⟩, fun k q cs hq => ⟨(h.blk k q cs hq).1, hbl (h.blk k q cs hq).2⟩, h.apart, fun q cs hq => ⟨hbl (h.froz q cs hq).1, (h.froz q cs hq).2⟩⟩
  show (w.heap.setIfInBounds b o)[k]? = _
  rw [Array.getElem?_setIfInBounds_ne (fun e => by
    subst e
    rcases ho with h1 | h1
    · omega
    · exact hX h1)]
  exact h.bel.block k hk hX
theorem d_mapUpdI {b c : Nat} {es : Array MapEntry} {k : Int} {v : Value} (hi : P.underlying kt = some (.int .i64)) (hT : P.underlying T = some (.map kt et)) (hM : MemX X w0 w L D) (hb : IsMap w b es c) (ho : w0.heap.size ≤ b ∨ b ∈ X) (hF : Fr n a F) (hx : look F x = some (.map (some b))) (hy : look F y = some (.int .i64 k)) (hz : look F z = some v)
    (hn : findI k es.toList 0 = some none) :
    Does P ⟨d, .mapUpdate T x y z, t, pos, af, gd⟩ a w (fun _ w' => MemX X w0 w' L D ∧ IsMap w' b (es.push { key := iKey k, val := v, born := c }) (c + 1)) :=
  ⟨fun Kk Q hkk => by
    have hlt : b < w.heap.size := (Array.getElem?_eq_some_iff.1 hb).1
    have hf : (Instr.findKey kt (.int .i64 k) es.toList).run P w = .ok none w := MapKept.run_findKey hi hn
    have hc : (Instr.checkKey false 10000 kt (.int .i64 k)).run P w = .ok () w := MapKept.run_checkKey hi (d := .int .i64) (k := .int .i64 k) rfl false 9999
    have hr : (Instr.mapUpdate T (.map (some b)) (.int .i64 k) v).run P w = .ok () { w with heap := w.heap.setIfInBounds b (.map (es.push { key := iKey k, val := v, born := c }) (c + 1)) } := by
      simp [Instr.mapUpdate, run_underlying hT, MapKept.run_getObj_map hb, hc, hf, MapKept.run_setObj_map _ hb, Result.andThen, iKey]
    have h := hkk undef _ ⟨hM.setMapX hb ho (.map (es.push { key := iKey k, val := v, born := c }) (c + 1)), by unfold IsMap; show (w.heap.setIfInBounds b _)[b]? = _; simp [hlt]⟩
    unfold Oper.wp execOp
    simp [hF.eval hx, hF.eval hy, hF.eval hz, hr, Result.andThen]
    exact h⟩
theorem g_lookupI {b c i : Nat} {es : Array MapEntry} {k : Int} {v : Value} (hi : P.underlying kt = some (.int .i64)) (hT : P.underlying T = some (.map kt et)) (hb : IsMap w b es c) (hF : Fr n a F) (hx : look F x = some (.map (some b))) (hy : look F y = some (.int .i64 k)) (hn : findI k es.toList 0 = some (some (i, v))) :
    Gives P ⟨d, .lookup T x y true, t, pos, af, gd⟩ a w (.tuple #[v, .bool true]) := by
  have hf : (Instr.findKey kt (.int .i64 k) es.toList).run P w = .ok (some (i, v)) w := MapKept.run_findKey hi hn;have hc : (Instr.checkKey es.isEmpty 10000 kt (.int .i64 k)).run P w = .ok () w := MapKept.run_checkKey hi (d := .int .i64) (k := .int .i64 k) rfl es.isEmpty 9999;exact gives_of_run (by simp [execOp, Instr.lookup, run_underlying hT, hF.eval hx, hF.eval hy, MapKept.run_getObj_map hb, hc, hf, Result.andThen])
theorem g_lookupI0 {b c : Nat} {es : Array MapEntry} {k : Int} {z0 : Value} (hi : P.underlying kt = some (.int .i64)) (hT : P.underlying T = some (.map kt et)) (hz : zeroP P et = some z0) (hb : IsMap w b es c) (hF : Fr n a F) (hx : look F x = some (.map (some b))) (hy : look F y = some (.int .i64 k)) (hn : findI k es.toList 0 = some none) :
    Gives P ⟨d, .lookup T x y true, t, pos, af, gd⟩ a w (.tuple #[z0, .bool false]) := by
  have hzr : (zeroValue et).run P w = .ok z0 w := by
    unfold zeroP at hz
    cases hi : P.info? et with
    | none => simp [hi] at hz
    | some i => simp [hi] at hz; simp [zeroValue, typeInfo, hi, hz]
  have hf : (Instr.findKey kt (.int .i64 k) es.toList).run P w = .ok none w := MapKept.run_findKey hi hn;have hc : (Instr.checkKey es.isEmpty 10000 kt (.int .i64 k)).run P w = .ok () w := MapKept.run_checkKey hi (d := .int .i64) (k := .int .i64 k) rfl es.isEmpty 9999;exact gives_of_run (by simp [execOp, Instr.lookup, run_underlying hT, hF.eval hx, hF.eval hy, MapKept.run_getObj_map hb, hc, hf, hzr, Result.andThen])
end
theorem IsMap.keep {w w' : World} {Y : List Nat} {b : Nat} {es : Array MapEntry} {c : Nat} (h : IsMap w b es c) (hx : ExtX Y w w') (hy : b ∉ Y) : IsMap w' b es c := by
  have hlt : b < w.heap.size := (Array.getElem?_eq_some_iff.1 h).1
  unfold IsMap
  rw [hx.block b hlt hy]; exact h
/-! ### Memory where blocks that are read were written -/
theorem MemX.renew {X Y : List Nat} {w0 w w' : World} {L : Own} {D D' : Froz} (h : MemX X w0 w L D) (hx : ExtX Y w w') (hY : ∀ y, y ∈ Y → w0.heap.size ≤ y ∨ y ∈ X) (hL : ∀ (k : Nat) b cs, L[k]? = some (some (b, cs)) → b ∉ Y)
    (hD : ∀ b cs, (b, cs) ∈ D' → Blk w' b cs ∧ ((∃ ds, (b, ds) ∈ D) ∨ w.heap.size ≤ b)) : MemX X w0 w' L D' := by
  have hbl : ∀ {q : Nat} {cs : Array Value}, Blk w q cs → q ∉ Y → Blk w' q cs := fun hq hn => by
    have hlt := hq.lt;obtain ⟨t, ht⟩ := hq;exact ⟨t, by rw [hx.block _ hlt hn]; exact ht⟩
  refine ⟨⟨hx.os.trans h.bel.os, hx.tape.trans h.bel.tape, hx.output.trans h.bel.output, Nat.le_trans h.bel.size hx.size, fun k hk hX => ?_⟩, fun k b cs hk => ⟨(h.blk k b cs hk).1, hbl (h.blk k b cs hk).2 (hL k b cs hk)⟩, h.apart, fun b cs hm => ⟨(hD b cs hm).1, fun k c ds hk e => ?_⟩⟩
  · have hs := h.bel.size
    rw [hx.block k (by omega) (fun hy => by
      rcases hY k hy with h1 | h1
      · omega
      · exact hX h1)]
    exact h.bel.block k hk hX
  · subst e
    rcases (hD _ cs hm).2 with ⟨es, he⟩ | hge
    · exact (h.froz _ es he).2 k _ ds hk rfl
    · have := (h.blk k _ ds hk).2.lt
      omega
end Go.Sw

namespace Go.Sw
open Go Go.RowKit Go.Ech
/-! ### Nodes: sides and triangles -/
def sdC (k : Int) (tr nx tw fr to : Value) (ch : Int) : Array Value := #[.int .i64 k, tr, nx, tw, fr, to, .int .i64 ch]
theorem sdC_size (k : Int) (tr nx tw fr to : Value) (ch : Int) : (sdC k tr nx tw fr to ch).size = 7 := rfl
def trC (i : Nat) (f : Nat → Value) : Array Value := fnC 4 (fun c => if c = 0 then .int .i64 (i : Int) else f (c - 1))
theorem trC_size (i : Nat) (f : Nat → Value) : (trC i f).size = 4 := fnC_size _ _
theorem trC_0 {i o : Nat} {f : Nat → Value} (h : o = 0) : (trC i f)[o]? = some (.int .i64 (i : Int)) := by
  subst h; exact fnC_get (by omega)
theorem trC_get {i o j : Nat} {f : Nat → Value} (h : o = 1 + j) (hj : j < 3) : (trC i f)[o]? = some (f j) := by
  subst h
  unfold trC
  rw [fnC_get (by omega), if_neg (by omega), show 1 + j - 1 = j by omega]
theorem trC_congr {i : Nat} {f g : Nat → Value} (h : ∀ j, j < 3 → f j = g j) : trC i f = trC i g := fnC_congr fun c hc => by
  by_cases e : c = 0
  · rw [if_pos e, if_pos e]
  · rw [if_neg e, if_neg e, h _ (by omega)]
theorem trC_set {i o j : Nat} {f : Nat → Value} {v : Value} (h : o = 1 + j) (hj : j < 3) : (trC i f).setIfInBounds o v = trC i (fun c => if c = j then v else f c) := by
  subst h
  apply fnC_ext (by rw [Array.size_setIfInBounds]; exact fnC_size _ _)
  intro q hq;rw [Array.getElem?_setIfInBounds]
  by_cases e : 1 + j = q
  · subst e
    rw [if_pos rfl, if_pos (by rw [trC_size]; omega)]
    simp
  · rw [if_neg e]
    unfold trC
    rw [fnC_get hq]
    by_cases e0 : q = 0
    · rw [if_pos e0, if_pos e0]
    · rw [if_neg e0, if_neg e0]; dsimp only; rw [if_neg (by omega)]
theorem trC_sides {i o : Nat} {f : Nat → Value} (h : o = 1) : (trC i f).extract o (o + 3) = fnC 3 f := by
  subst h
  apply fnC_ext (by simp [trC_size])
  intro q hq;rw [Array.getElem?_extract, if_pos (by rw [trC_size]; omega), trC_get rfl hq]
end Go.Sw

namespace Go.Sw
open Go Go.RowKit
variable {P : Program}
/-! ### Labels and jumps. -/
def Exit.goes (J : Nat → Act → World → Prop) (Q : Exit → Act → World → Prop) : Exit → Act → World → Prop
  | .goto l, a, w => J l a w
  | e, a, w => Q e a w
section
variable {Q : Exit → Act → World → Prop} {J : Nat → Act → World → Prop} {K : Act → World → Prop} {a : Act} {w : World}
theorem gG {l : Nat} (h : J l a w) : Exit.goes J Q (.goto l) a w := h
end
section
variable {n : Nat} {F : List (Nat × Value)} {a : Act} {w : World} {d : Option Tmp} {t T : TypeId} {pos : String} {af : Array Edge} {gd : Option (Nat × Bool)} {x : Operand}
theorem g_nilCheck {b o : Nat} (hF : Fr n a F) (hx : look F x = some (ptr b o)) : Gives P ⟨d, .nilCheck x, t, pos, af, gd⟩ a w (ptr b o) :=
  gives_of_run (by simp [execOp, hF.eval hx])
end
section
variable {P : Program} {fn : Func} {a : Act} {w : World}
end
end Go.Sw

namespace Go.Sw
open Go Go.RowKit Go.Ech
theorem startP1 {X : List Nat} {w : World} {b : Nat} {cs : Array Value} (L : Own) (k : Nat) (hL : L = List.replicate L.length none) (hb : b ∈ X) (hc : Blk w b cs) : MemX X w w (L.set k (some (b, cs))) [] := by
  have key : ∀ (j : Nat) c ds, (L.set k (some (b, cs)))[j]? = some (some (c, ds)) → j = k ∧ c = b ∧ ds = cs := by
    intro j c ds hj;rw [List.getElem?_set] at hj
    split at hj
    · rename_i e
      split at hj
      · simp only [Option.some.injEq, Prod.mk.injEq] at hj; exact ⟨e.symm, hj.1.symm, hj.2.symm⟩
      · cases hj
    · rw [hL, List.getElem?_replicate] at hj
      split at hj <;> cases hj
  exact ⟨ExtX.refl X w, fun j c ds hj => by obtain ⟨_, rfl, rfl⟩ := key j c ds hj; exact ⟨.inr hb, hc⟩, fun i j c es ds hi hj => by rw [(key i c es hi).1, (key j c ds hj).1], fun b cs hm => by cases hm⟩
theorem MemX.takeX {X : List Nat} {w0 w : World} {L : Own} {b : Nat} {cs : Array Value} (h : MemX X w0 w L []) (k : Nat) (hb : b ∈ X) (hc : Blk w b cs) (hne : ∀ (j : Nat) c ds, L[j]? = some (some (c, ds)) → c ≠ b) : MemX X w0 w (L.set k (some (b, cs))) [] := by
  have key : ∀ (j : Nat) c ds, (L.set k (some (b, cs)))[j]? = some (some (c, ds)) → (j = k ∧ c = b ∧ ds = cs) ∨ (j ≠ k ∧ L[j]? = some (some (c, ds))) := by
    intro j c ds hj;rw [List.getElem?_set] at hj
    split at hj
    · rename_i e
      split at hj
      · simp only [Option.some.injEq, Prod.mk.injEq] at hj; exact .inl ⟨e.symm, hj.1.symm, hj.2.symm⟩
      · cases hj
    · rename_i e; exact .inr ⟨fun q => e q.symm, hj⟩
  refine ⟨h.bel, fun j c ds hj => ?_, fun i j c es ds hi hj => ?_, fun b cs hm => by cases hm⟩
  · rcases key j c ds hj with ⟨_, rfl, rfl⟩ | ⟨_, hj⟩
    · exact ⟨.inr hb, hc⟩
    · exact h.blk j c ds hj
  · rcases key i c es hi with ⟨a1, a2, _⟩ | ⟨a1, a2⟩ <;> rcases key j c ds hj with ⟨b1, b2, _⟩ | ⟨b1, b2⟩
    · rw [a1, b1]
    · exact absurd a2 (hne j c ds b2)
    · exact absurd b2 (hne i c es a2)
    · exact h.apart i j c es ds a2 b2
/-! ### A region that draws its order and only reads: whatever it stands on lasts -/
def factsV (l : List Value) : Facts Unit := fun i _ u _ => u = l.getD i undef
theorem dv_val {P : Program} {S : World → Prop} {l : List Value} {i : Nat} {o : Oper} {a : Act} {w : World} {v : Value} {g : Unit} (hS : S w) (hi : l.getD i undef = v) (hg : Gives P o a w v) : Does P o a w (After (fun (_ : Unit) w => S w) (factsV l) i g w) :=
  hg.mono fun u w' ⟨h1, h2⟩ => by subst h2; exact ⟨(), hS, h1.trans hi.symm, fun j u _ h => h⟩
theorem Blk.no_map {w : World} {b : Nat} {cs : Array Value} {es : Array MapEntry} {c : Nat} (h : Blk w b cs) (h2 : IsMap w b es c) : False := by
  obtain ⟨t, ht⟩ := h
  unfold IsMap at h2
  rw [h2] at ht; cases ht
theorem IsMap.drew {w : World} {b : Nat} {es : Array MapEntry} {c : Nat} (h : IsMap w b es c) : IsMap w.drew b es c := h
end Go.Sw

namespace Go.Sw
open Go Go.RowKit Go.Ech
/-! ### Surfaces as nodes: sides by their places, with their twins -/
structure TwP (N : Nat) (K : Nat → Int) (tw : Nat → Nat) : Prop where
  lt : ∀ x, x < N → tw x < N
  ne : ∀ x, x < N → tw x ≠ x
  abs : ∀ x, x < N → (K (tw x)).natAbs = (K x).natAbs
  only : ∀ x y, x < N → y < N → (K y).natAbs = (K x).natAbs → y = x ∨ y = tw x
theorem TwP.inv {N : Nat} {K : Nat → Int} {tw : Nat → Nat} (h : TwP N K tw) {x : Nat} (hx : x < N) : tw (tw x) = x := by
  rcases h.only (tw x) x (h.lt x hx) hx (h.abs x hx).symm with e | e
  · exact absurd e.symm (h.ne x hx)
  · exact e.symm
def onP (c : Prop) [Decidable c] (b : Nat) : Value := if c then ptr b 0 else .pointer none
def nxt (x : Nat) : Nat := x / 3 * 3 + (x % 3 + 1) % 3
def frT (K : Nat → Int) (tw φ ψ : Nat → Nat) (x : Nat) : Nat := if tw x < x then (if K x = K (tw x) then φ (tw x) else ψ (tw x)) else φ x
def toT (K : Nat → Int) (tw φ ψ : Nat → Nat) (x : Nat) : Nat := if tw x < x then (if K x = K (tw x) then ψ (tw x) else φ (tw x)) else ψ x
def SC (K : Nat → Int) (tw τ σ φ ψ : Nat → Nat) (q u x : Nat) : Array Value := sdC (K x) (ptr (τ (x / 3)) 0) (onP (x < u) (σ (nxt x))) (onP (tw x < q) (σ (tw x))) (ptr (frT K tw φ ψ x) 0) (ptr (toT K tw φ ψ x) 0) 0
def TCv (σ : Nat → Nat) (i : Nat) : Array Value := trC i (fun j => ptr (σ (i * 3 + j)) 0)
structure Gr (D : Froz) (lo N : Nat) (K : Nat → Int) (tw : Nat → Nat) (q u t : Nat) (τ σ φ ψ : Nat → Nat) : Prop where
  sid : ∀ x, x < q → (σ x, SC K tw τ σ φ ψ q u x) ∈ D
  inj : ∀ x y, x < q → y < q → σ x = σ y → x = y
  tri : ∀ i, i < t → (τ i, TCv σ i) ∈ D
  tip : ∀ x, x < q → x < tw x → (φ x, #[.pointer none]) ∈ D ∧ (ψ x, #[.pointer none]) ∈ D
  tin : ∀ x y, x < q → y < q → x < tw x → y < tw y → (φ x = φ y → x = y) ∧ (ψ x = ψ y → x = y) ∧ φ x ≠ ψ y
  ge : ∀ b cs, (b, cs) ∈ D → lo ≤ b
theorem SC_congr {K : Nat → Int} {tw τ σ φ ψ τ' σ' φ' ψ' : Nat → Nat} {q u q' u' x : Nat} (h1 : τ' (x / 3) = τ (x / 3)) (h2 : x < u' ↔ x < u) (h3 : x < u → σ' (nxt x) = σ (nxt x)) (h4 : tw x < q' ↔ tw x < q) (h5 : tw x < q → σ' (tw x) = σ (tw x)) (h6 : frT K tw φ' ψ' x = frT K tw φ ψ x) (h7 : toT K tw φ' ψ' x = toT K tw φ ψ x) : SC K tw τ' σ' φ' ψ' q' u' x = SC K tw τ σ φ ψ q u x := by
  unfold SC onP
  rw [h1, h6, h7];have e1 : (if x < u' then ptr (σ' (nxt x)) 0 else Value.pointer none) = (if x < u then ptr (σ (nxt x)) 0 else Value.pointer none) := by
    by_cases e : x < u
    · rw [if_pos e, if_pos (h2.2 e), h3 e]
    · rw [if_neg e, if_neg (fun q => e (h2.1 q))]
  have e2 : (if tw x < q' then ptr (σ' (tw x)) 0 else Value.pointer none) = (if tw x < q then ptr (σ (tw x)) 0 else Value.pointer none) := by
    by_cases e : tw x < q
    · rw [if_pos e, if_pos (h4.2 e), h5 e]
    · rw [if_neg e, if_neg (fun q => e (h4.1 q))]
  rw [e1, e2]
theorem frT_up {K : Nat → Int} {tw φ ψ : Nat → Nat} {q b1 b2 x : Nat} (hx : x < q) : frT K tw (up φ q b1) (up ψ q b2) x = frT K tw φ ψ x ∧ toT K tw (up φ q b1) (up ψ q b2) x = toT K tw φ ψ x := by
  unfold frT toT
  by_cases e : tw x < x
  · simp only [if_pos e, up_ne (show tw x ≠ q by omega)]; exact ⟨trivial, trivial⟩
  · simp only [if_neg e, up_ne (show x ≠ q by omega)]; exact ⟨trivial, trivial⟩
theorem SC_size {K : Nat → Int} {tw τ σ φ ψ : Nat → Nat} {q u x : Nat} : (SC K tw τ σ φ ψ q u x).size = 7 := rfl
theorem TCv_size {σ : Nat → Nat} {i : Nat} : (TCv σ i).size = 4 := trC_size _ _
section
variable {D D' : Froz} {lo N : Nat} {K : Nat → Int} {tw : Nat → Nat} {q u t : Nat} {τ σ φ ψ : Nat → Nat}
theorem nxt_lt {x u : Nat} (h : x < u) (hu : u ≤ q) (h3 : u % 3 = 0 ∨ q % 3 = 0) : nxt x < q := by unfold nxt; omega
theorem Gr.first (h : Gr D lo N K tw q u t τ σ φ ψ) (hT : TwP N K tw) (hq : q < N) (hf : q < tw q) (hu : u ≤ q) (hu3 : u % 3 = 0) (ht : t * 3 ≤ q) {bx b1 b2 : Nat} (hD : ∀ x, x ∈ D → x ∈ D')
    (hx : (bx, SC K tw τ (up σ q bx) (up φ q b1) (up ψ q b2) (q + 1) u q) ∈ D') (h1 : (b1, #[.pointer none]) ∈ D') (h2 : (b2, #[.pointer none]) ∈ D') (hbx : ∀ y ds, (y, ds) ∈ D → y ≠ bx) (hn1 : ∀ y ds, (y, ds) ∈ D → y ≠ b1) (hn2 : ∀ y ds, (y, ds) ∈ D → y ≠ b2) (h12 : b1 ≠ b2) (hge : ∀ b cs, (b, cs) ∈ D' → lo ≤ b) :
    Gr D' lo N K tw (q + 1) u t τ (up σ q bx) (up φ q b1) (up ψ q b2) := by
  refine ⟨fun x hx2 => ?_, fun x y hx2 hy e => ?_, fun i hi => ?_, fun x hx2 hfx => ?_, fun x y hx2 hy hfx hfy => ?_, hge⟩
  · by_cases e : x = q
    · subst e; rw [up_eq]; exact hx
    · rw [up_ne e]
      rw [SC_congr (x := x) (τ := τ) (σ := σ) (φ := φ) (ψ := ψ) (q := q) (u := u) rfl Iff.rfl (fun hl => up_ne (by have := nxt_lt (q := u) hl (Nat.le_refl _) (.inl hu3); omega)) (by
        constructor
        · intro h3
          rcases Nat.lt_or_ge (tw x) q with h4 | h4
          · exact h4
          · have : tw x = q := by omega
            have := hT.inv (x := x) (by omega)
            rename_i e5; rw [e5] at this; omega
        · intro h3; omega) (fun hl => up_ne (by omega)) (frT_up (by omega)).1 (frT_up (by omega)).2]
      exact hD _ (h.sid x (by omega))
  · by_cases e1 : x = q
    · by_cases e2 : y = q
      · omega
      · subst e1; rw [up_eq, up_ne e2] at e; exact absurd e.symm (hbx _ _ (h.sid y (by omega)))
    · by_cases e2 : y = q
      · subst e2; rw [up_eq, up_ne e1] at e; exact absurd e (hbx _ _ (h.sid x (by omega)))
      · rw [up_ne e1, up_ne e2] at e; exact h.inj x y (by omega) (by omega) e
  · have := h.tri i hi
    unfold TCv at *
    rw [trC_congr (g := fun j => ptr (σ (i * 3 + j)) 0) (fun j hj => by rw [up_ne (by omega)])];exact hD _ this
  · by_cases e : x = q
    · subst e; rw [up_eq, up_eq]; exact ⟨h1, h2⟩
    · rw [up_ne e, up_ne e]; exact ⟨hD _ (h.tip x (by omega) hfx).1, hD _ (h.tip x (by omega) hfx).2⟩
  · by_cases e1 : x = q
    · by_cases e2 : y = q
      · subst e1; subst e2; simp only [up_eq]; exact ⟨fun _ => trivial, fun _ => trivial, h12⟩
      · subst e1; simp only [up_eq, up_ne e2]
        have hy2 := h.tip y (by omega) hfy;exact ⟨fun e => absurd e.symm (hn1 _ _ hy2.1), fun e => absurd e.symm (hn2 _ _ hy2.2), fun e => hn1 _ _ hy2.2 e.symm⟩
    · by_cases e2 : y = q
      · subst e2; simp only [up_eq, up_ne e1]
        have hx3 := h.tip x (by omega) hfx;exact ⟨fun e => absurd e (hn1 _ _ hx3.1), fun e => absurd e (hn2 _ _ hx3.2), fun e => hn2 _ _ hx3.1 e⟩
      · simp only [up_ne e1, up_ne e2]; exact h.tin x y (by omega) (by omega) hfx hfy
theorem Gr.second (h : Gr D lo N K tw q u t τ σ φ ψ) (hT : TwP N K tw) (hq : q < N) (hf : tw q < q) (hu : u ≤ q) (hu3 : u % 3 = 0) (ht : t * 3 ≤ q) {bx : Nat} (hsame : ∀ b cs ds, (b, cs) ∈ D → (b, ds) ∈ D → cs = ds) (hbx : ∀ y ds, (y, ds) ∈ D → y ≠ bx) (hlo : lo ≤ bx) :
    Gr ((bx, SC K tw τ (up σ q bx) φ ψ (q + 1) u q) :: updD D (σ (tw q)) (SC K tw τ (up σ q bx) φ ψ (q + 1) u (tw q))) lo N K tw (q + 1) u t τ (up σ q bx) φ ψ := by
  have hy := h.sid (tw q) hf;have keep : ∀ b cs, (b, cs) ∈ D → b ≠ σ (tw q) → (b, cs) ∈ ((bx, SC K tw τ (up σ q bx) φ ψ (q + 1) u q) :: updD D (σ (tw q)) (SC K tw τ (up σ q bx) φ ψ (q + 1) u (tw q))) := fun b cs hb hn => List.mem_cons_of_mem _ (mem_updD.2 (.inr ⟨hn, hb⟩));have hsz : ∀ b cs, (b, cs) ∈ D → cs.size ≠ 7 → b ≠ σ (tw q) := fun b cs hb hz e => by
    subst e;exact hz (by rw [hsame _ _ _ hb hy]; rfl)
  refine ⟨fun x hx2 => ?_, fun x y hx2 hy2 e => ?_, fun i hi => ?_, fun x hx2 hfx => ?_, fun x y hx2 hy2 hfx hfy => ?_, fun b cs hb => ?_⟩
  · by_cases e : x = q
    · subst e; rw [up_eq]; exact List.mem_cons_self ..
    · by_cases e1 : x = tw q
      · rw [e1, up_ne (by omega)]; exact List.mem_cons_of_mem _ (mem_updD.2 (.inl ⟨rfl, rfl, _, hy⟩))
      · rw [up_ne e]
        rw [SC_congr (x := x) (τ := τ) (σ := σ) (φ := φ) (ψ := ψ) (q := q) (u := u) rfl Iff.rfl (fun hl => up_ne (by have := nxt_lt (q := u) hl (Nat.le_refl _) (.inl hu3); omega)) (by
          constructor
          · intro h3
            rcases Nat.lt_or_ge (tw x) q with h4 | h4
            · exact h4
            · have e4 : tw x = q := by omega
              have := hT.inv (x := x) (by omega);rw [e4] at this; omega
          · intro h3; omega) (fun hl => up_ne (by omega)) rfl rfl]
        exact keep _ _ (h.sid x (by omega)) (fun e3 => e1 (h.inj x (tw q) (by omega) hf e3))
  · by_cases e1 : x = q
    · by_cases e2 : y = q
      · omega
      · subst e1; rw [up_eq, up_ne e2] at e; exact absurd e.symm (hbx _ _ (h.sid y (by omega)))
    · by_cases e2 : y = q
      · subst e2; rw [up_eq, up_ne e1] at e; exact absurd e (hbx _ _ (h.sid x (by omega)))
      · rw [up_ne e1, up_ne e2] at e; exact h.inj x y (by omega) (by omega) e
  · have := h.tri i hi
    have e3 : TCv (up σ q bx) i = TCv σ i := trC_congr (fun j hj => by rw [up_ne (by omega)]);rw [e3];exact keep _ _ this (hsz _ _ this (by rw [TCv_size]; omega))
  · have hx3 : x < q := by
      rcases Nat.lt_or_ge x q with h4 | h4
      · exact h4
      · have : x = q := by omega
        subst this; omega
    have := h.tip x hx3 hfx;exact ⟨keep _ _ this.1 (hsz _ _ this.1 (by decide)), keep _ _ this.2 (hsz _ _ this.2 (by decide))⟩
  · have hz : ∀ z, z < q + 1 → z < tw z → z < q := fun z h4 h5 => by
      rcases Nat.lt_or_ge z q with h6 | h6
      · exact h6
      · have : z = q := by omega
        subst this; omega
    exact h.tin x y (hz x hx2 hfx) (hz y hy2 hfy) hfx hfy
  · rcases List.mem_cons.1 hb with e | hb
    · simp only [Prod.mk.injEq] at e; rw [e.1]; exact hlo
    · rcases mem_updD.1 hb with ⟨rfl, _, es, he⟩ | ⟨_, he⟩
      · exact h.ge _ _ he
      · exact h.ge _ _ he
theorem Gr.next (h : Gr D lo N K tw q u t τ σ φ ψ) (hu : u < q) (hsame : ∀ b cs ds, (b, cs) ∈ D → (b, ds) ∈ D → cs = ds) :
    Gr (updD D (σ u) (SC K tw τ σ φ ψ q (u + 1) u)) lo N K tw q (u + 1) t τ σ φ ψ := by
  have hy := h.sid u hu;have keep : ∀ b cs, (b, cs) ∈ D → b ≠ σ u → (b, cs) ∈ updD D (σ u) (SC K tw τ σ φ ψ q (u + 1) u) := fun b cs hb hn => mem_updD.2 (.inr ⟨hn, hb⟩);have hsz : ∀ b cs, (b, cs) ∈ D → cs.size ≠ 7 → b ≠ σ u := fun b cs hb hz e => by
    subst e;exact hz (by rw [hsame _ _ _ hb hy]; rfl)
  refine ⟨fun x hx2 => ?_, h.inj, fun i hi => ?_, fun x hx2 hfx => ?_, h.tin, fun b cs hb => ?_⟩
  · by_cases e1 : x = u
    · rw [e1]; exact mem_updD.2 (.inl ⟨rfl, rfl, _, hy⟩)
    · rw [SC_congr (x := x) (τ := τ) (σ := σ) (φ := φ) (ψ := ψ) (q := q) (u := u) rfl (by omega) (fun _ => rfl) Iff.rfl (fun _ => rfl) rfl rfl]
      exact keep _ _ (h.sid x hx2) (fun e3 => e1 (h.inj x u hx2 hu e3))
  · have := h.tri i hi
    exact keep _ _ this (hsz _ _ this (by rw [TCv_size]; omega))
  · have := h.tip x hx2 hfx
    exact ⟨keep _ _ this.1 (hsz _ _ this.1 (by decide)), keep _ _ this.2 (hsz _ _ this.2 (by decide))⟩
  · rcases mem_updD.1 hb with ⟨rfl, _, es, he⟩ | ⟨_, he⟩
    · exact h.ge _ _ he
    · exact h.ge _ _ he
theorem Gr.begin (h : Gr D lo N K tw (t * 3) u t τ σ φ ψ) (b : Nat) : Gr D lo N K tw (t * 3) u t (up τ t b) σ φ ψ := by
  refine ⟨fun x hx2 => ?_, h.inj, fun i hi => ?_, h.tip, h.tin, h.ge⟩
  · rw [SC_congr (x := x) (τ := τ) (σ := σ) (φ := φ) (ψ := ψ) (q := t * 3) (u := u) (up_ne (by omega)) Iff.rfl (fun _ => rfl) Iff.rfl (fun _ => rfl) rfl rfl]
    exact h.sid x hx2
  · rw [up_ne (by omega)]; exact h.tri i hi
theorem Gr.ready (h : Gr D lo N K tw q u t τ σ φ ψ) {b : Nat} (hb : τ t = b) (hlo : lo ≤ b) : Gr ((b, TCv σ t) :: D) lo N K tw q u (t + 1) τ σ φ ψ := by
  refine ⟨fun x hx2 => List.mem_cons_of_mem _ (h.sid x hx2), h.inj, fun i hi => ?_, fun x hx2 hfx => ⟨List.mem_cons_of_mem _ (h.tip x hx2 hfx).1, List.mem_cons_of_mem _ (h.tip x hx2 hfx).2⟩, h.tin, fun c cs hc => ?_⟩
  · by_cases e : i = t
    · rw [e, hb]; exact List.mem_cons_self ..
    · exact List.mem_cons_of_mem _ (h.tri i (by omega))
  · rcases List.mem_cons.1 hc with e | hc
    · simp only [Prod.mk.injEq] at e; rw [e.1]; exact hlo
    · exact h.ge _ _ hc
theorem Gr.none : Gr [] lo N K tw 0 0 0 τ σ φ ψ := ⟨fun x hx => absurd hx (by omega), fun x y hx => absurd hx (by omega), fun i hi => absurd hi (by omega), fun x hx => absurd hx (by omega), fun x y hx => absurd hx (by omega), fun b cs h => by cases h⟩
end
/-! ### The map of the sides that are met first -/
structure MpOk (es : List MapEntry) (K : Nat → Int) (tw σ : Nat → Nat) (q : Nat) : Prop where
  keys : IKeys es
  no : ∀ k : Nat, (∀ y, y < q → (K y).natAbs ≠ k) → findI (k : Int) es 0 = some none
  yes : ∀ y, y < q → y < tw y → ∃ ix, findI (((K y).natAbs : Nat) : Int) es 0 = some (some (ix, ptr (σ y) 0))
theorem MpOk.none {K : Nat → Int} {tw σ : Nat → Nat} : MpOk [] K tw σ 0 := ⟨fun e he => (by cases he), fun k _ => rfl, fun y hy => absurd hy (by omega)⟩
theorem MpOk.first {es : List MapEntry} {N : Nat} {K : Nat → Int} {tw σ : Nat → Nat} {q c bx : Nat} (h : MpOk es K tw σ q) (hT : TwP N K tw) (hq : q < N) (hf : q < tw q) : MpOk (es ++ [{ key := iKey (((K q).natAbs : Nat) : Int), val := ptr bx 0, born := c }]) K tw (up σ q bx) (q + 1) := by
  have hno : ∀ y, y < q → (K y).natAbs ≠ (K q).natAbs := fun y hy e => by
    rcases hT.only q y hq (by omega) e with e | e <;> omega
  refine ⟨h.keys.push, fun k hk => ?_, fun y hy hfy => ?_⟩
  · rw [findI_push h.keys, h.no k (fun y hy => hk y (by omega))]
    exact if_neg (fun e => hk q (by omega) (by omega))
  · by_cases e : y = q
    · subst e
      rw [findI_push h.keys, h.no _ (fun z hz => hno z hz), up_eq];exact ⟨_, if_pos rfl⟩
    · obtain ⟨ix, hix⟩ := h.yes y (by omega) hfy
      rw [findI_push h.keys, hix, up_ne e];exact ⟨ix, rfl⟩
theorem MpOk.second {es : List MapEntry} {K : Nat → Int} {tw σ : Nat → Nat} {N q bx : Nat} (h : MpOk es K tw σ q) (hT : TwP N K tw) (hq : q < N) (hf : tw q < q) : MpOk es K tw (up σ q bx) (q + 1) := by
  refine ⟨h.keys, fun k hk => h.no k (fun y hy => hk y (by omega)), fun y hy hfy => ?_⟩;have hyq : y ≠ q := fun e => by subst e; omega
  rw [up_ne hyq];exact h.yes y (by omega) hfy
end Go.Sw
