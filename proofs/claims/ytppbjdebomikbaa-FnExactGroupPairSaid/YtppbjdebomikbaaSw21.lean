/- Plain lemmas of a small calculus for walks over frames and own memory; no statement of the seat is proved here. -/
import Derived.Test.YtppbjdebomikbaaSw6
import Derived.OpenShut
set_option linter.unusedVariables false
set_option linter.unusedSimpArgs false
namespace Go.Sw
open Go Go.RowKit
variable {P : Program}

/-! ### Slices that the call owns: their cells lie at a place of their own. -/
structure SlAt (size : Nat) (v : Value) (e : Option (Nat × Array Value)) (n b cap : Nat) (cs : Array Value) (f : Nat → Value) : Prop where
  val : v = .slice (some ⟨b, 0, none⟩) n cap
  ent : e = some (b, cs)
  le : n ≤ cap
  max : cap ≤ maxLen
  sz : cs.size = cap * size
  get : ∀ i, i < n * size → cs[i]? = some (f i)
def Sl (size : Nat) (v : Value) (e : Option (Nat × Array Value)) (n : Nat) (f : Nat → Value) : Prop :=
  (v = .slice none 0 0 ∧ e = none ∧ n = 0) ∨ ∃ b cap cs, SlAt size v e n b cap cs f
theorem Sl.nil (size : Nat) (f : Nat → Value) : Sl size (.slice none 0 0) none 0 f := .inl ⟨rfl, rfl, rfl⟩
theorem Sl.pos {size n : Nat} {v : Value} {e : Option (Nat × Array Value)} {f : Nat → Value} (h : Sl size v e n f) (hn : 0 < n) : ∃ b cap cs, v = .slice (some ⟨b, 0, none⟩) n cap ∧ e = some (b, cs) ∧ SlAt size v e n b cap cs f := by
  rcases h with ⟨_, _, h0⟩ | ⟨b, cap, cs, h⟩
  · omega
  · exact ⟨b, cap, cs, h.val, h.ent, h⟩
theorem Sl.congr {size n : Nat} {v : Value} {e : Option (Nat × Array Value)} {f g : Nat → Value} (h : Sl size v e n f) (hf : ∀ i, i < n * size → f i = g i) : Sl size v e n g := by
  rcases h with h | ⟨b, cap, cs, h⟩
  · exact .inl h
  · exact .inr ⟨b, cap, cs, h.val, h.ent, h.le, h.max, h.sz, fun i hi => by rw [← hf i hi]; exact h.get i hi⟩
def slI (P : Program) (T : TypeId) : Option (TypeId × Option Value × Nat × Nat) :=
  match P.underlying T with
  | some (.slice e) => (P.info? e).map fun i => (e, i.zero, i.size, i.bytes)
  | _ => none

theorem heap_drew_alloc (w : World) (o : Obj) : Ext w (w.drew.alloc o) :=
  Below.alloc (Below.drew (Below.refl w.heap.size w)) (Nat.le_refl _) o

theorem run_append {X : List Nat} {w0 w : World} {L : Own} {D : Froz} {T e : TypeId} {z : Value} {size bytes n k m bx ox cx : Nat} {v : Value} {ent : Option (Nat × Array Value)} {f g : Nat → Value} (hT : slI P T = some (e, some z, size, bytes)) (hz : z.cells.size = size) (hs0 : 0 < size)
    (hM : MemX X w0 w L D) (hk : L[k]? = some ent) (hv : Sl size v ent n f) (hg : ∀ i, i < m * size → w.cell? ⟨bx, ox + i, none⟩ = some (g i)) (h1 : ∀ i, i < m * size → (g i).oneCell' = true)
    (hm : 0 < m) (h63 : n + m ≤ maxLen) (hb : (n + m) * bytes ≤ 140737488355328) (ty : TypeId) :
    ∃ u w' e', (Builtin.append_ #[T, T] ty #[v, .slice (some ⟨bx, ox, none⟩) m cx]).run P w = .ok u w' ∧ MemX X w0 w' (L.set k e') D ∧ Sl size u e' (n + m) (fun i => if i < n * size then f i else g (i - n * size)) := by
  unfold slI at hT
  cases hu : P.underlying T with
  | none => simp [hu] at hT
  | some dd =>
    cases dd <;> simp [hu] at hT
    rename_i el
    obtain ⟨inf, hinf, rfl, hz0, hsz, hby⟩ := hT;subst hsz; subst hby
    have hm0 : n + m ≤ 9223372036854775807 := by simp only [maxLen] at h63; omega
    have hnl : (((List.range (m * inf.size)).map g)).length = m * inf.size := by simp
    have hnews : ∀ j u, ((List.range (m * inf.size)).map g)[j]? = some u → w.cell? ((⟨bx, ox, none⟩ : Addr).add j) = some u := by
      intro j u hj;have hlt : j < m * inf.size := by have := (List.getElem?_eq_some_iff.1 hj).1; simpa using this
      rw [Addr.add_lit, hg j hlt]
      simp [hlt] at hj; rw [hj]
    have hone : ∀ u ∈ (List.range (m * inf.size)).map g, u.oneCell' = true := by
      intro u hu';obtain ⟨i, hi, rfl⟩ := List.mem_map.1 hu';exact h1 i (by simpa using hi)
    rcases hv with ⟨rfl, rfl, rfl⟩ | ⟨b, cap, cs, hat⟩
    · have hr := run_append_nil (P := P) w T ty el inf z hu hinf hz0 ⟨bx, ox, none⟩ m cx _ hnl hnews hm (by omega) (by simp only [Nat.zero_add] at hb; omega)
      refine ⟨_, _, _, hr, hM.fill (heap_drew_alloc _ _) k (Blk.new w.drew _ _) (Nat.le_refl _), .inr ⟨_, _, _, ⟨by rw [Nat.zero_add]; rfl, rfl, ?_, grownCap_le_maxLen w m 0 el (by omega), ?_, ?_⟩⟩⟩
      · have := grownCap_ge w m 0 el; omega
      · have := grownCap_ge w m 0 el
        simp only [Array.size_append, List.size_toArray, hnl, size_zeroCells, hz, ← Nat.add_mul]
        congr 1; omega
      · intro i hi
        rw [Nat.zero_add] at hi;rw [if_neg (by simp), Array.getElem?_append, if_pos (by simpa using hi)]
        simp [hi]
    · obtain ⟨rfl, rfl, hle, hmax, hcsz, hget⟩ := hat
      have hblk := hM.row k hk
      by_cases hroom : n + m ≤ cap
      · obtain ⟨tt, hgg⟩ := hblk
        have hf := run_firstCells_some (P := P) w inf.size m ⟨bx, ox, none⟩ m cx _ hnl hnews;have hfit : n * inf.size + ((List.range (m * inf.size)).map g).length ≤ cs.size := by rw [hnl, hcsz, ← Nat.add_mul]; exact Nat.mul_le_mul_right _ hroom
        have hst := run_storeCells_at P b (n * inf.size) tt ((List.range (m * inf.size)).map g) 0 cs w hgg (by simpa using hfit) hone;simp only [Nat.add_zero] at hst;have hr : (Builtin.append_ #[T, T] ty #[.slice (some ⟨b, 0, none⟩) n cap, .slice (some ⟨bx, ox, none⟩) m cx]).run P w = .ok (.slice (some ⟨b, 0, none⟩) (n + m) cap) (w.setRow b (splice cs (n * inf.size) ((List.range (m * inf.size)).map g).toArray)) := by
          simp [Builtin.append_, run_underlying hu, Go.sizeOf, typeInfo, hinf, Builtin.lenOf, hroom, hf, Addr.add_lit, hst, splice]
        refine ⟨_, _, _, hr, hM.setRow k hk _, .inr ⟨_, _, _, ⟨rfl, rfl, hroom, hmax, ?_, ?_⟩⟩⟩
        · rw [splice_size _ _ _ (by simpa using hfit), hcsz]
        · intro i hi
          rw [splice_get _ _ _ _ (by simpa using hfit)];have e1 : (n + m) * inf.size = n * inf.size + m * inf.size := Nat.add_mul ..
          by_cases hlt : i < n * inf.size
          · rw [if_neg (by omega), if_pos hlt]; exact hget i hlt
          · rw [if_pos (by simp only [List.size_toArray, List.length_map, List.length_range]; omega), if_neg hlt]
            rw [List.getElem?_toArray, List.getElem?_map, List.getElem?_range (by omega)]; rfl
      · have holds : ∀ j u, ((List.range (n * inf.size)).map f)[j]? = some u → w.cell? ((⟨b, 0, none⟩ : Addr).add j) = some u := by
          intro j u hj;have hlt : j < n * inf.size := by have := (List.getElem?_eq_some_iff.1 hj).1; simpa using this
          rw [Addr.add_lit, Nat.zero_add, hblk.cell, hget j hlt]
          simp [hlt] at hj; rw [hj]
        have hr := run_append_grow (P := P) w T ty el inf z hu hinf hz0 ⟨b, 0, none⟩ n cap ((List.range (n * inf.size)).map f) (by simp) holds ⟨bx, ox, none⟩ m cx _ hnl hnews (by omega) (by omega) (growslice_fits (by omega) hb);refine ⟨_, _, _, hr, hM.fill (heap_drew_alloc _ _) k (Blk.new w.drew _ _) (Nat.le_refl _), .inr ⟨_, _, _, ⟨rfl, rfl, grownCap_ge w _ _ _, grownCap_le_maxLen w _ _ _ h63, ?_, ?_⟩⟩⟩
        · have := grownCap_ge w (n + m) cap el
          simp only [Array.size_append, List.size_toArray, hnl, size_zeroCells, hz, List.length_map, List.length_range, ← Nat.add_mul]
          congr 1; omega
        · intro i hi
          have e1 : (n + m) * inf.size = n * inf.size + m * inf.size := Nat.add_mul ..;rw [Array.getElem?_append, if_pos (by simp only [Array.size_append, List.size_toArray, List.length_map, List.length_range]; omega), Array.getElem?_append]
          by_cases hlt : i < n * inf.size
          · rw [if_pos (by simpa using hlt), if_pos hlt]; simp [hlt]
          · rw [if_neg (by simpa using hlt), if_neg hlt]
            simp only [List.size_toArray, List.length_map, List.length_range];rw [List.getElem?_toArray, List.getElem?_map, List.getElem?_range (by omega)]; rfl
section
variable {ops : Array Oper} {Q : Exit → Act → World → Prop} {rest : List Oper} {n : Nat} {F : List (Nat × Value)} {a : Act} {X : List Nat} {w w0 : World} {L : Own} {D : Froz}
variable {d : Option Tmp} {t : TypeId} {pos : String} {af : Array Edge} {gd : Option (Nat × Bool)} {T : TypeId} {x y : Operand}
theorem d_append {e : TypeId} {z : Value} {size bytes N k m bx ox cx : Nat} {v : Value} {ent : Option (Nat × Array Value)} {f g : Nat → Value} (hT : slI P T = some (e, some z, size, bytes)) (hz : z.cells.size = size) (hs0 : 0 < size)
    (hM : MemX X w0 w L D) (hk : L[k]? = some ent) (hF : Fr n a F) (hx : look F x = some v) (hy : look F y = some (.slice (some ⟨bx, ox, none⟩) m cx)) (hv : Sl size v ent N f) (hg : ∀ i, i < m * size → w.cell? ⟨bx, ox + i, none⟩ = some (g i)) (h1 : ∀ i, i < m * size → (g i).oneCell' = true)
    (hm : 0 < m) (h63 : N + m ≤ maxLen) (hb : (N + m) * bytes ≤ 140737488355328) :
    Does P ⟨d, .call { callee := .builtin .append, args := #[x, y], argTypes := #[T, T] }, t, pos, af, gd⟩ a w (fun u w' => ∃ e', MemX X w0 w' (L.set k e') D ∧ Sl size u e' (N + m) (fun i => if i < N * size then f i else g (i - N * size))) :=
  ⟨fun K Q hK => by
    obtain ⟨u, w', e', hr, h2, h3⟩ := run_append (P := P) (T := T) hT hz hs0 hM hk hv hg h1 hm h63 hb t
    unfold Oper.wp execOp
    simp only [resolve, invoke, builtin, Sem.run_bind, Sem.run_pure, Result.andThen_ok, List.map_toArray, List.map_cons, List.map_nil, hF.eval hx, hF.eval hy]
    rw [hr]
    exact hK u w' ⟨e', h2, h3⟩⟩
theorem d_buildC {len : Nat} {parts : Array (Nat × Operand)} {vs : List (Nat × Value)} {cs : Array Value} {e : TypeId} (k : Nat) (hM : MemX X w0 w L D) (_hF : Fr n a F) (hp : parts.toList.map (fun p => (p.1, a.eval p.2)) = vs)
    (hrun : ∀ w, (Instr.buildSlice T len vs.toArray).run P w = .ok (.slice (some ⟨w.heap.size, 0, none⟩) len len) (w.alloc (.cells cs e))) :
    Does P ⟨d, .buildSlice T len parts, t, pos, af, gd⟩ a w (fun u w' => ∃ b, u = .slice (some ⟨b, 0, none⟩) len len ∧ MemX X w0 w' (L.set k (some (b, cs))) D ∧ Ext w w') :=
  ⟨fun K Q hk => by
    have := hk _ (w.alloc (.cells cs e)) ⟨w.heap.size, rfl, hM.fill (Ext.alloc _ _) k (Blk.new _ _ _) (Nat.le_refl _), Ext.alloc _ _⟩
    unfold Oper.wp execOp
    have e1 : (parts.map fun (i, x) => (i, a.eval x)) = vs.toArray := by rw [← hp]; apply Array.toList_inj.1; simp
    simp only [e1, Sem.run_bind, hrun, Result.andThen_ok, Sem.run_pure]
    exact this⟩
theorem g_len {b o len c : Nat} {TT : TypeId} {el : TypeId} (hT : P.underlying TT = some (.slice el)) (hF : Fr n a F) (hx : look F x = some (.slice (some ⟨b, o, none⟩) len c)) : Gives P ⟨d, .call { callee := .builtin .len, args := #[x], argTypes := #[TT] }, t, pos, af, gd⟩ a w (.int .i64 (len : Int)) :=
  gives_of_run (by simp [execOp, resolve, invoke, hF.eval hx, builtin, Builtin.len_, run_underlying hT, goInt])
end

theorem MemX.startD (w : World) (n : Nat) (D : Froz) (h : ∀ b cs, (b, cs) ∈ D → Blk w b cs) : Mem w w (List.replicate n none) D :=
  ⟨ExtX.refl _ w, fun k b cs h => by simp [List.getElem?_replicate] at h, fun k j b cs ds h => by simp [List.getElem?_replicate] at h, fun b cs hm => ⟨h b cs hm, fun k c ds hk => by simp [List.getElem?_replicate] at hk⟩⟩
theorem MemX.fz {X : List Nat} {w0 w : World} {L : Own} {D : Froz} (h : MemX X w0 w L D) (k : Nat) {b : Nat} {cs : Array Value} (hk : D[k]? = some (b, cs)) : Blk w b cs := (h.froz b cs (List.mem_of_getElem? hk)).1
theorem startD1 {w : World} {b : Nat} {cs : Array Value} (h : Blk w b cs) : ∀ c ds, (c, ds) ∈ [(b, cs)] → Blk w c ds := fun c ds hm => by simp at hm; obtain ⟨rfl, rfl⟩ := hm; exact h
theorem SlAt.get1 {v : Value} {e : Option (Nat × Array Value)} {n b cap : Nat} {cs : Array Value} {f : Nat → Value} (h : SlAt 1 v e n b cap cs f) (i : Nat) (hi : i < n) : cs[0 + i * 1]? = some (f i) := by
  have := h.get i (by omega); simpa using this
def OwnSl (size : Nat) (w : World) (n : Nat) (f : Nat → Value) (v : Value) (w' : World) : Prop := ∃ b cap cs, SlAt size v (some (b, cs)) n b cap cs f ∧ w.heap.size ≤ b ∧ Blk w' b cs
theorem OwnSl.of {size n k : Nat} {w w' : World} {L : Own} {D : Froz} {v : Value} {e : Option (Nat × Array Value)} {f g : Nat → Value} (hM : Mem w w' L D) (hk : L[k]? = some e) (h : Sl size v e n g) (he : ∀ b, v = b → v ≠ .slice none 0 0) (hf : ∀ i, i < n * size → g i = f i) : OwnSl size w n f v w' := by
  rcases h.congr hf with ⟨rfl, _⟩ | ⟨b, cap, cs, h⟩
  · exact absurd rfl (he _ rfl)
  · obtain rfl := h.ent
    exact ⟨b, cap, cs, h, hM.ge k hk, hM.row k hk⟩
def leadN (f : Nat → Int) (n : Nat) : Nat := ((List.range n).find? (fun i => f i != 0)).getD n
theorem Sl.empty (size b : Nat) (f : Nat → Value) : Sl size (.slice (some ⟨b, 0, none⟩) 0 0) (some (b, #[])) 0 f :=
  .inr ⟨b, 0, #[], ⟨rfl, rfl, Nat.le_refl _, Nat.zero_le _, by simp, fun i hi => by simp at hi⟩⟩
theorem Sl.snoc {u : Value} {e : Option (Nat × Array Value)} {n : Nat} {f : Nat → Value} {x : Value} (h : Sl 1 u e (n + 1) (fun i => if i < n * 1 then f i else (fun _ => x) (i - n * 1))) (hx : x = f n) : Sl 1 u e (n + 1) f :=
  h.congr fun i hi => by
    by_cases hlt : i < n
    · rw [if_pos (by omega)]
    · rw [if_neg (by omega), hx, show i = n by omega]
theorem OwnSl.pos {size n k : Nat} {w w' : World} {L : Own} {D : Froz} {v : Value} {e : Option (Nat × Array Value)} {f : Nat → Value} (hM : Mem w w' L D) (hk : L[k]? = some e) (h : Sl size v e n f) (hn : 0 < n) : OwnSl size w n f v w' := by
  obtain ⟨b, cap, cs, _, rfl, h⟩ := h.pos hn;exact ⟨b, cap, cs, h, hM.ge k hk, hM.row k hk⟩
theorem build1 {n : Nat} {a : Act} {F : List (Nat × Value)} {x : Operand} {v : Value} (hF : Fr n a F) (hx : look F x = some v) : (#[(0, x)] : Array (Nat × Operand)).toList.map (fun p => (p.1, a.eval p.2)) = [(0, v)] := by simp [hF.eval hx]
end Go.Sw

namespace Go.Sw
open Go Go.RowKit
variable {P : Program}
/-! ### Calls that write into blocks that they are handed -/
def CallsX (P : Program) (X : List Nat) (f : FuncId) (args : Array Value) (w : World) (R : Value → World → Prop) : Prop :=
  Calls P f args w fun e w' => ∃ v, e = .returned v ∧ ExtX X w w' ∧ R v w'
theorem calls_frX {X : List Nat} {fn : Func} {w : World} {f : FuncId} {c : Code} {R : Value → World → Prop} {N : Nat} (vs : List Value) (hf : P.funcs[f]? = some fn) (hb : fn.body = some c) (hN : fn.ntmps = N) (hn : Nat.ble vs.length N = true)
    (h : ∀ a, Fr N a (argF vs 0) → c.wp P (bodyPost P fn (fun e w' => ∃ v, e = .returned v ∧ ExtX X w w' ∧ R v w')) a w) : CallsX P X f vs.toArray w R := by
  subst hN;exact calls_of_wp hf hb (h _ (frameA vs rfl hn))
theorem MemX.startX1 {w : World} {b : Nat} {cs : Array Value} (n : Nat) (h : Blk w b cs) : MemX [b] w w (some (b, cs) :: List.replicate n none) [] := by
  have key : ∀ (k : Nat) c ds, (some (b, cs) :: List.replicate n none : Own)[k]? = some (some (c, ds)) → k = 0 ∧ c = b ∧ ds = cs := by
    intro k c ds hk
    cases k with
    | zero => simp at hk; exact ⟨rfl, hk.1.symm, hk.2.symm⟩
    | succ k => simp [List.getElem?_replicate] at hk
  refine ⟨ExtX.refl _ w, fun k c ds hk => ?_, fun k j c ds es hk hj => ?_, fun c ds hm => by cases hm⟩
  · obtain ⟨_, rfl, rfl⟩ := key k c ds hk; exact ⟨.inr (List.mem_cons_self ..), h⟩
  · rw [(key k c ds hk).1, (key j c es hj).1]
theorem MemX.upd {X : List Nat} {w0 w w' : World} {L : Own} {D : Froz} (h : MemX X w0 w L D) (k : Nat) {b : Nat} {cs cs' : Array Value} (hk : L[k]? = some (some (b, cs))) (hx : ExtX [b] w w') (hb : Blk w' b cs') : MemX X w0 w' (L.set k (some (b, cs'))) D := by
  have hkl : k < L.length := (List.getElem?_eq_some_iff.1 hk).1;have hbb := h.blk k b cs hk;have other : ∀ {c ds}, Blk w c ds → c ≠ b → Blk w' c ds := fun {c ds} hc hne => by
    obtain ⟨t, hc'⟩ := hc;exact ⟨t, (hx.block c (Blk.lt ⟨t, hc'⟩) (by simpa using hne)).trans hc'⟩
  refine ⟨⟨hx.os.trans h.bel.os, hx.tape.trans h.bel.tape, hx.output.trans h.bel.output, Nat.le_trans h.bel.size hx.size, fun i hi hix => ?_⟩, fun j c ds hj => ?_, fun i j c es ds hi hj => ?_, fun c ds hm => ⟨?_, fun j e es hj => ?_⟩⟩
  · have hne : i ≠ b := by
      rintro rfl
      rcases hbb.1 with e | e
      · omega
      · exact hix e
    exact (hx.block i (Nat.lt_of_lt_of_le hi h.bel.size) (by simpa using hne)).trans (h.bel.block i hi hix)
  · rw [List.getElem?_set] at hj
    by_cases e : k = j
    · subst e
      simp [hkl] at hj
      obtain ⟨rfl, rfl⟩ := hj;exact ⟨hbb.1, hb⟩
    · rw [if_neg e] at hj
      have hc := h.blk j c ds hj;exact ⟨hc.1, other hc.2 (fun ecb => by subst ecb; exact e (h.apart k j c _ _ hk hj))⟩
  · rw [List.getElem?_set] at hi hj
    by_cases e1 : k = i
    · subst e1
      simp [hkl] at hi
      obtain ⟨rfl, rfl⟩ := hi
      by_cases e2 : k = j
      · exact e2
      · rw [if_neg e2] at hj; exact h.apart k j _ _ _ hk hj
    · rw [if_neg e1] at hi
      by_cases e2 : k = j
      · subst e2
        simp [hkl] at hj
        obtain ⟨rfl, rfl⟩ := hj;exact h.apart i k _ _ _ hi hk
      · rw [if_neg e2] at hj; exact h.apart i j _ _ _ hi hj
  · exact other (h.froz c ds hm).1 (fun e => (h.froz c ds hm).2 k b cs hk e.symm)
  · rw [List.getElem?_set] at hj
    by_cases e1 : k = j
    · subst e1
      simp [hkl] at hj
      obtain ⟨rfl, rfl⟩ := hj;exact (h.froz c ds hm).2 k _ _ hk
    · rw [if_neg e1] at hj; exact (h.froz c ds hm).2 j e es hj
section
variable {n : Nat} {F : List (Nat × Value)} {a : Act} {w : World} {d : Option Tmp} {t : TypeId} {pos : String} {af : Array Edge} {gd : Option (Nat × Bool)} {T T' : TypeId} {x y : Operand}
theorem d_callX {X : List Nat} {f : FuncId} {xs : List Operand} {vs : List Value} {ats : Array TypeId} {R : Value → World → Prop} (hf : ∀ args w, (callFunc f args).run P w = .ok (.enter f args) w) (hF : Fr n a F) (hx : looks F xs vs) (hc : CallsX P X f vs.toArray w R) :
    Does P ⟨d, .call { callee := .value (.func f), args := xs.toArray, argTypes := ats }, t, pos, af, gd⟩ a w (fun u w' => ExtX X w w' ∧ R u w') :=
  ⟨fun K Q hk => by
    have hrun : (execOp a.eval ⟨d, .call { callee := .value (.func f), args := xs.toArray, argTypes := ats }, t, pos, af, gd⟩).run P w = .ok (.enter f vs.toArray) w := by
      have e : (xs.toArray.map a.eval) = vs.toArray := by rw [← hF.evals hx]; simp
      simp [execOp, resolve, Act.eval, Deferred.ofValue, invoke, e, hf]
    unfold Oper.wp
    rw [hrun]
    show Calls P f vs.toArray w _
    exact hc.mono fun e w' ⟨v, he, h1, h2⟩ => by subst he; exact hk v w' ⟨h1, h2⟩⟩
/-! ### Strings -/
end
end Go.Sw

namespace Go.Sw
open Go Go.RowKit
variable {P : Program}
section
variable {fn : Func} {a : Act} {w : World}
theorem fin0 {R : Ending → World → Prop} (hr : fn.results = #[]) (hd : a.defers = []) (h : R (.returned (.tuple #[])) w) : bodyPost P fn R .ret a w :=
  bodyPost_ret (by rw [results_eq, hr]; simp) hd h
theorem fin0n {R : Ending → World → Prop} (hr : fn.results = #[]) (hd : a.defers = []) (h : R (.returned (.tuple #[])) w) : bodyPost P fn R .normal a w := by
  have := fin0 (P := P) (R := R) hr hd h;exact this
end
end Go.Sw

namespace Go.Sw
open Go Go.RowKit
section
variable {p n q : Int} {T U : Nat → Nat → Nat → Nat} {f v : Nat → Nat} {M : Nat → Nat → Nat}
theorem planeC_put {o : Nat} (j : Nat) (h : o = j * 6) (hj : j < 6) : splice (planeC M) o (vecC v) = planeC (fun a k => if a = j then v k else M a k) := by
  subst h
  apply fnC_ext (by rw [splice_size _ _ _ (by rw [vecC_size, planeC_size]; omega), planeC_size])
  intro i hi;rw [splice_get _ _ _ _ (by rw [vecC_size, planeC_size]; omega), vecC_size]
  by_cases e : j * 6 ≤ i ∧ i < j * 6 + 6
  · rw [if_pos e, vecC_get (i - j * 6) rfl (by omega)]; dsimp only; rw [if_pos (by omega), show i - j * 6 = i % 6 by omega]
  · rw [if_neg e, planeC_get (i / 6) (i % 6) (by omega) (by omega) (by omega)]; dsimp only; rw [if_neg (by omega)]
theorem algC_eq {c : Array Value} (hs : c.size = 224) (h0 : c[0]? = some (.int .i64 p)) (h1 : c[1]? = some (.int .i64 n)) (hT : ∀ i j k, i < 6 → j < 6 → k < 6 → c[2 + i * 36 + j * 6 + k]? = some (.int .u8 (T i j k : Int)))
    (hf : ∀ i, i < 6 → c[218 + i]? = some (.int .u8 (f i : Int))) : c = algC p n T f := by
  apply Array.ext_getElem?
  intro i
  by_cases hi : i < 224
  · by_cases e0 : i = 0
    · subst e0; rw [h0, algC_p rfl]
    · by_cases e1 : i = 1
      · subst e1; rw [h1, algC_n rfl]
      · by_cases e2 : i < 218
        · have e : i = 2 + ((i - 2) / 36) * 36 + ((i - 2) / 6 % 6) * 6 + (i - 2) % 6 := by omega
          rw [e, hT _ _ _ (by omega) (by omega) (by omega), algC_T _ _ _ rfl (by omega) (by omega) (by omega)]
        · have e : i = 218 + (i - 218) := by omega
          rw [e, hf _ (by omega), algC_f _ rfl (by omega)]
  · rw [Array.getElem?_eq_none (by omega), Array.getElem?_eq_none (by rw [cells_size]; omega)]
end
end Go.Sw

/-! Steps that follow one another, as one. -/
namespace Go.Sw
open Go Go.RowKit
variable {P : Program}
section
variable {ops : Array Oper} {Q : Exit → Act → World → Prop} {rest : List Oper} {n : Nat} {F : List (Nat × Value)} {a : Act} {w : World}
theorem mv {d : Nat} {x : Operand} {t : TypeId} {pos : String} {af : Array Edge} {v : Value} (hF : Fr n a F) (hx : look F x = some v) (hn : Nat.blt d n = true)
    (h : ∀ a', Fr n a' ((d, v) :: F) → wpList P ops Q rest a' w) : wpList P ops Q (⟨some d, .move x, t, pos, af, none⟩ :: rest) a w := st hF (g_move hF hx) hn h
theorem ag {d : Nat} {x : Operand} {t : TypeId} {pos : String} {af : Array Edge} {v : Value} (hF : Fr n a F) (hx : look F x = some v) (hn : Nat.blt d n = true)
    (h : ∀ a', Fr n a' ((d, v) :: F) → wpList P ops Q rest a' w) : wpList P ops Q (⟨some d, .assign x, t, pos, af, none⟩ :: rest) a w := st hF (g_assign hF hx) hn h
theorem sr {id : Nat} {l : List Oper} {y : Code} (h : wpList P l.toArray (Exit.then (fun a w => y.wp P Q a w) Q) l a w) : ((Code.region id l.toArray false).seq y).wp P Q a w := sq (wp_region_lit h)
theorem nt {K : Act → World → Prop} {Q' : Exit → Act → World → Prop} (h : K a w) : wpList P ops (Exit.then K Q') [] a w := h
theorem ns {id : Nat} {l : List Oper} {y : Code} {Q' : Exit → Act → World → Prop} (h : wpList P l.toArray (Exit.then (fun a w => y.wp P Q a w) Q) l a w) : wpList P ops (Exit.then (fun a w => ((Code.region id l.toArray false).seq y).wp P Q a w) Q') [] a w := sq (wp_region_lit h)
end
section
variable {X : List Nat} {w0 w : World} {D : Froz} {W : List Nat} {l : List Fact} {i : Nat} {L0 L : Own} {o : Oper} {a : Act} {n : Nat} {F : List (Nat × Value)} {d : Option Tmp} {x : Operand} {t : TypeId} {pos : String} {af : Array Edge} {gd : Option (Nat × Bool)} {v : Value}
theorem pmv (hS : Par X w0 D W L0 L w) (hi : l[i]? = some (.val v)) (hF : Fr n a F) (hx : look F x = some v) : Does P ⟨d, .move x, t, pos, af, gd⟩ a w (After (Par X w0 D W L0) (factsOf l) i L w) := par_val hS hi (g_move hF hx)
end
theorem sz0 : (∀ n f, (fnC n f).size = n) ∧ (∀ p n T f, (algC p n T f).size = 224) ∧ (∀ v, (vecC v).size = 6) ∧ (∀ T, (tabC T).size = 216) ∧ (∀ M, (planeC M).size = 36) :=
  ⟨fnC_size, fun _ _ _ _ => cells_size, fun _ => vecC_size, fun _ => tabC_size, fun _ => planeC_size⟩
end Go.Sw

namespace Go.Sw
open Go Go.RowKit Go.ChangeShapes Go.WideShapes
/-! ### Arguments that are made of integers alone: structs and arrays by value -/
def flatT (P : Program) : Nat → TypeId → Bool
  | 0, _ => false
  | n + 1, t => match P.underlying t with
    | some (.int _) => true
    | some (.array _ e) => flatT P n e
    | some (.struct fs) => fs.toList.all (fun f => flatT P n f.type)
    | _ => false
section
variable {H : Type} {enc : TypeId × Value → H} {P : Program}
theorem mapM_congr' {α β : Type} {f g : α → Option β} : ∀ {l : List α}, (∀ x ∈ l, f x = g x) → l.mapM f = l.mapM g
  | [], _ => rfl
  | x :: l, h => by
    rw [List.mapM_cons, List.mapM_cons, h x (List.mem_cons_self ..), mapM_congr' (fun y hy => h y (List.mem_cons_of_mem _ hy))]
theorem trod_flat {w w' : World} {base base' : Nat} {spare spare' : Nat → Bool} {held held' : Bool} : ∀ (m : Nat) (t : TypeId), flatT P m t = true → ∀ (fuel : Nat) (cs : List Value),
    DataW.trod enc P w base spare held fuel t cs = DataW.trod enc P w' base' spare' held' fuel t cs
  | 0, _, h, _, _ => by simp [flatT] at h
  | m + 1, t, h, fuel, cs => by
    cases fuel with
    | zero => rfl
    | succ fuel =>
      simp only [flatT] at h
      unfold DataW.trod
      cases hu : P.underlying t with
      | none => rfl
      | some dd =>
        cases dd <;> simp only [hu] at h <;> first | cases h | skip
        · rcases cs with _ | ⟨v, _ | ⟨u, r⟩⟩
          · rfl
          · cases v <;> rfl
          · cases v <;> rfl
        · rename_i n e
          dsimp only
          rw [mapM_congr' (fun i _ => trod_flat m e h fuel _)]
        · rename_i fs
          dsimp only
          rw [mapM_congr' (fun f hf => trod_flat m f.type (by simpa using List.all_eq_true.1 h f hf) fuel _)]
theorem flatMap_nil {α β : Type} {f : α → List β} : ∀ {l : List α}, (∀ x ∈ l, f x = []) → l.flatMap f = []
  | [], _ => rfl
  | x :: l, h => by rw [List.flatMap_cons, h x (List.mem_cons_self ..), flatMap_nil (fun y hy => h y (List.mem_cons_of_mem _ hy))]; rfl
theorem trod_flat_places {w : World} {base : Nat} {spare : Nat → Bool} {held : Bool} : ∀ (m : Nat) (t : TypeId), flatT P m t = true → ∀ (fuel : Nat) (cs : List Value) (x : DataW H × List MemPlace),
    DataW.trod enc P w base spare held fuel t cs = some x → x.2 = []
  | 0, _, h, _, _, _, _ => by simp [flatT] at h
  | m + 1, t, h, fuel, cs, x, hx => by
    simp only [flatT] at h
    cases hu : P.underlying t with
    | none => simp [hu] at h
    | some dd =>
      cases dd <;> simp only [hu] at h <;> first | cases h | skip
      · obtain ⟨n, _, rfl, _⟩ := DataW.trod_int hu hx
        rfl
      · rename_i n e
        obtain ⟨xs, k, _, rfl, _, hl, hg⟩ := DataW.trod_array hu hx
        refine flatMap_nil fun y hy => ?_
        obtain ⟨i, hi, e2⟩ := List.getElem_of_mem hy
        exact trod_flat_places m e h k _ y (by rw [hg i (by omega), List.getElem?_eq_getElem hi, e2])
      · rename_i fs
        obtain ⟨xs, k, _, rfl, _, hl, hg⟩ := DataW.trod_struct hu hx
        refine flatMap_nil fun y hy => ?_
        obtain ⟨i, hi, e2⟩ := List.getElem_of_mem hy
        have hfi : fs[i]? = some (fs[i]'(by omega)) := by simp [show i < fs.size by omega]
        exact trod_flat_places m _ (by simpa using List.all_eq_true.1 h (fs[i]'(by omega)) (by simp)) k _ y (by rw [hg i _ hfi, List.getElem?_eq_getElem hi, e2])
def kindsFs (P : Program) (g : TypeId → Option (List IntKind)) : List Field → Nat → Option (List IntKind)
  | [], _ => some []
  | f :: r, o => match g f.type with
    | some l => if f.offset = o ∧ l.length = P.cellsOf f.type then (kindsFs P g r (o + l.length)).map (l ++ ·) else none
    | none => none
def kindsT (P : Program) : Nat → TypeId → Option (List IntKind)
  | 0, _ => none
  | n + 1, t => match P.underlying t with
    | some (.int k) => some [k]
    | some (.array m e) => match kindsT P n e with
      | some l => if l.length = P.cellsOf e ∧ 0 < l.length then some (List.replicate m l).flatten else none
      | none => none
    | some (.struct fs) => kindsFs P (kindsT P n) fs.toList 0
    | _ => none
def KindsAt (ks : List IntKind) (cs : List Value) : Prop := ∀ (i : Nat) k, ks[i]? = some k → ∃ n, cs[i]? = some (.int k n) ∧ (Lit.int k n).wf = true
theorem flatten_get {α : Type} {l : List α} {s : Nat} (hs : l.length = s) (h0 : 0 < s) : ∀ (m i : Nat), i < m * s → (List.replicate m l).flatten[i]? = l[i % s]?
  | 0, i, h => by omega
  | m + 1, i, h => by
    rw [List.replicate_succ, List.flatten_cons]
    by_cases hi : i < s
    · rw [List.getElem?_append_left (by omega), Nat.mod_eq_of_lt hi]
    · rw [List.getElem?_append_right (by omega), hs, flatten_get hs h0 m (i - s) (by rw [Nat.succ_mul] at h; omega), ← Nat.mod_eq_sub_mod (by omega)]
theorem trod_kinds {w : World} {base : Nat} {spare : Nat → Bool} {held : Bool} : ∀ (m : Nat) (t : TypeId) (ks : List IntKind), kindsT P m t = some ks → ∀ (fuel : Nat) (cs : List Value) (x : DataW H × List MemPlace),
    DataW.trod enc P w base spare held fuel t cs = some x → KindsAt ks cs
  | 0, _, _, h, _, _, _, _ => by simp [kindsT] at h
  | m + 1, t, ks, h, fuel, cs, x, hx => by
    simp only [kindsT] at h
    cases hu : P.underlying t with
    | none => simp [hu] at h
    | some dd =>
      cases dd <;> simp only [hu] at h <;> first | cases h | skip
      · obtain ⟨n, rfl, rfl, hw⟩ := DataW.trod_int hu hx
        intro i k hi
        cases i with
        | zero => simp at hi; subst hi; exact ⟨n, rfl, hw⟩
        | succ i => simp at hi
      · rename_i n e
        obtain ⟨xs, k, _, rfl, hcl, hl, hg⟩ := DataW.trod_array hu hx
        cases hk : kindsT P m e with
        | none => simp [hk] at h
        | some l =>
          simp only [hk] at h
          split at h
          · rename_i hc
            obtain rfl := Option.some.inj h
            intro i kk hi
            have hlen : (List.replicate n l).flatten.length = n * l.length := by simp
            have hin : i < n * l.length := by rw [← hlen]; exact (List.getElem?_eq_some_iff.1 hi).1
            rw [flatten_get rfl hc.2 n i hin] at hi
            have hq : i / l.length < n := (Nat.div_lt_iff_lt_mul hc.2).2 hin
            have hgq := hg (i / l.length) hq
            obtain ⟨v, h1, h2⟩ := trod_kinds m e l hk k _ (xs[i / l.length]'(by omega)) (by rw [hgq, List.getElem?_eq_getElem]) _ _ hi
            refine ⟨v, ?_, h2⟩
            rw [List.getElem?_take, ← hc.1, if_pos (Nat.mod_lt _ hc.2), List.getElem?_drop] at h1
            rw [← h1]
            congr 1
            have := Nat.div_add_mod i l.length
            rw [Nat.mul_comm] at this; omega
          · cases h
      · rename_i fs
        obtain ⟨xs, k, _, rfl, hcl, hl, hg⟩ := DataW.trod_struct hu hx
        have key : ∀ (r : List Field) (o : Nat) (ks : List IntKind), (∀ f ∈ r, f ∈ fs.toList) → kindsFs P (kindsT P m) r o = some ks → ∀ (i : Nat) kk, ks[i]? = some kk → ∃ n, cs[o + i]? = some (.int kk n) ∧ (Lit.int kk n).wf = true := by
          intro r
          induction r with
          | nil => intro o ks _ h i kk hi; simp [kindsFs] at h; subst h; simp at hi
          | cons f r ih =>
            intro o ks hmem h i kk hi;simp only [kindsFs] at h
            cases hk : kindsT P m f.type with
            | none => simp [hk] at h
            | some l =>
              simp only [hk] at h
              split at h
              · rename_i hc
                cases hr : kindsFs P (kindsT P m) r (o + l.length) with
                | none => simp [hr] at h
                | some l2 =>
                  simp only [hr, Option.map_some, Option.some.injEq] at h;subst h
                  by_cases hil : i < l.length
                  · rw [List.getElem?_append_left hil] at hi
                    obtain ⟨j, hj, ej⟩ := List.getElem_of_mem (hmem f (List.mem_cons_self ..));have hj2 : j < fs.size := by simpa using hj
                    have hfj : fs[j]? = some f := by
                      rw [Array.getElem?_eq_getElem hj2]; simpa using ej
                    have hgj := hg j f hfj;obtain ⟨v, h1, h2⟩ := trod_kinds m f.type l hk k _ (xs[j]'(by omega)) (by rw [hgj, List.getElem?_eq_getElem]) _ _ hi;refine ⟨v, ?_, h2⟩;rw [List.getElem?_take, ← hc.2, if_pos hil, List.getElem?_drop, hc.1] at h1;exact h1
                  · rw [List.getElem?_append_right (by omega)] at hi
                    obtain ⟨v, h1, h2⟩ := ih (o + l.length) l2 (fun f hf => hmem f (List.mem_cons_of_mem _ hf)) hr (i - l.length) kk hi;refine ⟨v, ?_, h2⟩;rw [show o + l.length + (i - l.length) = o + i by omega] at h1;exact h1
              · cases h
        intro i kk hi;have := key fs.toList 0 ks (fun f hf => hf) h i kk hi
        simpa using this
end
def getI : Option Value → Int
  | some (.int _ n) => n
  | _ => 0
theorem kind_get {ks : List IntKind} {cs : List Value} (h : KindsAt ks cs) {i : Nat} {k : IntKind} (hk : ks[i]? = some k) : cs[i]? = some (.int k (getI cs[i]?)) ∧ (Lit.int k (getI cs[i]?)).wf = true := by
  obtain ⟨n, h1, h2⟩ := h i k hk;rw [h1]; exact ⟨rfl, h2⟩
theorem wf_u8 {n : Int} (h : (Lit.int .u8 n).wf = true) : 0 ≤ n ∧ n ≤ 255 := by
  simp only [Lit.wf, Bool.and_eq_true, decide_eq_true_eq] at h;have h1 : IntKind.u8.min = 0 := by decide
  have h2 : IntKind.u8.max = 255 := by decide
  omega
theorem wf_i64 {n : Int} (h : (Lit.int .i64 n).wf = true) : -9223372036854775808 ≤ n ∧ n ≤ 9223372036854775807 := by
  simp only [Lit.wf, Bool.and_eq_true, decide_eq_true_eq] at h;have h1 : IntKind.i64.min = -9223372036854775808 := by decide
  have h2 : IntKind.i64.max = 9223372036854775807 := by decide
  omega
def algKs : List IntKind := .i64 :: .i64 :: List.replicate 222 .u8
def vecKs : List IntKind := List.replicate 6 .u8
section
variable {H : Type} {enc : TypeId × Value → H} {P : Program} {w w' : World} {base base' : Nat} {spare spare' : Nat → Bool} {held held' : Bool} {t : TypeId} {v : Value} {d : DataW H} {p : List MemPlace}
theorem Trod_flat_places {m : Nat} (hf : flatT P m t = true) (h : DataW.Trod enc P w base spare held t v d p) : p = [] := by
  obtain ⟨fuel, h⟩ := h; exact trod_flat_places m t hf fuel _ _ h
theorem Trod_flat {m : Nat} (hf : flatT P m t = true) (h : DataW.Trod enc P w base spare held t v d p) : DataW.Trod enc P w' base' spare' held' t v d p := by
  obtain ⟨fuel, h⟩ := h; exact ⟨fuel, by rw [← trod_flat m t hf]; exact h⟩
end
end Go.Sw
