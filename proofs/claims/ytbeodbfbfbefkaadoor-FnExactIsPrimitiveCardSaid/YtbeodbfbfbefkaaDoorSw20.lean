/- Plain lemmas of a small calculus for walks over frames and own memory; no statement of the seat is proved here. -/
import Derived.Test.YtbeodbfbfbefkaaDoorSw17
import Derived.Laws.MakeOwn
import Derived.Test.YtbeodbfbfbefkaaDoorEch3
set_option linter.unusedVariables false
set_option linter.unusedSimpArgs false
namespace Go.Sw
open Go Go.RowKit Go.Ech
variable {P : Program}
def rowsD0 (b0 : Nat) (cs0 : Array Value) (N m : Nat) (γ : Nat → Nat) (M : Nat → Nat → Nat) : Froz := (b0, cs0) :: (List.range m).map (fun i => (γ i, fnC N (fun c => .int .u8 ((M i c : Nat) : Int))))
section
variable {b0 : Nat} {cs0 : Array Value} {N m : Nat} {γ : Nat → Nat} {M : Nat → Nat → Nat}
theorem rowsD0_0 : (b0, cs0) ∈ rowsD0 b0 cs0 N m γ M := List.mem_cons_self ..
theorem rowsD0_i {i : Nat} (hi : i < m) : (γ i, fnC N (fun c => .int .u8 ((M i c : Nat) : Int))) ∈ rowsD0 b0 cs0 N m γ M := List.mem_cons_of_mem _ (List.mem_map.2 ⟨i, by simpa using hi, rfl⟩)
theorem rowsD0_Y : ∀ y ∈ rowsX b0 m γ, ∃ cs, (y, cs) ∈ rowsD0 b0 cs0 N m γ M := fun y hy => by
  rcases List.mem_cons.1 hy with e | hy
  · exact ⟨cs0, by rw [e]; exact rowsD0_0⟩
  · obtain ⟨i, hi, rfl⟩ := List.mem_map.1 hy
    exact ⟨_, rowsD0_i (by simpa using hi)⟩
theorem rowsD0_all {Q : Nat → Array Value → Prop} (h0 : Q b0 cs0) (hr : ∀ i, i < m → Q (γ i) (fnC N (fun c => .int .u8 ((M i c : Nat) : Int)))) : ∀ b cs, (b, cs) ∈ rowsD0 b0 cs0 N m γ M → Q b cs := fun b cs hm => by
  rcases List.mem_cons.1 hm with e | hm
  · simp only [Prod.mk.injEq] at e; obtain ⟨rfl, rfl⟩ := e; exact h0
  · obtain ⟨i, hi, e⟩ := List.mem_map.1 hm
    simp only [Prod.mk.injEq] at e; obtain ⟨rfl, rfl⟩ := e; exact hr i (by simpa using hi)
end
theorem MemX.startXD (X : List Nat) (w : World) (n : Nat) (D : Froz) (h : ∀ b cs, (b, cs) ∈ D → Blk w b cs) : MemX X w w (List.replicate n none) D :=
  ⟨ExtX.refl _ w, fun k b cs h => by simp [List.getElem?_replicate] at h, fun k j b cs ds h => by simp [List.getElem?_replicate] at h, fun b cs hm => ⟨h b cs hm, fun k c ds hk => by simp [List.getElem?_replicate] at hk⟩⟩
def solK (E : Nat → Nat → Nat) (ld : Nat → Nat) (L g c : Nat) : Nat := match ldAt g ld c with
  | some i => E i L
  | none => 0
theorem ldAt_eq_some {g c i : Nat} {ld : Nat → Nat} (hi : i < g) (e : ld i = c) (hinj : ∀ j, j < g → ld j = c → j = i) : ldAt g ld c = some i := by
  cases h : ldAt g ld c with
  | none => exact absurd e (ldAt_none h i hi)
  | some j => obtain ⟨h1, h2⟩ := ldAt_some h; rw [hinj j h1 h2]
theorem ldAt_eq_none {g c : Nat} {ld : Nat → Nat} (h : ∀ j, j < g → ld j ≠ c) : ldAt g ld c = none := by
  cases h2 : ldAt g ld c with
  | none => rfl
  | some j => obtain ⟨h3, h4⟩ := ldAt_some h2; exact absurd h4 (h j h3)
theorem solK_zero {E : Nat → Nat → Nat} {ld : Nat → Nat} {L c : Nat} : solK E ld L 0 c = 0 := by
  unfold solK; rw [ldAt_eq_none (fun j hj => absurd hj (by omega))]
theorem solK_succ {p N k L g c : Nat} {E : Nat → Nat → Nat} {ld : Nat → Nat} (h : Rref p N E k ld) (hg : g < k) : solK E ld L (g + 1) c = if c = ld g then E g L else solK E ld L g c := by
  unfold solK
  by_cases e : c = ld g
  · rw [if_pos e, ldAt_eq_some (i := g) (by omega) e.symm (fun j hj ej => h.inj (by omega) hg (by rw [ej, e]))]
  · rw [if_neg e]
    cases e2 : ldAt g ld c with
    | some i =>
      obtain ⟨h1, h2⟩ := ldAt_some e2
      rw [ldAt_eq_some (i := i) (by omega) h2 (fun j hj ej => h.inj (by omega) (by omega) (by rw [ej, h2]))]
    | none =>
      have h3 := ldAt_none e2
      rw [ldAt_eq_none (fun j hj ej => by
        by_cases ej2 : j = g
        · subst ej2; exact e ej.symm
        · exact h3 j (by omega) ej)]
theorem solK_lt {p N k L g c : Nat} {E : Nat → Nat → Nat} {ld : Nat → Nat} (hp : 0 < p) (hE : ∀ i c, E i c < p) : solK E ld L g c < p := by
  unfold solK; split
  · exact hE _ _
  · exact hp
end Go.Sw

namespace Go.Sw
open Go Go.RowKit Go.Ech
variable {P : Program}
section
variable {n : Nat} {F : List (Nat × Value)} {a : Act} {w w0 : World} {d : Option Tmp} {t : TypeId} {pos : String} {af : Array Edge} {gd : Option (Nat × Bool)} {T : TypeId} {x y : Operand} {X : List Nat} {L : Own} {D : Froz}
def updD (D : Froz) (b : Nat) (cs : Array Value) : Froz := D.map (fun x => if x.1 = b then (b, cs) else x)
theorem mem_updD {b c : Nat} {cs ds : Array Value} : (c, ds) ∈ updD D b cs ↔ (c = b ∧ ds = cs ∧ ∃ es, (b, es) ∈ D) ∨ (c ≠ b ∧ (c, ds) ∈ D) := by
  unfold updD
  rw [List.mem_map]
  constructor
  · rintro ⟨⟨c', ds'⟩, hm, e⟩
    dsimp only at e
    split at e
    · rename_i e2
      simp only [Prod.mk.injEq] at e; obtain ⟨rfl, rfl⟩ := e
      subst e2; exact .inl ⟨rfl, rfl, ds', hm⟩
    · rename_i e2
      simp only [Prod.mk.injEq] at e; obtain ⟨rfl, rfl⟩ := e
      exact .inr ⟨e2, hm⟩
  · rintro (⟨rfl, rfl, es, hm⟩ | ⟨hne, hm⟩)
    · exact ⟨(c, es), hm, by simp⟩
    · exact ⟨(c, ds), hm, by simp [hne]⟩
theorem MemX.setD (h : MemX X w0 w L D) {b : Nat} {cs : Array Value} (hm : (b, cs) ∈ D) (ho : w0.heap.size ≤ b ∨ b ∈ X) (cs' : Array Value) : MemX X w0 (w.setRow b cs') L (updD D b cs') := by
  have hb := (h.froz b cs hm).1
  refine ⟨⟨h.bel.os, h.bel.tape, h.bel.output, by simpa using h.bel.size, fun i hi hx => ?_⟩, fun k c ds hk => ⟨(h.blk k c ds hk).1, (h.blk k c ds hk).2.otherRow cs' ((h.froz b cs hm).2 k c ds hk)⟩, h.apart, fun c ds hc => ?_⟩
  · refine (setRow_other w b i cs' ?_).trans (h.bel.block i hi hx)
    rintro rfl
    rcases ho with e | e
    · omega
    · exact hx e
  · rcases mem_updD.1 hc with ⟨rfl, rfl, _⟩ | ⟨hne, hc⟩
    · exact ⟨hb.setRow _, (h.froz c cs hm).2⟩
    · exact ⟨(h.froz c ds hc).1.otherRow cs' hne, (h.froz c ds hc).2⟩
theorem d_storeD {b o : Nat} {cs : Array Value} {v : Value} (hM : MemX X w0 w L D) (hk : (b, cs) ∈ D) (ho' : w0.heap.size ≤ b ∨ b ∈ X) (hT : oneP P T = true) (hF : Fr n a F) (hx : look F x = some (ptr b o)) (hy : look F y = some v)
    (h1 : v.oneCell' = true) (ho : o < cs.size) :
    Does P ⟨d, .store T x y, t, pos, af, gd⟩ a w (fun _ w' => MemX X w0 w' L (updD D b (cs.setIfInBounds o v))) := by
  have hb := (hM.froz b cs hk).1
  have hs := (run_isAgg_one hT w).2
  obtain ⟨tt, hg⟩ := hb
  have hM' := hM.setD hk ho' (cs.setIfInBounds o v)
  have hst := run_storeCells_at P b o tt [v] 0 cs w hg (by simp; omega) (by simpa using h1)
  have e : (List.take (o + 0) cs.toList ++ [v] ++ List.drop (o + 0 + [v].length) cs.toList).toArray = cs.setIfInBounds o v := by
    apply Array.toList_inj.1
    simp [List.set_eq_take_append_cons_drop, ho]
  rw [e] at hst
  have hcs : v.cells = #[v] := by cases v <;> first | rfl | (simp [Value.oneCell'] at h1)
  refine ⟨fun K Q hk => ?_⟩
  have hrun : (execOp a.eval ⟨d, .store T x y, t, pos, af, gd⟩).run P w = .ok .skip (w.setRow b (cs.setIfInBounds o v)) := by
    simp [execOp, Instr.storeAt, Instr.sureAddr, hF.eval hx, hF.eval hy, storeVar, hs, hcs, hst]
  unfold Oper.wp
  rw [hrun]
  exact hk _ _ hM'
theorem d_make1 {len by' : Nat} {e : TypeId} {z : Value} (k : Nat) (hM : MemX X w0 w L D) (hF : Fr n a F) (hT : slI P T = some (e, some z, 1, by')) (hz : z.cells = #[z]) (hx : look F x = some (.int .i64 (len : Int))) (hy : look F y = some (.int .i64 (len : Int))) (hl : len < 1000000) (hb : by' < 1000) :
    Does P ⟨d, .makeSlice T x y, t, pos, af, gd⟩ a w (fun u w' => ∃ b, u = .slice (some ⟨b, 0, none⟩) len len ∧ MemX X w0 w' (L.set k (some (b, fnC len (fun _ => z)))) D ∧ Ext w w') :=
  ⟨fun K Q hk => by
    have := hk _ (w.alloc (.cells (fnC len (fun _ => z)) e)) ⟨w.heap.size, rfl, hM.fill (Ext.alloc _ _) k (Blk.new _ _ _) (Nat.le_refl _), Ext.alloc _ _⟩
    unfold slI at hT
    cases hu : P.underlying T with
    | none => simp [hu] at hT
    | some dd =>
      cases dd <;> simp [hu] at hT
      rename_i el
      obtain ⟨inf, hinf, rfl, hz0, hsz, hby⟩ := hT
      have hmul : inf.bytes * len ≤ 1000 * 1000000 := Nat.mul_le_mul (by omega) (by omega)
      have hmul2 : ((inf.bytes : Nat) : Int) * (len : Int) ≤ 281474976710656 := by
        have : ((inf.bytes * len : Nat) : Int) ≤ 281474976710656 := by omega
        rwa [Int.natCast_mul] at this
      have hrun := run_make (P := P) w T el inf z hu hinf hz0 .i64 .i64 (len : Int) (len : Int) (by omega) (Int.le_refl _) hmul2 (by omega)
      have ec : madeCells z.cells (len * inf.size) = fnC len (fun _ => z) := by
        rw [hsz, hz, Nat.mul_one]
        apply fnC_ext (size_madeCells _ _)
        intro i hi
        unfold madeCells
        rw [Array.getElem?_map, Array.getElem?_range, if_pos hi]
        simp [Nat.mod_one]
      simp only [Int.toNat_natCast, ec] at hrun
      unfold Oper.wp execOp
      simp only [hF.eval hx, hF.eval hy, Sem.run_bind, hrun, Result.andThen_ok, Sem.run_pure]
      exact this⟩
end
structure RowsB (D : Froz) (N m : Nat) (β : Nat → Nat) (M : Nat → Nat → Nat) : Prop where
  mem : ∀ i, i < m → (β i, fnC N (fun c => .int .u8 ((M i c : Nat) : Int))) ∈ D
  inj : ∀ i j, i < m → j < m → β i = β j → i = j
namespace RowsB
variable {D D' : Froz} {N m : Nat} {β : Nat → Nat} {M : Nat → Nat → Nat}
theorem none : RowsB D N 0 β M := ⟨fun i hi => absurd hi (by omega), fun i j hi => absurd hi (by omega)⟩
theorem more (h : RowsB D N m β M) (hs : ∀ x ∈ D, x ∈ D') : RowsB D' N m β M := ⟨fun i hi => hs _ (h.mem i hi), h.inj⟩
theorem congr {M' : Nat → Nat → Nat} (h : RowsB D N m β M) (e : ∀ i, i < m → ∀ c, c < N → M i c = M' i c) : RowsB D N m β M' :=
  ⟨fun i hi => by
    have := h.mem i hi
    rwa [fnC_congr (g := fun c => .int .u8 ((M' i c : Nat) : Int)) (fun c hc => by rw [e i hi c hc])] at this, h.inj⟩
theorem setRow (h : RowsB D N m β M) {i : Nat} (hi : i < m) (r : Nat → Nat) {cs : Array Value} (hc : cs = fnC N (fun c => .int .u8 ((r c : Nat) : Int))) : RowsB (updD D (β i) cs) N m β (upE M i r) :=
  ⟨fun j hj => by
    unfold upE
    by_cases e : j = i
    · subst e; rw [if_pos rfl]; exact mem_updD.2 (.inl ⟨rfl, hc.symm, _, h.mem j hj⟩)
    · rw [if_neg e]; exact mem_updD.2 (.inr ⟨fun e2 => e (h.inj j i hj hi e2), h.mem j hj⟩), h.inj⟩
theorem snoc (h : RowsB D N m β M) {b : Nat} {r : Nat → Nat} {cs : Array Value} (hc : cs = fnC N (fun c => .int .u8 ((r c : Nat) : Int))) (hm : (b, cs) ∈ D) (hn : ∀ i, i < m → b ≠ β i) : RowsB D N (m + 1) (up β m b) (upE M m r) := by
  subst hc
  refine ⟨fun i hi => ?_, fun i j hi hj e => ?_⟩
  · unfold up upE
    by_cases e : i = m
    · rw [if_pos e, if_pos e]; exact hm
    · rw [if_neg e, if_neg e]; exact h.mem i (by omega)
  · unfold up at e
    by_cases e1 : i = m <;> by_cases e2 : j = m
    · omega
    · rw [if_pos e1, if_neg e2] at e; exact absurd e (hn j (by omega))
    · rw [if_neg e1, if_pos e2] at e; exact absurd e.symm (hn i (by omega))
    · rw [if_neg e1, if_neg e2] at e; exact h.inj i j (by omega) (by omega) e
theorem append (h : RowsB D N m β M) {m2 : Nat} {β2 : Nat → Nat} {M2 : Nat → Nat → Nat} (h2 : RowsB D N m2 β2 M2) (hn : ∀ i j, i < m → j < m2 → β i ≠ β2 j) :
    RowsB D N (m + m2) (fun i => if i < m then β i else β2 (i - m)) (fun i => if i < m then M i else M2 (i - m)) := by
  refine ⟨fun i hi => ?_, fun i j hi hj e => ?_⟩
  · by_cases e : i < m
    · rw [if_pos e, if_pos e]; exact h.mem i e
    · rw [if_neg e, if_neg e]; exact h2.mem _ (by omega)
  · by_cases e1 : i < m <;> by_cases e2 : j < m
    · rw [if_pos e1, if_pos e2] at e; exact h.inj i j e1 e2 e
    · rw [if_pos e1, if_neg e2] at e; exact absurd e (hn i _ e1 (by omega))
    · rw [if_neg e1, if_pos e2] at e; exact absurd e.symm (hn j _ e2 (by omega))
    · rw [if_neg e1, if_neg e2] at e; have := h2.inj _ _ (by omega) (by omega) e; omega
end RowsB
def BytesOut (w w' : World) (N m : Nat) (M : Nat → Nat → Nat) (u : Value) : Prop := ∃ (D : Froz) (β : Nat → Nat) (b : Nat) (cs : Array Value),
  (∀ x ds, (x, ds) ∈ D → w.heap.size ≤ x ∧ Blk w' x ds) ∧ RowsB D N m β M ∧ u = .slice (some ⟨b, 0, none⟩) m m ∧ cs.size = m ∧ (∀ i, i < m → cs[0 + i * 1]? = some (.slice (some ⟨β i, 0, none⟩) N N)) ∧ (b, cs) ∈ D ∧ ∀ i, i < m → β i ≠ b
theorem BytesOut.of {w w' : World} {L : Own} {D : Froz} {N m k : Nat} {β : Nat → Nat} {M : Nat → Nat → Nat} {b : Nat} {cs : Array Value} (hM : Mem w w' L D) (hk : L[k]? = some (some (b, cs))) (hB : RowsB D N m β M) (hge : ∀ i, i < m → w.heap.size ≤ β i) (hs : cs.size = m) (hg : ∀ i, i < m → cs[0 + i * 1]? = some (.slice (some ⟨β i, 0, none⟩) N N)) :
    BytesOut w w' N m M (.slice (some ⟨b, 0, none⟩) m m) := by
  refine ⟨(b, cs) :: (List.range m).map (fun i => (β i, fnC N (fun c => .int .u8 ((M i c : Nat) : Int)))), β, b, cs, fun x ds hx => ?_, ⟨fun i hi => ?_, hB.inj⟩, rfl, hs, hg, List.mem_cons_self .., fun i hi e => (hM.froz _ _ (hB.mem i hi)).2 k b cs hk e.symm⟩
  · rcases List.mem_cons.1 hx with e | hx
    · simp only [Prod.mk.injEq] at e; obtain ⟨rfl, rfl⟩ := e; exact ⟨hM.ge k hk, hM.row k hk⟩
    · obtain ⟨i, hi, e⟩ := List.mem_map.1 hx
      simp only [Prod.mk.injEq] at e; obtain ⟨rfl, rfl⟩ := e
      have hi : i < m := by simpa using hi
      exact ⟨hge i hi, hM.fzm (hB.mem i hi)⟩
  · exact List.mem_cons_of_mem _ (List.mem_map.2 ⟨i, by simpa using hi, rfl⟩)
end Go.Sw

namespace Go.Sw
open Go Go.RowKit Go.Ech
variable {P : Program}
def BytesFr (w0 : World) (L : Own) (N m : Nat) (M : Nat → Nat → Nat) (u : Value) (w' : World) : Prop := ∃ (D : Froz) (β : Nat → Nat) (b : Nat) (cs : Array Value),
  (∀ x ds, (x, ds) ∈ D → w0.heap.size ≤ x ∧ Blk w' x ds ∧ ∀ (k : Nat) c es, L[k]? = some (some (c, es)) → c ≠ x) ∧ RowsB D N m β M ∧ u = .slice (some ⟨b, 0, none⟩) m m ∧ cs.size = m ∧ (∀ i, i < m → cs[0 + i * 1]? = some (.slice (some ⟨β i, 0, none⟩) N N)) ∧ (b, cs) ∈ D ∧ ∀ i, i < m → β i ≠ b
theorem BytesFr.last {w0 w w' : World} {L : Own} {N m : Nat} {M : Nat → Nat → Nat} {u : Value} (h : BytesFr w0 L N m M u w) (hx : Ext w w') : BytesFr w0 L N m M u w' := by
  obtain ⟨D, β, b, cs, h1, h2⟩ := h
  exact ⟨D, β, b, cs, fun x ds hm => ⟨(h1 x ds hm).1, (h1 x ds hm).2.1.ext hx, (h1 x ds hm).2.2⟩, h2⟩
theorem BytesOut.fresh {X : List Nat} {w0 w w' : World} {L : Own} {D : Froz} {N m : Nat} {M : Nat → Nat → Nat} {u : Value} (hM : MemX X w0 w L D) (h : BytesOut w w' N m M u) : BytesFr w0 L N m M u w' := by
  obtain ⟨D', β, b, cs, h1, h2⟩ := h
  refine ⟨D', β, b, cs, fun x ds hm => ⟨Nat.le_trans hM.bel.size (h1 x ds hm).1, (h1 x ds hm).2, fun k c es hk e => ?_⟩, h2⟩
  have := (hM.blk k c es hk).2.lt
  have := (h1 x ds hm).1
  omega
theorem MemX.addBo {X : List Nat} {w0 w w' : World} {L : Own} {D : Froz} {N m : Nat} {M : Nat → Nat → Nat} {u : Value} (h : MemX X w0 w L D) (hx : Ext w w') (hf : BytesOut w w' N m M u) :
    ∃ (D' : Froz) (β : Nat → Nat) (b : Nat) (cs : Array Value), RowsB (D' ++ D) N m β M ∧ u = .slice (some ⟨b, 0, none⟩) m m ∧ cs.size = m ∧ (∀ i, i < m → cs[0 + i * 1]? = some (.slice (some ⟨β i, 0, none⟩) N N)) ∧ (b, cs) ∈ D' ++ D ∧ (∀ i, i < m → β i ≠ b) ∧ (∀ i, i < m → w0.heap.size ≤ β i) ∧ w0.heap.size ≤ b ∧ MemX X w0 w' L (D' ++ D) ∧ (∀ c ds, (c, ds) ∈ D → ∀ i, i < m → c ≠ β i) := by
  obtain ⟨D', β, b, cs, h1, h2, h3, h4, h5, h6, h7⟩ := hf
  refine ⟨D', β, b, cs, h2.more (fun x hx => List.mem_append_left _ hx), h3, h4, h5, List.mem_append_left _ h6, h7, fun i hi => Nat.le_trans h.bel.size (h1 _ _ (h2.mem i hi)).1, Nat.le_trans h.bel.size (h1 _ _ h6).1, h.addD hx h1, fun c ds hm i hi e => ?_⟩
  have := (h.froz c ds hm).1.lt
  have := (h1 _ _ (h2.mem i hi)).1
  omega
theorem sI_cut {f : Nat → Int} {n N : Nat} (hn : n ≤ N) (h : ∀ c, n ≤ c → c < N → f c = 0) : sI f N = sI f n := by
  induction N with
  | zero => rw [show n = 0 by omega]
  | succ N ih =>
    by_cases e : n = N + 1
    · rw [e]
    · simp only [sI]; rw [ih (by omega) (fun c h1 h2 => h c h1 (by omega)), h N (by omega) (by omega)]; omega
theorem sol_ker {p L k : Nat} {E : Nat → Nat → Nat} {ld : Nat → Nat} (h : Rref p (L + 1) E k ld) (hn : ¬ isLd k ld L) : Ker p (L + 1) E k (aug L (solK E ld L k)) := by
  have h1 := h.free_ker (show L < L + 1 by omega) hn
  intro i hi
  have h2 := h1 i hi
  have e : dot (L + 1) (ci (E i)) (aug L (solK E ld L k)) = (-1) * dot (L + 1) (ci (E i)) (free E k ld L) := by
    rw [← dot_mul]
    unfold dot
    refine sI_congr fun c hc => ?_
    show ci (E i) c * aug L (solK E ld L k) c = ci (E i) c * (-1 * free E k ld L c)
    congr 1
    unfold aug free solK
    by_cases e : c < L
    · rw [if_pos e, if_neg (by omega)]
      cases ldAt k ld c with
      | none => simp
      | some j => simp
    · rw [if_neg e, if_pos (by omega)]; omega
  rw [e]; exact Int.dvd_mul_of_dvd_right h2
theorem no_sol {p L k : Nat} {E : Nat → Nat → Nat} {ld : Nat → Nat} {x : Nat → Nat} (hp : 2 ≤ p) (h : Rref p (L + 1) E k ld) (hl : isLd k ld L) : ¬ Ker p (L + 1) E k (aug L x) := by
  intro hK
  obtain ⟨i, hi, e⟩ := hl
  have := h.ker_lead hK hi (fun d h1 h2 => by omega)
  rw [e, aug_n] at this
  have := Int.le_of_dvd (by omega) (Int.dvd_neg.2 this)
  omega
theorem no_lead {p N k m c : Nat} {E M : Nat → Nat → Nat} {ld : Nat → Nat} (hp : 2 ≤ p) (h : Rref p N E k ld) (hK : ∀ x, Ker p N E k x ↔ Ker p N M m x) (hc : c < N) (hz : ∀ i, i < m → M i c = 0) : ¬ isLd k ld c := by
  rintro ⟨j, hj, e⟩
  have h1 : Ker p N M m (fun d => if d = c then 1 else 0) := fun i hi => by
    have : dot N (ci (M i)) (fun d => if d = c then 1 else 0) = 0 := by
      unfold dot
      refine sI_zero fun d _ => ?_
      by_cases ed : d = c
      · simp [ci, ed, hz i hi]
      · simp [ed]
    rw [this]; exact Int.dvd_zero _
  have h2 := h.ker_lead ((hK _).2 h1) hj (fun d h1 _ => by rw [if_neg (by omega)])
  rw [e, if_pos rfl] at h2
  have := Int.le_of_dvd (by omega) h2
  omega
theorem solK_out {E : Nat → Nat → Nat} {ld : Nat → Nat} {L k c : Nat} (h : ¬ isLd k ld c) : solK E ld L k c = 0 := by
  unfold solK
  rw [ldAt_eq_none (fun j hj e => h ⟨j, hj, e⟩)]
end Go.Sw
namespace Go.Sw
open Go Go.RowKit
variable {P : Program}
section
variable {n : Nat} {F : List (Nat × Value)} {a : Act} {w : World} {d : Option Tmp} {t : TypeId} {pos : String} {af : Array Edge} {gd : Option (Nat × Bool)} {T T' : TypeId} {x y : Operand}
theorem eqGuard_bool (op : BinOp) (T : TypeId) (x y : Operand) (s u : Bool) (w : World) : (eqGuard op T x y (.bool s) (.bool u)).run P w = .ok () w := by
  unfold eqGuard
  cases op <;> simp
theorem run_equal_bool (s u : Bool) (hT : P.underlying T = some .bool) : (Op.equal T (.bool s) (.bool u)).run P w = .ok (s == u) w := by
  show (Op.equalIn 10000 T (.bool s) (.bool u)).run P w = _
  rw [Op.equalIn]
  simp [run_underlying hT]
theorem g_neqBo {s u : Bool} (hT : P.underlying T = some .bool) (hF : Fr n a F) (hx : look F x = some (.bool s)) (hy : look F y = some (.bool u)) : Gives P ⟨d, .binOp .neq T x y T', t, pos, af, gd⟩ a w (.bool (decide (s ≠ u))) :=
  gives_of_run (by
    simp [execOp, eqGuard_bool, binOp, hF.eval hx, hF.eval hy, run_equal_bool s u hT]
    try (cases s <;> cases u <;> rfl))
end
end Go.Sw
