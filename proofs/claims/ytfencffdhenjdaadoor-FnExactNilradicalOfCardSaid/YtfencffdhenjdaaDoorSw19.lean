/- Plain lemmas of a small calculus for walks over frames and own memory; no statement of the seat is proved here. -/
import Derived.Test.YtfencffdhenjdaaDoorSw18
import Derived.Laws.MakeOwn
set_option linter.unusedVariables false
set_option linter.unusedSimpArgs false
namespace Go.Sw
open Go Go.RowKit Go.Ech
variable {P : Program}
section
variable {n : Nat} {F : List (Nat × Value)} {a : Act} {w w0 : World} {d : Option Tmp} {t : TypeId} {pos : String} {af : Array Edge} {gd : Option (Nat × Bool)} {T : TypeId} {x y : Operand} {X : List Nat} {L : Own} {D : Froz}
/-- A block that was only read is written. -/
def updD (D : Froz) (b : Nat) (cs : Array Value) : Froz := D.map (fun x => if x.1 = b then (b, cs) else x)
theorem mem_updD {b c : Nat} {cs ds : Array Value} : (c, ds) ∈ updD D b cs ↔ (c = b ∧ ds = cs ∧ ∃ es, (b, es) ∈ D) ∨ (c ≠ b ∧ (c, ds) ∈ D) := by
  unfold updD
  rw [List.mem_map]
  constructor
  · rintro ⟨⟨c', ds'⟩, hm, e⟩
    dsimp only at e
    split at e
    · rename_i e2
      simp only [Prod.mk.injEq] at e; obtain ⟨rfl, rfl⟩ := e
      subst e2; exact .inl ⟨rfl, rfl, ds', hm⟩
    · rename_i e2
      simp only [Prod.mk.injEq] at e; obtain ⟨rfl, rfl⟩ := e
      exact .inr ⟨e2, hm⟩
  · rintro (⟨rfl, rfl, es, hm⟩ | ⟨hne, hm⟩)
    · exact ⟨(c, es), hm, by simp⟩
    · exact ⟨(c, ds), hm, by simp [hne]⟩
theorem MemX.setD (h : MemX X w0 w L D) {b : Nat} {cs : Array Value} (hm : (b, cs) ∈ D) (ho : w0.heap.size ≤ b ∨ b ∈ X) (cs' : Array Value) : MemX X w0 (w.setRow b cs') L (updD D b cs') := by
  have hb := (h.froz b cs hm).1
  refine ⟨⟨h.bel.os, h.bel.tape, h.bel.output, by simpa using h.bel.size, fun i hi hx => ?_⟩, fun k c ds hk => ⟨(h.blk k c ds hk).1, (h.blk k c ds hk).2.otherRow cs' ((h.froz b cs hm).2 k c ds hk)⟩, h.apart, fun c ds hc => ?_⟩
  · refine (setRow_other w b i cs' ?_).trans (h.bel.block i hi hx)
    rintro rfl
    rcases ho with e | e
    · omega
    · exact hx e
  · rcases mem_updD.1 hc with ⟨rfl, rfl, _⟩ | ⟨hne, hc⟩
    · exact ⟨hb.setRow _, (h.froz c cs hm).2⟩
    · exact ⟨(h.froz c ds hc).1.otherRow cs' hne, (h.froz c ds hc).2⟩
/-- A store of one cell into a block of D. -/
theorem d_storeD {b o : Nat} {cs : Array Value} {v : Value} (hM : MemX X w0 w L D) (hk : (b, cs) ∈ D) (ho' : w0.heap.size ≤ b ∨ b ∈ X) (hT : oneP P T = true) (hF : Fr n a F) (hx : look F x = some (ptr b o)) (hy : look F y = some v)
    (h1 : v.oneCell' = true) (ho : o < cs.size) :
    Does P ⟨d, .store T x y, t, pos, af, gd⟩ a w (fun _ w' => MemX X w0 w' L (updD D b (cs.setIfInBounds o v))) := by
  have hb := (hM.froz b cs hk).1
  have hs := (run_isAgg_one hT w).2
  obtain ⟨tt, hg⟩ := hb
  have hM' := hM.setD hk ho' (cs.setIfInBounds o v)
  have hst := run_storeCells_at P b o tt [v] 0 cs w hg (by simp; omega) (by simpa using h1)
  have e : (List.take (o + 0) cs.toList ++ [v] ++ List.drop (o + 0 + [v].length) cs.toList).toArray = cs.setIfInBounds o v := by
    apply Array.toList_inj.1
    simp [List.set_eq_take_append_cons_drop, ho]
  rw [e] at hst
  have hcs : v.cells = #[v] := by cases v <;> first | rfl | (simp [Value.oneCell'] at h1)
  refine ⟨fun K Q hk => ?_⟩
  have hrun : (execOp a.eval ⟨d, .store T x y, t, pos, af, gd⟩).run P w = .ok .skip (w.setRow b (cs.setIfInBounds o v)) := by
    simp [execOp, Instr.storeAt, Instr.sureAddr, hF.eval hx, hF.eval hy, storeVar, hs, hcs, hst]
  unfold Oper.wp
  rw [hrun]
  exact hk _ _ hM'
/-- A new slice of a length that is not closed; elements of one cell. -/
theorem d_make1 {len by' : Nat} {e : TypeId} {z : Value} (k : Nat) (hM : MemX X w0 w L D) (hF : Fr n a F) (hT : slI P T = some (e, some z, 1, by')) (hz : z.cells = #[z]) (hx : look F x = some (.int .i64 (len : Int))) (hy : look F y = some (.int .i64 (len : Int))) (hl : len < 1000000) (hb : by' < 1000) :
    Does P ⟨d, .makeSlice T x y, t, pos, af, gd⟩ a w (fun u w' => ∃ b, u = .slice (some ⟨b, 0, none⟩) len len ∧ MemX X w0 w' (L.set k (some (b, fnC len (fun _ => z)))) D ∧ Ext w w') :=
  ⟨fun K Q hk => by
    have := hk _ (w.alloc (.cells (fnC len (fun _ => z)) e)) ⟨w.heap.size, rfl, hM.fill (Ext.alloc _ _) k (Blk.new _ _ _) (Nat.le_refl _), Ext.alloc _ _⟩
    unfold slI at hT
    cases hu : P.underlying T with
    | none => simp [hu] at hT
    | some dd =>
      cases dd <;> simp [hu] at hT
      rename_i el
      obtain ⟨inf, hinf, rfl, hz0, hsz, hby⟩ := hT
      have hmul : inf.bytes * len ≤ 1000 * 1000000 := Nat.mul_le_mul (by omega) (by omega)
      have hmul2 : ((inf.bytes : Nat) : Int) * (len : Int) ≤ 281474976710656 := by
        have : ((inf.bytes * len : Nat) : Int) ≤ 281474976710656 := by omega
        rwa [Int.natCast_mul] at this
      have hrun := run_make (P := P) w T el inf z hu hinf hz0 .i64 .i64 (len : Int) (len : Int) (by omega) (Int.le_refl _) hmul2 (by omega)
      have ec : madeCells z.cells (len * inf.size) = fnC len (fun _ => z) := by
        rw [hsz, hz, Nat.mul_one]
        apply fnC_ext (size_madeCells _ _)
        intro i hi
        unfold madeCells
        rw [Array.getElem?_map, Array.getElem?_range, if_pos hi]
        simp [Nat.mod_one]
      simp only [Int.toNat_natCast, ec] at hrun
      unfold Oper.wp execOp
      simp only [hF.eval hx, hF.eval hy, Sem.run_bind, hrun, Result.andThen_ok, Sem.run_pure]
      exact this⟩
end
/-- m rows of N bytes in blocks of D, each its own. -/
structure RowsB (D : Froz) (N m : Nat) (β : Nat → Nat) (M : Nat → Nat → Nat) : Prop where
  mem : ∀ i, i < m → (β i, fnC N (fun c => .int .u8 ((M i c : Nat) : Int))) ∈ D
  inj : ∀ i j, i < m → j < m → β i = β j → i = j
namespace RowsB
variable {D D' : Froz} {N m : Nat} {β : Nat → Nat} {M : Nat → Nat → Nat}
theorem none : RowsB D N 0 β M := ⟨fun i hi => absurd hi (by omega), fun i j hi => absurd hi (by omega)⟩
theorem more (h : RowsB D N m β M) (hs : ∀ x ∈ D, x ∈ D') : RowsB D' N m β M := ⟨fun i hi => hs _ (h.mem i hi), h.inj⟩
theorem congr {M' : Nat → Nat → Nat} (h : RowsB D N m β M) (e : ∀ i, i < m → ∀ c, c < N → M i c = M' i c) : RowsB D N m β M' :=
  ⟨fun i hi => by
    have := h.mem i hi
    rwa [fnC_congr (g := fun c => .int .u8 ((M' i c : Nat) : Int)) (fun c hc => by rw [e i hi c hc])] at this, h.inj⟩
theorem setRow (h : RowsB D N m β M) {i : Nat} (hi : i < m) (r : Nat → Nat) {cs : Array Value} (hc : cs = fnC N (fun c => .int .u8 ((r c : Nat) : Int))) : RowsB (updD D (β i) cs) N m β (upE M i r) :=
  ⟨fun j hj => by
    unfold upE
    by_cases e : j = i
    · subst e; rw [if_pos rfl]; exact mem_updD.2 (.inl ⟨rfl, hc.symm, _, h.mem j hj⟩)
    · rw [if_neg e]; exact mem_updD.2 (.inr ⟨fun e2 => e (h.inj j i hj hi e2), h.mem j hj⟩), h.inj⟩
theorem snoc (h : RowsB D N m β M) {b : Nat} {r : Nat → Nat} {cs : Array Value} (hc : cs = fnC N (fun c => .int .u8 ((r c : Nat) : Int))) (hm : (b, cs) ∈ D) (hn : ∀ i, i < m → b ≠ β i) : RowsB D N (m + 1) (up β m b) (upE M m r) := by
  subst hc
  refine ⟨fun i hi => ?_, fun i j hi hj e => ?_⟩
  · unfold up upE
    by_cases e : i = m
    · rw [if_pos e, if_pos e]; exact hm
    · rw [if_neg e, if_neg e]; exact h.mem i (by omega)
  · unfold up at e
    by_cases e1 : i = m <;> by_cases e2 : j = m
    · omega
    · rw [if_pos e1, if_neg e2] at e; exact absurd e (hn j (by omega))
    · rw [if_neg e1, if_pos e2] at e; exact absurd e.symm (hn i (by omega))
    · rw [if_neg e1, if_neg e2] at e; exact h.inj i j (by omega) (by omega) e
/-- Two lists of rows, one behind the other. -/
theorem append (h : RowsB D N m β M) {m2 : Nat} {β2 : Nat → Nat} {M2 : Nat → Nat → Nat} (h2 : RowsB D N m2 β2 M2) (hn : ∀ i j, i < m → j < m2 → β i ≠ β2 j) :
    RowsB D N (m + m2) (fun i => if i < m then β i else β2 (i - m)) (fun i => if i < m then M i else M2 (i - m)) := by
  refine ⟨fun i hi => ?_, fun i j hi hj e => ?_⟩
  · by_cases e : i < m
    · rw [if_pos e, if_pos e]; exact h.mem i e
    · rw [if_neg e, if_neg e]; exact h2.mem _ (by omega)
  · by_cases e1 : i < m <;> by_cases e2 : j < m
    · rw [if_pos e1, if_pos e2] at e; exact h.inj i j e1 e2 e
    · rw [if_pos e1, if_neg e2] at e; exact absurd e (hn i _ e1 (by omega))
    · rw [if_neg e1, if_pos e2] at e; exact absurd e.symm (hn j _ e2 (by omega))
    · rw [if_neg e1, if_neg e2] at e; have := h2.inj _ _ (by omega) (by omega) e; omega
end RowsB
/-- A new list of rows of bytes, that is its caller's. -/
def BytesOut (w w' : World) (N m : Nat) (M : Nat → Nat → Nat) (u : Value) : Prop := ∃ (D : Froz) (β : Nat → Nat) (b : Nat) (cs : Array Value),
  (∀ x ds, (x, ds) ∈ D → w.heap.size ≤ x ∧ Blk w' x ds) ∧ RowsB D N m β M ∧ u = .slice (some ⟨b, 0, none⟩) m m ∧ cs.size = m ∧ (∀ i, i < m → cs[0 + i * 1]? = some (.slice (some ⟨β i, 0, none⟩) N N)) ∧ (b, cs) ∈ D ∧ ∀ i, i < m → β i ≠ b
theorem BytesOut.of {w w' : World} {L : Own} {D : Froz} {N m k : Nat} {β : Nat → Nat} {M : Nat → Nat → Nat} {b : Nat} {cs : Array Value} (hM : Mem w w' L D) (hk : L[k]? = some (some (b, cs))) (hB : RowsB D N m β M) (hge : ∀ i, i < m → w.heap.size ≤ β i) (hs : cs.size = m) (hg : ∀ i, i < m → cs[0 + i * 1]? = some (.slice (some ⟨β i, 0, none⟩) N N)) :
    BytesOut w w' N m M (.slice (some ⟨b, 0, none⟩) m m) := by
  refine ⟨(b, cs) :: (List.range m).map (fun i => (β i, fnC N (fun c => .int .u8 ((M i c : Nat) : Int)))), β, b, cs, fun x ds hx => ?_, ⟨fun i hi => ?_, hB.inj⟩, rfl, hs, hg, List.mem_cons_self .., fun i hi e => (hM.froz _ _ (hB.mem i hi)).2 k b cs hk e.symm⟩
  · rcases List.mem_cons.1 hx with e | hx
    · simp only [Prod.mk.injEq] at e; obtain ⟨rfl, rfl⟩ := e; exact ⟨hM.ge k hk, hM.row k hk⟩
    · obtain ⟨i, hi, e⟩ := List.mem_map.1 hx
      simp only [Prod.mk.injEq] at e; obtain ⟨rfl, rfl⟩ := e
      have hi : i < m := by simpa using hi
      exact ⟨hge i hi, hM.fzm (hB.mem i hi)⟩
  · exact List.mem_cons_of_mem _ (List.mem_map.2 ⟨i, by simpa using hi, rfl⟩)
end Go.Sw
