/- Plain lemmas of a small calculus for walks over frames and own memory; no statement of the seat is proved here. -/
import Derived.Test.YtfencffdhenjdaaDoorSw16
import Derived.Test.YtfencffdhenjdaaDoorEch4
set_option linter.unusedVariables false
set_option linter.unusedSimpArgs false
namespace Go.Sw
open Go Go.RowKit
variable {P : Program}
def dstAll : List Oper → Nat → Nat → Bool
  | [], _, _ => true
  | o :: r, s, i => (Nat.beq i s || o.dst.isSome) && dstAll r s (i + 1)
theorem dstAll_spec : ∀ {l : List Oper} {s i : Nat}, dstAll l s i = true → ∀ (j : Nat) (o : Oper), l[j]? = some o → i + j ≠ s → o.dst ≠ none
  | [], _, _, _, j, o, h, _ => by simp at h
  | x :: r, s, i, hb, j, o, h, hne => by
    simp only [dstAll, Bool.and_eq_true, Bool.or_eq_true] at hb
    cases j with
    | zero =>
      simp at h; subst h
      rcases hb.1 with e | e
      · exact absurd (Nat.eq_of_beq_eq_true e) hne
      · intro hn; rw [hn] at e; cases e
    | succ j => exact dstAll_spec hb.2 j o (by simpa using h) (by omega)
section
variable {n : Nat} {F : List (Nat × Value)} {a : Act} {w : World} {d : Option Tmp} {t : TypeId} {pos : String} {af : Array Edge} {gd : Option (Nat × Bool)} {T T' : TypeId} {x y : Operand} {k : IntKind} {A B C : Int}
theorem g_neg (hF : Fr n a F) (hx : look F x = some (.int k A)) (hC : k.wrap (-A) = C) : Gives P ⟨d, .unOp .neg T x, t, pos, af, gd⟩ a w (.int k C) :=
  gives_of_run (by
    have h0 : (0 : Int) - A = -A := by omega
    simp [execOp, Op.unary, Op.intArith, hF.eval hx, h0, hC])
theorem g_sliceHi {e : TypeId} {b o len cap i s : Nat} {κ : IntKind} {X : Int} (hT : P.underlying T = some (.slice e)) (he : sizeP P e = some s) (hF : Fr n a F) (hx : look F x = some (.slice (some ⟨b, o, none⟩) len cap)) (hy : look F y = some (.int κ X)) (hX : X = (i : Int)) (hi : i ≤ cap) :
    Gives P ⟨d, .slice T x none (some y) none, t, pos, af, gd⟩ a w (.slice (some ⟨b, o, none⟩) i cap) := by
  subst hX
  refine gives_of_run ?_
  have h1 : (0 : Int) ≤ (i : Int) ∧ (i : Int) ≤ (cap : Int) := by omega
  have h2 := run_sizeOf he w
  by_cases h3 : cap = 0
  · subst h3
    simp [execOp, Instr.sliceAt, Instr.slice, run_underlying hT, hF.eval hx, hF.eval hy, Instr.sliceBounds, Instr.sliceBound, asIntOf, h1, h2]
    intro h; omega
  · simp [execOp, Instr.sliceAt, Instr.slice, run_underlying hT, hF.eval hx, hF.eval hy, Instr.sliceBounds, Instr.sliceBound, asIntOf, h1, h2, h3, Addr.add_lit]
    intro h; omega
end
/-- m rows of N numbers, each at a place of its own; the list of them is at place 0. -/
structure RowsL (L : Own) (N m : Nat) (γ pos : Nat → Nat) (M : Nat → Nat → Nat) : Prop where
  at_ : ∀ i, i < m → L[pos i]? = some (some (γ i, fnC N (fun c => .int .u8 ((M i c : Nat) : Int))))
  inj : ∀ i j, i < m → j < m → pos i = pos j → i = j
  ne0 : ∀ i, i < m → pos i ≠ 0
namespace RowsL
variable {L : Own} {N m : Nat} {γ pos : Nat → Nat} {M : Nat → Nat → Nat}
theorem set0 (h : RowsL L N m γ pos M) (x : Option (Nat × Array Value)) : RowsL (L.set 0 x) N m γ pos M :=
  ⟨fun i hi => by rw [List.getElem?_set, if_neg (fun e => h.ne0 i hi e.symm)]; exact h.at_ i hi, h.inj, h.ne0⟩
theorem setRow (h : RowsL L N m γ pos M) {i : Nat} (hi : i < m) (r : Nat → Nat) {cs : Array Value} (hc : cs = fnC N (fun c => .int .u8 ((r c : Nat) : Int))) : RowsL (L.set (pos i) (some (γ i, cs))) N m γ pos (Go.Ech.upE M i r) :=
  ⟨fun j hj => by
    rw [List.getElem?_set]
    by_cases e : j = i
    · subst e
      have hl := (List.getElem?_eq_some_iff.1 (h.at_ j hj)).1
      rw [if_pos rfl, if_pos hl, hc]; simp only [Go.Ech.upE, if_true]
    · rw [if_neg (fun e2 => e (h.inj _ _ hj hi e2.symm))]; simp only [Go.Ech.upE, if_neg e]; exact h.at_ j hj, h.inj, h.ne0⟩
theorem swap (h : RowsL L N m γ pos M) {a b : Nat} (ha : a < m) (hb : b < m) : RowsL L N m (Go.Ech.sw a b γ) (Go.Ech.sw a b pos) (Go.Ech.sw a b M) := by
  refine ⟨fun i hi => ?_, fun i j hi hj e => ?_, fun i hi => ?_⟩
  · unfold Go.Ech.sw; split
    · exact h.at_ b hb
    · split
      · exact h.at_ a ha
      · exact h.at_ i hi
  · unfold Go.Ech.sw at e
    by_cases e1 : i = a <;> by_cases e2 : i = b <;> by_cases e3 : j = a <;> by_cases e4 : j = b <;> simp only [e1, e2, e3, e4, if_true, if_false] at e <;> first | omega | (have := h.inj _ _ hb ha e; omega) | (have := h.inj _ _ ha hb e; omega) | (split at e <;> first | (have := h.inj _ _ hb (by omega) e; omega) | (have := h.inj _ _ ha (by omega) e; omega) | (have := h.inj _ _ (by omega) (by omega) e; omega)) | (have := h.inj _ _ (by omega) (by omega) e; omega)
  · unfold Go.Ech.sw; split
    · exact h.ne0 b hb
    · split
      · exact h.ne0 a ha
      · exact h.ne0 i hi
end RowsL
theorem RowsL.congr {L : Own} {N m : Nat} {γ pos : Nat → Nat} {M M' : Nat → Nat → Nat} (h : RowsL L N m γ pos M) (e : ∀ i, i < m → M i = M' i) : RowsL L N m γ pos M' :=
  ⟨fun i hi => by rw [← e i hi]; exact h.at_ i hi, h.inj, h.ne0⟩
theorem RowsL.apart {X : List Nat} {w0 w : World} {L : Own} {D : Froz} {N m : Nat} {γ pos : Nat → Nat} {M : Nat → Nat → Nat} (h : RowsL L N m γ pos M) (hM : MemX X w0 w L D) {i j : Nat} (hi : i < m) (hj : j < m) (hne : i ≠ j) : γ i ≠ γ j := fun e => by
  have h1 := h.at_ i hi
  have h2 := h.at_ j hj
  rw [e] at h1
  exact hne (h.inj i j hi hj (hM.apart _ _ _ _ _ h1 h2))
theorem getElem_rows {b0 m : Nat} {cs0 : Array Value} {g : Nat → Option (Nat × Array Value)} {k : Nat} {x : Option (Nat × Array Value)} (h : (some (b0, cs0) :: (List.range m).map g : Own)[k]? = some x) : (k = 0 ∧ x = some (b0, cs0)) ∨ ∃ i, i < m ∧ k = i + 1 ∧ x = g i := by
  cases k with
  | zero => simp at h; exact .inl ⟨rfl, h.symm⟩
  | succ k =>
    right
    rw [List.getElem?_cons_succ, List.getElem?_map] at h
    by_cases hk : k < m
    · rw [List.getElem?_range hk] at h; simp at h; exact ⟨k, hk, rfl, h.symm⟩
    · rw [List.getElem?_eq_none (by simp; omega)] at h; cases h
def rowsX (b0 m : Nat) (γ : Nat → Nat) : List Nat := b0 :: (List.range m).map γ
def rowsL0 (b0 : Nat) (cs0 : Array Value) (N m : Nat) (γ : Nat → Nat) (M : Nat → Nat → Nat) : Own := some (b0, cs0) :: (List.range m).map (fun i => some (γ i, fnC N (fun c => .int .u8 ((M i c : Nat) : Int))))
theorem MemX.startRows {w : World} {b0 : Nat} {cs0 : Array Value} {N m : Nat} {γ : Nat → Nat} {M : Nat → Nat → Nat} (h0 : Blk w b0 cs0) (hr : ∀ i, i < m → Blk w (γ i) (fnC N (fun c => .int .u8 ((M i c : Nat) : Int)))) (hi : ∀ i j, i < m → j < m → γ i = γ j → i = j) (hne : ∀ i, i < m → γ i ≠ b0) :
    MemX (rowsX b0 m γ) w w (rowsL0 b0 cs0 N m γ M) [] ∧ RowsL (rowsL0 b0 cs0 N m γ M) N m γ (fun i => i + 1) M ∧ (rowsL0 b0 cs0 N m γ M)[0]? = some (some (b0, cs0)) := by
  refine ⟨⟨ExtX.refl _ w, fun k b cs hk => ?_, fun k j b cs ds hk hj => ?_, fun b cs hm => by cases hm⟩, ⟨fun i hi => ?_, fun i j _ _ e => by omega, fun i _ => by omega⟩, rfl⟩
  · rcases getElem_rows hk with ⟨_, e⟩ | ⟨i, hi, _, e⟩
    · simp at e; obtain ⟨rfl, rfl⟩ := e; exact ⟨.inr (List.mem_cons_self ..), h0⟩
    · simp at e; obtain ⟨rfl, rfl⟩ := e; exact ⟨.inr (List.mem_cons_of_mem _ (List.mem_map.2 ⟨i, by simpa using hi, rfl⟩)), hr i hi⟩
  · rcases getElem_rows hk with ⟨e1, e⟩ | ⟨i, hi', e1, e⟩ <;> rcases getElem_rows hj with ⟨e2, f⟩ | ⟨i2, hi2, e2, f⟩ <;> simp at e f
    · omega
    · exact absurd (f.1.symm.trans e.1) (hne i2 hi2)
    · exact absurd (e.1.symm.trans f.1) (hne i hi')
    · have := hi i i2 hi' hi2 (e.1.symm.trans f.1); omega
  · show (some (b0, cs0) :: (List.range m).map _ : Own)[i + 1]? = _
    rw [List.getElem?_cons_succ, List.getElem?_map, List.getElem?_range hi]; rfl
/-- Blocks that were only read were written by a call: others are read from now on. -/
theorem MemX.swapD {X Y : List Nat} {w0 w w' : World} {L : Own} {D D' : Froz} (h : MemX X w0 w L D) (hx : ExtX Y w w') (hY : ∀ y ∈ Y, ∃ cs, (y, cs) ∈ D) (hXY : ∀ y ∈ Y, w0.heap.size ≤ y ∨ y ∈ X) (hD' : ∀ b cs, (b, cs) ∈ D' → Blk w' b cs ∧ (w.heap.size ≤ b ∨ b ∈ Y)) : MemX X w0 w' L D' := by
  have other : ∀ {c ds}, Blk w c ds → c ∉ Y → Blk w' c ds := fun {c ds} hc hne => by
    obtain ⟨t, hc'⟩ := hc
    exact ⟨t, (hx.block c (Blk.lt ⟨t, hc'⟩) hne).trans hc'⟩
  have ap : ∀ (k : Nat) c ds, L[k]? = some (some (c, ds)) → c ∉ Y := fun k c ds hk hc => by
    obtain ⟨cs, hm⟩ := hY c hc
    exact (h.froz c cs hm).2 k c ds hk rfl
  refine ⟨⟨hx.os.trans h.bel.os, hx.tape.trans h.bel.tape, hx.output.trans h.bel.output, Nat.le_trans h.bel.size hx.size, fun i hi hix => ?_⟩, fun k c ds hk => ⟨(h.blk k c ds hk).1, other (h.blk k c ds hk).2 (ap k c ds hk)⟩, h.apart, fun c ds hm => ⟨(hD' c ds hm).1, fun k e es hk ee => ?_⟩⟩
  · have hne : i ∉ Y := fun hc => by
      rcases hXY i hc with e | e
      · omega
      · exact hix e
    exact (hx.block i (Nat.lt_of_lt_of_le hi h.bel.size) hne).trans (h.bel.block i hi hix)
  · subst ee
    rcases (hD' _ _ hm).2 with e2 | e2
    · have := (h.blk k _ es hk).2.lt; omega
    · exact ap k _ es hk e2
/-- A call wrote the row i. -/
theorem MemX.updRow {X : List Nat} {w0 w w' : World} {L : Own} {D : Froz} {N m : Nat} {γ pos : Nat → Nat} {M : Nat → Nat → Nat} (h : MemX X w0 w L D) (hR : RowsL L N m γ pos M) {i : Nat} (hi : i < m) (hx : ExtX [γ i] w w') (r : Nat → Nat) (hb : Blk w' (γ i) (fnC N (fun c => .int .u8 ((r c : Nat) : Int)))) :
    ∃ L', MemX X w0 w' L' D ∧ RowsL L' N m γ pos (Go.Ech.upE M i r) ∧ L'[0]? = L[0]? :=
  ⟨_, h.upd (pos i) (hR.at_ i hi) hx hb, hR.setRow hi r rfl, by rw [List.getElem?_set, if_neg (hR.ne0 i hi)]⟩
end Go.Sw

namespace Go.Sw
open Go Go.RowKit Go.Ech
variable {P : Program}
/-- A list of rows as blocks that are only read. -/
def rowsD0 (b0 : Nat) (cs0 : Array Value) (N m : Nat) (γ : Nat → Nat) (M : Nat → Nat → Nat) : Froz := (b0, cs0) :: (List.range m).map (fun i => (γ i, fnC N (fun c => .int .u8 ((M i c : Nat) : Int))))
section
variable {b0 : Nat} {cs0 : Array Value} {N m : Nat} {γ : Nat → Nat} {M : Nat → Nat → Nat}
theorem rowsD0_0 : (b0, cs0) ∈ rowsD0 b0 cs0 N m γ M := List.mem_cons_self ..
theorem rowsD0_i {i : Nat} (hi : i < m) : (γ i, fnC N (fun c => .int .u8 ((M i c : Nat) : Int))) ∈ rowsD0 b0 cs0 N m γ M := List.mem_cons_of_mem _ (List.mem_map.2 ⟨i, by simpa using hi, rfl⟩)
theorem rowsD0_Y : ∀ y ∈ rowsX b0 m γ, ∃ cs, (y, cs) ∈ rowsD0 b0 cs0 N m γ M := fun y hy => by
  rcases List.mem_cons.1 hy with e | hy
  · exact ⟨cs0, by rw [e]; exact rowsD0_0⟩
  · obtain ⟨i, hi, rfl⟩ := List.mem_map.1 hy
    exact ⟨_, rowsD0_i (by simpa using hi)⟩
theorem rowsD0_all {Q : Nat → Array Value → Prop} (h0 : Q b0 cs0) (hr : ∀ i, i < m → Q (γ i) (fnC N (fun c => .int .u8 ((M i c : Nat) : Int)))) : ∀ b cs, (b, cs) ∈ rowsD0 b0 cs0 N m γ M → Q b cs := fun b cs hm => by
  rcases List.mem_cons.1 hm with e | hm
  · simp only [Prod.mk.injEq] at e; obtain ⟨rfl, rfl⟩ := e; exact h0
  · obtain ⟨i, hi, e⟩ := List.mem_map.1 hm
    simp only [Prod.mk.injEq] at e; obtain ⟨rfl, rfl⟩ := e; exact hr i (by simpa using hi)
end
theorem MemX.startXD (X : List Nat) (w : World) (n : Nat) (D : Froz) (h : ∀ b cs, (b, cs) ∈ D → Blk w b cs) : MemX X w w (List.replicate n none) D :=
  ⟨ExtX.refl _ w, fun k b cs h => by simp [List.getElem?_replicate] at h, fun k j b cs ds h => by simp [List.getElem?_replicate] at h, fun b cs hm => ⟨h b cs hm, fun k c ds hk => by simp [List.getElem?_replicate] at hk⟩⟩
/-- The numbers at the leading places of the first g rows. -/
def solK (E : Nat → Nat → Nat) (ld : Nat → Nat) (L g c : Nat) : Nat := match ldAt g ld c with
  | some i => E i L
  | none => 0
theorem ldAt_eq_some {g c i : Nat} {ld : Nat → Nat} (hi : i < g) (e : ld i = c) (hinj : ∀ j, j < g → ld j = c → j = i) : ldAt g ld c = some i := by
  cases h : ldAt g ld c with
  | none => exact absurd e (ldAt_none h i hi)
  | some j => obtain ⟨h1, h2⟩ := ldAt_some h; rw [hinj j h1 h2]
theorem ldAt_eq_none {g c : Nat} {ld : Nat → Nat} (h : ∀ j, j < g → ld j ≠ c) : ldAt g ld c = none := by
  cases h2 : ldAt g ld c with
  | none => rfl
  | some j => obtain ⟨h3, h4⟩ := ldAt_some h2; exact absurd h4 (h j h3)
theorem solK_zero {E : Nat → Nat → Nat} {ld : Nat → Nat} {L c : Nat} : solK E ld L 0 c = 0 := by
  unfold solK; rw [ldAt_eq_none (fun j hj => absurd hj (by omega))]
theorem solK_succ {p N k L g c : Nat} {E : Nat → Nat → Nat} {ld : Nat → Nat} (h : Rref p N E k ld) (hg : g < k) : solK E ld L (g + 1) c = if c = ld g then E g L else solK E ld L g c := by
  unfold solK
  by_cases e : c = ld g
  · rw [if_pos e, ldAt_eq_some (i := g) (by omega) e.symm (fun j hj ej => h.inj (by omega) hg (by rw [ej, e]))]
  · rw [if_neg e]
    cases e2 : ldAt g ld c with
    | some i =>
      obtain ⟨h1, h2⟩ := ldAt_some e2
      rw [ldAt_eq_some (i := i) (by omega) h2 (fun j hj ej => h.inj (by omega) (by omega) (by rw [ej, h2]))]
    | none =>
      have h3 := ldAt_none e2
      rw [ldAt_eq_none (fun j hj ej => by
        by_cases ej2 : j = g
        · subst ej2; exact e ej.symm
        · exact h3 j (by omega) ej)]
theorem solK_lt {p N k L g c : Nat} {E : Nat → Nat → Nat} {ld : Nat → Nat} (hp : 0 < p) (hE : ∀ i c, E i c < p) : solK E ld L g c < p := by
  unfold solK; split
  · exact hE _ _
  · exact hp
end Go.Sw
