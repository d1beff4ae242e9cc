/- Plain lemmas of a small calculus for walks over frames and own memory; no statement of the seat is proved here. -/
import Derived.Test.YtfbhngnfhpjonaaSw30
import Derived.Test.YtfbhngnfhpjonaaEch6
set_option linter.unusedVariables false
set_option linter.unusedSimpArgs false
namespace Go.Sw
open Go Go.RowKit
variable {P : Program}
/-- 'append' onto a full slice that is only read: in a new block. -/
theorem run_appendFz {X : List Nat} {w0 w : World} {L : Own} {D : Froz} {T e : TypeId} {z : Value} {size bytes n k m b bx ox cx : Nat} {cs : Array Value} {f g : Nat → Value} (hT : slI P T = some (e, some z, size, bytes)) (hz : z.cells.size = size) (hs0 : 0 < size)
    (hM : MemX X w0 w L D) (hblk : Blk w b cs) (hget : ∀ i, i < n * size → cs[i]? = some (f i)) (hg : ∀ i, i < m * size → w.cell? ⟨bx, ox + i, none⟩ = some (g i))
    (hm : 0 < m) (h63 : n + m ≤ maxLen) (hb : (n + m) * bytes ≤ 140737488355328) (ty : TypeId) :
    ∃ u w' b' cap' cs', (Builtin.append_ #[T, T] ty #[.slice (some ⟨b, 0, none⟩) n n, .slice (some ⟨bx, ox, none⟩) m cx]).run P w = .ok u w' ∧ MemX X w0 w' (L.set k (some (b', cs'))) D ∧ SlAt size u (some (b', cs')) (n + m) b' cap' cs' (fun i => if i < n * size then f i else g (i - n * size)) ∧ Ext w w' := by
  unfold slI at hT
  cases hu : P.underlying T with
  | none => simp [hu] at hT
  | some dd =>
    cases dd <;> simp [hu] at hT
    rename_i el
    obtain ⟨inf, hinf, rfl, hz0, hsz, hby⟩ := hT
    subst hsz; subst hby
    have hm0 : n + m ≤ 9223372036854775807 := by simp only [maxLen] at h63; omega
    have hnl : (((List.range (m * inf.size)).map g)).length = m * inf.size := by simp
    have hnews : ∀ j u, ((List.range (m * inf.size)).map g)[j]? = some u → w.cell? ((⟨bx, ox, none⟩ : Addr).add j) = some u := by
      intro j u hj
      have hlt : j < m * inf.size := by have := (List.getElem?_eq_some_iff.1 hj).1; simpa using this
      rw [Addr.add_lit, hg j hlt]
      simp [hlt] at hj; rw [hj]
    have holds : ∀ j u, ((List.range (n * inf.size)).map f)[j]? = some u → w.cell? ((⟨b, 0, none⟩ : Addr).add j) = some u := by
      intro j u hj
      have hlt : j < n * inf.size := by have := (List.getElem?_eq_some_iff.1 hj).1; simpa using this
      rw [Addr.add_lit, Nat.zero_add, hblk.cell, hget j hlt]
      simp [hlt] at hj; rw [hj]
    have hr := run_append_grow (P := P) w T ty el inf z hu hinf hz0 ⟨b, 0, none⟩ n n ((List.range (n * inf.size)).map f) (by simp) holds ⟨bx, ox, none⟩ m cx _ hnl hnews (by omega) (by omega) (growslice_fits (by omega) hb)
    refine ⟨_, _, _, _, _, hr, hM.fill (heap_drew_alloc _ _) k (Blk.new w.drew _ _) (Nat.le_refl _), ⟨rfl, rfl, grownCap_ge w _ _ _, grownCap_le_maxLen w _ _ _ h63, ?_, ?_⟩, heap_drew_alloc _ _⟩
    · have := grownCap_ge w (n + m) n el
      simp only [Array.size_append, List.size_toArray, hnl, size_zeroCells, hz, List.length_map, List.length_range, ← Nat.add_mul]
      congr 1; omega
    · intro i hi
      have e1 : (n + m) * inf.size = n * inf.size + m * inf.size := Nat.add_mul ..
      rw [Array.getElem?_append, if_pos (by simp only [Array.size_append, List.size_toArray, List.length_map, List.length_range]; omega), Array.getElem?_append]
      by_cases hlt : i < n * inf.size
      · rw [if_pos (by simpa using hlt), if_pos hlt]; simp [hlt]
      · rw [if_neg (by simpa using hlt), if_neg hlt]
        simp only [List.size_toArray, List.length_map, List.length_range]
        rw [List.getElem?_toArray, List.getElem?_map, List.getElem?_range (by omega)]; rfl
section
variable {n : Nat} {F : List (Nat × Value)} {a : Act} {X : List Nat} {w w0 : World} {L : Own} {D : Froz}
variable {d : Option Tmp} {t : TypeId} {pos : String} {af : Array Edge} {gd : Option (Nat × Bool)} {T : TypeId} {x y : Operand}
theorem d_appendFz {e : TypeId} {z : Value} {size bytes N k m b bx ox cx : Nat} {cs : Array Value} {f g : Nat → Value} (hT : slI P T = some (e, some z, size, bytes)) (hz : z.cells.size = size) (hs0 : 0 < size)
    (hM : MemX X w0 w L D) (hF : Fr n a F) (hx : look F x = some (.slice (some ⟨b, 0, none⟩) N N)) (hy : look F y = some (.slice (some ⟨bx, ox, none⟩) m cx)) (hblk : Blk w b cs) (hget : ∀ i, i < N * size → cs[i]? = some (f i)) (hg : ∀ i, i < m * size → w.cell? ⟨bx, ox + i, none⟩ = some (g i))
    (hm : 0 < m) (h63 : N + m ≤ maxLen) (hb : (N + m) * bytes ≤ 140737488355328) :
    Does P ⟨d, .call { callee := .builtin .append, args := #[x, y], argTypes := #[T, T] }, t, pos, af, gd⟩ a w (fun u w' => ∃ b' cap' cs', SlAt size u (some (b', cs')) (N + m) b' cap' cs' (fun i => if i < N * size then f i else g (i - N * size)) ∧ MemX X w0 w' (L.set k (some (b', cs'))) D) :=
  ⟨fun K Q hK => by
    obtain ⟨u, w', b', cap', cs', hr, h2, h3, _⟩ := run_appendFz (P := P) (T := T) hT hz hs0 hM hblk hget hg hm h63 hb t
    unfold Oper.wp execOp
    simp only [resolve, invoke, builtin, Sem.run_bind, Sem.run_pure, Result.andThen_ok, List.map_toArray, List.map_cons, List.map_nil, hF.eval hx, hF.eval hy]
    rw [hr]
    exact hK u w' ⟨b', cap', cs', h3, h2⟩⟩
/-- A slice from a place on. -/
theorem g_sliceLo {e : TypeId} {b o len cap i s : Nat} {κ : IntKind} {X : Int} (hT : P.underlying T = some (.slice e)) (he : sizeP P e = some s) (hF : Fr n a F) (hx : look F x = some (.slice (some ⟨b, o, none⟩) len cap)) (hy : look F y = some (.int κ X)) (hX : X = (i : Int)) (hi : i ≤ len) (hl : len ≤ cap) (hc : i < cap) :
    Gives P ⟨d, .slice T x (some y) none none, t, pos, af, gd⟩ a w (.slice (some ⟨b, o + i * s, none⟩) (len - i) (cap - i)) := by
  subst hX
  refine gives_of_run ?_
  have h1 : (0 : Int) ≤ (i : Int) ∧ (i : Int) ≤ (len : Int) := by omega
  have h2 := run_sizeOf he w
  have h4 : ¬ cap = i := by omega
  have h5 : ¬ cap - i = 0 := by omega
  simp [execOp, Instr.sliceAt, Instr.slice, run_underlying hT, hF.eval hx, hF.eval hy, Instr.sliceBounds, Instr.sliceBound, asIntOf, h1, h2, h4, h5, Addr.add_lit, hi]
end
/-- m rows of N numbers with spare cells, in blocks of D. -/
structure RowsPD (D : Froz) (N m : Nat) (κ : Nat → Nat) (Xs : Nat → Nat → Value) (γ : Nat → Nat) (M : Nat → Nat → Nat) : Prop where
  mem : ∀ i, i < m → (γ i, rowP N (κ (γ i)) (M i) (Xs (γ i))) ∈ D
  inj : ∀ i j, i < m → j < m → γ i = γ j → i = j
namespace RowsPD
variable {D D' : Froz} {N m : Nat} {κ : Nat → Nat} {Xs : Nat → Nat → Value} {γ : Nat → Nat} {M : Nat → Nat → Nat}
theorem none : RowsPD D N 0 κ Xs γ M := ⟨fun i hi => absurd hi (by omega), fun i j hi => absurd hi (by omega)⟩
theorem more (h : RowsPD D N m κ Xs γ M) (hs : ∀ x ∈ D, x ∈ D') : RowsPD D' N m κ Xs γ M := ⟨fun i hi => hs _ (h.mem i hi), h.inj⟩
theorem congr {M' : Nat → Nat → Nat} (h : RowsPD D N m κ Xs γ M) (e : ∀ i, i < m → ∀ c, c < N → M i c = M' i c) : RowsPD D N m κ Xs γ M' :=
  ⟨fun i hi => by rw [← rowP_congr (e i hi)]; exact h.mem i hi, h.inj⟩
theorem snoc (h : RowsPD D N m κ Xs γ M) {b cap : Nat} {r : Nat → Nat} {x : Nat → Value} {cs : Array Value} (hc : cs = rowP N cap r x) (hm : (b, cs) ∈ D) (hn : ∀ i, i < m → b ≠ γ i) : RowsPD D N (m + 1) (fun y => if y = b then cap else κ y) (fun y => if y = b then x else Xs y) (up γ m b) (Go.Ech.upE M m r) := by
  refine ⟨fun i hi => ?_, fun i j hi hj e => ?_⟩
  · by_cases e : i = m
    · subst e; simp only [up_eq, Go.Ech.upE, if_true]; rw [← hc]; exact hm
    · have hne : ¬ γ i = b := fun h2 => hn i (by omega) h2.symm
      simp only [up_ne e, Go.Ech.upE, if_neg e, if_neg hne]; exact h.mem i (by omega)
  · unfold up at e
    by_cases e1 : i = m <;> by_cases e2 : j = m
    · omega
    · rw [if_pos e1, if_neg e2] at e; exact absurd e (hn j (by omega))
    · rw [if_neg e1, if_pos e2] at e; exact absurd e.symm (hn i (by omega))
    · rw [if_neg e1, if_neg e2] at e; exact h.inj i j (by omega) (by omega) e
end RowsPD
theorem MemX.addD' {X : List Nat} {w0 w : World} {L : Own} {D D' : Froz} (h : MemX X w0 w L D) (hD : ∀ b cs, (b, cs) ∈ D' → Blk w b cs ∧ ∀ (k : Nat) c ds, L[k]? = some (some (c, ds)) → c ≠ b) : MemX X w0 w L (D' ++ D) :=
  ⟨h.bel, h.blk, h.apart, fun b cs hm => by
    rcases List.mem_append.1 hm with hm | hm
    · exact hD b cs hm
    · exact h.froz b cs hm⟩
/-- New rows of bytes taken in: the list of them at a place, to be written. -/
theorem MemX.addBoL {X : List Nat} {w0 w w' : World} {L : Own} {D : Froz} {N m : Nat} {M : Nat → Nat → Nat} {u : Value} (k : Nat) (h : MemX X w0 w L D) (hx : Ext w w') (hf : BytesOut w w' N m M u) :
    ∃ (D' : Froz) (β : Nat → Nat) (b : Nat) (cs : Array Value), RowsB D' N m β M ∧ u = .slice (some ⟨b, 0, none⟩) m m ∧ cs.size = m ∧ (∀ i, i < m → cs[0 + i * 1]? = some (.slice (some ⟨β i, 0, none⟩) N N)) ∧ MemX X w0 w' (L.set k (some (b, cs))) (D' ++ D) := by
  obtain ⟨D1, β, b, cs, h1, h2, h3, h4, h5, h6, h7⟩ := hf
  refine ⟨(List.range m).map (fun i => (β i, fnC N (fun c => .int .u8 ((M i c : Nat) : Int)))), β, b, cs, ⟨fun i hi => List.mem_map.2 ⟨i, by simpa using hi, rfl⟩, h2.inj⟩, h3, h4, h5, ?_⟩
  have hb := h1 _ _ h6
  refine (h.fill hx k hb.2 hb.1).addD' fun c ds hm => ?_
  obtain ⟨i, hi, e⟩ := List.mem_map.1 hm
  simp only [Prod.mk.injEq] at e; obtain ⟨rfl, rfl⟩ := e
  have hi : i < m := by simpa using hi
  have hr := h1 _ _ (h2.mem i hi)
  refine ⟨hr.2, fun j c ds hj => ?_⟩
  rw [List.getElem?_set] at hj
  split at hj
  · split at hj
    · simp only [Option.some.injEq, Prod.mk.injEq] at hj; obtain ⟨rfl, rfl⟩ := hj; exact fun e => h7 i hi e.symm
    · cases hj
  · have := (h.blk j c ds hj).2.lt
    have := hr.1
    omega
/-- A call wrote the list at a place and its rows: from now on they are only read. -/
theorem MemX.reduced {X : List Nat} {w0 w w' : World} {L : Own} {D : Froz} {N m k b0 : Nat} {κ : Nat → Nat} {Xs : Nat → Nat → Value} {γ γ' : Nat → Nat} {M : Nat → Nat → Nat} {cs cs' : Array Value} {R : Nat → Array Value} (h : MemX X w0 w L D) (hk : L[k]? = some (some (b0, cs))) (hP : RowsPD D N m κ Xs γ M) (hb : w0.heap.size ≤ b0) (hge : ∀ i, i < m → w0.heap.size ≤ γ i)
    (hx : ExtX (rowsX b0 m γ) w w') (hfr : ∀ i, i < m → w.heap.size ≤ γ' i ∨ γ' i ∈ rowsX b0 m γ) (hb0 : Blk w' b0 cs') (hbr : ∀ i, i < m → Blk w' (γ' i) (R i)) : MemX X w0 w' (L.set k none) ((b0, cs') :: (List.range m).map (fun i => (γ' i, R i))) := by
  have key : ∀ (j : Nat) c ds, (L.set k none)[j]? = some (some (c, ds)) → j ≠ k ∧ L[j]? = some (some (c, ds)) := by
    intro j c ds hj
    rw [List.getElem?_set] at hj
    split at hj
    · split at hj
      · simp at hj
      · cases hj
    · rename_i e; exact ⟨fun e2 => e e2.symm, hj⟩
  have hnb : ∀ (j : Nat) c ds, (L.set k none)[j]? = some (some (c, ds)) → c ≠ b0 := fun j c ds hj e => by
    subst e; exact (key j _ ds hj).1 (h.apart j k _ _ _ (key j _ ds hj).2 hk)
  have hnY : ∀ (j : Nat) c ds, (L.set k none)[j]? = some (some (c, ds)) → c ∉ rowsX b0 m γ := fun j c ds hj hm => by
    rcases List.mem_cons.1 hm with e | hm
    · exact hnb j c ds hj e
    · obtain ⟨i, hi, e⟩ := List.mem_map.1 hm
      exact (h.froz _ _ (hP.mem i (by simpa using hi))).2 j c ds (key j c ds hj).2 e.symm
  have h2 : MemX X w0 w' (L.set k none) [] := ((h.drop k).sub [] (fun _ hx => by cases hx)).extY hx fun y hy => ⟨by
    rcases List.mem_cons.1 hy with e | hm
    · rw [e]; exact hb
    · obtain ⟨i, hi, rfl⟩ := List.mem_map.1 hm
      exact hge i (by simpa using hi), fun j c ds hj e => hnY j c ds hj (e ▸ hy), fun _ _ hm => by cases hm⟩
  have h3 := h2.addD' (D' := (b0, cs') :: (List.range m).map (fun i => (γ' i, R i))) fun c ds hm => by
    rcases List.mem_cons.1 hm with e | hm
    · simp only [Prod.mk.injEq] at e; obtain ⟨rfl, rfl⟩ := e; exact ⟨hb0, hnb⟩
    · obtain ⟨i, hi, e⟩ := List.mem_map.1 hm
      simp only [Prod.mk.injEq] at e; obtain ⟨rfl, rfl⟩ := e
      have hi : i < m := by simpa using hi
      refine ⟨hbr i hi, fun j c ds hj e => ?_⟩
      rcases hfr i hi with h4 | h4
      · have := (h.blk j c ds (key j c ds hj).2).2.lt; omega
      · exact hnY j c ds hj (e ▸ h4)
  rwa [List.append_nil] at h3
theorem mem_rowsD {m i : Nat} {x : Nat × Array Value} {γ : Nat → Nat} {R : Nat → Array Value} (hi : i < m) : (γ i, R i) ∈ x :: (List.range m).map (fun i => (γ i, R i)) :=
  List.mem_cons_of_mem _ (List.mem_map.2 ⟨i, by simpa using hi, rfl⟩)
theorem rowP_vec {K : Nat} {f : Nat → Nat} {x : Nat → Value} (hK : 12 ≤ K) : (rowP 12 K f x).extract (0 + 6 * 1) (0 + 6 * 1 + 6) = vecC (fun q => f (6 + q)) :=
  extract_ext rfl (by rw [rowP_size]; omega) fun q hq => rowP_get _ (by omega) (by omega) hK
/-- The rows of the table and the identity behind them, as they are appended. -/
theorem aug_row {F : Nat → Nat → Nat} {i c : Nat} (hc : c < 12) : (if c < 6 * 1 then Value.int .u8 ((F i c : Nat) : Int) else .int .u8 (((if c - 6 * 1 = i then 1 else 0 : Nat)) : Int)) = .int .u8 ((Go.Ech.augI F i c : Nat) : Int) := by
  unfold Go.Ech.augI
  by_cases e : c < 6
  · rw [if_pos (by omega), if_pos e]
  · rw [if_neg (by omega), if_neg e]
    by_cases e2 : c = 6 + i
    · rw [if_pos (by omega), if_pos e2]
    · rw [if_neg (by omega), if_neg e2]
end Go.Sw
