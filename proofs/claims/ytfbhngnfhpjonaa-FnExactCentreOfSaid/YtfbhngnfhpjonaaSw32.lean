/- Plain lemmas of a small calculus for walks over frames and own memory; no statement of the seat is proved here. -/
import Derived.Test.YtfbhngnfhpjonaaSw31
set_option linter.unusedVariables false
set_option linter.unusedSimpArgs false
namespace Go.Ech
open Go.Sw
/-- The rows F with one column behind them. -/
def colM (n : Nat) (F : Nat → Nat → Nat) (j i c : Nat) : Nat := if c < n then F i c else if i = j then 1 else 0
theorem solve_cop {p n k j : Nat} {F G E : Nat → Nat → Nat} {ld : Nat → Nat} (hp : 2 ≤ p) (hn : n ≤ 6) (hj : j < n) (hF : ∀ i c, n ≤ c → F i c = 0) (hf : FullK p n F) (hG : IsCop p n F G) (h : Rref p (n + 1) E k ld) (hK : ∀ x, Ker p (n + 1) E k x ↔ Ker p (n + 1) (colM n F j) n x) :
    (k = n ∧ ∀ i, i < n → ld i = i) ∧ ∀ i, i < n → E i n = G i j := by
  have hd : ∀ (x : Nat → Nat) i, dot (n + 1) (ci (colM n F j i)) (aug n x) = sI (fun q => (F i q : Int) * (x q : Int)) n - (dl i j : Int) := fun x i => by
    unfold dot; simp only [sI]
    have e1 : sI (fun c => ci (colM n F j i) c * aug n x c) n = sI (fun q => (F i q : Int) * (x q : Int)) n := sI_congr fun c hc => by
      show (((if c < n then F i c else _ : Nat)) : Int) * _ = _
      rw [if_pos hc, aug_lt hc]
    have e2 : ci (colM n F j i) n * aug n x n = -(dl i j : Int) := by
      show (((if n < n then F i n else if i = j then 1 else 0 : Nat)) : Int) * _ = _
      rw [if_neg (by omega), aug_n]; unfold dl; omega
    rw [e1, e2]; omega
  have hx : Ker p (n + 1) E k (aug n fun c => G c j) := (hK _).2 fun i hi => by rw [hd]; exact hG.sol i hi j hj
  have hfull := full_of_unique hp h (fun c => G c j) (fun i _ => hG.lt i j) hx fun y hy hky => by
    refine cop_col hp hn hF hf (b := fun i => (dl i j : Int)) hy (fun c _ => hG.lt c j) (fun i hi => ?_) (fun i hi => hG.sol i hi j hj)
    have := (hK _).1 hky i hi
    rwa [hd] at this
  exact ⟨⟨hfull.k, hfull.ld⟩, fun i hi => ((full_sol h hfull (fun c => G c j) (fun i _ => hG.lt i j)).1 hx i hi).symm⟩
end Go.Ech
namespace Go.Sw
open Go Go.RowKit Go.Ech
/-- A new list of new rows, each apart. -/
def TabOut (w w' : World) (N k : Nat) (f : Nat → Nat → Value) (u : Value) : Prop := ∃ (D : Froz) (β κ : Nat → Nat) (C : Nat → Array Value) (b cap : Nat) (cs : Array Value),
  (∀ x ds, (x, ds) ∈ D → w.heap.size ≤ x ∧ Blk w' x ds) ∧ RowsD D N k β κ C f ∧ SlAt 1 u (some (b, cs)) k b cap cs (fun i => .slice (some ⟨β i, 0, none⟩) N (κ i)) ∧ (b, cs) ∈ D ∧ (∀ i j, i < k → j < k → β i = β j → i = j) ∧ ∀ i, i < k → β i ≠ b
theorem TabOut.rows {w w' : World} {N k : Nat} {f : Nat → Nat → Value} {u : Value} (h : TabOut w w' N k f u) : RowsOut w w' N k f u := by
  obtain ⟨D, β, κ, C, b, cap, cs, h1, h2, h3, h4, _⟩ := h
  exact ⟨D, β, κ, C, b, cap, cs, h1, h2, h3, h4⟩
theorem TabOut.of {w w' : World} {L : Own} {D : Froz} {N k q : Nat} {β κ : Nat → Nat} {C : Nat → Array Value} {f : Nat → Nat → Value} {u : Value} {b cap : Nat} {cs : Array Value} (hM : Mem w w' L D) (hR : RowsD D N k β κ C f)
    (hq : L[q]? = some (some (b, cs))) (hs : SlAt 1 u (some (b, cs)) k b cap cs (fun i => .slice (some ⟨β i, 0, none⟩) N (κ i))) (hge : ∀ i, i < k → w.heap.size ≤ β i) (hi : ∀ i j, i < k → j < k → β i = β j → i = j) : TabOut w w' N k f u := by
  refine ⟨(b, cs) :: (List.range k).map (fun i => (β i, C i)), β, κ, C, b, cap, cs, fun x ds hx => ?_, ⟨fun i hi => ?_, hR.sl⟩, hs, List.mem_cons_self .., hi, fun i hi e => (hM.froz _ _ (hR.mem i hi)).2 q b cs hq e.symm⟩
  · rcases List.mem_cons.1 hx with e | hx
    · simp only [Prod.mk.injEq] at e; obtain ⟨rfl, rfl⟩ := e; exact ⟨hM.ge q hq, hM.row q hq⟩
    · obtain ⟨i, hi, e⟩ := List.mem_map.1 hx
      simp only [Prod.mk.injEq] at e; obtain ⟨rfl, rfl⟩ := e
      have hi : i < k := by simpa using hi
      exact ⟨hge i hi, hM.fzm (hR.mem i hi)⟩
  · exact List.mem_cons_of_mem _ (List.mem_map.2 ⟨i, by simpa using hi, rfl⟩)
/-- Such a list taken in: the list at a place of its own, to be written; its rows are apart from all that was there. -/
theorem MemX.addTab {X : List Nat} {w0 w w' : World} {L : Own} {D : Froz} {N m : Nat} {f : Nat → Nat → Value} {u : Value} (k : Nat) (h : MemX X w0 w L D) (hx : Ext w w') (hf : TabOut w w' N m f u) :
    ∃ (D' : Froz) (β κ : Nat → Nat) (C : Nat → Array Value) (b cap : Nat) (cs : Array Value), RowsD D' N m β κ C f ∧ SlAt 1 u (some (b, cs)) m b cap cs (fun i => .slice (some ⟨β i, 0, none⟩) N (κ i)) ∧ (∀ i j, i < m → j < m → β i = β j → i = j) ∧ (∀ i, i < m → w0.heap.size ≤ β i) ∧ (∀ i, i < m → ∀ x ∈ D, x.1 ≠ β i) ∧ MemX X w0 w' (L.set k (some (b, cs))) (D' ++ D) := by
  obtain ⟨D1, β, κ, C, b, cap, cs, h1, h2, h3, h4, h5, h6⟩ := hf
  refine ⟨(List.range m).map (fun i => (β i, C i)), β, κ, C, b, cap, cs, ⟨fun i hi => List.mem_map.2 ⟨i, by simpa using hi, rfl⟩, h2.sl⟩, h3, h5, fun i hi => Nat.le_trans h.bel.size (h1 _ _ (h2.mem i hi)).1, fun i hi x hx e => ?_, ?_⟩
  · have := (h.froz x.1 x.2 hx).1.lt
    have := (h1 _ _ (h2.mem i hi)).1
    omega
  · have hb := h1 _ _ h4
    refine (h.fill hx k hb.2 hb.1).addD' fun c ds hm => ?_
    obtain ⟨i, hi, e⟩ := List.mem_map.1 hm
    simp only [Prod.mk.injEq] at e; obtain ⟨rfl, rfl⟩ := e
    have hi : i < m := by simpa using hi
    have hr := h1 _ _ (h2.mem i hi)
    refine ⟨hr.2, fun j c ds hj => ?_⟩
    rw [List.getElem?_set] at hj
    split at hj
    · split at hj
      · simp only [Option.some.injEq, Prod.mk.injEq] at hj; obtain ⟨rfl, rfl⟩ := hj; exact fun e => h6 i hi e.symm
      · cases hj
    · have := (h.blk j c ds hj).2.lt
      have := hr.1
      omega
/-- What is only read, without a block. -/
def offD (D : Froz) (b : Nat) : Froz := D.filter (fun x => decide (x.1 ≠ b))
theorem mem_offD {D : Froz} {b : Nat} {x : Nat × Array Value} : x ∈ offD D b ↔ x ∈ D ∧ x.1 ≠ b := by
  unfold offD; rw [List.mem_filter]; simp
/-- A block that was only read is written from now on, at a place of its own. -/
theorem MemX.thaw {X : List Nat} {w0 w : World} {L : Own} {D : Froz} (k : Nat) (h : MemX X w0 w L D) {b : Nat} {cs : Array Value} (hm : (b, cs) ∈ D) (hb : w0.heap.size ≤ b) : MemX X w0 w (L.set k (some (b, cs))) (offD D b) := by
  have hb1 := h.froz b cs hm
  have key : ∀ (j : Nat) c ds, (L.set k (some (b, cs)))[j]? = some (some (c, ds)) → (j = k ∧ c = b ∧ ds = cs) ∨ (j ≠ k ∧ L[j]? = some (some (c, ds))) := by
    intro j c ds hj
    rw [List.getElem?_set] at hj
    split at hj
    · split at hj
      · simp only [Option.some.injEq, Prod.mk.injEq] at hj; rename_i e _; exact .inl ⟨e.symm, hj.1.symm, hj.2.symm⟩
      · cases hj
    · rename_i e; exact .inr ⟨fun e2 => e e2.symm, hj⟩
  refine ⟨h.bel, fun j c ds hj => ?_, fun i j c es ds hi hj => ?_, fun c ds hc => ⟨(h.froz c ds (mem_offD.1 hc).1).1, fun j e es hj => ?_⟩⟩
  · rcases key j c ds hj with ⟨_, rfl, rfl⟩ | ⟨_, hj⟩
    · exact ⟨.inl hb, hb1.1⟩
    · exact h.blk j c ds hj
  · rcases key i c es hi with ⟨e1, e2, _⟩ | ⟨n1, hi⟩ <;> rcases key j c ds hj with ⟨e3, e4, _⟩ | ⟨n2, hj⟩
    · omega
    · exact absurd e2 (hb1.2 j c ds hj)
    · exact absurd e4 (hb1.2 i c es hi)
    · exact h.apart i j c es ds hi hj
  · rcases key j e es hj with ⟨_, rfl, _⟩ | ⟨_, hj⟩
    · exact fun e => (mem_offD.1 hc).2 e.symm
    · exact (h.froz c ds (mem_offD.1 hc).1).2 j e es hj
/-- m blocks of D, each apart. -/
structure RowsC (D : Froz) (m : Nat) (β : Nat → Nat) (R : Nat → Array Value) : Prop where
  mem : ∀ i, i < m → (β i, R i) ∈ D
  inj : ∀ i j, i < m → j < m → β i = β j → i = j
namespace RowsC
variable {D D' : Froz} {m : Nat} {β : Nat → Nat} {R : Nat → Array Value}
theorem none : RowsC D 0 β R := ⟨fun i hi => absurd hi (by omega), fun i j hi => absurd hi (by omega)⟩
theorem more (h : RowsC D m β R) (hs : ∀ x ∈ D, x ∈ D') : RowsC D' m β R := ⟨fun i hi => hs _ (h.mem i hi), h.inj⟩
theorem congr {R' : Nat → Array Value} (h : RowsC D m β R) (e : ∀ i, i < m → R i = R' i) : RowsC D m β R' := ⟨fun i hi => by rw [← e i hi]; exact h.mem i hi, h.inj⟩
theorem setRow (h : RowsC D m β R) {i : Nat} (hi : i < m) (cs : Array Value) : RowsC (updD D (β i) cs) m β (upE R i cs) :=
  ⟨fun j hj => by
    rw [mem_updD]
    by_cases e : j = i
    · subst e; exact .inl ⟨rfl, if_pos rfl, _, h.mem j hj⟩
    · simp only [upE, if_neg e]; exact .inr ⟨fun e2 => e (h.inj _ _ hj hi e2), h.mem j hj⟩, h.inj⟩
theorem snoc (h : RowsC D m β R) {b : Nat} {cs : Array Value} (hm : (b, cs) ∈ D) (hn : ∀ i, i < m → b ≠ β i) : RowsC D (m + 1) (up β m b) (upE R m cs) := by
  refine ⟨fun i hi => ?_, fun i j hi hj e => ?_⟩
  · by_cases e : i = m
    · subst e; simp only [up_eq, upE, if_true]; exact hm
    · simp only [up_ne e, upE, if_neg e]; exact h.mem i (by omega)
  · unfold up at e
    by_cases e1 : i = m <;> by_cases e2 : j = m
    · omega
    · rw [if_pos e1, if_neg e2] at e; exact absurd e (hn j (by omega))
    · rw [if_neg e1, if_pos e2] at e; exact absurd e.symm (hn i (by omega))
    · rw [if_neg e1, if_neg e2] at e; exact h.inj i j (by omega) (by omega) e
end RowsC
theorem up_inj {m b : Nat} {β : Nat → Nat} (h : ∀ i j, i < m → j < m → β i = β j → i = j) (hn : ∀ i, i < m → b ≠ β i) : ∀ i j, i < m + 1 → j < m + 1 → up β m b i = up β m b j → i = j := fun i j hi hj e => by
  unfold up at e
  by_cases e1 : i = m <;> by_cases e2 : j = m
  · omega
  · rw [if_pos e1, if_neg e2] at e; exact absurd e (hn j (by omega))
  · rw [if_neg e1, if_pos e2] at e; exact absurd e.symm (hn i (by omega))
  · rw [if_neg e1, if_neg e2] at e; exact h i j (by omega) (by omega) e
/-- A row of n numbers. -/
def rowI (n : Nat) (f : Nat → Nat) : Array Value := fnC n (fun c => .int .i64 ((f c : Nat) : Int))
theorem rowI_sl {n b : Nat} {f : Nat → Nat} (hn : n ≤ 100) : SlAt 1 (.slice (some ⟨b, 0, Option.none⟩) n n) (some (b, rowI n f)) n b n (rowI n f) (fun c => .int .i64 ((f c : Nat) : Int)) :=
  ⟨rfl, rfl, Nat.le_refl _, by unfold maxLen; omega, by unfold rowI; rw [fnC_size]; omega, fun i hi => by unfold rowI; exact fnC_get (by omega)⟩
theorem rowI_set {n i x : Nat} {f g : Nat → Nat} {o : Nat} (ho : o = i) (hi : i < n) (hg : ∀ c, c < n → g c = if c = i then x else f c) : (rowI n f).setIfInBounds o (.int .i64 ((x : Nat) : Int)) = rowI n g := by
  subst ho
  unfold rowI
  exact fnC_set fun c hc => by rw [hg c hc]; by_cases e : c = o <;> simp [e]
theorem Sl.snocC {u : Value} {e : Option (Nat × Array Value)} {n N b : Nat} {β : Nat → Nat} (h : Sl 1 u e (n + 1) (fun i => if i < n * 1 then (fun i => .slice (some ⟨β i, 0, Option.none⟩) N N) i else (fun _ => .slice (some ⟨b, 0, Option.none⟩) N N) (i - n * 1))) :
    Sl 1 u e (n + 1) (fun i => .slice (some ⟨up β n b i, 0, Option.none⟩) N N) :=
  h.congr fun i hi => by
    by_cases e : i < n
    · rw [if_pos (by omega)]; simp only [up_ne (show i ≠ n by omega)]
    · rw [if_neg (by omega)]; simp only [show i = n by omega, up_eq]
theorem RowsC.rowsD {D : Froz} {m N : Nat} {β : Nat → Nat} {M : Nat → Nat → Nat} (h : RowsC D m β (fun i => rowI N (M i))) (hN : N ≤ 100) : RowsD D N m β (fun _ => N) (fun i => rowI N (M i)) (fun i c => .int .i64 ((M i c : Nat) : Int)) :=
  ⟨h.mem, fun _ _ => rowI_sl hN⟩
theorem rowI_congr {n : Nat} {f g : Nat → Nat} (h : ∀ c, c < n → f c = g c) : rowI n f = rowI n g := fnC_congr fun c hc => by rw [h c hc]
theorem SlAt.vec0 {u : Value} {e : Option (Nat × Array Value)} {N b cap : Nat} {cs : Array Value} {V : Nat → Nat → Nat} (h : SlAt 6 u e N b cap cs (fun c => .int .u8 ((V (c / 6) (c % 6) : Nat) : Int))) (i : Nat) (hi : i < N) : cs.extract (0 + i * 6) (0 + i * 6 + 6) = vecC (V i) := by
  rw [Nat.zero_add]; exact h.vec i hi
theorem SlAt.room {u : Value} {e : Option (Nat × Array Value)} {N b cap : Nat} {cs : Array Value} {f : Nat → Value} (h : SlAt 6 u e N b cap cs f) (i : Nat) (hi : i < N) : 0 + i * 6 + 6 ≤ cs.size := by
  have := h.sz; have := h.le; omega
end Go.Sw
