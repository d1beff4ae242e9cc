/- Plain lemmas of a small calculus for walks over frames and own memory; no statement of the seat is proved here. -/
import Derived.Test.YtnedojhanlhjkaaSw21
import Derived.Test.YtnedojhanlhjkaaSw30
set_option linter.unusedVariables false
set_option linter.unusedSimpArgs false
namespace Go.Ech
open Go.Sw
def augI (F : Nat → Nat → Nat) (i c : Nat) : Nat := if c < 6 then F i c else if c = 6 + i then 1 else 0
theorem mono_id {n : Nat} {ld : Nat → Nat} (hm : ∀ i j, i < j → j < n → ld i < ld j) (hl : ∀ i, i < n → ld i < n) : ∀ i, i < n → ld i = i := by
  have h1 : ∀ i, i < n → i ≤ ld i := by
    intro i
    induction i with
    | zero => intro _; omega
    | succ i ih => intro hi; have := ih (by omega); have := hm i (i + 1) (by omega) hi; omega
  have h2 : ∀ d i, i + d + 1 = n → ld i + d < n := by
    intro d
    induction d with
    | zero => intro i hi; have := hl i (by omega); omega
    | succ d ih => intro i hi; have := ih (i + 1) (by omega); have := hm i (i + 1) (by omega) (by omega); omega
  intro i hi;have := h1 i hi;have := h2 (n - 1 - i) i (by omega)
  omega
def FullK (p n : Nat) (F : Nat → Nat → Nat) : Prop := ∃ E ld, Rref p 6 E n ld ∧ ∀ x, Ker p 6 E n x ↔ Ker p 6 F n x
theorem FullK.zero {p n : Nat} {F : Nat → Nat → Nat} (hp : 2 ≤ p) (hn : n ≤ 6) (hF : ∀ i c, n ≤ c → F i c = 0) (h : FullK p n F) {x : Nat → Int} (hx : Ker p 6 F n x) (h0 : ∀ d, n ≤ d → d < 6 → x d = 0) {c : Nat} (hc : c < n) : (p : Int) ∣ x c := by
  obtain ⟨E, ld, hR, hK⟩ := h;have hl : ∀ i, i < n → ld i < n := fun i hi => Decidable.byContradiction fun hno =>
    no_lead (c := ld i) hp hR hK (hR.lt i hi) (fun j _ => hF j _ (by omega)) ⟨i, hi, rfl⟩
  have hid := mono_id hR.mono hl;have := (hK x).2 hx c hc
  unfold dot at this
  rw [sI_one (a := c) (by omega)] at this
  · have e := hR.one c hc
    rw [hid c hc] at e
    simpa [ci, e] using this
  · intro d hd hne
    by_cases hdn : d < n
    · have := hR.zero d c hdn hc hne
      rw [hid d hdn] at this
      simp [ci, this]
    · rw [h0 d (by omega) hd]; simp
structure IsCop (p n : Nat) (F G : Nat → Nat → Nat) : Prop where
  lt : ∀ i j, G i j < p
  out : ∀ i j, n ≤ i ∨ n ≤ j → G i j = 0
  sol : ∀ i, i < n → ∀ j, j < n → (p : Int) ∣ sI (fun k => (F i k : Int) * (G k j : Int)) n - (dl i j : Int)
theorem cop_col {p n : Nat} {F : Nat → Nat → Nat} (hp : 2 ≤ p) (hn : n ≤ 6) (hF : ∀ i c, n ≤ c → F i c = 0) (h : FullK p n F) {x y : Nat → Nat} {b : Nat → Int} (hx : ∀ c, c < n → x c < p) (hy : ∀ c, c < n → y c < p) (h1 : ∀ i, i < n → (p : Int) ∣ sI (fun k => (F i k : Int) * (x k : Int)) n - b i) (h2 : ∀ i, i < n → (p : Int) ∣ sI (fun k => (F i k : Int) * (y k : Int)) n - b i) : ∀ c, c < n → x c = y c := by
  intro c hc;have hK : Ker p 6 F n (fun c => if c < n then (x c : Int) - (y c : Int) else 0) := fun i hi => by
    have h3 := Int.dvd_sub (h1 i hi) (h2 i hi);have e : dot 6 (ci (F i)) (fun c => if c < n then (x c : Int) - (y c : Int) else 0) = sI (fun k => (F i k : Int) * (x k : Int)) n - b i - (sI (fun k => (F i k : Int) * (y k : Int)) n - b i) := by
      unfold dot
      rw [sI_cut hn (fun c h1 _ => by simp [show ¬ c < n by omega])];have : sI (fun k => (F i k : Int) * (x k : Int)) n = sI (fun c => ci (F i) c * (if c < n then (x c : Int) - (y c : Int) else 0)) n + sI (fun k => (F i k : Int) * (y k : Int)) n := by
        rw [← sI_add]; exact sI_congr fun c hc => by rw [if_pos hc]; grind
      rw [this]
      show sI (fun c => ci (F i) c * (if c < n then (x c : Int) - (y c : Int) else 0)) n = _
      omega
    rw [e]; exact h3
  have := h.zero hp hn hF hK (fun d h1 _ => by simp [show ¬ d < n by omega]) hc;simp only [if_pos hc] at this;exact eq_of_dvd (hx c hc) (hy c hc) this
theorem IsCop.unique {p n : Nat} {F G G' : Nat → Nat → Nat} (hp : 2 ≤ p) (hn : n ≤ 6) (hF : ∀ i c, n ≤ c → F i c = 0) (hf : FullK p n F) (h : IsCop p n F G) (h' : IsCop p n F G') : G = G' := by
  funext i j
  by_cases e : n ≤ i ∨ n ≤ j
  · rw [h.out i j e, h'.out i j e]
  · exact cop_col hp hn hF hf (x := fun k => G k j) (y := fun k => G' k j) (b := fun i => (dl i j : Int)) (fun c _ => h.lt c j) (fun c _ => h'.lt c j) (fun i hi => h.sol i hi j (by omega)) (fun i hi => h'.sol i hi j (by omega)) i (by omega)
end Go.Ech

namespace Go.Sw
open Go Go.RowKit
variable {P : Program}
section
variable {n : Nat} {F : List (Nat × Value)} {a : Act} {X : List Nat} {w w0 : World} {L : Own} {D : Froz}
variable {d : Option Tmp} {t : TypeId} {pos : String} {af : Array Edge} {gd : Option (Nat × Bool)} {T : TypeId} {x y : Operand}
end
structure RowsPD (D : Froz) (N m : Nat) (κ : Nat → Nat) (Xs : Nat → Nat → Value) (γ : Nat → Nat) (M : Nat → Nat → Nat) : Prop where
  mem : ∀ i, i < m → (γ i, rowP N (κ (γ i)) (M i) (Xs (γ i))) ∈ D
  inj : ∀ i j, i < m → j < m → γ i = γ j → i = j
namespace RowsPD
variable {D D' : Froz} {N m : Nat} {κ : Nat → Nat} {Xs : Nat → Nat → Value} {γ : Nat → Nat} {M : Nat → Nat → Nat}
theorem none : RowsPD D N 0 κ Xs γ M := ⟨fun i hi => absurd hi (by omega), fun i j hi => absurd hi (by omega)⟩
theorem more (h : RowsPD D N m κ Xs γ M) (hs : ∀ x ∈ D, x ∈ D') : RowsPD D' N m κ Xs γ M := ⟨fun i hi => hs _ (h.mem i hi), h.inj⟩
theorem congr {M' : Nat → Nat → Nat} (h : RowsPD D N m κ Xs γ M) (e : ∀ i, i < m → ∀ c, c < N → M i c = M' i c) : RowsPD D N m κ Xs γ M' :=
  ⟨fun i hi => by rw [← rowP_congr (e i hi)]; exact h.mem i hi, h.inj⟩
theorem snoc (h : RowsPD D N m κ Xs γ M) {b cap : Nat} {r : Nat → Nat} {x : Nat → Value} {cs : Array Value} (hc : cs = rowP N cap r x) (hm : (b, cs) ∈ D) (hn : ∀ i, i < m → b ≠ γ i) : RowsPD D N (m + 1) (fun y => if y = b then cap else κ y) (fun y => if y = b then x else Xs y) (up γ m b) (Go.Ech.upE M m r) := by
  refine ⟨fun i hi => ?_, fun i j hi hj e => ?_⟩
  · by_cases e : i = m
    · subst e; simp only [up_eq, Go.Ech.upE, if_true]; rw [← hc]; exact hm
    · have hne : ¬ γ i = b := fun h2 => hn i (by omega) h2.symm
      simp only [up_ne e, Go.Ech.upE, if_neg e, if_neg hne]; exact h.mem i (by omega)
  · unfold up at e
    by_cases e1 : i = m <;> by_cases e2 : j = m
    · omega
    · rw [if_pos e1, if_neg e2] at e; exact absurd e (hn j (by omega))
    · rw [if_neg e1, if_pos e2] at e; exact absurd e.symm (hn i (by omega))
    · rw [if_neg e1, if_neg e2] at e; exact h.inj i j (by omega) (by omega) e
end RowsPD
theorem MemX.addD' {X : List Nat} {w0 w : World} {L : Own} {D D' : Froz} (h : MemX X w0 w L D) (hD : ∀ b cs, (b, cs) ∈ D' → Blk w b cs ∧ ∀ (k : Nat) c ds, L[k]? = some (some (c, ds)) → c ≠ b) : MemX X w0 w L (D' ++ D) :=
  ⟨h.bel, h.blk, h.apart, fun b cs hm => by
    rcases List.mem_append.1 hm with hm | hm
    · exact hD b cs hm
    · exact h.froz b cs hm⟩
theorem MemX.reduced {X : List Nat} {w0 w w' : World} {L : Own} {D : Froz} {N m k b0 : Nat} {κ : Nat → Nat} {Xs : Nat → Nat → Value} {γ γ' : Nat → Nat} {M : Nat → Nat → Nat} {cs cs' : Array Value} {R : Nat → Array Value} (h : MemX X w0 w L D) (hk : L[k]? = some (some (b0, cs))) (hP : RowsPD D N m κ Xs γ M) (hb : w0.heap.size ≤ b0) (hge : ∀ i, i < m → w0.heap.size ≤ γ i)
    (hx : ExtX (rowsX b0 m γ) w w') (hfr : ∀ i, i < m → w.heap.size ≤ γ' i ∨ γ' i ∈ rowsX b0 m γ) (hb0 : Blk w' b0 cs') (hbr : ∀ i, i < m → Blk w' (γ' i) (R i)) : MemX X w0 w' (L.set k none) ((b0, cs') :: (List.range m).map (fun i => (γ' i, R i))) := by
  have key : ∀ (j : Nat) c ds, (L.set k none)[j]? = some (some (c, ds)) → j ≠ k ∧ L[j]? = some (some (c, ds)) := by
    intro j c ds hj;rw [List.getElem?_set] at hj
    split at hj
    · split at hj
      · simp at hj
      · cases hj
    · rename_i e; exact ⟨fun e2 => e e2.symm, hj⟩
  have hnb : ∀ (j : Nat) c ds, (L.set k none)[j]? = some (some (c, ds)) → c ≠ b0 := fun j c ds hj e => by
    subst e; exact (key j _ ds hj).1 (h.apart j k _ _ _ (key j _ ds hj).2 hk)
  have hnY : ∀ (j : Nat) c ds, (L.set k none)[j]? = some (some (c, ds)) → c ∉ rowsX b0 m γ := fun j c ds hj hm => by
    rcases List.mem_cons.1 hm with e | hm
    · exact hnb j c ds hj e
    · obtain ⟨i, hi, e⟩ := List.mem_map.1 hm
      exact (h.froz _ _ (hP.mem i (by simpa using hi))).2 j c ds (key j c ds hj).2 e.symm
  have h2 : MemX X w0 w' (L.set k none) [] := ((h.drop k).sub [] (fun _ hx => by cases hx)).extY hx fun y hy => ⟨by
    rcases List.mem_cons.1 hy with e | hm
    · rw [e]; exact hb
    · obtain ⟨i, hi, rfl⟩ := List.mem_map.1 hm
      exact hge i (by simpa using hi), fun j c ds hj e => hnY j c ds hj (e ▸ hy), fun _ _ hm => by cases hm⟩
  have h3 := h2.addD' (D' := (b0, cs') :: (List.range m).map (fun i => (γ' i, R i))) fun c ds hm => by
    rcases List.mem_cons.1 hm with e | hm
    · simp only [Prod.mk.injEq] at e; obtain ⟨rfl, rfl⟩ := e; exact ⟨hb0, hnb⟩
    · obtain ⟨i, hi, e⟩ := List.mem_map.1 hm
      simp only [Prod.mk.injEq] at e; obtain ⟨rfl, rfl⟩ := e;have hi : i < m := by simpa using hi
      refine ⟨hbr i hi, fun j c ds hj e => ?_⟩
      rcases hfr i hi with h4 | h4
      · have := (h.blk j c ds (key j c ds hj).2).2.lt; omega
      · exact hnY j c ds hj (e ▸ h4)
  rwa [List.append_nil] at h3
theorem mem_rowsD {m i : Nat} {x : Nat × Array Value} {γ : Nat → Nat} {R : Nat → Array Value} (hi : i < m) : (γ i, R i) ∈ x :: (List.range m).map (fun i => (γ i, R i)) :=
  List.mem_cons_of_mem _ (List.mem_map.2 ⟨i, by simpa using hi, rfl⟩)
end Go.Sw

namespace Go.Ech
open Go.Sw
def colM (n : Nat) (F : Nat → Nat → Nat) (j i c : Nat) : Nat := if c < n then F i c else if i = j then 1 else 0
end Go.Ech
namespace Go.Sw
open Go Go.RowKit Go.Ech
def TabOut (w w' : World) (N k : Nat) (f : Nat → Nat → Value) (u : Value) : Prop := ∃ (D : Froz) (β κ : Nat → Nat) (C : Nat → Array Value) (b cap : Nat) (cs : Array Value),
  (∀ x ds, (x, ds) ∈ D → w.heap.size ≤ x ∧ Blk w' x ds) ∧ RowsD D N k β κ C f ∧ SlAt 1 u (some (b, cs)) k b cap cs (fun i => .slice (some ⟨β i, 0, none⟩) N (κ i)) ∧ (b, cs) ∈ D ∧ (∀ i j, i < k → j < k → β i = β j → i = j) ∧ ∀ i, i < k → β i ≠ b
theorem TabOut.rows {w w' : World} {N k : Nat} {f : Nat → Nat → Value} {u : Value} (h : TabOut w w' N k f u) : RowsOut w w' N k f u := by
  obtain ⟨D, β, κ, C, b, cap, cs, h1, h2, h3, h4, _⟩ := h;exact ⟨D, β, κ, C, b, cap, cs, h1, h2, h3, h4⟩
theorem TabOut.of {w w' : World} {L : Own} {D : Froz} {N k q : Nat} {β κ : Nat → Nat} {C : Nat → Array Value} {f : Nat → Nat → Value} {u : Value} {b cap : Nat} {cs : Array Value} (hM : Mem w w' L D) (hR : RowsD D N k β κ C f)
    (hq : L[q]? = some (some (b, cs))) (hs : SlAt 1 u (some (b, cs)) k b cap cs (fun i => .slice (some ⟨β i, 0, none⟩) N (κ i))) (hge : ∀ i, i < k → w.heap.size ≤ β i) (hi : ∀ i j, i < k → j < k → β i = β j → i = j) : TabOut w w' N k f u := by
  refine ⟨(b, cs) :: (List.range k).map (fun i => (β i, C i)), β, κ, C, b, cap, cs, fun x ds hx => ?_, ⟨fun i hi => ?_, hR.sl⟩, hs, List.mem_cons_self .., hi, fun i hi e => (hM.froz _ _ (hR.mem i hi)).2 q b cs hq e.symm⟩
  · rcases List.mem_cons.1 hx with e | hx
    · simp only [Prod.mk.injEq] at e; obtain ⟨rfl, rfl⟩ := e; exact ⟨hM.ge q hq, hM.row q hq⟩
    · obtain ⟨i, hi, e⟩ := List.mem_map.1 hx
      simp only [Prod.mk.injEq] at e; obtain ⟨rfl, rfl⟩ := e;have hi : i < k := by simpa using hi
      exact ⟨hge i hi, hM.fzm (hR.mem i hi)⟩
  · exact List.mem_cons_of_mem _ (List.mem_map.2 ⟨i, by simpa using hi, rfl⟩)
def offD (D : Froz) (b : Nat) : Froz := D.filter (fun x => decide (x.1 ≠ b))
structure RowsC (D : Froz) (m : Nat) (β : Nat → Nat) (R : Nat → Array Value) : Prop where
  mem : ∀ i, i < m → (β i, R i) ∈ D
  inj : ∀ i j, i < m → j < m → β i = β j → i = j
namespace RowsC
variable {D D' : Froz} {m : Nat} {β : Nat → Nat} {R : Nat → Array Value}
theorem none : RowsC D 0 β R := ⟨fun i hi => absurd hi (by omega), fun i j hi => absurd hi (by omega)⟩
theorem more (h : RowsC D m β R) (hs : ∀ x ∈ D, x ∈ D') : RowsC D' m β R := ⟨fun i hi => hs _ (h.mem i hi), h.inj⟩
theorem congr {R' : Nat → Array Value} (h : RowsC D m β R) (e : ∀ i, i < m → R i = R' i) : RowsC D m β R' := ⟨fun i hi => by rw [← e i hi]; exact h.mem i hi, h.inj⟩
theorem setRow (h : RowsC D m β R) {i : Nat} (hi : i < m) (cs : Array Value) : RowsC (updD D (β i) cs) m β (upE R i cs) :=
  ⟨fun j hj => by
    rw [mem_updD]
    by_cases e : j = i
    · subst e; exact .inl ⟨rfl, if_pos rfl, _, h.mem j hj⟩
    · simp only [upE, if_neg e]; exact .inr ⟨fun e2 => e (h.inj _ _ hj hi e2), h.mem j hj⟩, h.inj⟩
theorem snoc (h : RowsC D m β R) {b : Nat} {cs : Array Value} (hm : (b, cs) ∈ D) (hn : ∀ i, i < m → b ≠ β i) : RowsC D (m + 1) (up β m b) (upE R m cs) := by
  refine ⟨fun i hi => ?_, fun i j hi hj e => ?_⟩
  · by_cases e : i = m
    · subst e; simp only [up_eq, upE, if_true]; exact hm
    · simp only [up_ne e, upE, if_neg e]; exact h.mem i (by omega)
  · unfold up at e
    by_cases e1 : i = m <;> by_cases e2 : j = m
    · omega
    · rw [if_pos e1, if_neg e2] at e; exact absurd e (hn j (by omega))
    · rw [if_neg e1, if_pos e2] at e; exact absurd e.symm (hn i (by omega))
    · rw [if_neg e1, if_neg e2] at e; exact h.inj i j (by omega) (by omega) e
end RowsC
def rowI (n : Nat) (f : Nat → Nat) : Array Value := fnC n (fun c => .int .i64 (f c : Int))
end Go.Sw

namespace Go.Sw
open Go Go.RowKit
def mrk (Z k t : Nat) (xs : Nat → Value) : Array Value := fnC Z (fun c => if c < t then .int .u8 (((k + c : Nat)) : Int) else xs c)
section
variable {Z k t : Nat} {xs : Nat → Value}
end
end Go.Sw

namespace Go.Sw
open Go Go.RowKit Go.Ech
section
variable {X : List Nat} {w0 w w' : World} {L : Own} {D : Froz}
def TabI (w w' : World) (n : Nat) (M : Nat → Nat → Nat) (u : Value) : Prop := ∃ (D : Froz) (β : Nat → Nat) (b : Nat) (cs : Array Value),
  (∀ x ds, (x, ds) ∈ D → w.heap.size ≤ x ∧ Blk w' x ds) ∧ RowsC D n β (fun i => rowI n (M i)) ∧ u = .slice (some ⟨b, 0, Option.none⟩) n n ∧ (∀ i, i < n → cs[0 + i * 1]? = some (.slice (some ⟨β i, 0, Option.none⟩) n n)) ∧ (b, cs) ∈ D ∧ ∀ i, i < n → β i ≠ b
theorem TabI.of {n q : Nat} {β : Nat → Nat} {M : Nat → Nat → Nat} {b : Nat} {cs : Array Value} (hM : Mem w w' L D) (hR : RowsC D n β (fun i => rowI n (M i))) (hq : L[q]? = some (some (b, cs))) (hg : ∀ i, i < n → cs[0 + i * 1]? = some (.slice (some ⟨β i, 0, Option.none⟩) n n)) (hge : ∀ i, i < n → w.heap.size ≤ β i) : TabI w w' n M (.slice (some ⟨b, 0, Option.none⟩) n n) := by
  refine ⟨(b, cs) :: (List.range n).map (fun i => (β i, rowI n (M i))), β, b, cs, fun x ds hx => ?_, ⟨fun i hi => mem_rowsD (R := fun i => rowI n (M i)) hi, hR.inj⟩, rfl, hg, List.mem_cons_self .., fun i hi e => (hM.froz _ _ (hR.mem i hi)).2 q b cs hq e.symm⟩
  rcases List.mem_cons.1 hx with e | hx
  · simp only [Prod.mk.injEq] at e; obtain ⟨rfl, rfl⟩ := e; exact ⟨hM.ge q hq, hM.row q hq⟩
  · obtain ⟨i, hi, e⟩ := List.mem_map.1 hx
    simp only [Prod.mk.injEq] at e; obtain ⟨rfl, rfl⟩ := e;have hi : i < n := by simpa using hi
    exact ⟨hge i hi, hM.fzm (hR.mem i hi)⟩
theorem MemX.marked {n : Nat} {β : Nat → Nat} {R R' : Nat → Array Value} (h : MemX X w0 w L D) (hC : RowsC D n β R) (hge : ∀ i, i < n → w0.heap.size ≤ β i) (hx : ExtX ((List.range n).map β) w w') (hb : ∀ i, i < n → Blk w' (β i) (R' i)) :
    ∃ DM : Froz, MemX X w0 w' L DM ∧ (∀ x ∈ D, (∀ i, i < n → x.1 ≠ β i) → x ∈ DM) ∧ RowsC DM n β R' := by
  have hY : ∀ y ∈ (List.range n).map β, ∃ i, i < n ∧ β i = y := fun y hy => by
    obtain ⟨i, hi, e⟩ := List.mem_map.1 hy; exact ⟨i, by simpa using hi, e⟩
  let E := D.filter (fun x => decide (∀ i, i < n → x.1 ≠ β i))
  have hE : ∀ x, x ∈ E ↔ x ∈ D ∧ ∀ i, i < n → x.1 ≠ β i := fun x => by
    show x ∈ D.filter _ ↔ _
    rw [List.mem_filter]; simp only [decide_eq_true_eq]
  have h1 := (h.sub E (fun x hx => ((hE x).1 hx).1)).extY hx fun y hy => by
    obtain ⟨i, hi, rfl⟩ := hY y hy;exact ⟨hge i hi, (h.froz _ _ (hC.mem i hi)).2, fun c ds hm => ((hE _).1 hm).2 i hi⟩
  have h2 := h1.addD' (D' := (List.range n).map (fun i => (β i, R' i))) fun c ds hm => by
    obtain ⟨i, hi, e⟩ := List.mem_map.1 hm;simp only [Prod.mk.injEq] at e; obtain ⟨rfl, rfl⟩ := e;have hi : i < n := by simpa using hi
    exact ⟨hb i hi, (h.froz _ _ (hC.mem i hi)).2⟩
  exact ⟨_, h2, fun x hx hn => List.mem_append_right _ ((hE x).2 ⟨hx, hn⟩), ⟨fun i hi => List.mem_append_left _ (List.mem_map.2 ⟨i, by simpa using hi, rfl⟩), hC.inj⟩⟩
end
theorem TabI.base {w w1 w' : World} {n : Nat} {M : Nat → Nat → Nat} {u : Value} (h : TabI w1 w' n M u) (hs : w.heap.size ≤ w1.heap.size) : TabI w w' n M u := by
  obtain ⟨D, β, b, cs, h1, h2⟩ := h;exact ⟨D, β, b, cs, fun x ds hm => ⟨Nat.le_trans hs (h1 x ds hm).1, (h1 x ds hm).2⟩, h2⟩
theorem TabOut.base {w w1 w' : World} {N k : Nat} {f : Nat → Nat → Value} {u : Value} (h : TabOut w1 w' N k f u) (hs : w.heap.size ≤ w1.heap.size) : TabOut w w' N k f u := by
  obtain ⟨D, β, κ, C, b, cap, cs, h1, h2⟩ := h;exact ⟨D, β, κ, C, b, cap, cs, fun x ds hm => ⟨Nat.le_trans hs (h1 x ds hm).1, (h1 x ds hm).2⟩, h2⟩
def FreshV (w0 : World) (L : Own) (N : Nat) (f : Nat → Value) (u : Value) (w' : World) : Prop := ∃ b cap cs, SlAt 6 u (some (b, cs)) N b cap cs f ∧ Blk w' b cs ∧ w0.heap.size ≤ b ∧ ∀ (k : Nat) c ds, L[k]? = some (some (c, ds)) → c ≠ b
theorem FreshV.last {w0 w w' : World} {L : Own} {N : Nat} {f : Nat → Value} {u : Value} (h : FreshV w0 L N f u w) (hx : Ext w w') : FreshV w0 L N f u w' := by
  obtain ⟨b, cap, cs, h1, h2, h3⟩ := h; exact ⟨b, cap, cs, h1, h2.ext hx, h3⟩
end Go.Sw

namespace Go.Sw
open Go Go.RowKit Go.Ech
def EmpF (w0 : World) (L : Own) (u : Value) (w' : World) : Prop := ∃ b, u = .slice (some ⟨b, 0, none⟩) 0 0 ∧ Blk w' b #[] ∧ w0.heap.size ≤ b ∧ ∀ (k : Nat) c ds, L[k]? = some (some (c, ds)) → c ≠ b
theorem EmpF.last {w0 w w' : World} {L : Own} {u : Value} (h : EmpF w0 L u w) (hx : Ext w w') : EmpF w0 L u w' := by
  obtain ⟨b, h1, h2, h3⟩ := h; exact ⟨b, h1, h2.ext hx, h3⟩
theorem EmpF.of {w0 w w' : World} {L : Own} {D : Froz} {u : Value} {k : Nat} (hk : L[k]? = some none) (h : ∃ b, u = .slice (some ⟨b, 0, none⟩) 0 0 ∧ Mem w0 w' (L.set k (some (b, #[]))) D ∧ Ext w w') : EmpF w0 L u w' := by
  obtain ⟨b, h1, hM, _⟩ := h;have hkl := (List.getElem?_eq_some_iff.1 hk).1;have e : (L.set k (some (b, #[])))[k]? = some (some (b, #[])) := by rw [List.getElem?_set, if_pos rfl, if_pos hkl]
  refine ⟨b, h1, hM.row k e, hM.ge k e, fun j c ds hj e2 => ?_⟩;subst e2
  by_cases ej : j = k
  · subst ej; rw [hk] at hj; simp at hj
  · have := hM.apart j k c ds #[] (by rw [List.getElem?_set, if_neg (fun q => ej q.symm)]; exact hj) e
    exact ej this
theorem EmpF.build {P : Program} {o : Oper} {a : Act} {w0 w : World} {L : Own} {D : Froz} {k : Nat} (hk : L[k]? = some none) (hg : Does P o a w (fun u w' => ∃ b, u = .slice (some ⟨b, 0, none⟩) 0 0 ∧ Mem w0 w' (L.set k (some (b, #[]))) D ∧ Ext w w')) : Does P o a w (fun u w' => Ext w w' ∧ EmpF w0 L u w') :=
  hg.mono fun u w' h => ⟨h.elim fun b hb => hb.2.2, EmpF.of hk h⟩
end Go.Sw

namespace Go.Sw
open Go Go.RowKit Go.Ech
def TabIF (w0 : World) (L : Own) (D : Froz) (n : Nat) (M : Nat → Nat → Nat) (u : Value) (w' : World) : Prop := ∃ (D' : Froz) (β : Nat → Nat) (b : Nat) (cs : Array Value),
  (∀ x ds, (x, ds) ∈ D' → w0.heap.size ≤ x ∧ Blk w' x ds ∧ ∀ (k : Nat) c es, L[k]? = some (some (c, es)) → c ≠ x) ∧ RowsC D' n β (fun i => rowI n (M i)) ∧ u = .slice (some ⟨b, 0, Option.none⟩) n n ∧ (∀ i, i < n → cs[0 + i * 1]? = some (.slice (some ⟨β i, 0, Option.none⟩) n n)) ∧ (b, cs) ∈ D' ∧ (∀ i, i < n → β i ≠ b) ∧ ∀ i, i < n → ∀ x ∈ D, x.1 ≠ β i
theorem TabIF.last {w0 w w' : World} {L : Own} {D : Froz} {n : Nat} {M : Nat → Nat → Nat} {u : Value} (h : TabIF w0 L D n M u w) (hx : Ext w w') : TabIF w0 L D n M u w' := by
  obtain ⟨D', β, b, cs, h1, h2⟩ := h;exact ⟨D', β, b, cs, fun x ds hm => ⟨(h1 x ds hm).1, (h1 x ds hm).2.1.ext hx, (h1 x ds hm).2.2⟩, h2⟩
def TupR (R : Value → World → Prop) (u : Value) (w' : World) : Prop := ∃ l, u = .tuple #[l, .int .i64 0] ∧ R l w'
end Go.Sw
