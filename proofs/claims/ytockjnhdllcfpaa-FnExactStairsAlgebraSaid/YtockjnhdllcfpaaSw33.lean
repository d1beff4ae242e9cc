/- Plain lemmas of a small calculus for walks over frames and own memory; no statement of the seat is proved here. -/
import Derived.Test.YtockjnhdllcfpaaSw29
import Derived.Test.YtockjnhdllcfpaaSw22
import Derived.Test.YtockjnhdllcfpaaSw23
set_option linter.unusedVariables false
set_option linter.unusedSimpArgs false
namespace Go.Sw
open Go Go.RowKit
def rowP (N K : Nat) (f : Nat → Nat) (x : Nat → Value) : Array Value := fnC K (fun c => if c < N then .int .u8 (f c : Int) else x c)
section
variable {N K o : Nat} {f g : Nat → Nat} {x : Nat → Value}
theorem rowP_congr (h : ∀ c, c < N → f c = g c) : rowP N K f x = rowP N K g x := fnC_congr fun c _ => by
  by_cases hc : c < N
  · rw [if_pos hc, if_pos hc, h c hc]
  · rw [if_neg hc, if_neg hc]
theorem SlAt.rowP {v : Value} {b cap : Nat} {cs : Array Value} (h : SlAt 1 v (some (b, cs)) N b cap cs (fun c => .int .u8 (f c : Int))) : cs = rowP N cap f (fun c => cs[c]?.getD undef) :=
  fnC_ext (by rw [h.sz, Nat.mul_one]) fun i hi => by
    by_cases e : i < N
    · rw [if_pos e]; exact h.get i (by omega)
    · rw [if_neg e]
      have : i < cs.size := by rw [h.sz]; omega
      simp [this]
end
structure RowsLP (L : Own) (N m : Nat) (κ : Nat → Nat) (Xs : Nat → Nat → Value) (γ pos : Nat → Nat) (M : Nat → Nat → Nat) : Prop where
  at_ : ∀ i, i < m → L[pos i]? = some (some (γ i, rowP N (κ (γ i)) (M i) (Xs (γ i))))
  inj : ∀ i j, i < m → j < m → pos i = pos j → i = j
  ne0 : ∀ i, i < m → pos i ≠ 0
namespace RowsLP
variable {L : Own} {N m : Nat} {κ : Nat → Nat} {Xs : Nat → Nat → Value} {γ pos : Nat → Nat} {M : Nat → Nat → Nat}
theorem setRow (h : RowsLP L N m κ Xs γ pos M) {i : Nat} (hi : i < m) (r : Nat → Nat) {cs : Array Value} (hc : cs = rowP N (κ (γ i)) r (Xs (γ i))) : RowsLP (L.set (pos i) (some (γ i, cs))) N m κ Xs γ pos (Go.Ech.upE M i r) :=
  ⟨fun j hj => by
    rw [List.getElem?_set]
    by_cases e : j = i
    · subst e
      have hl := (List.getElem?_eq_some_iff.1 (h.at_ j hj)).1
      rw [if_pos rfl, if_pos hl, hc]; simp only [Go.Ech.upE, if_true]
    · rw [if_neg (fun e2 => e (h.inj _ _ hj hi e2.symm))]; simp only [Go.Ech.upE, if_neg e]; exact h.at_ j hj, h.inj, h.ne0⟩
theorem congr {M' : Nat → Nat → Nat} (h : RowsLP L N m κ Xs γ pos M) (e : ∀ i, i < m → M i = M' i) : RowsLP L N m κ Xs γ pos M' :=
  ⟨fun i hi => by rw [← e i hi]; exact h.at_ i hi, h.inj, h.ne0⟩
theorem apart {X : List Nat} {w0 w : World} {D : Froz} (h : RowsLP L N m κ Xs γ pos M) (hM : MemX X w0 w L D) {i j : Nat} (hi : i < m) (hj : j < m) (hne : i ≠ j) : γ i ≠ γ j := fun e => by
  have h1 := h.at_ i hi
  have h2 := h.at_ j hj
  rw [e] at h1
  exact hne (h.inj i j hi hj (hM.apart _ _ _ _ _ h1 h2))
end RowsLP
def rowsLP0 (b0 : Nat) (cs0 : Array Value) (N m : Nat) (κ : Nat → Nat) (Xs : Nat → Nat → Value) (γ : Nat → Nat) (M : Nat → Nat → Nat) : Own := some (b0, cs0) :: (List.range m).map (fun i => some (γ i, rowP N (κ (γ i)) (M i) (Xs (γ i))))
end Go.Sw

namespace Go.Ech
open Go.Sw
def augI (F : Nat → Nat → Nat) (i c : Nat) : Nat := if c < 6 then F i c else if c = 6 + i then 1 else 0
theorem mono_id {n : Nat} {ld : Nat → Nat} (hm : ∀ i j, i < j → j < n → ld i < ld j) (hl : ∀ i, i < n → ld i < n) : ∀ i, i < n → ld i = i := by
  have h1 : ∀ i, i < n → i ≤ ld i := by
    intro i
    induction i with
    | zero => intro _; omega
    | succ i ih => intro hi; have := ih (by omega); have := hm i (i + 1) (by omega) hi; omega
  have h2 : ∀ d i, i + d + 1 = n → ld i + d < n := by
    intro d
    induction d with
    | zero => intro i hi; have := hl i (by omega); omega
    | succ d ih => intro i hi; have := ih (i + 1) (by omega); have := hm i (i + 1) (by omega) (by omega); omega
  intro i hi;have := h1 i hi;have := h2 (n - 1 - i) i (by omega)
  omega
def FullK (p n : Nat) (F : Nat → Nat → Nat) : Prop := ∃ E ld, Rref p 6 E n ld ∧ ∀ x, Ker p 6 E n x ↔ Ker p 6 F n x
theorem FullK.zero {p n : Nat} {F : Nat → Nat → Nat} (hp : 2 ≤ p) (hn : n ≤ 6) (hF : ∀ i c, n ≤ c → F i c = 0) (h : FullK p n F) {x : Nat → Int} (hx : Ker p 6 F n x) (h0 : ∀ d, n ≤ d → d < 6 → x d = 0) {c : Nat} (hc : c < n) : (p : Int) ∣ x c := by
  obtain ⟨E, ld, hR, hK⟩ := h;have hl : ∀ i, i < n → ld i < n := fun i hi => Decidable.byContradiction fun hno =>
    no_lead (c := ld i) hp hR hK (hR.lt i hi) (fun j _ => hF j _ (by omega)) ⟨i, hi, rfl⟩
  have hid := mono_id hR.mono hl;have := (hK x).2 hx c hc
  unfold dot at this
  rw [sI_one (a := c) (by omega)] at this
  · have e := hR.one c hc
    rw [hid c hc] at e
    simpa [ci, e] using this
  · intro d hd hne
    by_cases hdn : d < n
    · have := hR.zero d c hdn hc hne
      rw [hid d hdn] at this
      simp [ci, this]
    · rw [h0 d (by omega) hd]; simp
structure IsCop (p n : Nat) (F G : Nat → Nat → Nat) : Prop where
  lt : ∀ i j, G i j < p
  out : ∀ i j, n ≤ i ∨ n ≤ j → G i j = 0
  sol : ∀ i, i < n → ∀ j, j < n → (p : Int) ∣ sI (fun k => (F i k : Int) * (G k j : Int)) n - (dl i j : Int)
end Go.Ech

namespace Go.Sw
open Go Go.RowKit
variable {P : Program}
section
variable {n : Nat} {F : List (Nat × Value)} {a : Act} {X : List Nat} {w w0 : World} {L : Own} {D : Froz}
variable {d : Option Tmp} {t : TypeId} {pos : String} {af : Array Edge} {gd : Option (Nat × Bool)} {T : TypeId} {x y : Operand}
end
structure RowsPD (D : Froz) (N m : Nat) (κ : Nat → Nat) (Xs : Nat → Nat → Value) (γ : Nat → Nat) (M : Nat → Nat → Nat) : Prop where
  mem : ∀ i, i < m → (γ i, rowP N (κ (γ i)) (M i) (Xs (γ i))) ∈ D
  inj : ∀ i j, i < m → j < m → γ i = γ j → i = j
namespace RowsPD
variable {D D' : Froz} {N m : Nat} {κ : Nat → Nat} {Xs : Nat → Nat → Value} {γ : Nat → Nat} {M : Nat → Nat → Nat}
theorem none : RowsPD D N 0 κ Xs γ M := ⟨fun i hi => absurd hi (by omega), fun i j hi => absurd hi (by omega)⟩
theorem more (h : RowsPD D N m κ Xs γ M) (hs : ∀ x ∈ D, x ∈ D') : RowsPD D' N m κ Xs γ M := ⟨fun i hi => hs _ (h.mem i hi), h.inj⟩
theorem congr {M' : Nat → Nat → Nat} (h : RowsPD D N m κ Xs γ M) (e : ∀ i, i < m → ∀ c, c < N → M i c = M' i c) : RowsPD D N m κ Xs γ M' :=
  ⟨fun i hi => by rw [← rowP_congr (e i hi)]; exact h.mem i hi, h.inj⟩
end RowsPD
theorem MemX.addD' {X : List Nat} {w0 w : World} {L : Own} {D D' : Froz} (h : MemX X w0 w L D) (hD : ∀ b cs, (b, cs) ∈ D' → Blk w b cs ∧ ∀ (k : Nat) c ds, L[k]? = some (some (c, ds)) → c ≠ b) : MemX X w0 w L (D' ++ D) :=
  ⟨h.bel, h.blk, h.apart, fun b cs hm => by
    rcases List.mem_append.1 hm with hm | hm
    · exact hD b cs hm
    · exact h.froz b cs hm⟩
theorem MemX.reduced {X : List Nat} {w0 w w' : World} {L : Own} {D : Froz} {N m k b0 : Nat} {κ : Nat → Nat} {Xs : Nat → Nat → Value} {γ γ' : Nat → Nat} {M : Nat → Nat → Nat} {cs cs' : Array Value} {R : Nat → Array Value} (h : MemX X w0 w L D) (hk : L[k]? = some (some (b0, cs))) (hP : RowsPD D N m κ Xs γ M) (hb : w0.heap.size ≤ b0) (hge : ∀ i, i < m → w0.heap.size ≤ γ i)
    (hx : ExtX (rowsX b0 m γ) w w') (hfr : ∀ i, i < m → w.heap.size ≤ γ' i ∨ γ' i ∈ rowsX b0 m γ) (hb0 : Blk w' b0 cs') (hbr : ∀ i, i < m → Blk w' (γ' i) (R i)) : MemX X w0 w' (L.set k none) ((b0, cs') :: (List.range m).map (fun i => (γ' i, R i))) := by
  have key : ∀ (j : Nat) c ds, (L.set k none)[j]? = some (some (c, ds)) → j ≠ k ∧ L[j]? = some (some (c, ds)) := by
    intro j c ds hj;rw [List.getElem?_set] at hj
    split at hj
    · split at hj
      · simp at hj
      · cases hj
    · rename_i e; exact ⟨fun e2 => e e2.symm, hj⟩
  have hnb : ∀ (j : Nat) c ds, (L.set k none)[j]? = some (some (c, ds)) → c ≠ b0 := fun j c ds hj e => by
    subst e; exact (key j _ ds hj).1 (h.apart j k _ _ _ (key j _ ds hj).2 hk)
  have hnY : ∀ (j : Nat) c ds, (L.set k none)[j]? = some (some (c, ds)) → c ∉ rowsX b0 m γ := fun j c ds hj hm => by
    rcases List.mem_cons.1 hm with e | hm
    · exact hnb j c ds hj e
    · obtain ⟨i, hi, e⟩ := List.mem_map.1 hm
      exact (h.froz _ _ (hP.mem i (by simpa using hi))).2 j c ds (key j c ds hj).2 e.symm
  have h2 : MemX X w0 w' (L.set k none) [] := ((h.drop k).sub [] (fun _ hx => by cases hx)).extY hx fun y hy => ⟨by
    rcases List.mem_cons.1 hy with e | hm
    · rw [e]; exact hb
    · obtain ⟨i, hi, rfl⟩ := List.mem_map.1 hm
      exact hge i (by simpa using hi), fun j c ds hj e => hnY j c ds hj (e ▸ hy), fun _ _ hm => by cases hm⟩
  have h3 := h2.addD' (D' := (b0, cs') :: (List.range m).map (fun i => (γ' i, R i))) fun c ds hm => by
    rcases List.mem_cons.1 hm with e | hm
    · simp only [Prod.mk.injEq] at e; obtain ⟨rfl, rfl⟩ := e; exact ⟨hb0, hnb⟩
    · obtain ⟨i, hi, e⟩ := List.mem_map.1 hm
      simp only [Prod.mk.injEq] at e; obtain ⟨rfl, rfl⟩ := e;have hi : i < m := by simpa using hi
      refine ⟨hbr i hi, fun j c ds hj e => ?_⟩
      rcases hfr i hi with h4 | h4
      · have := (h.blk j c ds (key j c ds hj).2).2.lt; omega
      · exact hnY j c ds hj (e ▸ h4)
  rwa [List.append_nil] at h3
theorem mem_rowsD {m i : Nat} {x : Nat × Array Value} {γ : Nat → Nat} {R : Nat → Array Value} (hi : i < m) : (γ i, R i) ∈ x :: (List.range m).map (fun i => (γ i, R i)) :=
  List.mem_cons_of_mem _ (List.mem_map.2 ⟨i, by simpa using hi, rfl⟩)
end Go.Sw

namespace Go.Ech
open Go.Sw
def colM (n : Nat) (F : Nat → Nat → Nat) (j i c : Nat) : Nat := if c < n then F i c else if i = j then 1 else 0
end Go.Ech
namespace Go.Sw
open Go Go.RowKit Go.Ech
def TabOut (w w' : World) (N k : Nat) (f : Nat → Nat → Value) (u : Value) : Prop := ∃ (D : Froz) (β κ : Nat → Nat) (C : Nat → Array Value) (b cap : Nat) (cs : Array Value),
  (∀ x ds, (x, ds) ∈ D → w.heap.size ≤ x ∧ Blk w' x ds) ∧ RowsD D N k β κ C f ∧ SlAt 1 u (some (b, cs)) k b cap cs (fun i => .slice (some ⟨β i, 0, none⟩) N (κ i)) ∧ (b, cs) ∈ D ∧ (∀ i j, i < k → j < k → β i = β j → i = j) ∧ ∀ i, i < k → β i ≠ b
theorem TabOut.rows {w w' : World} {N k : Nat} {f : Nat → Nat → Value} {u : Value} (h : TabOut w w' N k f u) : RowsOut w w' N k f u := by
  obtain ⟨D, β, κ, C, b, cap, cs, h1, h2, h3, h4, _⟩ := h;exact ⟨D, β, κ, C, b, cap, cs, h1, h2, h3, h4⟩
theorem TabOut.of {w w' : World} {L : Own} {D : Froz} {N k q : Nat} {β κ : Nat → Nat} {C : Nat → Array Value} {f : Nat → Nat → Value} {u : Value} {b cap : Nat} {cs : Array Value} (hM : Mem w w' L D) (hR : RowsD D N k β κ C f)
    (hq : L[q]? = some (some (b, cs))) (hs : SlAt 1 u (some (b, cs)) k b cap cs (fun i => .slice (some ⟨β i, 0, none⟩) N (κ i))) (hge : ∀ i, i < k → w.heap.size ≤ β i) (hi : ∀ i j, i < k → j < k → β i = β j → i = j) : TabOut w w' N k f u := by
  refine ⟨(b, cs) :: (List.range k).map (fun i => (β i, C i)), β, κ, C, b, cap, cs, fun x ds hx => ?_, ⟨fun i hi => ?_, hR.sl⟩, hs, List.mem_cons_self .., hi, fun i hi e => (hM.froz _ _ (hR.mem i hi)).2 q b cs hq e.symm⟩
  · rcases List.mem_cons.1 hx with e | hx
    · simp only [Prod.mk.injEq] at e; obtain ⟨rfl, rfl⟩ := e; exact ⟨hM.ge q hq, hM.row q hq⟩
    · obtain ⟨i, hi, e⟩ := List.mem_map.1 hx
      simp only [Prod.mk.injEq] at e; obtain ⟨rfl, rfl⟩ := e;have hi : i < k := by simpa using hi
      exact ⟨hge i hi, hM.fzm (hR.mem i hi)⟩
  · exact List.mem_cons_of_mem _ (List.mem_map.2 ⟨i, by simpa using hi, rfl⟩)
def offD (D : Froz) (b : Nat) : Froz := D.filter (fun x => decide (x.1 ≠ b))
structure RowsC (D : Froz) (m : Nat) (β : Nat → Nat) (R : Nat → Array Value) : Prop where
  mem : ∀ i, i < m → (β i, R i) ∈ D
  inj : ∀ i j, i < m → j < m → β i = β j → i = j
namespace RowsC
variable {D D' : Froz} {m : Nat} {β : Nat → Nat} {R : Nat → Array Value}
theorem none : RowsC D 0 β R := ⟨fun i hi => absurd hi (by omega), fun i j hi => absurd hi (by omega)⟩
theorem more (h : RowsC D m β R) (hs : ∀ x ∈ D, x ∈ D') : RowsC D' m β R := ⟨fun i hi => hs _ (h.mem i hi), h.inj⟩
theorem congr {R' : Nat → Array Value} (h : RowsC D m β R) (e : ∀ i, i < m → R i = R' i) : RowsC D m β R' := ⟨fun i hi => by rw [← e i hi]; exact h.mem i hi, h.inj⟩
theorem setRow (h : RowsC D m β R) {i : Nat} (hi : i < m) (cs : Array Value) : RowsC (updD D (β i) cs) m β (upE R i cs) :=
  ⟨fun j hj => by
    rw [mem_updD]
    by_cases e : j = i
    · subst e; exact .inl ⟨rfl, if_pos rfl, _, h.mem j hj⟩
    · simp only [upE, if_neg e]; exact .inr ⟨fun e2 => e (h.inj _ _ hj hi e2), h.mem j hj⟩, h.inj⟩
end RowsC
def rowI (n : Nat) (f : Nat → Nat) : Array Value := fnC n (fun c => .int .i64 (f c : Int))
theorem SlAt.room {u : Value} {e : Option (Nat × Array Value)} {N b cap : Nat} {cs : Array Value} {f : Nat → Value} (h : SlAt 6 u e N b cap cs f) (i : Nat) (hi : i < N) : 0 + i * 6 + 6 ≤ cs.size := by
  have := h.sz; have := h.le; omega
end Go.Sw

namespace Go.Sw
open Go Go.RowKit
def mrk (Z k t : Nat) (xs : Nat → Value) : Array Value := fnC Z (fun c => if c < t then .int .u8 (((k + c : Nat)) : Int) else xs c)
section
variable {Z k t : Nat} {xs : Nat → Value}
end
end Go.Sw
