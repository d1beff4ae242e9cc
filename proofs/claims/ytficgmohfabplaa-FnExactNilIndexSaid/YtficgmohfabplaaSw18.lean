/- Plain lemmas of a small calculus for walks over frames and own memory; no statement of the seat is proved here. -/
import Derived.Test.YtficgmohfabplaaSw17
set_option linter.unusedVariables false
set_option linter.unusedSimpArgs false
namespace Go.Sw
open Go Go.RowKit Go.Ech
variable {P : Program}
/-- A list of rows as blocks that are only read. -/
def rowsD0 (b0 : Nat) (cs0 : Array Value) (N m : Nat) (γ : Nat → Nat) (M : Nat → Nat → Nat) : Froz := (b0, cs0) :: (List.range m).map (fun i => (γ i, fnC N (fun c => .int .u8 ((M i c : Nat) : Int))))
section
variable {b0 : Nat} {cs0 : Array Value} {N m : Nat} {γ : Nat → Nat} {M : Nat → Nat → Nat}
theorem rowsD0_0 : (b0, cs0) ∈ rowsD0 b0 cs0 N m γ M := List.mem_cons_self ..
theorem rowsD0_i {i : Nat} (hi : i < m) : (γ i, fnC N (fun c => .int .u8 ((M i c : Nat) : Int))) ∈ rowsD0 b0 cs0 N m γ M := List.mem_cons_of_mem _ (List.mem_map.2 ⟨i, by simpa using hi, rfl⟩)
theorem rowsD0_Y : ∀ y ∈ rowsX b0 m γ, ∃ cs, (y, cs) ∈ rowsD0 b0 cs0 N m γ M := fun y hy => by
  rcases List.mem_cons.1 hy with e | hy
  · exact ⟨cs0, by rw [e]; exact rowsD0_0⟩
  · obtain ⟨i, hi, rfl⟩ := List.mem_map.1 hy
    exact ⟨_, rowsD0_i (by simpa using hi)⟩
theorem rowsD0_all {Q : Nat → Array Value → Prop} (h0 : Q b0 cs0) (hr : ∀ i, i < m → Q (γ i) (fnC N (fun c => .int .u8 ((M i c : Nat) : Int)))) : ∀ b cs, (b, cs) ∈ rowsD0 b0 cs0 N m γ M → Q b cs := fun b cs hm => by
  rcases List.mem_cons.1 hm with e | hm
  · simp only [Prod.mk.injEq] at e; obtain ⟨rfl, rfl⟩ := e; exact h0
  · obtain ⟨i, hi, e⟩ := List.mem_map.1 hm
    simp only [Prod.mk.injEq] at e; obtain ⟨rfl, rfl⟩ := e; exact hr i (by simpa using hi)
end
theorem MemX.startXD (X : List Nat) (w : World) (n : Nat) (D : Froz) (h : ∀ b cs, (b, cs) ∈ D → Blk w b cs) : MemX X w w (List.replicate n none) D :=
  ⟨ExtX.refl _ w, fun k b cs h => by simp [List.getElem?_replicate] at h, fun k j b cs ds h => by simp [List.getElem?_replicate] at h, fun b cs hm => ⟨h b cs hm, fun k c ds hk => by simp [List.getElem?_replicate] at hk⟩⟩
/-- The numbers at the leading places of the first g rows. -/
def solK (E : Nat → Nat → Nat) (ld : Nat → Nat) (L g c : Nat) : Nat := match ldAt g ld c with
  | some i => E i L
  | none => 0
theorem ldAt_eq_some {g c i : Nat} {ld : Nat → Nat} (hi : i < g) (e : ld i = c) (hinj : ∀ j, j < g → ld j = c → j = i) : ldAt g ld c = some i := by
  cases h : ldAt g ld c with
  | none => exact absurd e (ldAt_none h i hi)
  | some j => obtain ⟨h1, h2⟩ := ldAt_some h; rw [hinj j h1 h2]
theorem ldAt_eq_none {g c : Nat} {ld : Nat → Nat} (h : ∀ j, j < g → ld j ≠ c) : ldAt g ld c = none := by
  cases h2 : ldAt g ld c with
  | none => rfl
  | some j => obtain ⟨h3, h4⟩ := ldAt_some h2; exact absurd h4 (h j h3)
theorem solK_zero {E : Nat → Nat → Nat} {ld : Nat → Nat} {L c : Nat} : solK E ld L 0 c = 0 := by
  unfold solK; rw [ldAt_eq_none (fun j hj => absurd hj (by omega))]
theorem solK_succ {p N k L g c : Nat} {E : Nat → Nat → Nat} {ld : Nat → Nat} (h : Rref p N E k ld) (hg : g < k) : solK E ld L (g + 1) c = if c = ld g then E g L else solK E ld L g c := by
  unfold solK
  by_cases e : c = ld g
  · rw [if_pos e, ldAt_eq_some (i := g) (by omega) e.symm (fun j hj ej => h.inj (by omega) hg (by rw [ej, e]))]
  · rw [if_neg e]
    cases e2 : ldAt g ld c with
    | some i =>
      obtain ⟨h1, h2⟩ := ldAt_some e2
      rw [ldAt_eq_some (i := i) (by omega) h2 (fun j hj ej => h.inj (by omega) (by omega) (by rw [ej, h2]))]
    | none =>
      have h3 := ldAt_none e2
      rw [ldAt_eq_none (fun j hj ej => by
        by_cases ej2 : j = g
        · subst ej2; exact e ej.symm
        · exact h3 j (by omega) ej)]
theorem solK_lt {p N k L g c : Nat} {E : Nat → Nat → Nat} {ld : Nat → Nat} (hp : 0 < p) (hE : ∀ i c, E i c < p) : solK E ld L g c < p := by
  unfold solK; split
  · exact hE _ _
  · exact hp
end Go.Sw
