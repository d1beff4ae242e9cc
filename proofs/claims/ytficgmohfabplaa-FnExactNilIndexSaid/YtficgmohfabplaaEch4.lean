/- Plain lemmas of a small calculus for walks over frames and own memory; no statement of the seat is proved here. -/
import Derived.Test.YtficgmohfabplaaEch2
set_option linter.unusedVariables false
set_option linter.unusedSimpArgs false
/-! Elimination in place: plain lemmas, no program. -/
namespace Go.Ech
def upE {α : Type} (f : Nat → α) (m : Nat) (x : α) (i : Nat) : α := if i = m then x else f i
def sw {α : Type} (a b : Nat) (f : Nat → α) (i : Nat) : α := if i = a then f b else if i = b then f a else f i
/-- The first d rows of m are reduced, and the others are 0 up to their leading places. -/
structure Red (p N m : Nat) (M : Nat → Nat → Nat) (d : Nat) (ld : Nat → Nat) : Prop where
  lt : ∀ i, i < d → ld i < N
  mono : ∀ i j, i < j → j < d → ld i < ld j
  one : ∀ i, i < d → M i (ld i) = 1
  left : ∀ i, i < d → ∀ c, c < ld i → M i c = 0
  zero : ∀ i j, i < d → j < m → i ≠ j → M j (ld i) = 0
  low : ∀ i, i < d → ∀ j, d ≤ j → j < m → ∀ c, c ≤ ld i → M j c = 0
theorem Red.start {p N m : Nat} {M : Nat → Nat → Nat} {ld : Nat → Nat} : Red p N m M 0 ld :=
  ⟨fun i hi => absurd hi (by omega), fun i j _ hi => absurd hi (by omega), fun i hi => absurd hi (by omega), fun i hi => absurd hi (by omega), fun i j hi => absurd hi (by omega), fun i hi => absurd hi (by omega)⟩
theorem Red.swap {p N m d a b : Nat} {M : Nat → Nat → Nat} {ld : Nat → Nat} (h : Red p N m M d ld) (ha : d ≤ a) (hb : d ≤ b) (ha2 : a < m) (hb2 : b < m) (hdm : d ≤ m) : Red p N m (sw a b M) d ld := by
  have e : ∀ i, i < d → sw a b M i = M i := fun i hi => by unfold sw; rw [if_neg (by omega), if_neg (by omega)]
  refine ⟨h.lt, h.mono, fun i hi => by rw [e i hi]; exact h.one i hi, fun i hi c hc => by rw [e i hi]; exact h.left i hi c hc, fun i j hi hj hne => ?_, fun i hi j hj hjm c hc => ?_⟩
  · unfold sw; split
    · exact h.zero i b hi hb2 (by omega)
    · split
      · exact h.zero i a hi ha2 (by omega)
      · exact h.zero i j hi hj hne
  · unfold sw; split
    · exact h.low i hi b hb hb2 c hc
    · split
      · exact h.low i hi a ha ha2 c hc
      · exact h.low i hi j hj hjm c hc
theorem ker_swap {p N m a b : Nat} {M : Nat → Nat → Nat} {x : Nat → Int} (ha : a < m) (hb : b < m) : Ker p N (sw a b M) m x ↔ Ker p N M m x := by
  have half : ∀ {M : Nat → Nat → Nat}, Ker p N M m x → Ker p N (sw a b M) m x := by
    intro M h i hi
    unfold sw; split
    · exact h b hb
    · split
      · exact h a ha
      · exact h i hi
  refine ⟨fun h => ?_, half⟩
  have h2 := half h
  have : sw a b (sw a b M) = M := by
    funext i
    unfold sw
    by_cases e1 : i = a
    · subst e1; simp; intro e; rw [e]
    · by_cases e2 : i = b
      · subst e2; simp [e1]
      · simp [e1, e2]
  rwa [this] at h2
/-- The rows when one elimination is done. -/
def elimM (p : Nat) (M : Nat → Nat → Nat) (d t : Nat) (sc : Nat → Nat) (i : Nat) : Nat → Nat := if i = d then sc else lsM p (M i) sc (M i t)
theorem Red.step {p N m d t : Nat} {M : Nat → Nat → Nat} {ld sc : Nat → Nat} {v : Nat} (hp : 0 < p) (h : Red p N m M d ld) (hM1 : ∀ i c, M i c < p) (hd : d < m) (ht : t < N) (h0 : M d t ≠ 0) (hmin : ∀ j, d ≤ j → j < m → ∀ c, c < t → M j c = 0)
    (hsc : ∀ c, sc c = M d c * v % p) (h1 : M d t * v % p = 1) : Red p N m (elimM p M d t sc) (d + 1) (upE ld d t) := by
  have hsc1 : sc t = 1 := by rw [hsc]; exact h1
  have hsc0 : ∀ c, M d c = 0 → sc c = 0 := fun c hc => by rw [hsc, hc]; simp
  have hlt : ∀ i, i < d → ld i < t := fun i hi => by
    rcases Nat.lt_or_ge (ld i) t with hh | hh
    · exact hh
    · exact absurd (h.low i hi d (Nat.le_refl _) hd t hh) h0
  have keep : ∀ i, i ≠ d → ∀ c, sc c = 0 → elimM p M d t sc i c = M i c := fun i hi c hc => by unfold elimM; rw [if_neg hi]; exact lsM_zero (hM1 i c) hc
  have sct : ∀ c, c < t → sc c = 0 := fun c hc => hsc0 c (hmin d (Nat.le_refl _) hd c hc)
  have piv : elimM p M d t sc d = sc := by unfold elimM; simp
  have col : ∀ i, i ≠ d → elimM p M d t sc i t = 0 := fun i hi => by unfold elimM; rw [if_neg hi]; exact lsM_one hp hsc1
  refine ⟨fun i hi => ?_, fun i j hij hj => ?_, fun i hi => ?_, fun i hi c hc => ?_, fun i j hi hj hne => ?_, fun i hi j hj hjm c hc => ?_⟩
  · unfold upE; split
    · exact ht
    · exact h.lt i (by omega)
  · unfold upE
    rw [if_neg (show i ≠ d by omega)]
    split
    · exact hlt i (by omega)
    · exact h.mono i j hij (by omega)
  · unfold upE; split
    · rename_i e; rw [e, piv]; exact hsc1
    · rename_i e; rw [keep i e _ (sct _ (hlt i (by omega)))]; exact h.one i (by omega)
  · unfold upE at hc; split at hc
    · rename_i e; rw [e, piv]; exact sct c hc
    · rename_i e
      have := hlt i (by omega)
      rw [keep i e c (sct c (by omega))]; exact h.left i (by omega) c hc
  · unfold upE; split
    · rename_i e; exact col j (by omega)
    · rename_i e
      by_cases ej : j = d
      · rw [ej, piv]; exact sct _ (hlt i (by omega))
      · rw [keep j ej _ (sct _ (hlt i (by omega)))]; exact h.zero i j (by omega) hj hne
  · unfold upE at hc; split at hc
    · rename_i e
      by_cases ec : c = t
      · rw [ec]; exact col j (by omega)
      · rw [keep j (by omega) c (sct c (by omega))]; exact hmin j (by omega) hjm c (by omega)
    · rename_i e
      have := hlt i (by omega)
      rw [keep j (by omega) c (sct c (by omega))]; exact h.low i (by omega) j (by omega) hjm c hc
theorem elim_ker {p N m d t : Nat} {M : Nat → Nat → Nat} {sc : Nat → Nat} {v : Nat} {x : Nat → Int} (hp : 0 < p) (hd : d < m) (hsc : ∀ c, sc c = M d c * v % p) (h1 : M d t * v % p = 1) : Ker p N (elimM p M d t sc) m x ↔ Ker p N M m x := by
  have hs := scale_ker (p := p) (N := N) (f := M d) (g := sc) (v := v) (u := M d t) (x := x) (fun c _ => hsc c) h1
  constructor
  · intro h
    have hd' := h d hd
    unfold elimM at hd'; rw [if_pos rfl] at hd'
    intro i hi
    by_cases e : i = d
    · rw [e]; exact hs.1 hd'
    · have := h i hi
      unfold elimM at this; rw [if_neg e] at this
      exact (lsM_ker hp hd').1 this
  · intro h i hi
    have hd' := hs.2 (h d hd)
    unfold elimM; split
    · exact hd'
    · exact (lsM_ker hp hd').2 (h i hi)
theorem Red.done {p N m : Nat} {M : Nat → Nat → Nat} {d : Nat} {ld : Nat → Nat} (h : Red p N m M d ld) (hM1 : ∀ i c, M i c < p) (hdm : d ≤ m) : Rref p N M d ld :=
  ⟨h.lt, h.mono, h.one, h.left, fun i j hi hj hne => h.zero i j hi (by omega) hne, fun i _ c _ => hM1 i c⟩
theorem ker_cut {p N m d : Nat} {M : Nat → Nat → Nat} {x : Nat → Int} (hdm : d ≤ m) (hz : ∀ j, d ≤ j → j < m → ∀ c, c < N → M j c = 0) : Ker p N M d x ↔ Ker p N M m x := by
  constructor
  · intro h i hi
    by_cases e : i < d
    · exact h i e
    · exact dot_zero (hz i (by omega) hi)
  · intro h i hi; exact h i (by omega)
end Go.Ech
