/- Plain lemmas of a small calculus for walks over frames and own memory; no statement of the seat is proved here. -/
import Derived.Test.YtppbjdebomikbaaEch
set_option linter.unusedVariables false
set_option linter.unusedSimpArgs false
/-! Steps of eliminations: plain lemmas, no program. -/
namespace Go.Ech
def primeN (p : Nat) : Prop := p = 2 ∨ p = 3 ∨ p = 5 ∨ p = 7 ∨ p = 11 ∨ p = 13
theorem primeN.two {p : Nat} (h : primeN p) : 2 ≤ p := by unfold primeN at h; omega
theorem primeN.le {p : Nat} (h : primeN p) : p ≤ 13 := by unfold primeN at h; omega
def lsM (p : Nat) (f h : Nat → Nat) (k c : Nat) : Nat := (((f c : Int) - (k : Int) * (h c : Int)) % (p : Int)).toNat
theorem lsM_int {p : Nat} {f h : Nat → Nat} {k c : Nat} (hp : 0 < p) : (lsM p f h k c : Int) = ((f c : Int) - (k : Int) * (h c : Int)) % (p : Int) :=
  Int.toNat_of_nonneg (Int.emod_nonneg _ (by omega))
theorem lsM_lt {p : Nat} {f h : Nat → Nat} {k c : Nat} (hp : 0 < p) : lsM p f h k c < p := by
  have := Int.emod_lt_of_pos ((f c : Int) - (k : Int) * (h c : Int)) (show (0 : Int) < p by omega);have e := lsM_int (f := f) (h := h) (k := k) (c := c) hp
  omega
theorem lsM_zero {p : Nat} {f h : Nat → Nat} {k c : Nat} (hf : f c < p) (hh : h c = 0) : lsM p f h k c = f c := by
  have e := lsM_int (f := f) (h := h) (k := k) (c := c) (show 0 < p by omega);rw [hh] at e;rw [show (f c : Int) - (k : Int) * ((0 : Nat) : Int) = f c by simp, Int.emod_eq_of_lt (by omega) (by omega)] at e
  omega
theorem lsM_one {p : Nat} {f h : Nat → Nat} {c : Nat} (hp : 0 < p) (hh : h c = 1) : lsM p f h (f c) c = 0 := by
  have e := lsM_int (f := f) (h := h) (k := f c) (c := c) hp;rw [hh, show (f c : Int) - (f c : Int) * ((1 : Nat) : Int) = 0 by omega, Int.zero_emod] at e
  omega
theorem emod_dvd (p x : Int) : p ∣ x % p - x := ⟨-(x / p), by have := Int.mul_ediv_add_emod x p; grind⟩
theorem lsM_dvd {p : Nat} {f h : Nat → Nat} {k c : Nat} (hp : 0 < p) : (p : Int) ∣ ci (lsM p f h k) c - (ci f c + (-(k : Int)) * ci h c) := by
  show (p : Int) ∣ (lsM p f h k c : Int) - _
  rw [lsM_int hp];have := emod_dvd (p : Int) ((f c : Int) - (k : Int) * (h c : Int))
  rwa [show ((f c : Int) - (k : Int) * (h c : Int)) % (p : Int) - (ci f c + (-(k : Int)) * ci h c) = ((f c : Int) - (k : Int) * (h c : Int)) % (p : Int) - ((f c : Int) - (k : Int) * (h c : Int)) by show _ - ((f c : Int) + (-(k : Int)) * (h c : Int)) = _; grind]
theorem lsM_ker {p N : Nat} {f h : Nat → Nat} {k : Nat} {x : Nat → Int} (hp : 0 < p) (hx : (p : Int) ∣ dot N (ci h) x) : (p : Int) ∣ dot N (ci (lsM p f h k)) x ↔ (p : Int) ∣ dot N (ci f) x := by
  have h1 := dot_lin (p := p) (N := N) (r := ci f) (s := ci h) (t := ci (lsM p f h k)) (x := x) (k := -(k : Int)) (fun c _ => lsM_dvd hp);rw [dvd_iff_sub h1];have h2 : (p : Int) ∣ -(k : Int) * dot N (ci h) x := Int.dvd_mul_of_dvd_right hx
  constructor
  · intro h3; have := Int.dvd_sub h3 h2; rwa [show dot N (ci f) x + -(k : Int) * dot N (ci h) x - -(k : Int) * dot N (ci h) x = dot N (ci f) x by omega] at this
  · intro h3; exact Int.dvd_add h3 h2
def ins {α : Type} (q : Nat) (g : Nat → α) (o : α) (i : Nat) : α := if i < q then g i else if i = q then o else g (i - 1)
structure Fits (p N : Nat) (E : Nat → Nat → Nat) (k : Nat) (ld : Nat → Nat) (o : Nat → Nat) (t q : Nat) : Prop where
  lt : t < N
  one : o t = 1
  left : ∀ c, c < t → o c = 0
  small : ∀ c, c < N → o c < p
  zero : ∀ i, i < k → o (ld i) = 0
  qk : q ≤ k
  lo : ∀ i, i < q → ld i < t
  hi : ∀ i, q ≤ i → i < k → t < ld i
def below (k : Nat) (ld : Nat → Nat) (t : Nat) : Nat := ((List.range k).find? (fun i => decide (t < ld i))).getD k
structure Own (p N : Nat) (E : Nat → Nat → Nat) (k : Nat) (ld r o : Nat → Nat) (j : Nat) : Prop where
  small : ∀ c, c < N → o c < p
  zero : ∀ i, i < j → o (ld i) = 0
  ker : ∀ x, Ker p N E k x → ((p : Int) ∣ dot N (ci o) x ↔ (p : Int) ∣ dot N (ci r) x)
theorem Own.step {p N k j : Nat} {E : Nat → Nat → Nat} {ld r o : Nat → Nat} (hp : 0 < p) (h : Rref p N E k ld) (ho : Own p N E k ld r o j) (hj : j < k) : Own p N E k ld r (lsM p o (E j) (o (ld j))) (j + 1) := by
  refine ⟨fun c _ => lsM_lt hp, fun i hi => ?_, fun x hx => ?_⟩
  · by_cases e : i = j
    · subst e; exact lsM_one hp (h.one i hj)
    · rw [lsM_zero (ho.small _ (h.lt i (by omega))) (h.zero i j (by omega) hj e)]; exact ho.zero i (by omega)
  · rw [lsM_ker hp (hx j hj)]; exact ho.ker x hx
theorem Ker.snoc {p N m : Nat} {M : Nat → Nat → Nat} {x : Nat → Int} : Ker p N M (m + 1) x ↔ Ker p N M m x ∧ (p : Int) ∣ dot N (ci (M m)) x := by
  constructor
  · intro h; exact ⟨fun i hi => h i (by omega), h m (by omega)⟩
  · intro h i hi
    by_cases e : i = m
    · subst e; exact h.2
    · exact h.1 i (by omega)
end Go.Ech

/-! Elimination in place: plain lemmas, no program. -/
namespace Go.Ech
def upE {α : Type} (f : Nat → α) (m : Nat) (x : α) (i : Nat) : α := if i = m then x else f i
def sw {α : Type} (a b : Nat) (f : Nat → α) (i : Nat) : α := if i = a then f b else if i = b then f a else f i
structure Red (p N m : Nat) (M : Nat → Nat → Nat) (d : Nat) (ld : Nat → Nat) : Prop where
  lt : ∀ i, i < d → ld i < N
  mono : ∀ i j, i < j → j < d → ld i < ld j
  one : ∀ i, i < d → M i (ld i) = 1
  left : ∀ i, i < d → ∀ c, c < ld i → M i c = 0
  zero : ∀ i j, i < d → j < m → i ≠ j → M j (ld i) = 0
  low : ∀ i, i < d → ∀ j, d ≤ j → j < m → ∀ c, c ≤ ld i → M j c = 0
theorem Red.start {p N m : Nat} {M : Nat → Nat → Nat} {ld : Nat → Nat} : Red p N m M 0 ld :=
  ⟨fun i hi => absurd hi (by omega), fun i j _ hi => absurd hi (by omega), fun i hi => absurd hi (by omega), fun i hi => absurd hi (by omega), fun i j hi => absurd hi (by omega), fun i hi => absurd hi (by omega)⟩
theorem Red.swap {p N m d a b : Nat} {M : Nat → Nat → Nat} {ld : Nat → Nat} (h : Red p N m M d ld) (ha : d ≤ a) (hb : d ≤ b) (ha2 : a < m) (hb2 : b < m) (hdm : d ≤ m) : Red p N m (sw a b M) d ld := by
  have e : ∀ i, i < d → sw a b M i = M i := fun i hi => by unfold sw; rw [if_neg (by omega), if_neg (by omega)]
  refine ⟨h.lt, h.mono, fun i hi => by rw [e i hi]; exact h.one i hi, fun i hi c hc => by rw [e i hi]; exact h.left i hi c hc, fun i j hi hj hne => ?_, fun i hi j hj hjm c hc => ?_⟩
  · unfold sw; split
    · exact h.zero i b hi hb2 (by omega)
    · split
      · exact h.zero i a hi ha2 (by omega)
      · exact h.zero i j hi hj hne
  · unfold sw; split
    · exact h.low i hi b hb hb2 c hc
    · split
      · exact h.low i hi a ha ha2 c hc
      · exact h.low i hi j hj hjm c hc
def elimM (p : Nat) (M : Nat → Nat → Nat) (d t : Nat) (sc : Nat → Nat) (i : Nat) : Nat → Nat := if i = d then sc else lsM p (M i) sc (M i t)
theorem Red.step {p N m d t : Nat} {M : Nat → Nat → Nat} {ld sc : Nat → Nat} {v : Nat} (hp : 0 < p) (h : Red p N m M d ld) (hM1 : ∀ i c, M i c < p) (hd : d < m) (ht : t < N) (h0 : M d t ≠ 0) (hmin : ∀ j, d ≤ j → j < m → ∀ c, c < t → M j c = 0)
    (hsc : ∀ c, sc c = M d c * v % p) (h1 : M d t * v % p = 1) : Red p N m (elimM p M d t sc) (d + 1) (upE ld d t) := by
  have hsc1 : sc t = 1 := by rw [hsc]; exact h1
  have hsc0 : ∀ c, M d c = 0 → sc c = 0 := fun c hc => by rw [hsc, hc]; simp
  have hlt : ∀ i, i < d → ld i < t := fun i hi => by
    rcases Nat.lt_or_ge (ld i) t with hh | hh
    · exact hh
    · exact absurd (h.low i hi d (Nat.le_refl _) hd t hh) h0
  have keep : ∀ i, i ≠ d → ∀ c, sc c = 0 → elimM p M d t sc i c = M i c := fun i hi c hc => by unfold elimM; rw [if_neg hi]; exact lsM_zero (hM1 i c) hc
  have sct : ∀ c, c < t → sc c = 0 := fun c hc => hsc0 c (hmin d (Nat.le_refl _) hd c hc);have piv : elimM p M d t sc d = sc := by unfold elimM; simp
  have col : ∀ i, i ≠ d → elimM p M d t sc i t = 0 := fun i hi => by unfold elimM; rw [if_neg hi]; exact lsM_one hp hsc1
  refine ⟨fun i hi => ?_, fun i j hij hj => ?_, fun i hi => ?_, fun i hi c hc => ?_, fun i j hi hj hne => ?_, fun i hi j hj hjm c hc => ?_⟩
  · unfold upE; split
    · exact ht
    · exact h.lt i (by omega)
  · unfold upE
    rw [if_neg (show i ≠ d by omega)]
    split
    · exact hlt i (by omega)
    · exact h.mono i j hij (by omega)
  · unfold upE; split
    · rename_i e; rw [e, piv]; exact hsc1
    · rename_i e; rw [keep i e _ (sct _ (hlt i (by omega)))]; exact h.one i (by omega)
  · unfold upE at hc; split at hc
    · rename_i e; rw [e, piv]; exact sct c hc
    · rename_i e
      have := hlt i (by omega);rw [keep i e c (sct c (by omega))]; exact h.left i (by omega) c hc
  · unfold upE; split
    · rename_i e; exact col j (by omega)
    · rename_i e
      by_cases ej : j = d
      · rw [ej, piv]; exact sct _ (hlt i (by omega))
      · rw [keep j ej _ (sct _ (hlt i (by omega)))]; exact h.zero i j (by omega) hj hne
  · unfold upE at hc; split at hc
    · rename_i e
      by_cases ec : c = t
      · rw [ec]; exact col j (by omega)
      · rw [keep j (by omega) c (sct c (by omega))]; exact hmin j (by omega) hjm c (by omega)
    · rename_i e
      have := hlt i (by omega);rw [keep j (by omega) c (sct c (by omega))]; exact h.low i (by omega) j (by omega) hjm c hc
theorem Red.done {p N m : Nat} {M : Nat → Nat → Nat} {d : Nat} {ld : Nat → Nat} (h : Red p N m M d ld) (hM1 : ∀ i c, M i c < p) (hdm : d ≤ m) : Rref p N M d ld :=
  ⟨h.lt, h.mono, h.one, h.left, fun i j hi hj hne => h.zero i j hi (by omega) hne, fun i _ c _ => hM1 i c⟩
end Go.Ech

namespace Go.Sw
open Go Go.RowKit
variable {P : Program}
def dstAll : List Oper → Nat → Nat → Bool
  | [], _, _ => true
  | o :: r, s, i => (Nat.beq i s || o.dst.isSome) && dstAll r s (i + 1)
theorem dstAll_spec : ∀ {l : List Oper} {s i : Nat}, dstAll l s i = true → ∀ (j : Nat) (o : Oper), l[j]? = some o → i + j ≠ s → o.dst ≠ none
  | [], _, _, _, j, o, h, _ => by simp at h
  | x :: r, s, i, hb, j, o, h, hne => by
    simp only [dstAll, Bool.and_eq_true, Bool.or_eq_true] at hb
    cases j with
    | zero =>
      simp at h; subst h
      rcases hb.1 with e | e
      · exact absurd (Nat.eq_of_beq_eq_true e) hne
      · intro hn; rw [hn] at e; cases e
    | succ j => exact dstAll_spec hb.2 j o (by simpa using h) (by omega)
section
variable {n : Nat} {F : List (Nat × Value)} {a : Act} {w : World} {d : Option Tmp} {t : TypeId} {pos : String} {af : Array Edge} {gd : Option (Nat × Bool)} {T T' : TypeId} {x y : Operand} {k : IntKind} {A B C : Int}
theorem g_sliceHi {e : TypeId} {b o len cap i s : Nat} {κ : IntKind} {X : Int} (hT : P.underlying T = some (.slice e)) (he : sizeP P e = some s) (hF : Fr n a F) (hx : look F x = some (.slice (some ⟨b, o, none⟩) len cap)) (hy : look F y = some (.int κ X)) (hX : X = (i : Int)) (hi : i ≤ cap) :
    Gives P ⟨d, .slice T x none (some y) none, t, pos, af, gd⟩ a w (.slice (some ⟨b, o, none⟩) i cap) := by
  subst hX;refine gives_of_run ?_;have h1 : (0 : Int) ≤ (i : Int) ∧ (i : Int) ≤ (cap : Int) := by omega
  have h2 := run_sizeOf he w
  by_cases h3 : cap = 0
  · subst h3
    simp [execOp, Instr.sliceAt, Instr.slice, run_underlying hT, hF.eval hx, hF.eval hy, Instr.sliceBounds, Instr.sliceBound, asIntOf, h1, h2]
    intro h; omega
  · simp [execOp, Instr.sliceAt, Instr.slice, run_underlying hT, hF.eval hx, hF.eval hy, Instr.sliceBounds, Instr.sliceBound, asIntOf, h1, h2, h3, Addr.add_lit]
    intro h; omega
end
structure RowsL (L : Own) (N m : Nat) (γ pos : Nat → Nat) (M : Nat → Nat → Nat) : Prop where
  at_ : ∀ i, i < m → L[pos i]? = some (some (γ i, fnC N (fun c => .int .u8 (M i c : Int))))
  inj : ∀ i j, i < m → j < m → pos i = pos j → i = j
  ne0 : ∀ i, i < m → pos i ≠ 0
namespace RowsL
variable {L : Own} {N m : Nat} {γ pos : Nat → Nat} {M : Nat → Nat → Nat}
theorem setRow (h : RowsL L N m γ pos M) {i : Nat} (hi : i < m) (r : Nat → Nat) {cs : Array Value} (hc : cs = fnC N (fun c => .int .u8 (r c : Int))) : RowsL (L.set (pos i) (some (γ i, cs))) N m γ pos (Go.Ech.upE M i r) :=
  ⟨fun j hj => by
    rw [List.getElem?_set]
    by_cases e : j = i
    · subst e
      have hl := (List.getElem?_eq_some_iff.1 (h.at_ j hj)).1
      rw [if_pos rfl, if_pos hl, hc]; simp only [Go.Ech.upE, if_true]
    · rw [if_neg (fun e2 => e (h.inj _ _ hj hi e2.symm))]; simp only [Go.Ech.upE, if_neg e]; exact h.at_ j hj, h.inj, h.ne0⟩
theorem swap (h : RowsL L N m γ pos M) {a b : Nat} (ha : a < m) (hb : b < m) : RowsL L N m (Go.Ech.sw a b γ) (Go.Ech.sw a b pos) (Go.Ech.sw a b M) := by
  refine ⟨fun i hi => ?_, fun i j hi hj e => ?_, fun i hi => ?_⟩
  · unfold Go.Ech.sw; split
    · exact h.at_ b hb
    · split
      · exact h.at_ a ha
      · exact h.at_ i hi
  · unfold Go.Ech.sw at e
    by_cases e1 : i = a <;> by_cases e2 : i = b <;> by_cases e3 : j = a <;> by_cases e4 : j = b <;> simp only [e1, e2, e3, e4, if_true, if_false] at e <;> first | omega | (have := h.inj _ _ hb ha e; omega) | (have := h.inj _ _ ha hb e; omega) | (split at e <;> first | (have := h.inj _ _ hb (by omega) e; omega) | (have := h.inj _ _ ha (by omega) e; omega) | (have := h.inj _ _ (by omega) (by omega) e; omega)) | (have := h.inj _ _ (by omega) (by omega) e; omega)
  · unfold Go.Ech.sw; split
    · exact h.ne0 b hb
    · split
      · exact h.ne0 a ha
      · exact h.ne0 i hi
end RowsL
theorem RowsL.congr {L : Own} {N m : Nat} {γ pos : Nat → Nat} {M M' : Nat → Nat → Nat} (h : RowsL L N m γ pos M) (e : ∀ i, i < m → M i = M' i) : RowsL L N m γ pos M' :=
  ⟨fun i hi => by rw [← e i hi]; exact h.at_ i hi, h.inj, h.ne0⟩
theorem RowsL.apart {X : List Nat} {w0 w : World} {L : Own} {D : Froz} {N m : Nat} {γ pos : Nat → Nat} {M : Nat → Nat → Nat} (h : RowsL L N m γ pos M) (hM : MemX X w0 w L D) {i j : Nat} (hi : i < m) (hj : j < m) (hne : i ≠ j) : γ i ≠ γ j := fun e => by
  have h1 := h.at_ i hi
  have h2 := h.at_ j hj
  rw [e] at h1
  exact hne (h.inj i j hi hj (hM.apart _ _ _ _ _ h1 h2))
def rowsX (b0 m : Nat) (γ : Nat → Nat) : List Nat := b0 :: (List.range m).map γ
def rowsL0 (b0 : Nat) (cs0 : Array Value) (N m : Nat) (γ : Nat → Nat) (M : Nat → Nat → Nat) : Own := some (b0, cs0) :: (List.range m).map (fun i => some (γ i, fnC N (fun c => .int .u8 (M i c : Int))))
end Go.Sw

namespace Go.Sw
open Go Go.RowKit
variable {P : Program}
section
variable {ops : List Oper} {Q : Exit → Act → World → Prop} {n : Nat} {F : List (Nat × Value)}
def DepsG {G : Type} (ops : List Oper) (k s : Nat) (φ : Facts G) (o : Oper) (g : G) (a : Act) (w : World) : Prop :=
  ∀ j, Nat.blt j k = true → Nat.beq j s = false → edgeTo o j = true → φ j g (a.tmps.getD (dstOf ops j) undef) w
def AfterS {G : Type} (S : Bool → G → World → Prop) (φ : Facts G) (bb : Bool) (g : G) (w w' : World) : Prop := ∃ g', S bb g' w' ∧ ∀ j u, φ j g u w → φ j g' u w'
def AfterG {G : Type} (S : Bool → G → World → Prop) (φ : Facts G) (bb : Bool) (i : Nat) (g : G) (w : World) (v : Value) (w' : World) : Prop := ∃ g', S bb g' w' ∧ φ i g' v w' ∧ ∀ j u, j ≠ i → φ j g u w → φ j g' u w'
def StepsG {G : Type} (P : Program) (ops : List Oper) (k s n : Nat) (F : List (Nat × Value)) (S : Bool → G → World → Prop) (φ : Facts G) : List Oper → Nat → Prop
  | [], _ => True
  | o :: r, i => (if Nat.beq i s = true then ∀ a w g, Fr n a F → S false g w → DepsG ops k s φ o g a w → Does P o a w (fun _ w' => AfterS S φ true g w w')
      else ∀ a w b g, Fr n a F → S b g w → (edgeS ops s i = true → b = false) → DepsG ops k s φ o g a w → Does P o a w (AfterG S φ b i g w)) ∧ StepsG P ops k s n F S φ r (i + 1)
theorem StepsG.get {G : Type} {k s : Nat} {S : Bool → G → World → Prop} {φ : Facts G} : ∀ {l : List Oper} {i : Nat}, StepsG P ops k s n F S φ l i → ∀ (j : Nat) (o : Oper), l[j]? = some o →
    (if Nat.beq (i + j) s = true then ∀ a w g, Fr n a F → S false g w → DepsG ops k s φ o g a w → Does P o a w (fun _ w' => AfterS S φ true g w w')
      else ∀ a w b g, Fr n a F → S b g w → (edgeS ops s (i + j) = true → b = false) → DepsG ops k s φ o g a w → Does P o a w (AfterG S φ b (i + j) g w))
  | [], _, _, j, o, h => by simp at h
  | x :: r, i, hs, j, o, h => by
    cases j with
    | zero => simp at h; subst h; exact hs.1
    | succ j => have := hs.2.get j o (by simpa using h); rwa [show i + 1 + j = i + (j + 1) by omega] at this
end
/-! ### The instance: a block that is made in the region and written once in it -/
def factsG (kt : Nat) (l : List Fact) : Facts Own := fun i L u w => match l[i]? with
  | some (.own k cs mk) => if k = kt then ∃ b cs', u = mk b ∧ L[k]? = some (some (b, cs')) else ∃ b, u = mk b ∧ L[k]? = some (some (b, cs))
  | some (.val v) => u = v
  | some (.rel _) => True
  | none => True
def ParG (X : List Nat) (w0 : World) (D : Froz) (W : List Nat) (L0 : Own) (kt : Nat) (csO csN : Array Value) (bb : Bool) (L : Own) (w : World) : Prop :=
  Par X w0 D W L0 L w ∧ ∀ b cs, L[kt]? = some (some (b, cs)) → cs = (if bb then csN else csO)
section
variable {X : List Nat} {w0 w : World} {D : Froz} {W : List Nat} {L0 L : Own} {kt : Nat} {csO csN : Array Value} {bb : Bool} {l : List Fact} {i : Nat} {o : Oper} {a : Act}
end
end Go.Sw
