/- Plain lemmas of a small calculus for walks over frames and own memory; no statement of the seat is proved here. -/
import Derived.Test.YtlpccepifehilaaEch3
import Derived.Laws.MakeOwn
set_option linter.unusedVariables false
set_option linter.unusedSimpArgs false
namespace Go.Sw
open Go Go.RowKit
variable {P : Program}
section
variable {ops : List Oper} {Q : Exit → Act → World → Prop} {n : Nat} {F : List (Nat × Value)}
def edgesBackB : List Oper → Nat → Bool
  | [], _ => true
  | o :: r, i => (o.after.toList.all fun e => !(Region.binds .any e) || Nat.blt e.on i) && edgesBackB r (i + 1)
def tailOkB (ops : List Oper) (k : Nat) : Bool := edgesBackB ops 0 && bitsFrom (masks ops []) ops.length ops.length k
def dstsOkS (n : Nat) (F : List (Nat × Value)) : List Oper → List Nat → Bool
  | [], _ => true
  | o :: r, seen => o.guard.isNone && (match o.dst with
    | some d => Nat.blt d n && (lk F d).isNone && !(memNat d seen) && dstsOkS n F r (d :: seen)
    | none => dstsOkS n F r seen)
def DepsS (ops : List Oper) (k s : Nat) (φ : Nat → Value → Prop) (o : Oper) (a : Act) : Prop :=
  ∀ j, Nat.blt j k = true → Nat.beq j s = false → edgeTo o j = true → φ j (a.tmps.getD (dstOf ops j) undef)
def edgeS (ops : List Oper) (s i : Nat) : Bool := match ops[s]? with | some o => edgeTo o i | none => false
def StepsS (P : Program) (ops : List Oper) (k s n : Nat) (F : List (Nat × Value)) (S : Bool → World → Prop) (φ : Nat → Value → Prop) : List Oper → Nat → Prop
  | [], _ => True
  | o :: r, i => (if Nat.beq i s = true then ∀ a w, Fr n a F → S false w → DepsS ops k s φ o a → Does P o a w (fun _ w' => S true w')
      else ∀ a w b, Fr n a F → S b w → (edgeS ops s i = true → b = false) → DepsS ops k s φ o a → Does P o a w (fun v w' => S b w' ∧ φ i v)) ∧ StepsS P ops k s n F S φ r (i + 1)
theorem StepsS.get {k s : Nat} {S : Bool → World → Prop} {φ : Nat → Value → Prop} : ∀ {l : List Oper} {i : Nat}, StepsS P ops k s n F S φ l i → ∀ (j : Nat) (o : Oper), l[j]? = some o →
    (if Nat.beq (i + j) s = true then ∀ a w, Fr n a F → S false w → DepsS ops k s φ o a → Does P o a w (fun _ w' => S true w')
      else ∀ a w b, Fr n a F → S b w → (edgeS ops s (i + j) = true → b = false) → DepsS ops k s φ o a → Does P o a w (fun v w' => S b w' ∧ φ (i + j) v))
  | [], _, _, j, o, h => by simp at h
  | x :: r, i, hs, j, o, h => by
    cases j with
    | zero => simp at h; subst h; exact hs.1
    | succ j => have := hs.2.get j o (by simpa using h); rwa [show i + 1 + j = i + (j + 1) by omega] at this
end
end Go.Sw

/-! Elimination in place: plain lemmas, no program. -/
namespace Go.Ech
def upE {α : Type} (f : Nat → α) (m : Nat) (x : α) (i : Nat) : α := if i = m then x else f i
def sw {α : Type} (a b : Nat) (f : Nat → α) (i : Nat) : α := if i = a then f b else if i = b then f a else f i
structure Red (p N m : Nat) (M : Nat → Nat → Nat) (d : Nat) (ld : Nat → Nat) : Prop where
  lt : ∀ i, i < d → ld i < N
  mono : ∀ i j, i < j → j < d → ld i < ld j
  one : ∀ i, i < d → M i (ld i) = 1
  left : ∀ i, i < d → ∀ c, c < ld i → M i c = 0
  zero : ∀ i j, i < d → j < m → i ≠ j → M j (ld i) = 0
  low : ∀ i, i < d → ∀ j, d ≤ j → j < m → ∀ c, c ≤ ld i → M j c = 0
theorem Red.start {p N m : Nat} {M : Nat → Nat → Nat} {ld : Nat → Nat} : Red p N m M 0 ld :=
  ⟨fun i hi => absurd hi (by omega), fun i j _ hi => absurd hi (by omega), fun i hi => absurd hi (by omega), fun i hi => absurd hi (by omega), fun i j hi => absurd hi (by omega), fun i hi => absurd hi (by omega)⟩
def elimM (p : Nat) (M : Nat → Nat → Nat) (d t : Nat) (sc : Nat → Nat) (i : Nat) : Nat → Nat := if i = d then sc else lsM p (M i) sc (M i t)
theorem Red.step {p N m d t : Nat} {M : Nat → Nat → Nat} {ld sc : Nat → Nat} {v : Nat} (hp : 0 < p) (h : Red p N m M d ld) (hM1 : ∀ i c, M i c < p) (hd : d < m) (ht : t < N) (h0 : M d t ≠ 0) (hmin : ∀ j, d ≤ j → j < m → ∀ c, c < t → M j c = 0)
    (hsc : ∀ c, sc c = M d c * v % p) (h1 : M d t * v % p = 1) : Red p N m (elimM p M d t sc) (d + 1) (upE ld d t) := by
  have hsc1 : sc t = 1 := by rw [hsc]; exact h1
  have hsc0 : ∀ c, M d c = 0 → sc c = 0 := fun c hc => by rw [hsc, hc]; simp
  have hlt : ∀ i, i < d → ld i < t := fun i hi => by
    rcases Nat.lt_or_ge (ld i) t with hh | hh
    · exact hh
    · exact absurd (h.low i hi d (Nat.le_refl _) hd t hh) h0
  have keep : ∀ i, i ≠ d → ∀ c, sc c = 0 → elimM p M d t sc i c = M i c := fun i hi c hc => by unfold elimM; rw [if_neg hi]; exact lsM_zero (hM1 i c) hc
  have sct : ∀ c, c < t → sc c = 0 := fun c hc => hsc0 c (hmin d (Nat.le_refl _) hd c hc);have piv : elimM p M d t sc d = sc := by unfold elimM; simp
  have col : ∀ i, i ≠ d → elimM p M d t sc i t = 0 := fun i hi => by unfold elimM; rw [if_neg hi]; exact lsM_one hp hsc1
  refine ⟨fun i hi => ?_, fun i j hij hj => ?_, fun i hi => ?_, fun i hi c hc => ?_, fun i j hi hj hne => ?_, fun i hi j hj hjm c hc => ?_⟩
  · unfold upE; split
    · exact ht
    · exact h.lt i (by omega)
  · unfold upE
    rw [if_neg (show i ≠ d by omega)]
    split
    · exact hlt i (by omega)
    · exact h.mono i j hij (by omega)
  · unfold upE; split
    · rename_i e; rw [e, piv]; exact hsc1
    · rename_i e; rw [keep i e _ (sct _ (hlt i (by omega)))]; exact h.one i (by omega)
  · unfold upE at hc; split at hc
    · rename_i e; rw [e, piv]; exact sct c hc
    · rename_i e
      have := hlt i (by omega);rw [keep i e c (sct c (by omega))]; exact h.left i (by omega) c hc
  · unfold upE; split
    · rename_i e; exact col j (by omega)
    · rename_i e
      by_cases ej : j = d
      · rw [ej, piv]; exact sct _ (hlt i (by omega))
      · rw [keep j ej _ (sct _ (hlt i (by omega)))]; exact h.zero i j (by omega) hj hne
  · unfold upE at hc; split at hc
    · rename_i e
      by_cases ec : c = t
      · rw [ec]; exact col j (by omega)
      · rw [keep j (by omega) c (sct c (by omega))]; exact hmin j (by omega) hjm c (by omega)
    · rename_i e
      have := hlt i (by omega);rw [keep j (by omega) c (sct c (by omega))]; exact h.low i (by omega) j (by omega) hjm c hc
theorem Red.done {p N m : Nat} {M : Nat → Nat → Nat} {d : Nat} {ld : Nat → Nat} (h : Red p N m M d ld) (hM1 : ∀ i c, M i c < p) (hdm : d ≤ m) : Rref p N M d ld :=
  ⟨h.lt, h.mono, h.one, h.left, fun i j hi hj hne => h.zero i j hi (by omega) hne, fun i _ c _ => hM1 i c⟩
end Go.Ech

namespace Go.Sw
open Go Go.RowKit
variable {P : Program}
def dstAll : List Oper → Nat → Nat → Bool
  | [], _, _ => true
  | o :: r, s, i => (Nat.beq i s || o.dst.isSome) && dstAll r s (i + 1)
section
variable {n : Nat} {F : List (Nat × Value)} {a : Act} {w : World} {d : Option Tmp} {t : TypeId} {pos : String} {af : Array Edge} {gd : Option (Nat × Bool)} {T T' : TypeId} {x y : Operand} {k : IntKind} {A B C : Int}
end
structure RowsL (L : Own) (N m : Nat) (γ pos : Nat → Nat) (M : Nat → Nat → Nat) : Prop where
  at_ : ∀ i, i < m → L[pos i]? = some (some (γ i, fnC N (fun c => .int .u8 (M i c : Int))))
  inj : ∀ i j, i < m → j < m → pos i = pos j → i = j
  ne0 : ∀ i, i < m → pos i ≠ 0
namespace RowsL
variable {L : Own} {N m : Nat} {γ pos : Nat → Nat} {M : Nat → Nat → Nat}
theorem setRow (h : RowsL L N m γ pos M) {i : Nat} (hi : i < m) (r : Nat → Nat) {cs : Array Value} (hc : cs = fnC N (fun c => .int .u8 (r c : Int))) : RowsL (L.set (pos i) (some (γ i, cs))) N m γ pos (Go.Ech.upE M i r) :=
  ⟨fun j hj => by
    rw [List.getElem?_set]
    by_cases e : j = i
    · subst e
      have hl := (List.getElem?_eq_some_iff.1 (h.at_ j hj)).1
      rw [if_pos rfl, if_pos hl, hc]; simp only [Go.Ech.upE, if_true]
    · rw [if_neg (fun e2 => e (h.inj _ _ hj hi e2.symm))]; simp only [Go.Ech.upE, if_neg e]; exact h.at_ j hj, h.inj, h.ne0⟩
end RowsL
theorem RowsL.congr {L : Own} {N m : Nat} {γ pos : Nat → Nat} {M M' : Nat → Nat → Nat} (h : RowsL L N m γ pos M) (e : ∀ i, i < m → M i = M' i) : RowsL L N m γ pos M' :=
  ⟨fun i hi => by rw [← e i hi]; exact h.at_ i hi, h.inj, h.ne0⟩
theorem RowsL.apart {X : List Nat} {w0 w : World} {L : Own} {D : Froz} {N m : Nat} {γ pos : Nat → Nat} {M : Nat → Nat → Nat} (h : RowsL L N m γ pos M) (hM : MemX X w0 w L D) {i j : Nat} (hi : i < m) (hj : j < m) (hne : i ≠ j) : γ i ≠ γ j := fun e => by
  have h1 := h.at_ i hi
  have h2 := h.at_ j hj
  rw [e] at h1
  exact hne (h.inj i j hi hj (hM.apart _ _ _ _ _ h1 h2))
def rowsX (b0 m : Nat) (γ : Nat → Nat) : List Nat := b0 :: (List.range m).map γ
def rowsL0 (b0 : Nat) (cs0 : Array Value) (N m : Nat) (γ : Nat → Nat) (M : Nat → Nat → Nat) : Own := some (b0, cs0) :: (List.range m).map (fun i => some (γ i, fnC N (fun c => .int .u8 (M i c : Int))))
end Go.Sw

namespace Go.Sw
open Go Go.RowKit Go.Ech
variable {P : Program}
def rowsD0 (b0 : Nat) (cs0 : Array Value) (N m : Nat) (γ : Nat → Nat) (M : Nat → Nat → Nat) : Froz := (b0, cs0) :: (List.range m).map (fun i => (γ i, fnC N (fun c => .int .u8 (M i c : Int))))
section
variable {b0 : Nat} {cs0 : Array Value} {N m : Nat} {γ : Nat → Nat} {M : Nat → Nat → Nat}
end
def solK (E : Nat → Nat → Nat) (ld : Nat → Nat) (L g c : Nat) : Nat := match ldAt g ld c with
  | some i => E i L
  | none => 0
end Go.Sw

namespace Go.Sw
open Go Go.RowKit Go.Ech
variable {P : Program}
section
variable {n : Nat} {F : List (Nat × Value)} {a : Act} {w w0 : World} {d : Option Tmp} {t : TypeId} {pos : String} {af : Array Edge} {gd : Option (Nat × Bool)} {T : TypeId} {x y : Operand} {X : List Nat} {L : Own} {D : Froz}
def updD (D : Froz) (b : Nat) (cs : Array Value) : Froz := D.map (fun x => if x.1 = b then (b, cs) else x)
theorem mem_updD {b c : Nat} {cs ds : Array Value} : (c, ds) ∈ updD D b cs ↔ (c = b ∧ ds = cs ∧ ∃ es, (b, es) ∈ D) ∨ (c ≠ b ∧ (c, ds) ∈ D) := by
  unfold updD
  rw [List.mem_map]
  constructor
  · rintro ⟨⟨c', ds'⟩, hm, e⟩
    dsimp only at e
    split at e
    · rename_i e2
      simp only [Prod.mk.injEq] at e; obtain ⟨rfl, rfl⟩ := e;subst e2; exact .inl ⟨rfl, rfl, ds', hm⟩
    · rename_i e2
      simp only [Prod.mk.injEq] at e; obtain ⟨rfl, rfl⟩ := e;exact .inr ⟨e2, hm⟩
  · rintro (⟨rfl, rfl, es, hm⟩ | ⟨hne, hm⟩)
    · exact ⟨(c, es), hm, by simp⟩
    · exact ⟨(c, ds), hm, by simp [hne]⟩
theorem d_make1 {len by' : Nat} {e : TypeId} {z : Value} (k : Nat) (hM : MemX X w0 w L D) (hF : Fr n a F) (hT : slI P T = some (e, some z, 1, by')) (hz : z.cells = #[z]) (hx : look F x = some (.int .i64 (len : Int))) (hy : look F y = some (.int .i64 (len : Int))) (hl : len < 1000000) (hb : by' < 1000) :
    Does P ⟨d, .makeSlice T x y, t, pos, af, gd⟩ a w (fun u w' => ∃ b, u = .slice (some ⟨b, 0, none⟩) len len ∧ MemX X w0 w' (L.set k (some (b, fnC len (fun _ => z)))) D ∧ Ext w w') :=
  ⟨fun K Q hk => by
    have := hk _ (w.alloc (.cells (fnC len (fun _ => z)) e)) ⟨w.heap.size, rfl, hM.fill (Ext.alloc _ _) k (Blk.new _ _ _) (Nat.le_refl _), Ext.alloc _ _⟩
    unfold slI at hT
    cases hu : P.underlying T with
    | none => simp [hu] at hT
    | some dd =>
      cases dd <;> simp [hu] at hT
      rename_i el
      obtain ⟨inf, hinf, rfl, hz0, hsz, hby⟩ := hT
      have hmul : inf.bytes * len ≤ 1000 * 1000000 := Nat.mul_le_mul (by omega) (by omega)
      have hmul2 : (inf.bytes : Int) * (len : Int) ≤ 281474976710656 := by
        have : ((inf.bytes * len : Nat) : Int) ≤ 281474976710656 := by omega
        rwa [Int.natCast_mul] at this
      have hrun := run_make (P := P) w T el inf z hu hinf hz0 .i64 .i64 (len : Int) (len : Int) (by omega) (Int.le_refl _) hmul2 (by omega);have ec : madeCells z.cells (len * inf.size) = fnC len (fun _ => z) := by
        rw [hsz, hz, Nat.mul_one]
        apply fnC_ext (size_madeCells _ _)
        intro i hi
        unfold madeCells
        rw [Array.getElem?_map, Array.getElem?_range, if_pos hi]
        simp [Nat.mod_one]
      simp only [Int.toNat_natCast, ec] at hrun
      unfold Oper.wp execOp
      simp only [hF.eval hx, hF.eval hy, Sem.run_bind, hrun, Result.andThen_ok, Sem.run_pure];exact this⟩
end
structure RowsB (D : Froz) (N m : Nat) (β : Nat → Nat) (M : Nat → Nat → Nat) : Prop where
  mem : ∀ i, i < m → (β i, fnC N (fun c => .int .u8 (M i c : Int))) ∈ D
  inj : ∀ i j, i < m → j < m → β i = β j → i = j
namespace RowsB
variable {D D' : Froz} {N m : Nat} {β : Nat → Nat} {M : Nat → Nat → Nat}
theorem none : RowsB D N 0 β M := ⟨fun i hi => absurd hi (by omega), fun i j hi => absurd hi (by omega)⟩
theorem more (h : RowsB D N m β M) (hs : ∀ x ∈ D, x ∈ D') : RowsB D' N m β M := ⟨fun i hi => hs _ (h.mem i hi), h.inj⟩
theorem congr {M' : Nat → Nat → Nat} (h : RowsB D N m β M) (e : ∀ i, i < m → ∀ c, c < N → M i c = M' i c) : RowsB D N m β M' :=
  ⟨fun i hi => by
    have := h.mem i hi
    rwa [fnC_congr (g := fun c => .int .u8 (M' i c : Int)) (fun c hc => by rw [e i hi c hc])] at this, h.inj⟩
theorem setRow (h : RowsB D N m β M) {i : Nat} (hi : i < m) (r : Nat → Nat) {cs : Array Value} (hc : cs = fnC N (fun c => .int .u8 (r c : Int))) : RowsB (updD D (β i) cs) N m β (upE M i r) :=
  ⟨fun j hj => by
    unfold upE
    by_cases e : j = i
    · subst e; rw [if_pos rfl]; exact mem_updD.2 (.inl ⟨rfl, hc.symm, _, h.mem j hj⟩)
    · rw [if_neg e]; exact mem_updD.2 (.inr ⟨fun e2 => e (h.inj j i hj hi e2), h.mem j hj⟩), h.inj⟩
theorem append (h : RowsB D N m β M) {m2 : Nat} {β2 : Nat → Nat} {M2 : Nat → Nat → Nat} (h2 : RowsB D N m2 β2 M2) (hn : ∀ i j, i < m → j < m2 → β i ≠ β2 j) :
    RowsB D N (m + m2) (fun i => if i < m then β i else β2 (i - m)) (fun i => if i < m then M i else M2 (i - m)) := by
  refine ⟨fun i hi => ?_, fun i j hi hj e => ?_⟩
  · by_cases e : i < m
    · rw [if_pos e, if_pos e]; exact h.mem i e
    · rw [if_neg e, if_neg e]; exact h2.mem _ (by omega)
  · by_cases e1 : i < m <;> by_cases e2 : j < m
    · rw [if_pos e1, if_pos e2] at e; exact h.inj i j e1 e2 e
    · rw [if_pos e1, if_neg e2] at e; exact absurd e (hn i _ e1 (by omega))
    · rw [if_neg e1, if_pos e2] at e; exact absurd e.symm (hn j _ e2 (by omega))
    · rw [if_neg e1, if_neg e2] at e; have := h2.inj _ _ (by omega) (by omega) e; omega
end RowsB
def BytesOut (w w' : World) (N m : Nat) (M : Nat → Nat → Nat) (u : Value) : Prop := ∃ (D : Froz) (β : Nat → Nat) (b : Nat) (cs : Array Value),
  (∀ x ds, (x, ds) ∈ D → w.heap.size ≤ x ∧ Blk w' x ds) ∧ RowsB D N m β M ∧ u = .slice (some ⟨b, 0, none⟩) m m ∧ cs.size = m ∧ (∀ i, i < m → cs[0 + i * 1]? = some (.slice (some ⟨β i, 0, none⟩) N N)) ∧ (b, cs) ∈ D ∧ ∀ i, i < m → β i ≠ b
theorem BytesOut.of {w w' : World} {L : Own} {D : Froz} {N m k : Nat} {β : Nat → Nat} {M : Nat → Nat → Nat} {b : Nat} {cs : Array Value} (hM : Mem w w' L D) (hk : L[k]? = some (some (b, cs))) (hB : RowsB D N m β M) (hge : ∀ i, i < m → w.heap.size ≤ β i) (hs : cs.size = m) (hg : ∀ i, i < m → cs[0 + i * 1]? = some (.slice (some ⟨β i, 0, none⟩) N N)) :
    BytesOut w w' N m M (.slice (some ⟨b, 0, none⟩) m m) := by
  refine ⟨(b, cs) :: (List.range m).map (fun i => (β i, fnC N (fun c => .int .u8 (M i c : Int)))), β, b, cs, fun x ds hx => ?_, ⟨fun i hi => ?_, hB.inj⟩, rfl, hs, hg, List.mem_cons_self .., fun i hi e => (hM.froz _ _ (hB.mem i hi)).2 k b cs hk e.symm⟩
  · rcases List.mem_cons.1 hx with e | hx
    · simp only [Prod.mk.injEq] at e; obtain ⟨rfl, rfl⟩ := e; exact ⟨hM.ge k hk, hM.row k hk⟩
    · obtain ⟨i, hi, e⟩ := List.mem_map.1 hx
      simp only [Prod.mk.injEq] at e; obtain ⟨rfl, rfl⟩ := e;have hi : i < m := by simpa using hi
      exact ⟨hge i hi, hM.fzm (hB.mem i hi)⟩
  · exact List.mem_cons_of_mem _ (List.mem_map.2 ⟨i, by simpa using hi, rfl⟩)
end Go.Sw
