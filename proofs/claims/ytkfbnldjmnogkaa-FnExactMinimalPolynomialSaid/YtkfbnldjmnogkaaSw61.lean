/- Plain lemmas of a small calculus for walks over frames and own memory; no statement of the seat is proved here. -/
import Derived.Test.YtkfbnldjmnogkaaSw9
import Derived.Test.YtkfbnldjmnogkaaSw21
import Derived.ReadAgain
import Derived.ChangeSlices
import Derived.Test.YtkfbnldjmnogkaaSw25
import Derived.Test.YtkfbnldjmnogkaaEch5
import Derived.Test.YtkfbnldjmnogkaaSw19
import Derived.Test.YtkfbnldjmnogkaaEch11
import Derived.ChangeVars
import Derived.LaidLaws
import Derived.Stop.LaidErr
set_option linter.unusedVariables false
set_option linter.unusedSimpArgs false
namespace Go.Sw
open Go Go.RowKit Go.ChangeShapes Go.WideShapes Go.ChangeAt
def numI (m : Nat) (g : Nat → Int) : Array Value := fnC m (fun c => .int .i64 (g c))
section
variable {m q : Nat} {f g : Nat → Int}
theorem numI_size : (numI m f).size = m := fnC_size _ _
theorem numI_get {k : Nat} (h : q = k) (hk : k < m) : (numI m f)[q]? = some (.int .i64 (f k)) := by subst h; exact fnC_get hk
theorem numI_congr (h : ∀ c, c < m → f c = g c) : numI m f = numI m g := fnC_congr fun c hc => by rw [h c hc]
theorem numI_set {k : Nat} {v : Int} (h : q = k) (hg : ∀ c, c < m → g c = if c = k then v else f c) : (numI m f).setIfInBounds q (.int .i64 v) = numI m g := by
  subst h;exact fnC_set fun c hc => by rw [hg c hc]; split <;> rfl
end
def ArgSl (w : World) (sl : Value) (m : Nat) (g : Nat → Int) : Prop :=
  (∃ x c, sl = .slice x m c) ∧ (0 < m → ∃ b o c, sl = .slice (some ⟨b, o, none⟩) m c ∧ ∀ i, i < m → w.cell? ⟨b, o + i * 1, none⟩ = some (.int .i64 (g i)))
theorem cell_ext {w w' : World} {b o : Nat} {v : Value} (h : w.cell? ⟨b, o, none⟩ = some v) (hx : Ext w w') : w'.cell? ⟨b, o, none⟩ = some v := by
  have hb : b < w.heap.size := by
    by_cases hb : b < w.heap.size
    · exact hb
    · have hn : w.heap[b]? = none := by simp; omega
      unfold World.cell? at h
      simp only [hn] at h
      cases h
  unfold World.cell? at h ⊢
  simp only [hx.block b hb];exact h
theorem ArgSl.ext {w w' : World} {sl : Value} {m : Nat} {g : Nat → Int} (h : ArgSl w sl m g) (hx : Ext w w') : ArgSl w' sl m g :=
  ⟨h.1, fun hm => by obtain ⟨b, o, c, h1, h3⟩ := h.2 hm; exact ⟨b, o, c, h1, fun i hi => cell_ext (h3 i hi) hx⟩⟩
theorem ArgSl.one {w : World} {sl : Value} {m : Nat} {g : Nat → Int} (h : ArgSl w sl m g) : sl.oneCell' = true := by
  obtain ⟨⟨x, c, rfl⟩, _⟩ := h; rfl
theorem ArgSl.congr {w : World} {sl : Value} {m : Nat} {g g' : Nat → Int} (h : ArgSl w sl m g) (e : ∀ i, i < m → g i = g' i) : ArgSl w sl m g' :=
  ⟨h.1, fun hm => by obtain ⟨b, o, c, h1, h3⟩ := h.2 hm; exact ⟨b, o, c, h1, fun i hi => by rw [← e i hi]; exact h3 i hi⟩⟩
section
variable {P : Program} {n : Nat} {F : List (Nat × Value)} {a : Act} {w : World} {d : Option Tmp} {t : TypeId} {pos : String} {af : Array Edge} {gd : Option (Nat × Bool)} {x : Operand}
end
section
variable {H : Type} {enc : TypeId × Value → H} {P : Program} {w w' : World}
variable {base : Nat} {spare : Nat → Bool} {held : Bool}
def tenFs (fs : Array Field) (ti ts : TypeId) : Bool := (List.range 5).all fun i => match fs[i]? with
  | some f => Nat.beq f.offset i && Nat.beq f.type (if i < 4 then ti else ts)
  | none => false
end
section
variable {P : Program} {X : List Nat} {w0 w : World} {L : Own} {D : Froz} {n : Nat} {F : List (Nat × Value)} {a : Act} {d : Option Tmp} {T : TypeId} {t : TypeId} {pos : String} {af : Array Edge} {gd : Option (Nat × Bool)} {x y : Operand}
theorem d_make1b {len by' : Nat} {e : TypeId} {z : Value} (k : Nat) (hM : MemX X w0 w L D) (hF : Fr n a F) (hT : slI P T = some (e, some z, 1, by')) (hz : z.cells = #[z]) (hx : look F x = some (.int .i64 (len : Int))) (hy : look F y = some (.int .i64 (len : Int))) (hl : len < 10000000) (hb : by' < 1000) :
    Does P ⟨d, .makeSlice T x y, t, pos, af, gd⟩ a w (fun u w' => ∃ b, u = .slice (some ⟨b, 0, none⟩) len len ∧ MemX X w0 w' (L.set k (some (b, fnC len (fun _ => z)))) D ∧ Ext w w') :=
  ⟨fun K Q hk => by
    have := hk _ (w.alloc (.cells (fnC len (fun _ => z)) e)) ⟨w.heap.size, rfl, hM.fill (Ext.alloc _ _) k (Blk.new _ _ _) (Nat.le_refl _), Ext.alloc _ _⟩
    unfold slI at hT
    cases hu : P.underlying T with
    | none => simp [hu] at hT
    | some dd =>
      cases dd <;> simp [hu] at hT
      rename_i el
      obtain ⟨inf, hinf, rfl, hz0, hsz, hby⟩ := hT
      have hmul : inf.bytes * len ≤ 1000 * 10000000 := Nat.mul_le_mul (by omega) (by omega)
      have hmul2 : (inf.bytes : Int) * (len : Int) ≤ 281474976710656 := by
        have : ((inf.bytes * len : Nat) : Int) ≤ 281474976710656 := by omega
        rwa [Int.natCast_mul] at this
      have hrun := run_make (P := P) w T el inf z hu hinf hz0 .i64 .i64 (len : Int) (len : Int) (by omega) (Int.le_refl _) hmul2 (by omega);have ec : madeCells z.cells (len * inf.size) = fnC len (fun _ => z) := by
        rw [hsz, hz, Nat.mul_one]
        apply fnC_ext (size_madeCells _ _)
        intro i hi
        unfold madeCells
        rw [Array.getElem?_map, Array.getElem?_range, if_pos hi]
        simp [Nat.mod_one]
      simp only [Int.toNat_natCast, ec] at hrun
      unfold Oper.wp execOp
      simp only [hF.eval hx, hF.eval hy, Sem.run_bind, hrun, Result.andThen_ok, Sem.run_pure];exact this⟩
end
abbrev TenOutI (w w' : World) (p n i o : Int) (m : Nat) (g : Nat → Int) (v : Value) : Prop :=
  ∃ b, v = .agg (tenC p n i o (.slice (some ⟨b, 0, none⟩) m m)) ∧ w.heap.size ≤ b ∧ Blk w' b (numI m g)
end Go.Sw

namespace Go.Sw
open Go Go.RowKit
inductive FactE where
  | val (v : Value)
  | frz (c : Array Value) (mk : Nat → Value)
  | own (mk : Nat → Value)
def factsE (kt : Nat) (l : List FactE) : Facts (Own × Froz) := fun i g u _ => match l[i]? with
  | some (.val v) => u = v
  | some (.frz c mk) => ∃ b, (b, c) ∈ g.2 ∧ u = mk b
  | some (.own mk) => ∃ b cs, u = mk b ∧ g.1[kt]? = some (some (b, cs))
  | none => True
def inE (c : Option (Array Value)) (b : Nat) (E : Froz) : Prop := match c with
  | none => True
  | some c => (b, c) ∈ E
theorem inE.more {c : Option (Array Value)} {b : Nat} {E : Froz} (h : inE c b E) (x : Nat × Array Value) : inE c b (x :: E) := by
  cases c with
  | none => trivial
  | some c => exact List.mem_cons_of_mem _ h
def ParE (X : List Nat) (w0 : World) (D : Froz) (L0 : Own) (kt : Nat) (csO : Array Value) (c3 : Option (Array Value)) (csN : Nat → Array Value) (bb : Bool) (g : Own × Froz) (w : World) : Prop :=
  (MemX X w0 w g.1 (g.2 ++ D) ∧ Same [kt] L0 g.1) ∧ ∀ b cs, g.1[kt]? = some (some (b, cs)) → (bb = false → cs = csO) ∧ (bb = true → ∃ x, inE c3 x g.2 ∧ cs = csN x)
section
variable {P : Program} {X : List Nat} {w0 w : World} {D : Froz} {L0 : Own} {g : Own × Froz} {kt : Nat} {csO : Array Value} {c3 : Option (Array Value)} {csN : Nat → Array Value} {bb : Bool} {l : List FactE} {i : Nat} {o : Oper} {a : Act}
def ownOnly : List FactE → Nat → Nat → Bool
  | [], _, _ => true
  | .own _ :: r, i, s => Nat.beq s i && ownOnly r i (s + 1)
  | _ :: r, i, s => ownOnly r i (s + 1)
end
end Go.Sw

namespace Go.Sw
open Go Go.RowKit
theorem vecs1_get {v : Nat → Nat} (q : Nat) (hq : q < 1 * 6) : (vecsC 1 (vAtL [v]))[0 + q]? = some (.int .u8 (v q : Int)) := by
  unfold vecsC
  rw [fnC_get (by omega), show (0 + q) / 6 = 0 by omega, show (0 + q) % 6 = q by omega]
  rfl
theorem Sl.snoc6 {u : Value} {e : Option (Nat × Array Value)} {N : Nat} {F G : Nat → Value} (h : Sl 6 u e (N + 1) (fun i => if i < N * 6 then F i else G (i - N * 6))) (hG : ∀ q, q < 6 → G q = F (N * 6 + q)) : Sl 6 u e (N + 1) F :=
  h.congr fun i hi => by
    by_cases h1 : i < N * 6
    · rw [if_pos h1]
    · rw [if_neg h1, hG _ (by omega), show N * 6 + (i - N * 6) = i by omega]
end Go.Sw

namespace Go.Sw
open Go Go.RowKit
def rowP (N K : Nat) (f : Nat → Nat) (x : Nat → Value) : Array Value := fnC K (fun c => if c < N then .int .u8 (f c : Int) else x c)
section
variable {N K o : Nat} {f g : Nat → Nat} {x : Nat → Value}
theorem rowP_congr (h : ∀ c, c < N → f c = g c) : rowP N K f x = rowP N K g x := fnC_congr fun c _ => by
  by_cases hc : c < N
  · rw [if_pos hc, if_pos hc, h c hc]
  · rw [if_neg hc, if_neg hc]
theorem SlAt.rowP {v : Value} {b cap : Nat} {cs : Array Value} (h : SlAt 1 v (some (b, cs)) N b cap cs (fun c => .int .u8 (f c : Int))) : cs = rowP N cap f (fun c => cs[c]?.getD undef) :=
  fnC_ext (by rw [h.sz, Nat.mul_one]) fun i hi => by
    by_cases e : i < N
    · rw [if_pos e]; exact h.get i (by omega)
    · rw [if_neg e]
      have : i < cs.size := by rw [h.sz]; omega
      simp [this]
end
structure RowsLP (L : Own) (N m : Nat) (κ : Nat → Nat) (Xs : Nat → Nat → Value) (γ pos : Nat → Nat) (M : Nat → Nat → Nat) : Prop where
  at_ : ∀ i, i < m → L[pos i]? = some (some (γ i, rowP N (κ (γ i)) (M i) (Xs (γ i))))
  inj : ∀ i j, i < m → j < m → pos i = pos j → i = j
  ne0 : ∀ i, i < m → pos i ≠ 0
namespace RowsLP
variable {L : Own} {N m : Nat} {κ : Nat → Nat} {Xs : Nat → Nat → Value} {γ pos : Nat → Nat} {M : Nat → Nat → Nat}
theorem set0 (h : RowsLP L N m κ Xs γ pos M) (x : Option (Nat × Array Value)) : RowsLP (L.set 0 x) N m κ Xs γ pos M :=
  ⟨fun i hi => by rw [List.getElem?_set, if_neg (fun e => h.ne0 i hi e.symm)]; exact h.at_ i hi, h.inj, h.ne0⟩
theorem setRow (h : RowsLP L N m κ Xs γ pos M) {i : Nat} (hi : i < m) (r : Nat → Nat) {cs : Array Value} (hc : cs = rowP N (κ (γ i)) r (Xs (γ i))) : RowsLP (L.set (pos i) (some (γ i, cs))) N m κ Xs γ pos (Go.Ech.upE M i r) :=
  ⟨fun j hj => by
    rw [List.getElem?_set]
    by_cases e : j = i
    · subst e
      have hl := (List.getElem?_eq_some_iff.1 (h.at_ j hj)).1
      rw [if_pos rfl, if_pos hl, hc]; simp only [Go.Ech.upE, if_true]
    · rw [if_neg (fun e2 => e (h.inj _ _ hj hi e2.symm))]; simp only [Go.Ech.upE, if_neg e]; exact h.at_ j hj, h.inj, h.ne0⟩
theorem swap (h : RowsLP L N m κ Xs γ pos M) {a b : Nat} (ha : a < m) (hb : b < m) : RowsLP L N m κ Xs (Go.Ech.sw a b γ) (Go.Ech.sw a b pos) (Go.Ech.sw a b M) := by
  refine ⟨fun i hi => ?_, fun i j hi hj e => ?_, fun i hi => ?_⟩
  · unfold Go.Ech.sw; split
    · exact h.at_ b hb
    · split
      · exact h.at_ a ha
      · exact h.at_ i hi
  · unfold Go.Ech.sw at e
    by_cases e1 : i = a <;> by_cases e2 : i = b <;> by_cases e3 : j = a <;> by_cases e4 : j = b <;> simp only [e1, e2, e3, e4, if_true, if_false] at e <;> first | omega | (have := h.inj _ _ hb ha e; omega) | (have := h.inj _ _ ha hb e; omega) | (split at e <;> first | (have := h.inj _ _ hb (by omega) e; omega) | (have := h.inj _ _ ha (by omega) e; omega) | (have := h.inj _ _ (by omega) (by omega) e; omega)) | (have := h.inj _ _ (by omega) (by omega) e; omega)
  · unfold Go.Ech.sw; split
    · exact h.ne0 b hb
    · split
      · exact h.ne0 a ha
      · exact h.ne0 i hi
theorem congr {M' : Nat → Nat → Nat} (h : RowsLP L N m κ Xs γ pos M) (e : ∀ i, i < m → M i = M' i) : RowsLP L N m κ Xs γ pos M' :=
  ⟨fun i hi => by rw [← e i hi]; exact h.at_ i hi, h.inj, h.ne0⟩
theorem apart {X : List Nat} {w0 w : World} {D : Froz} (h : RowsLP L N m κ Xs γ pos M) (hM : MemX X w0 w L D) {i j : Nat} (hi : i < m) (hj : j < m) (hne : i ≠ j) : γ i ≠ γ j := fun e => by
  have h1 := h.at_ i hi
  have h2 := h.at_ j hj
  rw [e] at h1
  exact hne (h.inj i j hi hj (hM.apart _ _ _ _ _ h1 h2))
end RowsLP
def rowsLP0 (b0 : Nat) (cs0 : Array Value) (N m : Nat) (κ : Nat → Nat) (Xs : Nat → Nat → Value) (γ : Nat → Nat) (M : Nat → Nat → Nat) : Own := some (b0, cs0) :: (List.range m).map (fun i => some (γ i, rowP N (κ (γ i)) (M i) (Xs (γ i))))
end Go.Sw

namespace Go.Sw
open Go Go.RowKit
variable {P : Program}
section
variable {n : Nat} {F : List (Nat × Value)} {a : Act} {X : List Nat} {w w0 : World} {L : Own} {D : Froz}
variable {d : Option Tmp} {t : TypeId} {pos : String} {af : Array Edge} {gd : Option (Nat × Bool)} {T : TypeId} {x y : Operand}
end
structure RowsPD (D : Froz) (N m : Nat) (κ : Nat → Nat) (Xs : Nat → Nat → Value) (γ : Nat → Nat) (M : Nat → Nat → Nat) : Prop where
  mem : ∀ i, i < m → (γ i, rowP N (κ (γ i)) (M i) (Xs (γ i))) ∈ D
  inj : ∀ i j, i < m → j < m → γ i = γ j → i = j
namespace RowsPD
variable {D D' : Froz} {N m : Nat} {κ : Nat → Nat} {Xs : Nat → Nat → Value} {γ : Nat → Nat} {M : Nat → Nat → Nat}
theorem none : RowsPD D N 0 κ Xs γ M := ⟨fun i hi => absurd hi (by omega), fun i j hi => absurd hi (by omega)⟩
theorem more (h : RowsPD D N m κ Xs γ M) (hs : ∀ x ∈ D, x ∈ D') : RowsPD D' N m κ Xs γ M := ⟨fun i hi => hs _ (h.mem i hi), h.inj⟩
theorem congr {M' : Nat → Nat → Nat} (h : RowsPD D N m κ Xs γ M) (e : ∀ i, i < m → ∀ c, c < N → M i c = M' i c) : RowsPD D N m κ Xs γ M' :=
  ⟨fun i hi => by rw [← rowP_congr (e i hi)]; exact h.mem i hi, h.inj⟩
theorem snoc (h : RowsPD D N m κ Xs γ M) {b cap : Nat} {r : Nat → Nat} {x : Nat → Value} {cs : Array Value} (hc : cs = rowP N cap r x) (hm : (b, cs) ∈ D) (hn : ∀ i, i < m → b ≠ γ i) : RowsPD D N (m + 1) (fun y => if y = b then cap else κ y) (fun y => if y = b then x else Xs y) (up γ m b) (Go.Ech.upE M m r) := by
  refine ⟨fun i hi => ?_, fun i j hi hj e => ?_⟩
  · by_cases e : i = m
    · subst e; simp only [up_eq, Go.Ech.upE, if_true]; rw [← hc]; exact hm
    · have hne : ¬ γ i = b := fun h2 => hn i (by omega) h2.symm
      simp only [up_ne e, Go.Ech.upE, if_neg e, if_neg hne]; exact h.mem i (by omega)
  · unfold up at e
    by_cases e1 : i = m <;> by_cases e2 : j = m
    · omega
    · rw [if_pos e1, if_neg e2] at e; exact absurd e (hn j (by omega))
    · rw [if_neg e1, if_pos e2] at e; exact absurd e.symm (hn i (by omega))
    · rw [if_neg e1, if_neg e2] at e; exact h.inj i j (by omega) (by omega) e
end RowsPD
theorem MemX.addD' {X : List Nat} {w0 w : World} {L : Own} {D D' : Froz} (h : MemX X w0 w L D) (hD : ∀ b cs, (b, cs) ∈ D' → Blk w b cs ∧ ∀ (k : Nat) c ds, L[k]? = some (some (c, ds)) → c ≠ b) : MemX X w0 w L (D' ++ D) :=
  ⟨h.bel, h.blk, h.apart, fun b cs hm => by
    rcases List.mem_append.1 hm with hm | hm
    · exact hD b cs hm
    · exact h.froz b cs hm⟩
theorem MemX.reduced {X : List Nat} {w0 w w' : World} {L : Own} {D : Froz} {N m k b0 : Nat} {κ : Nat → Nat} {Xs : Nat → Nat → Value} {γ γ' : Nat → Nat} {M : Nat → Nat → Nat} {cs cs' : Array Value} {R : Nat → Array Value} (h : MemX X w0 w L D) (hk : L[k]? = some (some (b0, cs))) (hP : RowsPD D N m κ Xs γ M) (hb : w0.heap.size ≤ b0) (hge : ∀ i, i < m → w0.heap.size ≤ γ i)
    (hx : ExtX (rowsX b0 m γ) w w') (hfr : ∀ i, i < m → w.heap.size ≤ γ' i ∨ γ' i ∈ rowsX b0 m γ) (hb0 : Blk w' b0 cs') (hbr : ∀ i, i < m → Blk w' (γ' i) (R i)) : MemX X w0 w' (L.set k none) ((b0, cs') :: (List.range m).map (fun i => (γ' i, R i))) := by
  have key : ∀ (j : Nat) c ds, (L.set k none)[j]? = some (some (c, ds)) → j ≠ k ∧ L[j]? = some (some (c, ds)) := by
    intro j c ds hj;rw [List.getElem?_set] at hj
    split at hj
    · split at hj
      · simp at hj
      · cases hj
    · rename_i e; exact ⟨fun e2 => e e2.symm, hj⟩
  have hnb : ∀ (j : Nat) c ds, (L.set k none)[j]? = some (some (c, ds)) → c ≠ b0 := fun j c ds hj e => by
    subst e; exact (key j _ ds hj).1 (h.apart j k _ _ _ (key j _ ds hj).2 hk)
  have hnY : ∀ (j : Nat) c ds, (L.set k none)[j]? = some (some (c, ds)) → c ∉ rowsX b0 m γ := fun j c ds hj hm => by
    rcases List.mem_cons.1 hm with e | hm
    · exact hnb j c ds hj e
    · obtain ⟨i, hi, e⟩ := List.mem_map.1 hm
      exact (h.froz _ _ (hP.mem i (by simpa using hi))).2 j c ds (key j c ds hj).2 e.symm
  have h2 : MemX X w0 w' (L.set k none) [] := ((h.drop k).sub [] (fun _ hx => by cases hx)).extY hx fun y hy => ⟨by
    rcases List.mem_cons.1 hy with e | hm
    · rw [e]; exact hb
    · obtain ⟨i, hi, rfl⟩ := List.mem_map.1 hm
      exact hge i (by simpa using hi), fun j c ds hj e => hnY j c ds hj (e ▸ hy), fun _ _ hm => by cases hm⟩
  have h3 := h2.addD' (D' := (b0, cs') :: (List.range m).map (fun i => (γ' i, R i))) fun c ds hm => by
    rcases List.mem_cons.1 hm with e | hm
    · simp only [Prod.mk.injEq] at e; obtain ⟨rfl, rfl⟩ := e; exact ⟨hb0, hnb⟩
    · obtain ⟨i, hi, e⟩ := List.mem_map.1 hm
      simp only [Prod.mk.injEq] at e; obtain ⟨rfl, rfl⟩ := e;have hi : i < m := by simpa using hi
      refine ⟨hbr i hi, fun j c ds hj e => ?_⟩
      rcases hfr i hi with h4 | h4
      · have := (h.blk j c ds (key j c ds hj).2).2.lt; omega
      · exact hnY j c ds hj (e ▸ h4)
  rwa [List.append_nil] at h3
theorem mem_rowsD {m i : Nat} {x : Nat × Array Value} {γ : Nat → Nat} {R : Nat → Array Value} (hi : i < m) : (γ i, R i) ∈ x :: (List.range m).map (fun i => (γ i, R i)) :=
  List.mem_cons_of_mem _ (List.mem_map.2 ⟨i, by simpa using hi, rfl⟩)
end Go.Sw

namespace Go.Sw
open Go Go.RowKit Go.ChangeShapes Go.WideShapes Go.ChangeAt
section
variable {H : Type} {enc : TypeId × Value → H} {P : Program} {w w' : World}
end
end Go.Sw

/-! Two package variables that a row lists. -/
namespace Go.Sw
open Go Go.RowKit Go.ChangeShapes Go.WideShapes Go.ChangeAt
section
variable {H : Type} {enc : TypeId × Value → H} {P : Program} {w w' : World}
end
end Go.Sw

/-! The length of a list that may be nil. -/
namespace Go.Sw
open Go Go.RowKit
section
variable {P : Program} {n : Nat} {F : List (Nat × Value)} {a : Act} {w : World} {d : Option Tmp} {t : TypeId} {pos : String} {af : Array Edge} {gd : Option (Nat × Bool)} {x : Operand}
theorem g_lenSl {size N : Nat} {v : Value} {e : Option (Nat × Array Value)} {f : Nat → Value} {TT : TypeId} {el : TypeId} (hs : Sl size v e N f) (hT : P.underlying TT = some (.slice el)) (hF : Fr n a F) (hx : look F x = some v) : Gives P ⟨d, .call { callee := .builtin .len, args := #[x], argTypes := #[TT] }, t, pos, af, gd⟩ a w (.int .i64 (N : Int)) := by
  rcases hs with ⟨rfl, rfl, rfl⟩ | ⟨b, cap, cs, h⟩
  · exact g_lenX hT hF hx
  · obtain rfl := h.val
    exact g_len hT hF hx
end
section
variable {P : Program} {n : Nat} {F : List (Nat × Value)} {a : Act} {w : World} {d : Option Tmp} {t T : TypeId} {pos : String} {af : Array Edge} {gd : Option (Nat × Bool)} {x y z : Operand}
theorem g_slice2 {e : TypeId} {b o len cap lo hi s : Nat} {κ κ' : IntKind} {X Y : Int} (hT : P.underlying T = some (.slice e)) (he : sizeP P e = some s) (hF : Fr n a F) (hx : look F x = some (.slice (some ⟨b, o, none⟩) len cap)) (hy : look F y = some (.int κ X)) (hz : look F z = some (.int κ' Y))
    (hX : X = (lo : Int)) (hY : Y = (hi : Int)) (h1 : lo ≤ hi) (hm : hi ≤ cap) (hc : lo < cap) :
    Gives P ⟨d, .slice T x (some y) (some z) none, t, pos, af, gd⟩ a w (.slice (some ⟨b, o + lo * s, none⟩) (hi - lo) (cap - lo)) := by
  subst hX hY;refine gives_of_run ?_;have k1 : (0 : Int) ≤ (lo : Int) ∧ (lo : Int) ≤ (hi : Int) := by omega
  have k2 : (0 : Int) ≤ (hi : Int) ∧ (hi : Int) ≤ (cap : Int) := by omega
  have hsz := run_sizeOf he w;have k4 : ¬ cap = lo := by omega
  simp [execOp, Instr.sliceAt, Instr.slice, run_underlying hT, hF.eval hx, hF.eval hy, hF.eval hz, Instr.sliceBounds, Instr.sliceBound, asIntOf, k1, k2, hsz, k4, Addr.add_lit]
  first | done | (rw [if_pos hm, if_pos h1]) | (rw [if_pos h1]) | omega
end
theorem splice_fn {m k : Nat} {f g : Nat → Value} (h : k ≤ m) : splice (fnC m f) 0 (fnC k g) = fnC m (fun c => if c < k then g c else f c) := by
  have hs := splice_size (fnC m f) (fnC k g) 0 (by simp only [fnC_size]; omega)
  apply Array.ext_getElem?
  intro j;rw [splice_get _ _ _ _ (by simp only [fnC_size]; omega)];simp only [fnC_size]
  by_cases h1 : j < k
  · rw [if_pos ⟨Nat.zero_le _, by omega⟩, Nat.sub_zero, fnC_get h1, fnC_get (show j < m by omega), if_pos h1]
  · rw [if_neg (by omega)]
    by_cases h2 : j < m
    · rw [fnC_get h2, fnC_get h2, if_neg h1]
    · rw [Array.getElem?_eq_none (by simp only [fnC_size]; omega), Array.getElem?_eq_none (by simp only [fnC_size]; omega)]
theorem SlAt.vec_cell {v : Value} {e : Option (Nat × Array Value)} {n b cap : Nat} {cs : Array Value} {V : Nat → Nat → Nat} (h : SlAt 6 v e n b cap cs (fun i => .int .u8 (V (i / 6) (i % 6) : Int))) {i q : Nat} (hi : i < n) (hq : q < 6) : cs[0 + i * 6 + q * 1]? = some (.int .u8 (V i q : Int)) := by
  have := h.get (i * 6 + q) (by omega)
  rwa [show (i * 6 + q) / 6 = i by omega, show (i * 6 + q) % 6 = q by omega, show i * 6 + q = 0 + i * 6 + q * 1 by omega] at this
end Go.Sw
