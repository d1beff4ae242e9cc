/- Plain lemmas of a small calculus for walks over frames and own memory; no statement of the seat is proved here. -/
import Derived.Test.YthgbonkfhcnmfaaEch6
import Derived.JoinedOf
import Derived.KernelRfl
set_option linter.unusedVariables false
set_option linter.unusedSimpArgs false
namespace Go.Sw
open Go Go.RowKit
variable {P : Program}
section
variable {n : Nat} {F : List (Nat × Value)} {a : Act} {X : List Nat} {w w0 : World} {L : Own} {D : Froz}
variable {d : Option Tmp} {t : TypeId} {pos : String} {af : Array Edge} {gd : Option (Nat × Bool)} {T : TypeId} {x y : Operand}
end
structure RowsPD (D : Froz) (N m : Nat) (κ : Nat → Nat) (Xs : Nat → Nat → Value) (γ : Nat → Nat) (M : Nat → Nat → Nat) : Prop where
  mem : ∀ i, i < m → (γ i, rowP N (κ (γ i)) (M i) (Xs (γ i))) ∈ D
  inj : ∀ i j, i < m → j < m → γ i = γ j → i = j
namespace RowsPD
variable {D D' : Froz} {N m : Nat} {κ : Nat → Nat} {Xs : Nat → Nat → Value} {γ : Nat → Nat} {M : Nat → Nat → Nat}
theorem none : RowsPD D N 0 κ Xs γ M := ⟨fun i hi => absurd hi (by omega), fun i j hi => absurd hi (by omega)⟩
theorem more (h : RowsPD D N m κ Xs γ M) (hs : ∀ x ∈ D, x ∈ D') : RowsPD D' N m κ Xs γ M := ⟨fun i hi => hs _ (h.mem i hi), h.inj⟩
theorem congr {M' : Nat → Nat → Nat} (h : RowsPD D N m κ Xs γ M) (e : ∀ i, i < m → ∀ c, c < N → M i c = M' i c) : RowsPD D N m κ Xs γ M' :=
  ⟨fun i hi => by rw [← rowP_congr (e i hi)]; exact h.mem i hi, h.inj⟩
theorem snoc (h : RowsPD D N m κ Xs γ M) {b cap : Nat} {r : Nat → Nat} {x : Nat → Value} {cs : Array Value} (hc : cs = rowP N cap r x) (hm : (b, cs) ∈ D) (hn : ∀ i, i < m → b ≠ γ i) : RowsPD D N (m + 1) (fun y => if y = b then cap else κ y) (fun y => if y = b then x else Xs y) (up γ m b) (Go.Ech.upE M m r) := by
  refine ⟨fun i hi => ?_, fun i j hi hj e => ?_⟩
  · by_cases e : i = m
    · subst e; simp only [up_eq, Go.Ech.upE, if_true]; rw [← hc]; exact hm
    · have hne : ¬ γ i = b := fun h2 => hn i (by omega) h2.symm
      simp only [up_ne e, Go.Ech.upE, if_neg e, if_neg hne]; exact h.mem i (by omega)
  · unfold up at e
    by_cases e1 : i = m <;> by_cases e2 : j = m
    · omega
    · rw [if_pos e1, if_neg e2] at e; exact absurd e (hn j (by omega))
    · rw [if_neg e1, if_pos e2] at e; exact absurd e.symm (hn i (by omega))
    · rw [if_neg e1, if_neg e2] at e; exact h.inj i j (by omega) (by omega) e
end RowsPD
theorem MemX.addD' {X : List Nat} {w0 w : World} {L : Own} {D D' : Froz} (h : MemX X w0 w L D) (hD : ∀ b cs, (b, cs) ∈ D' → Blk w b cs ∧ ∀ (k : Nat) c ds, L[k]? = some (some (c, ds)) → c ≠ b) : MemX X w0 w L (D' ++ D) :=
  ⟨h.bel, h.blk, h.apart, fun b cs hm => by
    rcases List.mem_append.1 hm with hm | hm
    · exact hD b cs hm
    · exact h.froz b cs hm⟩
theorem MemX.addBoL {X : List Nat} {w0 w w' : World} {L : Own} {D : Froz} {N m : Nat} {M : Nat → Nat → Nat} {u : Value} (k : Nat) (h : MemX X w0 w L D) (hx : Ext w w') (hf : BytesOut w w' N m M u) :
    ∃ (D' : Froz) (β : Nat → Nat) (b : Nat) (cs : Array Value), RowsB D' N m β M ∧ u = .slice (some ⟨b, 0, none⟩) m m ∧ cs.size = m ∧ (∀ i, i < m → cs[0 + i * 1]? = some (.slice (some ⟨β i, 0, none⟩) N N)) ∧ MemX X w0 w' (L.set k (some (b, cs))) (D' ++ D) := by
  obtain ⟨D1, β, b, cs, h1, h2, h3, h4, h5, h6, h7⟩ := hf;refine ⟨(List.range m).map (fun i => (β i, fnC N (fun c => .int .u8 (M i c : Int)))), β, b, cs, ⟨fun i hi => List.mem_map.2 ⟨i, by simpa using hi, rfl⟩, h2.inj⟩, h3, h4, h5, ?_⟩;have hb := h1 _ _ h6;refine (h.fill hx k hb.2 hb.1).addD' fun c ds hm => ?_;obtain ⟨i, hi, e⟩ := List.mem_map.1 hm;simp only [Prod.mk.injEq] at e; obtain ⟨rfl, rfl⟩ := e;have hi : i < m := by simpa using hi
  have hr := h1 _ _ (h2.mem i hi);refine ⟨hr.2, fun j c ds hj => ?_⟩;rw [List.getElem?_set] at hj
  split at hj
  · split at hj
    · simp only [Option.some.injEq, Prod.mk.injEq] at hj; obtain ⟨rfl, rfl⟩ := hj; exact fun e => h7 i hi e.symm
    · cases hj
  · have := (h.blk j c ds hj).2.lt
    have := hr.1
    omega
theorem MemX.reduced {X : List Nat} {w0 w w' : World} {L : Own} {D : Froz} {N m k b0 : Nat} {κ : Nat → Nat} {Xs : Nat → Nat → Value} {γ γ' : Nat → Nat} {M : Nat → Nat → Nat} {cs cs' : Array Value} {R : Nat → Array Value} (h : MemX X w0 w L D) (hk : L[k]? = some (some (b0, cs))) (hP : RowsPD D N m κ Xs γ M) (hb : w0.heap.size ≤ b0) (hge : ∀ i, i < m → w0.heap.size ≤ γ i)
    (hx : ExtX (rowsX b0 m γ) w w') (hfr : ∀ i, i < m → w.heap.size ≤ γ' i ∨ γ' i ∈ rowsX b0 m γ) (hb0 : Blk w' b0 cs') (hbr : ∀ i, i < m → Blk w' (γ' i) (R i)) : MemX X w0 w' (L.set k none) ((b0, cs') :: (List.range m).map (fun i => (γ' i, R i))) := by
  have key : ∀ (j : Nat) c ds, (L.set k none)[j]? = some (some (c, ds)) → j ≠ k ∧ L[j]? = some (some (c, ds)) := by
    intro j c ds hj;rw [List.getElem?_set] at hj
    split at hj
    · split at hj
      · simp at hj
      · cases hj
    · rename_i e; exact ⟨fun e2 => e e2.symm, hj⟩
  have hnb : ∀ (j : Nat) c ds, (L.set k none)[j]? = some (some (c, ds)) → c ≠ b0 := fun j c ds hj e => by
    subst e; exact (key j _ ds hj).1 (h.apart j k _ _ _ (key j _ ds hj).2 hk)
  have hnY : ∀ (j : Nat) c ds, (L.set k none)[j]? = some (some (c, ds)) → c ∉ rowsX b0 m γ := fun j c ds hj hm => by
    rcases List.mem_cons.1 hm with e | hm
    · exact hnb j c ds hj e
    · obtain ⟨i, hi, e⟩ := List.mem_map.1 hm
      exact (h.froz _ _ (hP.mem i (by simpa using hi))).2 j c ds (key j c ds hj).2 e.symm
  have h2 : MemX X w0 w' (L.set k none) [] := ((h.drop k).sub [] (fun _ hx => by cases hx)).extY hx fun y hy => ⟨by
    rcases List.mem_cons.1 hy with e | hm
    · rw [e]; exact hb
    · obtain ⟨i, hi, rfl⟩ := List.mem_map.1 hm
      exact hge i (by simpa using hi), fun j c ds hj e => hnY j c ds hj (e ▸ hy), fun _ _ hm => by cases hm⟩
  have h3 := h2.addD' (D' := (b0, cs') :: (List.range m).map (fun i => (γ' i, R i))) fun c ds hm => by
    rcases List.mem_cons.1 hm with e | hm
    · simp only [Prod.mk.injEq] at e; obtain ⟨rfl, rfl⟩ := e; exact ⟨hb0, hnb⟩
    · obtain ⟨i, hi, e⟩ := List.mem_map.1 hm
      simp only [Prod.mk.injEq] at e; obtain ⟨rfl, rfl⟩ := e;have hi : i < m := by simpa using hi
      refine ⟨hbr i hi, fun j c ds hj e => ?_⟩
      rcases hfr i hi with h4 | h4
      · have := (h.blk j c ds (key j c ds hj).2).2.lt; omega
      · exact hnY j c ds hj (e ▸ h4)
  rwa [List.append_nil] at h3
end Go.Sw

namespace Go.Sw
theorem wordsSigns_nb : ∀ (c : Char) (r : List Char), c ≠ ' ' → wordsSigns (c :: r) = match wordsSigns r with
    | w :: ws => (c :: w) :: ws
    | [] => [[c]] := by
  intro c r h;rw [wordsSigns.eq_def]
  split
  · simp_all
  · rename_i heq; simp at heq; exact absurd heq.1 h
  · rename_i heq; simp only [List.cons.injEq] at heq; obtain ⟨rfl, rfl⟩ := heq; rfl
theorem wordsSigns_word : ∀ (w r : List Char), (∀ c ∈ w, c ≠ ' ') → wordsSigns (w ++ ' ' :: r) = w :: wordsSigns r
  | [], r, _ => by simp [wordsSigns]
  | c :: w, r, h => by
    rw [List.cons_append, wordsSigns_nb c _ (h c (by simp)), wordsSigns_word w r (fun d hd => h d (by simp [hd]))]
theorem sum_nb (s : List Char) (h : isSumSigns s = true) : ∀ c ∈ s, c ≠ ' ' := by
  intro c hc he
  unfold isSumSigns at h
  simp only [Bool.and_eq_true, List.all_eq_true] at h;have := h.2 c hc;subst he
  revert this; decide
theorem cutHead (L s r : List Char) (h : L = "harness".toList ++ ' ' :: (s ++ ' ' :: ("cut".toList ++ ' ' :: r))) (hs : isSumSigns s = true) :
    behindMainWord (wordsSigns L) = "cut".toList :: wordsSigns r := by
  rw [h, wordsSigns_word _ _ (by decide), wordsSigns_word _ _ (sum_nb s hs), wordsSigns_word _ _ (by decide)];have : ("harness".toList == "harness".toList || "harness".toList == "ownmain".toList) = true := by decide
  unfold behindMainWord
  show (if (("harness".toList == "harness".toList || "harness".toList == "ownmain".toList) && isSumSigns s) = true then _ else _) = _
  rw [if_pos (by rw [this, hs]; rfl)]
theorem strip_cut (R : List (List Char)) : stripLifts liftWords ("cut".toList :: R) = ([], "cut".toList :: R) := by
  kernel_rfl
theorem lifts_cut (P : Program) (R : List (List Char)) (h : behindMainWord (wordsSigns P.initOrder.toList) = "cut".toList :: R) : P.headLifts = [] := by
  unfold Program.headLifts; rw [h, strip_cut]; rfl
theorem make_cut (P : Program) (R : List (List Char)) (h : behindMainWord (wordsSigns P.initOrder.toList) = "cut".toList :: R) : P.make = some .cut := by
  unfold Program.make; rw [h]
  have h1 : ("cut".toList == "gc".toList || "cut".toList == "spec".toList) = false := by decide
  have h2 : ("cut".toList == "cut".toList) = true := by decide
  simp only [h1, h2]; rfl
theorem final_cut (P : Program) (R : List (List Char)) (h : behindMainWord (wordsSigns P.initOrder.toList) = "cut".toList :: R) : P.liftsFinal = false := by
  unfold Program.liftsFinal; rw [lifts_cut P R h, h]; kernel_rfl
theorem enter_cut (P : Program) (R : List (List Char)) (h : behindMainWord (wordsSigns P.initOrder.toList) = "cut".toList :: R)
    (hl : P.laysLater = false) (hb : P.bearsReflect = false) (hd : P.doorFits [] = true) : P.mayEnter = true := by
  unfold Program.mayEnter; rw [h]
  simp only [strip_cut, hl, hb, hd]
  kernel_rfl
end Go.Sw
