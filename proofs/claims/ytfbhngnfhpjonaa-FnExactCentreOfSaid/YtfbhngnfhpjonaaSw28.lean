/- Plain lemmas of a small calculus for walks over frames and own memory; no statement of the seat is proved here. -/
import Derived.Test.YtfbhngnfhpjonaaSw27
import Derived.Test.YtfbhngnfhpjonaaSw24
set_option linter.unusedVariables false
set_option linter.unusedSimpArgs false
namespace Go.Sw
open Go Go.RowKit
/-- What an operation of a region leaves: a value; a value that leads to a new block that is only read; the block that is written in the region. -/
inductive FactE where
  | val (v : Value)
  | frz (c : Array Value) (mk : Nat → Value)
  | own (mk : Nat → Value)
def factsE (kt : Nat) (l : List FactE) : Facts (Own × Froz) := fun i g u _ => match l[i]? with
  | some (.val v) => u = v
  | some (.frz c mk) => ∃ b, (b, c) ∈ g.2 ∧ u = mk b
  | some (.own mk) => ∃ b cs, u = mk b ∧ g.1[kt]? = some (some (b, cs))
  | none => True
def inE (c : Option (Array Value)) (b : Nat) (E : Froz) : Prop := match c with
  | none => True
  | some c => (b, c) ∈ E
theorem inE.more {c : Option (Array Value)} {b : Nat} {E : Froz} (h : inE c b E) (x : Nat × Array Value) : inE c b (x :: E) := by
  cases c with
  | none => trivial
  | some c => exact List.mem_cons_of_mem _ h
/-- Places L, of which kt is made and written in the region; blocks E that were made in it, only read. -/
def ParE (X : List Nat) (w0 : World) (D : Froz) (L0 : Own) (kt : Nat) (csO : Array Value) (c3 : Option (Array Value)) (csN : Nat → Array Value) (bb : Bool) (g : Own × Froz) (w : World) : Prop :=
  (MemX X w0 w g.1 (g.2 ++ D) ∧ Same [kt] L0 g.1) ∧ ∀ b cs, g.1[kt]? = some (some (b, cs)) → (bb = false → cs = csO) ∧ (bb = true → ∃ x, inE c3 x g.2 ∧ cs = csN x)
section
variable {P : Program} {X : List Nat} {w0 w : World} {D : Froz} {L0 : Own} {g : Own × Froz} {kt : Nat} {csO : Array Value} {c3 : Option (Array Value)} {csN : Nat → Array Value} {bb : Bool} {l : List FactE} {i : Nat} {o : Oper} {a : Act}
theorem factsE_more {E : Froz} {L : Own} {w' : World} (x : Nat × Array Value) (j : Nat) (u : Value) (h : factsE kt l j (L, E) u w) : factsE kt l j (L, x :: E) u w' := by
  unfold factsE at *
  cases e : l[j]? with
  | none => trivial
  | some f =>
    rw [e] at h
    cases f with
    | val v => exact h
    | frz c mk => obtain ⟨b, h1, h2⟩ := h; exact ⟨b, List.mem_cons_of_mem _ h1, h2⟩
    | own mk => exact h
theorem pe_val {v : Value} (hS : ParE X w0 D L0 kt csO c3 csN bb g w) (hi : l[i]? = some (.val v)) (hg : Gives P o a w v) : Does P o a w (AfterG (ParE X w0 D L0 kt csO c3 csN) (factsE kt l) bb i g w) :=
  hg.mono fun u w' ⟨h1, h2⟩ => by subst h2; exact ⟨g, hS, by unfold factsE; rw [hi]; exact h1, fun j u _ h => h⟩
theorem factsE_w {w' : World} (j : Nat) (u : Value) (h : factsE kt l j g u w) : factsE kt l j g u w' := h
theorem pe_call {v : Value} (hS : ParE X w0 D L0 kt csO c3 csN bb g w) (hi : l[i]? = some (.val v)) (hg : Does P o a w (fun u w' => Ext w w' ∧ u = v)) : Does P o a w (AfterG (ParE X w0 D L0 kt csO c3 csN) (factsE kt l) bb i g w) :=
  hg.mono fun u w' ⟨h1, h2⟩ => ⟨g, ⟨⟨hS.1.1.ext h1, hS.1.2⟩, hS.2⟩, by unfold factsE; rw [hi]; exact h2, fun j u _ h => h⟩
/-- Only operation i makes the block. -/
def ownOnly : List FactE → Nat → Nat → Bool
  | [], _, _ => true
  | .own _ :: r, i, s => Nat.beq s i && ownOnly r i (s + 1)
  | _ :: r, i, s => ownOnly r i (s + 1)
theorem ownOnly_spec {i : Nat} : ∀ {l : List FactE} {s : Nat}, ownOnly l i s = true → ∀ (j : Nat) mk, l[j]? = some (.own mk) → s + j = i
  | [], _, _, j, mk, h => by simp at h
  | x :: r, s, hb, j, mk, h => by
    cases j with
    | zero =>
      simp at h; subst h
      simp only [ownOnly, Bool.and_eq_true] at hb
      have := Nat.eq_of_beq_eq_true hb.1; omega
    | succ j =>
      have hr : ownOnly r i (s + 1) = true := by
        cases x with
        | own _ => simp only [ownOnly, Bool.and_eq_true] at hb; exact hb.2
        | val _ => exact hb
        | frz _ _ => exact hb
      have := ownOnly_spec hr j mk (by simpa using h)
      omega
/-- A value that leads to a block that was made before it. -/
theorem pe_frzv {c : Array Value} {mk : Nat → Value} {b : Nat} (hS : ParE X w0 D L0 kt csO c3 csN bb g w) (hi : l[i]? = some (.frz c mk)) (hb : (b, c) ∈ g.2) (hg : Gives P o a w (mk b)) : Does P o a w (AfterG (ParE X w0 D L0 kt csO c3 csN) (factsE kt l) bb i g w) :=
  hg.mono fun u w' ⟨h1, h2⟩ => by subst h2; exact ⟨g, hS, by unfold factsE; rw [hi]; exact ⟨b, hb, h1⟩, fun j u _ h => h⟩
/-- A call that hands back a block of its own. -/
theorem pe_frz {c : Array Value} {mk : Nat → Value} (hS : ParE X w0 D L0 kt csO c3 csN bb g w) (hi : l[i]? = some (.frz c mk)) (hg : Does P o a w (fun u w' => Ext w w' ∧ ∃ b, u = mk b ∧ w.heap.size ≤ b ∧ Blk w' b c)) :
    Does P o a w (AfterG (ParE X w0 D L0 kt csO c3 csN) (factsE kt l) bb i g w) :=
  hg.mono fun u w' ⟨hx, b, h1, h2, h3⟩ => by
    obtain ⟨L, E⟩ := g
    refine ⟨(L, (b, c) :: E), ⟨⟨?_, hS.1.2⟩, fun q cs hq => ?_⟩, by unfold factsE; rw [hi]; exact ⟨b, List.mem_cons_self .., h1⟩, fun j u _ h => factsE_more (b, c) j u h⟩
    · have := hS.1.1.addD (D' := [(b, c)]) hx (fun q cs hm => by simp at hm; obtain ⟨rfl, rfl⟩ := hm; exact ⟨h2, h3⟩)
      exact this
    · have h := hS.2 q cs hq
      exact ⟨h.1, fun e => by obtain ⟨x, h4, h5⟩ := h.2 e; exact ⟨x, h4.more _, h5⟩⟩
/-- The block that will be written is made. -/
theorem pe_own {mk : Nat → Value} (hS : ParE X w0 D L0 kt csO c3 csN false g w) (hi : l[i]? = some (.own mk)) (hkl : Nat.blt kt L0.length = true) (h1 : ownOnly l i 0 = true)
    (hg : Does P o a w (fun u w' => ∃ b, u = mk b ∧ MemX X w0 w' (g.1.set kt (some (b, csO))) (g.2 ++ D) ∧ Ext w w')) : Does P o a w (AfterG (ParE X w0 D L0 kt csO c3 csN) (factsE kt l) false i g w) :=
  hg.mono fun u w' ⟨b, hu, hM, hx⟩ => by
    obtain ⟨L, E⟩ := g
    have hkl' : kt < L.length := by rw [hS.1.2.1]; exact Nat.blt_eq.mp hkl
    refine ⟨(L.set kt (some (b, csO)), E), ⟨⟨hM, hS.1.2.set kt (by simp [memNat]) _⟩, fun c cs hc => ?_⟩, ?_, fun j u hj h => ?_⟩
    · simp [hkl'] at hc; exact ⟨fun _ => hc.2.symm, fun e => by cases e⟩
    · unfold factsE; rw [hi]; exact ⟨b, csO, hu, by simp [hkl']⟩
    · unfold factsE at *
      cases e : l[j]? with
      | none => trivial
      | some f =>
        rw [e] at h
        cases f with
        | val v => exact h
        | frz c mk => exact h
        | own mk' => exact absurd (by have := ownOnly_spec h1 j mk' e; omega) hj
/-- It is written. -/
theorem pe_store {ia : Nat} {mk : Nat → Value} {u : Value} {x : Nat} (hS : ParE X w0 D L0 kt csO c3 csN false g w) (hi : l[ia]? = some (.own mk)) (hu : factsE kt l ia g u w) (hx : inE c3 x g.2)
    (hg : ∀ b, u = mk b → MemX X w0 w g.1 (g.2 ++ D) → g.1[kt]? = some (some (b, csO)) → Does P o a w (fun _ w' => MemX X w0 w' (g.1.set kt (some (b, csN x))) (g.2 ++ D))) :
    Does P o a w (fun _ w' => AfterS (ParE X w0 D L0 kt csO c3 csN) (factsE kt l) true g w w') := by
  unfold factsE at hu
  rw [hi] at hu
  obtain ⟨b, cs, h3, h4⟩ := hu
  have h5 := (hS.2 b cs h4).1 rfl
  rw [h5] at h4
  obtain ⟨L, E⟩ := g
  have hkl : kt < L.length := (List.getElem?_eq_some_iff.1 h4).1
  refine (hg b h3 hS.1.1 h4).mono fun v w' hM => ⟨(L.set kt (some (b, csN x)), E), ⟨⟨hM, hS.1.2.set kt (by simp [memNat]) _⟩, fun c cs hc => ?_⟩, fun j u h => ?_⟩
  · simp [hkl] at hc; exact ⟨fun e => by (cases e), fun _ => ⟨x, hx, hc.2.symm⟩⟩
  · unfold factsE at *
    cases e : l[j]? with
    | none => trivial
    | some f =>
      rw [e] at h
      cases f with
      | val v => exact h
      | frz c mk => exact h
      | own mk' =>
        obtain ⟨c, ds, h6, h7⟩ := h
        rw [show (L, E).1 = L from rfl] at h7
        rw [show (L, E).1[kt]? = L[kt]? from rfl] at h4
        rw [h4] at h7
        simp at h7
        exact ⟨c, csN x, h6, by show (L.set kt (some (b, csN x)))[kt]? = _; simp [hkl, h7.1]⟩
end
/-- The blocks that a region made, those that are read later on. -/
theorem MemX.keepE {X : List Nat} {w0 w : World} {L : Own} {D E : Froz} {b : Nat} {c : Array Value} (h : MemX X w0 w L (E ++ D)) (hb : (b, c) ∈ E) : MemX X w0 w L ((b, c) :: D) :=
  h.sub _ fun x hx => by
    rcases List.mem_cons.1 hx with rfl | hx
    · exact List.mem_append_left _ hb
    · exact List.mem_append_right _ hx
theorem MemX.keep0 {X : List Nat} {w0 w : World} {L : Own} {D E : Froz} (h : MemX X w0 w L (E ++ D)) : MemX X w0 w L D := h.sub _ fun x hx => List.mem_append_right _ hx
end Go.Sw
