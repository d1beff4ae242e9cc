/- Plain lemmas of a small calculus for walks over frames and own memory; no statement of the seat is proved here. -/
import Derived.Test.YtcheokblafncbaaSw33
import Derived.Test.YtcheokblafncbaaSw29
import Derived.Test.YtcheokblafncbaaSw27
import Derived.Test.YtcheokblafncbaaEch
import Derived.JoinedOf
import Derived.KernelRfl
set_option linter.unusedVariables false
set_option linter.unusedSimpArgs false
namespace Go.Sw
open Go Go.RowKit Go.Ech
section
variable {X : List Nat} {w0 w w' : World} {L : Own} {D : Froz}
theorem MemX.startXA (X : List Nat) (k : Nat) (h : ∀ b cs, (b, cs) ∈ D → Blk w b cs) : MemX X w w (List.replicate k none) D :=
  ⟨ExtX.refl _ w, fun k b cs h => by simp [List.getElem?_replicate] at h, fun k j b cs ds h => by simp [List.getElem?_replicate] at h, fun b cs hm => ⟨h b cs hm, fun k c ds h => by simp [List.getElem?_replicate] at h⟩⟩
theorem MemX.updC (h : MemX X w0 w L D) {b : Nat} {cs cs' : Array Value} (hm : (b, cs) ∈ D) (ho : w0.heap.size ≤ b ∨ b ∈ X) (hx : ExtX [b] w w') (hb : Blk w' b cs') : MemX X w0 w' L (updD D b cs') := by
  have other : ∀ {c ds}, Blk w c ds → c ≠ b → Blk w' c ds := fun {c ds} hc hne => by
    obtain ⟨t, hc'⟩ := hc;exact ⟨t, (hx.block c (Blk.lt ⟨t, hc'⟩) (by simpa using hne)).trans hc'⟩
  refine ⟨⟨hx.os.trans h.bel.os, hx.tape.trans h.bel.tape, hx.output.trans h.bel.output, Nat.le_trans h.bel.size hx.size, fun i hi hix => ?_⟩, fun k c ds hk => ⟨(h.blk k c ds hk).1, other (h.blk k c ds hk).2 ((h.froz b cs hm).2 k c ds hk)⟩, h.apart, fun c ds hc => ?_⟩
  · refine (hx.block i (Nat.lt_of_lt_of_le hi h.bel.size) ?_).trans (h.bel.block i hi hix)
    intro e;have e : i = b := by simpa using e
    subst e
    rcases ho with e | e
    · omega
    · exact hix e
  · rcases mem_updD.1 hc with ⟨rfl, rfl, _⟩ | ⟨hne, hc⟩
    · exact ⟨hb, (h.froz c cs hm).2⟩
    · exact ⟨other (h.froz c ds hc).1 hne, (h.froz c ds hc).2⟩
def TabI (w w' : World) (n : Nat) (M : Nat → Nat → Nat) (u : Value) : Prop := ∃ (D : Froz) (β : Nat → Nat) (b : Nat) (cs : Array Value),
  (∀ x ds, (x, ds) ∈ D → w.heap.size ≤ x ∧ Blk w' x ds) ∧ RowsC D n β (fun i => rowI n (M i)) ∧ u = .slice (some ⟨b, 0, Option.none⟩) n n ∧ (∀ i, i < n → cs[0 + i * 1]? = some (.slice (some ⟨β i, 0, Option.none⟩) n n)) ∧ (b, cs) ∈ D ∧ ∀ i, i < n → β i ≠ b
theorem TabI.of {n q : Nat} {β : Nat → Nat} {M : Nat → Nat → Nat} {b : Nat} {cs : Array Value} (hM : Mem w w' L D) (hR : RowsC D n β (fun i => rowI n (M i))) (hq : L[q]? = some (some (b, cs))) (hg : ∀ i, i < n → cs[0 + i * 1]? = some (.slice (some ⟨β i, 0, Option.none⟩) n n)) (hge : ∀ i, i < n → w.heap.size ≤ β i) : TabI w w' n M (.slice (some ⟨b, 0, Option.none⟩) n n) := by
  refine ⟨(b, cs) :: (List.range n).map (fun i => (β i, rowI n (M i))), β, b, cs, fun x ds hx => ?_, ⟨fun i hi => mem_rowsD (R := fun i => rowI n (M i)) hi, hR.inj⟩, rfl, hg, List.mem_cons_self .., fun i hi e => (hM.froz _ _ (hR.mem i hi)).2 q b cs hq e.symm⟩
  rcases List.mem_cons.1 hx with e | hx
  · simp only [Prod.mk.injEq] at e; obtain ⟨rfl, rfl⟩ := e; exact ⟨hM.ge q hq, hM.row q hq⟩
  · obtain ⟨i, hi, e⟩ := List.mem_map.1 hx
    simp only [Prod.mk.injEq] at e; obtain ⟨rfl, rfl⟩ := e;have hi : i < n := by simpa using hi
    exact ⟨hge i hi, hM.fzm (hR.mem i hi)⟩
theorem MemX.marked {n : Nat} {β : Nat → Nat} {R R' : Nat → Array Value} (h : MemX X w0 w L D) (hC : RowsC D n β R) (hge : ∀ i, i < n → w0.heap.size ≤ β i) (hx : ExtX ((List.range n).map β) w w') (hb : ∀ i, i < n → Blk w' (β i) (R' i)) :
    ∃ DM : Froz, MemX X w0 w' L DM ∧ (∀ x ∈ D, (∀ i, i < n → x.1 ≠ β i) → x ∈ DM) ∧ RowsC DM n β R' := by
  have hY : ∀ y ∈ (List.range n).map β, ∃ i, i < n ∧ β i = y := fun y hy => by
    obtain ⟨i, hi, e⟩ := List.mem_map.1 hy; exact ⟨i, by simpa using hi, e⟩
  let E := D.filter (fun x => decide (∀ i, i < n → x.1 ≠ β i))
  have hE : ∀ x, x ∈ E ↔ x ∈ D ∧ ∀ i, i < n → x.1 ≠ β i := fun x => by
    show x ∈ D.filter _ ↔ _
    rw [List.mem_filter]; simp only [decide_eq_true_eq]
  have h1 := (h.sub E (fun x hx => ((hE x).1 hx).1)).extY hx fun y hy => by
    obtain ⟨i, hi, rfl⟩ := hY y hy;exact ⟨hge i hi, (h.froz _ _ (hC.mem i hi)).2, fun c ds hm => ((hE _).1 hm).2 i hi⟩
  have h2 := h1.addD' (D' := (List.range n).map (fun i => (β i, R' i))) fun c ds hm => by
    obtain ⟨i, hi, e⟩ := List.mem_map.1 hm;simp only [Prod.mk.injEq] at e; obtain ⟨rfl, rfl⟩ := e;have hi : i < n := by simpa using hi
    exact ⟨hb i hi, (h.froz _ _ (hC.mem i hi)).2⟩
  exact ⟨_, h2, fun x hx hn => List.mem_append_right _ ((hE x).2 ⟨hx, hn⟩), ⟨fun i hi => List.mem_append_left _ (List.mem_map.2 ⟨i, by simpa using hi, rfl⟩), hC.inj⟩⟩
end
theorem TabI.base {w w1 w' : World} {n : Nat} {M : Nat → Nat → Nat} {u : Value} (h : TabI w1 w' n M u) (hs : w.heap.size ≤ w1.heap.size) : TabI w w' n M u := by
  obtain ⟨D, β, b, cs, h1, h2⟩ := h;exact ⟨D, β, b, cs, fun x ds hm => ⟨Nat.le_trans hs (h1 x ds hm).1, (h1 x ds hm).2⟩, h2⟩
theorem TabOut.base {w w1 w' : World} {N k : Nat} {f : Nat → Nat → Value} {u : Value} (h : TabOut w1 w' N k f u) (hs : w.heap.size ≤ w1.heap.size) : TabOut w w' N k f u := by
  obtain ⟨D, β, κ, C, b, cap, cs, h1, h2⟩ := h;exact ⟨D, β, κ, C, b, cap, cs, fun x ds hm => ⟨Nat.le_trans hs (h1 x ds hm).1, (h1 x ds hm).2⟩, h2⟩
def FreshV (w0 : World) (L : Own) (N : Nat) (f : Nat → Value) (u : Value) (w' : World) : Prop := ∃ b cap cs, SlAt 6 u (some (b, cs)) N b cap cs f ∧ Blk w' b cs ∧ w0.heap.size ≤ b ∧ ∀ (k : Nat) c ds, L[k]? = some (some (c, ds)) → c ≠ b
theorem FreshV.last {w0 w w' : World} {L : Own} {N : Nat} {f : Nat → Value} {u : Value} (h : FreshV w0 L N f u w) (hx : Ext w w') : FreshV w0 L N f u w' := by
  obtain ⟨b, cap, cs, h1, h2, h3⟩ := h; exact ⟨b, cap, cs, h1, h2.ext hx, h3⟩
end Go.Sw

/-! Lists of numbers that are marked: number by number from k on. -/
namespace Go.Sw
open Go Go.RowKit
def mri (Z k t : Nat) (xs : Nat → Value) : Array Value := fnC Z (fun c => if c < t then .int .i64 (((k + c : Nat)) : Int) else xs c)
section
variable {Z k t : Nat} {xs : Nat → Value}
theorem mri_size : (mri Z k t xs).size = Z := fnC_size _ _
theorem mri_get {o c : Nat} (h : o = c) (hc : c < t) (ht : t ≤ Z) : (mri Z k t xs)[o]? = some (.int .i64 (((k + c : Nat)) : Int)) := by
  subst h; unfold mri; rw [fnC_get (by omega), if_pos hc]
theorem mri_set {o : Nat} (h : o = t) (ht : t < Z) : (mri Z k t xs).setIfInBounds o (.int .i64 (((k + t : Nat)) : Int)) = mri Z k (t + 1) xs := by
  subst h; unfold mri;refine fnC_set fun c hc => ?_
  by_cases e : c = o
  · subst e; rw [if_pos rfl, if_pos (by omega)]
  · rw [if_neg e]
    by_cases h : c < o
    · rw [if_pos h, if_pos (by omega)]
    · rw [if_neg h, if_neg (by omega)]
theorem mri_self (cs : Array Value) : cs = mri cs.size k 0 (fun c => cs[c]?.getD undef) := by
  unfold mri
  refine fnC_ext rfl fun c hc => ?_;rw [if_neg (by omega)]
  simp [hc]
end
end Go.Sw

namespace Go.Sw
open Go Go.RowKit
structure SSR (D : Froz) (u : Value) (m : Nat) (Ln : Nat → Nat) (F : Nat → Nat → Int) (b cap : Nat) (cs : Array Value) (β κ : Nat → Nat) (C : Nat → Array Value) : Prop where
  sl : SlAt 1 u (some (b, cs)) m b cap cs (fun i => .slice (some ⟨β i, 0, none⟩) (Ln i) (κ i))
  out : (b, cs) ∈ D
  rows : RowsC D m β C
  row : ∀ i, i < m → SlAt 1 (.slice (some ⟨β i, 0, none⟩) (Ln i) (κ i)) (some (β i, C i)) (Ln i) (β i) (κ i) (C i) (fun c => .int .i64 (F i c))
  ne : ∀ i, i < m → β i ≠ b
namespace SSR
variable {D D' : Froz} {u : Value} {m b cap : Nat} {Ln β κ : Nat → Nat} {F : Nat → Nat → Int} {cs : Array Value} {C : Nat → Array Value}
theorem more (h : SSR D u m Ln F b cap cs β κ C) (hs : ∀ x, x ∈ D → x ∈ D') : SSR D' u m Ln F b cap cs β κ C := ⟨h.sl, hs _ h.out, h.rows.more hs, h.row, h.ne⟩
theorem cell (h : SSR D u m Ln F b cap cs β κ C) (i : Nat) (hi : i < m) : cs[0 + i * 1]? = some (.slice (some ⟨β i, 0, none⟩) (Ln i) (κ i)) := h.sl.get1 i hi
theorem num (h : SSR D u m Ln F b cap cs β κ C) (i : Nat) (hi : i < m) (c : Nat) (hc : c < Ln i) : (C i)[0 + c * 1]? = some (.int .i64 (F i c)) := (h.row i hi).get1 c hc
theorem room (h : SSR D u m Ln F b cap cs β κ C) (i : Nat) (hi : i < m) : Ln i ≤ (C i).size := by
  have h1 := (h.row i hi).le;have h2 := (h.row i hi).sz
  omega
theorem congr {G : Nat → Nat → Int} (h : SSR D u m Ln F b cap cs β κ C) (e : ∀ i, i < m → ∀ c, c < Ln i → F i c = G i c) : SSR D u m Ln G b cap cs β κ C :=
  ⟨h.sl, h.out, h.rows, fun i hi => (h.row i hi).congr fun c hc => by rw [e i hi c (by omega)], h.ne⟩
end SSR
def SSOutR (w w' : World) (m : Nat) (Ln : Nat → Nat) (F : Nat → Nat → Int) (u : Value) : Prop := ∃ (D : Froz) (b cap : Nat) (cs : Array Value) (β κ : Nat → Nat) (C : Nat → Array Value), (∀ x ds, (x, ds) ∈ D → w.heap.size ≤ x ∧ Blk w' x ds) ∧ SSR D u m Ln F b cap cs β κ C
theorem SSOutR.of {w w' : World} {L : Own} {D : Froz} {m q : Nat} {Ln β κ : Nat → Nat} {C : Nat → Array Value} {F : Nat → Nat → Int} {u : Value} {b cap : Nat} {cs : Array Value} (hM : Mem w w' L D) (hR : RowsC D m β C)
    (hq : L[q]? = some (some (b, cs))) (hs : SlAt 1 u (some (b, cs)) m b cap cs (fun i => .slice (some ⟨β i, 0, none⟩) (Ln i) (κ i))) (hge : ∀ i, i < m → w.heap.size ≤ β i)
    (hr : ∀ i, i < m → SlAt 1 (.slice (some ⟨β i, 0, none⟩) (Ln i) (κ i)) (some (β i, C i)) (Ln i) (β i) (κ i) (C i) (fun c => .int .i64 (F i c))) : SSOutR w w' m Ln F u := by
  refine ⟨(b, cs) :: (List.range m).map (fun i => (β i, C i)), b, cap, cs, β, κ, C, fun x ds hx => ?_, hs, List.mem_cons_self .., ⟨fun i hi => ?_, hR.inj⟩, hr, fun i hi e => (hM.froz _ _ (hR.mem i hi)).2 q b cs hq e.symm⟩
  · rcases List.mem_cons.1 hx with e | hx
    · simp only [Prod.mk.injEq] at e; obtain ⟨rfl, rfl⟩ := e; exact ⟨hM.ge q hq, hM.row q hq⟩
    · obtain ⟨i, hi, e⟩ := List.mem_map.1 hx
      simp only [Prod.mk.injEq] at e; obtain ⟨rfl, rfl⟩ := e;have hi : i < m := by simpa using hi
      exact ⟨hge i hi, hM.fzm (hR.mem i hi)⟩
  · exact List.mem_cons_of_mem _ (List.mem_map.2 ⟨i, by simpa using hi, rfl⟩)
def xsf (C : Nat → Array Value) (i : Nat) : Nat → Value := fun c => ((C i)[c]?).getD undef
def mkR (C : Nat → Array Value) (Ln : Nat → Nat) (st : Nat → Nat) (i : Nat) : Array Value := mri (C i).size (st i) (Ln i) (xsf C i)
theorem mkR_0 (C : Nat → Array Value) (k i : Nat) : C i = mri (C i).size k 0 (xsf C i) := mri_self (C i)
theorem sep_new {X : List Nat} {w0 w w' : World} {L : Own} {D D' : Froz} {m : Nat} {β : Nat → Nat} {C : Nat → Array Value} (h : MemX X w0 w L D) (hD : ∀ x ds, (x, ds) ∈ D' → w.heap.size ≤ x ∧ Blk w' x ds) (hR : RowsC D' m β C) : ∀ i, i < m → ∀ x, x ∈ D → x.1 ≠ β i := fun i hi x hx e => by
  have h1 := (h.froz x.1 x.2 hx).1.lt
  have h2 := (hD _ _ (hR.mem i hi)).1
  omega
end Go.Sw

namespace Go.Sw
open Go Go.RowKit
/-! ### A region that draws its order, with one append among its operations -/
def factsA (l : List Fact) (s : Nat) : Facts (Own × Value) := fun i g u w => match Nat.beq i s with
  | true => u = g.2
  | false => factsOf l i g.1 u w
def ParA (X : List Nat) (w0 : World) (D : Froz) (W : List Nat) (L0 : Own) (kr N : Nat) (e0 : Option (Nat × Array Value)) (f : Nat → Value) (b : Bool) (g : Own × Value) (w : World) : Prop :=
  Par X w0 D (kr :: W) L0 g.1 w ∧ (b = false → g.1[kr]? = some e0) ∧ (b = true → ∃ e', g.1[kr]? = some e' ∧ Sl 1 g.2 e' N f)
section
variable {P : Program} {X : List Nat} {w0 w : World} {D : Froz} {W : List Nat} {L0 : Own} {kr N s i : Nat} {e0 : Option (Nat × Array Value)} {f : Nat → Value} {b : Bool} {g : Own × Value} {l : List Fact} {o : Oper} {a : Act}
theorem factsA_ne (h : Nat.beq i s = false) (u : Value) : factsA l s i g u w = factsOf l i g.1 u w := by unfold factsA; rw [h]
theorem ParA.drew (h : ParA X w0 D W L0 kr N e0 f b g w) : ParA X w0 D W L0 kr N e0 f b g w.drew := ⟨⟨h.1.1.ext (Below.drew (Below.refl _ _)), h.1.2⟩, h.2⟩
theorem ParA.mem (h : ParA X w0 D W L0 kr N e0 f b g w) (hW : holes (kr :: W) L0 = true) : MemX X w0 w L0 D := Par.mem h.1 hW
theorem pa_val {v : Value} (hS : ParA X w0 D W L0 kr N e0 f b g w) (hs : Nat.beq i s = false) (hi : l[i]? = some (.val v)) (hg : Gives P o a w v) : Does P o a w (AfterG (ParA X w0 D W L0 kr N e0 f) (factsA l s) b i g w) :=
  hg.mono fun u w' ⟨h1, h2⟩ => by subst h2; exact ⟨g, hS, by rw [factsA_ne hs]; exact fact_get hi h1, fun j u _ h => h⟩
theorem factsA_ext {w' : World} (hl : Lasts l) (hx : Ext w w') (j : Nat) (u : Value) (h : factsA l s j g u w) : factsA l s j g u w' := by
  unfold factsA at *
  cases e : Nat.beq j s with
  | true => rw [e] at h; exact h
  | false => rw [e] at h; exact facts_ext hl hx j u h
theorem pa_call {v : Value} (hl : Lasts l) (hS : ParA X w0 D W L0 kr N e0 f b g w) (hs : Nat.beq i s = false) (hi : l[i]? = some (.val v)) (hg : Does P o a w (fun u w' => Ext w w' ∧ u = v)) : Does P o a w (AfterG (ParA X w0 D W L0 kr N e0 f) (factsA l s) b i g w) :=
  hg.mono fun _ _ ⟨h1, h2⟩ => ⟨g, ⟨⟨hS.1.1.ext h1, hS.1.2⟩, hS.2⟩, by rw [factsA_ne hs]; exact fact_get hi h2, fun j u _ h => factsA_ext hl h1 j u h⟩
theorem pa_own {k : Nat} {cs : Array Value} {mk : Nat → Value} (hl : Lasts l) (hS : ParA X w0 D W L0 kr N e0 f b g w) (hs : Nat.beq i s = false) (hi : l[i]? = some (.own k cs mk)) (hk : memNat k W = true) (hkr : Nat.beq k kr = false) (hkl : Nat.blt k L0.length = true) (h1 : onePlace k i l 0 = true)
    (hg : Does P o a w (fun u w' => ∃ b, u = mk b ∧ MemX X w0 w' (g.1.set k (some (b, cs))) D ∧ Ext w w')) : Does P o a w (AfterG (ParA X w0 D W L0 kr N e0 f) (factsA l s) b i g w) :=
  hg.mono fun u w' ⟨bq, hu, hM, hx⟩ => by
    have hkl' : k < g.1.length := by rw [hS.1.2.1]; exact Nat.blt_eq.mp hkl
    have hne : ¬ k = kr := fun e => by subst e; simp at hkr
    have hmem : memNat k (kr :: W) = true := by simp only [memNat, hk, Bool.or_true]
    refine ⟨(g.1.set k (some (bq, cs)), g.2), ⟨⟨hM, hS.1.2.set k hmem _⟩, fun hb => ?_, fun hb => ?_⟩, ?_, fun j u hj h => ?_⟩
    · show (g.1.set k _)[kr]? = _
      rw [List.getElem?_set, if_neg hne]; exact hS.2.1 hb
    · obtain ⟨e', h3, h4⟩ := hS.2.2 hb
      exact ⟨e', by show (g.1.set k _)[kr]? = _; rw [List.getElem?_set, if_neg hne]; exact h3, h4⟩
    · rw [factsA_ne hs]; exact fact_get hi ⟨bq, hu, by simp [hkl']⟩
    · unfold factsA at *
      cases ej : Nat.beq j s with
      | true => rw [ej] at h; exact h
      | false =>
        rw [ej] at h
        have h2 := facts_ext hl hx j u h
        dsimp only at h2 ⊢
        unfold factsOf at *
        cases e : l[j]? with
        | none => trivial
        | some fq =>
          rw [e] at h2
          have hp := onePlace_spec h1 j fq e (by omega)
          cases fq with
          | val v => exact h2
          | rel R => exact h2
          | own q ds mk' =>
            obtain ⟨c, h3, h4⟩ := h2
            refine ⟨c, h3, ?_⟩
            rw [List.getElem?_set, if_neg (fun e => hp (by subst e; rfl))]; exact h4
def noPlace (k : Nat) : List Fact → Bool
  | [] => true
  | fq :: r => (match fq.place with | some q => !(Nat.beq q k) | none => true) && noPlace k r
theorem noPlace_spec {k : Nat} : ∀ {l : List Fact}, noPlace k l = true → ∀ (j : Nat) fq, l[j]? = some fq → fq.place ≠ some k
  | [], _, j, fq, h => by simp at h
  | x :: r, hb, j, fq, h => by
    simp only [noPlace, Bool.and_eq_true] at hb
    cases j with
    | zero =>
      simp at h; subst h
      intro hp; have := hb.1; rw [hp] at this; simp at this
    | succ j => exact noPlace_spec hb.2 j fq (by simpa using h)
def noRel : List Fact → Bool
  | [] => true
  | .rel _ :: _ => false
  | .val _ :: r => noRel r
  | .own _ _ _ :: r => noRel r
theorem noRel_spec : ∀ {l : List Fact}, noRel l = true → ∀ (j : Nat) R, l[j]? ≠ some (.rel R)
  | [], _, _, _, h => by cases h
  | .rel _ :: _, hb, _, _, _ => by cases hb
  | .val _ :: r, hb, j, R, h => by
    cases j with
    | zero => cases h
    | succ j => exact noRel_spec (l := r) hb j R h
  | .own _ _ _ :: r, hb, j, R, h => by
    cases j with
    | zero => cases h
    | succ j => exact noRel_spec (l := r) hb j R h
theorem pa_app (_hl : Lasts l) (hS : ParA X w0 D W L0 kr N e0 f false g w) (hn : noPlace kr l = true) (hr : noRel l = true) (hkl : Nat.blt kr L0.length = true)
    (hg : g.1[kr]? = some e0 → Does P o a w (fun u w' => ∃ e', MemX X w0 w' (g.1.set kr e') D ∧ Sl 1 u e' N f)) : Does P o a w (AfterG (ParA X w0 D W L0 kr N e0 f) (factsA l s) true s g w) :=
  (hg (hS.2.1 rfl)).mono fun u w' ⟨e', hM, hsl⟩ => by
    have hkl' : kr < g.1.length := by rw [hS.1.2.1]; exact Nat.blt_eq.mp hkl
    have hmem : memNat kr (kr :: W) = true := by simp [memNat]
    refine ⟨(g.1.set kr e', u), ⟨⟨hM, hS.1.2.set kr hmem _⟩, fun hb => (by cases hb), fun _ => ⟨e', by simp [hkl'], hsl⟩⟩, by unfold factsA; rw [show Nat.beq s s = true by simp], fun j u hj h => ?_⟩
    unfold factsA at *
    cases ej : Nat.beq j s with
    | true => exact absurd (Nat.eq_of_beq_eq_true ej) hj
    | false =>
      rw [ej] at h
      dsimp only at h ⊢
      unfold factsOf at *
      cases e : l[j]? with
      | none => trivial
      | some fq =>
        rw [e] at h
        have hp := noPlace_spec hn j fq e
        cases fq with
        | val v => exact h
        | rel R => exact absurd e (noRel_spec hr j R)
        | own q ds mk' =>
          obtain ⟨c, h3, h4⟩ := h
          refine ⟨c, h3, ?_⟩
          rw [List.getElem?_set, if_neg (fun e => hp (by subst e; rfl))]; exact h4
end
end Go.Sw

namespace Go.Sw
theorem wordsSigns_nb : ∀ (c : Char) (r : List Char), c ≠ ' ' → wordsSigns (c :: r) = match wordsSigns r with
    | w :: ws => (c :: w) :: ws
    | [] => [[c]] := by
  intro c r h;rw [wordsSigns.eq_def]
  split
  · simp_all
  · rename_i heq; simp at heq; exact absurd heq.1 h
  · rename_i heq; simp only [List.cons.injEq] at heq; obtain ⟨rfl, rfl⟩ := heq; rfl
theorem wordsSigns_word : ∀ (w r : List Char), (∀ c ∈ w, c ≠ ' ') → wordsSigns (w ++ ' ' :: r) = w :: wordsSigns r
  | [], r, _ => by simp [wordsSigns]
  | c :: w, r, h => by
    rw [List.cons_append, wordsSigns_nb c _ (h c (by simp)), wordsSigns_word w r (fun d hd => h d (by simp [hd]))]
theorem sum_nb (s : List Char) (h : isSumSigns s = true) : ∀ c ∈ s, c ≠ ' ' := by
  intro c hc he
  unfold isSumSigns at h
  simp only [Bool.and_eq_true, List.all_eq_true] at h;have := h.2 c hc;subst he
  revert this; decide
theorem cutHead (L s r : List Char) (h : L = "harness".toList ++ ' ' :: (s ++ ' ' :: ("cut".toList ++ ' ' :: r))) (hs : isSumSigns s = true) :
    behindMainWord (wordsSigns L) = "cut".toList :: wordsSigns r := by
  rw [h, wordsSigns_word _ _ (by decide), wordsSigns_word _ _ (sum_nb s hs), wordsSigns_word _ _ (by decide)];have : ("harness".toList == "harness".toList || "harness".toList == "ownmain".toList) = true := by decide
  unfold behindMainWord
  show (if (("harness".toList == "harness".toList || "harness".toList == "ownmain".toList) && isSumSigns s) = true then _ else _) = _
  rw [if_pos (by rw [this, hs]; rfl)]
theorem strip_cut (R : List (List Char)) : stripLifts liftWords ("cut".toList :: R) = ([], "cut".toList :: R) := by
  kernel_rfl
theorem lifts_cut (P : Program) (R : List (List Char)) (h : behindMainWord (wordsSigns P.initOrder.toList) = "cut".toList :: R) : P.headLifts = [] := by
  unfold Program.headLifts; rw [h, strip_cut]; rfl
theorem make_cut (P : Program) (R : List (List Char)) (h : behindMainWord (wordsSigns P.initOrder.toList) = "cut".toList :: R) : P.make = some .cut := by
  unfold Program.make; rw [h]
  have h1 : ("cut".toList == "gc".toList || "cut".toList == "spec".toList) = false := by decide
  have h2 : ("cut".toList == "cut".toList) = true := by decide
  simp only [h1, h2]; rfl
theorem final_cut (P : Program) (R : List (List Char)) (h : behindMainWord (wordsSigns P.initOrder.toList) = "cut".toList :: R) : P.liftsFinal = false := by
  unfold Program.liftsFinal; rw [lifts_cut P R h, h]; kernel_rfl
theorem enter_cut (P : Program) (R : List (List Char)) (h : behindMainWord (wordsSigns P.initOrder.toList) = "cut".toList :: R)
    (hl : P.laysLater = false) (hb : P.bearsReflect = false) (hd : P.doorFits [] = true) : P.mayEnter = true := by
  unfold Program.mayEnter; rw [h]
  simp only [strip_cut, hl, hb, hd]
  kernel_rfl
end Go.Sw
