/- Plain lemmas of a small calculus for walks over frames and own memory; no statement of the seat is proved here. -/
import Derived.Test.YtficgmohfabplaaSw4
set_option linter.unusedVariables false
set_option linter.unusedSimpArgs false
namespace Go.Sw
open Go Go.RowKit
variable {P : Program}

inductive Fact where
  | val (v : Value)
  | own (k : Nat) (cs : Array Value) (mk : Nat → Value)
  | rel (R : Value → World → Prop)
def Fact.sem : Fact → Own → Value → World → Prop
  | .val v, _, u, _ => u = v
  | .own k cs mk, L, u, _ => ∃ b, u = mk b ∧ L[k]? = some (some (b, cs))
  | .rel R, _, u, w => R u w
def Fact.place : Fact → Option Nat
  | .own k _ _ => some k
  | _ => none
def factsOf (l : List Fact) : Facts Own := fun i L u w => match l[i]? with
  | some f => f.sem L u w
  | none => True
/-- Facts of world and value last while memory only grows. -/
def Lasts : List Fact → Prop
  | [] => True
  | .rel R :: r => (∀ u w w', R u w → Ext w w' → R u w') ∧ Lasts r
  | _ :: r => Lasts r
theorem Lasts.get : ∀ {l : List Fact}, Lasts l → ∀ (i : Nat) R, l[i]? = some (.rel R) → ∀ u w w', R u w → Ext w w' → R u w'
  | [], _, i, R, h => by simp at h
  | f :: r, hl, i, R, h => by
    cases i with
    | zero => simp at h; subst h; exact hl.1
    | succ i =>
      have hr : Lasts r := by cases f <;> first | exact hl | exact hl.2
      exact Lasts.get hr i R (by simpa using h)
/-- No other operation's fact is on place k. -/
def onePlace (k i : Nat) : List Fact → Nat → Bool
  | [], _ => true
  | f :: r, j => (Nat.beq j i || (match f.place with | some q => !(Nat.beq q k) | none => true)) && onePlace k i r (j + 1)
theorem onePlace_spec {k i : Nat} : ∀ {l : List Fact} {s : Nat}, onePlace k i l s = true → ∀ (j : Nat) f, l[j]? = some f → s + j ≠ i → f.place ≠ some k
  | [], _, _, j, f, h, _ => by simp at h
  | x :: r, s, hb, j, f, h, hne => by
    simp only [onePlace, Bool.and_eq_true, Bool.or_eq_true] at hb
    cases j with
    | zero =>
      simp at h; subst h
      rcases hb.1 with e | e
      · exact absurd (Nat.eq_of_beq_eq_true e) (by simpa using hne)
      · intro hp; rw [hp] at e; simp at e
    | succ j => exact onePlace_spec hb.2 j f (by simpa using h) (by omega)

/-- But for the places W the list is as it was. -/
def Same (W : List Nat) (L0 L : Own) : Prop := L.length = L0.length ∧ ∀ k, memNat k W = false → L[k]? = L0[k]?
theorem Same.refl (W : List Nat) (L : Own) : Same W L L := ⟨rfl, fun _ _ => rfl⟩
theorem Same.set {W : List Nat} {L0 L : Own} (h : Same W L0 L) (k : Nat) (hk : memNat k W = true) (x : Option (Nat × Array Value)) : Same W L0 (L.set k x) :=
  ⟨by simpa using h.1, fun j hj => by
    rw [List.getElem?_set]
    have : ¬ k = j := fun e => by subst e; rw [hk] at hj; cases hj
    rw [if_neg this]; exact h.2 j hj⟩
theorem Same.take {W : List Nat} {L0 L : Own} {k : Nat} {x : Option (Nat × Array Value)} (h : Same (k :: W) L0 L) (hk : L[k]? = some x) : Same W (L0.set k x) L :=
  ⟨by simpa using h.1, fun j hj => by
    rw [List.getElem?_set]
    by_cases e : k = j
    · subst e
      have : k < L0.length := by rw [← h.1]; exact (List.getElem?_eq_some_iff.1 hk).1
      rw [if_pos rfl, if_pos this]; exact hk
    · rw [if_neg e]
      refine h.2 j ?_
      simp only [memNat, hj, Bool.or_false]
      exact beqF (fun x => e x.symm)⟩
theorem Same.eq {L0 L : Own} (h : Same [] L0 L) : L = L0 := List.ext_getElem? fun k => h.2 k rfl
def holes : List Nat → Own → Bool
  | [], _ => true
  | k :: W, L => (match L[k]? with | some (some _) => false | _ => true) && holes W L
theorem holes_spec : ∀ {W : List Nat} {L : Own}, holes W L = true → ∀ k x, memNat k W = true → L[k]? ≠ some (some x)
  | [], _, _, k, x, h => by simp [memNat] at h
  | j :: W, L, hb, k, x, h => by
    simp only [holes, Bool.and_eq_true] at hb
    simp only [memNat, Bool.or_eq_true] at h
    rcases h with e | h
    · obtain rfl := Nat.eq_of_beq_eq_true e
      intro hx; rw [hx] at hb; cases hb.1
    · exact holes_spec hb.2 k x h

section
variable {ops : List Oper} {Q : Exit → Act → World → Prop} {n : Nat} {F : List (Nat × Value)} {a : Act} {X : List Nat} {w w0 : World} {L L0 : Own} {D : Froz} {W : List Nat} {l : List Fact} {o : Oper} {i : Nat}
def Par (X : List Nat) (w0 : World) (D : Froz) (W : List Nat) (L0 : Own) (L : Own) (w : World) : Prop := MemX X w0 w L D ∧ Same W L0 L
theorem Par.mem (h : Par X w0 D W L0 L w) (hW : holes W L0 = true) : MemX X w0 w L0 D := by
  have key : ∀ (j : Nat) b cs, L0[j]? = some (some (b, cs)) → L[j]? = some (some (b, cs)) := by
    intro j b cs hj
    rw [h.2.2 j ?_]; exact hj
    cases e : memNat j W with
    | false => rfl
    | true => exact absurd hj (holes_spec hW j _ e)
  exact ⟨h.1.bel, fun k b cs hk => h.1.blk k b cs (key k b cs hk), fun k j b cs ds hk hj => h.1.apart k j b cs ds (key k b cs hk) (key j b ds hj),
    fun b cs hm => ⟨(h.1.froz b cs hm).1, fun k c ds hk => (h.1.froz b cs hm).2 k c ds (key k c ds hk)⟩⟩
theorem fact_get {f : Fact} {u : Value} (hi : l[i]? = some f) (h : f.sem L u w) : factsOf l i L u w := by unfold factsOf; rw [hi]; exact h
theorem par_val {v : Value} (hS : Par X w0 D W L0 L w) (hi : l[i]? = some (.val v)) (hg : Gives P o a w v) : Does P o a w (After (Par X w0 D W L0) (factsOf l) i L w) :=
  hg.mono fun u w' ⟨h1, h2⟩ => by subst h2; exact ⟨L, hS, fact_get hi h1, fun j u _ h => h⟩
theorem facts_ext (hl : Lasts l) {w' : World} (hx : Ext w w') (j : Nat) (u : Value) (h : factsOf l j L u w) : factsOf l j L u w' := by
  unfold factsOf at *
  cases e : l[j]? with
  | none => trivial
  | some f =>
    rw [e] at h
    cases f with
    | val v => exact h
    | own k cs mk => exact h
    | rel R => exact hl.get j R e u _ _ h hx
theorem par_call {v : Value} (hl : Lasts l) (hS : Par X w0 D W L0 L w) (hi : l[i]? = some (.val v)) (hg : Does P o a w (fun u w' => Ext w w' ∧ u = v)) : Does P o a w (After (Par X w0 D W L0) (factsOf l) i L w) :=
  hg.mono fun _ _ ⟨h1, h2⟩ => ⟨L, ⟨hS.1.ext h1, hS.2⟩, fact_get hi h2, fun j u _ h => facts_ext hl h1 j u h⟩
theorem par_rel {R R' : Value → World → Prop} (hl : Lasts l) (hS : Par X w0 D W L0 L w) (hi : l[i]? = some (.rel R)) (hg : Does P o a w (fun u w' => Ext w w' ∧ R' u w')) (hR : ∀ u w', R' u w' → R u w') : Does P o a w (After (Par X w0 D W L0) (factsOf l) i L w) :=
  hg.mono fun _ _ ⟨h1, h2⟩ => ⟨L, ⟨hS.1.ext h1, hS.2⟩, fact_get hi (hR _ _ h2), fun j u _ h => facts_ext hl h1 j u h⟩
theorem par_own {k : Nat} {cs : Array Value} {mk : Nat → Value} (hl : Lasts l) (hS : Par X w0 D W L0 L w) (hi : l[i]? = some (.own k cs mk)) (hk : memNat k W = true) (hkl : Nat.blt k L0.length = true) (h1 : onePlace k i l 0 = true)
    (hg : Does P o a w (fun u w' => ∃ b, u = mk b ∧ MemX X w0 w' (L.set k (some (b, cs))) D ∧ Ext w w')) : Does P o a w (After (Par X w0 D W L0) (factsOf l) i L w) :=
  hg.mono fun u w' ⟨b, hu, hM, hx⟩ => by
    have hkl' : k < L.length := by rw [hS.2.1]; exact Nat.blt_eq.mp hkl
    refine ⟨L.set k (some (b, cs)), ⟨hM, hS.2.set k hk _⟩, fact_get hi ⟨b, hu, by simp [hkl']⟩, fun j u hj h => ?_⟩
    have h2 := facts_ext hl hx j u h
    unfold factsOf at *
    cases e : l[j]? with
    | none => trivial
    | some f =>
      rw [e] at h2
      have hp := onePlace_spec h1 j f e (by omega)
      cases f with
      | val v => exact h2
      | rel R => exact h2
      | own q ds mk' =>
        obtain ⟨c, h3, h4⟩ := h2
        refine ⟨c, h3, ?_⟩
        rw [List.getElem?_set, if_neg (fun e => hp (by subst e; rfl))]; exact h4

/-- A region that draws its order, over own memory. -/
theorem c_par {id : Nat} (k : Nat) (W : List Nat) (l : List Fact) (hm : P.follows .mixedOrders = true) (hk : tailOk ops k = true) (hF : Fr n a F) (hdst : dstsOk n F (ops.take k) [] = true) (hM : MemX X w0 w L0 D)
    (hsteps : StepsOk P ops k n F (Par X w0 D W L0) (factsOf l) (ops.take k) 0)
    (hend : ∀ a w L, Fr n a F → Par X w0 D W L0 L w → (∀ i, Nat.blt i k = true → Nat.blt i ops.length = true → factsOf l i L (a.tmps.getD (dstOf ops i) undef) w) → wpList P ops.toArray Q (ops.drop k) a w) :
    (Code.region id ops.toArray true).wp P Q a w :=
  c_draw (S := Par X w0 D W L0) hm hk hF hdst L0 ⟨hM, Same.refl W L0⟩ (fun _ h => ⟨h.1.ext (Below.drew (Below.refl _ _)), h.2⟩) (factsOf l) hsteps
    (fun a w L hF hS hq => hend a w L hF hS fun i h1 h2 => hq i (Nat.blt_eq.mp h1) (Nat.blt_eq.mp h2))
theorem Fr.ext1 (h : Fr n a F) (d : Nat) {v : Value} (hv : a.tmps.getD d undef = v) : Fr n a ((d, v) :: F) :=
  ⟨h.defers, h.size, fun t u hu => by
    simp only [lk] at hu
    by_cases e : d = t
    · subst e; simp at hu; subst hu; exact hv
    · rw [beqF e] at hu; exact h.get t u hu⟩
end
end Go.Sw
namespace Go.Sw
open Go Go.RowKit
variable {P : Program}
section
variable {Q : Exit → Act → World → Prop} {K : Act → World → Prop} {a : Act} {w : World} {id : Nat}
theorem sq {x y : Code} (h : x.wp P (Exit.then (fun a w => y.wp P Q a w) Q) a w) : (x.seq y).wp P Q a w := c_seq _ h fun _ _ h => h
theorem tN (h : K a w) : Exit.then K Q .normal a w := h
theorem tX {i : Nat} (h : Q (.exit i) a w) : Exit.then K Q (.exit i) a w := h
theorem tR (h : Q .ret a w) : Exit.then K Q .ret a w := h
theorem iN (h : Q .normal a w) : Exit.inBlock id Q .normal a w := h
theorem iR (h : Q .ret a w) : Exit.inBlock id Q .ret a w := h
end
/-- n cells told by a function. -/
def fnC (n : Nat) (f : Nat → Value) : Array Value := ((List.range n).map f).toArray
theorem fnC_size (n : Nat) (f : Nat → Value) : (fnC n f).size = n := by simp [fnC]
theorem fnC_get {n : Nat} {f : Nat → Value} {i : Nat} (h : i < n) : (fnC n f)[i]? = some (f i) := by simp [fnC, h]
theorem fnC_congr {n : Nat} {f g : Nat → Value} (h : ∀ i, i < n → f i = g i) : fnC n f = fnC n g := by
  unfold fnC; congr 1; exact List.map_congr_left (by simpa using h)
theorem fnC_ext {n : Nat} {f : Nat → Value} {c : Array Value} (hs : c.size = n) (h : ∀ i, i < n → c[i]? = some (f i)) : c = fnC n f := by
  apply Array.ext_getElem?
  intro i
  by_cases hi : i < n
  · rw [h i hi, fnC_get hi]
  · rw [Array.getElem?_eq_none (by omega), Array.getElem?_eq_none (by rw [fnC_size]; omega)]
theorem fnC_set {n : Nat} {f : Nat → Value} {i : Nat} {v : Value} {g : Nat → Value} (h : ∀ j, j < n → g j = if j = i then v else f j) : (fnC n f).setIfInBounds i v = fnC n g := by
  apply fnC_ext (by simp [fnC_size])
  intro j hj
  rw [Array.getElem?_setIfInBounds, h j hj]
  by_cases e : i = j
  · subst e; simp [fnC_size, hj]
  · rw [if_neg e, if_neg (fun x => e x.symm), fnC_get hj]
theorem fnC_one {n : Nat} {f : Nat → Value} (h : ∀ i, i < n → (f i).oneCell' = true) : ∀ v ∈ (fnC n f).toList, v.oneCell' = true := by
  intro v hv
  simp [fnC] at hv
  obtain ⟨i, hi, rfl⟩ := hv
  exact h i hi
end Go.Sw
