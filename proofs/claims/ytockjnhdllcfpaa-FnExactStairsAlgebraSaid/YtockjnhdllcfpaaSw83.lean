/- Plain lemmas of a small calculus for walks over frames and own memory; no statement of the seat is proved here. -/
import Derived.Test.YtockjnhdllcfpaaSw77
import Derived.Test.YtockjnhdllcfpaaSw74
import Derived.LaidEql
set_option linter.unusedVariables false
set_option linter.unusedSimpArgs false
namespace Go.Sw
open Go Go.RowKit Go.Ech
/-! ### Maps with numbers as keys, of the call's own or of its caller -/
def iKey (k : Int) : Value := .int .i64 k
def findI (k : Int) (es : List MapEntry) (i : Nat) : Option (Option (Nat × Value)) := Instr.findNow (.int .i64) (iKey k) es i
def IKeys (es : List MapEntry) : Prop := ∀ e, e ∈ es → ∃ k, e.key = iKey k
theorem findI_push {k q : Int} {v : Value} {c : Nat} : ∀ {es : List MapEntry} {i : Nat}, IKeys es → findI k (es ++ [{ key := iKey q, val := v, born := c }]) i = match findI k es i with
    | some (some r) => some (some r)
    | _ => if k = q then some (some (i + es.length, v)) else some none
  | [], i, _ => by
    unfold findI Instr.findNow
    simp only [List.nil_append, Instr.findNow, iKey, Instr.sameNow, if_pos rfl]
    by_cases e : k = q
    · subst e; simp
    · have : (k == q) = false := by simpa using e
      simp [this, e]
  | e :: es, i, h => by
    obtain ⟨p, hp⟩ := h e (List.mem_cons_self ..)
    have ih := findI_push (k := k) (q := q) (v := v) (c := c) (es := es) (i := i + 1) (fun e he => h e (List.mem_cons_of_mem _ he))
    unfold findI at *
    simp only [List.cons_append, Instr.findNow, hp, iKey, Instr.sameNow, ↓reduceIte]
    by_cases e2 : k = p
    · subst e2; simp
    · have : (k == p) = false := by simpa using e2
      simp only [this]
      simp only [iKey] at ih
      rw [ih]
      simp only [List.length_cons, Nat.add_assoc, Nat.add_comm 1]
theorem IKeys.push {es : List MapEntry} {q : Int} {v : Value} {c : Nat} (h : IKeys es) : IKeys (es ++ [{ key := iKey q, val := v, born := c }]) := fun e he => by
  rcases List.mem_append.1 he with he | he
  · exact h e he
  · simp only [List.mem_singleton] at he; subst he; exact ⟨q, rfl⟩
section
variable {P : Program} {n : Nat} {F : List (Nat × Value)} {a : Act} {w w0 : World} {d : Option Tmp} {t T kt et : TypeId} {pos : String} {af : Array Edge} {gd : Option (Nat × Bool)} {x y z : Operand} {X : List Nat} {L : Own} {D : Froz}
end
theorem IsMap.keep {w w' : World} {Y : List Nat} {b : Nat} {es : Array MapEntry} {c : Nat} (h : IsMap w b es c) (hx : ExtX Y w w') (hy : b ∉ Y) : IsMap w' b es c := by
  have hlt : b < w.heap.size := (Array.getElem?_eq_some_iff.1 h).1
  unfold IsMap
  rw [hx.block b hlt hy]; exact h
/-! ### Memory where blocks that are read were written -/
end Go.Sw

namespace Go.Sw
open Go Go.RowKit Go.Ech
/-! ### Nodes: sides and triangles -/
def sdC (k : Int) (tr nx tw fr to : Value) (ch : Int) : Array Value := #[.int .i64 k, tr, nx, tw, fr, to, .int .i64 ch]
def trC (i : Nat) (f : Nat → Value) : Array Value := fnC 4 (fun c => if c = 0 then .int .i64 (i : Int) else f (c - 1))
theorem trC_size (i : Nat) (f : Nat → Value) : (trC i f).size = 4 := fnC_size _ _
theorem trC_congr {i : Nat} {f g : Nat → Value} (h : ∀ j, j < 3 → f j = g j) : trC i f = trC i g := fnC_congr fun c hc => by
  by_cases e : c = 0
  · rw [if_pos e, if_pos e]
  · rw [if_neg e, if_neg e, h _ (by omega)]
end Go.Sw

namespace Go.Sw
open Go Go.RowKit
variable {P : Program}
/-! ### Labels and jumps. -/
def Exit.goes (J : Nat → Act → World → Prop) (Q : Exit → Act → World → Prop) : Exit → Act → World → Prop
  | .goto l, a, w => J l a w
  | e, a, w => Q e a w
section
variable {Q : Exit → Act → World → Prop} {J : Nat → Act → World → Prop} {K : Act → World → Prop} {a : Act} {w : World}
theorem gG {l : Nat} (h : J l a w) : Exit.goes J Q (.goto l) a w := h
end
section
variable {n : Nat} {F : List (Nat × Value)} {a : Act} {w : World} {d : Option Tmp} {t T : TypeId} {pos : String} {af : Array Edge} {gd : Option (Nat × Bool)} {x : Operand}
end
section
variable {P : Program} {fn : Func} {a : Act} {w : World}
end
end Go.Sw

namespace Go.Sw
open Go Go.RowKit Go.Ech
/-! ### A region that draws its order and only reads: whatever it stands on lasts -/
def factsV (l : List Value) : Facts Unit := fun i _ u _ => u = l.getD i undef
theorem IsMap.drew {w : World} {b : Nat} {es : Array MapEntry} {c : Nat} (h : IsMap w b es c) : IsMap w.drew b es c := h
end Go.Sw

namespace Go.Sw
open Go Go.RowKit Go.Ech
/-! ### Surfaces as nodes: sides by their places, with their twins -/
structure TwP (N : Nat) (K : Nat → Int) (tw : Nat → Nat) : Prop where
  lt : ∀ x, x < N → tw x < N
  ne : ∀ x, x < N → tw x ≠ x
  abs : ∀ x, x < N → (K (tw x)).natAbs = (K x).natAbs
  only : ∀ x y, x < N → y < N → (K y).natAbs = (K x).natAbs → y = x ∨ y = tw x
theorem TwP.inv {N : Nat} {K : Nat → Int} {tw : Nat → Nat} (h : TwP N K tw) {x : Nat} (hx : x < N) : tw (tw x) = x := by
  rcases h.only (tw x) x (h.lt x hx) hx (h.abs x hx).symm with e | e
  · exact absurd e.symm (h.ne x hx)
  · exact e.symm
def onP (c : Prop) [Decidable c] (b : Nat) : Value := if c then ptr b 0 else .pointer none
def nxt (x : Nat) : Nat := x / 3 * 3 + (x % 3 + 1) % 3
def frT (K : Nat → Int) (tw φ ψ : Nat → Nat) (x : Nat) : Nat := if tw x < x then (if K x = K (tw x) then φ (tw x) else ψ (tw x)) else φ x
def toT (K : Nat → Int) (tw φ ψ : Nat → Nat) (x : Nat) : Nat := if tw x < x then (if K x = K (tw x) then ψ (tw x) else φ (tw x)) else ψ x
def SC (K : Nat → Int) (tw τ σ φ ψ : Nat → Nat) (q u x : Nat) : Array Value := sdC (K x) (ptr (τ (x / 3)) 0) (onP (x < u) (σ (nxt x))) (onP (tw x < q) (σ (tw x))) (ptr (frT K tw φ ψ x) 0) (ptr (toT K tw φ ψ x) 0) 0
def TCv (σ : Nat → Nat) (i : Nat) : Array Value := trC i (fun j => ptr (σ (i * 3 + j)) 0)
structure Gr (D : Froz) (lo N : Nat) (K : Nat → Int) (tw : Nat → Nat) (q u t : Nat) (τ σ φ ψ : Nat → Nat) : Prop where
  sid : ∀ x, x < q → (σ x, SC K tw τ σ φ ψ q u x) ∈ D
  inj : ∀ x y, x < q → y < q → σ x = σ y → x = y
  tri : ∀ i, i < t → (τ i, TCv σ i) ∈ D
  tip : ∀ x, x < q → x < tw x → (φ x, #[.pointer none]) ∈ D ∧ (ψ x, #[.pointer none]) ∈ D
  tin : ∀ x y, x < q → y < q → x < tw x → y < tw y → (φ x = φ y → x = y) ∧ (ψ x = ψ y → x = y) ∧ φ x ≠ ψ y
  ge : ∀ b cs, (b, cs) ∈ D → lo ≤ b
theorem SC_congr {K : Nat → Int} {tw τ σ φ ψ τ' σ' φ' ψ' : Nat → Nat} {q u q' u' x : Nat} (h1 : τ' (x / 3) = τ (x / 3)) (h2 : x < u' ↔ x < u) (h3 : x < u → σ' (nxt x) = σ (nxt x)) (h4 : tw x < q' ↔ tw x < q) (h5 : tw x < q → σ' (tw x) = σ (tw x)) (h6 : frT K tw φ' ψ' x = frT K tw φ ψ x) (h7 : toT K tw φ' ψ' x = toT K tw φ ψ x) : SC K tw τ' σ' φ' ψ' q' u' x = SC K tw τ σ φ ψ q u x := by
  unfold SC onP
  rw [h1, h6, h7];have e1 : (if x < u' then ptr (σ' (nxt x)) 0 else Value.pointer none) = (if x < u then ptr (σ (nxt x)) 0 else Value.pointer none) := by
    by_cases e : x < u
    · rw [if_pos e, if_pos (h2.2 e), h3 e]
    · rw [if_neg e, if_neg (fun q => e (h2.1 q))]
  have e2 : (if tw x < q' then ptr (σ' (tw x)) 0 else Value.pointer none) = (if tw x < q then ptr (σ (tw x)) 0 else Value.pointer none) := by
    by_cases e : tw x < q
    · rw [if_pos e, if_pos (h4.2 e), h5 e]
    · rw [if_neg e, if_neg (fun q => e (h4.1 q))]
  rw [e1, e2]
theorem frT_up {K : Nat → Int} {tw φ ψ : Nat → Nat} {q b1 b2 x : Nat} (hx : x < q) : frT K tw (up φ q b1) (up ψ q b2) x = frT K tw φ ψ x ∧ toT K tw (up φ q b1) (up ψ q b2) x = toT K tw φ ψ x := by
  unfold frT toT
  by_cases e : tw x < x
  · simp only [if_pos e, up_ne (show tw x ≠ q by omega)]; exact ⟨trivial, trivial⟩
  · simp only [if_neg e, up_ne (show x ≠ q by omega)]; exact ⟨trivial, trivial⟩
theorem TCv_size {σ : Nat → Nat} {i : Nat} : (TCv σ i).size = 4 := trC_size _ _
section
variable {D D' : Froz} {lo N : Nat} {K : Nat → Int} {tw : Nat → Nat} {q u t : Nat} {τ σ φ ψ : Nat → Nat}
theorem nxt_lt {x u : Nat} (h : x < u) (hu : u ≤ q) (h3 : u % 3 = 0 ∨ q % 3 = 0) : nxt x < q := by unfold nxt; omega
theorem Gr.first (h : Gr D lo N K tw q u t τ σ φ ψ) (hT : TwP N K tw) (hq : q < N) (hf : q < tw q) (hu : u ≤ q) (hu3 : u % 3 = 0) (ht : t * 3 ≤ q) {bx b1 b2 : Nat} (hD : ∀ x, x ∈ D → x ∈ D')
    (hx : (bx, SC K tw τ (up σ q bx) (up φ q b1) (up ψ q b2) (q + 1) u q) ∈ D') (h1 : (b1, #[.pointer none]) ∈ D') (h2 : (b2, #[.pointer none]) ∈ D') (hbx : ∀ y ds, (y, ds) ∈ D → y ≠ bx) (hn1 : ∀ y ds, (y, ds) ∈ D → y ≠ b1) (hn2 : ∀ y ds, (y, ds) ∈ D → y ≠ b2) (h12 : b1 ≠ b2) (hge : ∀ b cs, (b, cs) ∈ D' → lo ≤ b) :
    Gr D' lo N K tw (q + 1) u t τ (up σ q bx) (up φ q b1) (up ψ q b2) := by
  refine ⟨fun x hx2 => ?_, fun x y hx2 hy e => ?_, fun i hi => ?_, fun x hx2 hfx => ?_, fun x y hx2 hy hfx hfy => ?_, hge⟩
  · by_cases e : x = q
    · subst e; rw [up_eq]; exact hx
    · rw [up_ne e]
      rw [SC_congr (x := x) (τ := τ) (σ := σ) (φ := φ) (ψ := ψ) (q := q) (u := u) rfl Iff.rfl (fun hl => up_ne (by have := nxt_lt (q := u) hl (Nat.le_refl _) (.inl hu3); omega)) (by
        constructor
        · intro h3
          rcases Nat.lt_or_ge (tw x) q with h4 | h4
          · exact h4
          · have : tw x = q := by omega
            have := hT.inv (x := x) (by omega)
            rename_i e5; rw [e5] at this; omega
        · intro h3; omega) (fun hl => up_ne (by omega)) (frT_up (by omega)).1 (frT_up (by omega)).2]
      exact hD _ (h.sid x (by omega))
  · by_cases e1 : x = q
    · by_cases e2 : y = q
      · omega
      · subst e1; rw [up_eq, up_ne e2] at e; exact absurd e.symm (hbx _ _ (h.sid y (by omega)))
    · by_cases e2 : y = q
      · subst e2; rw [up_eq, up_ne e1] at e; exact absurd e (hbx _ _ (h.sid x (by omega)))
      · rw [up_ne e1, up_ne e2] at e; exact h.inj x y (by omega) (by omega) e
  · have := h.tri i hi
    unfold TCv at *
    rw [trC_congr (g := fun j => ptr (σ (i * 3 + j)) 0) (fun j hj => by rw [up_ne (by omega)])];exact hD _ this
  · by_cases e : x = q
    · subst e; rw [up_eq, up_eq]; exact ⟨h1, h2⟩
    · rw [up_ne e, up_ne e]; exact ⟨hD _ (h.tip x (by omega) hfx).1, hD _ (h.tip x (by omega) hfx).2⟩
  · by_cases e1 : x = q
    · by_cases e2 : y = q
      · subst e1; subst e2; simp only [up_eq]; exact ⟨fun _ => trivial, fun _ => trivial, h12⟩
      · subst e1; simp only [up_eq, up_ne e2]
        have hy2 := h.tip y (by omega) hfy;exact ⟨fun e => absurd e.symm (hn1 _ _ hy2.1), fun e => absurd e.symm (hn2 _ _ hy2.2), fun e => hn1 _ _ hy2.2 e.symm⟩
    · by_cases e2 : y = q
      · subst e2; simp only [up_eq, up_ne e1]
        have hx3 := h.tip x (by omega) hfx;exact ⟨fun e => absurd e (hn1 _ _ hx3.1), fun e => absurd e (hn2 _ _ hx3.2), fun e => hn2 _ _ hx3.1 e⟩
      · simp only [up_ne e1, up_ne e2]; exact h.tin x y (by omega) (by omega) hfx hfy
theorem Gr.next (h : Gr D lo N K tw q u t τ σ φ ψ) (hu : u < q) (hsame : ∀ b cs ds, (b, cs) ∈ D → (b, ds) ∈ D → cs = ds) :
    Gr (updD D (σ u) (SC K tw τ σ φ ψ q (u + 1) u)) lo N K tw q (u + 1) t τ σ φ ψ := by
  have hy := h.sid u hu;have keep : ∀ b cs, (b, cs) ∈ D → b ≠ σ u → (b, cs) ∈ updD D (σ u) (SC K tw τ σ φ ψ q (u + 1) u) := fun b cs hb hn => mem_updD.2 (.inr ⟨hn, hb⟩);have hsz : ∀ b cs, (b, cs) ∈ D → cs.size ≠ 7 → b ≠ σ u := fun b cs hb hz e => by
    subst e;exact hz (by rw [hsame _ _ _ hb hy]; rfl)
  refine ⟨fun x hx2 => ?_, h.inj, fun i hi => ?_, fun x hx2 hfx => ?_, h.tin, fun b cs hb => ?_⟩
  · by_cases e1 : x = u
    · rw [e1]; exact mem_updD.2 (.inl ⟨rfl, rfl, _, hy⟩)
    · rw [SC_congr (x := x) (τ := τ) (σ := σ) (φ := φ) (ψ := ψ) (q := q) (u := u) rfl (by omega) (fun _ => rfl) Iff.rfl (fun _ => rfl) rfl rfl]
      exact keep _ _ (h.sid x hx2) (fun e3 => e1 (h.inj x u hx2 hu e3))
  · have := h.tri i hi
    exact keep _ _ this (hsz _ _ this (by rw [TCv_size]; omega))
  · have := h.tip x hx2 hfx
    exact ⟨keep _ _ this.1 (hsz _ _ this.1 (by decide)), keep _ _ this.2 (hsz _ _ this.2 (by decide))⟩
  · rcases mem_updD.1 hb with ⟨rfl, _, es, he⟩ | ⟨_, he⟩
    · exact h.ge _ _ he
    · exact h.ge _ _ he
theorem Gr.ready (h : Gr D lo N K tw q u t τ σ φ ψ) {b : Nat} (hb : τ t = b) (hlo : lo ≤ b) : Gr ((b, TCv σ t) :: D) lo N K tw q u (t + 1) τ σ φ ψ := by
  refine ⟨fun x hx2 => List.mem_cons_of_mem _ (h.sid x hx2), h.inj, fun i hi => ?_, fun x hx2 hfx => ⟨List.mem_cons_of_mem _ (h.tip x hx2 hfx).1, List.mem_cons_of_mem _ (h.tip x hx2 hfx).2⟩, h.tin, fun c cs hc => ?_⟩
  · by_cases e : i = t
    · rw [e, hb]; exact List.mem_cons_self ..
    · exact List.mem_cons_of_mem _ (h.tri i (by omega))
  · rcases List.mem_cons.1 hc with e | hc
    · simp only [Prod.mk.injEq] at e; rw [e.1]; exact hlo
    · exact h.ge _ _ hc
theorem Gr.none : Gr [] lo N K tw 0 0 0 τ σ φ ψ := ⟨fun x hx => absurd hx (by omega), fun x y hx => absurd hx (by omega), fun i hi => absurd hi (by omega), fun x hx => absurd hx (by omega), fun x y hx => absurd hx (by omega), fun b cs h => by cases h⟩
end
/-! ### The map of the sides that are met first -/
structure MpOk (es : List MapEntry) (K : Nat → Int) (tw σ : Nat → Nat) (q : Nat) : Prop where
  keys : IKeys es
  no : ∀ k : Nat, (∀ y, y < q → (K y).natAbs ≠ k) → findI (k : Int) es 0 = some none
  yes : ∀ y, y < q → y < tw y → ∃ ix, findI (((K y).natAbs : Nat) : Int) es 0 = some (some (ix, ptr (σ y) 0))
theorem MpOk.none {K : Nat → Int} {tw σ : Nat → Nat} : MpOk [] K tw σ 0 := ⟨fun e he => (by cases he), fun k _ => rfl, fun y hy => absurd hy (by omega)⟩
theorem MpOk.first {es : List MapEntry} {N : Nat} {K : Nat → Int} {tw σ : Nat → Nat} {q c bx : Nat} (h : MpOk es K tw σ q) (hT : TwP N K tw) (hq : q < N) (hf : q < tw q) : MpOk (es ++ [{ key := iKey (((K q).natAbs : Nat) : Int), val := ptr bx 0, born := c }]) K tw (up σ q bx) (q + 1) := by
  have hno : ∀ y, y < q → (K y).natAbs ≠ (K q).natAbs := fun y hy e => by
    rcases hT.only q y hq (by omega) e with e | e <;> omega
  refine ⟨h.keys.push, fun k hk => ?_, fun y hy hfy => ?_⟩
  · rw [findI_push h.keys, h.no k (fun y hy => hk y (by omega))]
    exact if_neg (fun e => hk q (by omega) (by omega))
  · by_cases e : y = q
    · subst e
      rw [findI_push h.keys, h.no _ (fun z hz => hno z hz), up_eq];exact ⟨_, if_pos rfl⟩
    · obtain ⟨ix, hix⟩ := h.yes y (by omega) hfy
      rw [findI_push h.keys, hix, up_ne e];exact ⟨ix, rfl⟩
end Go.Sw

namespace Go.Sw
open Go Go.RowKit Go.Ech
variable {P : Program}
/-! ### 'append', and what it leaves as it was: maps -/
section
variable {ops : Array Oper} {Q : Exit → Act → World → Prop} {rest : List Oper} {n : Nat} {F : List (Nat × Value)} {a : Act} {X : List Nat} {w w0 : World} {L : Own} {D : Froz}
variable {d : Option Tmp} {t : TypeId} {pos : String} {af : Array Edge} {gd : Option (Nat × Bool)} {T : TypeId} {x y : Operand}
end
/-! ### Memory behind a side that was linked -/
section
variable {K : Nat → Int} {tw τ σ φ ψ : Nat → Nat} {q u bx b1 b2 bT : Nat} {k : Int}
end
end Go.Sw

namespace Go.Sw
open Go Go.RowKit Go.Ech
section
variable {P : Program} {n : Nat} {F : List (Nat × Value)} {a : Act} {w : World} {d : Option Tmp} {t T T' e : TypeId} {pos : String} {af : Array Edge} {gd : Option (Nat × Bool)} {x y : Operand} {b1 b2 : Nat} {c1 c2 : Array Value}
/-! ### Pointers compared -/
end
end Go.Sw
