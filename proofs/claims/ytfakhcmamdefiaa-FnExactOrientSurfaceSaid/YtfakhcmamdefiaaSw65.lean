/- Plain lemmas of a small calculus for walks over frames and own memory; no statement of the seat is proved here. -/
import Derived.Test.YtfakhcmamdefiaaSw23
import Derived.Test.YtfakhcmamdefiaaSw27
import Derived.Test.YtfakhcmamdefiaaSw21
import Derived.Test.YtfakhcmamdefiaaSw9
import Derived.Recover
import Derived.Test.YtfakhcmamdefiaaSw22
import Derived.Test.YtfakhcmamdefiaaEch
set_option linter.unusedVariables false
set_option linter.unusedSimpArgs false
namespace Go.Sw
open Go Go.RowKit Go.ChangeShapes Go.WideShapes Go.ChangeAt
def ArgVs (w : World) (sl : Value) (m : Nat) (V : Nat → Nat → Nat) : Prop :=
  (∃ x c, sl = .slice x m c) ∧ (0 < m → ∃ b o c, sl = .slice (some ⟨b, o, none⟩) m c ∧ ∀ i, i < m → ∀ j, j < 6 → w.cell? ⟨b, o + i * 6 + j, none⟩ = some (.int .u8 (V i j : Int)))
theorem ArgVs.ext {w w' : World} {sl : Value} {m : Nat} {V : Nat → Nat → Nat} (h : ArgVs w sl m V) (hx : Ext w w') : ArgVs w' sl m V :=
  ⟨h.1, fun hm => by obtain ⟨b, o, c, h1, h3⟩ := h.2 hm; exact ⟨b, o, c, h1, fun i hi j hj => cell_ext (h3 i hi j hj) hx⟩⟩
theorem ArgVs.one {w : World} {sl : Value} {m : Nat} {V : Nat → Nat → Nat} (h : ArgVs w sl m V) : sl.oneCell' = true := by
  obtain ⟨⟨x, c, rfl⟩, _⟩ := h; rfl
section
variable {P : Program} {n : Nat} {F : List (Nat × Value)} {a : Act} {w : World} {d : Option Tmp} {t : TypeId} {pos : String} {af : Array Edge} {gd : Option (Nat × Bool)} {x : Operand}
end
section
variable {H : Type} {enc : TypeId × Value → H} {P : Program} {w w' : World} {base : Nat} {spare : Nat → Bool} {held : Bool}
theorem cells?_get {a : Addr} {n : Nat} {cs : List Value} (h : w.cells? base a n = some cs) : cs.length = n ∧ ∀ i, i < n → w.cell? (a.add i) = cs[i]? := by
  unfold World.cells? at h
  split at h
  · have hl := mapM_some_length h
    rw [List.length_range] at hl;refine ⟨hl.symm ▸ rfl, fun i hi => ?_⟩;have := mapM_some_get h i i (by rw [List.getElem?_range hi]);exact this
  · cases h
end
section
variable {H : Type} {enc : TypeId × Value → H} {P : Program} {w : World} {base : Nat} {spare : Nat → Bool} {held : Bool}
end
section
variable {P : Program} {X : List Nat} {w0 w : World} {L : Own} {D : Froz} {n : Nat} {F : List (Nat × Value)} {a : Act} {d : Option Tmp} {T : TypeId} {t : TypeId} {pos : String} {af : Array Edge} {gd : Option (Nat × Bool)} {x y : Operand}
end
end Go.Sw

namespace Go.Sw
open Go Go.RowKit Go.ChangeShapes Go.WideShapes Go.ChangeAt
def grpC (n : Int) (M : Nat → Nat → Nat) : Array Value := fnC 37 fun c => if c = 0 then .int .i64 n else .int .u8 (M ((c - 1) / 6) ((c - 1) % 6))
section
variable {n q : Int} {M N : Nat → Nat → Nat}
theorem grpC_size : (grpC n M).size = 37 := fnC_size _ _
end
def grpKs : List IntKind := .i64 :: List.replicate 36 .u8
section
variable {H : Type} {enc : TypeId × Value → H} {P : Program} {w : World} {base : Nat} {spare : Nat → Bool} {held : Bool} {t : TypeId} {v : Value} {d : DataW H} {p : List MemPlace}
end
end Go.Sw

namespace Go.Sw
open Go Go.RowKit
variable {P : Program}
/-! ### Deferred calls: what was laid before lies behind the frame. -/
def addD (ds : List Deferred) (a : Act) : Act := ⟨a.tmps, a.defers ++ ds⟩
section
variable {ds : List Deferred} {ops : Array Oper} {Q : Exit → Act → World → Prop} {n : Nat} {F : List (Nat × Value)} {a : Act} {w : World}
end
end Go.Sw

namespace Go.Sw
open Go Go.RowKit
variable {P : Program}
section
variable {n : Nat} {F : List (Nat × Value)} {a : Act} {w : World} {d : Option Tmp} {t : TypeId} {pos : String} {af : Array Edge} {gd : Option (Nat × Bool)} {T : TypeId} {x y : Operand}
end
end Go.Sw

namespace Go.Sw
open Go Go.RowKit
variable {P : Program}
/-! ### A door: a deferred closure that recovers. -/
section
variable {ops : Array Oper} {Q : Exit → Act → World → Prop} {rest : List Oper} {n : Nat} {F : List (Nat × Value)} {a : Act} {w : World} {d : Option Tmp} {t : TypeId} {pos : String} {af : Array Edge} {gd : Option (Nat × Bool)}
theorem d_callV {f : FuncId} {x : Operand} {cap : List Value} {xs : List Operand} {vs : List Value} {ats : Array TypeId} {R : Value → World → Prop} (hf : ∀ args w, (callFunc f args).run P w = .ok (.enter f args) w) (hF : Fr n a F) (hfx : look F x = some (.func (.func f) #[] cap.toArray)) (hx : looks F xs vs) (hc : CallsR P f (vs ++ cap).toArray w R) :
    Does P ⟨d, .call { callee := .value x, args := xs.toArray, argTypes := ats }, t, pos, af, gd⟩ a w (fun u w' => Ext w w' ∧ R u w') :=
  ⟨fun K Q hk => by
    have hrun : (execOp a.eval ⟨d, .call { callee := .value x, args := xs.toArray, argTypes := ats }, t, pos, af, gd⟩).run P w = .ok (.enter f (vs ++ cap).toArray) w := by
      have e : (xs.toArray.map a.eval) = vs.toArray := by rw [← hF.evals hx]; simp
      simp [execOp, resolve, hF.eval hfx, Deferred.ofValue, invoke, e, hf]
    unfold Oper.wp
    rw [hrun]
    show Calls P f (vs ++ cap).toArray w _
    exact Calls.mono (show Calls P f (vs ++ cap).toArray w _ from hc) fun e w' ⟨v, he, h1, h2⟩ => by subst he; exact hk v w' ⟨h1, h2⟩⟩
def okA (tm : Array Value) : List (Nat × Value) → Prop
  | [] => True
  | (t, v) :: r => tm.getD t undef = v ∧ okA tm r
def Clo (P : Program) (f b : Nat) (u : FrameMode) (w : World) (c : Value) : Prop :=
  CallsD P f #[ptr b 0] u w fun e u' w' => (∃ v, e = .returned v) ∧ settle u' = .returning ∧ ExtX [b] w w' ∧ Blk w' b #[c]
end
end Go.Sw

namespace Go.Sw
open Go Go.RowKit
def l4 (a b c d : Nat) (i : Nat) : Nat := match i with
  | 0 => a
  | 1 => b
  | 2 => c
  | _ => d
section
variable {P : Program} {n : Nat} {F : List (Nat × Value)} {a : Act} {w : World} {d : Option Tmp} {t : TypeId} {pos : String} {af : Array Edge} {gd : Option (Nat × Bool)}
end
end Go.Sw

namespace Go.Sw
open Go Go.RowKit Go.ChangeShapes Go.WideShapes Go.ChangeAt
structure ArgSS (w : World) (sl : Value) (m : Nat) (L : Nat → Nat) (R : Nat → Nat → Int) (xs : Nat → Option Addr) (ca be ob : Nat → Nat) : Prop where
  out : ∃ x c, sl = .slice x m c
  cell : 0 < m → ∃ b o c, sl = .slice (some ⟨b, o, none⟩) m c ∧ ∀ i, i < m → w.cell? ⟨b, o + i * 1, none⟩ = some (.slice (xs i) (L i) (ca i))
  adr : ∀ i, i < m → 0 < L i → xs i = some ⟨be i, ob i, none⟩
  num : ∀ i, i < m → ∀ j, j < L i → w.cell? ⟨be i, ob i + j * 1, none⟩ = some (.int .i64 (R i j))
namespace ArgSS
variable {w w' : World} {sl : Value} {m : Nat} {L : Nat → Nat} {R : Nat → Nat → Int} {xs : Nat → Option Addr} {ca be ob : Nat → Nat}
theorem ext (h : ArgSS w sl m L R xs ca be ob) (hx : Ext w w') : ArgSS w' sl m L R xs ca be ob :=
  ⟨h.out, fun hm => by obtain ⟨b, o, c, h1, h2⟩ := h.cell hm; exact ⟨b, o, c, h1, fun i hi => cell_ext (h2 i hi) hx⟩, h.adr, fun i hi j hj => cell_ext (h.num i hi j hj) hx⟩
theorem one (h : ArgSS w sl m L R xs ca be ob) : sl.oneCell' = true := by
  obtain ⟨x, c, rfl⟩ := h.out; rfl
theorem row (h : ArgSS w sl m L R xs ca be ob) {i : Nat} (hi : i < m) : ArgSl w (.slice (xs i) (L i) (ca i)) (L i) (R i) :=
  ⟨⟨_, _, rfl⟩, fun hl => ⟨be i, ob i, ca i, by rw [h.adr i hi hl], h.num i hi⟩⟩
theorem congr {R' : Nat → Nat → Int} (h : ArgSS w sl m L R xs ca be ob) (e : ∀ i, i < m → ∀ j, j < L i → R i j = R' i j) : ArgSS w sl m L R' xs ca be ob :=
  ⟨h.out, h.cell, h.adr, fun i hi j hj => by rw [← e i hi j hj]; exact h.num i hi j hj⟩
end ArgSS
section
variable {H : Type} {enc : TypeId × Value → H} {P : Program} {w : World} {base : Nat} {spare : Nat → Bool} {held : Bool}
theorem argss_of_trod {t e e2 : TypeId} {fuel : Nat} {v : Value} {y : DataW H × List MemPlace} (ht : P.underlying t = some (.slice e)) (he : P.underlying e = some (.slice e2)) (he2 : P.underlying e2 = some (.int .i64)) (hc : P.cellsOf e = 1) (hc2 : P.cellsOf e2 = 1)
    (h : DataW.trod enc P w base spare held fuel t [v] = some y) : ∃ (m : Nat) (L : Nat → Nat) (R : Nat → Nat → Int) (xs : Nat → Option Addr) (ca be ob : Nat → Nat), ArgSS w v m L R xs ca be ob ∧ m ≤ maxLen ∧ (∀ i, L i ≤ maxLen) ∧ ∀ i j, -9223372036854775808 ≤ R i j ∧ R i j ≤ 9223372036854775807 := by
  rcases DataW.trod_slice ht h with ⟨e1, _⟩ | ⟨ad, len, cap, elems, rest, n, _, e1, _, hb, hl, hmx, hlen, hel, _, _⟩
  · simp only [List.cons.injEq, and_true] at e1
    subst e1;exact ⟨0, fun _ => 0, fun _ _ => 0, fun _ => none, fun _ => 0, fun _ => 0, fun _ => 0, ⟨⟨none, 0, rfl⟩, fun h => absurd h (by omega), fun i hi => absurd hi (by omega), fun i hi => absurd hi (by omega)⟩, Nat.zero_le _, fun _ => Nat.zero_le _, fun _ _ => by dsimp only; omega⟩
  · simp only [List.cons.injEq, and_true] at e1
    subst e1;have each : ∀ i, i < len → ∃ q : Value × Nat × (Nat → Int), w.cell? (ad.add (i * 1)) = some q.1 ∧ ArgSl w q.1 q.2.1 q.2.2 ∧ q.2.1 ≤ maxLen ∧ ∀ j, -9223372036854775808 ≤ q.2.2 j ∧ q.2.2 j ≤ 9223372036854775807 := by
      intro i hi;have h1 := hel i hi;rw [hc] at h1;have hle : i < elems.length := by omega
      rw [List.getElem?_eq_getElem hle, Option.bind_eq_some_iff] at h1;obtain ⟨cs, hcs, hd⟩ := h1;obtain ⟨hl1, hg⟩ := cells?_get hcs;obtain ⟨v, rfl⟩ : ∃ v, cs = [v] := by
        match cs, hl1 with
        | [v], _ => exact ⟨v, rfl⟩
      have hg0 := hg 0 (by omega);obtain ⟨m, g, h2, h3, h4⟩ := arg_of_trod he he2 hc2 hd;exact ⟨(v, m, g), by rw [show (ad.add (i * 1)).add 0 = ad.add (i * 1) from rfl] at hg0; exact hg0, h2, h3, h4⟩
    obtain ⟨Q, hQ⟩ : ∃ Q : Nat → Value × Nat × (Nat → Int), ∀ i, i < len → w.cell? (ad.add (i * 1)) = some (Q i).1 ∧ ArgSl w (Q i).1 (Q i).2.1 (Q i).2.2 ∧ (Q i).2.1 ≤ maxLen ∧ ∀ j, -9223372036854775808 ≤ (Q i).2.2 j ∧ (Q i).2.2 j ≤ 9223372036854775807 :=
      ⟨fun i => if hi : i < len then Classical.choose (each i hi) else (.nilFunc, 0, fun _ => 0), fun i hi => by simp only [dif_pos hi]; exact Classical.choose_spec (each i hi)⟩
    have xc : ∀ i, i < len → ∃ q : Option Addr × Nat, (Q i).1 = .slice q.1 (Q i).2.1 q.2 := fun i hi => by
      obtain ⟨x, c, h⟩ := (hQ i hi).2.1.1;exact ⟨(x, c), h⟩
    obtain ⟨XC, hXC⟩ : ∃ XC : Nat → Option Addr × Nat, ∀ i, i < len → (Q i).1 = .slice (XC i).1 (Q i).2.1 (XC i).2 :=
      ⟨fun i => if hi : i < len then Classical.choose (xc i hi) else (none, 0), fun i hi => by simp only [dif_pos hi]; exact Classical.choose_spec (xc i hi)⟩
    have bo : ∀ i, i < len → ∃ q : Nat × Nat, 0 < (Q i).2.1 → (XC i).1 = some ⟨q.1, q.2, none⟩ ∧ ∀ j, j < (Q i).2.1 → w.cell? ⟨q.1, q.2 + j * 1, none⟩ = some (.int .i64 ((Q i).2.2 j)) := fun i hi => by
      by_cases h0 : 0 < (Q i).2.1
      · obtain ⟨b, o, c, h1, h2⟩ := (hQ i hi).2.1.2 h0
        rw [hXC i hi] at h1
        injection h1 with h1
        exact ⟨(b, o), fun _ => ⟨h1, h2⟩⟩
      · exact ⟨(0, 0), fun h => absurd h h0⟩
    obtain ⟨BO, hBO⟩ : ∃ BO : Nat → Nat × Nat, ∀ i, i < len → 0 < (Q i).2.1 → (XC i).1 = some ⟨(BO i).1, (BO i).2, none⟩ ∧ ∀ j, j < (Q i).2.1 → w.cell? ⟨(BO i).1, (BO i).2 + j * 1, none⟩ = some (.int .i64 ((Q i).2.2 j)) :=
      ⟨fun i => if hi : i < len then Classical.choose (bo i hi) else (0, 0), fun i hi => by simp only [dif_pos hi]; exact Classical.choose_spec (bo i hi)⟩
    refine ⟨len, fun i => if i < len then (Q i).2.1 else 0, fun i j => if i < len then (Q i).2.2 j else 0, fun i => (XC i).1, fun i => (XC i).2, fun i => (BO i).1, fun i => (BO i).2, ⟨⟨some ad, cap, rfl⟩, fun hm => ?_, fun i hi hl => ?_, fun i hi j hj => ?_⟩, Nat.le_trans hl hmx, fun i => ?_, fun i j => ?_⟩
    · have h0 := (hQ 0 hm).1
      obtain ⟨b, o, s⟩ := ad;have hs : s = none := by
        cases s with
        | none => rfl
        | some s =>
          have := World.cell?_spot h0
          simp [Addr.add] at this
      subst hs;refine ⟨b, o, cap, rfl, fun i hi => ?_⟩;have hi' := (hQ i hi).1;rw [Addr.add_lit] at hi';rw [hi', hXC i hi];simp only [if_pos hi]
    · simp only [if_pos hi] at hl
      exact (hBO i hi hl).1
    · simp only [if_pos hi] at hj ⊢
      exact (hBO i hi (by omega)).2 j hj
    · dsimp only
      split
      · rename_i hi; exact (hQ i hi).2.2.1
      · exact Nat.zero_le _
    · dsimp only
      split
      · rename_i hi; exact (hQ i hi).2.2.2 j
      · omega
theorem open_ss {r : Go.Reach} {b0 : Nat} {t e e2 : TypeId} {v : Value} {d : DataW H} {p : List MemPlace} (ht : P.underlying t = some (.slice e)) (he : P.underlying e = some (.slice e2)) (he2 : P.underlying e2 = some (.int .i64)) (hc : P.cellsOf e = 1) (hc2 : P.cellsOf e2 = 1)
    (hv : Value.okWide P w r b0 t v) (h : DataW.Trod enc P w base spare held t v d p) : ∃ (m : Nat) (L : Nat → Nat) (R : Nat → Nat → Int) (xs : Nat → Option Addr) (ca be ob : Nat → Nat), ArgSS w v m L R xs ca be ob ∧ m ≤ maxLen ∧ (∀ i, L i ≤ maxLen) ∧ ∀ i j, -9223372036854775808 ≤ R i j ∧ R i j ≤ 9223372036854775807 := by
  obtain ⟨a, l, c, rfl⟩ := okWide_slice ht hv;obtain ⟨fuel, h⟩ := h;exact argss_of_trod ht he he2 hc hc2 h
end
def rowsC (m : Nat) (L : Nat → Nat) (β : Nat → Nat) : Array Value := fnC m fun i => .slice (some ⟨β i, 0, none⟩) (L i) (L i)
structure SSD (D : Froz) (u : Value) (m : Nat) (L : Nat → Nat) (R : Nat → Nat → Int) (b : Nat) (β : Nat → Nat) : Prop where
  val : u = .slice (some ⟨b, 0, none⟩) m m
  out : (b, rowsC m L β) ∈ D
  row : ∀ i, i < m → (β i, numI (L i) (R i)) ∈ D
  inj : ∀ i j, i < m → j < m → β i = β j → i = j
  ne : ∀ i, i < m → β i ≠ b
theorem SSD.more {D D' : Froz} {u : Value} {m b : Nat} {L β : Nat → Nat} {R : Nat → Nat → Int} (h : SSD D u m L R b β) (hs : ∀ x, x ∈ D → x ∈ D') : SSD D' u m L R b β := ⟨h.val, hs _ h.out, fun i hi => hs _ (h.row i hi), h.inj, h.ne⟩
theorem fresh_ne {X : List Nat} {w0 w : World} {L : Own} {D : Froz} {b x : Nat} {ds : Array Value} (h : MemX X w0 w L D) (hge : w.heap.size ≤ b) (hx : (x, ds) ∈ D) : b ≠ x := fun e => by
  have h1 := (h.froz x ds hx).1.lt
  omega
theorem upN_inj {β : Nat → Nat} {k b : Nat} (h : ∀ i j, i < k → j < k → β i = β j → i = j) (hn : ∀ i, i < k → b ≠ β i) : ∀ i j, i < k + 1 → j < k + 1 → up β k b i = up β k b j → i = j := fun i j hi hj e => by
  unfold up at e
  by_cases e1 : i = k <;> by_cases e2 : j = k
  · omega
  · rw [if_pos e1, if_neg e2] at e; exact absurd e (hn j (by omega))
  · rw [if_neg e1, if_pos e2] at e; exact absurd e.symm (hn i (by omega))
  · rw [if_neg e1, if_neg e2] at e; exact h i j (by omega) (by omega) e
def SSOut (w w' : World) (m : Nat) (L : Nat → Nat) (R : Nat → Nat → Int) (u : Value) : Prop := ∃ (D : Froz) (b : Nat) (β : Nat → Nat), (∀ x ds, (x, ds) ∈ D → w.heap.size ≤ x ∧ Blk w' x ds) ∧ SSD D u m L R b β
theorem Blk.cellAt {w : World} {b i : Nat} {cs : Array Value} {v : Value} (h : Blk w b cs) (hv : cs[i]? = some v) : w.cell? ⟨b, i, none⟩ = some v := (h.cell i).trans hv
theorem SSD.arg {D : Froz} {w : World} {u : Value} {m b : Nat} {L β : Nat → Nat} {R : Nat → Nat → Int} (h : SSD D u m L R b β) (hD : ∀ c ds, (c, ds) ∈ D → Blk w c ds) : ArgSS w u m L R (fun i => some ⟨β i, 0, none⟩) L β (fun _ => 0) :=
  ⟨⟨_, _, h.val⟩, fun _ => ⟨b, 0, m, h.val, fun i hi => Blk.cellAt (hD _ _ h.out) (by rw [Nat.zero_add, Nat.mul_one]; exact fnC_get hi)⟩, fun _ _ _ => rfl,
   fun i hi j hj => Blk.cellAt (hD _ _ (h.row i hi)) (by rw [Nat.zero_add, Nat.mul_one]; exact fnC_get hj)⟩
end Go.Sw

namespace Go.Sw
open Go Go.RowKit
/-! ### Ascending lists of the numbers that have a property -/
def cnt (S : Nat → Bool) : Nat → Nat
  | 0 => 0
  | i + 1 => cnt S i + if S i = true then 1 else 0
theorem cnt_yes {S : Nat → Bool} {i : Nat} (h : S i = true) : cnt S (i + 1) = cnt S i + 1 := by simp only [cnt]; rw [if_pos h]
theorem cnt_no {S : Nat → Bool} {i : Nat} (h : ¬ S i = true) : cnt S (i + 1) = cnt S i := by simp only [cnt]; rw [if_neg h]; rfl
theorem cnt_le {S : Nat → Bool} : ∀ i, cnt S i ≤ i
  | 0 => Nat.le_refl _
  | i + 1 => by have := cnt_le (S := S) i; simp only [cnt]; split <;> omega
theorem cnt_mono {S : Nat → Bool} {i : Nat} : ∀ {j : Nat}, i ≤ j → cnt S i ≤ cnt S j
  | 0, h => by rw [show i = 0 by omega]; exact Nat.le_refl _
  | j + 1, h => by
    by_cases e : i = j + 1
    · rw [e]; exact Nat.le_refl _
    · exact Nat.le_trans (cnt_mono (S := S) (j := j) (by omega)) (Nat.le_add_right _ _)
theorem cnt_lt {S : Nat → Bool} {i j : Nat} (hi : S i = true) (h : i < j) : cnt S i < cnt S j := by
  have h1 := cnt_yes hi;have h2 := cnt_mono (S := S) (show i + 1 ≤ j by omega)
  omega
theorem cnt_inj {S : Nat → Bool} {i j : Nat} (hi : S i = true) (hj : S j = true) (h : cnt S i = cnt S j) : i = j := by
  rcases Nat.lt_trichotomy i j with e | e | e
  · have := cnt_lt hi e; omega
  · exact e
  · have := cnt_lt hj e; omega
theorem cnt_ex {S : Nat → Bool} : ∀ {n k : Nat}, k < cnt S n → ∃ j, j < n ∧ S j = true ∧ cnt S j = k
  | 0, k, h => absurd h (by simp [cnt])
  | n + 1, k, h => by
    by_cases e : S n = true
    · rw [cnt_yes e] at h
      by_cases e2 : k = cnt S n
      · exact ⟨n, by omega, e, e2.symm⟩
      · obtain ⟨j, h1, h2⟩ := cnt_ex (S := S) (n := n) (k := k) (by omega)
        exact ⟨j, by omega, h2⟩
    · rw [cnt_no e] at h
      obtain ⟨j, h1, h2⟩ := cnt_ex (S := S) (n := n) (k := k) h
      exact ⟨j, by omega, h2⟩
def asc (S : Nat → Bool) : Nat → Nat → Nat
  | 0, _ => 0
  | n + 1, k => if S n = true ∧ cnt S n = k then n else asc S n k
end Go.Sw
