/- Plain lemmas of a small calculus for walks over frames and own memory; no statement of the seat is proved here. -/
import Derived.Test.YtmgdigbkocligaaDoorSw23
import Derived.Test.YtmgdigbkocligaaDoorEch6
import Derived.Test.YtmgdigbkocligaaDoorSw14
import Derived.Test.YtmgdigbkocligaaDoorSw21
import Derived.Test.YtmgdigbkocligaaDoorSw9
import Derived.Recover
import Derived.Test.YtmgdigbkocligaaDoorSw19
import Derived.Test.YtmgdigbkocligaaDoorSw47
import Derived.Test.YtmgdigbkocligaaDoorSw73
set_option linter.unusedVariables false
set_option linter.unusedSimpArgs false
namespace Go.Sw
open Go Go.RowKit Go.ChangeShapes Go.WideShapes Go.ChangeAt
def ArgVs (w : World) (sl : Value) (m : Nat) (V : Nat → Nat → Nat) : Prop :=
  (∃ x c, sl = .slice x m c) ∧ (0 < m → ∃ b o c, sl = .slice (some ⟨b, o, none⟩) m c ∧ ∀ i, i < m → ∀ j, j < 6 → w.cell? ⟨b, o + i * 6 + j, none⟩ = some (.int .u8 (V i j : Int)))
theorem ArgVs.ext {w w' : World} {sl : Value} {m : Nat} {V : Nat → Nat → Nat} (h : ArgVs w sl m V) (hx : Ext w w') : ArgVs w' sl m V :=
  ⟨h.1, fun hm => by obtain ⟨b, o, c, h1, h3⟩ := h.2 hm; exact ⟨b, o, c, h1, fun i hi j hj => cell_ext (h3 i hi j hj) hx⟩⟩
theorem ArgVs.one {w : World} {sl : Value} {m : Nat} {V : Nat → Nat → Nat} (h : ArgVs w sl m V) : sl.oneCell' = true := by
  obtain ⟨⟨x, c, rfl⟩, _⟩ := h; rfl
section
variable {P : Program} {n : Nat} {F : List (Nat × Value)} {a : Act} {w : World} {d : Option Tmp} {t : TypeId} {pos : String} {af : Array Edge} {gd : Option (Nat × Bool)} {x : Operand}
end
section
variable {H : Type} {enc : TypeId × Value → H} {P : Program} {w w' : World} {base : Nat} {spare : Nat → Bool} {held : Bool}
theorem cells?_get {a : Addr} {n : Nat} {cs : List Value} (h : w.cells? base a n = some cs) : cs.length = n ∧ ∀ i, i < n → w.cell? (a.add i) = cs[i]? := by
  unfold World.cells? at h
  split at h
  · have hl := mapM_some_length h
    rw [List.length_range] at hl;refine ⟨hl.symm ▸ rfl, fun i hi => ?_⟩;have := mapM_some_get h i i (by rw [List.getElem?_range hi]);exact this
  · cases h
end
section
variable {H : Type} {enc : TypeId × Value → H} {P : Program} {w : World} {base : Nat} {spare : Nat → Bool} {held : Bool}
end
section
variable {P : Program} {X : List Nat} {w0 w : World} {L : Own} {D : Froz} {n : Nat} {F : List (Nat × Value)} {a : Act} {d : Option Tmp} {T : TypeId} {t : TypeId} {pos : String} {af : Array Edge} {gd : Option (Nat × Bool)} {x y : Operand}
end
end Go.Sw

namespace Go.Sw
open Go Go.RowKit Go.ChangeShapes Go.WideShapes Go.ChangeAt
def grpC (n : Int) (M : Nat → Nat → Nat) : Array Value := fnC 37 fun c => if c = 0 then .int .i64 n else .int .u8 (M ((c - 1) / 6) ((c - 1) % 6))
section
variable {n q : Int} {M N : Nat → Nat → Nat}
end
def grpKs : List IntKind := .i64 :: List.replicate 36 .u8
section
variable {H : Type} {enc : TypeId × Value → H} {P : Program} {w : World} {base : Nat} {spare : Nat → Bool} {held : Bool} {t : TypeId} {v : Value} {d : DataW H} {p : List MemPlace}
end
end Go.Sw

namespace Go.Sw
open Go Go.RowKit
variable {P : Program}
/-! ### Deferred calls: what was laid before lies behind the frame. -/
def addD (ds : List Deferred) (a : Act) : Act := ⟨a.tmps, a.defers ++ ds⟩
section
variable {ds : List Deferred} {ops : Array Oper} {Q : Exit → Act → World → Prop} {n : Nat} {F : List (Nat × Value)} {a : Act} {w : World}
end
end Go.Sw

namespace Go.Sw
open Go Go.RowKit
variable {P : Program}
/-! ### A door: a deferred closure that recovers. -/
section
variable {ops : Array Oper} {Q : Exit → Act → World → Prop} {rest : List Oper} {n : Nat} {F : List (Nat × Value)} {a : Act} {w : World} {d : Option Tmp} {t : TypeId} {pos : String} {af : Array Edge} {gd : Option (Nat × Bool)}
def okA (tm : Array Value) : List (Nat × Value) → Prop
  | [] => True
  | (t, v) :: r => tm.getD t undef = v ∧ okA tm r
def Clo (P : Program) (f b : Nat) (u : FrameMode) (w : World) (c : Value) : Prop :=
  CallsD P f #[ptr b 0] u w fun e u' w' => (∃ v, e = .returned v) ∧ settle u' = .returning ∧ ExtX [b] w w' ∧ Blk w' b #[c]
end
end Go.Sw

namespace Go.Sw
open Go Go.RowKit
def l4 (a b c d : Nat) (i : Nat) : Nat := match i with
  | 0 => a
  | 1 => b
  | 2 => c
  | _ => d
theorem algC_putRow {p n : Int} {T : Nat → Nat → Nat → Nat} {f v : Nat → Nat} {o : Nat} (a b : Nat) (h : o = 2 + a * 36 + b * 6) (ha : a < 6) (hb : b < 6) : splice (algC p n T f) o (vecC v) = algC p n (fun i j k => if i = a ∧ j = b then v k else T i j k) f := by
  subst h;have hz : 2 + a * 36 + b * 6 + (vecC v).size ≤ (algC p n T f).size := by rw [vecC_size, cells_size]; omega
  refine algC_eq (by rw [splice_size _ _ _ hz, cells_size]) ?_ ?_ ?_ ?_
  · rw [splice_get _ _ _ _ hz, if_neg (by omega)]; exact algC_p rfl
  · rw [splice_get _ _ _ _ hz, if_neg (by omega)]; exact algC_n rfl
  · intro i j k hi hj hk
    rw [splice_get _ _ _ _ hz, vecC_size]
    by_cases e : i = a ∧ j = b
    · rw [if_pos (by omega), if_pos e]; exact vecC_get k (by omega) hk
    · rw [if_neg (by omega), if_neg e]; exact algC_T i j k rfl hi hj hk
  · intro i hi; rw [splice_get _ _ _ _ hz, vecC_size, if_neg (by omega)]; exact algC_f i rfl hi
theorem algC_congr {p n : Int} {T U : Nat → Nat → Nat → Nat} {f : Nat → Nat} (h : ∀ i, i < 6 → ∀ j, j < 6 → ∀ k, k < 6 → T i j k = U i j k) : algC p n T f = algC p n U f := by
  unfold algC
  refine fnC_congr fun c hc => ?_
  by_cases h0 : c = 0
  · rw [if_pos h0, if_pos h0]
  · rw [if_neg h0, if_neg h0]
    by_cases h1 : c = 1
    · rw [if_pos h1, if_pos h1]
    · rw [if_neg h1, if_neg h1]
      by_cases h2 : c < 218
      · rw [if_pos h2, if_pos h2, h _ (by omega) _ (by omega) _ (by omega)]
      · rw [if_neg h2, if_neg h2]
section
variable {P : Program} {n : Nat} {F : List (Nat × Value)} {a : Act} {w : World} {d : Option Tmp} {t : TypeId} {pos : String} {af : Array Edge} {gd : Option (Nat × Bool)}
end
end Go.Sw

namespace Go.Sw
open Go Go.RowKit Go.ChangeShapes Go.WideShapes Go.ChangeAt
structure ArgSS (w : World) (sl : Value) (m : Nat) (L : Nat → Nat) (R : Nat → Nat → Int) (xs : Nat → Option Addr) (ca be ob : Nat → Nat) : Prop where
  out : ∃ x c, sl = .slice x m c
  cell : 0 < m → ∃ b o c, sl = .slice (some ⟨b, o, none⟩) m c ∧ ∀ i, i < m → w.cell? ⟨b, o + i * 1, none⟩ = some (.slice (xs i) (L i) (ca i))
  adr : ∀ i, i < m → 0 < L i → xs i = some ⟨be i, ob i, none⟩
  num : ∀ i, i < m → ∀ j, j < L i → w.cell? ⟨be i, ob i + j * 1, none⟩ = some (.int .i64 (R i j))
namespace ArgSS
variable {w w' : World} {sl : Value} {m : Nat} {L : Nat → Nat} {R : Nat → Nat → Int} {xs : Nat → Option Addr} {ca be ob : Nat → Nat}
theorem ext (h : ArgSS w sl m L R xs ca be ob) (hx : Ext w w') : ArgSS w' sl m L R xs ca be ob :=
  ⟨h.out, fun hm => by obtain ⟨b, o, c, h1, h2⟩ := h.cell hm; exact ⟨b, o, c, h1, fun i hi => cell_ext (h2 i hi) hx⟩, h.adr, fun i hi j hj => cell_ext (h.num i hi j hj) hx⟩
theorem one (h : ArgSS w sl m L R xs ca be ob) : sl.oneCell' = true := by
  obtain ⟨x, c, rfl⟩ := h.out; rfl
theorem row (h : ArgSS w sl m L R xs ca be ob) {i : Nat} (hi : i < m) : ArgSl w (.slice (xs i) (L i) (ca i)) (L i) (R i) :=
  ⟨⟨_, _, rfl⟩, fun hl => ⟨be i, ob i, ca i, by rw [h.adr i hi hl], h.num i hi⟩⟩
theorem congr {R' : Nat → Nat → Int} (h : ArgSS w sl m L R xs ca be ob) (e : ∀ i, i < m → ∀ j, j < L i → R i j = R' i j) : ArgSS w sl m L R' xs ca be ob :=
  ⟨h.out, h.cell, h.adr, fun i hi j hj => by rw [← e i hi j hj]; exact h.num i hi j hj⟩
end ArgSS
section
variable {H : Type} {enc : TypeId × Value → H} {P : Program} {w : World} {base : Nat} {spare : Nat → Bool} {held : Bool}
end
def rowsC (m : Nat) (L : Nat → Nat) (β : Nat → Nat) : Array Value := fnC m fun i => .slice (some ⟨β i, 0, none⟩) (L i) (L i)
structure SSD (D : Froz) (u : Value) (m : Nat) (L : Nat → Nat) (R : Nat → Nat → Int) (b : Nat) (β : Nat → Nat) : Prop where
  val : u = .slice (some ⟨b, 0, none⟩) m m
  out : (b, rowsC m L β) ∈ D
  row : ∀ i, i < m → (β i, numI (L i) (R i)) ∈ D
  inj : ∀ i j, i < m → j < m → β i = β j → i = j
  ne : ∀ i, i < m → β i ≠ b
theorem SSD.more {D D' : Froz} {u : Value} {m b : Nat} {L β : Nat → Nat} {R : Nat → Nat → Int} (h : SSD D u m L R b β) (hs : ∀ x, x ∈ D → x ∈ D') : SSD D' u m L R b β := ⟨h.val, hs _ h.out, fun i hi => hs _ (h.row i hi), h.inj, h.ne⟩
def SSOut (w w' : World) (m : Nat) (L : Nat → Nat) (R : Nat → Nat → Int) (u : Value) : Prop := ∃ (D : Froz) (b : Nat) (β : Nat → Nat), (∀ x ds, (x, ds) ∈ D → w.heap.size ≤ x ∧ Blk w' x ds) ∧ SSD D u m L R b β
end Go.Sw

/-! Lists of numbers that are marked: number by number from k on. -/
namespace Go.Sw
open Go Go.RowKit
def mri (Z k t : Nat) (xs : Nat → Value) : Array Value := fnC Z (fun c => if c < t then .int .i64 (((k + c : Nat)) : Int) else xs c)
section
variable {Z k t : Nat} {xs : Nat → Value}
end
end Go.Sw

namespace Go.Sw
open Go Go.RowKit
structure SSR (D : Froz) (u : Value) (m : Nat) (Ln : Nat → Nat) (F : Nat → Nat → Int) (b cap : Nat) (cs : Array Value) (β κ : Nat → Nat) (C : Nat → Array Value) : Prop where
  sl : SlAt 1 u (some (b, cs)) m b cap cs (fun i => .slice (some ⟨β i, 0, none⟩) (Ln i) (κ i))
  out : (b, cs) ∈ D
  rows : RowsC D m β C
  row : ∀ i, i < m → SlAt 1 (.slice (some ⟨β i, 0, none⟩) (Ln i) (κ i)) (some (β i, C i)) (Ln i) (β i) (κ i) (C i) (fun c => .int .i64 (F i c))
  ne : ∀ i, i < m → β i ≠ b
namespace SSR
variable {D D' : Froz} {u : Value} {m b cap : Nat} {Ln β κ : Nat → Nat} {F : Nat → Nat → Int} {cs : Array Value} {C : Nat → Array Value}
theorem more (h : SSR D u m Ln F b cap cs β κ C) (hs : ∀ x, x ∈ D → x ∈ D') : SSR D' u m Ln F b cap cs β κ C := ⟨h.sl, hs _ h.out, h.rows.more hs, h.row, h.ne⟩
theorem cell (h : SSR D u m Ln F b cap cs β κ C) (i : Nat) (hi : i < m) : cs[0 + i * 1]? = some (.slice (some ⟨β i, 0, none⟩) (Ln i) (κ i)) := h.sl.get1 i hi
theorem num (h : SSR D u m Ln F b cap cs β κ C) (i : Nat) (hi : i < m) (c : Nat) (hc : c < Ln i) : (C i)[0 + c * 1]? = some (.int .i64 (F i c)) := (h.row i hi).get1 c hc
theorem room (h : SSR D u m Ln F b cap cs β κ C) (i : Nat) (hi : i < m) : Ln i ≤ (C i).size := by
  have h1 := (h.row i hi).le;have h2 := (h.row i hi).sz
  omega
theorem congr {G : Nat → Nat → Int} (h : SSR D u m Ln F b cap cs β κ C) (e : ∀ i, i < m → ∀ c, c < Ln i → F i c = G i c) : SSR D u m Ln G b cap cs β κ C :=
  ⟨h.sl, h.out, h.rows, fun i hi => (h.row i hi).congr fun c hc => by rw [e i hi c (by omega)], h.ne⟩
end SSR
def SSOutR (w w' : World) (m : Nat) (Ln : Nat → Nat) (F : Nat → Nat → Int) (u : Value) : Prop := ∃ (D : Froz) (b cap : Nat) (cs : Array Value) (β κ : Nat → Nat) (C : Nat → Array Value), (∀ x ds, (x, ds) ∈ D → w.heap.size ≤ x ∧ Blk w' x ds) ∧ SSR D u m Ln F b cap cs β κ C
theorem SSOutR.of {w w' : World} {L : Own} {D : Froz} {m q : Nat} {Ln β κ : Nat → Nat} {C : Nat → Array Value} {F : Nat → Nat → Int} {u : Value} {b cap : Nat} {cs : Array Value} (hM : Mem w w' L D) (hR : RowsC D m β C)
    (hq : L[q]? = some (some (b, cs))) (hs : SlAt 1 u (some (b, cs)) m b cap cs (fun i => .slice (some ⟨β i, 0, none⟩) (Ln i) (κ i))) (hge : ∀ i, i < m → w.heap.size ≤ β i)
    (hr : ∀ i, i < m → SlAt 1 (.slice (some ⟨β i, 0, none⟩) (Ln i) (κ i)) (some (β i, C i)) (Ln i) (β i) (κ i) (C i) (fun c => .int .i64 (F i c))) : SSOutR w w' m Ln F u := by
  refine ⟨(b, cs) :: (List.range m).map (fun i => (β i, C i)), b, cap, cs, β, κ, C, fun x ds hx => ?_, hs, List.mem_cons_self .., ⟨fun i hi => ?_, hR.inj⟩, hr, fun i hi e => (hM.froz _ _ (hR.mem i hi)).2 q b cs hq e.symm⟩
  · rcases List.mem_cons.1 hx with e | hx
    · simp only [Prod.mk.injEq] at e; obtain ⟨rfl, rfl⟩ := e; exact ⟨hM.ge q hq, hM.row q hq⟩
    · obtain ⟨i, hi, e⟩ := List.mem_map.1 hx
      simp only [Prod.mk.injEq] at e; obtain ⟨rfl, rfl⟩ := e;have hi : i < m := by simpa using hi
      exact ⟨hge i hi, hM.fzm (hR.mem i hi)⟩
  · exact List.mem_cons_of_mem _ (List.mem_map.2 ⟨i, by simpa using hi, rfl⟩)
def xsf (C : Nat → Array Value) (i : Nat) : Nat → Value := fun c => ((C i)[c]?).getD undef
def mkR (C : Nat → Array Value) (Ln : Nat → Nat) (st : Nat → Nat) (i : Nat) : Array Value := mri (C i).size (st i) (Ln i) (xsf C i)
end Go.Sw

namespace Go.Sw
open Go Go.RowKit
theorem SSOutR.mono {w w1 w2 : World} {m : Nat} {Ln : Nat → Nat} {F : Nat → Nat → Int} {u : Value} (h : SSOutR w1 w2 m Ln F u) (hs : w.heap.size ≤ w1.heap.size) : SSOutR w w2 m Ln F u := by
  obtain ⟨D, b, cap, cs, β, κ, C, h1, h2⟩ := h;exact ⟨D, b, cap, cs, β, κ, C, fun x ds hx => ⟨Nat.le_trans hs (h1 x ds hx).1, (h1 x ds hx).2⟩, h2⟩
end Go.Sw
