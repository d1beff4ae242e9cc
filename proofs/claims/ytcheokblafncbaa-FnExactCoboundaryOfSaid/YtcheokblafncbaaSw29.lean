/- Plain lemmas of a small calculus for walks over frames and own memory; no statement of the seat is proved here. -/
import Derived.Test.YtcheokblafncbaaSw23
import Derived.Test.YtcheokblafncbaaSw27
import Derived.Test.YtcheokblafncbaaSw21
import Derived.Test.YtcheokblafncbaaSw9
import Derived.Recover
import Derived.Test.YtcheokblafncbaaSw22
import Derived.Test.YtcheokblafncbaaEch
set_option linter.unusedVariables false
set_option linter.unusedSimpArgs false
namespace Go.Sw
open Go Go.RowKit Go.ChangeShapes Go.WideShapes Go.ChangeAt
def ArgVs (w : World) (sl : Value) (m : Nat) (V : Nat → Nat → Nat) : Prop :=
  (∃ x c, sl = .slice x m c) ∧ (0 < m → ∃ b o c, sl = .slice (some ⟨b, o, none⟩) m c ∧ ∀ i, i < m → ∀ j, j < 6 → w.cell? ⟨b, o + i * 6 + j, none⟩ = some (.int .u8 (V i j : Int)))
theorem ArgVs.ext {w w' : World} {sl : Value} {m : Nat} {V : Nat → Nat → Nat} (h : ArgVs w sl m V) (hx : Ext w w') : ArgVs w' sl m V :=
  ⟨h.1, fun hm => by obtain ⟨b, o, c, h1, h3⟩ := h.2 hm; exact ⟨b, o, c, h1, fun i hi j hj => cell_ext (h3 i hi j hj) hx⟩⟩
theorem ArgVs.one {w : World} {sl : Value} {m : Nat} {V : Nat → Nat → Nat} (h : ArgVs w sl m V) : sl.oneCell' = true := by
  obtain ⟨⟨x, c, rfl⟩, _⟩ := h; rfl
section
variable {P : Program} {n : Nat} {F : List (Nat × Value)} {a : Act} {w : World} {d : Option Tmp} {t : TypeId} {pos : String} {af : Array Edge} {gd : Option (Nat × Bool)} {x : Operand}
end
section
variable {H : Type} {enc : TypeId × Value → H} {P : Program} {w w' : World} {base : Nat} {spare : Nat → Bool} {held : Bool}
theorem cells?_get {a : Addr} {n : Nat} {cs : List Value} (h : w.cells? base a n = some cs) : cs.length = n ∧ ∀ i, i < n → w.cell? (a.add i) = cs[i]? := by
  unfold World.cells? at h
  split at h
  · have hl := mapM_some_length h
    rw [List.length_range] at hl;refine ⟨hl.symm ▸ rfl, fun i hi => ?_⟩;have := mapM_some_get h i i (by rw [List.getElem?_range hi]);exact this
  · cases h
end
section
variable {H : Type} {enc : TypeId × Value → H} {P : Program} {w : World} {base : Nat} {spare : Nat → Bool} {held : Bool}
end
section
variable {P : Program} {X : List Nat} {w0 w : World} {L : Own} {D : Froz} {n : Nat} {F : List (Nat × Value)} {a : Act} {d : Option Tmp} {T : TypeId} {t : TypeId} {pos : String} {af : Array Edge} {gd : Option (Nat × Bool)} {x y : Operand}
end
end Go.Sw

namespace Go.Sw
open Go Go.RowKit Go.ChangeShapes Go.WideShapes Go.ChangeAt
def grpC (n : Int) (M : Nat → Nat → Nat) : Array Value := fnC 37 fun c => if c = 0 then .int .i64 n else .int .u8 (M ((c - 1) / 6) ((c - 1) % 6))
section
variable {n q : Int} {M N : Nat → Nat → Nat}
theorem grpC_size : (grpC n M).size = 37 := fnC_size _ _
theorem grpC_n {o : Nat} (h : o = 0) : (grpC n M)[o]? = some (.int .i64 n) := by subst h; exact fnC_get (by omega)
theorem grpC_M {o : Nat} (i j : Nat) (h : o = 1 + i * 6 + j) (hi : i < 6) (hj : j < 6) : (grpC n M)[o]? = some (.int .u8 (M i j : Int)) := by
  subst h
  unfold grpC
  rw [fnC_get (by omega), if_neg (by omega), show (1 + i * 6 + j - 1) / 6 = i by omega, show (1 + i * 6 + j - 1) % 6 = j by omega]
theorem grpC_tab {o e : Nat} (h : o = 1) (he : e = o + 36) : (grpC n M).extract o e = planeC M := by
  subst h;exact extract_ext he (by rw [grpC_size]; omega) fun c hc => grpC_M (c / 6) (c % 6) (by omega) (by omega) (by omega)
theorem grpC_one : ∀ u ∈ (grpC n M).toList, u.oneCell' = true := fnC_one fun i _ => by split <;> rfl
theorem grpC_eq {c : Array Value} (hs : c.size = 37) (h0 : c[0]? = some (.int .i64 n)) (hT : ∀ i j, i < 6 → j < 6 → c[1 + i * 6 + j]? = some (.int .u8 (M i j : Int))) : c = grpC n M := by
  apply Array.ext_getElem?
  intro i
  by_cases hi : i < 37
  · by_cases e0 : i = 0
    · subst e0; rw [h0, grpC_n rfl]
    · have e : i = 1 + ((i - 1) / 6) * 6 + (i - 1) % 6 := by omega
      rw [e, hT _ _ (by omega) (by omega), grpC_M _ _ rfl (by omega) (by omega)]
  · rw [Array.getElem?_eq_none (by omega), Array.getElem?_eq_none (by rw [grpC_size]; omega)]
theorem grpC_setn {o : Nat} (h : o = 0) : (grpC n M).setIfInBounds o (.int .i64 q) = grpC q M := by
  subst h;refine grpC_eq (by rw [Array.size_setIfInBounds, grpC_size]) ?_ ?_
  · rw [Array.getElem?_setIfInBounds_self_of_lt (by rw [grpC_size]; omega)]
  · intro i j hi hj; rw [Array.getElem?_setIfInBounds_ne (by omega)]; exact grpC_M i j rfl hi hj
theorem grpC_putT {o : Nat} (h : o = 1) : splice (grpC n M) o (planeC N) = grpC n N := by
  subst h;have hz : 1 + (planeC N).size ≤ (grpC n M).size := by rw [planeC_size, grpC_size]; omega
  refine grpC_eq (by rw [splice_size _ _ _ hz, grpC_size]) ?_ ?_
  · rw [splice_get _ _ _ _ hz, if_neg (by omega)]; exact grpC_n rfl
  · intro i j hi hj; rw [splice_get _ _ _ _ hz, planeC_size, if_pos (by omega)]; exact planeC_get i j (by omega) hi hj
end
def grpKs : List IntKind := .i64 :: List.replicate 36 .u8
theorem grpKs_u8 {i : Nat} (h1 : 1 ≤ i) (h2 : i < 37) : grpKs[i]? = some .u8 := by
  obtain ⟨j, rfl⟩ : ∃ j, i = j + 1 := ⟨i - 1, by omega⟩
  unfold grpKs
  rw [List.getElem?_cons_succ, List.getElem?_replicate, if_pos (by omega)]
theorem cells_grp {cs : Array Value} (hs : cs.size = 37) (h : KindsAt grpKs cs.toList) : ∃ (n : Int) (M : Nat → Nat → Nat), cs = grpC n M ∧ (∀ i j, M i j ≤ 255) ∧ (∀ i j, 6 ≤ i ∨ 6 ≤ j → M i j = 0) ∧ (-9223372036854775808 ≤ n ∧ n ≤ 9223372036854775807) := by
  have g0 := kind_get h (i := 0) (k := .i64) rfl;have gu := fun i h1 h2 => kind_get h (i := i) (k := .u8) (grpKs_u8 h1 h2);have bd : ∀ i, 1 ≤ i → i < 37 → 0 ≤ getI cs.toList[i]? ∧ getI cs.toList[i]? ≤ 255 := fun i h1 h2 => wf_u8 (gu i h1 h2).2;refine ⟨getI cs.toList[0]?, fun i j => if i < 6 ∧ j < 6 then (getI cs.toList[1 + i * 6 + j]?).toNat else 0, ?_, fun i j => ?_, fun i j hij => ?_, wf_i64 g0.2⟩
  · refine fnC_ext hs fun c hc => ?_
    by_cases h0 : c = 0
    · subst h0; rw [if_pos rfl, ← g0.1]; simp
    · rw [if_neg h0]
      have hb := bd c (by omega) (by omega);have hc1 := (gu c (by omega) (by omega)).1;have e0 : cs[c]? = cs.toList[c]? := by simp
      dsimp only
      rw [if_pos ⟨by omega, by omega⟩, show 1 + (c - 1) / 6 * 6 + (c - 1) % 6 = c by omega, Int.toNat_of_nonneg hb.1, e0];exact hc1
  · dsimp only
    split
    · have := bd (1 + i * 6 + j) (by omega) (by omega); omega
    · omega
  · dsimp only
    rw [if_neg (by omega)]
section
variable {H : Type} {enc : TypeId × Value → H} {P : Program} {w : World} {base : Nat} {spare : Nat → Bool} {held : Bool} {t : TypeId} {v : Value} {d : DataW H} {p : List MemPlace}
theorem open_grp {r : Go.Reach} {b0 : Nat} {fs : Array Field} {m : Nat} (ht : P.underlying t = some (.struct fs)) (hc : P.cellsOf t = 37) (hk : kindsT P m t = some grpKs) (hv : Value.okWide P w r b0 t v) (h : DataW.Trod enc P w base spare held t v d p) :
    ∃ (n : Int) (M : Nat → Nat → Nat), v = .agg (grpC n M) ∧ (∀ i j, M i j ≤ 255) ∧ (∀ i j, 6 ≤ i ∨ 6 ≤ j → M i j = 0) ∧ (-9223372036854775808 ≤ n ∧ n ≤ 9223372036854775807) := by
  obtain ⟨cs, rfl, hs⟩ := okWide_struct ht hv;obtain ⟨fuel, h⟩ := h;obtain ⟨n, M, rfl, h1⟩ := cells_grp (hs.trans hc) (trod_kinds m t _ hk fuel _ _ h);exact ⟨n, M, rfl, h1⟩
end
end Go.Sw

namespace Go.Sw
open Go Go.RowKit
variable {P : Program}
/-! ### Deferred calls: what was laid before lies behind the frame. -/
def addD (ds : List Deferred) (a : Act) : Act := ⟨a.tmps, a.defers ++ ds⟩
section
variable {ds : List Deferred} {ops : Array Oper} {Q : Exit → Act → World → Prop} {n : Nat} {F : List (Nat × Value)} {a : Act} {w : World}
end
end Go.Sw

namespace Go.Sw
open Go Go.RowKit
variable {P : Program}
section
variable {n : Nat} {F : List (Nat × Value)} {a : Act} {w : World} {d : Option Tmp} {t : TypeId} {pos : String} {af : Array Edge} {gd : Option (Nat × Bool)} {T : TypeId} {x y : Operand}
end
end Go.Sw

namespace Go.Sw
open Go Go.RowKit
variable {P : Program}
/-! ### A door: a deferred closure that recovers. -/
section
variable {ops : Array Oper} {Q : Exit → Act → World → Prop} {rest : List Oper} {n : Nat} {F : List (Nat × Value)} {a : Act} {w : World} {d : Option Tmp} {t : TypeId} {pos : String} {af : Array Edge} {gd : Option (Nat × Bool)}
def okA (tm : Array Value) : List (Nat × Value) → Prop
  | [] => True
  | (t, v) :: r => tm.getD t undef = v ∧ okA tm r
def Clo (P : Program) (f b : Nat) (u : FrameMode) (w : World) (c : Value) : Prop :=
  CallsD P f #[ptr b 0] u w fun e u' w' => (∃ v, e = .returned v) ∧ settle u' = .returning ∧ ExtX [b] w w' ∧ Blk w' b #[c]
end
end Go.Sw

namespace Go.Sw
open Go Go.RowKit
def l4 (a b c d : Nat) (i : Nat) : Nat := match i with
  | 0 => a
  | 1 => b
  | 2 => c
  | _ => d
section
variable {P : Program} {n : Nat} {F : List (Nat × Value)} {a : Act} {w : World} {d : Option Tmp} {t : TypeId} {pos : String} {af : Array Edge} {gd : Option (Nat × Bool)}
end
end Go.Sw

namespace Go.Sw
open Go Go.RowKit Go.ChangeShapes Go.WideShapes Go.ChangeAt
structure ArgSS (w : World) (sl : Value) (m : Nat) (L : Nat → Nat) (R : Nat → Nat → Int) (xs : Nat → Option Addr) (ca be ob : Nat → Nat) : Prop where
  out : ∃ x c, sl = .slice x m c
  cell : 0 < m → ∃ b o c, sl = .slice (some ⟨b, o, none⟩) m c ∧ ∀ i, i < m → w.cell? ⟨b, o + i * 1, none⟩ = some (.slice (xs i) (L i) (ca i))
  adr : ∀ i, i < m → 0 < L i → xs i = some ⟨be i, ob i, none⟩
  num : ∀ i, i < m → ∀ j, j < L i → w.cell? ⟨be i, ob i + j * 1, none⟩ = some (.int .i64 (R i j))
namespace ArgSS
variable {w w' : World} {sl : Value} {m : Nat} {L : Nat → Nat} {R : Nat → Nat → Int} {xs : Nat → Option Addr} {ca be ob : Nat → Nat}
theorem ext (h : ArgSS w sl m L R xs ca be ob) (hx : Ext w w') : ArgSS w' sl m L R xs ca be ob :=
  ⟨h.out, fun hm => by obtain ⟨b, o, c, h1, h2⟩ := h.cell hm; exact ⟨b, o, c, h1, fun i hi => cell_ext (h2 i hi) hx⟩, h.adr, fun i hi j hj => cell_ext (h.num i hi j hj) hx⟩
theorem one (h : ArgSS w sl m L R xs ca be ob) : sl.oneCell' = true := by
  obtain ⟨x, c, rfl⟩ := h.out; rfl
theorem row (h : ArgSS w sl m L R xs ca be ob) {i : Nat} (hi : i < m) : ArgSl w (.slice (xs i) (L i) (ca i)) (L i) (R i) :=
  ⟨⟨_, _, rfl⟩, fun hl => ⟨be i, ob i, ca i, by rw [h.adr i hi hl], h.num i hi⟩⟩
theorem congr {R' : Nat → Nat → Int} (h : ArgSS w sl m L R xs ca be ob) (e : ∀ i, i < m → ∀ j, j < L i → R i j = R' i j) : ArgSS w sl m L R' xs ca be ob :=
  ⟨h.out, h.cell, h.adr, fun i hi j hj => by rw [← e i hi j hj]; exact h.num i hi j hj⟩
end ArgSS
section
variable {H : Type} {enc : TypeId × Value → H} {P : Program} {w : World} {base : Nat} {spare : Nat → Bool} {held : Bool}
theorem open_sl {r : Go.Reach} {b0 : Nat} {t e : TypeId} {v : Value} {d : DataW H} {p : List MemPlace} (ht : P.underlying t = some (.slice e)) (he : P.underlying e = some (.int .i64)) (hc : P.cellsOf e = 1)
    (hv : Value.okWide P w r b0 t v) (h : DataW.Trod enc P w base spare held t v d p) : ∃ (m : Nat) (g : Nat → Int), ArgSl w v m g ∧ m ≤ maxLen ∧ ∀ i, -9223372036854775808 ≤ g i ∧ g i ≤ 9223372036854775807 := by
  obtain ⟨a, l, c, rfl⟩ := okWide_slice ht hv;obtain ⟨fuel, h⟩ := h;exact arg_of_trod ht he hc h
end
def rowsC (m : Nat) (L : Nat → Nat) (β : Nat → Nat) : Array Value := fnC m fun i => .slice (some ⟨β i, 0, none⟩) (L i) (L i)
structure SSD (D : Froz) (u : Value) (m : Nat) (L : Nat → Nat) (R : Nat → Nat → Int) (b : Nat) (β : Nat → Nat) : Prop where
  val : u = .slice (some ⟨b, 0, none⟩) m m
  out : (b, rowsC m L β) ∈ D
  row : ∀ i, i < m → (β i, numI (L i) (R i)) ∈ D
theorem SSD.more {D D' : Froz} {u : Value} {m b : Nat} {L β : Nat → Nat} {R : Nat → Nat → Int} (h : SSD D u m L R b β) (hs : ∀ x, x ∈ D → x ∈ D') : SSD D' u m L R b β := ⟨h.val, hs _ h.out, fun i hi => hs _ (h.row i hi)⟩
def SSOut (w w' : World) (m : Nat) (L : Nat → Nat) (R : Nat → Nat → Int) (u : Value) : Prop := ∃ (D : Froz) (b : Nat) (β : Nat → Nat), (∀ x ds, (x, ds) ∈ D → w.heap.size ≤ x ∧ Blk w' x ds) ∧ SSD D u m L R b β
theorem Blk.cellAt {w : World} {b i : Nat} {cs : Array Value} {v : Value} (h : Blk w b cs) (hv : cs[i]? = some v) : w.cell? ⟨b, i, none⟩ = some v := (h.cell i).trans hv
end Go.Sw

namespace Go.Sw
open Go Go.RowKit
inductive FactE where
  | val (v : Value)
  | frz (c : Array Value) (mk : Nat → Value)
  | own (mk : Nat → Value)
def factsE (kt : Nat) (l : List FactE) : Facts (Own × Froz) := fun i g u _ => match l[i]? with
  | some (.val v) => u = v
  | some (.frz c mk) => ∃ b, (b, c) ∈ g.2 ∧ u = mk b
  | some (.own mk) => ∃ b cs, u = mk b ∧ g.1[kt]? = some (some (b, cs))
  | none => True
def inE (c : Option (Array Value)) (b : Nat) (E : Froz) : Prop := match c with
  | none => True
  | some c => (b, c) ∈ E
theorem inE.more {c : Option (Array Value)} {b : Nat} {E : Froz} (h : inE c b E) (x : Nat × Array Value) : inE c b (x :: E) := by
  cases c with
  | none => trivial
  | some c => exact List.mem_cons_of_mem _ h
def ParE (X : List Nat) (w0 : World) (D : Froz) (L0 : Own) (kt : Nat) (csO : Array Value) (c3 : Option (Array Value)) (csN : Nat → Array Value) (bb : Bool) (g : Own × Froz) (w : World) : Prop :=
  (MemX X w0 w g.1 (g.2 ++ D) ∧ Same [kt] L0 g.1) ∧ ∀ b cs, g.1[kt]? = some (some (b, cs)) → (bb = false → cs = csO) ∧ (bb = true → ∃ x, inE c3 x g.2 ∧ cs = csN x)
section
variable {P : Program} {X : List Nat} {w0 w : World} {D : Froz} {L0 : Own} {g : Own × Froz} {kt : Nat} {csO : Array Value} {c3 : Option (Array Value)} {csN : Nat → Array Value} {bb : Bool} {l : List FactE} {i : Nat} {o : Oper} {a : Act}
def ownOnly : List FactE → Nat → Nat → Bool
  | [], _, _ => true
  | .own _ :: r, i, s => Nat.beq s i && ownOnly r i (s + 1)
  | _ :: r, i, s => ownOnly r i (s + 1)
end
end Go.Sw

namespace Go.Sw
open Go Go.RowKit
end Go.Sw
