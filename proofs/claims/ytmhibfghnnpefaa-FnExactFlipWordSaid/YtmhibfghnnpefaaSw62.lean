/- Plain lemmas of a small calculus for walks over frames and own memory; no statement of the seat is proved here. -/
import Derived.Test.YtmhibfghnnpefaaSw53
import Derived.Test.YtmhibfghnnpefaaSw40
import Derived.DeepKeys4
import Derived.StringKeys
import Derived.Test.YtmhibfghnnpefaaSw25
import Derived.Test.YtmhibfghnnpefaaEch6
import Derived.Test.YtmhibfghnnpefaaSw15
import Derived.Test.YtmhibfghnnpefaaSw21
import Derived.Test.YtmhibfghnnpefaaSw9
set_option linter.unusedVariables false
set_option linter.unusedSimpArgs false
/-! Two package variables that a row lists. -/
namespace Go.Sw
open Go Go.RowKit Go.ChangeShapes Go.WideShapes Go.ChangeAt
section
variable {H : Type} {enc : TypeId × Value → H} {P : Program} {w w' : World}
end
end Go.Sw

/-! The length of a list that may be nil. -/
namespace Go.Sw
open Go Go.RowKit
section
variable {P : Program} {n : Nat} {F : List (Nat × Value)} {a : Act} {w : World} {d : Option Tmp} {t : TypeId} {pos : String} {af : Array Edge} {gd : Option (Nat × Bool)} {x : Operand}
end
section
variable {P : Program} {n : Nat} {F : List (Nat × Value)} {a : Act} {w : World} {d : Option Tmp} {t T : TypeId} {pos : String} {af : Array Edge} {gd : Option (Nat × Bool)} {x y z : Operand}
end
end Go.Sw

namespace Go.Sw
open Go Go.RowKit
def SlN (size : Nat) (v : Value) (e : Option (Nat × Array Value)) (n : Nat) (f : Nat → Value) : Prop := (v = .slice none 0 0 ∧ e = none ∧ n = 0) ∨ (0 < n ∧ ∃ b cap cs, SlAt size v e n b cap cs f)
theorem SlN.sl {size n : Nat} {v : Value} {e : Option (Nat × Array Value)} {f : Nat → Value} (h : SlN size v e n f) : Sl size v e n f := by
  rcases h with h | ⟨_, h⟩
  · exact .inl h
  · exact .inr h
theorem SlN.congr {size n m : Nat} {v : Value} {e : Option (Nat × Array Value)} {f g : Nat → Value} (h : SlN size v e n f) (hm : n = m) (hf : ∀ i, i < n * size → f i = g i) : SlN size v e m g := by
  subst hm
  rcases h with h | ⟨h0, b, cap, cs, h⟩
  · exact .inl h
  · exact .inr ⟨h0, b, cap, cs, h.val, h.ent, h.le, h.max, h.sz, fun i hi => by rw [← hf i hi]; exact h.get i hi⟩
theorem SlN.nil {size n : Nat} {v : Value} {e : Option (Nat × Array Value)} {f : Nat → Value} (h : SlN size v e n f) (h0 : n = 0) : v = .slice none 0 0 := by
  rcases h with h | ⟨h1, _⟩
  · exact h.1
  · omega
def LstOut (size : Nat) (w : World) (n : Nat) (f : Nat → Value) (v : Value) (w' : World) : Prop := (v = .slice none 0 0 ∧ n = 0) ∨ (0 < n ∧ OwnSl size w n f v w')
theorem LstOut.fill {size n k : Nat} {X : List Nat} {w0 w w' : World} {L : Own} {D : Froz} {f : Nat → Value} {v : Value} (hM : MemX X w0 w L D) (hk : L[k]? = some none) (hx : Ext w w') (h : LstOut size w n f v w') : ∃ e, SlN size v e n f ∧ MemX X w0 w' (L.set k e) D := by
  rcases h with ⟨h1, h2⟩ | ⟨h0, b, cap, cs, hs, hge, hb⟩
  · refine ⟨none, .inl ⟨h1, rfl, h2⟩, ?_⟩
    have e : L.set k none = L := by
      refine List.ext_getElem? fun i => ?_;rw [List.getElem?_set]
      split
      · rename_i q
        subst q;rw [hk]
        split
        · rfl
        · rename_i q; rw [List.getElem?_eq_none (by omega)] at hk; cases hk
      · rfl
    rw [e];exact hM.ext hx
  · exact ⟨some (b, cs), .inr ⟨h0, b, cap, cs, hs⟩, hM.fill hx k hb hge⟩
variable {P : Program}
section
variable {ops : Array Oper} {Q : Exit → Act → World → Prop} {rest : List Oper} {n : Nat} {F : List (Nat × Value)} {a : Act} {X : List Nat} {w w0 : World} {L : Own} {D : Froz}
variable {d : Option Tmp} {t : TypeId} {pos : String} {af : Array Edge} {gd : Option (Nat × Bool)} {T : TypeId} {x y : Operand}
end
def nL (s : ByteArray) : Nat := if s.size = 0 then 0 else nSg s 47
def legI (s : ByteArray) : Nat := if s.size = 0 then 0 else inR s (sgB s 47 0)
def legO (s : ByteArray) : Nat := if s.size = 0 then 0 else outR s (sgB s 47 (nSg s 47 - 1))
theorem nL_0 {s : ByteArray} (h : s.size = 0) : nL s = 0 := if_pos h
theorem nL_y {s : ByteArray} (h : 0 < s.size) : nL s = nSg s 47 := if_neg (by omega)
theorem WD.size {s : ByteArray} (h : WD s) : s.size ≤ 300 := by
  rcases h with h | h
  · omega
  · exact h.1
def cmpX (v w : ByteArray) : ByteArray := if v.size = 0 then w else if w.size = 0 then v else (v ++ (⟨#[47]⟩ : ByteArray)) ++ w
end Go.Sw

namespace Go.Sw
open Go Go.RowKit
/-! ### Texts from bytes. -/
def txt (m : Nat) (g : Nat → Nat) : ByteArray := ((List.range m).map fun i => (g i : Int)).foldl (fun r n => r.push (UInt8.ofNat n.toNat)) ByteArray.empty
theorem txt_congr {m : Nat} {f g : Nat → Nat} (h : ∀ i, i < m → f i = g i) : txt m f = txt m g := by
  unfold txt
  congr 1
  exact List.map_congr_left fun i hi => by rw [h i (List.mem_range.1 hi)]
def dgC (m : Nat) (f : Nat → Nat) : Array Value := fnC m (fun c => .int .u8 (f c : Int))
theorem dgC_size {m : Nat} {f : Nat → Nat} : (dgC m f).size = m := fnC_size _ _
theorem dgC_get {m q k : Nat} {f : Nat → Nat} (h : q = k) (hk : k < m) : (dgC m f)[q]? = some (.int .u8 (f k : Int)) := by subst h; exact fnC_get hk
theorem dgC_congr {m : Nat} {f g : Nat → Nat} (h : ∀ c, c < m → f c = g c) : dgC m f = dgC m g := fnC_congr fun c hc => by rw [h c hc]
theorem dgC_set {m q k : Nat} {f g : Nat → Nat} {x : Int} (h : q = k) (hx : x = (g k : Int)) (hg : ∀ c, c < m → c ≠ k → g c = f c) : (dgC m f).setIfInBounds q (.int .u8 x) = dgC m g := by
  subst h; subst hx;refine fnC_set fun c hc => ?_
  by_cases e : c = q
  · rw [if_pos e, e]
  · rw [if_neg e, hg c hc e]
def dig (k : Nat) : Nat := if k < 10 then 48 + k else 97 + k - 10
def digs : ByteArray := ⟨#[48, 49, 50, 51, 52, 53, 54, 55, 56, 57, 97, 98, 99]⟩
section
variable {P : Program} {n : Nat} {F : List (Nat × Value)} {a : Act} {w : World} {d : Option Tmp} {t T T' : TypeId} {pos : String} {af : Array Edge} {gd : Option (Nat × Bool)} {x y z : Operand}
theorem g_b2sN {e : TypeId} {b c m : Nat} {g : Nat → Nat} {cs : Array Value} (hT : P.underlying T = some (.slice e)) (hT' : P.underlying T' = some .string) (he : P.underlying e = some (.int .u8)) (hF : Fr n a F) (hx : look F x = some (.slice (some ⟨b, 0, none⟩) m c)) (hb : Blk w b cs) (hc : ∀ i, i < m → cs[0 + i * 1]? = some (.int .u8 (g i : Int))) :
    Gives P ⟨d, .convert T T' x, t, pos, af, gd⟩ a w (.string (txt m g)) := by
  have hl := run_loadCells_list (P := P) (w := w) ⟨b, 0, none⟩ (((List.range m).map fun i => (g i : Int)).map (Value.int .u8)) (fun j u hj => by
    have hjm : j < m := by have := (List.getElem?_eq_some_iff.1 hj).1; simpa using this
    rw [List.getElem?_map, List.getElem?_map, List.getElem?_range hjm] at hj;simp only [Option.map_some, Option.some.injEq] at hj;subst hj;rw [Addr.add_lit, hb.cell];have := hc j hjm
    rwa [show 0 + j * 1 = 0 + j by omega] at this)
  rw [List.length_map, List.length_map, List.length_range] at hl;have hr := run_bytesToString (P := P) w ⟨b, 0, none⟩ m c ((List.range m).map fun i => (g i : Int)) hl;exact gives_of_run (by simp [execOp, convert, run_underlying hT, run_underlying hT', run_underlying he, hF.eval hx, hr]; rfl)
end
end Go.Sw

namespace Go.Sw
open Go Go.RowKit
/-! ### Maps whose keys are structs of numbers. -/
def leafs (P : Program) : Nat → TypeId → List IntKind → Bool
  | 0, _, _ => false
  | d + 1, t, ks =>
    match P.underlying t with
    | some (.int q) => decide (ks = [q])
    | some (.array n e) => Nat.beq ks.length (P.cellsOf t) && (List.range n).all fun i => leafs P d e ((ks.drop (i * P.cellsOf e)).take (P.cellsOf e))
    | some (.struct fs) => Nat.beq ks.length (P.cellsOf t) && fs.all (·.name != "_") && fs.toList.all fun f => leafs P d f.type ((ks.drop f.offset).take (P.cellsOf f.type))
    | _ => false
def Leafy (cs : List Value) (ks : List IntKind) : Prop := cs.length = ks.length ∧ ∀ (i : Nat) (q : IntKind), ks[i]? = some q → ∃ x, cs[i]? = some (Value.int q x) ∧ (Lit.int q x).wf = true
theorem Leafy.part {cs : List Value} {ks : List IntKind} (h : Leafy cs ks) (o l : Nat) : Leafy ((cs.drop o).take l) ((ks.drop o).take l) :=
  ⟨by simp [h.1], fun i q hi => by
    rw [List.getElem?_take] at hi ⊢
    split at hi
    · rename_i hl
      rw [if_pos hl, List.getElem?_drop]
      rw [List.getElem?_drop] at hi
      exact h.2 _ q hi
    · cases hi⟩
def wideB (P : Program) (k : TypeId) : Bool := match P.underlying k with | some (.array _ _) | some (.struct _) => true | _ => false
def IsMap (w : World) (b : Nat) (es : Array MapEntry) (c : Nat) : Prop := w.heap[b]? = some (.map es c)
theorem IsMap.ext {w w' : World} {b : Nat} {es : Array MapEntry} {c : Nat} (h : IsMap w b es c) (hx : Ext w w') : IsMap w' b es c := by
  have hlt : b < w.heap.size := (Array.getElem?_eq_some_iff.1 h).1
  unfold IsMap
  rw [hx.block b hlt]; exact h
section
variable {P : Program} {n : Nat} {F : List (Nat × Value)} {a : Act} {w w0 : World} {d : Option Tmp} {t T kt et : TypeId} {pos : String} {af : Array Edge} {gd : Option (Nat × Bool)} {x y z : Operand} {X : List Nat} {L : Own} {D : Froz}
end
end Go.Sw

namespace Go.Sw
open Go Go.RowKit
/-! ### Maps of the call's own with texts as keys -/
section
variable {P : Program} {n : Nat} {F : List (Nat × Value)} {a : Act} {w w0 : World} {d : Option Tmp} {t T kt et : TypeId} {pos : String} {af : Array Edge} {gd : Option (Nat × Bool)} {x y z : Operand} {X : List Nat} {L : Own} {D : Froz}
end
end Go.Sw
namespace Go.Sw
open Go Go.RowKit
section
variable {P : Program} {n : Nat} {F : List (Nat × Value)} {a : Act} {w : World} {d : Option Tmp} {t T T' : TypeId} {pos : String} {af : Array Edge} {gd : Option (Nat × Bool)} {x y : Operand} {k : IntKind} {A B C : Int}
end
end Go.Sw

namespace Go.Sw
open Go Go.RowKit
/-! ### Maps of the call's own with arrays as keys; a function value with two captures -/
section
variable {P : Program} {n : Nat} {F : List (Nat × Value)} {a : Act} {w w0 : World} {d : Option Tmp} {t T kt et : TypeId} {pos : String} {af : Array Edge} {gd : Option (Nat × Bool)} {x y z : Operand} {X : List Nat} {L : Own} {D : Froz}
end
theorem IsMap.setRow {w : World} {b q : Nat} {cs cs' : Array Value} {es : Array MapEntry} {c : Nat} (h : IsMap w q es c) (hb : Blk w b cs) : IsMap (w.setRow b cs') q es c := by
  have hne : q ≠ b := fun e => by
    obtain ⟨t, ht⟩ := hb
    unfold IsMap at h
    rw [e, ht] at h; cases h
  unfold IsMap
  rw [setRow_other w b q cs' hne]; exact h
section
variable {P : Program} {n : Nat} {F : List (Nat × Value)} {a : Act} {w w0 : World} {d : Option Tmp} {t T : TypeId} {pos : String} {af : Array Edge} {gd : Option (Nat × Bool)} {x y : Operand} {X : List Nat} {L : Own} {D : Froz}
end
end Go.Sw

namespace Go.Sw
open Go Go.RowKit
variable {P : Program} {n : Nat} {F : List (Nat × Value)} {a : Act} {w : World} {d : Option Tmp} {t : TypeId} {pos : String} {af : Array Edge} {gd : Option (Nat × Bool)} {x y : Operand}
/-! ### The greater one of two numbers; a number turned over -/
end Go.Sw

namespace Go.Sw
open Go Go.RowKit Go.ChangeShapes Go.WideShapes Go.ChangeAt
def ArgVs (w : World) (sl : Value) (m : Nat) (V : Nat → Nat → Nat) : Prop :=
  (∃ x c, sl = .slice x m c) ∧ (0 < m → ∃ b o c, sl = .slice (some ⟨b, o, none⟩) m c ∧ ∀ i, i < m → ∀ j, j < 6 → w.cell? ⟨b, o + i * 6 + j, none⟩ = some (.int .u8 (V i j : Int)))
theorem ArgVs.ext {w w' : World} {sl : Value} {m : Nat} {V : Nat → Nat → Nat} (h : ArgVs w sl m V) (hx : Ext w w') : ArgVs w' sl m V :=
  ⟨h.1, fun hm => by obtain ⟨b, o, c, h1, h3⟩ := h.2 hm; exact ⟨b, o, c, h1, fun i hi j hj => cell_ext (h3 i hi j hj) hx⟩⟩
theorem ArgVs.one {w : World} {sl : Value} {m : Nat} {V : Nat → Nat → Nat} (h : ArgVs w sl m V) : sl.oneCell' = true := by
  obtain ⟨⟨x, c, rfl⟩, _⟩ := h; rfl
section
variable {P : Program} {n : Nat} {F : List (Nat × Value)} {a : Act} {w : World} {d : Option Tmp} {t : TypeId} {pos : String} {af : Array Edge} {gd : Option (Nat × Bool)} {x : Operand}
end
section
variable {H : Type} {enc : TypeId × Value → H} {P : Program} {w w' : World} {base : Nat} {spare : Nat → Bool} {held : Bool}
theorem cells?_get {a : Addr} {n : Nat} {cs : List Value} (h : w.cells? base a n = some cs) : cs.length = n ∧ ∀ i, i < n → w.cell? (a.add i) = cs[i]? := by
  unfold World.cells? at h
  split at h
  · have hl := mapM_some_length h
    rw [List.length_range] at hl;refine ⟨hl.symm ▸ rfl, fun i hi => ?_⟩;have := mapM_some_get h i i (by rw [List.getElem?_range hi]);exact this
  · cases h
end
section
variable {H : Type} {enc : TypeId × Value → H} {P : Program} {w : World} {base : Nat} {spare : Nat → Bool} {held : Bool}
end
section
variable {P : Program} {X : List Nat} {w0 w : World} {L : Own} {D : Froz} {n : Nat} {F : List (Nat × Value)} {a : Act} {d : Option Tmp} {T : TypeId} {t : TypeId} {pos : String} {af : Array Edge} {gd : Option (Nat × Bool)} {x y : Operand}
end
end Go.Sw

namespace Go.Sw
open Go Go.RowKit Go.ChangeShapes Go.WideShapes Go.ChangeAt
def grpC (n : Int) (M : Nat → Nat → Nat) : Array Value := fnC 37 fun c => if c = 0 then .int .i64 n else .int .u8 (M ((c - 1) / 6) ((c - 1) % 6))
section
variable {n q : Int} {M N : Nat → Nat → Nat}
end
def grpKs : List IntKind := .i64 :: List.replicate 36 .u8
section
variable {H : Type} {enc : TypeId × Value → H} {P : Program} {w : World} {base : Nat} {spare : Nat → Bool} {held : Bool} {t : TypeId} {v : Value} {d : DataW H} {p : List MemPlace}
end
end Go.Sw
