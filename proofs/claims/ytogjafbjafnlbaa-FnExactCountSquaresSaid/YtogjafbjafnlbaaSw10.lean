/- Plain lemmas of a small calculus for walks over frames and own memory; no statement of the seat is proved here. -/
import Derived.Test.YtogjafbjafnlbaaSw23
import Derived.Test.YtogjafbjafnlbaaSw27
import Derived.Test.YtogjafbjafnlbaaSw21
import Derived.Test.YtogjafbjafnlbaaSw9
import Derived.Recover
import Derived.Test.YtogjafbjafnlbaaSw22
import Derived.JoinedOf
import Derived.KernelRfl
set_option linter.unusedVariables false
set_option linter.unusedSimpArgs false
namespace Go.Sw
open Go Go.RowKit Go.ChangeShapes Go.WideShapes Go.ChangeAt
def ArgVs (w : World) (sl : Value) (m : Nat) (V : Nat → Nat → Nat) : Prop :=
  (∃ x c, sl = .slice x m c) ∧ (0 < m → ∃ b o c, sl = .slice (some ⟨b, o, none⟩) m c ∧ ∀ i, i < m → ∀ j, j < 6 → w.cell? ⟨b, o + i * 6 + j, none⟩ = some (.int .u8 (V i j : Int)))
theorem ArgVs.ext {w w' : World} {sl : Value} {m : Nat} {V : Nat → Nat → Nat} (h : ArgVs w sl m V) (hx : Ext w w') : ArgVs w' sl m V :=
  ⟨h.1, fun hm => by obtain ⟨b, o, c, h1, h3⟩ := h.2 hm; exact ⟨b, o, c, h1, fun i hi j hj => cell_ext (h3 i hi j hj) hx⟩⟩
theorem ArgVs.one {w : World} {sl : Value} {m : Nat} {V : Nat → Nat → Nat} (h : ArgVs w sl m V) : sl.oneCell' = true := by
  obtain ⟨⟨x, c, rfl⟩, _⟩ := h; rfl
section
variable {P : Program} {n : Nat} {F : List (Nat × Value)} {a : Act} {w : World} {d : Option Tmp} {t : TypeId} {pos : String} {af : Array Edge} {gd : Option (Nat × Bool)} {x : Operand}
end
section
variable {H : Type} {enc : TypeId × Value → H} {P : Program} {w w' : World} {base : Nat} {spare : Nat → Bool} {held : Bool}
theorem cells?_get {a : Addr} {n : Nat} {cs : List Value} (h : w.cells? base a n = some cs) : cs.length = n ∧ ∀ i, i < n → w.cell? (a.add i) = cs[i]? := by
  unfold World.cells? at h
  split at h
  · have hl := mapM_some_length h
    rw [List.length_range] at hl;refine ⟨hl.symm ▸ rfl, fun i hi => ?_⟩;have := mapM_some_get h i i (by rw [List.getElem?_range hi]);exact this
  · cases h
end
section
variable {H : Type} {enc : TypeId × Value → H} {P : Program} {w : World} {base : Nat} {spare : Nat → Bool} {held : Bool}
end
section
variable {P : Program} {X : List Nat} {w0 w : World} {L : Own} {D : Froz} {n : Nat} {F : List (Nat × Value)} {a : Act} {d : Option Tmp} {T : TypeId} {t : TypeId} {pos : String} {af : Array Edge} {gd : Option (Nat × Bool)} {x y : Operand}
end
end Go.Sw

namespace Go.Sw
open Go Go.RowKit Go.ChangeShapes Go.WideShapes Go.ChangeAt
def grpC (n : Int) (M : Nat → Nat → Nat) : Array Value := fnC 37 fun c => if c = 0 then .int .i64 n else .int .u8 (M ((c - 1) / 6) ((c - 1) % 6))
section
variable {n q : Int} {M N : Nat → Nat → Nat}
theorem grpC_size : (grpC n M).size = 37 := fnC_size _ _
theorem grpC_n {o : Nat} (h : o = 0) : (grpC n M)[o]? = some (.int .i64 n) := by subst h; exact fnC_get (by omega)
theorem grpC_M {o : Nat} (i j : Nat) (h : o = 1 + i * 6 + j) (hi : i < 6) (hj : j < 6) : (grpC n M)[o]? = some (.int .u8 (M i j : Int)) := by
  subst h
  unfold grpC
  rw [fnC_get (by omega), if_neg (by omega), show (1 + i * 6 + j - 1) / 6 = i by omega, show (1 + i * 6 + j - 1) % 6 = j by omega]
theorem grpC_tab {o e : Nat} (h : o = 1) (he : e = o + 36) : (grpC n M).extract o e = planeC M := by
  subst h;exact extract_ext he (by rw [grpC_size]; omega) fun c hc => grpC_M (c / 6) (c % 6) (by omega) (by omega) (by omega)
theorem grpC_one : ∀ u ∈ (grpC n M).toList, u.oneCell' = true := fnC_one fun i _ => by split <;> rfl
theorem grpC_eq {c : Array Value} (hs : c.size = 37) (h0 : c[0]? = some (.int .i64 n)) (hT : ∀ i j, i < 6 → j < 6 → c[1 + i * 6 + j]? = some (.int .u8 (M i j : Int))) : c = grpC n M := by
  apply Array.ext_getElem?
  intro i
  by_cases hi : i < 37
  · by_cases e0 : i = 0
    · subst e0; rw [h0, grpC_n rfl]
    · have e : i = 1 + ((i - 1) / 6) * 6 + (i - 1) % 6 := by omega
      rw [e, hT _ _ (by omega) (by omega), grpC_M _ _ rfl (by omega) (by omega)]
  · rw [Array.getElem?_eq_none (by omega), Array.getElem?_eq_none (by rw [grpC_size]; omega)]
theorem grpC_setn {o : Nat} (h : o = 0) : (grpC n M).setIfInBounds o (.int .i64 q) = grpC q M := by
  subst h;refine grpC_eq (by rw [Array.size_setIfInBounds, grpC_size]) ?_ ?_
  · rw [Array.getElem?_setIfInBounds_self_of_lt (by rw [grpC_size]; omega)]
  · intro i j hi hj; rw [Array.getElem?_setIfInBounds_ne (by omega)]; exact grpC_M i j rfl hi hj
theorem grpC_putT {o : Nat} (h : o = 1) : splice (grpC n M) o (planeC N) = grpC n N := by
  subst h;have hz : 1 + (planeC N).size ≤ (grpC n M).size := by rw [planeC_size, grpC_size]; omega
  refine grpC_eq (by rw [splice_size _ _ _ hz, grpC_size]) ?_ ?_
  · rw [splice_get _ _ _ _ hz, if_neg (by omega)]; exact grpC_n rfl
  · intro i j hi hj; rw [splice_get _ _ _ _ hz, planeC_size, if_pos (by omega)]; exact planeC_get i j (by omega) hi hj
end
def grpKs : List IntKind := .i64 :: List.replicate 36 .u8
theorem grpKs_u8 {i : Nat} (h1 : 1 ≤ i) (h2 : i < 37) : grpKs[i]? = some .u8 := by
  obtain ⟨j, rfl⟩ : ∃ j, i = j + 1 := ⟨i - 1, by omega⟩
  unfold grpKs
  rw [List.getElem?_cons_succ, List.getElem?_replicate, if_pos (by omega)]
theorem cells_grp {cs : Array Value} (hs : cs.size = 37) (h : KindsAt grpKs cs.toList) : ∃ (n : Int) (M : Nat → Nat → Nat), cs = grpC n M ∧ (∀ i j, M i j ≤ 255) ∧ (∀ i j, 6 ≤ i ∨ 6 ≤ j → M i j = 0) ∧ (-9223372036854775808 ≤ n ∧ n ≤ 9223372036854775807) := by
  have g0 := kind_get h (i := 0) (k := .i64) rfl;have gu := fun i h1 h2 => kind_get h (i := i) (k := .u8) (grpKs_u8 h1 h2);have bd : ∀ i, 1 ≤ i → i < 37 → 0 ≤ getI cs.toList[i]? ∧ getI cs.toList[i]? ≤ 255 := fun i h1 h2 => wf_u8 (gu i h1 h2).2;refine ⟨getI cs.toList[0]?, fun i j => if i < 6 ∧ j < 6 then (getI cs.toList[1 + i * 6 + j]?).toNat else 0, ?_, fun i j => ?_, fun i j hij => ?_, wf_i64 g0.2⟩
  · refine fnC_ext hs fun c hc => ?_
    by_cases h0 : c = 0
    · subst h0; rw [if_pos rfl, ← g0.1]; simp
    · rw [if_neg h0]
      have hb := bd c (by omega) (by omega);have hc1 := (gu c (by omega) (by omega)).1;have e0 : cs[c]? = cs.toList[c]? := by simp
      dsimp only
      rw [if_pos ⟨by omega, by omega⟩, show 1 + (c - 1) / 6 * 6 + (c - 1) % 6 = c by omega, Int.toNat_of_nonneg hb.1, e0];exact hc1
  · dsimp only
    split
    · have := bd (1 + i * 6 + j) (by omega) (by omega); omega
    · omega
  · dsimp only
    rw [if_neg (by omega)]
section
variable {H : Type} {enc : TypeId × Value → H} {P : Program} {w : World} {base : Nat} {spare : Nat → Bool} {held : Bool} {t : TypeId} {v : Value} {d : DataW H} {p : List MemPlace}
theorem open_grp {r : Go.Reach} {b0 : Nat} {fs : Array Field} {m : Nat} (ht : P.underlying t = some (.struct fs)) (hc : P.cellsOf t = 37) (hk : kindsT P m t = some grpKs) (hv : Value.okWide P w r b0 t v) (h : DataW.Trod enc P w base spare held t v d p) :
    ∃ (n : Int) (M : Nat → Nat → Nat), v = .agg (grpC n M) ∧ (∀ i j, M i j ≤ 255) ∧ (∀ i j, 6 ≤ i ∨ 6 ≤ j → M i j = 0) ∧ (-9223372036854775808 ≤ n ∧ n ≤ 9223372036854775807) := by
  obtain ⟨cs, rfl, hs⟩ := okWide_struct ht hv;obtain ⟨fuel, h⟩ := h;obtain ⟨n, M, rfl, h1⟩ := cells_grp (hs.trans hc) (trod_kinds m t _ hk fuel _ _ h);exact ⟨n, M, rfl, h1⟩
end
end Go.Sw

namespace Go.Sw
open Go Go.RowKit
variable {P : Program}
/-! ### Deferred calls: what was laid before lies behind the frame. -/
def addD (ds : List Deferred) (a : Act) : Act := ⟨a.tmps, a.defers ++ ds⟩
section
variable {ds : List Deferred} {ops : Array Oper} {Q : Exit → Act → World → Prop} {n : Nat} {F : List (Nat × Value)} {a : Act} {w : World}
end
end Go.Sw

namespace Go.Sw
open Go Go.RowKit
variable {P : Program}
section
variable {n : Nat} {F : List (Nat × Value)} {a : Act} {w : World} {d : Option Tmp} {t : TypeId} {pos : String} {af : Array Edge} {gd : Option (Nat × Bool)} {T : TypeId} {x y : Operand}
end
end Go.Sw

namespace Go.Sw
open Go Go.RowKit
variable {P : Program}
/-! ### A door: a deferred closure that recovers. -/
section
variable {ops : Array Oper} {Q : Exit → Act → World → Prop} {rest : List Oper} {n : Nat} {F : List (Nat × Value)} {a : Act} {w : World} {d : Option Tmp} {t : TypeId} {pos : String} {af : Array Edge} {gd : Option (Nat × Bool)}
def okA (tm : Array Value) : List (Nat × Value) → Prop
  | [] => True
  | (t, v) :: r => tm.getD t undef = v ∧ okA tm r
def Clo (P : Program) (f b : Nat) (u : FrameMode) (w : World) (c : Value) : Prop :=
  CallsD P f #[ptr b 0] u w fun e u' w' => (∃ v, e = .returned v) ∧ settle u' = .returning ∧ ExtX [b] w w' ∧ Blk w' b #[c]
end
end Go.Sw

namespace Go.Sw
open Go Go.RowKit
def l4 (a b c d : Nat) (i : Nat) : Nat := match i with
  | 0 => a
  | 1 => b
  | 2 => c
  | _ => d
section
variable {P : Program} {n : Nat} {F : List (Nat × Value)} {a : Act} {w : World} {d : Option Tmp} {t : TypeId} {pos : String} {af : Array Edge} {gd : Option (Nat × Bool)}
end
end Go.Sw

namespace Go.Sw
theorem wordsSigns_nb : ∀ (c : Char) (r : List Char), c ≠ ' ' → wordsSigns (c :: r) = match wordsSigns r with
    | w :: ws => (c :: w) :: ws
    | [] => [[c]] := by
  intro c r h;rw [wordsSigns.eq_def]
  split
  · simp_all
  · rename_i heq; simp at heq; exact absurd heq.1 h
  · rename_i heq; simp only [List.cons.injEq] at heq; obtain ⟨rfl, rfl⟩ := heq; rfl
theorem wordsSigns_word : ∀ (w r : List Char), (∀ c ∈ w, c ≠ ' ') → wordsSigns (w ++ ' ' :: r) = w :: wordsSigns r
  | [], r, _ => by simp [wordsSigns]
  | c :: w, r, h => by
    rw [List.cons_append, wordsSigns_nb c _ (h c (by simp)), wordsSigns_word w r (fun d hd => h d (by simp [hd]))]
theorem sum_nb (s : List Char) (h : isSumSigns s = true) : ∀ c ∈ s, c ≠ ' ' := by
  intro c hc he
  unfold isSumSigns at h
  simp only [Bool.and_eq_true, List.all_eq_true] at h;have := h.2 c hc;subst he
  revert this; decide
theorem cutHead (L s r : List Char) (h : L = "harness".toList ++ ' ' :: (s ++ ' ' :: ("cut".toList ++ ' ' :: r))) (hs : isSumSigns s = true) :
    behindMainWord (wordsSigns L) = "cut".toList :: wordsSigns r := by
  rw [h, wordsSigns_word _ _ (by decide), wordsSigns_word _ _ (sum_nb s hs), wordsSigns_word _ _ (by decide)];have : ("harness".toList == "harness".toList || "harness".toList == "ownmain".toList) = true := by decide
  unfold behindMainWord
  show (if (("harness".toList == "harness".toList || "harness".toList == "ownmain".toList) && isSumSigns s) = true then _ else _) = _
  rw [if_pos (by rw [this, hs]; rfl)]
theorem strip_cut (R : List (List Char)) : stripLifts liftWords ("cut".toList :: R) = ([], "cut".toList :: R) := by
  kernel_rfl
theorem lifts_cut (P : Program) (R : List (List Char)) (h : behindMainWord (wordsSigns P.initOrder.toList) = "cut".toList :: R) : P.headLifts = [] := by
  unfold Program.headLifts; rw [h, strip_cut]; rfl
theorem make_cut (P : Program) (R : List (List Char)) (h : behindMainWord (wordsSigns P.initOrder.toList) = "cut".toList :: R) : P.make = some .cut := by
  unfold Program.make; rw [h]
  have h1 : ("cut".toList == "gc".toList || "cut".toList == "spec".toList) = false := by decide
  have h2 : ("cut".toList == "cut".toList) = true := by decide
  simp only [h1, h2]; rfl
theorem final_cut (P : Program) (R : List (List Char)) (h : behindMainWord (wordsSigns P.initOrder.toList) = "cut".toList :: R) : P.liftsFinal = false := by
  unfold Program.liftsFinal; rw [lifts_cut P R h, h]; kernel_rfl
theorem enter_cut (P : Program) (R : List (List Char)) (h : behindMainWord (wordsSigns P.initOrder.toList) = "cut".toList :: R)
    (hl : P.laysLater = false) (hb : P.bearsReflect = false) (hd : P.doorFits [] = true) : P.mayEnter = true := by
  unfold Program.mayEnter; rw [h]
  simp only [strip_cut, hl, hb, hd]
  kernel_rfl
end Go.Sw
