/- Plain lemmas of a small calculus for walks over frames and own memory; no statement of the seat is proved here. -/
import Derived.Test.YtiafijbifmcflaaSw114
import Derived.Test.YtiafijbifmcflaaSw21
import Derived.Test.YtiafijbifmcflaaSw9
import Derived.ChangeSlices
import Derived.ShutString
import Derived.JoinedOf
import Derived.KernelRfl
set_option linter.unusedVariables false
set_option linter.unusedSimpArgs false
namespace Go.Sw
open Go Go.RowKit
/-! ### Texts cut at a byte: the places of the byte, and what lies between them. -/
def bnd (s : ByteArray) (c : Nat) : Nat → List Nat
  | 0 => []
  | i + 1 => if byt s i = c then bnd s c i ++ [i] else bnd s c i
def cnt (s : ByteArray) (c i : Nat) : Nat := (bnd s c i).length
def sta (s : ByteArray) (c : Nat) : Nat → Nat
  | 0 => 0
  | i + 1 => if byt s i = c then i + 1 else sta s c i
def nSg (s : ByteArray) (c : Nat) : Nat := cnt s c s.size + 1
def sgB (s : ByteArray) (c k : Nat) : Nat := (bnd s c s.size ++ [s.size]).getD k s.size
def sgA (s : ByteArray) (c k : Nat) : Nat := if k = 0 then 0 else sgB s c (k - 1) + 1
def seg (s : ByteArray) (c k : Nat) : ByteArray := s.extract (sgA s c k) (sgB s c k)
section
variable {s : ByteArray} {c : Nat}
end
/-! ### Words of pieces. -/
def pcB (c : Nat) : Bool := decide (c = 105) || decide (c = 120) || decide (c = 109) || decide (c = 115) || decide (c = 117) || decide (c = 101)
def inL (c : Nat) : Nat := if c = 105 then 1 else if c = 120 then 2 else if c = 109 then 2 else if c = 115 then 1 else if c = 117 then 0 else if c = 101 then 1 else 0
def outL (c : Nat) : Nat := if c = 105 then 1 else if c = 120 then 2 else if c = 109 then 1 else if c = 115 then 2 else if c = 117 then 1 else 0
def eulL (c : Nat) : Int := if c = 117 then 1 else if c = 101 then 1 else if c = 109 then -1 else if c = 115 then -1 else 0
def inR (s : ByteArray) : Nat → Nat
  | 0 => 0
  | i + 1 => if byt s i = 47 then 0 else inR s i + inL (byt s i)
def outR (s : ByteArray) : Nat → Nat
  | 0 => 0
  | i + 1 => if byt s i = 47 then 0 else outR s i + outL (byt s i)
section
variable {s : ByteArray}
end
def layP (s : ByteArray) (b : Nat) : Prop := sta s 47 b < b ∧ inR s b ≤ 6 ∧ outR s b ≤ 6 ∧ (0 < sta s 47 b → inR s b = outR s (sta s 47 b - 1))
def isB (s : ByteArray) (b : Nat) : Prop := b = s.size ∨ (b < s.size ∧ byt s b = 47)
def WordP (s : ByteArray) : Prop := s.size ≤ 300 ∧ (∀ i, i < s.size → byt s i = 47 ∨ pcB (byt s i) = true) ∧ ∀ b, b ≤ s.size → isB s b → layP s b
end Go.Sw

namespace Go.Sw
open Go Go.RowKit
def layC (t : ByteArray) (a b : Int) : Array Value := #[.string t, .int .i64 a, .int .i64 b]
section
variable {t u : ByteArray} {a b x : Int} {q : Nat}
end
def layF (s : ByteArray) (q : Nat) : Value := if q % 3 = 0 then .string (seg s 47 (q / 3)) else if q % 3 = 1 then .int .i64 (inR s (sgB s 47 (q / 3)) : Int) else .int .i64 (outR s (sgB s 47 (q / 3)) : Int)
def segF (s : ByteArray) (c : Nat) (k : Nat) : Value := .string (seg s c k)
section
variable {s : ByteArray}
end
end Go.Sw

namespace Go.Sw
open Go Go.RowKit
def fitP (z a b k o : Nat) : Prop := 0 < z ∧ a ≤ 6 ∧ b ≤ 6 ∧ (0 < k → a = o)
instance (z a b k o : Nat) : Decidable (fitP z a b k o) := by unfold fitP; infer_instance
instance (s : ByteArray) (b : Nat) : Decidable (layP s b) := by unfold layP; infer_instance
section
variable {s : ByteArray}
end
end Go.Sw

namespace Go.Sw
open Go Go.RowKit Go.ChangeShapes Go.WideShapes Go.ChangeAt
section
variable {H : Type} {enc : TypeId × Value → H} {P : Program} {w : World} {base : Nat} {spare : Nat → Bool} {held : Bool}
end
end Go.Sw

namespace Go.Sw
theorem wordsSigns_nb : ∀ (c : Char) (r : List Char), c ≠ ' ' → wordsSigns (c :: r) = match wordsSigns r with
    | w :: ws => (c :: w) :: ws
    | [] => [[c]] := by
  intro c r h;rw [wordsSigns.eq_def]
  split
  · simp_all
  · rename_i heq; simp at heq; exact absurd heq.1 h
  · rename_i heq; simp only [List.cons.injEq] at heq; obtain ⟨rfl, rfl⟩ := heq; rfl
theorem wordsSigns_word : ∀ (w r : List Char), (∀ c ∈ w, c ≠ ' ') → wordsSigns (w ++ ' ' :: r) = w :: wordsSigns r
  | [], r, _ => by simp [wordsSigns]
  | c :: w, r, h => by
    rw [List.cons_append, wordsSigns_nb c _ (h c (by simp)), wordsSigns_word w r (fun d hd => h d (by simp [hd]))]
theorem sum_nb (s : List Char) (h : isSumSigns s = true) : ∀ c ∈ s, c ≠ ' ' := by
  intro c hc he
  unfold isSumSigns at h
  simp only [Bool.and_eq_true, List.all_eq_true] at h;have := h.2 c hc;subst he
  revert this; decide
theorem cutHead (L s r : List Char) (h : L = "harness".toList ++ ' ' :: (s ++ ' ' :: ("cut".toList ++ ' ' :: r))) (hs : isSumSigns s = true) :
    behindMainWord (wordsSigns L) = "cut".toList :: wordsSigns r := by
  rw [h, wordsSigns_word _ _ (by decide), wordsSigns_word _ _ (sum_nb s hs), wordsSigns_word _ _ (by decide)];have : ("harness".toList == "harness".toList || "harness".toList == "ownmain".toList) = true := by decide
  unfold behindMainWord
  show (if (("harness".toList == "harness".toList || "harness".toList == "ownmain".toList) && isSumSigns s) = true then _ else _) = _
  rw [if_pos (by rw [this, hs]; rfl)]
theorem strip_cut (R : List (List Char)) : stripLifts liftWords ("cut".toList :: R) = ([], "cut".toList :: R) := by
  kernel_rfl
theorem lifts_cut (P : Program) (R : List (List Char)) (h : behindMainWord (wordsSigns P.initOrder.toList) = "cut".toList :: R) : P.headLifts = [] := by
  unfold Program.headLifts; rw [h, strip_cut]; rfl
theorem make_cut (P : Program) (R : List (List Char)) (h : behindMainWord (wordsSigns P.initOrder.toList) = "cut".toList :: R) : P.make = some .cut := by
  unfold Program.make; rw [h]
  have h1 : ("cut".toList == "gc".toList || "cut".toList == "spec".toList) = false := by decide
  have h2 : ("cut".toList == "cut".toList) = true := by decide
  simp only [h1, h2]; rfl
theorem final_cut (P : Program) (R : List (List Char)) (h : behindMainWord (wordsSigns P.initOrder.toList) = "cut".toList :: R) : P.liftsFinal = false := by
  unfold Program.liftsFinal; rw [lifts_cut P R h, h]; kernel_rfl
theorem enter_cut (P : Program) (R : List (List Char)) (h : behindMainWord (wordsSigns P.initOrder.toList) = "cut".toList :: R)
    (hl : P.laysLater = false) (hb : P.bearsReflect = false) (hd : P.doorFits [] = true) : P.mayEnter = true := by
  unfold Program.mayEnter; rw [h]
  simp only [strip_cut, hl, hb, hd]
  kernel_rfl
end Go.Sw
