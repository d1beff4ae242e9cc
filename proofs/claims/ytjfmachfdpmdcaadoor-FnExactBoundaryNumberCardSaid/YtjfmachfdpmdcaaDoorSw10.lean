/- Plain lemmas of a small calculus for walks over frames and own memory; no statement of the seat is proved here. -/
import Derived.Test.YtjfmachfdpmdcaaDoorEch11
import Derived.JoinedOf
import Derived.KernelRfl
set_option linter.unusedVariables false
set_option linter.unusedSimpArgs false
namespace Go.Ech
open Go.Sw
/-! ### Polynomials in a vector, times an idempotent. -/
def EqP (p n : Nat) (x y : Nat → Int) : Prop := ∀ c, c < n → (p : Int) ∣ x c - y c
section
variable {p n : Nat} {T : Nat → Nat → Nat → Nat} {x y z x' y' : Nat → Int}
theorem EqP.refl (x : Nat → Int) : EqP p n x x := fun c _ => by rw [Int.sub_self]; exact ⟨0, by simp⟩
theorem EqP.symm (h : EqP p n x y) : EqP p n y x := fun c hc => by
  have := Int.dvd_neg.2 (h c hc)
  rwa [Int.neg_sub] at this
theorem EqP.trans (h : EqP p n x y) (k : EqP p n y z) : EqP p n x z := fun c hc => by
  have := Int.dvd_add (h c hc) (k c hc)
  rwa [show x c - y c + (y c - z c) = x c - z c by omega] at this
theorem EqP.mul (h : EqP p n x x') (k : EqP p n y y') : EqP p n (Pr n T x y) (Pr n T x' y') := fun c _ => Pr_congr h k c
theorem EqP.add (h : EqP p n x x') (k : EqP p n y y') : EqP p n (fun c => x c + y c) (fun c => x' c + y' c) := fun c hc => by
  have := Int.dvd_add (h c hc) (k c hc)
  rwa [show x c - x' c + (y c - y' c) = x c + y c - (x' c + y' c) by omega] at this
def ComI (n : Nat) (T : Nat → Nat → Nat → Nat) : Prop := ∀ i, i < n → ∀ j, j < n → ∀ k, k < n → T i j k = T j i k
end
def eP (n : Nat) (T : Nat → Nat → Nat → Nat) (e v : Nat → Int) : Nat → Nat → Int
  | 0 => e
  | k + 1 => Pr n T (eP n T e v k) v
def evl (n : Nat) (T : Nat → Nat → Nat → Nat) (e v : Nat → Int) : List Int → Nat → Nat → Int
  | [], _, _ => 0
  | a :: r, j, c => a * eP n T e v j c + evl n T e v r (j + 1) c
def addL : List Int → List Int → List Int
  | [], r => r
  | q, [] => q
  | a :: q, b :: r => (a + b) :: addL q r
def mulLL (q : List Int) : List Int → List Int
  | [] => []
  | b :: r => addL (q.map (b * ·)) (0 :: mulLL q r)
def congL (p : Int) (q r : List Int) : Bool := (addL q (r.map (-1 * ·))).all fun a => decide (a % p = 0)
section
variable {p n : Nat} {T : Nat → Nat → Nat → Nat} {e v : Nat → Int}
variable (ha : AssI p n T) (hk : ComI n T) (he : EqP p n (Pr n T e e) e)
include ha hk in
end
end Go.Ech

namespace Go.Sw
open Go Go.RowKit
variable {P : Program} {n : Nat} {F : List (Nat × Value)} {a : Act} {w : World} {d : Option Tmp} {t : TypeId} {pos : String} {af : Array Edge} {gd : Option (Nat × Bool)} {x y : Operand}
/-! ### The greater one of two numbers; a number turned over -/
theorem g_max {T1 T2 : TypeId} {k : IntKind} {A B C : Int} (hF : Fr n a F) (hx : look F x = some (.int k A)) (hy : look F y = some (.int k B)) (hC : (if B > A then B else A) = C) : Gives P ⟨d, .call { callee := .builtin .max, args := #[x, y], argTypes := #[T1, T2] }, t, pos, af, gd⟩ a w (.int k C) :=
  gives_of_run (by simp [execOp, resolve, invoke, hF.eval hx, hF.eval hy, builtin, Builtin.max_, Builtin.max2, hC])
end Go.Sw

namespace Go.Sw
open Go Go.RowKit
variable {P : Program} {n : Nat} {F : List (Nat × Value)} {a : Act} {w : World} {d : Option Tmp} {t : TypeId} {pos : String} {af : Array Edge} {gd : Option (Nat × Bool)} {x y : Operand}
/-! ### The smaller one of two numbers -/
theorem g_min {T1 T2 : TypeId} {k : IntKind} {A B C : Int} (hF : Fr n a F) (hx : look F x = some (.int k A)) (hy : look F y = some (.int k B)) (hC : (if B < A then B else A) = C) : Gives P ⟨d, .call { callee := .builtin .min, args := #[x, y], argTypes := #[T1, T2] }, t, pos, af, gd⟩ a w (.int k C) :=
  gives_of_run (by simp [execOp, resolve, invoke, hF.eval hx, hF.eval hy, builtin, Builtin.min_, Builtin.min2, hC])
theorem min_if (A B : Int) : (if B < A then B else A) = min A B := by omega
theorem max_if (A B : Int) : (if B > A then B else A) = max A B := by omega
end Go.Sw

namespace Go.Sw
theorem wordsSigns_nb : ∀ (c : Char) (r : List Char), c ≠ ' ' → wordsSigns (c :: r) = match wordsSigns r with
    | w :: ws => (c :: w) :: ws
    | [] => [[c]] := by
  intro c r h;rw [wordsSigns.eq_def]
  split
  · simp_all
  · rename_i heq; simp at heq; exact absurd heq.1 h
  · rename_i heq; simp only [List.cons.injEq] at heq; obtain ⟨rfl, rfl⟩ := heq; rfl
theorem wordsSigns_word : ∀ (w r : List Char), (∀ c ∈ w, c ≠ ' ') → wordsSigns (w ++ ' ' :: r) = w :: wordsSigns r
  | [], r, _ => by simp [wordsSigns]
  | c :: w, r, h => by
    rw [List.cons_append, wordsSigns_nb c _ (h c (by simp)), wordsSigns_word w r (fun d hd => h d (by simp [hd]))]
theorem sum_nb (s : List Char) (h : isSumSigns s = true) : ∀ c ∈ s, c ≠ ' ' := by
  intro c hc he
  unfold isSumSigns at h
  simp only [Bool.and_eq_true, List.all_eq_true] at h;have := h.2 c hc;subst he
  revert this; decide
theorem cutHead (L s r : List Char) (h : L = "harness".toList ++ ' ' :: (s ++ ' ' :: ("cut".toList ++ ' ' :: r))) (hs : isSumSigns s = true) :
    behindMainWord (wordsSigns L) = "cut".toList :: wordsSigns r := by
  rw [h, wordsSigns_word _ _ (by decide), wordsSigns_word _ _ (sum_nb s hs), wordsSigns_word _ _ (by decide)];have : ("harness".toList == "harness".toList || "harness".toList == "ownmain".toList) = true := by decide
  unfold behindMainWord
  show (if (("harness".toList == "harness".toList || "harness".toList == "ownmain".toList) && isSumSigns s) = true then _ else _) = _
  rw [if_pos (by rw [this, hs]; rfl)]
theorem strip_cut (R : List (List Char)) : stripLifts liftWords ("cut".toList :: R) = ([], "cut".toList :: R) := by
  kernel_rfl
theorem lifts_cut (P : Program) (R : List (List Char)) (h : behindMainWord (wordsSigns P.initOrder.toList) = "cut".toList :: R) : P.headLifts = [] := by
  unfold Program.headLifts; rw [h, strip_cut]; rfl
theorem make_cut (P : Program) (R : List (List Char)) (h : behindMainWord (wordsSigns P.initOrder.toList) = "cut".toList :: R) : P.make = some .cut := by
  unfold Program.make; rw [h]
  have h1 : ("cut".toList == "gc".toList || "cut".toList == "spec".toList) = false := by decide
  have h2 : ("cut".toList == "cut".toList) = true := by decide
  simp only [h1, h2]; rfl
theorem final_cut (P : Program) (R : List (List Char)) (h : behindMainWord (wordsSigns P.initOrder.toList) = "cut".toList :: R) : P.liftsFinal = false := by
  unfold Program.liftsFinal; rw [lifts_cut P R h, h]; kernel_rfl
theorem enter_cut (P : Program) (R : List (List Char)) (h : behindMainWord (wordsSigns P.initOrder.toList) = "cut".toList :: R)
    (hl : P.laysLater = false) (hb : P.bearsReflect = false) (hd : P.doorFits [] = true) : P.mayEnter = true := by
  unfold Program.mayEnter; rw [h]
  simp only [strip_cut, hl, hb, hd]
  kernel_rfl
end Go.Sw
