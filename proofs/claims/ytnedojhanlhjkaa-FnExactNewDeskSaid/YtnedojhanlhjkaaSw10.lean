/- Plain lemmas of a small calculus for walks over frames and own memory; no statement of the seat is proved here. -/
import Derived.Test.YtnedojhanlhjkaaSw6
import Derived.Test.YtnedojhanlhjkaaSw30
import Derived.Test.YtnedojhanlhjkaaSw45
import Derived.JoinedOf
import Derived.KernelRfl
set_option linter.unusedVariables false
set_option linter.unusedSimpArgs false
namespace Go.Sw
open Go Go.RowKit
variable {P : Program}
/-! ### Regions that draw their order, with guards (as Sw4, but an operation may be passed over). -/
section
variable {ops : List Oper} {Q : Exit → Act → World → Prop} {n : Nat} {F : List (Nat × Value)} {G : Type} {S : G → World → Prop}
def dstsOkQ (n : Nat) (F : List (Nat × Value)) : List Oper → List Nat → Bool
  | [], _ => true
  | o :: r, seen => (match o.dst with
    | some d => Nat.blt d n && (lk F d).isNone && !(memNat d seen) && dstsOkQ n F r (d :: seen)
    | none => false)

def StepsQ {G : Type} (P : Program) (ops : List Oper) (k n : Nat) (F : List (Nat × Value)) (S : G → World → Prop) (φ : Facts G) : List Oper → Nat → Prop
  | [], _ => True
  | o :: r, i => (∀ a w g, Fr n a F → S g w → Deps ops k φ o g a w → if Region.wanted o (yielded ops.toArray a.tmps) = true then Does P o a w (After S φ i g w) else After S φ i g w undef w) ∧ StepsQ P ops k n F S φ r (i + 1)
theorem StepsQ.get {k : Nat} {φ : Facts G} : ∀ {l : List Oper} {i : Nat}, StepsQ P ops k n F S φ l i → ∀ (j : Nat) (o : Oper), l[j]? = some o →
    ∀ a w g, Fr n a F → S g w → Deps ops k φ o g a w → if Region.wanted o (yielded ops.toArray a.tmps) = true then Does P o a w (After S φ (i + j) g w) else After S φ (i + j) g w undef w
  | [], _, _, j, o, h => by simp at h
  | x :: r, i, hs, j, o, h => by
    cases j with
    | zero => simp at h; subst h; exact hs.1
    | succ j => have := hs.2.get j o (by simpa using h); rwa [show i + 1 + j = i + (j + 1) by omega] at this

end
end Go.Sw

namespace Go.Sw
open Go Go.RowKit Go.ChangeShapes Go.WideShapes Go.ChangeAt
def algE (p n : Int) (T : Nat → Nat → Nat → Nat) (f : Nat → Nat) (c : Nat) : Value :=
  if c = 0 then .int .i64 p else if c = 1 then .int .i64 n else if c < 218 then .int .u8 (T ((c - 2) / 36) ((c - 2) / 6 % 6) ((c - 2) % 6)) else .int .u8 (f (c - 218))
def pairC (p n : Int) (T : Nat → Nat → Nat → Nat) (f : Nat → Nat) (q m : Int) (U : Nat → Nat → Nat → Nat) (g : Nat → Nat) (Z : Nat → Nat → Nat) : Array Value :=
  fnC 484 fun c => if c < 224 then algE p n T f c else if c < 448 then algE q m U g (c - 224) else .int .u8 (Z ((c - 448) / 6) ((c - 448) % 6))
section
variable {p n q m p' n' : Int} {T U T' : Nat → Nat → Nat → Nat} {f g f' : Nat → Nat} {Z Z' : Nat → Nat → Nat}
theorem algC_algE {c : Nat} (h : c < 224) : (algC p n T f)[c]? = some (algE p n T f c) := fnC_get h
theorem algE_one (c : Nat) : (algE p n T f c).oneCell' = true := by
  unfold algE
  split
  · rfl
  · split
    · rfl
    · split <;> rfl
end
def pairKs : List IntKind := algKs ++ (algKs ++ List.replicate 36 .u8)
section
variable {H : Type} {enc : TypeId × Value → H} {P : Program} {w : World} {base : Nat} {spare : Nat → Bool} {held : Bool} {t : TypeId} {v : Value} {d : DataW H} {p : List MemPlace}
end
end Go.Sw

namespace Go.Sw
open Go Go.RowKit Go.ChangeShapes Go.WideShapes Go.ChangeAt
def deskC (p n : Int) (T : Nat → Nat → Nat → Nat) (f u v : Nat → Nat) (s : ByteArray) : Array Value :=
  fnC 237 fun c => if c < 224 then algE p n T f c else if c < 230 then .int .u8 (u (c - 224)) else if c < 236 then .int .u8 (v (c - 230)) else .string s
section
variable {p n p' n' : Int} {T T' : Nat → Nat → Nat → Nat} {f u v f' u' v' : Nat → Nat} {s s' : ByteArray}
theorem deskC_size : (deskC p n T f u v s).size = 237 := fnC_size _ _
theorem deskC_A {o : Nat} (h : o < 224) : (deskC p n T f u v s)[o]? = (algC p n T f)[o]? := by
  unfold deskC
  rw [fnC_get (by omega), if_pos h, algC_algE h]
theorem deskC_u {o : Nat} (i : Nat) (h : o = 224 + i) (hi : i < 6) : (deskC p n T f u v s)[o]? = some (.int .u8 (u i : Int)) := by
  subst h
  unfold deskC
  rw [fnC_get (by omega), if_neg (by omega), if_pos (by omega), show 224 + i - 224 = i by omega]
theorem deskC_v {o : Nat} (i : Nat) (h : o = 230 + i) (hi : i < 6) : (deskC p n T f u v s)[o]? = some (.int .u8 (v i : Int)) := by
  subst h
  unfold deskC
  rw [fnC_get (by omega), if_neg (by omega), if_neg (by omega), if_pos (by omega), show 230 + i - 230 = i by omega]
theorem deskC_s {o : Nat} (h : o = 236) : (deskC p n T f u v s)[o]? = some (.string s) := by
  subst h
  unfold deskC
  rw [fnC_get (by omega), if_neg (by omega), if_neg (by omega), if_neg (by omega)]
theorem deskC_alg {o e : Nat} (h : o = 0) (he : e = o + 224) : (deskC p n T f u v s).extract o e = algC p n T f := by
  subst h he
  apply Array.ext_getElem?
  intro i;rw [Array.getElem?_extract, deskC_size]
  by_cases hi : i < 224
  · rw [if_pos (by omega), Nat.zero_add]; exact deskC_A hi
  · rw [if_neg (by omega), Array.getElem?_eq_none (by rw [cells_size]; omega)]
theorem deskC_first {o e : Nat} (h : o = 224) (he : e = o + 6) : (deskC p n T f u v s).extract o e = vecC u := by
  subst h;exact extract_ext he (by rw [deskC_size]; omega) fun c hc => deskC_u c rfl hc
theorem deskC_second {o e : Nat} (h : o = 230) (he : e = o + 6) : (deskC p n T f u v s).extract o e = vecC v := by
  subst h;exact extract_ext he (by rw [deskC_size]; omega) fun c hc => deskC_v c rfl hc
theorem deskC_one : ∀ x ∈ (deskC p n T f u v s).toList, x.oneCell' = true := fnC_one fun i _ => by
  split
  · exact algE_one _
  · split
    · rfl
    · split <;> rfl
end
end Go.Sw

namespace Go.Sw
open Go Go.RowKit Go.ChangeShapes Go.WideShapes Go.ChangeAt
/-! Arguments made of integers and texts. -/
def flatS (P : Program) : Nat → TypeId → Bool
  | 0, _ => false
  | n + 1, t => match P.underlying t with
    | some (.int _) => true
    | some .string => true
    | some (.array _ e) => flatS P n e
    | some (.struct fs) => fs.toList.all (fun f => flatS P n f.type)
    | _ => false
section
variable {H : Type} {enc : TypeId × Value → H} {P : Program}
end
section
variable {H : Type} {enc : TypeId × Value → H} {P : Program} {w w' : World} {base base' : Nat} {spare spare' : Nat → Bool} {held held' : Bool} {t : TypeId} {v : Value} {d : DataW H} {p : List MemPlace}
end
end Go.Sw

namespace Go.Sw
theorem wordsSigns_nb : ∀ (c : Char) (r : List Char), c ≠ ' ' → wordsSigns (c :: r) = match wordsSigns r with
    | w :: ws => (c :: w) :: ws
    | [] => [[c]] := by
  intro c r h;rw [wordsSigns.eq_def]
  split
  · simp_all
  · rename_i heq; simp at heq; exact absurd heq.1 h
  · rename_i heq; simp only [List.cons.injEq] at heq; obtain ⟨rfl, rfl⟩ := heq; rfl
theorem wordsSigns_word : ∀ (w r : List Char), (∀ c ∈ w, c ≠ ' ') → wordsSigns (w ++ ' ' :: r) = w :: wordsSigns r
  | [], r, _ => by simp [wordsSigns]
  | c :: w, r, h => by
    rw [List.cons_append, wordsSigns_nb c _ (h c (by simp)), wordsSigns_word w r (fun d hd => h d (by simp [hd]))]
theorem sum_nb (s : List Char) (h : isSumSigns s = true) : ∀ c ∈ s, c ≠ ' ' := by
  intro c hc he
  unfold isSumSigns at h
  simp only [Bool.and_eq_true, List.all_eq_true] at h;have := h.2 c hc;subst he
  revert this; decide
theorem cutHead (L s r : List Char) (h : L = "harness".toList ++ ' ' :: (s ++ ' ' :: ("cut".toList ++ ' ' :: r))) (hs : isSumSigns s = true) :
    behindMainWord (wordsSigns L) = "cut".toList :: wordsSigns r := by
  rw [h, wordsSigns_word _ _ (by decide), wordsSigns_word _ _ (sum_nb s hs), wordsSigns_word _ _ (by decide)];have : ("harness".toList == "harness".toList || "harness".toList == "ownmain".toList) = true := by decide
  unfold behindMainWord
  show (if (("harness".toList == "harness".toList || "harness".toList == "ownmain".toList) && isSumSigns s) = true then _ else _) = _
  rw [if_pos (by rw [this, hs]; rfl)]
theorem strip_cut (R : List (List Char)) : stripLifts liftWords ("cut".toList :: R) = ([], "cut".toList :: R) := by
  kernel_rfl
theorem lifts_cut (P : Program) (R : List (List Char)) (h : behindMainWord (wordsSigns P.initOrder.toList) = "cut".toList :: R) : P.headLifts = [] := by
  unfold Program.headLifts; rw [h, strip_cut]; rfl
theorem make_cut (P : Program) (R : List (List Char)) (h : behindMainWord (wordsSigns P.initOrder.toList) = "cut".toList :: R) : P.make = some .cut := by
  unfold Program.make; rw [h]
  have h1 : ("cut".toList == "gc".toList || "cut".toList == "spec".toList) = false := by decide
  have h2 : ("cut".toList == "cut".toList) = true := by decide
  simp only [h1, h2]; rfl
theorem final_cut (P : Program) (R : List (List Char)) (h : behindMainWord (wordsSigns P.initOrder.toList) = "cut".toList :: R) : P.liftsFinal = false := by
  unfold Program.liftsFinal; rw [lifts_cut P R h, h]; kernel_rfl
theorem enter_cut (P : Program) (R : List (List Char)) (h : behindMainWord (wordsSigns P.initOrder.toList) = "cut".toList :: R)
    (hl : P.laysLater = false) (hb : P.bearsReflect = false) (hd : P.doorFits [] = true) : P.mayEnter = true := by
  unfold Program.mayEnter; rw [h]
  simp only [strip_cut, hl, hb, hd]
  kernel_rfl
end Go.Sw
