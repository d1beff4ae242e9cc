/- Plain lemmas of a small calculus for walks over frames and own memory; no statement of the seat is proved here. -/
import Derived.Test.YtmhibfghnnpefaaSw109
import Derived.Test.YtmhibfghnnpefaaSw62
import Derived.Lib.Join
import Derived.JoinedOf
import Derived.KernelRfl
set_option linter.unusedVariables false
set_option linter.unusedSimpArgs false
namespace Go.Sw
open Go Go.RowKit
/-! ### A list of triples turned round in place. -/
def lay3 (f : Nat → Value) (k : Nat) : Array Value := #[f (k * 3), f (k * 3 + 1), f (k * 3 + 2)]
def rv3 (n q : Nat) : Nat := (n - 1 - q / 3) * 3 + q % 3
def rvC (cs : Array Value) (f : Nat → Value) (n a b : Nat) : Array Value := fnC cs.size (fun q => if q < n * 3 ∧ (q / 3 < a ∨ n - 1 - b < q / 3) then f (rv3 n q) else cs.getD q undef)
section
variable {cs : Array Value} {f : Nat → Value} {n a b : Nat}
theorem rvC_size : (rvC cs f n a b).size = cs.size := fnC_size _ _
theorem lay3_size {k : Nat} : (lay3 f k).size = 3 := rfl
theorem lay3_one {k : Nat} (h : ∀ q, (f q).oneCell' = true) : ∀ v ∈ (lay3 f k).toList, v.oneCell' = true := by
  intro v hv
  simp [lay3] at hv
  rcases hv with rfl | rfl | rfl <;> exact h _
theorem lay3_get {k j : Nat} (h : j < 3) : (lay3 f k)[j]? = some (f (k * 3 + j)) := by
  unfold lay3
  rcases j with _ | _ | _ | j
  · rfl
  · rfl
  · rfl
  · omega
theorem getD_of {q : Nat} (h : cs[q]? = some (f q)) : cs.getD q undef = f q := by
  rw [Array.getD_eq_getD_getElem?, h]; rfl
theorem rvC_0 : rvC cs f n 0 0 = cs := by
  apply Array.ext_getElem?
  intro i
  by_cases hi : i < cs.size
  · unfold rvC
    rw [fnC_get hi, if_neg (by omega), Array.getD_eq_getD_getElem?, Array.getElem?_eq_getElem hi]; rfl
  · rw [Array.getElem?_eq_none (by rw [rvC_size]; omega), Array.getElem?_eq_none (by omega)]
theorem rvC_get3 {k o e : Nat} (hsz : n * 3 ≤ cs.size) (hf : ∀ q, q < n * 3 → cs[q]? = some (f q)) (hk : a ≤ k) (hk2 : k ≤ n - 1 - b) (hkn : k < n) (ho : o = k * 3) (he : e = o + 3) : (rvC cs f n a b).extract o e = lay3 f k := by
  subst ho; subst he
  apply Array.ext_getElem?
  intro i;rw [Array.getElem?_extract]
  by_cases hi : i < 3
  · rw [if_pos (by rw [rvC_size]; omega), lay3_get hi]
    unfold rvC
    rw [fnC_get (by omega), if_neg (by omega), getD_of (hf _ (by omega))]
  · rw [if_neg (by rw [rvC_size]; omega), Array.getElem?_eq_none (by rw [lay3_size]; omega)]
theorem rvC_put {g k a2 b2 o : Nat} (hsz : n * 3 ≤ cs.size) (hg : g < n) (ho : o = g * 3) (hk : k = n - 1 - g)
    (hab : ∀ r, r < n → (r < a2 ∨ n - 1 - b2 < r) = (r = g ∨ r < a ∨ n - 1 - b < r)) : splice (rvC cs f n a b) o (lay3 f k) = rvC cs f n a2 b2 := by
  subst ho;have hz : g * 3 + (lay3 f k).size ≤ (rvC cs f n a b).size := by rw [lay3_size, rvC_size]; omega
  apply Array.ext_getElem?
  intro i;rw [splice_get _ _ _ _ hz, lay3_size]
  by_cases hi : i < cs.size
  · unfold rvC
    rw [fnC_get hi, fnC_get hi]
    by_cases e : g * 3 ≤ i ∧ i < g * 3 + 3
    · have h1 : i / 3 = g := by omega
      have h2 : (i / 3 < a2 ∨ n - 1 - b2 < i / 3) := by rw [hab _ (by omega)]; exact .inl h1
      rw [if_pos e, lay3_get (by omega), if_pos ⟨by omega, h2⟩]
      unfold rv3
      rw [h1, ← hk, show i - g * 3 = i % 3 by omega]
    · rw [if_neg e]
      by_cases hn : i < n * 3
      · have h1 := hab (i / 3) (by omega)
        have h2 : (i / 3 < a2 ∨ n - 1 - b2 < i / 3) = (i / 3 < a ∨ n - 1 - b < i / 3) := by
          rw [h1]; apply propext; omega
        simp only [h2]
      · rw [if_neg (fun q => hn q.1), if_neg (fun q => hn q.1)]
  · rw [if_neg (by omega), Array.getElem?_eq_none (by rw [rvC_size]; omega), Array.getElem?_eq_none (by rw [rvC_size]; omega)]
theorem rvC_end (hsz : n * 3 ≤ cs.size) (hf : ∀ q, q < n * 3 → cs[q]? = some (f q)) {q : Nat} (hq : q < n * 3) : (rvC cs f n (n / 2) (n / 2))[q]? = some (f (rv3 n q)) := by
  unfold rvC
  rw [fnC_get (by omega)]
  by_cases e : q < n * 3 ∧ (q / 3 < n / 2 ∨ n - 1 - n / 2 < q / 3)
  · rw [if_pos e]
  · rw [if_neg e, getD_of (hf q hq)]
    have : q / 3 = n - 1 - q / 3 := by omega
    unfold rv3
    rw [← this, show q / 3 * 3 + q % 3 = q by omega]
end
section
variable {P : Program} {n : Nat} {F : List (Nat × Value)} {a : Act} {w : World} {d : Option Tmp} {t T T' e : TypeId} {pos : String} {af : Array Edge} {gd : Option (Nat × Bool)} {x : Operand}
theorem g_b2sSl {u : Value} {ent : Option (Nat × Array Value)} {m : Nat} {g : Nat → Nat} (hs : Sl 1 u ent m (fun i => .int .u8 (g i : Int))) (hb : ∀ b cs, ent = some (b, cs) → Blk w b cs) (hT : P.underlying T = some (.slice e)) (hT' : P.underlying T' = some .string) (he : P.underlying e = some (.int .u8)) (hF : Fr n a F) (hx : look F x = some u) :
    Gives P ⟨d, .convert T T' x, t, pos, af, gd⟩ a w (.string (txt m g)) := by
  rcases hs with ⟨rfl, rfl, rfl⟩ | ⟨b, cap, cs, hat⟩
  · exact gives_of_run (by simp [execOp, convert, run_underlying hT, run_underlying hT', run_underlying he, hF.eval hx, Conv.bytesToString]; rfl)
  · obtain ⟨rfl, rfl, h1, h2, h3, h4⟩ := hat
    exact g_b2sN hT hT' he hF hx (hb _ _ rfl) (fun i hi => by rw [Nat.zero_add]; exact h4 (i * 1) (by omega) |>.trans (by rw [Nat.mul_one]))
end
end Go.Sw

namespace Go.Sw
open Go Go.RowKit
/-! ### Texts joined by commas. -/
def jn (F : Nat → ByteArray) : Nat → ByteArray
  | 0 => ⟨#[]⟩
  | k + 1 => (if k = 0 then ⟨#[]⟩ else jn F k ++ (⟨#[44]⟩ : ByteArray)) ++ F k
theorem txt_size {m : Nat} {g : Nat → Nat} : (txt m g).size = m := by
  unfold txt
  have : ∀ (l : List Int) (b : ByteArray), (l.foldl (fun r n => r.push (UInt8.ofNat n.toNat)) b).size = b.size + l.length := by
    intro l
    induction l with
    | nil => intro b; rfl
    | cons x l ih => intro b; rw [List.foldl_cons, ih, ByteArray.size_push, List.length_cons]; omega
  rw [this]
  simp
def decT (k : Nat) : ByteArray := if k < 10 then ⟨#[UInt8.ofNat (48 + k)]⟩ else (⟨#[UInt8.ofNat (48 + k / 10)]⟩ : ByteArray) ++ (⟨#[UInt8.ofNat (48 + k % 10)]⟩ : ByteArray)
end Go.Sw

namespace Go.Sw
theorem wordsSigns_nb : ∀ (c : Char) (r : List Char), c ≠ ' ' → wordsSigns (c :: r) = match wordsSigns r with
    | w :: ws => (c :: w) :: ws
    | [] => [[c]] := by
  intro c r h;rw [wordsSigns.eq_def]
  split
  · simp_all
  · rename_i heq; simp at heq; exact absurd heq.1 h
  · rename_i heq; simp only [List.cons.injEq] at heq; obtain ⟨rfl, rfl⟩ := heq; rfl
theorem wordsSigns_word : ∀ (w r : List Char), (∀ c ∈ w, c ≠ ' ') → wordsSigns (w ++ ' ' :: r) = w :: wordsSigns r
  | [], r, _ => by simp [wordsSigns]
  | c :: w, r, h => by
    rw [List.cons_append, wordsSigns_nb c _ (h c (by simp)), wordsSigns_word w r (fun d hd => h d (by simp [hd]))]
theorem sum_nb (s : List Char) (h : isSumSigns s = true) : ∀ c ∈ s, c ≠ ' ' := by
  intro c hc he
  unfold isSumSigns at h
  simp only [Bool.and_eq_true, List.all_eq_true] at h;have := h.2 c hc;subst he
  revert this; decide
theorem cutHead (L s r : List Char) (h : L = "harness".toList ++ ' ' :: (s ++ ' ' :: ("cut".toList ++ ' ' :: r))) (hs : isSumSigns s = true) :
    behindMainWord (wordsSigns L) = "cut".toList :: wordsSigns r := by
  rw [h, wordsSigns_word _ _ (by decide), wordsSigns_word _ _ (sum_nb s hs), wordsSigns_word _ _ (by decide)];have : ("harness".toList == "harness".toList || "harness".toList == "ownmain".toList) = true := by decide
  unfold behindMainWord
  show (if (("harness".toList == "harness".toList || "harness".toList == "ownmain".toList) && isSumSigns s) = true then _ else _) = _
  rw [if_pos (by rw [this, hs]; rfl)]
theorem strip_cut (R : List (List Char)) : stripLifts liftWords ("cut".toList :: R) = ([], "cut".toList :: R) := by
  kernel_rfl
theorem lifts_cut (P : Program) (R : List (List Char)) (h : behindMainWord (wordsSigns P.initOrder.toList) = "cut".toList :: R) : P.headLifts = [] := by
  unfold Program.headLifts; rw [h, strip_cut]; rfl
theorem make_cut (P : Program) (R : List (List Char)) (h : behindMainWord (wordsSigns P.initOrder.toList) = "cut".toList :: R) : P.make = some .cut := by
  unfold Program.make; rw [h]
  have h1 : ("cut".toList == "gc".toList || "cut".toList == "spec".toList) = false := by decide
  have h2 : ("cut".toList == "cut".toList) = true := by decide
  simp only [h1, h2]; rfl
theorem final_cut (P : Program) (R : List (List Char)) (h : behindMainWord (wordsSigns P.initOrder.toList) = "cut".toList :: R) : P.liftsFinal = false := by
  unfold Program.liftsFinal; rw [lifts_cut P R h, h]; kernel_rfl
theorem enter_cut (P : Program) (R : List (List Char)) (h : behindMainWord (wordsSigns P.initOrder.toList) = "cut".toList :: R)
    (hl : P.laysLater = false) (hb : P.bearsReflect = false) (hd : P.doorFits [] = true) : P.mayEnter = true := by
  unfold Program.mayEnter; rw [h]
  simp only [strip_cut, hl, hb, hd]
  kernel_rfl
end Go.Sw
