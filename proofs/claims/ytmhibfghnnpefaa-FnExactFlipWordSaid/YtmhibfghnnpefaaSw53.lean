/- Plain lemmas of a small calculus for walks over frames and own memory; no statement of the seat is proved here. -/
import Derived.Test.YtmhibfghnnpefaaSw40
import Derived.Test.YtmhibfghnnpefaaSw6
import Derived.Test.YtmhibfghnnpefaaSw21
import Derived.Test.YtmhibfghnnpefaaSw9
import Derived.ChangeSlices
import Derived.ShutString
import Derived.Test.YtmhibfghnnpefaaSw15
import Derived.Test.YtmhibfghnnpefaaSw25
import Derived.Lib.Join
import Derived.Test.YtmhibfghnnpefaaEch6
import Derived.ChangeVars
import Derived.LaidLaws
import Derived.Stop.LaidErr
set_option linter.unusedVariables false
set_option linter.unusedSimpArgs false
namespace Go.Sw
open Go Go.RowKit
/-! ### Texts cut at a byte: the places of the byte, and what lies between them. -/
def bnd (s : ByteArray) (c : Nat) : Nat → List Nat
  | 0 => []
  | i + 1 => if byt s i = c then bnd s c i ++ [i] else bnd s c i
def cnt (s : ByteArray) (c i : Nat) : Nat := (bnd s c i).length
def sta (s : ByteArray) (c : Nat) : Nat → Nat
  | 0 => 0
  | i + 1 => if byt s i = c then i + 1 else sta s c i
def nSg (s : ByteArray) (c : Nat) : Nat := cnt s c s.size + 1
def sgB (s : ByteArray) (c k : Nat) : Nat := (bnd s c s.size ++ [s.size]).getD k s.size
def sgA (s : ByteArray) (c k : Nat) : Nat := if k = 0 then 0 else sgB s c (k - 1) + 1
def seg (s : ByteArray) (c k : Nat) : ByteArray := s.extract (sgA s c k) (sgB s c k)
section
variable {s : ByteArray} {c : Nat}
theorem cnt_yes {i : Nat} (h : byt s i = c) : cnt s c (i + 1) = cnt s c i + 1 := by unfold cnt; rw [bnd, if_pos h]; simp
theorem cnt_no {i : Nat} (h : ¬ byt s i = c) : cnt s c (i + 1) = cnt s c i := by unfold cnt; rw [bnd, if_neg h]
theorem sta_yes {i : Nat} (h : byt s i = c) : sta s c (i + 1) = i + 1 := by rw [sta, if_pos h]
theorem sta_no {i : Nat} (h : ¬ byt s i = c) : sta s c (i + 1) = sta s c i := by rw [sta, if_neg h]
theorem sta_le : ∀ i, sta s c i ≤ i
  | 0 => Nat.le_refl _
  | i + 1 => by
    have := sta_le i
    rw [sta]; split <;> omega
theorem cnt_le : ∀ i, cnt s c i ≤ i
  | 0 => Nat.le_refl _
  | i + 1 => by
    have := cnt_le i
    by_cases h : byt s i = c
    · rw [cnt_yes h]; omega
    · rw [cnt_no h]; omega
theorem cnt_mono {i j : Nat} (h : i ≤ j) : cnt s c i ≤ cnt s c j := by
  induction j with
  | zero => rw [show i = 0 by omega]; exact Nat.le_refl _
  | succ j ih =>
    by_cases e : i = j + 1
    · rw [e]; exact Nat.le_refl _
    · have := ih (by omega)
      by_cases h2 : byt s j = c
      · rw [cnt_yes h2]; omega
      · rw [cnt_no h2]; omega
theorem bnd_pre {i : Nat} : ∀ d, ∃ r, bnd s c (i + d) = bnd s c i ++ r
  | 0 => ⟨[], by simp⟩
  | d + 1 => by
    obtain ⟨r, hr⟩ := bnd_pre (i := i) d
    by_cases h : byt s (i + d) = c
    · exact ⟨r ++ [i + d], by rw [← Nat.add_assoc, bnd, if_pos h, hr]; simp⟩
    · exact ⟨r, by rw [← Nat.add_assoc, bnd, if_neg h, hr]⟩
theorem sgB_at {i : Nat} (hi : i < s.size) (h : byt s i = c) : sgB s c (cnt s c i) = i := by
  obtain ⟨r, hr⟩ := bnd_pre (s := s) (c := c) (i := i + 1) (s.size - (i + 1));rw [show i + 1 + (s.size - (i + 1)) = s.size by omega, bnd, if_pos h] at hr
  unfold sgB cnt
  rw [hr]
  simp [List.getD]
theorem sgB_end : sgB s c (cnt s c s.size) = s.size := by unfold sgB cnt; simp [List.getD]
theorem sgB_b {i : Nat} (h : i = s.size ∨ (i < s.size ∧ byt s i = c)) : sgB s c (cnt s c i) = i := by
  rcases h with rfl | ⟨h1, h2⟩
  · exact sgB_end
  · exact sgB_at h1 h2
theorem bnd_mem {k : Nat} : ∀ {i}, k < cnt s c i → ∃ b, (bnd s c i)[k]? = some b ∧ b < i ∧ byt s b = c ∧ cnt s c b = k
  | 0, h => by simp [cnt, bnd] at h
  | i + 1, h => by
    by_cases hb : byt s i = c
    · rw [cnt_yes hb] at h
      rw [bnd, if_pos hb]
      by_cases e : k < cnt s c i
      · obtain ⟨b, h1, h2, h3, h4⟩ := bnd_mem e
        exact ⟨b, by rw [List.getElem?_append_left (by unfold cnt at e; exact e)]; exact h1, by omega, h3, h4⟩
      · have e2 : k = cnt s c i := by omega
        subst e2
        exact ⟨i, by unfold cnt; simp, by omega, hb, rfl⟩
    · rw [cnt_no hb] at h
      rw [bnd, if_neg hb]
      obtain ⟨b, h1, h2, h3, h4⟩ := bnd_mem h
      exact ⟨b, h1, by omega, h3, h4⟩
theorem sgB_spec {k : Nat} (h : k < nSg s c) : (sgB s c k = s.size ∨ (sgB s c k < s.size ∧ byt s (sgB s c k) = c)) ∧ cnt s c (sgB s c k) = k := by
  by_cases e : k < cnt s c s.size
  · obtain ⟨b, h1, h2, h3, h4⟩ := bnd_mem e
    have e2 : sgB s c k = b := by
      unfold sgB
      rw [List.getD_eq_getElem?_getD, List.getElem?_append_left (by unfold cnt at e; exact e), h1]; rfl
    rw [e2]; exact ⟨.inr ⟨h2, h3⟩, h4⟩
  · have e2 : k = cnt s c s.size := by unfold nSg at h; omega
    rw [e2, sgB_end]; exact ⟨.inl rfl, rfl⟩
theorem sgB_le {k : Nat} (h : k < nSg s c) : sgB s c k ≤ s.size := by
  rcases (sgB_spec h).1 with e | e <;> omega
theorem sgA_cnt : ∀ {i}, i ≤ s.size → sgA s c (cnt s c i) = sta s c i
  | 0, _ => by simp [cnt, bnd, sgA, sta]
  | i + 1, h => by
    by_cases hb : byt s i = c
    · rw [cnt_yes hb, sta_yes hb]; unfold sgA
      rw [if_neg (by omega), Nat.add_sub_cancel, sgB_at (by omega) hb]
    · rw [cnt_no hb, sta_no hb]; exact sgA_cnt (by omega)
theorem sgA_sta {k : Nat} (h : k < nSg s c) : sgA s c k = sta s c (sgB s c k) := by
  have h1 := sgA_cnt (s := s) (c := c) (sgB_le h);rw [(sgB_spec h).2] at h1; exact h1
theorem seg_b {i : Nat} (h : i = s.size ∨ (i < s.size ∧ byt s i = c)) : seg s c (cnt s c i) = s.extract (sta s c i) i := by
  unfold seg
  rw [sgB_b h, sgA_cnt (by rcases h with rfl | h <;> omega)]
theorem sta_ne {i j : Nat} (hi : sta s c j ≤ i) (hj : i < j) : ¬ byt s i = c := by
  induction j with
  | zero => omega
  | succ j ih =>
    by_cases hb : byt s j = c
    · rw [sta_yes hb] at hi; omega
    · rw [sta_no hb] at hi
      by_cases e : i = j
      · rw [e]; exact hb
      · exact ih hi (by omega)
theorem byt_ext {a b j : Nat} (hb : b ≤ s.size) (hj : j < b - a) : byt (s.extract a b) j = byt s (a + j) := by
  unfold byt
  rw [ByteArray.data_extract, Array.getD_eq_getD_getElem?, Array.getElem?_extract, Array.getD_eq_getD_getElem?];have : s.data.size = s.size := rfl;rw [if_pos (by omega)]
theorem ext_size {a b : Nat} (hb : b ≤ s.size) : (s.extract a b).size = b - a := by
  rw [ByteArray.size_extract]; omega
end
/-! ### Words of pieces. -/
def pcB (c : Nat) : Bool := decide (c = 105) || decide (c = 120) || decide (c = 109) || decide (c = 115) || decide (c = 117) || decide (c = 101)
def inL (c : Nat) : Nat := if c = 105 then 1 else if c = 120 then 2 else if c = 109 then 2 else if c = 115 then 1 else if c = 117 then 0 else if c = 101 then 1 else 0
def outL (c : Nat) : Nat := if c = 105 then 1 else if c = 120 then 2 else if c = 109 then 1 else if c = 115 then 2 else if c = 117 then 1 else 0
def eulL (c : Nat) : Int := if c = 117 then 1 else if c = 101 then 1 else if c = 109 then -1 else if c = 115 then -1 else 0
theorem inL_le {c : Nat} : inL c ≤ 2 := by unfold inL; split; omega; split; omega; split; omega; split; omega; split; omega; split <;> omega
theorem outL_le {c : Nat} : outL c ≤ 2 := by unfold outL; split; omega; split; omega; split; omega; split; omega; split <;> omega
theorem pc_no {c : Nat} (h : c ≠ 105 ∧ c ≠ 120 ∧ c ≠ 109 ∧ c ≠ 115 ∧ c ≠ 117 ∧ c ≠ 101) : inL c = 0 ∧ outL c = 0 ∧ pcB c = false := by
  obtain ⟨h1, h2, h3, h4, h5, h6⟩ := h
  simp [inL, outL, pcB, h1, h2, h3, h4, h5, h6]
def inR (s : ByteArray) : Nat → Nat
  | 0 => 0
  | i + 1 => if byt s i = 47 then 0 else inR s i + inL (byt s i)
def outR (s : ByteArray) : Nat → Nat
  | 0 => 0
  | i + 1 => if byt s i = 47 then 0 else outR s i + outL (byt s i)
section
variable {s : ByteArray}
theorem inR_le : ∀ i, inR s i ≤ 2 * i
  | 0 => Nat.le_refl _
  | i + 1 => by have := inR_le i; have := inL_le (c := byt s i); rw [inR]; split <;> omega
theorem outR_le : ∀ i, outR s i ≤ 2 * i
  | 0 => Nat.le_refl _
  | i + 1 => by have := outR_le i; have := outL_le (c := byt s i); rw [outR]; split <;> omega
theorem inR_no {i : Nat} (h : ¬ byt s i = 47) : inR s (i + 1) = inR s i + inL (byt s i) := by rw [inR, if_neg h]
theorem outR_no {i : Nat} (h : ¬ byt s i = 47) : outR s (i + 1) = outR s i + outL (byt s i) := by rw [outR, if_neg h]
theorem inR_yes {i : Nat} (h : byt s i = 47) : inR s (i + 1) = 0 := by rw [inR, if_pos h]
theorem outR_yes {i : Nat} (h : byt s i = 47) : outR s (i + 1) = 0 := by rw [outR, if_pos h]
theorem inR_sta : ∀ i, inR s (sta s 47 i) = 0
  | 0 => rfl
  | i + 1 => by
    by_cases h : byt s i = 47
    · rw [sta_yes h, inR_yes h]
    · rw [sta_no h]; exact inR_sta i
theorem outR_sta : ∀ i, outR s (sta s 47 i) = 0
  | 0 => rfl
  | i + 1 => by
    by_cases h : byt s i = 47
    · rw [sta_yes h, outR_yes h]
    · rw [sta_no h]; exact outR_sta i
end
def layP (s : ByteArray) (b : Nat) : Prop := sta s 47 b < b ∧ inR s b ≤ 6 ∧ outR s b ≤ 6 ∧ (0 < sta s 47 b → inR s b = outR s (sta s 47 b - 1))
def isB (s : ByteArray) (b : Nat) : Prop := b = s.size ∨ (b < s.size ∧ byt s b = 47)
def WordP (s : ByteArray) : Prop := s.size ≤ 300 ∧ (∀ i, i < s.size → byt s i = 47 ∨ pcB (byt s i) = true) ∧ ∀ b, b ≤ s.size → isB s b → layP s b
end Go.Sw

namespace Go.Sw
open Go Go.RowKit
def layC (t : ByteArray) (a b : Int) : Array Value := #[.string t, .int .i64 a, .int .i64 b]
section
variable {t u : ByteArray} {a b x : Int} {q : Nat}
theorem layC_size : (layC t a b).size = 3 := rfl
theorem layC_0 (h : q = 0) : (layC t a b)[q]? = some (.string t) := by subst h; rfl
theorem layC_1 (h : q = 1) : (layC t a b)[q]? = some (.int .i64 a) := by subst h; rfl
theorem layC_2 (h : q = 2) : (layC t a b)[q]? = some (.int .i64 b) := by subst h; rfl
theorem layC_set0 (h : q = 0) : (layC t a b).setIfInBounds q (.string u) = layC u a b := by subst h; rfl
theorem layC_set1 (h : q = 1) : (layC t a b).setIfInBounds q (.int .i64 x) = layC t x b := by subst h; rfl
theorem layC_set2 (h : q = 2) : (layC t a b).setIfInBounds q (.int .i64 x) = layC t a x := by subst h; rfl
theorem layC_one : ∀ v ∈ (layC t a b).toList, v.oneCell' = true := by
  intro v hv
  simp [layC] at hv
  rcases hv with rfl | rfl | rfl <;> rfl
end
def layF (s : ByteArray) (q : Nat) : Value := if q % 3 = 0 then .string (seg s 47 (q / 3)) else if q % 3 = 1 then .int .i64 (inR s (sgB s 47 (q / 3)) : Int) else .int .i64 (outR s (sgB s 47 (q / 3)) : Int)
def segF (s : ByteArray) (c : Nat) (k : Nat) : Value := .string (seg s c k)
section
variable {s : ByteArray}
theorem layF_0 (k : Nat) {q : Nat} (h : q = k * 3) : layF s q = .string (seg s 47 k) := by
  subst h; unfold layF; rw [if_pos (by omega), show k * 3 / 3 = k by omega]
theorem layF_1 (k : Nat) {q : Nat} (h : q = k * 3 + 1) : layF s q = .int .i64 (inR s (sgB s 47 k) : Int) := by
  subst h; unfold layF; rw [if_neg (by omega), if_pos (by omega), show (k * 3 + 1) / 3 = k by omega]
theorem layF_2 (k : Nat) {q : Nat} (h : q = k * 3 + 2) : layF s q = .int .i64 (outR s (sgB s 47 k) : Int) := by
  subst h; unfold layF; rw [if_neg (by omega), if_neg (by omega), show (k * 3 + 2) / 3 = k by omega]
theorem layF_snoc {u : Value} {e : Option (Nat × Array Value)} {b : Nat} (hB : isB s b) (h : Sl 3 u e (cnt s 47 b + 1) (fun i => if i < cnt s 47 b * 3 then layF s i else (fun q => (layC (s.extract (sta s 47 b) b) (inR s b : Int) (outR s b : Int))[q]?.getD undef) (i - cnt s 47 b * 3))) : Sl 3 u e (cnt s 47 b + 1) (layF s) :=
  h.congr fun i hi => by
    by_cases hlt : i < cnt s 47 b * 3
    · rw [if_pos hlt]
    · rw [if_neg hlt]
      have e1 := seg_b hB
      have e2 := sgB_b hB
      obtain h0 | h0 | h0 : i = cnt s 47 b * 3 ∨ i = cnt s 47 b * 3 + 1 ∨ i = cnt s 47 b * 3 + 2 := by omega
      · rw [layF_0 _ h0, e1, h0, Nat.sub_self]; rfl
      · rw [layF_1 _ h0, e2, h0, show cnt s 47 b * 3 + 1 - cnt s 47 b * 3 = 1 by omega]; rfl
      · rw [layF_2 _ h0, e2, h0, show cnt s 47 b * 3 + 2 - cnt s 47 b * 3 = 2 by omega]; rfl
theorem SlAt.get3 {u : Value} {e : Option (Nat × Array Value)} {n b cap : Nat} {cs : Array Value} {f : Nat → Value} (h : SlAt 3 u e n b cap cs f) (i j : Nat) {o : Nat} (ho : o = 0 + i * 3 + j) (hi : i < n) (hj : j < 3) : cs[o]? = some (f (i * 3 + j)) := by
  subst ho;have := h.get (i * 3 + j) (by omega)
  rwa [Nat.zero_add]
theorem cnt_pos {i : Nat} (h : i ≤ s.size) : 0 < cnt s 47 i ↔ 0 < sta s 47 i := by
  induction i with
  | zero => simp [cnt, bnd, sta]
  | succ i ih =>
    by_cases hb : byt s i = 47
    · rw [cnt_yes hb, sta_yes hb]; omega
    · rw [cnt_no hb, sta_no hb]; exact ih (by omega)
theorem prev_out {b : Nat} (hb : b ≤ s.size) (h : 0 < cnt s 47 b) : sgB s 47 (cnt s 47 b - 1) = sta s 47 b - 1 := by
  have h1 := sgA_cnt (s := s) (c := 47) hb
  unfold sgA at h1
  rw [if_neg (by omega)] at h1
  omega
theorem word_at (h : WordP s) {k : Nat} (hk : k < nSg s 47) : layP s (sgB s 47 k) := h.2.2 _ (sgB_le hk) (sgB_spec hk).1
theorem word_of (h1 : s.size ≤ 300) (h2 : ∀ i, i < s.size → byt s i = 47 ∨ pcB (byt s i) = true) (h3 : ∀ k, k < nSg s 47 → layP s (sgB s 47 k)) : WordP s :=
  ⟨h1, h2, fun b hb hB => by
    have h4 := h3 (cnt s 47 b) (by unfold nSg; have := cnt_mono (s := s) (c := 47) hb; omega)
    rwa [sgB_b hB] at h4⟩
end
end Go.Sw

/-! Steps that follow one another, as one. -/
namespace Go.Sw
open Go Go.RowKit
variable {P : Program}
section
variable {ops : Array Oper} {Q : Exit → Act → World → Prop} {rest : List Oper} {n : Nat} {F : List (Nat × Value)} {a : Act} {w : World}
theorem mv {d : Nat} {x : Operand} {t : TypeId} {pos : String} {af : Array Edge} {v : Value} (hF : Fr n a F) (hx : look F x = some v) (hn : Nat.blt d n = true)
    (h : ∀ a', Fr n a' ((d, v) :: F) → wpList P ops Q rest a' w) : wpList P ops Q (⟨some d, .move x, t, pos, af, none⟩ :: rest) a w := st hF (g_move hF hx) hn h
theorem ag {d : Nat} {x : Operand} {t : TypeId} {pos : String} {af : Array Edge} {v : Value} (hF : Fr n a F) (hx : look F x = some v) (hn : Nat.blt d n = true)
    (h : ∀ a', Fr n a' ((d, v) :: F) → wpList P ops Q rest a' w) : wpList P ops Q (⟨some d, .assign x, t, pos, af, none⟩ :: rest) a w := st hF (g_assign hF hx) hn h
theorem sr {id : Nat} {l : List Oper} {y : Code} (h : wpList P l.toArray (Exit.then (fun a w => y.wp P Q a w) Q) l a w) : ((Code.region id l.toArray false).seq y).wp P Q a w := sq (wp_region_lit h)
theorem nt {K : Act → World → Prop} {Q' : Exit → Act → World → Prop} (h : K a w) : wpList P ops (Exit.then K Q') [] a w := h
theorem ns {id : Nat} {l : List Oper} {y : Code} {Q' : Exit → Act → World → Prop} (h : wpList P l.toArray (Exit.then (fun a w => y.wp P Q a w) Q) l a w) : wpList P ops (Exit.then (fun a w => ((Code.region id l.toArray false).seq y).wp P Q a w) Q') [] a w := sq (wp_region_lit h)
end
section
variable {X : List Nat} {w0 w : World} {D : Froz} {W : List Nat} {l : List Fact} {i : Nat} {L0 L : Own} {o : Oper} {a : Act} {n : Nat} {F : List (Nat × Value)} {d : Option Tmp} {x : Operand} {t : TypeId} {pos : String} {af : Array Edge} {gd : Option (Nat × Bool)} {v : Value}
theorem pmv (hS : Par X w0 D W L0 L w) (hi : l[i]? = some (.val v)) (hF : Fr n a F) (hx : look F x = some v) : Does P ⟨d, .move x, t, pos, af, gd⟩ a w (After (Par X w0 D W L0) (factsOf l) i L w) := par_val hS hi (g_move hF hx)
end
theorem sz0 : (∀ n f, (fnC n f).size = n) ∧ (∀ p n T f, (algC p n T f).size = 224) ∧ (∀ v, (vecC v).size = 6) ∧ (∀ T, (tabC T).size = 216) ∧ (∀ M, (planeC M).size = 36) :=
  ⟨fnC_size, fun _ _ _ _ => cells_size, fun _ => vecC_size, fun _ => tabC_size, fun _ => planeC_size⟩
end Go.Sw

namespace Go.Sw
open Go Go.RowKit
theorem str_iff {t : ByteArray} : (t : ByteArray).toList = (⟨#[]⟩ : ByteArray).toList ↔ t.size = 0 :=
  ⟨fun h => by rw [str_eq h]; rfl, fun h => by rw [str_e0 h]⟩
def fitP (z a b k o : Nat) : Prop := 0 < z ∧ a ≤ 6 ∧ b ≤ 6 ∧ (0 < k → a = o)
instance (z a b k o : Nat) : Decidable (fitP z a b k o) := by unfold fitP; infer_instance
instance (s : ByteArray) (b : Nat) : Decidable (layP s b) := by unfold layP; infer_instance
section
variable {s : ByteArray}
theorem fit_iff {b st x y k : Nat} (hb : b ≤ s.size) (h1 : st = sta s 47 b) (h2 : x = inR s b) (h3 : y = outR s b) (h4 : k = cnt s 47 b) : fitP (s.extract st b).size x y k (outR s (sgB s 47 (k - 1))) ↔ layP s b := by
  subst h1; subst h2; subst h3; subst h4
  unfold fitP layP
  rw [ext_size hb, ← cnt_pos hb];have h := sta_le (s := s) (c := 47) b
  constructor
  · rintro ⟨q1, q2, q3, q4⟩
    exact ⟨by omega, q2, q3, fun q => by rw [q4 q, prev_out hb q]⟩
  · rintro ⟨q1, q2, q3, q4⟩
    exact ⟨by omega, q2, q3, fun q => by rw [q4 q, prev_out hb q]⟩
theorem fit_bool {b st x y k : Nat} (hb : b ≤ s.size) (h1 : st = sta s 47 b) (h2 : x = inR s b) (h3 : y = outR s b) (h4 : k = cnt s 47 b) : Value.bool (decide (fitP (s.extract st b).size x y k (outR s (sgB s 47 (k - 1))))) = Value.bool (decide (layP s b)) :=
  congrArg Value.bool (decide_eq_decide.2 (fit_iff hb h1 h2 h3 h4))
theorem lay_lit {t : ByteArray} {x y : Int} (i : Nat) (hi : i < 1 * 3) : (layC t x y)[0 + i]? = some ((layC t x y)[i]?.getD undef) := by
  obtain rfl | rfl | rfl : i = 0 ∨ i = 1 ∨ i = 2 := by omega
  · rfl
  · rfl
  · rfl
theorem lay_litone {t : ByteArray} {x y : Int} (i : Nat) (hi : i < 1 * 3) : ((layC t x y)[i]?.getD undef).oneCell' = true := by
  obtain rfl | rfl | rfl : i = 0 ∨ i = 1 ∨ i = 2 := by omega
  · rfl
  · rfl
  · rfl
theorem layF_snoc' {u : Value} {e : Option (Nat × Array Value)} {b st x y k : Nat} (hB : isB s b) (h1 : st = sta s 47 b) (h2 : x = inR s b) (h3 : y = outR s b) (h4 : k = cnt s 47 b) (h : Sl 3 u e (k + 1) (fun i => if i < k * 3 then layF s i else (fun q => (layC (s.extract st b) (x : Int) (y : Int))[q]?.getD undef) (i - k * 3))) : Sl 3 u e (k + 1) (layF s) := by
  subst h1; subst h2; subst h3; subst h4;exact layF_snoc hB h
theorem word_all {n : Nat} (hn : n = s.size) (h3 : s.size ≤ 300) (hpc : ∀ i, i < n → byt s i = 47 ∨ pcB (byt s i) = true) (hly : ∀ b, b < n → byt s b = 47 → layP s b) (hl : layP s n) : WordP s := by
  subst hn;refine ⟨h3, hpc, fun b hb hB => ?_⟩
  rcases hB with e | ⟨h1, h2⟩
  · rw [e]; exact hl
  · exact hly b h1 h2
end
end Go.Sw

namespace Go.Sw
open Go Go.RowKit
variable {P : Program}
/-! ### Regions that draw their order, with guards (as Sw4, but an operation may be passed over). -/
section
variable {ops : List Oper} {Q : Exit → Act → World → Prop} {n : Nat} {F : List (Nat × Value)} {G : Type} {S : G → World → Prop}
def dstsOkQ (n : Nat) (F : List (Nat × Value)) : List Oper → List Nat → Bool
  | [], _ => true
  | o :: r, seen => (match o.dst with
    | some d => Nat.blt d n && (lk F d).isNone && !(memNat d seen) && dstsOkQ n F r (d :: seen)
    | none => false)

theorem dstsOkQ_spec : ∀ {l : List Oper} {seen : List Nat}, dstsOkQ n F l seen = true → ∀ (i : Nat) (o : Oper), l[i]? = some o → ∃ d, o.dst = some d ∧ d < n ∧ lk F d = none ∧ d ∉ seen ∧ (∀ (j : Nat) (o' : Oper), j < i → l[j]? = some o' → o'.dst ≠ some d)
  | [], _, _, i, o, h => by simp at h
  | x :: r, seen, hb, i, o, h => by
    simp only [dstsOkQ] at hb
    cases hx : x.dst with
    | none => simp [hx] at hb
    | some d =>
      simp only [hx, Bool.and_eq_true, Bool.not_eq_true', Option.isNone_iff_eq_none] at hb
      obtain ⟨⟨⟨h1, h2⟩, h3⟩, h4⟩ := hb
      cases i with
      | zero =>
        simp at h; subst h
        exact ⟨d, hx, Nat.blt_eq.mp h1, h2, (fun hm => by rw [memNat_iff.2 hm] at h3; cases h3), (fun j o' hj => by omega)⟩
      | succ i =>
        obtain ⟨d', g1, g2, g3, g4, g5⟩ := dstsOkQ_spec h4 i o (by simpa using h)
        refine ⟨d', g1, g2, g3, fun hm => g4 (List.mem_cons_of_mem _ hm), fun j o' hj ho' => ?_⟩
        cases j with
        | zero => simp at ho'; subst ho'; rw [hx]; intro e; obtain rfl := Option.some.inj e; exact g4 (List.mem_cons_self ..)
        | succ j => exact g5 j o' (by omega) (by simpa using ho')

def StepsQ {G : Type} (P : Program) (ops : List Oper) (k n : Nat) (F : List (Nat × Value)) (S : G → World → Prop) (φ : Facts G) : List Oper → Nat → Prop
  | [], _ => True
  | o :: r, i => (∀ a w g, Fr n a F → S g w → Deps ops k φ o g a w → if Region.wanted o (yielded ops.toArray a.tmps) = true then Does P o a w (After S φ i g w) else After S φ i g w undef w) ∧ StepsQ P ops k n F S φ r (i + 1)
theorem StepsQ.get {k : Nat} {φ : Facts G} : ∀ {l : List Oper} {i : Nat}, StepsQ P ops k n F S φ l i → ∀ (j : Nat) (o : Oper), l[j]? = some o →
    ∀ a w g, Fr n a F → S g w → Deps ops k φ o g a w → if Region.wanted o (yielded ops.toArray a.tmps) = true then Does P o a w (After S φ (i + j) g w) else After S φ (i + j) g w undef w
  | [], _, _, j, o, h => by simp at h
  | x :: r, i, hs, j, o, h => by
    cases j with
    | zero => simp at h; subst h; exact hs.1
    | succ j => have := hs.2.get j o (by simpa using h); rwa [show i + 1 + j = i + (j + 1) by omega] at this

theorem c_drawQ {id k : Nat} {a : Act} {w : World} (hm : P.follows .mixedOrders = true) (hk : tailOk ops k = true) (hF : Fr n a F) (hdst : dstsOkQ n F (ops.take k) [] = true) (g : G) (hS : S g w)
    (hdr : ∀ w, S g w → S g w.drew) (φ : Facts G)
    (hsteps : StepsQ P ops k n F S φ (ops.take k) 0)
    (hend : ∀ a w g, Fr n a F → S g w → (∀ i, i < k → i < ops.length → φ i g (a.tmps.getD (dstOf ops i) undef) w) → wpList P ops.toArray Q (ops.drop k) a w) :
    (Code.region id ops.toArray true).wp P Q a w := by
  refine wp_region_any hm ?_;simp only [tailOk, Bool.and_eq_true] at hk;obtain ⟨hback, htail⟩ := hk;have hge : ∀ (i : Nat), ops.toArray[i]? = ops[i]? := fun i => by simp
  have hreach : ∀ i j, k ≤ i → i < ops.length → j < i → Reach ops i j := fun i j h1 h2 h3 =>
    masks_spec ops [] (fun i => by simp) (fun m j h => by simp at h) i j (bitsFrom_spec htail i h1 h2 (by omega) j h3)
  have edge_listed : ∀ {i : Nat} {o : Oper} {listed : Array Bool} {j : Nat}, i ∈ Region.ready .any ops.toArray listed → ops[i]? = some o → edgeTo o j = true → listed.getD j false = true := by
    intro i o listed j hi ho he;obtain ⟨_, o', ho', hall⟩ := mem_ready.1 hi;rw [hge, ho] at ho';obtain rfl := Option.some.inj ho';simp only [edgeTo, List.any_eq_true, Bool.and_eq_true] at he;obtain ⟨e, hm', hb, hj⟩ := he;obtain rfl := Nat.eq_of_beq_eq_true hj;exact hall e (by simpa using hm') hb
  have reach_listed : ∀ {listed : Array Bool}, (∀ (j : Nat) o, ops[j]? = some o → listed.getD j false = true → ∀ e ∈ o.after, Region.binds .any e = true → listed.getD e.on false = true) → ∀ i j, Reach ops i j → (∀ o m, ops[i]? = some o → edgeTo o m = true → listed.getD m false = true) → listed.getD j false = true := by
    intro listed hcl i j hr
    induction hr with
    | one ho he => intro h; exact h _ _ ho he
    | more ho he _ ih =>
      intro h;have hm' := h _ _ ho he;refine ih (fun o m ho2 he2 => ?_);simp only [edgeTo, List.any_eq_true, Bool.and_eq_true] at he2;obtain ⟨e, hin, hb, hj⟩ := he2;obtain rfl := Nat.eq_of_beq_eq_true hj;exact hcl _ o ho2 hm' e (by simpa using hin) hb
  -- the tail
  have tail : ∀ (f m : Nat) (listed : Array Bool) (a : Act) (w : World), k ≤ m → ops.length - m ≤ f → (∀ j, j < m → j < ops.length → listed.getD j false = true) → (∀ j, m ≤ j → j < ops.length → listed.getD j true = false) →
      wpList P ops.toArray Q (ops.drop m) a w → wpAny P .any ops.toArray Q f listed a w := by
    intro f
    induction f with
    | zero =>
      intro m listed a w hkm hf h1 h2 h;rw [List.drop_eq_nil_of_le (by omega)] at h;refine ⟨?_, h⟩
      cases hr : Region.ready .any ops.toArray listed with
      | nil => rfl
      | cons i r =>
        obtain ⟨g1, o, ho, _⟩ := mem_ready.1 (hr ▸ List.mem_cons_self .. : i ∈ Region.ready .any ops.toArray listed);rw [hge] at ho;have hi := (List.getElem?_eq_some_iff.1 ho).1;have := h1 i (by omega) hi
        simp [Array.getD_eq_getD_getElem?] at this g1
        cases hh : listed[i]? <;> simp [hh] at this g1
        rw [this] at g1; cases g1
    | succ f ih =>
      intro m listed a w hkm hf h1 h2 h;have only : ∀ i ∈ Region.ready .any ops.toArray listed, i = m := by
        intro i hi;obtain ⟨g1, o, ho, hall⟩ := mem_ready.1 hi;have ho' := ho;rw [hge] at ho';have hil := (List.getElem?_eq_some_iff.1 ho').1
        by_cases hlt : i < m
        · have := h1 i hlt hil
          simp [Array.getD_eq_getD_getElem?] at this g1
          cases hh : listed[i]? <;> simp [hh] at this g1
          rw [this] at g1; cases g1
        · by_cases e : i = m
          · exact e
          · have := reach_listed (listed := listed) (fun j o hj hl e he hbnd => by
                have hjl := (List.getElem?_eq_some_iff.1 hj).1;have hjm : j < m := by
                  rcases Nat.lt_or_ge j m with h | h
                  · exact h
                  · have h3 := h2 j h hjl
                    simp [Array.getD_eq_getD_getElem?] at hl h3
                    cases hh : listed[j]? <;> simp [hh] at hl h3
                    rw [hl] at h3; cases h3
                have := edgesBack_spec hback j o hj e he hbnd;exact h1 e.on (by omega) (by omega)) i m (hreach i m (by omega) hil (by omega)) (fun o2 q ho2 he2 => by
                rw [ho'] at ho2; obtain rfl := Option.some.inj ho2; exact edge_listed hi ho' he2)
            have h3 := h2 m (Nat.le_refl _) (by omega)
            simp [Array.getD_eq_getD_getElem?] at this h3
            cases hh : listed[m]? <;> simp [hh] at this h3
            rw [this] at h3; cases h3
      refine ⟨fun hr => ?_, fun i hi => ?_⟩
      · by_cases hml : m < ops.length
        · exfalso
          have : m ∈ Region.ready .any ops.toArray listed := by
            refine mem_ready.2 ⟨h2 m (Nat.le_refl _) hml, ops[m], by simp [hml], fun e he hbnd => ?_⟩;have := edgesBack_spec hback m ops[m] (by simp [hml]) e he hbnd;exact h1 e.on (by omega) (by omega)
          rw [hr] at this; cases this
        · rw [List.drop_eq_nil_of_le (by omega)] at h; exact h
      · obtain rfl := only i hi
        obtain ⟨g1, o, ho, _⟩ := mem_ready.1 hi;rw [hge] at ho;have hil := (List.getElem?_eq_some_iff.1 ho).1;have hdrop : ops.drop i = o :: ops.drop (i + 1) := by
          rw [List.drop_eq_getElem_cons hil]; congr 1; exact (List.getElem?_eq_some_iff.1 ho).2
        rw [hdrop] at h;have K : ∀ a w, wpList P ops.toArray Q (ops.drop (i + 1)) a w → wpAny P .any ops.toArray Q f (listed.setIfInBounds i true) a w := by
          intro a w hh;refine ih (i + 1) _ a w (by omega) (by omega) (fun j hj hjl => ?_) (fun j hj hjl => ?_) hh
          · by_cases e : i = j
            · subst e
              have hsz : i < listed.size := by
                rcases Nat.lt_or_ge i listed.size with h' | h'
                · exact h'
                · simp [Array.getElem?_eq_none h'] at g1
              simp [hsz]
            · rw [getD_set_ne false e]; exact h1 j (by omega) hjl
          · rw [getD_set_ne true (by omega)]; exact h2 j (by omega) hjl
        unfold wpOp
        rw [hge, ho]
        unfold wpList at h
        show (if Region.wanted o (yielded ops.toArray a.tmps) then _ else _)
        split
        · rename_i hw
          rw [if_pos hw] at h;exact h.imp (Oper.wp_mono K) (fun x => x)
        · rename_i hw
          rw [if_neg hw] at h;exact K _ _ h
  -- the head
  have head : ∀ (f : Nat) (listed : Array Bool) (a : Act) (w : World) (g : G), listed.size = ops.length → (List.range ops.length).countP (fun i => !listed.getD i true) ≤ f → (∀ j, k ≤ j → j < ops.length → listed.getD j true = false) → (∀ (j : Nat) o, ops[j]? = some o → listed.getD j false = true → ∀ e ∈ o.after, Region.binds .any e = true → listed.getD e.on false = true) →
      Fr n a F → S g w → (∀ i, i < k → i < ops.length → listed.getD i false = true → φ i g (a.tmps.getD (dstOf ops i) undef) w) → wpAny P .any ops.toArray Q f listed a w := by
    intro f
    induction f with
    | zero =>
      intro listed a w g hsz hc h2 hcl hF hS hφ';have all : ∀ j, j < ops.length → listed.getD j true = true := by
        intro j hj;have h0 : (List.range ops.length).countP (fun i => !listed.getD i true) = 0 := by omega
        have := List.countP_eq_zero.1 h0 j (by simpa using hj)
        simpa using this
      have hlen : ops.length ≤ k := by
        rcases Nat.lt_or_ge k ops.length with h | h
        · have e1 := h2 k (Nat.le_refl _) h
          rw [all k h] at e1; cases e1
        · exact h
      refine tail 0 k listed a w (Nat.le_refl _) (by omega) (fun j _ hj => ?_) (fun j hj hjl => by omega) ?_
      · have := all j hj
        have hjs : j < listed.size := by omega
        simpa [Array.getD_eq_getD_getElem?, hjs] using this
      · refine hend a w g hF hS (fun i hi hil => hφ' i hi hil ?_)
        have := all i hil;have hjs : i < listed.size := by omega
        simpa [Array.getD_eq_getD_getElem?, hjs] using this
    | succ f ih =>
      intro listed a w g hsz hc h2 hcl hF hS hφ'
      by_cases all : ∀ j, j < k → j < ops.length → listed.getD j false = true
      · refine tail (f + 1) k listed a w (Nat.le_refl _) ?_ all h2 (hend a w g hF hS (fun i hi hil => hφ' i hi hil (all i hi hil)))
        -- as many are left as stand behind k
        have hge' : ∀ (m : Nat), m ≤ ops.length → m - k ≤ (List.range m).countP (fun i => !listed.getD i true) := by
          intro m
          induction m with
          | zero => intro _; simp
          | succ m ihm =>
            intro hm';have := ihm (by omega);rw [List.range_succ, List.countP_append]
            by_cases hkm : k ≤ m
            · have e1 := h2 m hkm (by omega)
              have e2 : List.countP (fun i => !listed.getD i true) [m] = 1 := by rw [List.countP_cons, e1]; rfl
              omega
            · omega
        have := hge' ops.length (Nat.le_refl _)
        omega
      · have step : ∀ i ∈ Region.ready .any ops.toArray listed, i < k := by
          intro i hi
          rcases Nat.lt_or_ge i k with h | h
          · exact h
          · exfalso
            obtain ⟨g1, o, ho, _⟩ := mem_ready.1 hi;rw [hge] at ho;have hil := (List.getElem?_eq_some_iff.1 ho).1;exact all (fun j hj hjl => reach_listed hcl i j (hreach i j h hil (by omega)) (fun o2 q ho2 he2 => by
              rw [ho] at ho2; obtain rfl := Option.some.inj ho2; exact edge_listed hi ho he2))
        refine ⟨fun hr => ?_, fun i hi => ?_⟩
        · exfalso
          apply all
          intro j
          induction j using Nat.strongRecOn with
          | _ j ihj =>
            intro hjk hjl
            cases hl : listed.getD j false with
            | true => rfl
            | false =>
              have hjs : j < listed.size := by omega
              have hm' : j ∈ Region.ready .any ops.toArray listed := by
                refine mem_ready.2 ⟨?_, ops[j], by simp [hjl], fun e he hbnd => ?_⟩
                · simpa [Array.getD_eq_getD_getElem?, hjs] using hl
                · have := edgesBack_spec hback j ops[j] (by simp [hjl]) e he hbnd
                  exact ihj e.on (by omega) (by omega) (by omega)
              rw [hr] at hm'; cases hm'
        · have hik := step i hi
          obtain ⟨g1, o, ho, hall'⟩ := mem_ready.1 hi;rw [hge] at ho;have hil := (List.getElem?_eq_some_iff.1 ho).1;have hti : (ops.take k)[i]? = some o := by rw [List.getElem?_take, if_pos hik]; exact ho
          obtain ⟨d, hd1, hd2, hd3, _, hd5⟩ := dstsOkQ_spec hdst i o hti;have hdo : dstOf ops i = d := by simp [dstOf, ho, hd1]
          have hdne : ∀ j, j < k → j < ops.length → j ≠ i → dstOf ops j ≠ d := by
            intro j hj hjl hne e;have hoj : ops[j]? = some ops[j] := by simp [hjl]
            have htj : (ops.take k)[j]? = some ops[j] := by rw [List.getElem?_take, if_pos hj]; exact hoj
            obtain ⟨d', e1, _, _, _, e5⟩ := dstsOkQ_spec hdst j ops[j] htj;have hdj : dstOf ops j = d' := by simp only [dstOf, hoj, Option.bind_some, e1, Option.getD_some]
            have hdd : d' = d := by rw [← hdj]; exact e
            subst hdd
            rcases Nat.lt_or_gt_of_ne hne with h | h
            · exact hd5 j ops[j] h htj e1
            · exact e5 i o h hti hd1
          have hdoes := StepsQ.get hsteps i o hti a w g hF hS (fun j hj he => by
            have hj' : j < k := Nat.blt_eq.mp hj;have hl := edge_listed hi ho he;have hjl : j < ops.length := by
              rcases Nat.lt_or_ge j listed.size with h | h
              · omega
              · simp [Array.getElem?_eq_none h] at hl
            exact hφ' j hj' hjl hl)
          unfold wpOp
          rw [hge, ho]
          show (if Region.wanted o (yielded ops.toArray a.tmps) then _ else _)
          simp only [Nat.zero_add] at hdoes;have cont : ∀ v w', After S φ i g w v w' → wpAny P .any ops.toArray Q f (listed.setIfInBounds i true) (a.put o.dst v) w' := by
            intro v w' hv;obtain ⟨g', hS', hvi, hothers⟩ := hv;have hF' : Fr n (a.put o.dst v) F := by
              rw [hd1];have := hF.put d v (Nat.blt_eq.mpr hd2);refine ⟨this.defers, this.size, fun t u ht => this.get t u ?_⟩;simp only [lk];have hne : ¬ d = t := fun e => by subst e; rw [hd3] at ht; cases ht
              rw [beqF hne]; exact ht
            refine ih _ _ _ g' (by simpa using hsz) ?_ (fun j hj hjl => ?_) (fun j oj hoj hl e he hb => ?_) hF' hS' (fun j hj hjl hl => ?_)
            · have : (List.range ops.length).countP (fun j => !(listed.setIfInBounds i true).getD j true) < (List.range ops.length).countP (fun j => !listed.getD j true) := by
                refine countP_lt (fun x hx => ?_) ⟨i, by simpa using hil, by simpa using g1, ?_⟩
                · by_cases e : i = x
                  · subst e; simp only [g1]; rfl
                  · rw [getD_set_ne true e] at hx; exact hx
                · have : i < listed.size := by omega
                  simp [this]
              omega
            · rw [getD_set_ne true (by omega)]; exact h2 j hj hjl
            · refine getD_set_true ?_
              by_cases ej : j = i
              · subst ej
                rw [ho] at hoj; obtain rfl := Option.some.inj hoj;exact hall' e he hb
              · rw [getD_set_ne false (Ne.symm ej)] at hl
                exact hcl j oj hoj hl e he hb
            · by_cases e : j = i
              · subst e
                rw [hd1, hdo];have : (a.put (some d) v).tmps.getD d undef = v := by simp [Act.put, hF.size, hd2]
                rw [this]; exact hvi
              · rw [getD_set_ne false (Ne.symm e)] at hl
                have hold := hothers j _ e (hφ' j hj hjl hl);have hdn := hdne j hj hjl e;rw [hd1];have : (a.put (some d) v).tmps.getD (dstOf ops j) undef = a.tmps.getD (dstOf ops j) undef := by
                  simp [Act.put, Array.getElem?_setIfInBounds_ne (Ne.symm hdn)]
                rw [this]; exact hold
          by_cases hw : Region.wanted o (yielded ops.toArray a.tmps) = true
          · rw [if_pos hw] at hdoes ⊢; exact .inl (hdoes.run _ _ cont)
          · rw [if_neg hw] at hdoes ⊢; exact cont _ _ hdoes
  refine head ops.toArray.size (Array.replicate ops.toArray.size false) a _ g (by simp) ?_ (fun j _ hj => by simp [hj]) (fun j o hj hl e he hbnd => by have hjl := (List.getElem?_eq_some_iff.1 hj).1; simp [hjl] at hl) hF (hdr _ hS) (fun i _ hi hl => by simp [hi] at hl)
  · have := List.countP_le_length (l := List.range ops.length) (p := fun i => !(Array.replicate ops.toArray.size false).getD i true)
    simpa using this
theorem q_none {o : Oper} {a : Act} {w : World} {S : G → World → Prop} {φ : Facts G} {i : Nat} {g : G} (hg : o.guard = none) (h : Does P o a w (After S φ i g w)) : if Region.wanted o (yielded ops.toArray a.tmps) = true then Does P o a w (After S φ i g w) else After S φ i g w undef w := by
  rw [if_pos (by simp [Region.wanted, hg])]; exact h
theorem q_yes {o : Oper} {a : Act} {w : World} {S : G → World → Prop} {φ : Facts G} {i j dj : Nat} {b : Bool} {g : G} {F' : List (Nat × Value)} (hg : o.guard = some (j, b)) (hF : Fr n a F') (hj : (ops.toArray[j]?).bind (·.dst) = some dj) (hjn : Nat.blt dj n = true) (hb : lk F' dj = some (.bool b)) (h : Does P o a w (After S φ i g w)) : if Region.wanted o (yielded ops.toArray a.tmps) = true then Does P o a w (After S φ i g w) else After S φ i g w undef w := by
  rw [if_pos (by simp [Region.wanted, hg, yielded_of hF hj hjn hb])]; exact h
theorem q_no {o : Oper} {a : Act} {w : World} {S : G → World → Prop} {φ : Facts G} {i j dj : Nat} {b c : Bool} {g : G} {F' : List (Nat × Value)} (hg : o.guard = some (j, c)) (hF : Fr n a F') (hj : (ops.toArray[j]?).bind (·.dst) = some dj) (hjn : Nat.blt dj n = true) (hb : lk F' dj = some (.bool b)) (hbc : (b == c) = false) (h : After S φ i g w undef w) : if Region.wanted o (yielded ops.toArray a.tmps) = true then Does P o a w (After S φ i g w) else After S φ i g w undef w := by
  rw [if_neg (by simp [Region.wanted, hg, yielded_of hF hj hjn hb]; intro e; subst e; simp at hbc)]; exact h
end
theorem gives_eq {P : Program} {o : Oper} {a : Act} {w : World} {v v' : Value} (h : Gives P o a w v) (e : v = v') : Gives P o a w v' := e ▸ h
theorem c_parQ {P : Program} {ops : List Oper} {Q : Exit → Act → World → Prop} {n : Nat} {F : List (Nat × Value)} {X : List Nat} {w0 : World} {L0 : Own} {D : Froz} {id : Nat} {a : Act} {w : World} (k : Nat) (W : List Nat) (l : List Fact) (hm : P.follows .mixedOrders = true) (hk : tailOk ops k = true) (hF : Fr n a F) (hdst : dstsOkQ n F (ops.take k) [] = true) (hM : MemX X w0 w L0 D)
    (hsteps : StepsQ P ops k n F (Par X w0 D W L0) (factsOf l) (ops.take k) 0)
    (hend : ∀ a w L, Fr n a F → Par X w0 D W L0 L w → (∀ i, Nat.blt i k = true → Nat.blt i ops.length = true → factsOf l i L (a.tmps.getD (dstOf ops i) undef) w) → wpList P ops.toArray Q (ops.drop k) a w) :
    (Code.region id ops.toArray true).wp P Q a w :=
  c_drawQ (S := Par X w0 D W L0) hm hk hF hdst L0 ⟨hM, Same.refl _ _⟩ (fun _ h => ⟨h.1.ext (Below.drew (Below.refl _ _)), h.2⟩) (factsOf l) hsteps
    (fun a w L hF hS hq => hend a w L hF hS fun i h1 h2 => hq i (Nat.blt_eq.mp h1) (Nat.blt_eq.mp h2))
end Go.Sw

namespace Go.Sw
open Go Go.RowKit Go.ChangeShapes Go.WideShapes Go.ChangeAt
section
variable {H : Type} {enc : TypeId × Value → H} {P : Program} {w : World} {base : Nat} {spare : Nat → Bool} {held : Bool}
theorem open_str {r : Go.Reach} {b0 : Nat} {t : TypeId} {v : Value} {d : DataW H} {ps : List MemPlace} (ht : P.underlying t = some .string) (hval : Value.okWide P w r b0 t v) (hd : DataW.Trod enc P w base spare held t v d ps) :
    ∃ s : ByteArray, v = .string s ∧ d = .lit (.string s.data.toList) ∧ ps = [] ∧ s.size ≤ maxLen := by
  obtain ⟨s, rfl⟩ := okWide_string ht hval;obtain ⟨fuel, hf⟩ := hd;obtain ⟨s', h, hx, hw⟩ := DataW.trod_string ht hf
  simp [Value.cells] at h
  subst h;simp only [Prod.mk.injEq] at hx;exact ⟨s, rfl, hx.1, hx.2, hw⟩
theorem shut_str {t : TypeId} {s : ByteArray} (ht : P.underlying t = some .string) (hw : s.size ≤ maxLen) : DataW.Trod enc P w base spare held t (.string s) (.lit (.string s.data.toList)) [] :=
  ⟨1, by simp [DataW.trod, Value.cells, ht, hw]⟩
end
end Go.Sw

namespace Go.Sw
open Go Go.RowKit
variable {P : Program}
/-! ### Appending what may be nothing. -/
section
variable {ops : Array Oper} {Q : Exit → Act → World → Prop} {rest : List Oper} {n : Nat} {F : List (Nat × Value)} {a : Act} {X : List Nat} {w w0 : World} {L : Own} {D : Froz}
variable {d : Option Tmp} {t : TypeId} {pos : String} {af : Array Edge} {gd : Option (Nat × Bool)} {T : TypeId} {x y : Operand}
end
end Go.Sw

namespace Go.Sw
open Go Go.RowKit
/-! ### Texts joined by strokes -/
def jw (F : Nat → ByteArray) : Nat → ByteArray
  | 0 => ⟨#[]⟩
  | k + 1 => (if k = 0 then ⟨#[]⟩ else jw F k ++ (⟨#[47]⟩ : ByteArray)) ++ F k
theorem emp_app {b : ByteArray} : (⟨#[]⟩ : ByteArray) ++ b = b := ByteArray.empty_append
theorem jw_one {F : Nat → ByteArray} : jw F 1 = F 0 := by
  show (⟨#[]⟩ : ByteArray) ++ F 0 = F 0
  exact emp_app
theorem jw_next {F : Nat → ByteArray} {k : Nat} (h : 0 < k) : jw F (k + 1) = (jw F k ++ (⟨#[47]⟩ : ByteArray)) ++ F k := by
  show (if k = 0 then ⟨#[]⟩ else jw F k ++ (⟨#[47]⟩ : ByteArray)) ++ F k = _
  rw [if_neg (by omega)]
theorem jw_size {F : Nat → ByteArray} {N : Nat} (hF : ∀ k, (F k).size ≤ N) : ∀ k, (jw F k).size ≤ k * (N + 1)
  | 0 => Nat.zero_le _
  | k + 1 => by
    have h1 := jw_size hF k
    have h2 := hF k
    rw [jw, ByteArray.size_append, Nat.succ_mul]
    split
    · have : (⟨#[]⟩ : ByteArray).size = 0 := rfl
      omega
    · rw [ByteArray.size_append]
      have : (⟨#[47]⟩ : ByteArray).size = 1 := rfl
      omega
theorem joinTail_snocW {sep y : List UInt8} {r : List (List UInt8)} : Go.Lib.joinTail sep (r ++ [y]) = Go.Lib.joinTail sep r ++ (sep ++ y) := by
  simp [Go.Lib.joinTail]
theorem join_snocW {sep y : List UInt8} {l : List (List UInt8)} (h : l ≠ []) : Go.Lib.join (l ++ [y]) sep = Go.Lib.join l sep ++ (sep ++ y) := by
  cases l with
  | nil => exact absurd rfl h
  | cons x r => rw [List.cons_append, Go.Lib.join_cons, Go.Lib.join_cons, joinTail_snocW, List.append_assoc]
theorem join_jw {F : Nat → ByteArray} : ∀ k, Go.Lib.join ((List.range k).map fun i => (F i).data.toList) [47] = (jw F k).data.toList
  | 0 => rfl
  | k + 1 => by
    rw [List.range_succ, List.map_append, List.map_cons, List.map_nil]
    by_cases h : k = 0
    · subst h
      rw [List.range_zero, List.map_nil, List.nil_append, Go.Lib.join_one, jw_one]
    · rw [join_snocW (by simp [h]), join_jw k, jw, if_neg h]
      simp only [ByteArray.data_append, Array.toList_append, List.append_assoc]
section
variable {s : ByteArray}
end
def apT (m : Nat) (F G : Nat → ByteArray) (i : Nat) : ByteArray := if i < m then F i else G (i - m)
def repI : Nat → ByteArray
  | 0 => ⟨#[]⟩
  | n + 1 => repI n ++ (⟨#[105]⟩ : ByteArray)
def WD (t : ByteArray) : Prop := t.size = 0 ∨ WordP t
end Go.Sw

namespace Go.Sw
open Go Go.RowKit Go.ChangeShapes Go.WideShapes Go.ChangeAt
section
variable {H : Type} {enc : TypeId × Value → H} {P : Program} {w w' : World}
end
end Go.Sw
