/- Plain lemmas of a small calculus for walks over frames and own memory; no statement of the seat is proved here. -/
import Derived.Test.YtmgdigbkocligaaDoorSw47
import Derived.Lib.Join
import Derived.Lib.SplitLaws
import Derived.Lib.IndexBytes
import Derived.Lib.IndexLaws
import Derived.Lib.ParseIntB
import Derived.Lib.ItoaNum
import Derived.Sort.Grow
import Derived.Lib.ConvBytes
import Derived.DeepKeys4
import Derived.StringKeys
set_option linter.unusedVariables false
set_option linter.unusedSimpArgs false
namespace Go.Sw
open Go Go.RowKit
/-! ### Texts cut at a byte: the places of the byte, and what lies between them. -/
def bnd (s : ByteArray) (c : Nat) : Nat → List Nat
  | 0 => []
  | i + 1 => if byt s i = c then bnd s c i ++ [i] else bnd s c i
def cnt (s : ByteArray) (c i : Nat) : Nat := (bnd s c i).length
def sta (s : ByteArray) (c : Nat) : Nat → Nat
  | 0 => 0
  | i + 1 => if byt s i = c then i + 1 else sta s c i
def nSg (s : ByteArray) (c : Nat) : Nat := cnt s c s.size + 1
def sgB (s : ByteArray) (c k : Nat) : Nat := (bnd s c s.size ++ [s.size]).getD k s.size
def sgA (s : ByteArray) (c k : Nat) : Nat := if k = 0 then 0 else sgB s c (k - 1) + 1
def seg (s : ByteArray) (c k : Nat) : ByteArray := s.extract (sgA s c k) (sgB s c k)
section
variable {s : ByteArray} {c : Nat}
theorem cnt_yes {i : Nat} (h : byt s i = c) : cnt s c (i + 1) = cnt s c i + 1 := by unfold cnt; rw [bnd, if_pos h]; simp
theorem cnt_no {i : Nat} (h : ¬ byt s i = c) : cnt s c (i + 1) = cnt s c i := by unfold cnt; rw [bnd, if_neg h]
theorem sta_yes {i : Nat} (h : byt s i = c) : sta s c (i + 1) = i + 1 := by rw [sta, if_pos h]
theorem sta_no {i : Nat} (h : ¬ byt s i = c) : sta s c (i + 1) = sta s c i := by rw [sta, if_neg h]
theorem sta_le : ∀ i, sta s c i ≤ i
  | 0 => Nat.le_refl _
  | i + 1 => by
    have := sta_le i
    rw [sta]; split <;> omega
theorem cnt_le : ∀ i, cnt s c i ≤ i
  | 0 => Nat.le_refl _
  | i + 1 => by
    have := cnt_le i
    by_cases h : byt s i = c
    · rw [cnt_yes h]; omega
    · rw [cnt_no h]; omega
theorem bnd_pre {i : Nat} : ∀ d, ∃ r, bnd s c (i + d) = bnd s c i ++ r
  | 0 => ⟨[], by simp⟩
  | d + 1 => by
    obtain ⟨r, hr⟩ := bnd_pre (i := i) d
    by_cases h : byt s (i + d) = c
    · exact ⟨r ++ [i + d], by rw [← Nat.add_assoc, bnd, if_pos h, hr]; simp⟩
    · exact ⟨r, by rw [← Nat.add_assoc, bnd, if_neg h, hr]⟩
theorem sgB_at {i : Nat} (hi : i < s.size) (h : byt s i = c) : sgB s c (cnt s c i) = i := by
  obtain ⟨r, hr⟩ := bnd_pre (s := s) (c := c) (i := i + 1) (s.size - (i + 1));rw [show i + 1 + (s.size - (i + 1)) = s.size by omega, bnd, if_pos h] at hr
  unfold sgB cnt
  rw [hr]
  simp [List.getD]
theorem sgB_end : sgB s c (cnt s c s.size) = s.size := by unfold sgB cnt; simp [List.getD]
theorem sgB_b {i : Nat} (h : i = s.size ∨ (i < s.size ∧ byt s i = c)) : sgB s c (cnt s c i) = i := by
  rcases h with rfl | ⟨h1, h2⟩
  · exact sgB_end
  · exact sgB_at h1 h2
theorem bnd_mem {k : Nat} : ∀ {i}, k < cnt s c i → ∃ b, (bnd s c i)[k]? = some b ∧ b < i ∧ byt s b = c ∧ cnt s c b = k
  | 0, h => by simp [cnt, bnd] at h
  | i + 1, h => by
    by_cases hb : byt s i = c
    · rw [cnt_yes hb] at h
      rw [bnd, if_pos hb]
      by_cases e : k < cnt s c i
      · obtain ⟨b, h1, h2, h3, h4⟩ := bnd_mem e
        exact ⟨b, by rw [List.getElem?_append_left (by unfold cnt at e; exact e)]; exact h1, by omega, h3, h4⟩
      · have e2 : k = cnt s c i := by omega
        subst e2
        exact ⟨i, by unfold cnt; simp, by omega, hb, rfl⟩
    · rw [cnt_no hb] at h
      rw [bnd, if_neg hb]
      obtain ⟨b, h1, h2, h3, h4⟩ := bnd_mem h
      exact ⟨b, h1, by omega, h3, h4⟩
theorem sgB_spec {k : Nat} (h : k < nSg s c) : (sgB s c k = s.size ∨ (sgB s c k < s.size ∧ byt s (sgB s c k) = c)) ∧ cnt s c (sgB s c k) = k := by
  by_cases e : k < cnt s c s.size
  · obtain ⟨b, h1, h2, h3, h4⟩ := bnd_mem e
    have e2 : sgB s c k = b := by
      unfold sgB
      rw [List.getD_eq_getElem?_getD, List.getElem?_append_left (by unfold cnt at e; exact e), h1]; rfl
    rw [e2]; exact ⟨.inr ⟨h2, h3⟩, h4⟩
  · have e2 : k = cnt s c s.size := by unfold nSg at h; omega
    rw [e2, sgB_end]; exact ⟨.inl rfl, rfl⟩
theorem sgB_le {k : Nat} (h : k < nSg s c) : sgB s c k ≤ s.size := by
  rcases (sgB_spec h).1 with e | e <;> omega
theorem sgA_cnt : ∀ {i}, i ≤ s.size → sgA s c (cnt s c i) = sta s c i
  | 0, _ => by simp [cnt, bnd, sgA, sta]
  | i + 1, h => by
    by_cases hb : byt s i = c
    · rw [cnt_yes hb, sta_yes hb]; unfold sgA
      rw [if_neg (by omega), Nat.add_sub_cancel, sgB_at (by omega) hb]
    · rw [cnt_no hb, sta_no hb]; exact sgA_cnt (by omega)
theorem sgA_sta {k : Nat} (h : k < nSg s c) : sgA s c k = sta s c (sgB s c k) := by
  have h1 := sgA_cnt (s := s) (c := c) (sgB_le h);rw [(sgB_spec h).2] at h1; exact h1
theorem seg_b {i : Nat} (h : i = s.size ∨ (i < s.size ∧ byt s i = c)) : seg s c (cnt s c i) = s.extract (sta s c i) i := by
  unfold seg
  rw [sgB_b h, sgA_cnt (by rcases h with rfl | h <;> omega)]
theorem sta_ne {i j : Nat} (hi : sta s c j ≤ i) (hj : i < j) : ¬ byt s i = c := by
  induction j with
  | zero => omega
  | succ j ih =>
    by_cases hb : byt s j = c
    · rw [sta_yes hb] at hi; omega
    · rw [sta_no hb] at hi
      by_cases e : i = j
      · rw [e]; exact hb
      · exact ih hi (by omega)
theorem byt_ext {a b j : Nat} (hb : b ≤ s.size) (hj : j < b - a) : byt (s.extract a b) j = byt s (a + j) := by
  unfold byt
  rw [ByteArray.data_extract, Array.getD_eq_getD_getElem?, Array.getElem?_extract, Array.getD_eq_getD_getElem?];have : s.data.size = s.size := rfl;rw [if_pos (by omega)]
theorem ext_size {a b : Nat} (hb : b ≤ s.size) : (s.extract a b).size = b - a := by
  rw [ByteArray.size_extract]; omega
end
/-! ### Words of pieces. -/
def pcB (c : Nat) : Bool := decide (c = 105) || decide (c = 120) || decide (c = 109) || decide (c = 115) || decide (c = 117) || decide (c = 101)
def inL (c : Nat) : Nat := if c = 105 then 1 else if c = 120 then 2 else if c = 109 then 2 else if c = 115 then 1 else if c = 117 then 0 else if c = 101 then 1 else 0
def outL (c : Nat) : Nat := if c = 105 then 1 else if c = 120 then 2 else if c = 109 then 1 else if c = 115 then 2 else if c = 117 then 1 else 0
def eulL (c : Nat) : Int := if c = 117 then 1 else if c = 101 then 1 else if c = 109 then -1 else if c = 115 then -1 else 0
def inR (s : ByteArray) : Nat → Nat
  | 0 => 0
  | i + 1 => if byt s i = 47 then 0 else inR s i + inL (byt s i)
def outR (s : ByteArray) : Nat → Nat
  | 0 => 0
  | i + 1 => if byt s i = 47 then 0 else outR s i + outL (byt s i)
section
variable {s : ByteArray}
end
def layP (s : ByteArray) (b : Nat) : Prop := sta s 47 b < b ∧ inR s b ≤ 6 ∧ outR s b ≤ 6 ∧ (0 < sta s 47 b → inR s b = outR s (sta s 47 b - 1))
def isB (s : ByteArray) (b : Nat) : Prop := b = s.size ∨ (b < s.size ∧ byt s b = 47)
def WordP (s : ByteArray) : Prop := s.size ≤ 300 ∧ (∀ i, i < s.size → byt s i = 47 ∨ pcB (byt s i) = true) ∧ ∀ b, b ≤ s.size → isB s b → layP s b
end Go.Sw

namespace Go.Sw
open Go Go.RowKit
def layC (t : ByteArray) (a b : Int) : Array Value := #[.string t, .int .i64 a, .int .i64 b]
section
variable {t u : ByteArray} {a b x : Int} {q : Nat}
end
def layF (s : ByteArray) (q : Nat) : Value := if q % 3 = 0 then .string (seg s 47 (q / 3)) else if q % 3 = 1 then .int .i64 (inR s (sgB s 47 (q / 3)) : Int) else .int .i64 (outR s (sgB s 47 (q / 3)) : Int)
def segF (s : ByteArray) (c : Nat) (k : Nat) : Value := .string (seg s c k)
section
variable {s : ByteArray}
end
end Go.Sw

namespace Go.Sw
open Go Go.RowKit
/-! ### Texts joined by commas. -/
def jn (F : Nat → ByteArray) : Nat → ByteArray
  | 0 => ⟨#[]⟩
  | k + 1 => (if k = 0 then ⟨#[]⟩ else jn F k ++ (⟨#[44]⟩ : ByteArray)) ++ F k
def decT (k : Nat) : ByteArray := if k < 10 then ⟨#[UInt8.ofNat (48 + k)]⟩ else (⟨#[UInt8.ofNat (48 + k / 10)]⟩ : ByteArray) ++ (⟨#[UInt8.ofNat (48 + k % 10)]⟩ : ByteArray)
end Go.Sw

namespace Go.Sw
open Go Go.RowKit
/-! ### Texts split at a byte by the library; numbers in texts. -/
section
variable {s : ByteArray}
theorem get_byt {i : Nat} {c : UInt8} : s.data.toList[i]? = some c ↔ i < s.size ∧ byt s i = c.toNat := by
  unfold byt
  have hz : s.data.size = s.size := rfl;rw [Array.getElem?_toList, Array.getD_eq_getD_getElem?]
  by_cases h : i < s.size
  · rw [Array.getElem?_eq_getElem (by omega)]
    constructor
    · intro e; obtain rfl := Option.some.inj e; exact ⟨h, rfl⟩
    · intro e; exact congrArg some (UInt8.toNat_inj.1 e.2)
  · rw [Array.getElem?_eq_none (by omega)]
    constructor
    · intro e; cases e
    · intro e; exact absurd e.1 h
theorem idx_hit {c : UInt8} {i : Nat} (hi : i < s.size) (h : byt s i = c.toNat) (hn : ∀ j, j < i → ¬ byt s j = c.toNat) : Go.Lib.indexB s ⟨#[c]⟩ = (i : Int) := by
  show Go.Lib.index s.data.toList [c] = _
  rw [Go.Lib.index_one];have hg := Go.Lib.indexByte_ge s.data.toList c
  by_cases e : Go.Lib.indexByte s.data.toList c = -1
  · exact absurd (get_byt.2 ⟨hi, h⟩) (Go.Lib.indexByte_none e i)
  · obtain ⟨o, ho⟩ : ∃ o : Nat, Go.Lib.indexByte s.data.toList c = (o : Int) := ⟨(Go.Lib.indexByte s.data.toList c).toNat, by omega⟩
    obtain ⟨h1, h2⟩ := Go.Lib.indexByte_some ho;rw [ho];have h3 := get_byt.1 h1;have h4 : ¬ i < o := fun q => h2 i q (get_byt.2 ⟨hi, h⟩);have h5 : ¬ o < i := fun q => hn o q h3.2
    omega
theorem count_take {c : UInt8} : ∀ i, i ≤ s.size → (s.data.toList.take i).count c = cnt s c.toNat i
  | 0, _ => by simp [cnt, bnd]
  | i + 1, h => by
    have hz : s.data.size = s.size := rfl
    have hl : i < s.data.toList.length := by rw [Array.length_toList]; omega
    rw [List.take_add_one, List.count_append, count_take i (by omega)]
    have e : s.data.toList[i]? = some (s.data.toList[i]) := List.getElem?_eq_getElem hl
    have e2 := (get_byt.1 e).2
    rw [e]
    by_cases hb : byt s i = c.toNat
    · rw [cnt_yes hb]
      have : s.data.toList[i] = c := UInt8.toNat_inj.1 (e2.symm.trans hb)
      simp [this]
    · rw [cnt_no hb]
      have : s.data.toList[i] ≠ c := fun q => hb (by rw [e2, q])
      have t2 : ¬ s.data[i] = c := this
      simp [List.count_cons, t2]
theorem countB_cnt {c : UInt8} : Go.Lib.countB s ⟨#[c]⟩ = cnt s c.toNat s.size := by
  show Go.Lib.count s.data.toList [c] = _
  rw [Go.Lib.count_one, ← count_take s.size (Nat.le_refl _), List.take_of_length_le (by rw [Array.length_toList]; exact Nat.le_refl _)]
theorem ext_all : s.extract 0 s.size = s := by
  apply ByteArray.ext; rw [ByteArray.data_extract]; exact Array.extract_size
theorem ext_ext {a b c d : Nat} (hb : b ≤ s.size) (hd : a + d ≤ b) : (s.extract a b).extract c d = s.extract (a + c) (a + d) := by
  apply ByteArray.ext
  simp only [ByteArray.data_extract, Array.extract_extract];rw [Nat.min_eq_left hd]
theorem split_at {c : UInt8} : ∀ (n j : Nat), j + n + 1 = nSg s c.toNat → Go.Lib.splitB ⟨#[c]⟩ 0 n (s.extract (sgA s c.toNat j) s.size) = (List.range (n + 1)).map fun k => seg s c.toNat (j + k)
  | 0, j, h => by
    have hj : j = cnt s c.toNat s.size := by unfold nSg at h; omega
    have hB : sgB s c.toNat j = s.size := by rw [hj]; exact sgB_end
    rw [Go.Lib.splitB]
    show _ = [seg s c.toNat (j + 0)]
    rw [Nat.add_zero]; unfold seg; rw [hB]
  | n + 1, j, h => by
    have hj : j < cnt s c.toNat s.size := by unfold nSg at h; omega
    have hj1 : j < nSg s c.toNat := by omega
    obtain ⟨h1, h2⟩ := sgB_spec hj1
    have hlt : sgB s c.toNat j < s.size := by
      rcases h1 with e | e
      · exfalso; rw [e] at h2; omega
      · exact e.1
    have hby : byt s (sgB s c.toNat j) = c.toNat := by
      rcases h1 with e | e
      · omega
      · exact e.2
    have hA := sgA_sta hj1;have hAB : sgA s c.toNat j ≤ sgB s c.toNat j := by rw [hA]; exact sta_le _
    have hsz : (s.extract (sgA s c.toNat j) s.size).size = s.size - sgA s c.toNat j := ext_size (Nat.le_refl _);have hidx : Go.Lib.indexB (s.extract (sgA s c.toNat j) s.size) ⟨#[c]⟩ = ((sgB s c.toNat j - sgA s c.toNat j : Nat) : Int) := by
      refine idx_hit (by rw [hsz]; omega) ?_ ?_
      · rw [byt_ext (Nat.le_refl _) (by omega), show sgA s c.toNat j + (sgB s c.toNat j - sgA s c.toNat j) = sgB s c.toNat j by omega]; exact hby
      · intro q hq
        rw [byt_ext (Nat.le_refl _) (by omega)];exact sta_ne (j := sgB s c.toNat j) (by rw [← hA]; omega) (by omega)
    rw [Go.Lib.splitB_hit _ _ _ _ _ hidx, hsz]
    show (s.extract (sgA s c.toNat j) s.size).extract 0 (sgB s c.toNat j - sgA s c.toNat j + 0) :: Go.Lib.splitB ⟨#[c]⟩ 0 n ((s.extract (sgA s c.toNat j) s.size).extract (sgB s c.toNat j - sgA s c.toNat j + 1) (s.size - sgA s c.toNat j)) = _
    rw [ext_ext (Nat.le_refl _) (by omega), ext_ext (Nat.le_refl _) (by omega)];rw [show sgA s c.toNat j + 0 = sgA s c.toNat j by omega, show sgA s c.toNat j + (sgB s c.toNat j - sgA s c.toNat j + 0) = sgB s c.toNat j by omega, show sgA s c.toNat j + (sgB s c.toNat j - sgA s c.toNat j + 1) = sgA s c.toNat (j + 1) by (unfold sgA; rw [if_neg (show ¬ j + 1 = 0 by omega), Nat.add_sub_cancel]; unfold sgA at hAB; omega), show sgA s c.toNat j + (s.size - sgA s c.toNat j) = s.size by omega];rw [split_at n (j + 1) (by omega), List.range_succ_eq_map (n := n + 1), List.map_cons, List.map_map]
    congr 1
    apply List.map_congr_left
    intro k _
    show seg s c.toNat (j + 1 + k) = seg s c.toNat (j + (k + 1))
    rw [show j + 1 + k = j + (k + 1) by omega]
theorem split_all {c : UInt8} : Go.Lib.splitB ⟨#[c]⟩ 0 (Go.Lib.countB s ⟨#[c]⟩) s = (List.range (nSg s c.toNat)).map fun k => seg s c.toNat k := by
  have h := split_at (s := s) (c := c) (cnt s c.toNat s.size) 0 (by unfold nSg; omega);rw [show sgA s c.toNat 0 = 0 from rfl, ext_all] at h;rw [countB_cnt, h]
  apply List.map_congr_left
  intro k _;rw [Nat.zero_add]
theorem seg_size {c k : Nat} (h : k < nSg s c) : (seg s c k).size ≤ s.size := by
  unfold seg
  rw [ext_size (sgB_le h)];have := sgB_le h; omega
theorem nSg_le {c : Nat} : nSg s c ≤ s.size + 1 := by unfold nSg; have := cnt_le (s := s) (c := c) s.size; omega
/-! numbers -/
def hr (s : ByteArray) : Nat → Nat
  | 0 => 0
  | i + 1 => hr s i * 10 + (byt s i - 48)
def nrP (s : ByteArray) : Prop := 0 < s.size ∧ s.size ≤ 9 ∧ (1 < s.size → byt s 0 ≠ 48) ∧ ∀ i, i < s.size → 48 ≤ byt s i ∧ byt s i ≤ 57
instance : Decidable (nrP s) := by unfold nrP; infer_instance
def vN (s : ByteArray) : Int := if nrP s then (hr s s.size : Int) else -1
theorem vN_yes (h : nrP s) : vN s = (hr s s.size : Int) := if_pos h
theorem vN_no (h : ¬ nrP s) : vN s = -1 := if_neg h
theorem hr_le (s : ByteArray) : ∀ i, hr s i + 23 ≤ 24 * 10 ^ i
  | 0 => by simp [hr]
  | i + 1 => by
    have h1 := hr_le s i
    have h2 := byt_lt (s := s) (i := i)
    rw [hr, Nat.pow_succ]; omega
theorem hr_mono {i : Nat} : ∀ d, hr s i ≤ hr s (i + d)
  | 0 => Nat.le_refl _
  | d + 1 => by
    have h1 := hr_mono (i := i) d
    rw [← Nat.add_assoc, hr]; omega
theorem dec_nr : ∀ v : Fin 100, nrP ⟨(Go.Lib.decDigits v.1).toArray⟩ ∧ hr ⟨(Go.Lib.decDigits v.1).toArray⟩ (ByteArray.size ⟨(Go.Lib.decDigits v.1).toArray⟩) = v.1 := by decide +kernel
theorem dec_one : ∀ x : Fin 10, Go.Lib.decDigits x.1 = [UInt8.ofNat (48 + x.1)] := by decide +kernel
theorem dec_two : ∀ x y : Fin 10, 0 < x.1 → Go.Lib.decDigits (x.1 * 10 + y.1) = [UInt8.ofNat (48 + x.1), UInt8.ofNat (48 + y.1)] := by decide +kernel
theorem nr_dec (h : nrP s) (hv : hr s s.size < 100) : s.data.toList = Go.Lib.decDigits (hr s s.size) := by
  obtain ⟨h1, h2, h3, h4⟩ := h;have hz : s.data.size = s.size := rfl;have hle : s.size ≤ 2 := by
    apply Decidable.by_contra
    intro q;have e0 := h4 0 (by omega);have e1 := h3 (by omega);have m := hr_mono (s := s) (i := 3) (s.size - 3);rw [show 3 + (s.size - 3) = s.size by omega] at m;have : hr s 3 = ((0 * 10 + (byt s 0 - 48)) * 10 + (byt s 1 - 48)) * 10 + (byt s 2 - 48) := rfl
    omega
  have at_ : ∀ i, i < s.size → s.data.toList[i]? = some (UInt8.ofNat (byt s i)) := fun i hi => get_byt.2 ⟨hi, by
    have := byt_lt (s := s) (i := i)
    simp; omega⟩
  have e0 := h4 0 (by omega);have a0 := at_ 0 (by omega)
  by_cases e : s.size = 1
  · have hl : s.data.toList = [UInt8.ofNat (byt s 0)] := by
      apply List.ext_getElem?
      intro i
      by_cases hi : i = 0
      · subst hi; exact a0
      · rw [List.getElem?_eq_none (by rw [Array.length_toList]; omega), List.getElem?_eq_none (by simp; omega)]
    have hh : hr s s.size = byt s 0 - 48 := by rw [e]; show 0 * 10 + (byt s 0 - 48) = _; omega
    rw [hl, hh, dec_one ⟨byt s 0 - 48, by omega⟩, show 48 + (byt s 0 - 48) = byt s 0 by omega]
  · have e2 : s.size = 2 := by omega
    have e1 := h4 1 (by omega);have a1 := at_ 1 (by omega);have ne := h3 (by omega);have hl : s.data.toList = [UInt8.ofNat (byt s 0), UInt8.ofNat (byt s 1)] := by
      apply List.ext_getElem?
      intro i
      by_cases hi : i = 0
      · subst hi; exact a0
      · by_cases hi1 : i = 1
        · subst hi1; exact a1
        · rw [List.getElem?_eq_none (by rw [Array.length_toList]; omega), List.getElem?_eq_none (by simp; omega)]
    have hh : hr s s.size = (byt s 0 - 48) * 10 + (byt s 1 - 48) := by rw [e2]; show (0 * 10 + (byt s 0 - 48)) * 10 + (byt s 1 - 48) = _; omega
    rw [hl, hh, dec_two ⟨byt s 0 - 48, by omega⟩ ⟨byt s 1 - 48, by omega⟩ (by show 0 < byt s 0 - 48; omega), show 48 + (byt s 0 - 48) = byt s 0 by omega, show 48 + (byt s 1 - 48) = byt s 1 by omega]
theorem of_list {t : ByteArray} (h : s.data.toList = t.data.toList) : s = t := ByteArray.ext (Array.toList_inj.1 h)
theorem vN_dec {v : Nat} (hv : v < 100) : vN s = (v : Int) ↔ s = ⟨(Go.Lib.decDigits v).toArray⟩ := by
  constructor
  · intro h
    have hn : nrP s := Decidable.by_contra fun q => by rw [vN_no q] at h; omega
    rw [vN_yes hn] at h;have h2 : hr s s.size = v := by omega
    have h3 := nr_dec hn (by omega);rw [h2] at h3;exact of_list h3
  · intro h
    have h1 := dec_nr ⟨v, hv⟩;rw [← h] at h1;rw [vN_yes h1.1, h1.2]
theorem dec_parse : ∀ v : Fin 100, Go.Lib.parseIntB 64 (Go.Lib.decDigits v.1) = .ok (v.1 : Int) := by decide +kernel
def rdQ (s : ByteArray) (z : Int) (b : Bool) : Prop := (b = true → 0 ≤ z → z < 100 → vN s = z) ∧ (0 ≤ vN s → vN s < 100 → b = true ∧ z = vN s)
theorem rdQ_no (z : Int) (h : ∀ v : Int, 0 ≤ v → v < 100 → vN s ≠ v) : rdQ s z false := ⟨fun e _ _ => (nomatch e), fun h1 h2 => absurd rfl (h _ h1 h2)⟩
theorem rdQ_same {v : Int} (hp : Go.Lib.parseIntB 64 s.data.toList = .ok v) (he : (⟨(Go.Lib.itoa v).toArray⟩ : ByteArray) = s) : rdQ s v true := by
  have key : ∀ u : Int, 0 ≤ u → u < 100 → (vN s = u ↔ v = u) := by
    intro u h1 h2;obtain ⟨k, rfl⟩ : ∃ k : Nat, u = (k : Int) := ⟨u.toNat, by omega⟩;rw [vN_dec (by omega)]
    constructor
    · intro e
      rw [e] at hp;have := (dec_parse ⟨k, by omega⟩).symm.trans hp
      injection this with h3
      exact h3.symm
    · intro e
      rw [← he, e]
      show (⟨(Go.Lib.itoa (k : Int)).toArray⟩ : ByteArray) = _
      unfold Go.Lib.itoa
      rw [if_neg (by omega)]; rfl
  exact ⟨fun _ h1 h2 => (key v h1 h2).2 rfl, fun h1 h2 => ⟨rfl, (key _ h1 h2).1 rfl⟩⟩
theorem rdQ_other {v : Int} (hp : Go.Lib.parseIntB 64 s.data.toList = .ok v) (he : ¬ (⟨(Go.Lib.itoa v).toArray⟩ : ByteArray) = s) : rdQ s 0 false := by
  refine rdQ_no 0 fun u h1 h2 e => ?_;obtain ⟨k, rfl⟩ : ∃ k : Nat, u = (k : Int) := ⟨u.toNat, by omega⟩;have e2 := (vN_dec (by omega)).1 e;have e3 := hp;rw [e2] at e3;have e4 := (dec_parse ⟨k, by omega⟩).symm.trans e3
  injection e4 with e5
  apply he
  rw [← e5];refine Eq.trans ?_ e2.symm
  show (⟨(Go.Lib.itoa (k : Int)).toArray⟩ : ByteArray) = _
  unfold Go.Lib.itoa
  rw [if_neg (by omega)]; rfl
theorem rdQ_bad (hp : ∀ v, Go.Lib.parseIntB 64 s.data.toList ≠ .ok v) : rdQ s 0 false := by
  refine rdQ_no 0 fun u h1 h2 e => ?_;obtain ⟨k, rfl⟩ : ∃ k : Nat, u = (k : Int) := ⟨u.toNat, by omega⟩;have e2 := (vN_dec (by omega)).1 e
  apply hp (k : Int)
  rw [e2]; exact dec_parse ⟨k, by omega⟩
theorem ext_grow (w : World) (os : Array Obj) : Ext w (Go.Sort.grow w os) := by
  refine ⟨rfl, rfl, rfl, ?_, ?_⟩
  · show w.heap.size ≤ (w.heap ++ os).size
    rw [Array.size_append]; omega
  · intro k hk
    show (w.heap ++ os)[k]? = _
    rw [Array.getElem?_append_left hk]
end
end Go.Sw

namespace Go.Sw
open Go Go.RowKit
/-! ### Maps whose keys are structs of numbers. -/
def leafs (P : Program) : Nat → TypeId → List IntKind → Bool
  | 0, _, _ => false
  | d + 1, t, ks =>
    match P.underlying t with
    | some (.int q) => decide (ks = [q])
    | some (.array n e) => Nat.beq ks.length (P.cellsOf t) && (List.range n).all fun i => leafs P d e ((ks.drop (i * P.cellsOf e)).take (P.cellsOf e))
    | some (.struct fs) => Nat.beq ks.length (P.cellsOf t) && fs.all (·.name != "_") && fs.toList.all fun f => leafs P d f.type ((ks.drop f.offset).take (P.cellsOf f.type))
    | _ => false
def Leafy (cs : List Value) (ks : List IntKind) : Prop := cs.length = ks.length ∧ ∀ (i : Nat) (q : IntKind), ks[i]? = some q → ∃ x, cs[i]? = some (Value.int q x) ∧ (Lit.int q x).wf = true
theorem Leafy.part {cs : List Value} {ks : List IntKind} (h : Leafy cs ks) (o l : Nat) : Leafy ((cs.drop o).take l) ((ks.drop o).take l) :=
  ⟨by simp [h.1], fun i q hi => by
    rw [List.getElem?_take] at hi ⊢
    split at hi
    · rename_i hl
      rw [if_pos hl, List.getElem?_drop]
      rw [List.getElem?_drop] at hi
      exact h.2 _ q hi
    · cases hi⟩
def wideB (P : Program) (k : TypeId) : Bool := match P.underlying k with | some (.array _ _) | some (.struct _) => true | _ => false
def IsMap (w : World) (b : Nat) (es : Array MapEntry) (c : Nat) : Prop := w.heap[b]? = some (.map es c)
theorem IsMap.ext {w w' : World} {b : Nat} {es : Array MapEntry} {c : Nat} (h : IsMap w b es c) (hx : Ext w w') : IsMap w' b es c := by
  have hlt : b < w.heap.size := (Array.getElem?_eq_some_iff.1 h).1
  unfold IsMap
  rw [hx.block b hlt]; exact h
section
variable {P : Program} {n : Nat} {F : List (Nat × Value)} {a : Act} {w w0 : World} {d : Option Tmp} {t T kt et : TypeId} {pos : String} {af : Array Edge} {gd : Option (Nat × Bool)} {x y z : Operand} {X : List Nat} {L : Own} {D : Froz}
end
end Go.Sw

namespace Go.Sw
open Go Go.RowKit
/-! ### Maps of the call's own with texts as keys -/
section
variable {P : Program} {n : Nat} {F : List (Nat × Value)} {a : Act} {w w0 : World} {d : Option Tmp} {t T kt et : TypeId} {pos : String} {af : Array Edge} {gd : Option (Nat × Bool)} {x y z : Operand} {X : List Nat} {L : Own} {D : Froz}
end
end Go.Sw
namespace Go.Sw
open Go Go.RowKit
section
variable {P : Program} {n : Nat} {F : List (Nat × Value)} {a : Act} {w : World} {d : Option Tmp} {t T T' : TypeId} {pos : String} {af : Array Edge} {gd : Option (Nat × Bool)} {x y : Operand} {k : IntKind} {A B C : Int}
end
end Go.Sw

namespace Go.Sw
open Go Go.RowKit
/-! ### Maps of the call's own with arrays as keys; a function value with two captures -/
section
variable {P : Program} {n : Nat} {F : List (Nat × Value)} {a : Act} {w w0 : World} {d : Option Tmp} {t T kt et : TypeId} {pos : String} {af : Array Edge} {gd : Option (Nat × Bool)} {x y z : Operand} {X : List Nat} {L : Own} {D : Froz}
end
theorem IsMap.setRow {w : World} {b q : Nat} {cs cs' : Array Value} {es : Array MapEntry} {c : Nat} (h : IsMap w q es c) (hb : Blk w b cs) : IsMap (w.setRow b cs') q es c := by
  have hne : q ≠ b := fun e => by
    obtain ⟨t, ht⟩ := hb
    unfold IsMap at h
    rw [e, ht] at h; cases h
  unfold IsMap
  rw [setRow_other w b q cs' hne]; exact h
section
variable {P : Program} {n : Nat} {F : List (Nat × Value)} {a : Act} {w w0 : World} {d : Option Tmp} {t T : TypeId} {pos : String} {af : Array Edge} {gd : Option (Nat × Bool)} {x y : Operand} {X : List Nat} {L : Own} {D : Froz}
end
end Go.Sw

namespace Go.Sw
open Go Go.RowKit
variable {P : Program} {n : Nat} {F : List (Nat × Value)} {a : Act} {w : World} {d : Option Tmp} {t : TypeId} {pos : String} {af : Array Edge} {gd : Option (Nat × Bool)} {x y : Operand}
/-! ### The greater one of two numbers; a number turned over -/
end Go.Sw
