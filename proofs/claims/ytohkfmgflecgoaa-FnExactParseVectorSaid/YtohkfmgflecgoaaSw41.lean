/- Plain lemmas of a small calculus for walks over frames and own memory; no statement of the seat is proved here. -/
import Derived.Test.YtohkfmgflecgoaaSw47
set_option linter.unusedVariables false
set_option linter.unusedSimpArgs false
namespace Go.Sw
open Go Go.RowKit
/-! ### Texts cut at a byte: the places of the byte, and what lies between them. -/
/-- The places of the byte c before i. -/
def bnd (s : ByteArray) (c : Nat) : Nat → List Nat
  | 0 => []
  | i + 1 => if byt s i = c then bnd s c i ++ [i] else bnd s c i
def cnt (s : ByteArray) (c i : Nat) : Nat := (bnd s c i).length
/-- The start of the part at i. -/
def sta (s : ByteArray) (c : Nat) : Nat → Nat
  | 0 => 0
  | i + 1 => if byt s i = c then i + 1 else sta s c i
/-- The number of parts. -/
def nSg (s : ByteArray) (c : Nat) : Nat := cnt s c s.size + 1
def sgB (s : ByteArray) (c k : Nat) : Nat := (bnd s c s.size ++ [s.size]).getD k s.size
def sgA (s : ByteArray) (c k : Nat) : Nat := if k = 0 then 0 else sgB s c (k - 1) + 1
def seg (s : ByteArray) (c k : Nat) : ByteArray := s.extract (sgA s c k) (sgB s c k)
section
variable {s : ByteArray} {c : Nat}
theorem cnt_yes {i : Nat} (h : byt s i = c) : cnt s c (i + 1) = cnt s c i + 1 := by unfold cnt; rw [bnd, if_pos h]; simp
theorem cnt_no {i : Nat} (h : ¬ byt s i = c) : cnt s c (i + 1) = cnt s c i := by unfold cnt; rw [bnd, if_neg h]
theorem sta_yes {i : Nat} (h : byt s i = c) : sta s c (i + 1) = i + 1 := by rw [sta, if_pos h]
theorem sta_no {i : Nat} (h : ¬ byt s i = c) : sta s c (i + 1) = sta s c i := by rw [sta, if_neg h]
theorem sta_le : ∀ i, sta s c i ≤ i
  | 0 => Nat.le_refl _
  | i + 1 => by
    have := sta_le i
    rw [sta]; split <;> omega
theorem cnt_le : ∀ i, cnt s c i ≤ i
  | 0 => Nat.le_refl _
  | i + 1 => by
    have := cnt_le i
    by_cases h : byt s i = c
    · rw [cnt_yes h]; omega
    · rw [cnt_no h]; omega
theorem cnt_mono {i j : Nat} (h : i ≤ j) : cnt s c i ≤ cnt s c j := by
  induction j with
  | zero => rw [show i = 0 by omega]; exact Nat.le_refl _
  | succ j ih =>
    by_cases e : i = j + 1
    · rw [e]; exact Nat.le_refl _
    · have := ih (by omega)
      by_cases h2 : byt s j = c
      · rw [cnt_yes h2]; omega
      · rw [cnt_no h2]; omega
theorem bnd_pre {i : Nat} : ∀ d, ∃ r, bnd s c (i + d) = bnd s c i ++ r
  | 0 => ⟨[], by simp⟩
  | d + 1 => by
    obtain ⟨r, hr⟩ := bnd_pre (i := i) d
    by_cases h : byt s (i + d) = c
    · exact ⟨r ++ [i + d], by rw [← Nat.add_assoc, bnd, if_pos h, hr]; simp⟩
    · exact ⟨r, by rw [← Nat.add_assoc, bnd, if_neg h, hr]⟩
/-- A place of the byte, or the end, is the end of its part. -/
theorem sgB_at {i : Nat} (hi : i < s.size) (h : byt s i = c) : sgB s c (cnt s c i) = i := by
  obtain ⟨r, hr⟩ := bnd_pre (s := s) (c := c) (i := i + 1) (s.size - (i + 1))
  rw [show i + 1 + (s.size - (i + 1)) = s.size by omega, bnd, if_pos h] at hr
  unfold sgB cnt
  rw [hr]
  simp [List.getD]
theorem sgB_end : sgB s c (cnt s c s.size) = s.size := by unfold sgB cnt; simp [List.getD]
theorem sgB_b {i : Nat} (h : i = s.size ∨ (i < s.size ∧ byt s i = c)) : sgB s c (cnt s c i) = i := by
  rcases h with rfl | ⟨h1, h2⟩
  · exact sgB_end
  · exact sgB_at h1 h2
theorem bnd_mem {k : Nat} : ∀ {i}, k < cnt s c i → ∃ b, (bnd s c i)[k]? = some b ∧ b < i ∧ byt s b = c ∧ cnt s c b = k
  | 0, h => by simp [cnt, bnd] at h
  | i + 1, h => by
    by_cases hb : byt s i = c
    · rw [cnt_yes hb] at h
      rw [bnd, if_pos hb]
      by_cases e : k < cnt s c i
      · obtain ⟨b, h1, h2, h3, h4⟩ := bnd_mem e
        exact ⟨b, by rw [List.getElem?_append_left (by unfold cnt at e; exact e)]; exact h1, by omega, h3, h4⟩
      · have e2 : k = cnt s c i := by omega
        subst e2
        exact ⟨i, by unfold cnt; simp, by omega, hb, rfl⟩
    · rw [cnt_no hb] at h
      rw [bnd, if_neg hb]
      obtain ⟨b, h1, h2, h3, h4⟩ := bnd_mem h
      exact ⟨b, h1, by omega, h3, h4⟩
/-- What the end of a part is. -/
theorem sgB_spec {k : Nat} (h : k < nSg s c) : (sgB s c k = s.size ∨ (sgB s c k < s.size ∧ byt s (sgB s c k) = c)) ∧ cnt s c (sgB s c k) = k := by
  by_cases e : k < cnt s c s.size
  · obtain ⟨b, h1, h2, h3, h4⟩ := bnd_mem e
    have e2 : sgB s c k = b := by
      unfold sgB
      rw [List.getD_eq_getElem?_getD, List.getElem?_append_left (by unfold cnt at e; exact e), h1]; rfl
    rw [e2]; exact ⟨.inr ⟨h2, h3⟩, h4⟩
  · have e2 : k = cnt s c s.size := by unfold nSg at h; omega
    rw [e2, sgB_end]; exact ⟨.inl rfl, rfl⟩
theorem sgB_le {k : Nat} (h : k < nSg s c) : sgB s c k ≤ s.size := by
  rcases (sgB_spec h).1 with e | e <;> omega
theorem sgA_cnt : ∀ {i}, i ≤ s.size → sgA s c (cnt s c i) = sta s c i
  | 0, _ => by simp [cnt, bnd, sgA, sta]
  | i + 1, h => by
    by_cases hb : byt s i = c
    · rw [cnt_yes hb, sta_yes hb]; unfold sgA
      rw [if_neg (by omega), Nat.add_sub_cancel, sgB_at (by omega) hb]
    · rw [cnt_no hb, sta_no hb]; exact sgA_cnt (by omega)
theorem sgA_sta {k : Nat} (h : k < nSg s c) : sgA s c k = sta s c (sgB s c k) := by
  have h1 := sgA_cnt (s := s) (c := c) (sgB_le h)
  rw [(sgB_spec h).2] at h1; exact h1
theorem seg_b {i : Nat} (h : i = s.size ∨ (i < s.size ∧ byt s i = c)) : seg s c (cnt s c i) = s.extract (sta s c i) i := by
  unfold seg
  rw [sgB_b h, sgA_cnt (by rcases h with rfl | h <;> omega)]
theorem sta_same {i j : Nat} (hi : sta s c j ≤ i) (hj : i ≤ j) : sta s c i = sta s c j := by
  induction j with
  | zero => rw [show i = 0 by omega]
  | succ j ih =>
    by_cases e : i = j + 1
    · rw [e]
    · by_cases hb : byt s j = c
      · rw [sta_yes hb] at hi; omega
      · rw [sta_no hb] at hi ⊢; exact ih hi (by omega)
theorem sta_ne {i j : Nat} (hi : sta s c j ≤ i) (hj : i < j) : ¬ byt s i = c := by
  induction j with
  | zero => omega
  | succ j ih =>
    by_cases hb : byt s j = c
    · rw [sta_yes hb] at hi; omega
    · rw [sta_no hb] at hi
      by_cases e : i = j
      · rw [e]; exact hb
      · exact ih hi (by omega)
theorem byt_ext {a b j : Nat} (hb : b ≤ s.size) (hj : j < b - a) : byt (s.extract a b) j = byt s (a + j) := by
  unfold byt
  rw [ByteArray.data_extract, Array.getD_eq_getD_getElem?, Array.getElem?_extract, Array.getD_eq_getD_getElem?]
  have : s.data.size = s.size := rfl
  rw [if_pos (by omega)]
theorem ext_size {a b : Nat} (hb : b ≤ s.size) : (s.extract a b).size = b - a := by
  rw [ByteArray.size_extract]; omega
end
/-! ### Words of pieces. -/
def pcB (c : Nat) : Bool := decide (c = 105) || decide (c = 120) || decide (c = 109) || decide (c = 115) || decide (c = 117) || decide (c = 101)
def inL (c : Nat) : Nat := if c = 105 then 1 else if c = 120 then 2 else if c = 109 then 2 else if c = 115 then 1 else if c = 117 then 0 else if c = 101 then 1 else 0
def outL (c : Nat) : Nat := if c = 105 then 1 else if c = 120 then 2 else if c = 109 then 1 else if c = 115 then 2 else if c = 117 then 1 else 0
def eulL (c : Nat) : Int := if c = 117 then 1 else if c = 101 then 1 else if c = 109 then -1 else if c = 115 then -1 else 0
theorem inL_le {c : Nat} : inL c ≤ 2 := by unfold inL; split; omega; split; omega; split; omega; split; omega; split; omega; split <;> omega
theorem outL_le {c : Nat} : outL c ≤ 2 := by unfold outL; split; omega; split; omega; split; omega; split; omega; split <;> omega
theorem eulL_b {c : Nat} : -1 ≤ eulL c ∧ eulL c ≤ 1 := by unfold eulL; split; omega; split; omega; split; omega; split <;> omega
theorem pc_no {c : Nat} (h : c ≠ 105 ∧ c ≠ 120 ∧ c ≠ 109 ∧ c ≠ 115 ∧ c ≠ 117 ∧ c ≠ 101) : inL c = 0 ∧ outL c = 0 ∧ pcB c = false := by
  obtain ⟨h1, h2, h3, h4, h5, h6⟩ := h
  simp [inL, outL, pcB, h1, h2, h3, h4, h5, h6]
theorem pcB_ne {c : Nat} (h : pcB c = true) : c ≠ 47 := fun e => by subst e; cases h
/-- The legs of the layer at i so far. -/
def inR (s : ByteArray) : Nat → Nat
  | 0 => 0
  | i + 1 => if byt s i = 47 then 0 else inR s i + inL (byt s i)
def outR (s : ByteArray) : Nat → Nat
  | 0 => 0
  | i + 1 => if byt s i = 47 then 0 else outR s i + outL (byt s i)
section
variable {s : ByteArray}
theorem inR_le : ∀ i, inR s i ≤ 2 * i
  | 0 => Nat.le_refl _
  | i + 1 => by have := inR_le i; have := inL_le (c := byt s i); rw [inR]; split <;> omega
theorem outR_le : ∀ i, outR s i ≤ 2 * i
  | 0 => Nat.le_refl _
  | i + 1 => by have := outR_le i; have := outL_le (c := byt s i); rw [outR]; split <;> omega
theorem inR_no {i : Nat} (h : ¬ byt s i = 47) : inR s (i + 1) = inR s i + inL (byt s i) := by rw [inR, if_neg h]
theorem outR_no {i : Nat} (h : ¬ byt s i = 47) : outR s (i + 1) = outR s i + outL (byt s i) := by rw [outR, if_neg h]
theorem inR_yes {i : Nat} (h : byt s i = 47) : inR s (i + 1) = 0 := by rw [inR, if_pos h]
theorem outR_yes {i : Nat} (h : byt s i = 47) : outR s (i + 1) = 0 := by rw [outR, if_pos h]
theorem inR_sta : ∀ i, inR s (sta s 47 i) = 0
  | 0 => rfl
  | i + 1 => by
    by_cases h : byt s i = 47
    · rw [sta_yes h, inR_yes h]
    · rw [sta_no h]; exact inR_sta i
theorem outR_sta : ∀ i, outR s (sta s 47 i) = 0
  | 0 => rfl
  | i + 1 => by
    by_cases h : byt s i = 47
    · rw [sta_yes h, outR_yes h]
    · rw [sta_no h]; exact outR_sta i
end
/-- What a layer has to be, that ends at b. -/
def layP (s : ByteArray) (b : Nat) : Prop := sta s 47 b < b ∧ inR s b ≤ 6 ∧ outR s b ≤ 6 ∧ (0 < sta s 47 b → inR s b = outR s (sta s 47 b - 1))
def isB (s : ByteArray) (b : Nat) : Prop := b = s.size ∨ (b < s.size ∧ byt s b = 47)
/-- A word that isn't empty. -/
def WordP (s : ByteArray) : Prop := s.size ≤ 300 ∧ (∀ i, i < s.size → byt s i = 47 ∨ pcB (byt s i) = true) ∧ ∀ b, b ≤ s.size → isB s b → layP s b
end Go.Sw
