/- What functions of the program return, as walks over their operations; no statement of the seat is proved here. -/
import Derived.Test.YtbmgeapfninlkaaR3
set_option linter.unusedVariables false
set_option linter.unusedSimpArgs false
namespace Go.Proofs.Ytbmgeapfninlkaa
open Go Go.RowKit Go.Sw
open Classical
section
theorem byt_appL {a b : ByteArray} {i : Nat} (h : i < a.size) : byt (a ++ b) i = byt a i := by
  unfold byt
  rw [ByteArray.data_append, Array.getD_eq_getD_getElem?, Array.getElem?_append_left h, Array.getD_eq_getD_getElem?]
theorem byt_appR {a b : ByteArray} {j : Nat} : byt (a ++ b) (a.size + j) = byt b j := by
  unfold byt
  rw [ByteArray.data_append, Array.getD_eq_getD_getElem?, Array.getD_eq_getD_getElem?]
  show ((a.data ++ b.data)[a.data.size + j]?.getD 0).toNat = _
  rw [Array.getElem?_append_right (Nat.le_add_right _ _), Nat.add_sub_cancel_left]
theorem cnt_appL {a b : ByteArray} {c : Nat} : ∀ {i : Nat}, i ≤ a.size → cnt (a ++ b) c i = cnt a c i
  | 0, _ => rfl
  | i + 1, h => by
    have ih := cnt_appL (a := a) (b := b) (c := c) (i := i) (by omega)
    have e := byt_appL (a := a) (b := b) (i := i) (by omega)
    by_cases q : byt a i = c
    · rw [cnt_yes (by rw [e]; exact q), cnt_yes q, ih]
    · rw [cnt_no (by rw [e]; exact q), cnt_no q, ih]
theorem cnt_appR {a b : ByteArray} {c : Nat} : ∀ {j : Nat}, cnt (a ++ b) c (a.size + j) = cnt a c a.size + cnt b c j
  | 0 => by rw [Nat.add_zero, cnt_appL (Nat.le_refl _)]; rfl
  | j + 1 => by
    have ih := cnt_appR (a := a) (b := b) (c := c) (j := j)
    have e := byt_appR (a := a) (b := b) (j := j)
    rw [← Nat.add_assoc]
    by_cases q : byt b j = c
    · rw [cnt_yes (by rw [e]; exact q), cnt_yes q, ih]; omega
    · rw [cnt_no (by rw [e]; exact q), cnt_no q, ih]
def noS (x : ByteArray) : Prop := ∀ i, i < x.size → ¬ byt x i = 47
theorem cnt_noS {x : ByteArray} (h : noS x) : ∀ {j : Nat}, j ≤ x.size → cnt x 47 j = 0
  | 0, _ => rfl
  | j + 1, hj => by rw [cnt_no (h j (by omega))]; exact cnt_noS h (by omega)
theorem cnt_jw {F : Nat → ByteArray} : ∀ {k : Nat}, (∀ i, i < k + 1 → noS (F i)) → cnt (jw F (k + 1)) 47 (jw F (k + 1)).size = k
  | 0, h => by rw [jw_one]; exact cnt_noS (h 0 (by omega)) (Nat.le_refl _)
  | k + 1, h => by
    have ih := cnt_jw (F := F) (k := k) (fun i hi => h i (by omega))
    rw [jw_next (by omega), ByteArray.size_append, cnt_appR, cnt_noS (h (k + 1) (by omega)) (Nat.le_refl _), ByteArray.size_append, cnt_appR, ih]
    rfl
theorem jw_pre {F : Nat → ByteArray} {i : Nat} : ∀ {k : Nat}, i < k → ∃ R : ByteArray, jw F k = jw F (i + 1) ++ R ∧ (i + 1 < k → 0 < R.size ∧ byt R 0 = 47) ∧ (i + 1 = k → R = ⟨#[]⟩)
  | 0, h => absurd h (by omega)
  | k + 1, h => by
    by_cases e : i = k
    · subst e
      exact ⟨⟨#[]⟩, app_emp.symm, fun q => absurd q (by omega), fun _ => rfl⟩
    · obtain ⟨R, h1, h2, h3⟩ := jw_pre (F := F) (i := i) (k := k) (by omega)
      refine ⟨(R ++ (⟨#[47]⟩ : ByteArray)) ++ F k, ?_, fun _ => ?_, fun q => absurd q (by omega)⟩
      · rw [jw_next (by omega), h1]; simp only [ByteArray.append_assoc]
      · have e1 : (⟨#[47]⟩ : ByteArray).size = 1 := rfl
        refine ⟨by rw [ByteArray.size_append, ByteArray.size_append]; omega, ?_⟩
        rw [byt_appL (by rw [ByteArray.size_append]; omega)]
        by_cases q : i + 1 < k
        · rw [byt_appL (h2 q).1]; exact (h2 q).2
        · rw [h3 (by omega), emp_app]; rfl
section
variable {F : Nat → ByteArray} {k : Nat} (hF : ∀ i, i < k → noS (F i))
include hF
theorem nSg_jw (hk : 0 < k) : nSg (jw F k) 47 = k := by
  obtain ⟨q, rfl⟩ : ∃ q, k = q + 1 := ⟨k - 1, by omega⟩
  unfold nSg
  rw [cnt_jw hF]
theorem sgB_jw {i : Nat} (hi : i < k) : sgB (jw F k) 47 i = (jw F (i + 1)).size := by
  obtain ⟨R, h1, h2, h3⟩ := jw_pre (F := F) hi;have hc : cnt (jw F k) 47 (jw F (i + 1)).size = i := by rw [h1, cnt_appL (Nat.le_refl _)]; exact cnt_jw fun j hj => hF j (by omega)
  have hb := sgB_b (s := jw F k) (c := 47) (i := (jw F (i + 1)).size) (by
    by_cases q : i + 1 < k
    · right
      have := (h2 q).1;refine ⟨by rw [h1, ByteArray.size_append]; omega, ?_⟩;have e0 : byt (jw F (i + 1) ++ R) (jw F (i + 1)).size = byt R 0 := byt_appR (a := jw F (i + 1)) (b := R) (j := 0);rw [h1, e0]; exact (h2 q).2
    · left
      rw [h1, h3 (by omega), app_emp])
  rw [hc] at hb;exact hb
theorem seg_jw {i : Nat} (hi : i < k) : seg (jw F k) 47 i = F i := by
  obtain ⟨R, h1, -, -⟩ := jw_pre (F := F) hi
  unfold seg
  rw [sgB_jw hF hi]
  cases i with
  | zero =>
    show (jw F k).extract 0 (jw F 1).size = F 0
    rw [h1, jw_one];exact ByteArray.extract_append_eq_left rfl
  | succ i =>
    show (jw F k).extract (sgB (jw F k) 47 i + 1) (jw F (i + 1 + 1)).size = F (i + 1)
    rw [sgB_jw hF (i := i) (by omega)];rw [jw_next (F := F) (k := i + 1) (by omega)] at h1 ⊢;rw [h1, ByteArray.append_assoc (a := jw F (i + 1) ++ (⟨#[47]⟩ : ByteArray))];have e : (jw F (i + 1)).size + 1 = (jw F (i + 1) ++ (⟨#[47]⟩ : ByteArray)).size + 0 := by rw [ByteArray.size_append]; rfl
    rw [e, ByteArray.size_append (a := jw F (i + 1) ++ (⟨#[47]⟩ : ByteArray)), ByteArray.extract_append_size_add];exact ByteArray.extract_append_eq_left rfl
end
theorem word_jw {F : Nat → ByteArray} {k : Nat} (hk : 0 < k) (h3 : (jw F k).size ≤ 300) (hp : ∀ i, i < k → pcT (F i)) (hl : ∀ i, i < k → lyT (F i)) (hf : ∀ i, i + 1 < k → outT (F i) (F i).size = inT (F (i + 1)) (F (i + 1)).size) : WordP (jw F k) := by
  have hF : ∀ i, i < k → noS (F i) := fun i hi j hj => pcB_ne (hp i hi j hj);have hn := nSg_jw hF hk;refine ok_word h3 fun q hq => ?_;rw [hn] at hq;have e := seg_jw hF hq;refine ⟨by rw [e]; exact hp q hq, by rw [e]; exact hl q hq, fun q0 => ?_⟩;have h1 := seg_in (s := jw F k) (k := q) (by rw [hn]; exact hq);have h2 := seg_in (s := jw F k) (k := q - 1) (by rw [hn]; omega);rw [e] at h1;rw [seg_jw hF (show q - 1 < k by omega)] at h2;rw [← h1.1, ← h2.2];have := hf (q - 1) (by omega);rw [show q - 1 + 1 = q by omega] at this;exact this.symm
/-! ### The layers of a part's word -/
theorem inT_appL {a b : ByteArray} : ∀ {j : Nat}, j ≤ a.size → inT (a ++ b) j = inT a j ∧ outT (a ++ b) j = outT a j
  | 0, _ => ⟨rfl, rfl⟩
  | j + 1, h => by
    obtain ⟨h1, h2⟩ := inT_appL (a := a) (b := b) (j := j) (by omega)
    exact ⟨by rw [inT, inT, h1, byt_appL (by omega)], by rw [outT, outT, h2, byt_appL (by omega)]⟩
theorem inT_appR {a b : ByteArray} : ∀ {j : Nat}, inT (a ++ b) (a.size + j) = inT a a.size + inT b j ∧ outT (a ++ b) (a.size + j) = outT a a.size + outT b j
  | 0 => by
    obtain ⟨h1, h2⟩ := inT_appL (a := a) (b := b) (Nat.le_refl _)
    exact ⟨by rw [Nat.add_zero, h1]; rfl, by rw [Nat.add_zero, h2]; rfl⟩
  | j + 1 => by
    obtain ⟨h1, h2⟩ := inT_appR (a := a) (b := b) (j := j)
    refine ⟨?_, ?_⟩
    · rw [← Nat.add_assoc, inT, inT, h1, byt_appR]; omega
    · rw [← Nat.add_assoc, outT, outT, h2, byt_appR]; omega
theorem pcT_app {a b : ByteArray} (ha : pcT a) (hb : pcT b) : pcT (a ++ b) := fun i hi => by
  rw [ByteArray.size_append] at hi
  by_cases h : i < a.size
  · rw [byt_appL h]; exact ha i h
  · obtain ⟨j, rfl⟩ : ∃ j, i = a.size + j := ⟨i - a.size, by omega⟩
    rw [byt_appR]; exact hb j (by omega)
theorem repI_pc : ∀ q, pcT (repI q)
  | 0 => fun i hi => absurd hi (by rw [repI_size]; omega)
  | q + 1 => pcT_app (repI_pc q) (fun i hi => by
      have : i = 0 := by have e : (⟨#[105]⟩ : ByteArray).size = 1 := rfl; omega
      subst this; decide)
theorem repI_io : ∀ q, inT (repI q) (repI q).size = q ∧ outT (repI q) (repI q).size = q
  | 0 => ⟨rfl, rfl⟩
  | q + 1 => by
    obtain ⟨h1, h2⟩ := repI_io q
    show inT (repI q ++ (⟨#[105]⟩ : ByteArray)) (repI q ++ (⟨#[105]⟩ : ByteArray)).size = q + 1 ∧ outT (repI q ++ (⟨#[105]⟩ : ByteArray)) (repI q ++ (⟨#[105]⟩ : ByteArray)).size = q + 1
    rw [ByteArray.size_append]
    obtain ⟨h3, h4⟩ := inT_appR (a := repI q) (b := (⟨#[105]⟩ : ByteArray)) (j := (⟨#[105]⟩ : ByteArray).size)
    rw [h3, h4, h1, h2]
    exact ⟨rfl, rfl⟩
def ltI (c : UInt8) (q : Nat) : ByteArray := (⟨#[c]⟩ : ByteArray) ++ repI q
theorem ltI_size {c : UInt8} {q : Nat} : (ltI c q).size = 1 + q := by unfold ltI; rw [ByteArray.size_append, repI_size]; rfl
theorem ltI_pc {c : UInt8} {q : Nat} (h : pcB c.toNat = true) : pcT (ltI c q) := pcT_app (fun i hi => by
  have : i = 0 := by have e : (⟨#[c]⟩ : ByteArray).size = 1 := rfl; omega
  subst this; exact h) (repI_pc q)
theorem ltI_io {c : UInt8} {q : Nat} : inT (ltI c q) (ltI c q).size = inL c.toNat + q ∧ outT (ltI c q) (ltI c q).size = outL c.toNat + q := by
  obtain ⟨h1, h2⟩ := repI_io q;obtain ⟨h3, h4⟩ := inT_appR (a := (⟨#[c]⟩ : ByteArray)) (b := repI q) (j := (repI q).size)
  unfold ltI
  rw [ByteArray.size_append, h3, h4, h1, h2];refine ⟨?_, ?_⟩
  · show 0 + inL (byt (⟨#[c]⟩ : ByteArray) 0) + q = _
    rw [Nat.zero_add]; rfl
  · show 0 + outL (byt (⟨#[c]⟩ : ByteArray) 0) + q = _
    rw [Nat.zero_add]; rfl
theorem ltI_0 {c : UInt8} : ltI c 0 = ⟨#[c]⟩ := app_emp
def n1P (a : Nat) : Nat := if a = 0 then 1 else a - 1
def n3P (b : Nat) : Nat := if b = 0 then 1 else b - 1
def lcP (g a b j : Nat) : UInt8 := if j < n1P a then (if a = 0 then 117 else 109) else if j < n1P a + 2 * g then (if (j - n1P a) % 2 = 0 then 115 else 109) else if b = 0 then 101 else if b = 1 then 105 else 115
def lqP (g a b j : Nat) : Nat := if j < n1P a then (if a = 0 then 0 else a - j - 2) else if j < n1P a + 2 * g then 0 else if b ≤ 1 then 0 else j - n1P a - 2 * g
def TP (g a b j : Nat) : ByteArray := ltI (lcP g a b j) (lqP g a b j)
def nP (g a b : Nat) : Nat := if n1P a + 2 * g + n3P b = 0 then 1 else n1P a + 2 * g + n3P b
theorem word_part {g a b : Nat} (hg : g ≤ 20) (ha : a ≤ 6) (hb : b ≤ 6) : WordP (jw (TP g a b) (nP g a b)) := by
  have hio : ∀ j, j < nP g a b → pcB (lcP g a b j).toNat = true ∧ inL (lcP g a b j).toNat + lqP g a b j ≤ 6 ∧ outL (lcP g a b j).toNat + lqP g a b j ≤ 6 ∧ lqP g a b j ≤ 4 := by
    intro j hj
    unfold nP n1P n3P at hj
    unfold lcP lqP n1P
    by_cases a0 : a = 0
    · rw [if_pos a0] at hj ⊢
      by_cases c1 : j < 1
      · rw [if_pos c1, if_pos a0, if_pos c1, if_pos a0]; decide
      · rw [if_neg c1, if_neg c1]
        by_cases c2 : j < 1 + 2 * g
        · rw [if_pos c2, if_pos c2]; split <;> decide
        · rw [if_neg c2, if_neg c2]
          by_cases b0 : b = 0
          · rw [if_pos b0, if_pos (by omega)]; decide
          · rw [if_neg b0]
            rw [if_neg b0] at hj
            by_cases b1 : b = 1
            · rw [if_pos b1, if_pos (by omega)]; decide
            · rw [if_neg b1, if_neg (by omega)]
              have e1 : inL (115 : UInt8).toNat = 1 := by decide
              have e2 : outL (115 : UInt8).toNat = 2 := by decide
              refine ⟨by decide, ?_, ?_, ?_⟩
              all_goals (split at hj <;> omega)
    · rw [if_neg a0] at hj ⊢
      by_cases c1 : j < a - 1
      · rw [if_pos c1, if_neg a0, if_pos c1, if_neg a0]
        have e1 : inL (109 : UInt8).toNat = 2 := by decide
        have e2 : outL (109 : UInt8).toNat = 1 := by decide
        exact ⟨by decide, by omega, by omega, by omega⟩
      · rw [if_neg c1, if_neg c1]
        by_cases c2 : j < a - 1 + 2 * g
        · rw [if_pos c2, if_pos c2]; split <;> decide
        · rw [if_neg c2, if_neg c2]
          by_cases b0 : b = 0
          · rw [if_pos b0, if_pos (by omega)]; decide
          · rw [if_neg b0]
            rw [if_neg b0] at hj
            by_cases b1 : b = 1
            · rw [if_pos b1, if_pos (by omega)]; decide
            · rw [if_neg b1, if_neg (by omega)]
              have e1 : inL (115 : UInt8).toNat = 1 := by decide
              have e2 : outL (115 : UInt8).toNat = 2 := by decide
              refine ⟨by decide, ?_, ?_, ?_⟩
              all_goals (split at hj <;> omega)
  have hk : 0 < nP g a b := by unfold nP; split <;> omega
  have hk2 : nP g a b ≤ 50 := by unfold nP n1P n3P; split <;> split <;> split <;> omega
  have hsz : (jw (TP g a b) (nP g a b)).size ≤ nP g a b * 6 := by
    rw [jw_congr (G := fun j => if j < nP g a b then TP g a b j else ⟨#[]⟩) (fun i hi => (if_pos hi).symm)];refine jw_size (N := 5) (fun i => ?_) _
    show (if i < nP g a b then TP g a b i else ⟨#[]⟩).size ≤ 5
    split
    · have := (hio i (by assumption)).2.2.2
      unfold TP; rw [ltI_size]; omega
    · exact Nat.zero_le _
  refine word_jw hk (by omega) (fun i hi => ltI_pc (hio i hi).1) (fun i hi => ?_) (fun i hi => ?_)
  · obtain ⟨h1, h2, h3, h4⟩ := hio i hi
    obtain ⟨h5, h6⟩ := ltI_io (c := lcP g a b i) (q := lqP g a b i)
    unfold lyT TP
    rw [h5, h6, ltI_size];exact ⟨by omega, h2, h3⟩
  · show outT (ltI (lcP g a b i) (lqP g a b i)) (ltI (lcP g a b i) (lqP g a b i)).size = inT (ltI (lcP g a b (i + 1)) (lqP g a b (i + 1))) (ltI (lcP g a b (i + 1)) (lqP g a b (i + 1))).size
    rw [ltI_io.2, ltI_io.1];have u1 : outL (117 : UInt8).toNat = 1 := by decide
    have m1 : outL (109 : UInt8).toNat = 1 := by decide
    have m2 : inL (109 : UInt8).toNat = 2 := by decide
    have s1 : outL (115 : UInt8).toNat = 2 := by decide
    have s2 : inL (115 : UInt8).toNat = 1 := by decide
    have e2 : inL (101 : UInt8).toNat = 1 := by decide
    unfold nP n3P n1P at hi
    unfold lcP lqP n1P
    repeat' split
    all_goals first | omega | (split at hi <;> omega) | (exfalso; repeat' split at hi) <;> omega
end

end Go.Proofs.Ytbmgeapfninlkaa
