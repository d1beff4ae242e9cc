/- What functions of the program return, as walks over their operations; no statement of the seat is proved here. -/
import Derived.Test.YtnaabnhjokibfaaW4
set_option linter.unusedVariables false
set_option linter.unusedSimpArgs false
namespace Go.Proofs.Ytnaabnhjokibfaa
open Go Go.RowKit Go.Sw
open Classical
theorem inT_ext {s : ByteArray} {a b : Nat} (hb : b ≤ s.size) (ha : a = sta s 47 b) : ∀ j, j ≤ b - a → inT (s.extract a b) j = inR s (a + j) ∧ outT (s.extract a b) j = outR s (a + j)
  | 0, _ => by subst ha; exact ⟨(inR_sta b).symm, (outR_sta b).symm⟩
  | j + 1, h => by
    obtain ⟨h1, h2⟩ := inT_ext hb ha j (by omega)
    have hle := sta_le (s := s) (c := 47) b
    have hne : ¬ byt s (a + j) = 47 := sta_ne (j := b) (by omega) (by omega)
    refine ⟨?_, ?_⟩
    · rw [inT, h1, byt_ext hb (by omega), show a + (j + 1) = a + j + 1 by omega, inR_no hne]
    · rw [outT, h2, byt_ext hb (by omega), show a + (j + 1) = a + j + 1 by omega, outR_no hne]
section
variable {s : ByteArray}
theorem seg_size {k : Nat} (h : k < nSg s 47) : (seg s 47 k).size = sgB s 47 k - sta s 47 (sgB s 47 k) := by
  unfold seg; rw [ext_size (sgB_le h), sgA_sta h]
theorem seg_in {k : Nat} (h : k < nSg s 47) : inT (seg s 47 k) (seg s 47 k).size = inR s (sgB s 47 k) ∧ outT (seg s 47 k) (seg s 47 k).size = outR s (sgB s 47 k) := by
  rw [seg_size h]
  have := inT_ext (s := s) (sgB_le h) rfl (sgB s 47 k - sta s 47 (sgB s 47 k)) (Nat.le_refl _)
  have hle := sta_le (s := s) (c := 47) (sgB s 47 k)
  rw [show sta s 47 (sgB s 47 k) + (sgB s 47 k - sta s 47 (sgB s 47 k)) = sgB s 47 k by omega] at this
  unfold seg
  rw [sgA_sta h]
  exact this
theorem seg_pc {k : Nat} (h : k < nSg s 47) : pcT (seg s 47 k) ↔ ∀ i, sta s 47 (sgB s 47 k) ≤ i → i < sgB s 47 k → pcB (byt s i) = true := by
  unfold pcT
  rw [seg_size h]
  have e : ∀ j, j < sgB s 47 k - sta s 47 (sgB s 47 k) → byt (seg s 47 k) j = byt s (sta s 47 (sgB s 47 k) + j) := fun j hj => by
    unfold seg; rw [sgA_sta h]; exact byt_ext (sgB_le h) hj
  constructor
  · intro hp i h1 h2
    have := hp (i - sta s 47 (sgB s 47 k)) (by omega)
    rwa [e _ (by omega), show sta s 47 (sgB s 47 k) + (i - sta s 47 (sgB s 47 k)) = i by omega] at this
  · intro hp j hj
    rw [e j hj]; exact hp _ (by omega) (by omega)
/-- Each byte is the cut or in a part. -/
theorem byte_in {i : Nat} (hi : i < s.size) (h : ¬ byt s i = 47) : cnt s 47 i < nSg s 47 ∧ sta s 47 (sgB s 47 (cnt s 47 i)) ≤ i ∧ i < sgB s 47 (cnt s 47 i) := by
  have hk : cnt s 47 i < nSg s 47 := by unfold nSg; have := cnt_mono (s := s) (c := 47) (i := i) (j := s.size) (by omega); omega
  have h1 := sgB_spec hk
  have hlt : i < sgB s 47 (cnt s 47 i) := by
    refine Decidable.byContradiction fun hno => ?_
    rcases h1.1 with e | ⟨e, hb⟩
    · omega
    · have hm := cnt_mono (s := s) (c := 47) (show sgB s 47 (cnt s 47 i) + 1 ≤ i from by
        by_cases e2 : sgB s 47 (cnt s 47 i) = i
        · rw [e2] at hb; exact absurd hb h
        · omega)
      rw [cnt_yes hb, h1.2] at hm
      omega
  refine ⟨hk, ?_, hlt⟩
  rw [← sgA_sta hk, sgA_cnt (by omega)]
  exact sta_le i
/-- A word's layers, as the model looks at them. -/
def lyOk (s : ByteArray) (k : Nat) : Prop := pcT (seg s 47 k) ∧ lyT (seg s 47 k) ∧ (0 < k → inR s (sgB s 47 k) = outR s (sgB s 47 (k - 1)))
theorem lyOk_lay {k : Nat} (h : k < nSg s 47) : lyT (seg s 47 k) ∧ (0 < k → inR s (sgB s 47 k) = outR s (sgB s 47 (k - 1))) ↔ layP s (sgB s 47 k) := by
  obtain ⟨h1, h2⟩ := seg_in h
  have h3 := seg_size h
  have h4 := (sgB_spec h).2
  have h5 := cnt_pos (sgB_le h)
  rw [h4] at h5
  unfold lyT layP
  rw [h1, h2, h3, ← h5]
  have hle := sta_le (s := s) (c := 47) (sgB s 47 k)
  constructor
  · rintro ⟨⟨q1, q2, q3⟩, q4⟩
    exact ⟨by omega, q2, q3, fun q => by rw [q4 q]; have := prev_out (sgB_le h) (by rw [h4]; exact q); rw [h4] at this; rw [this]⟩
  · rintro ⟨q1, q2, q3, q4⟩
    exact ⟨⟨by omega, q2, q3⟩, fun q => by rw [q4 q]; have := prev_out (sgB_le h) (by rw [h4]; exact q); rw [h4] at this; rw [this]⟩
theorem word_ok (hW : WordP s) {k : Nat} (h : k < nSg s 47) : lyOk s k := by
  obtain ⟨h1, h2⟩ := (lyOk_lay h).2 (word_at hW h)
  refine ⟨(seg_pc h).2 fun i ha hb => ?_, h1, h2⟩
  have hn := sgB_le h
  rcases hW.2.1 i (by omega) with e | e
  · exact absurd e (sta_ne ha hb)
  · exact e
theorem ok_word (h3 : s.size ≤ 300) (h : ∀ k, k < nSg s 47 → lyOk s k) : WordP s :=
  word_of h3 (fun i hi => by
    by_cases e : byt s i = 47
    · exact .inl e
    · obtain ⟨h1, h2, h4⟩ := byte_in hi e
      exact .inr ((seg_pc h1).1 (h _ h1).1 i h2 h4)) fun k hk => (lyOk_lay hk).1 ⟨(h k hk).2.1, (h k hk).2.2⟩
end

end Go.Proofs.Ytnaabnhjokibfaa
