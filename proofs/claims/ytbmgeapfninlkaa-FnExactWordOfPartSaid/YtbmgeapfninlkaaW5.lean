/- What functions of the program return, as walks over their operations; no statement of the seat is proved here. -/
import Derived.Test.YtbmgeapfninlkaaW2
set_option linter.unusedVariables false
set_option linter.unusedSimpArgs false
namespace Go.Proofs.Ytbmgeapfninlkaa
open Go Go.RowKit Go.Sw
open Classical
theorem IsWordI_E  (w : World)  :
    CallsR Try.prog 27 #[.string (⟨#[]⟩)] w (fun res _ => res = .bool true) := by
  refine calls_fr [.string (⟨#[]⟩)] Try.func27 rfl Try.ntmps27 rfl fun a hF => ?_;have hM : Mem w w [] [] := MemX.start w 0;change Fr 11 a [(0, .string (⟨#[]⟩))] at hF;have he0 : (⟨#[]⟩ : ByteArray).size = 0 := rfl;refine sr <| ag hF rfl rfl fun a hF => ns <| mv hF rfl rfl fun a hF => stR hF (d_call Try.call20 hF (.cons rfl .nil) (layersOf_E _)) rfl ?_;rintro _ w' a ⟨hx, rfl⟩ hF;have hM := hM.ext hx;refine mv hF rfl rfl fun a hF => st hF (g_extract hF rfl rfl) rfl fun a hF => st hF (g_extract hF rfl rfl) rfl fun a hF => ag hF rfl rfl fun a hF => ag hF rfl rfl fun a hF => ns <| mv hF rfl rfl fun a hF => ag hF rfl rfl fun a hF => nt <| wp_ret <| fin1 rfl hF.defers (res_tmp hF rfl) ⟨_, rfl, hM.below, ?_⟩
  show _ = _
  rfl
theorem IsWordI_L (s : ByteArray) (w : World) (h0 : 300 < s.size) :
    CallsR Try.prog 27 #[.string (s)] w (fun res _ => res = .bool false) := by
  refine calls_fr [.string (s)] Try.func27 rfl Try.ntmps27 rfl fun a hF => ?_;have hM : Mem w w [] [] := MemX.start w 0;change Fr 11 a [(0, .string (s))] at hF;refine sr <| ag hF rfl rfl fun a hF => ns <| mv hF rfl rfl fun a hF => stR hF (d_call Try.call20 hF (.cons rfl .nil) (layersOf_L s _ h0)) rfl ?_;rintro _ w' a ⟨hx, rfl⟩ hF;have hM := hM.ext hx;refine mv hF rfl rfl fun a hF => st hF (g_extract hF rfl rfl) rfl fun a hF => st hF (g_extract hF rfl rfl) rfl fun a hF => ag hF rfl rfl fun a hF => ag hF rfl rfl fun a hF => ns <| mv hF rfl rfl fun a hF => ag hF rfl rfl fun a hF => nt <| wp_ret <| fin1 rfl hF.defers (res_tmp hF rfl) ⟨_, rfl, hM.below, ?_⟩
  show _ = _
  rfl
theorem IsWordI_N (s : ByteArray) (w : World) (hW : ¬ WordP s) (h0 : 0 < s.size) (h3 : s.size ≤ 300) :
    CallsR Try.prog 27 #[.string (s)] w (fun res _ => res = .bool false) := by
  refine calls_fr [.string (s)] Try.func27 rfl Try.ntmps27 rfl fun a hF => ?_;have hM : Mem w w [] [] := MemX.start w 0;change Fr 11 a [(0, .string (s))] at hF;refine sr <| ag hF rfl rfl fun a hF => ns <| mv hF rfl rfl fun a hF => stR hF (d_call Try.call20 hF (.cons rfl .nil) (layersOf_N s _ hW h0 h3)) rfl ?_;rintro _ w' a ⟨hx, rfl⟩ hF;have hM := hM.ext hx;refine mv hF rfl rfl fun a hF => st hF (g_extract hF rfl rfl) rfl fun a hF => st hF (g_extract hF rfl rfl) rfl fun a hF => ag hF rfl rfl fun a hF => ag hF rfl rfl fun a hF => ns <| mv hF rfl rfl fun a hF => ag hF rfl rfl fun a hF => nt <| wp_ret <| fin1 rfl hF.defers (res_tmp hF rfl) ⟨_, rfl, hM.below, ?_⟩
  show _ = _
  rfl
theorem IsWordI_Y (s : ByteArray) (w : World) (hW : WordP s) (h0 : 0 < s.size) :
    CallsR Try.prog 27 #[.string (s)] w (fun res _ => res = .bool true) := by
  refine calls_fr [.string (s)] Try.func27 rfl Try.ntmps27 rfl fun a hF => ?_;have hM : Mem w w [none] [] := MemX.start w 1;change Fr 11 a [(0, .string (s))] at hF;have h3 := hW.1;have hns : nSg s 47 = cnt s 47 s.size + 1 := rfl;have hcl := cnt_le (s := s) (c := 47) s.size;refine sr <| ag hF rfl rfl fun a hF => ns <| mv hF rfl rfl fun a hF => stR hF (d_call Try.call20 hF (.cons rfl .nil) (layersOf_Y s _ hW h0)) rfl ?_;rintro u w' a ⟨hx, ul, rfl, bW, cW, csW, hs, hgW, hbW⟩ hF;obtain rfl := hs.val;have hM := hM.fill hx 0 hbW hgW;change Mem w w' [some (bW, csW)] [] at hM;refine mv hF rfl rfl fun a hF => st hF (g_extract hF rfl rfl) rfl fun a hF => st hF (g_extract hF rfl rfl) rfl fun a hF => ag hF rfl rfl fun a hF => ag hF rfl rfl fun a hF => ns <| mv hF rfl rfl fun a hF => ag hF rfl rfl fun a hF => nt <| wp_ret <| fin1 rfl hF.defers (res_tmp hF rfl) ⟨_, rfl, hM.below, ?_⟩
  show _ = _
  rfl
def eulS (s : ByteArray) : Nat → Int
  | 0 => 0
  | i + 1 => eulS s i + eulL (byt s i)
end Go.Proofs.Ytbmgeapfninlkaa

namespace Go.Proofs.Ytbmgeapfninlkaa
open Go Go.RowKit Go.Sw
open Classical
theorem ty_bs0_27 : ∀ w, (Instr.buildSlice 27 0 #[]).run Try.prog w = .ok (.slice (some ⟨w.heap.size, 0, none⟩) 0 0) (w.alloc (.cells #[] 9)) := by intros; kernel_rfl
theorem ty_bst_27 : ∀ (t : ByteArray) (w : World), (Instr.buildSlice 27 1 #[(0, .string t)]).run Try.prog w = .ok (.slice (some ⟨w.heap.size, 0, none⟩) 1 1) (w.alloc (.cells #[.string t] 9)) := by intros; kernel_rfl
theorem ty_si_27 : slI Try.prog 27 = some (9, some (.string ByteArray.empty), 1, 16) := by kernel_rfl
def inT (t : ByteArray) : Nat → Nat
  | 0 => 0
  | i + 1 => inT t i + inL (byt t i)
def outT (t : ByteArray) : Nat → Nat
  | 0 => 0
  | i + 1 => outT t i + outL (byt t i)
def pcT (t : ByteArray) : Prop := ∀ i, i < t.size → pcB (byt t i) = true
def lyT (t : ByteArray) : Prop := 0 < t.size ∧ inT t t.size ≤ 6 ∧ outT t t.size ≤ 6
instance (t : ByteArray) : Decidable (lyT t) := by unfold lyT; infer_instance

end Go.Proofs.Ytbmgeapfninlkaa

namespace Go.Proofs.Ytbmgeapfninlkaa
open Go Go.RowKit Go.Sw
open Classical
theorem inT_ext {s : ByteArray} {a b : Nat} (hb : b ≤ s.size) (ha : a = sta s 47 b) : ∀ j, j ≤ b - a → inT (s.extract a b) j = inR s (a + j) ∧ outT (s.extract a b) j = outR s (a + j)
  | 0, _ => by subst ha; exact ⟨(inR_sta b).symm, (outR_sta b).symm⟩
  | j + 1, h => by
    obtain ⟨h1, h2⟩ := inT_ext hb ha j (by omega)
    have hle := sta_le (s := s) (c := 47) b
    have hne : ¬ byt s (a + j) = 47 := sta_ne (j := b) (by omega) (by omega)
    refine ⟨?_, ?_⟩
    · rw [inT, h1, byt_ext hb (by omega), show a + (j + 1) = a + j + 1 by omega, inR_no hne]
    · rw [outT, h2, byt_ext hb (by omega), show a + (j + 1) = a + j + 1 by omega, outR_no hne]
section
variable {s : ByteArray}
theorem seg_size {k : Nat} (h : k < nSg s 47) : (seg s 47 k).size = sgB s 47 k - sta s 47 (sgB s 47 k) := by
  unfold seg; rw [ext_size (sgB_le h), sgA_sta h]
theorem seg_in {k : Nat} (h : k < nSg s 47) : inT (seg s 47 k) (seg s 47 k).size = inR s (sgB s 47 k) ∧ outT (seg s 47 k) (seg s 47 k).size = outR s (sgB s 47 k) := by
  rw [seg_size h];have := inT_ext (s := s) (sgB_le h) rfl (sgB s 47 k - sta s 47 (sgB s 47 k)) (Nat.le_refl _);have hle := sta_le (s := s) (c := 47) (sgB s 47 k);rw [show sta s 47 (sgB s 47 k) + (sgB s 47 k - sta s 47 (sgB s 47 k)) = sgB s 47 k by omega] at this
  unfold seg
  rw [sgA_sta h];exact this
theorem seg_pc {k : Nat} (h : k < nSg s 47) : pcT (seg s 47 k) ↔ ∀ i, sta s 47 (sgB s 47 k) ≤ i → i < sgB s 47 k → pcB (byt s i) = true := by
  unfold pcT
  rw [seg_size h];have e : ∀ j, j < sgB s 47 k - sta s 47 (sgB s 47 k) → byt (seg s 47 k) j = byt s (sta s 47 (sgB s 47 k) + j) := fun j hj => by
    unfold seg; rw [sgA_sta h]; exact byt_ext (sgB_le h) hj
  constructor
  · intro hp i h1 h2
    have := hp (i - sta s 47 (sgB s 47 k)) (by omega)
    rwa [e _ (by omega), show sta s 47 (sgB s 47 k) + (i - sta s 47 (sgB s 47 k)) = i by omega] at this
  · intro hp j hj
    rw [e j hj]; exact hp _ (by omega) (by omega)
theorem byte_in {i : Nat} (hi : i < s.size) (h : ¬ byt s i = 47) : cnt s 47 i < nSg s 47 ∧ sta s 47 (sgB s 47 (cnt s 47 i)) ≤ i ∧ i < sgB s 47 (cnt s 47 i) := by
  have hk : cnt s 47 i < nSg s 47 := by unfold nSg; have := cnt_mono (s := s) (c := 47) (i := i) (j := s.size) (by omega); omega
  have h1 := sgB_spec hk;have hlt : i < sgB s 47 (cnt s 47 i) := by
    refine Decidable.byContradiction fun hno => ?_
    rcases h1.1 with e | ⟨e, hb⟩
    · omega
    · have hm := cnt_mono (s := s) (c := 47) (show sgB s 47 (cnt s 47 i) + 1 ≤ i from by
        by_cases e2 : sgB s 47 (cnt s 47 i) = i
        · rw [e2] at hb; exact absurd hb h
        · omega)
      rw [cnt_yes hb, h1.2] at hm
      omega
  refine ⟨hk, ?_, hlt⟩;rw [← sgA_sta hk, sgA_cnt (by omega)];exact sta_le i
def lyOk (s : ByteArray) (k : Nat) : Prop := pcT (seg s 47 k) ∧ lyT (seg s 47 k) ∧ (0 < k → inR s (sgB s 47 k) = outR s (sgB s 47 (k - 1)))
theorem lyOk_lay {k : Nat} (h : k < nSg s 47) : lyT (seg s 47 k) ∧ (0 < k → inR s (sgB s 47 k) = outR s (sgB s 47 (k - 1))) ↔ layP s (sgB s 47 k) := by
  obtain ⟨h1, h2⟩ := seg_in h;have h3 := seg_size h;have h4 := (sgB_spec h).2;have h5 := cnt_pos (sgB_le h);rw [h4] at h5
  unfold lyT layP
  rw [h1, h2, h3, ← h5];have hle := sta_le (s := s) (c := 47) (sgB s 47 k)
  constructor
  · rintro ⟨⟨q1, q2, q3⟩, q4⟩
    exact ⟨by omega, q2, q3, fun q => by rw [q4 q]; have := prev_out (sgB_le h) (by rw [h4]; exact q); rw [h4] at this; rw [this]⟩
  · rintro ⟨q1, q2, q3, q4⟩
    exact ⟨⟨by omega, q2, q3⟩, fun q => by rw [q4 q]; have := prev_out (sgB_le h) (by rw [h4]; exact q); rw [h4] at this; rw [this]⟩
theorem ok_word (h3 : s.size ≤ 300) (h : ∀ k, k < nSg s 47 → lyOk s k) : WordP s :=
  word_of h3 (fun i hi => by
    by_cases e : byt s i = 47
    · exact .inl e
    · obtain ⟨h1, h2, h4⟩ := byte_in hi e
      exact .inr ((seg_pc h1).1 (h _ h1).1 i h2 h4)) fun k hk => (lyOk_lay hk).1 ⟨(h k hk).2.1, (h k hk).2.2⟩
end

end Go.Proofs.Ytbmgeapfninlkaa
