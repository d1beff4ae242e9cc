/- What functions of the program return, as walks over their operations; no statement of the seat is proved here. -/
import Derived.Test.YtcheokblafncbaaJ1
set_option linter.unusedVariables false
set_option linter.unusedSimpArgs false
namespace Go.Proofs.Ytcheokblafncbaa
open Go Go.RowKit Go.Sw Go.Ech
open Classical
theorem ty_ze_27 : zeroP Try.prog 27 = some (.agg (grpC 0 (fun _ _ => 0))) := by kernel_rfl
theorem ty_fo_25_0 : fieldOff Try.prog 25 0 = some 0 := by kernel_rfl
theorem ty_fo_25_1 : fieldOff Try.prog 25 1 = some 1 := by kernel_rfl
theorem ty_sz_27 : sizeP Try.prog 27 = some 37 := by kernel_rfl
theorem ty_ag_25 : aggP Try.prog 25 = some 37 := by kernel_rfl
theorem IsGroupI_out (n : Int) (M : Nat → Nat → Nat) (w : World) (ho : n < 1 ∨ 6 < n) :
    CallsR Try.prog 12 #[.agg (grpC n M)] w (fun res _ => res = .bool false) := by
  refine calls_fr [.agg (grpC n M)] Try.func12 rfl Try.ntmps12 rfl fun a hF => ?_;have hM : Mem w w [none] [] := MemX.start w 1;change Fr 26 a [(0, .agg (grpC n M))] at hF;refine sr <| stR hF (d_box 0 hM hF rfl) rfl ?_;rintro _ w' a ⟨b1, rfl, hM, -⟩ hF;change Mem w w' [some (b1, grpC n M)] [] at hM;refine ag hF rfl rfl fun a hF => nt <| sq <| sr <| st hF (g_fieldAddr ty_fo_27_0 hF rfl) rfl fun a hF => st hF (g_load ty_on_2 hF rfl (hM.row 0 rfl) (grpC_n (by omega))) rfl fun a hF => st hF (g_lss hF rfl rfl) rfl fun a hF => mv hF rfl rfl fun a hF => ?_
  by_cases g2 : (n : Int) < 1
  · first | rw [decide_eq_true g2] at hF | simp only [decide_eq_true g2] at hF
    refine stS hF rfl rfl rfl rfl rfl fun a hF => stS hF rfl rfl rfl rfl rfl fun a hF => stS hF rfl rfl rfl rfl rfl fun a hF => st hF (g_pickT hF rfl rfl) rfl fun a hF => mv hF rfl rfl fun a hF => stS hF rfl rfl rfl rfl rfl fun a hF => stS hF rfl rfl rfl rfl rfl fun a hF => stS hF rfl rfl rfl rfl rfl fun a hF => st hF (g_pickT hF rfl rfl) rfl fun a hF => nt <| c_T hF rfl <| sr <| ag hF rfl rfl fun a hF => nt <| wp_ret <| tR <| fin1 rfl hF.defers (res_tmp hF rfl) ⟨_, rfl, hM.below, ?_⟩
    show _ = _
    rfl
  first | rw [decide_eq_false g2] at hF | simp only [decide_eq_false g2] at hF
  refine stY hF rfl rfl rfl (g_fieldAddr ty_fo_27_0 hF rfl) rfl fun a hF => stY hF rfl rfl rfl (g_load ty_on_2 hF rfl (hM.row 0 rfl) (grpC_n (by omega))) rfl fun a hF => stY hF rfl rfl rfl (g_gtr hF rfl rfl) rfl fun a hF => st hF (g_pickF hF rfl rfl) rfl fun a hF => mv hF rfl rfl fun a hF => ?_
  by_cases g4 : 6 < (n : Int)
  · first | rw [decide_eq_true g4] at hF | simp only [decide_eq_true g4] at hF
    refine stS hF rfl rfl rfl rfl rfl fun a hF => stS hF rfl rfl rfl rfl rfl fun a hF => stS hF rfl rfl rfl rfl rfl fun a hF => st hF (g_pickT hF rfl rfl) rfl fun a hF => nt <| c_T hF rfl <| sr <| ag hF rfl rfl fun a hF => nt <| wp_ret <| tR <| fin1 rfl hF.defers (res_tmp hF rfl) ⟨_, rfl, hM.below, ?_⟩
    show _ = _
    rfl
  first | rw [decide_eq_false g4] at hF | simp only [decide_eq_false g4] at hF
  exfalso; omega
theorem l06Is_out (n : Int) (M : Nat → Nat → Nat) (w : World) (ho : n < 1 ∨ 6 < n) :
    CallsR Try.prog 34 #[.agg (grpC n M)] w (fun res _ => res = .bool false) := by
  refine calls_fr [.agg (grpC n M)] Try.func34 rfl Try.ntmps34 rfl fun a hF => ?_;have hM : Mem w w [none] [] := MemX.start w 1;change Fr 126 a [(0, .agg (grpC n M))] at hF;refine sr <| stR hF (d_box 0 hM hF rfl) rfl ?_;rintro _ w' a ⟨b1, rfl, hM, -⟩ hF;change Mem w w' [some (b1, grpC n M)] [] at hM;refine ag hF rfl rfl fun a hF => ns <| st hF (g_fieldAddr ty_fo_27_0 hF rfl) rfl fun a hF => st hF (g_load ty_on_2 hF rfl (hM.row 0 rfl) (grpC_n (by omega))) rfl fun a hF => ag hF rfl rfl fun a hF => nt <| sq <| sr <| mv hF rfl rfl fun a hF => stR hF (d_call Try.call41 hF (.cons rfl (.cons rfl (.cons rfl .nil))) (l01In_ok (n) (1) (6) _)) rfl ?_;rintro _ w' a ⟨hx, rfl⟩ hF;have hM := hM.ext hx;refine st hF (g_notP hF rfl) rfl fun a hF => nt <| c_cond hF rfl (fun h2 => ?_) (fun h2 => ?_)
  · refine sq ?_
    refine wp_region_lit <| ag hF rfl rfl fun a hF => nt <| wp_ret <| tR <| fin1 rfl hF.defers (res_tmp hF rfl) ⟨_, rfl, hM.below, ?_⟩
    show _ = _
    rfl
  exfalso; omega
theorem isG_I (n : Int) (M : Nat → Nat → Nat) (w : World) (hB : ∀ i j, M i j ≤ 255) : CallsR Try.prog 12 #[.agg (grpC n M)] w (fun res _ => res = .bool (decide (GrpP n M))) := by
  by_cases ho : n < 1 ∨ 6 < n
  · exact CallsR.val (IsGroupI_out n M w ho) (congrArg Value.bool (decide_eq_false (fun h => by have := h.1; have := h.2.1; omega)).symm)
  · have e : (n.toNat : Int) = n := by omega
    have h := IsGroupI_ok n.toNat M w (by omega) (by omega) hB;rw [e] at h;exact CallsR.val h (congrArg Value.bool (decide_eq_decide.2 ⟨fun q => ⟨by omega, by omega, q⟩, fun q => q.2.2⟩))
theorem isG_S (n : Int) (M : Nat → Nat → Nat) (w : World) (hB : ∀ i j, M i j ≤ 255) : CallsR Try.prog 34 #[.agg (grpC n M)] w (fun res _ => res = .bool (decide (GrpP n M))) := by
  by_cases ho : n < 1 ∨ 6 < n
  · exact CallsR.val (l06Is_out n M w ho) (congrArg Value.bool (decide_eq_false (fun h => by have := h.1; have := h.2.1; omega)).symm)
  · have e : (n.toNat : Int) = n := by omega
    have h := l06Is_ok n.toNat M w (by omega) (by omega) hB;rw [e] at h;exact CallsR.val h (congrArg Value.bool (decide_eq_decide.2 ⟨fun q => ⟨by omega, by omega, q⟩, fun q => q.2.2⟩))
theorem GrpP.mk {n : Nat} {M : Nat → Nat → Nat} (hn0 : 0 < n) (hn : n ≤ 6) (hG : TabP n M) : GrpP (n : Int) M := ⟨by omega, by omega, hG⟩
theorem TabP.lt {n : Nat} {M : Nat → Nat → Nat} (h : TabP n M) {i j : Nat} (hi : i < 6) (hj : j < 6) : M i j < n := (h.1 i hi j hj).1
theorem TabP.out {n : Nat} {M : Nat → Nat → Nat} (h : TabP n M) {i j : Nat} (hi : i < 6) (hj : j < 6) (ho : n ≤ i ∨ n ≤ j) : M i j = 0 := (h.1 i hi j hj).2 (by omega)

theorem toGroup_ok (n : Int) (M : Nat → Nat → Nat) (w : World)  :
    CallsR Try.prog 11 #[.agg (grpC n M)] w (fun res _ => res = .agg (grpC n M)) := by
  refine calls_fr [.agg (grpC n M)] Try.func11 rfl Try.ntmps11 rfl fun a hF => ?_;have hM : Mem w w [none, none, none] [] := MemX.start w 3;change Fr 12 a [(0, .agg (grpC n M))] at hF;refine sr <| stR hF (d_box 0 hM hF rfl) rfl ?_;rintro _ w' a ⟨b1, rfl, hM, -⟩ hF;refine stR hF (d_alloc 1 hM ty_ze_27) rfl ?_;rintro _ w' a ⟨b2, rfl, hM, -⟩ hF;refine ns <| stR hF (d_alloc 2 hM ty_ze_27) rfl ?_;rintro _ w' a ⟨b3, rfl, hM, -⟩ hF;change Mem w w' [some (b1, grpC n M), some (b2, grpC 0 (fun _ _ => 0)), some (b3, grpC 0 (fun _ _ => 0))] [] at hM;refine ns <| st hF (g_fieldAddr ty_fo_25_0 hF rfl) rfl fun a hF => st hF (g_load ty_on_2 hF rfl (hM.row 0 rfl) (grpC_n (by omega))) rfl fun a hF => st hF (g_fieldAddr ty_fo_27_0 hF rfl) rfl fun a hF => stN hF (d_store 2 hM rfl ty_on_2 hF rfl rfl rfl (by first | omega | (simp only [sz0, grpC_size] <;> omega) | simp)) ?_;intro _ w' a hM hF;rw [grpC_setn (by omega)] at hM;change Mem w w' [some (b1, grpC n M), some (b2, grpC 0 (fun _ _ => 0)), some (b3, grpC n (fun _ _ => 0))] [] at hM;refine ns <| st hF (g_fieldAddr ty_fo_25_1 hF rfl) rfl fun a hF => st hF (g_loadAgg ty_ag_23 hF rfl (hM.row 0 rfl) (by simp only [sz0, grpC_size] <;> omega) (grpC_tab (by omega) (by omega))) rfl fun a hF => stR hF (d_call Try.call35 hF (.cons rfl .nil) (toByteA6A6_ok M _)) rfl ?_;rintro _ w' a ⟨hx, rfl⟩ hF;have hM := hM.ext hx;refine st hF (g_fieldAddr ty_fo_27_1 hF rfl) rfl fun a hF => stN hF (d_storeAgg 2 hM rfl ty_sz_23 hF rfl rfl (by first | exact vecC_one | exact cells_one | (refine fnC_one fun _ _ => ?_; first | rfl | (split <;> rfl))) (by simp only [sz0, grpC_size]) (by simp only [sz0, grpC_size] <;> omega) (grpC_putT (by omega))) ?_;intro _ w' a hM hF;change Mem w w' [some (b1, grpC n M), some (b2, grpC 0 (fun _ _ => 0)), some (b3, grpC n M)] [] at hM;refine ns <| st hF (g_loadAgg ty_ag_27 hF rfl (hM.row 2 rfl) (by simp only [sz0, grpC_size] <;> omega) (whole (by simp only [sz0, grpC_size]))) rfl fun a hF => stN hF (d_storeAgg 1 hM rfl ty_sz_27 hF rfl rfl (grpC_one) (by simp only [sz0, grpC_size]) (by simp only [sz0, grpC_size] <;> omega) (splice_whole _ _ (by simp only [sz0, grpC_size]))) ?_;intro _ w' a hM hF;change Mem w w' [some (b1, grpC n M), some (b2, grpC n M), some (b3, grpC n M)] [] at hM;refine nt <| wp_ret <| fin1 rfl hF.defers (res_agg ty_ag_27 hF rfl (hM.row 1 rfl) (by simp only [sz0, grpC_size])) ⟨_, rfl, hM.below, ?_⟩
  show _ = _
  rfl
def cmF (M : Nat → Nat → Nat) (i j : Nat) : Nat := if M i j = M j i then 1 else 0
def cpI (M : Nat → Nat → Nat) (n i j : Nat) : Nat := sumTo (fun a => sumTo (fun b => cmF M a b) n) i + sumTo (fun b => cmF M i b) j
end Go.Proofs.Ytcheokblafncbaa
