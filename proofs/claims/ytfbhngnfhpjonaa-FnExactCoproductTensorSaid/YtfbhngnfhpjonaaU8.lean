/- What functions of the program return, as walks over their operations; no statement of the seat is proved here. -/
import Derived.Test.YtfbhngnfhpjonaaTF
import Derived.Test.YtfbhngnfhpjonaaU7
set_option linter.unusedVariables false
set_option linter.unusedSimpArgs false
namespace Go.Proofs.Ytfbhngnfhpjonaa
open Go Go.RowKit Go.Sw Go.Ech
open Classical
theorem ty_ag_26 : aggP Try.prog 26 = some 224 := by kernel_rfl
theorem prF_cp {n N : Nat} {A B : Nat → Nat → Nat → Nat} (hn : 0 < n) (h : ∀ i j k, i < n → j < n → k < n → A i j k = B i j k) (c : Nat) (hN : N = n * n * n := by rfl) : prF n A N c = prF n B N c := by
  subst hN
  unfold prF
  by_cases e : c < n * n * n
  · rw [if_pos e, if_pos e]
    exact h _ _ _ (by rw [Nat.div_div_eq_div_mul]; exact Nat.div_lt_of_lt_mul (by rw [Nat.mul_comm (n * n)] ; rw [Nat.mul_comm n (n * n)]; exact e)) (Nat.mod_lt _ hn) (Nat.mod_lt _ hn)
  · rw [if_neg e, if_neg e]

theorem law_CoproductTensorA (p n : Int) (T : Nat → Nat → Nat → Nat) (f : Nat → Nat) (w : World) (hT : ∀ i j k, T i j k ≤ 255) (hf : ∀ i, f i ≤ 255) (hc : ¬ CodeP p n T f 0 (vAtL [])) :
    CallsR Try.prog 7 #[.agg (algC p n T f)] w (fun res _ => res = .bool true) := by
  refine calls_fr [.agg (algC p n T f)] Try.func7 rfl Try.ntmps7 rfl fun a hF => ?_
  have hM : Mem w w [none, none, none, none] [] := MemX.start w 4
  change Fr 66 a [(0, .agg (algC p n T f))] at hF
  refine sq ?_
  refine wp_region_lit ?_
  refine stR hF (d_box 0 hM hF rfl) rfl ?_
  rintro _ w' a ⟨b1, rfl, hM, -⟩ hF
  change Mem w w' [some (b1, algC p n T f), none, none, none] [] at hM
  refine st hF (g_assign hF rfl) rfl fun a hF => ?_
  refine wpList_nil ?_
  refine tN ?_
  refine sq ?_
  refine wp_region_lit ?_
  refine st hF (g_loadAgg ty_ag_26 hF rfl (hM.row 0 rfl) (by simp only [fnC_size, cells_size, vecC_size, tabC_size, planeC_size, mrk_size, rowI_size, cpC_size, tenC_size, smC_size, numC_size, numI_size] <;> omega) (whole cells_size)) rfl fun a hF => ?_
  refine stR hF (d_call Try.call9 hF (.cons rfl .nil) (toAlgebra_ok p n T f _)) rfl ?_
  rintro _ w' a ⟨hx, rfl⟩ hF
  have hM := hM.ext hx
  refine stR hF (d_call Try.call22 hF (.cons rfl .nil) (CoproductTensorSA p n T f _ hT hf hc)) rfl ?_
  rintro _ w' a ⟨hx, rfl⟩ hF
  have hM := hM.ext hx
  refine st hF (g_move hF rfl) rfl fun a hF => st hF (g_extract hF rfl rfl) rfl fun a hF => st hF (g_extract hF rfl rfl) rfl fun a hF => ?_
  refine stR hF (d_alloc 1 hM ty_ze_47) rfl ?_
  rintro _ w' a ⟨b2, rfl, hM, -⟩ hF
  change Mem w w' [some (b1, algC p n T f), some (b2, tenC 0 0 0 0 (.slice none 0 0)), none, none] [] at hM
  refine stN hF (d_storeAgg 1 hM rfl ty_sz_47 hF rfl rfl (tenC_one rfl) (by simp only [fnC_size, cells_size, vecC_size, tabC_size, planeC_size, mrk_size, rowI_size, cpC_size, tenC_size, smC_size, numC_size, numI_size]) (by simp only [fnC_size, cells_size, vecC_size, tabC_size, planeC_size, mrk_size, rowI_size, cpC_size, tenC_size, smC_size, numC_size, numI_size] <;> omega) (splice_whole _ _ rfl)) ?_
  intro _ w' a hM hF
  change Mem w w' [some (b1, algC p n T f), some (b2, tenC 0 0 0 0 (.slice none 0 0)), none, none] [] at hM
  refine st hF (g_assign hF rfl) rfl fun a hF => ?_
  refine wpList_nil ?_
  refine tN ?_
  refine sq ?_
  refine wp_region_lit ?_
  refine st hF (g_loadAgg ty_ag_26 hF rfl (hM.row 0 rfl) (by simp only [fnC_size, cells_size, vecC_size, tabC_size, planeC_size, mrk_size, rowI_size, cpC_size, tenC_size, smC_size, numC_size, numI_size] <;> omega) (whole cells_size)) rfl fun a hF => ?_
  refine stR hF (d_call Try.call9 hF (.cons rfl .nil) (toAlgebra_ok p n T f _)) rfl ?_
  rintro _ w' a ⟨hx, rfl⟩ hF
  have hM := hM.ext hx
  refine stR hF (d_call Try.call23 hF (.cons rfl .nil) (CoproductTensorIA p n T f _ hT hf hc)) rfl ?_
  rintro _ w' a ⟨hx, rfl⟩ hF
  have hM := hM.ext hx
  refine st hF (g_move hF rfl) rfl fun a hF => st hF (g_extract hF rfl rfl) rfl fun a hF => st hF (g_extract hF rfl rfl) rfl fun a hF => ?_
  refine stR hF (d_alloc 2 hM ty_ze_47) rfl ?_
  rintro _ w' a ⟨b3, rfl, hM, -⟩ hF
  change Mem w w' [some (b1, algC p n T f), some (b2, tenC 0 0 0 0 (.slice none 0 0)), some (b3, tenC 0 0 0 0 (.slice none 0 0)), none] [] at hM
  refine stN hF (d_storeAgg 2 hM rfl ty_sz_47 hF rfl rfl (tenC_one rfl) (by simp only [fnC_size, cells_size, vecC_size, tabC_size, planeC_size, mrk_size, rowI_size, cpC_size, tenC_size, smC_size, numC_size, numI_size]) (by simp only [fnC_size, cells_size, vecC_size, tabC_size, planeC_size, mrk_size, rowI_size, cpC_size, tenC_size, smC_size, numC_size, numI_size] <;> omega) (splice_whole _ _ rfl)) ?_
  intro _ w' a hM hF
  change Mem w w' [some (b1, algC p n T f), some (b2, tenC 0 0 0 0 (.slice none 0 0)), some (b3, tenC 0 0 0 0 (.slice none 0 0)), none] [] at hM
  refine st hF (g_assign hF rfl) rfl fun a hF => ?_
  refine wpList_nil ?_
  refine tN ?_
  refine sq ?_
  refine sq ?_
  refine wp_region_lit ?_
  refine st hF (g_loadAgg ty_ag_47 hF rfl (hM.row 2 rfl) (by simp only [fnC_size, cells_size, vecC_size, tabC_size, planeC_size, mrk_size, rowI_size, cpC_size, tenC_size, smC_size, numC_size, numI_size] <;> omega) (whole rfl)) rfl fun a hF => st hF (g_loadAgg ty_ag_47 hF rfl (hM.row 1 rfl) (by simp only [fnC_size, cells_size, vecC_size, tabC_size, planeC_size, mrk_size, rowI_size, cpC_size, tenC_size, smC_size, numC_size, numI_size] <;> omega) (whole rfl)) rfl fun a hF => ?_
  refine stR hF (d_call Try.call24 hF (.cons rfl (.cons rfl .nil)) (eqTensor_0 _)) rfl ?_
  rintro _ w' a ⟨hx, rfl⟩ hF
  have hM := hM.ext hx
  refine st hF (g_not hF rfl) rfl fun a hF => st hF (g_move hF rfl) rfl fun a hF => stY hF rfl rfl rfl (g_move hF rfl) rfl fun a hF => stY hF rfl rfl rfl (g_move hF rfl) rfl fun a hF => stY hF rfl rfl rfl (g_neq hF rfl rfl) rfl fun a hF => st hF (g_pickF hF rfl rfl) rfl fun a hF => ?_
  refine wpList_nil ?_
  refine tN ?_
  refine c_kF hF rfl (by decide) ?_
  refine wp_skip ?_
  refine tN ?_
  refine sq ?_
  refine wp_region_lit ?_
  refine st hF (g_assign hF rfl) rfl fun a hF => ?_
  refine wpList_nil ?_
  refine tN ?_
  refine sq ?_
  refine wp_region_lit ?_
  refine st hF (g_loadAgg ty_ag_47 hF rfl (hM.row 2 rfl) (by simp only [fnC_size, cells_size, vecC_size, tabC_size, planeC_size, mrk_size, rowI_size, cpC_size, tenC_size, smC_size, numC_size, numI_size] <;> omega) (whole rfl)) rfl fun a hF => st hF (g_move hF rfl) rfl fun a hF => ?_
  refine stR hF (d_call Try.call25 hF (.cons rfl (.cons rfl .nil)) (markTensor_0 (1) _ (by omega))) rfl ?_
  rintro _ w' a ⟨hx, rfl⟩ hF
  have hM := hM.ext hx
  refine st hF (g_assign hF rfl) rfl fun a hF => ?_
  refine wpList_nil ?_
  refine tN ?_
  refine sq ?_
  refine wp_region_lit ?_
  refine st hF (g_assign hF rfl) rfl fun a hF => ?_
  refine wpList_nil ?_
  refine tN ?_
  refine sq ?_
  refine wp_region_lit ?_
  refine st hF (g_loadAgg ty_ag_47 hF rfl (hM.row 2 rfl) (by simp only [fnC_size, cells_size, vecC_size, tabC_size, planeC_size, mrk_size, rowI_size, cpC_size, tenC_size, smC_size, numC_size, numI_size] <;> omega) (whole rfl)) rfl fun a hF => st hF (g_move hF rfl) rfl fun a hF => ?_
  refine stR hF (d_call Try.call26 hF (.cons rfl (.cons rfl .nil)) (heldTensor_0 (1) _ (by omega))) rfl ?_
  rintro _ w' a ⟨hx, rfl⟩ hF
  have hM := hM.ext hx
  refine st hF (g_assign hF rfl) rfl fun a hF => ?_
  refine wpList_nil ?_
  refine tN ?_
  refine sq ?_
  refine sq ?_
  refine wp_region_lit ?_
  refine st hF (g_move hF rfl) rfl fun a hF => st hF (g_lss hF rfl rfl) rfl fun a hF => ?_
  refine wpList_nil ?_
  refine tN ?_
  refine c_cond hF rfl (fun h5 => ?_) (fun h5 => ?_)
  ·
    first | exact absurd rfl h5 | (exfalso; omega)
  ·
    refine wp_skip ?_
    refine tN ?_
    refine sq ?_
    refine sq ?_
    refine wp_region_lit ?_
    refine st hF (g_move hF rfl) rfl fun a hF => st hF (g_move hF rfl) rfl fun a hF => st hF (g_neq hF rfl rfl) rfl fun a hF => ?_
    refine wpList_nil ?_
    refine tN ?_
    refine c_kF hF rfl (by decide) ?_
    refine wp_skip ?_
    refine tN ?_
    refine sq ?_
    refine wp_region_lit ?_
    refine st hF (g_loadAgg ty_ag_26 hF rfl (hM.row 0 rfl) (by simp only [fnC_size, cells_size, vecC_size, tabC_size, planeC_size, mrk_size, rowI_size, cpC_size, tenC_size, smC_size, numC_size, numI_size] <;> omega) (whole cells_size)) rfl fun a hF => ?_
    refine stR hF (d_call Try.call9 hF (.cons rfl .nil) (toAlgebra_ok p n T f _)) rfl ?_
    rintro _ w' a ⟨hx, rfl⟩ hF
    have hM := hM.ext hx
    refine stR hF (d_call Try.call23 hF (.cons rfl .nil) (CoproductTensorIA p n T f _ hT hf hc)) rfl ?_
    rintro _ w' a ⟨hx, rfl⟩ hF
    have hM := hM.ext hx
    refine st hF (g_move hF rfl) rfl fun a hF => st hF (g_extract hF rfl rfl) rfl fun a hF => st hF (g_extract hF rfl rfl) rfl fun a hF => ?_
    refine stR hF (d_alloc 3 hM ty_ze_47) rfl ?_
    rintro _ w' a ⟨b7, rfl, hM, -⟩ hF
    change Mem w w' [some (b1, algC p n T f), some (b2, tenC 0 0 0 0 (.slice none 0 0)), some (b3, tenC 0 0 0 0 (.slice none 0 0)), some (b7, tenC 0 0 0 0 (.slice none 0 0))] [] at hM
    refine stN hF (d_storeAgg 3 hM rfl ty_sz_47 hF rfl rfl (tenC_one rfl) (by simp only [fnC_size, cells_size, vecC_size, tabC_size, planeC_size, mrk_size, rowI_size, cpC_size, tenC_size, smC_size, numC_size, numI_size]) (by simp only [fnC_size, cells_size, vecC_size, tabC_size, planeC_size, mrk_size, rowI_size, cpC_size, tenC_size, smC_size, numC_size, numI_size] <;> omega) (splice_whole _ _ rfl)) ?_
    intro _ w' a hM hF
    change Mem w w' [some (b1, algC p n T f), some (b2, tenC 0 0 0 0 (.slice none 0 0)), some (b3, tenC 0 0 0 0 (.slice none 0 0)), some (b7, tenC 0 0 0 0 (.slice none 0 0))] [] at hM
    refine st hF (g_assign hF rfl) rfl fun a hF => ?_
    refine wpList_nil ?_
    refine tN ?_
    refine sq ?_
    refine sq ?_
    refine wp_region_lit ?_
    refine st hF (g_loadAgg ty_ag_47 hF rfl (hM.row 3 rfl) (by simp only [fnC_size, cells_size, vecC_size, tabC_size, planeC_size, mrk_size, rowI_size, cpC_size, tenC_size, smC_size, numC_size, numI_size] <;> omega) (whole rfl)) rfl fun a hF => st hF (g_loadAgg ty_ag_47 hF rfl (hM.row 1 rfl) (by simp only [fnC_size, cells_size, vecC_size, tabC_size, planeC_size, mrk_size, rowI_size, cpC_size, tenC_size, smC_size, numC_size, numI_size] <;> omega) (whole rfl)) rfl fun a hF => ?_
    refine stR hF (d_call Try.call24 hF (.cons rfl (.cons rfl .nil)) (eqTensor_0 _)) rfl ?_
    rintro _ w' a ⟨hx, rfl⟩ hF
    have hM := hM.ext hx
    refine st hF (g_not hF rfl) rfl fun a hF => st hF (g_move hF rfl) rfl fun a hF => stY hF rfl rfl rfl (g_move hF rfl) rfl fun a hF => stY hF rfl rfl rfl (g_move hF rfl) rfl fun a hF => stY hF rfl rfl rfl (g_neq hF rfl rfl) rfl fun a hF => st hF (g_pickF hF rfl rfl) rfl fun a hF => ?_
    refine wpList_nil ?_
    refine tN ?_
    refine c_kF hF rfl (by decide) ?_
    refine wp_skip ?_
    refine tN ?_
    refine sq ?_
    refine wp_region_lit ?_
    refine st hF (g_assign hF rfl) rfl fun a hF => ?_
    refine wpList_nil ?_
    refine tN ?_
    refine sq ?_
    refine wp_region_lit ?_
    refine st hF (g_loadAgg ty_ag_47 hF rfl (hM.row 2 rfl) (by simp only [fnC_size, cells_size, vecC_size, tabC_size, planeC_size, mrk_size, rowI_size, cpC_size, tenC_size, smC_size, numC_size, numI_size] <;> omega) (whole rfl)) rfl fun a hF => st hF (g_move hF rfl) rfl fun a hF => ?_
    refine stR hF (d_call Try.call26 hF (.cons rfl (.cons rfl .nil)) (heldTensor_0 (1) _ (by omega))) rfl ?_
    rintro _ w' a ⟨hx, rfl⟩ hF
    have hM := hM.ext hx
    refine st hF (g_assign hF rfl) rfl fun a hF => ?_
    refine wpList_nil ?_
    refine tN ?_
    refine sq ?_
    refine sq ?_
    refine wp_region_lit ?_
    refine st hF (g_move hF rfl) rfl fun a hF => st hF (g_lss hF rfl rfl) rfl fun a hF => ?_
    refine wpList_nil ?_
    refine tN ?_
    refine c_kF hF rfl h5 ?_
    refine wp_skip ?_
    refine tN ?_
    refine sq ?_
    refine sq ?_
    refine wp_region_lit ?_
    refine st hF (g_move hF rfl) rfl fun a hF => st hF (g_move hF rfl) rfl fun a hF => st hF (g_neq hF rfl rfl) rfl fun a hF => ?_
    refine wpList_nil ?_
    refine tN ?_
    refine c_kF hF rfl (by decide) ?_
    refine wp_skip ?_
    refine tN ?_
    refine sq ?_
    refine wp_region_lit ?_
    refine st hF (g_assign hF rfl) rfl fun a hF => ?_
    refine wpList_nil ?_
    refine tN ?_
    refine wp_ret ?_
    refine fin1 rfl hF.defers (res_tmp hF rfl) ⟨_, rfl, hM.below, ?_⟩
    show _ = _
    rfl

theorem law_CoproductTensorF (p n : Nat) (T : Nat → Nat → Nat → Nat) (f : Nat → Nat) (w : World) (hp : primeN p) (hn0 : 0 < n) (hn : n ≤ 6) (hTp : ∀ i j k, T i j k < p) (hT0 : ∀ i j k, n ≤ k → T i j k = 0) (hf : ∀ i, f i ≤ 255) (hfr : ¬ FrobN p n T f) (hc : CodeP (p : Int) (n : Int) T f 0 (vAtL [])) :
    CallsR Try.prog 7 #[.agg (algC (p : Int) (n : Int) T f)] w (fun res _ => res = .bool true) := by
  refine calls_fr [.agg (algC (p : Int) (n : Int) T f)] Try.func7 rfl Try.ntmps7 rfl fun a hF => ?_
  have hM : Mem w w [none, none, none, none] [] := MemX.start w 4
  change Fr 66 a [(0, .agg (algC (p : Int) (n : Int) T f))] at hF
  have hp2 := hp.two
  have hp13 := hp.le
  have hT : ∀ i j k, T i j k ≤ 255 := fun i j k => by have := hTp i j k; omega
  refine sq ?_
  refine wp_region_lit ?_
  refine stR hF (d_box 0 hM hF rfl) rfl ?_
  rintro _ w' a ⟨b1, rfl, hM, -⟩ hF
  change Mem w w' [some (b1, algC (p : Int) (n : Int) T f), none, none, none] [] at hM
  refine st hF (g_assign hF rfl) rfl fun a hF => ?_
  refine wpList_nil ?_
  refine tN ?_
  refine sq ?_
  refine wp_region_lit ?_
  refine st hF (g_loadAgg ty_ag_26 hF rfl (hM.row 0 rfl) (by simp only [fnC_size, cells_size, vecC_size, tabC_size, planeC_size, mrk_size, rowI_size, cpC_size, tenC_size, smC_size, numC_size, numI_size] <;> omega) (whole cells_size)) rfl fun a hF => ?_
  refine stR hF (d_call Try.call9 hF (.cons rfl .nil) (toAlgebra_ok (p : Int) (n : Int) T f _)) rfl ?_
  rintro _ w' a ⟨hx, rfl⟩ hF
  have hM := hM.ext hx
  refine stR hF (d_call Try.call22 hF (.cons rfl .nil) (CoproductTensorSF p n T f _ hp hn0 hn hTp hT0 hf hfr hc)) rfl ?_
  rintro _ w' a ⟨hx, rfl⟩ hF
  have hM := hM.ext hx
  refine st hF (g_move hF rfl) rfl fun a hF => st hF (g_extract hF rfl rfl) rfl fun a hF => st hF (g_extract hF rfl rfl) rfl fun a hF => ?_
  refine stR hF (d_alloc 1 hM ty_ze_47) rfl ?_
  rintro _ w' a ⟨b2, rfl, hM, -⟩ hF
  change Mem w w' [some (b1, algC (p : Int) (n : Int) T f), some (b2, tenC 0 0 0 0 (.slice none 0 0)), none, none] [] at hM
  refine stN hF (d_storeAgg 1 hM rfl ty_sz_47 hF rfl rfl (tenC_one rfl) (by simp only [fnC_size, cells_size, vecC_size, tabC_size, planeC_size, mrk_size, rowI_size, cpC_size, tenC_size, smC_size, numC_size, numI_size]) (by simp only [fnC_size, cells_size, vecC_size, tabC_size, planeC_size, mrk_size, rowI_size, cpC_size, tenC_size, smC_size, numC_size, numI_size] <;> omega) (splice_whole _ _ rfl)) ?_
  intro _ w' a hM hF
  change Mem w w' [some (b1, algC (p : Int) (n : Int) T f), some (b2, tenC 0 0 0 0 (.slice none 0 0)), none, none] [] at hM
  refine st hF (g_assign hF rfl) rfl fun a hF => ?_
  refine wpList_nil ?_
  refine tN ?_
  refine sq ?_
  refine wp_region_lit ?_
  refine st hF (g_loadAgg ty_ag_26 hF rfl (hM.row 0 rfl) (by simp only [fnC_size, cells_size, vecC_size, tabC_size, planeC_size, mrk_size, rowI_size, cpC_size, tenC_size, smC_size, numC_size, numI_size] <;> omega) (whole cells_size)) rfl fun a hF => ?_
  refine stR hF (d_call Try.call9 hF (.cons rfl .nil) (toAlgebra_ok (p : Int) (n : Int) T f _)) rfl ?_
  rintro _ w' a ⟨hx, rfl⟩ hF
  have hM := hM.ext hx
  refine stR hF (d_call Try.call23 hF (.cons rfl .nil) (CoproductTensorIF p n T f _ hp hn0 hn hTp hT0 hf hfr hc)) rfl ?_
  rintro _ w' a ⟨hx, rfl⟩ hF
  have hM := hM.ext hx
  refine st hF (g_move hF rfl) rfl fun a hF => st hF (g_extract hF rfl rfl) rfl fun a hF => st hF (g_extract hF rfl rfl) rfl fun a hF => ?_
  refine stR hF (d_alloc 2 hM ty_ze_47) rfl ?_
  rintro _ w' a ⟨b3, rfl, hM, -⟩ hF
  change Mem w w' [some (b1, algC (p : Int) (n : Int) T f), some (b2, tenC 0 0 0 0 (.slice none 0 0)), some (b3, tenC 0 0 0 0 (.slice none 0 0)), none] [] at hM
  refine stN hF (d_storeAgg 2 hM rfl ty_sz_47 hF rfl rfl (tenC_one rfl) (by simp only [fnC_size, cells_size, vecC_size, tabC_size, planeC_size, mrk_size, rowI_size, cpC_size, tenC_size, smC_size, numC_size, numI_size]) (by simp only [fnC_size, cells_size, vecC_size, tabC_size, planeC_size, mrk_size, rowI_size, cpC_size, tenC_size, smC_size, numC_size, numI_size] <;> omega) (splice_whole _ _ rfl)) ?_
  intro _ w' a hM hF
  change Mem w w' [some (b1, algC (p : Int) (n : Int) T f), some (b2, tenC 0 0 0 0 (.slice none 0 0)), some (b3, tenC 0 0 0 0 (.slice none 0 0)), none] [] at hM
  refine st hF (g_assign hF rfl) rfl fun a hF => ?_
  refine wpList_nil ?_
  refine tN ?_
  refine sq ?_
  refine sq ?_
  refine wp_region_lit ?_
  refine st hF (g_loadAgg ty_ag_47 hF rfl (hM.row 2 rfl) (by simp only [fnC_size, cells_size, vecC_size, tabC_size, planeC_size, mrk_size, rowI_size, cpC_size, tenC_size, smC_size, numC_size, numI_size] <;> omega) (whole rfl)) rfl fun a hF => st hF (g_loadAgg ty_ag_47 hF rfl (hM.row 1 rfl) (by simp only [fnC_size, cells_size, vecC_size, tabC_size, planeC_size, mrk_size, rowI_size, cpC_size, tenC_size, smC_size, numC_size, numI_size] <;> omega) (whole rfl)) rfl fun a hF => ?_
  refine stR hF (d_call Try.call24 hF (.cons rfl (.cons rfl .nil)) (eqTensor_0 _)) rfl ?_
  rintro _ w' a ⟨hx, rfl⟩ hF
  have hM := hM.ext hx
  refine st hF (g_not hF rfl) rfl fun a hF => st hF (g_move hF rfl) rfl fun a hF => stY hF rfl rfl rfl (g_move hF rfl) rfl fun a hF => stY hF rfl rfl rfl (g_move hF rfl) rfl fun a hF => stY hF rfl rfl rfl (g_neq hF rfl rfl) rfl fun a hF => st hF (g_pickF hF rfl rfl) rfl fun a hF => ?_
  refine wpList_nil ?_
  refine tN ?_
  refine c_kF hF rfl (by decide) ?_
  refine wp_skip ?_
  refine tN ?_
  refine sq ?_
  refine wp_region_lit ?_
  refine st hF (g_assign hF rfl) rfl fun a hF => ?_
  refine wpList_nil ?_
  refine tN ?_
  refine sq ?_
  refine wp_region_lit ?_
  refine st hF (g_loadAgg ty_ag_47 hF rfl (hM.row 2 rfl) (by simp only [fnC_size, cells_size, vecC_size, tabC_size, planeC_size, mrk_size, rowI_size, cpC_size, tenC_size, smC_size, numC_size, numI_size] <;> omega) (whole rfl)) rfl fun a hF => st hF (g_move hF rfl) rfl fun a hF => ?_
  refine stR hF (d_call Try.call25 hF (.cons rfl (.cons rfl .nil)) (markTensor_0 (1) _ (by omega))) rfl ?_
  rintro _ w' a ⟨hx, rfl⟩ hF
  have hM := hM.ext hx
  refine st hF (g_assign hF rfl) rfl fun a hF => ?_
  refine wpList_nil ?_
  refine tN ?_
  refine sq ?_
  refine wp_region_lit ?_
  refine st hF (g_assign hF rfl) rfl fun a hF => ?_
  refine wpList_nil ?_
  refine tN ?_
  refine sq ?_
  refine wp_region_lit ?_
  refine st hF (g_loadAgg ty_ag_47 hF rfl (hM.row 2 rfl) (by simp only [fnC_size, cells_size, vecC_size, tabC_size, planeC_size, mrk_size, rowI_size, cpC_size, tenC_size, smC_size, numC_size, numI_size] <;> omega) (whole rfl)) rfl fun a hF => st hF (g_move hF rfl) rfl fun a hF => ?_
  refine stR hF (d_call Try.call26 hF (.cons rfl (.cons rfl .nil)) (heldTensor_0 (1) _ (by omega))) rfl ?_
  rintro _ w' a ⟨hx, rfl⟩ hF
  have hM := hM.ext hx
  refine st hF (g_assign hF rfl) rfl fun a hF => ?_
  refine wpList_nil ?_
  refine tN ?_
  refine sq ?_
  refine sq ?_
  refine wp_region_lit ?_
  refine st hF (g_move hF rfl) rfl fun a hF => st hF (g_lss hF rfl rfl) rfl fun a hF => ?_
  refine wpList_nil ?_
  refine tN ?_
  refine c_cond hF rfl (fun h5 => ?_) (fun h5 => ?_)
  ·
    first | exact absurd rfl h5 | (exfalso; omega)
  ·
    refine wp_skip ?_
    refine tN ?_
    refine sq ?_
    refine sq ?_
    refine wp_region_lit ?_
    refine st hF (g_move hF rfl) rfl fun a hF => st hF (g_move hF rfl) rfl fun a hF => st hF (g_neq hF rfl rfl) rfl fun a hF => ?_
    refine wpList_nil ?_
    refine tN ?_
    refine c_kF hF rfl (by decide) ?_
    refine wp_skip ?_
    refine tN ?_
    refine sq ?_
    refine wp_region_lit ?_
    refine st hF (g_loadAgg ty_ag_26 hF rfl (hM.row 0 rfl) (by simp only [fnC_size, cells_size, vecC_size, tabC_size, planeC_size, mrk_size, rowI_size, cpC_size, tenC_size, smC_size, numC_size, numI_size] <;> omega) (whole cells_size)) rfl fun a hF => ?_
    refine stR hF (d_call Try.call9 hF (.cons rfl .nil) (toAlgebra_ok (p : Int) (n : Int) T f _)) rfl ?_
    rintro _ w' a ⟨hx, rfl⟩ hF
    have hM := hM.ext hx
    refine stR hF (d_call Try.call23 hF (.cons rfl .nil) (CoproductTensorIF p n T f _ hp hn0 hn hTp hT0 hf hfr hc)) rfl ?_
    rintro _ w' a ⟨hx, rfl⟩ hF
    have hM := hM.ext hx
    refine st hF (g_move hF rfl) rfl fun a hF => st hF (g_extract hF rfl rfl) rfl fun a hF => st hF (g_extract hF rfl rfl) rfl fun a hF => ?_
    refine stR hF (d_alloc 3 hM ty_ze_47) rfl ?_
    rintro _ w' a ⟨b7, rfl, hM, -⟩ hF
    change Mem w w' [some (b1, algC (p : Int) (n : Int) T f), some (b2, tenC 0 0 0 0 (.slice none 0 0)), some (b3, tenC 0 0 0 0 (.slice none 0 0)), some (b7, tenC 0 0 0 0 (.slice none 0 0))] [] at hM
    refine stN hF (d_storeAgg 3 hM rfl ty_sz_47 hF rfl rfl (tenC_one rfl) (by simp only [fnC_size, cells_size, vecC_size, tabC_size, planeC_size, mrk_size, rowI_size, cpC_size, tenC_size, smC_size, numC_size, numI_size]) (by simp only [fnC_size, cells_size, vecC_size, tabC_size, planeC_size, mrk_size, rowI_size, cpC_size, tenC_size, smC_size, numC_size, numI_size] <;> omega) (splice_whole _ _ rfl)) ?_
    intro _ w' a hM hF
    change Mem w w' [some (b1, algC (p : Int) (n : Int) T f), some (b2, tenC 0 0 0 0 (.slice none 0 0)), some (b3, tenC 0 0 0 0 (.slice none 0 0)), some (b7, tenC 0 0 0 0 (.slice none 0 0))] [] at hM
    refine st hF (g_assign hF rfl) rfl fun a hF => ?_
    refine wpList_nil ?_
    refine tN ?_
    refine sq ?_
    refine sq ?_
    refine wp_region_lit ?_
    refine st hF (g_loadAgg ty_ag_47 hF rfl (hM.row 3 rfl) (by simp only [fnC_size, cells_size, vecC_size, tabC_size, planeC_size, mrk_size, rowI_size, cpC_size, tenC_size, smC_size, numC_size, numI_size] <;> omega) (whole rfl)) rfl fun a hF => st hF (g_loadAgg ty_ag_47 hF rfl (hM.row 1 rfl) (by simp only [fnC_size, cells_size, vecC_size, tabC_size, planeC_size, mrk_size, rowI_size, cpC_size, tenC_size, smC_size, numC_size, numI_size] <;> omega) (whole rfl)) rfl fun a hF => ?_
    refine stR hF (d_call Try.call24 hF (.cons rfl (.cons rfl .nil)) (eqTensor_0 _)) rfl ?_
    rintro _ w' a ⟨hx, rfl⟩ hF
    have hM := hM.ext hx
    refine st hF (g_not hF rfl) rfl fun a hF => st hF (g_move hF rfl) rfl fun a hF => stY hF rfl rfl rfl (g_move hF rfl) rfl fun a hF => stY hF rfl rfl rfl (g_move hF rfl) rfl fun a hF => stY hF rfl rfl rfl (g_neq hF rfl rfl) rfl fun a hF => st hF (g_pickF hF rfl rfl) rfl fun a hF => ?_
    refine wpList_nil ?_
    refine tN ?_
    refine c_kF hF rfl (by decide) ?_
    refine wp_skip ?_
    refine tN ?_
    refine sq ?_
    refine wp_region_lit ?_
    refine st hF (g_assign hF rfl) rfl fun a hF => ?_
    refine wpList_nil ?_
    refine tN ?_
    refine sq ?_
    refine wp_region_lit ?_
    refine st hF (g_loadAgg ty_ag_47 hF rfl (hM.row 2 rfl) (by simp only [fnC_size, cells_size, vecC_size, tabC_size, planeC_size, mrk_size, rowI_size, cpC_size, tenC_size, smC_size, numC_size, numI_size] <;> omega) (whole rfl)) rfl fun a hF => st hF (g_move hF rfl) rfl fun a hF => ?_
    refine stR hF (d_call Try.call26 hF (.cons rfl (.cons rfl .nil)) (heldTensor_0 (1) _ (by omega))) rfl ?_
    rintro _ w' a ⟨hx, rfl⟩ hF
    have hM := hM.ext hx
    refine st hF (g_assign hF rfl) rfl fun a hF => ?_
    refine wpList_nil ?_
    refine tN ?_
    refine sq ?_
    refine sq ?_
    refine wp_region_lit ?_
    refine st hF (g_move hF rfl) rfl fun a hF => st hF (g_lss hF rfl rfl) rfl fun a hF => ?_
    refine wpList_nil ?_
    refine tN ?_
    refine c_kF hF rfl h5 ?_
    refine wp_skip ?_
    refine tN ?_
    refine sq ?_
    refine sq ?_
    refine wp_region_lit ?_
    refine st hF (g_move hF rfl) rfl fun a hF => st hF (g_move hF rfl) rfl fun a hF => st hF (g_neq hF rfl rfl) rfl fun a hF => ?_
    refine wpList_nil ?_
    refine tN ?_
    refine c_kF hF rfl (by decide) ?_
    refine wp_skip ?_
    refine tN ?_
    refine sq ?_
    refine wp_region_lit ?_
    refine st hF (g_assign hF rfl) rfl fun a hF => ?_
    refine wpList_nil ?_
    refine tN ?_
    refine wp_ret ?_
    refine fin1 rfl hF.defers (res_tmp hF rfl) ⟨_, rfl, hM.below, ?_⟩
    show _ = _
    rfl

theorem law_CoproductTensorY (p n : Nat) (T : Nat → Nat → Nat → Nat) (f : Nat → Nat) (w : World) (hp : primeN p) (hn0 : 0 < n) (hn : n ≤ 6) (hTp : ∀ i j k, T i j k < p) (hT0 : ∀ i j k, n ≤ k → T i j k = 0) (hf : ∀ i, f i ≤ 255) (hfr : FrobN p n T f) (G : Nat → Nat → Nat) (hG : IsCop p n (formM p n T f) G) (has : asS p n T) (hc : CodeP (p : Int) (n : Int) T f 0 (vAtL [])) :
    CallsR Try.prog 7 #[.agg (algC (p : Int) (n : Int) T f)] w (fun res _ => res = .bool true) := by
  refine calls_fr [.agg (algC (p : Int) (n : Int) T f)] Try.func7 rfl Try.ntmps7 rfl fun a hF => ?_
  have hM : Mem w w [none, none, none, none, none, none, none] [] := MemX.start w 7
  change Fr 66 a [(0, .agg (algC (p : Int) (n : Int) T f))] at hF
  have hp2 := hp.two
  have hp13 := hp.le
  have hT : ∀ i j k, T i j k ≤ 255 := fun i j k => by have := hTp i j k; omega
  have hw3 := (wl_small (n := n) (i := 1) (o := 2) hn (by omega)).2.2
  have eqlaw : ∀ c, c < (n ^ (1 + 2)) → (prF n (fun i j k => cpI p n T G (fun c => if c = i then 1 else 0) j k) (n * n * n)) c = (prF n (fun i j k => cpS p n T G (fun c => if c = i then 1 else 0) n j k) (n * n * n)) c := fun c hc9 => prF_cp (by omega) (fun i j k hi hj hk => cp_eq hp hn hT0 (AssI_of hn has) hfr hG hj hk) c
  refine sq ?_
  refine wp_region_lit ?_
  refine stR hF (d_box 0 hM hF rfl) rfl ?_
  rintro _ w' a ⟨b1, rfl, hM, -⟩ hF
  change Mem w w' [some (b1, algC (p : Int) (n : Int) T f), none, none, none, none, none, none] [] at hM
  refine st hF (g_assign hF rfl) rfl fun a hF => ?_
  refine wpList_nil ?_
  refine tN ?_
  refine sq ?_
  refine wp_region_lit ?_
  refine st hF (g_loadAgg ty_ag_26 hF rfl (hM.row 0 rfl) (by simp only [fnC_size, cells_size, vecC_size, tabC_size, planeC_size, mrk_size, rowI_size, cpC_size, tenC_size, smC_size, numC_size, numI_size] <;> omega) (whole cells_size)) rfl fun a hF => ?_
  refine stR hF (d_call Try.call9 hF (.cons rfl .nil) (toAlgebra_ok (p : Int) (n : Int) T f _)) rfl ?_
  rintro _ w' a ⟨hx, rfl⟩ hF
  have hM := hM.ext hx
  refine stR hF (d_call Try.call22 hF (.cons rfl .nil) (CoproductTensorSY p n T f _ hp hn0 hn hTp hT0 hf hfr G hG hc)) rfl ?_
  rintro _ w' a ⟨hx, b2, rfl, hge, hbk⟩ hF
  have hM := hM.fill hx 1 hbk hge
  change Mem w w' [some (b1, algC (p : Int) (n : Int) T f), some (b2, numC (n ^ (1 + 2)) (prF n (fun i j k => cpS p n T G (fun c => if c = i then 1 else 0) n j k) (n * n * n))), none, none, none, none, none] [] at hM
  refine st hF (g_move hF rfl) rfl fun a hF => st hF (g_extract hF rfl rfl) rfl fun a hF => st hF (g_extract hF rfl rfl) rfl fun a hF => ?_
  refine stR hF (d_alloc 2 hM ty_ze_47) rfl ?_
  rintro _ w' a ⟨b3, rfl, hM, -⟩ hF
  change Mem w w' [some (b1, algC (p : Int) (n : Int) T f), some (b2, numC (n ^ (1 + 2)) (prF n (fun i j k => cpS p n T G (fun c => if c = i then 1 else 0) n j k) (n * n * n))), some (b3, tenC 0 0 0 0 (.slice none 0 0)), none, none, none, none] [] at hM
  refine stN hF (d_storeAgg 2 hM rfl ty_sz_47 hF rfl rfl (tenC_one rfl) (by simp only [fnC_size, cells_size, vecC_size, tabC_size, planeC_size, mrk_size, rowI_size, cpC_size, tenC_size, smC_size, numC_size, numI_size]) (by simp only [fnC_size, cells_size, vecC_size, tabC_size, planeC_size, mrk_size, rowI_size, cpC_size, tenC_size, smC_size, numC_size, numI_size] <;> omega) (splice_whole _ _ rfl)) ?_
  intro _ w' a hM hF
  change Mem w w' [some (b1, algC (p : Int) (n : Int) T f), some (b2, numC (n ^ (1 + 2)) (prF n (fun i j k => cpS p n T G (fun c => if c = i then 1 else 0) n j k) (n * n * n))), some (b3, tenC (p : Int) (n : Int) ((1 : Nat) : Int) ((2 : Nat) : Int) (.slice (some ⟨b2, 0, none⟩) (n ^ (1 + 2)) (n ^ (1 + 2)))), none, none, none, none] [] at hM
  refine st hF (g_assign hF rfl) rfl fun a hF => ?_
  refine wpList_nil ?_
  refine tN ?_
  refine sq ?_
  refine wp_region_lit ?_
  refine st hF (g_loadAgg ty_ag_26 hF rfl (hM.row 0 rfl) (by simp only [fnC_size, cells_size, vecC_size, tabC_size, planeC_size, mrk_size, rowI_size, cpC_size, tenC_size, smC_size, numC_size, numI_size] <;> omega) (whole cells_size)) rfl fun a hF => ?_
  refine stR hF (d_call Try.call9 hF (.cons rfl .nil) (toAlgebra_ok (p : Int) (n : Int) T f _)) rfl ?_
  rintro _ w' a ⟨hx, rfl⟩ hF
  have hM := hM.ext hx
  refine stR hF (d_call Try.call23 hF (.cons rfl .nil) (CoproductTensorIY p n T f _ hp hn0 hn hTp hT0 hf hfr G hG hc)) rfl ?_
  rintro _ w' a ⟨hx, b4, rfl, hge, hbk⟩ hF
  have hM := hM.fill hx 3 hbk hge
  change Mem w w' [some (b1, algC (p : Int) (n : Int) T f), some (b2, numC (n ^ (1 + 2)) (prF n (fun i j k => cpS p n T G (fun c => if c = i then 1 else 0) n j k) (n * n * n))), some (b3, tenC (p : Int) (n : Int) ((1 : Nat) : Int) ((2 : Nat) : Int) (.slice (some ⟨b2, 0, none⟩) (n ^ (1 + 2)) (n ^ (1 + 2)))), some (b4, numC (n ^ (1 + 2)) (prF n (fun i j k => cpI p n T G (fun c => if c = i then 1 else 0) j k) (n * n * n))), none, none, none] [] at hM
  refine st hF (g_move hF rfl) rfl fun a hF => st hF (g_extract hF rfl rfl) rfl fun a hF => st hF (g_extract hF rfl rfl) rfl fun a hF => ?_
  refine stR hF (d_alloc 4 hM ty_ze_47) rfl ?_
  rintro _ w' a ⟨b5, rfl, hM, -⟩ hF
  change Mem w w' [some (b1, algC (p : Int) (n : Int) T f), some (b2, numC (n ^ (1 + 2)) (prF n (fun i j k => cpS p n T G (fun c => if c = i then 1 else 0) n j k) (n * n * n))), some (b3, tenC (p : Int) (n : Int) ((1 : Nat) : Int) ((2 : Nat) : Int) (.slice (some ⟨b2, 0, none⟩) (n ^ (1 + 2)) (n ^ (1 + 2)))), some (b4, numC (n ^ (1 + 2)) (prF n (fun i j k => cpI p n T G (fun c => if c = i then 1 else 0) j k) (n * n * n))), some (b5, tenC 0 0 0 0 (.slice none 0 0)), none, none] [] at hM
  refine stN hF (d_storeAgg 4 hM rfl ty_sz_47 hF rfl rfl (tenC_one rfl) (by simp only [fnC_size, cells_size, vecC_size, tabC_size, planeC_size, mrk_size, rowI_size, cpC_size, tenC_size, smC_size, numC_size, numI_size]) (by simp only [fnC_size, cells_size, vecC_size, tabC_size, planeC_size, mrk_size, rowI_size, cpC_size, tenC_size, smC_size, numC_size, numI_size] <;> omega) (splice_whole _ _ rfl)) ?_
  intro _ w' a hM hF
  change Mem w w' [some (b1, algC (p : Int) (n : Int) T f), some (b2, numC (n ^ (1 + 2)) (prF n (fun i j k => cpS p n T G (fun c => if c = i then 1 else 0) n j k) (n * n * n))), some (b3, tenC (p : Int) (n : Int) ((1 : Nat) : Int) ((2 : Nat) : Int) (.slice (some ⟨b2, 0, none⟩) (n ^ (1 + 2)) (n ^ (1 + 2)))), some (b4, numC (n ^ (1 + 2)) (prF n (fun i j k => cpI p n T G (fun c => if c = i then 1 else 0) j k) (n * n * n))), some (b5, tenC (p : Int) (n : Int) ((1 : Nat) : Int) ((2 : Nat) : Int) (.slice (some ⟨b4, 0, none⟩) (n ^ (1 + 2)) (n ^ (1 + 2)))), none, none] [] at hM
  refine st hF (g_assign hF rfl) rfl fun a hF => ?_
  refine wpList_nil ?_
  refine tN ?_
  refine sq ?_
  refine sq ?_
  refine wp_region_lit ?_
  refine st hF (g_loadAgg ty_ag_47 hF rfl (hM.row 4 rfl) (by simp only [fnC_size, cells_size, vecC_size, tabC_size, planeC_size, mrk_size, rowI_size, cpC_size, tenC_size, smC_size, numC_size, numI_size] <;> omega) (whole rfl)) rfl fun a hF => st hF (g_loadAgg ty_ag_47 hF rfl (hM.row 2 rfl) (by simp only [fnC_size, cells_size, vecC_size, tabC_size, planeC_size, mrk_size, rowI_size, cpC_size, tenC_size, smC_size, numC_size, numI_size] <;> omega) (whole rfl)) rfl fun a hF => ?_
  refine stR hF (d_call Try.call24 hF (.cons rfl (.cons rfl .nil)) (eqTensor_ok (p : Int) (n : Int) ((1 : Nat) : Int) ((2 : Nat) : Int) b4 b2 (n ^ (1 + 2)) (fun c => (((prF n (fun i j k => cpI p n T G (fun c => if c = i then 1 else 0) j k) (n * n * n)) c : Nat) : Int)) (fun c => (((prF n (fun i j k => cpS p n T G (fun c => if c = i then 1 else 0) n j k) (n * n * n)) c : Nat) : Int)) _ (hM.row 3 rfl) (hM.row 1 rfl) (by omega) (fun c hc => congrArg (Nat.cast : Nat → Int) (eqlaw c hc)))) rfl ?_
  rintro _ w' a ⟨hx, rfl⟩ hF
  have hM := hM.ext hx
  refine st hF (g_not hF rfl) rfl fun a hF => st hF (g_move hF rfl) rfl fun a hF => stY hF rfl rfl rfl (g_move hF rfl) rfl fun a hF => stY hF rfl rfl rfl (g_move hF rfl) rfl fun a hF => stY hF rfl rfl rfl (g_neq hF rfl rfl) rfl fun a hF => st hF (g_pickF hF rfl rfl) rfl fun a hF => ?_
  refine wpList_nil ?_
  refine tN ?_
  refine c_kF hF rfl (by decide) ?_
  refine wp_skip ?_
  refine tN ?_
  refine sq ?_
  refine wp_region_lit ?_
  refine st hF (g_assign hF rfl) rfl fun a hF => ?_
  refine wpList_nil ?_
  refine tN ?_
  refine sq ?_
  refine wp_region_lit ?_
  refine st hF (g_loadAgg ty_ag_47 hF rfl (hM.row 4 rfl) (by simp only [fnC_size, cells_size, vecC_size, tabC_size, planeC_size, mrk_size, rowI_size, cpC_size, tenC_size, smC_size, numC_size, numI_size] <;> omega) (whole rfl)) rfl fun a hF => st hF (g_move hF rfl) rfl fun a hF => ?_
  refine stR hF (d_callX Try.call25 hF (.cons rfl (.cons rfl .nil)) (markTensor_ok (p : Int) (n : Int) ((1 : Nat) : Int) ((2 : Nat) : Int) b4 (n ^ (1 + 2)) (1) (fun c => (((prF n (fun i j k => cpI p n T G (fun c => if c = i then 1 else 0) j k) (n * n * n)) c : Nat) : Int)) _ (by omega) (by omega) (hM.row 3 rfl))) rfl ?_
  rintro _ w' a ⟨hx, rfl, hbk⟩ hF
  have hM := hM.upd 3 rfl hx hbk
  change Mem w w' [some (b1, algC (p : Int) (n : Int) T f), some (b2, numC (n ^ (1 + 2)) (prF n (fun i j k => cpS p n T G (fun c => if c = i then 1 else 0) n j k) (n * n * n))), some (b3, tenC (p : Int) (n : Int) ((1 : Nat) : Int) ((2 : Nat) : Int) (.slice (some ⟨b2, 0, none⟩) (n ^ (1 + 2)) (n ^ (1 + 2)))), some (b4, numC (n ^ (1 + 2)) (fun c => (1) + c)), some (b5, tenC (p : Int) (n : Int) ((1 : Nat) : Int) ((2 : Nat) : Int) (.slice (some ⟨b4, 0, none⟩) (n ^ (1 + 2)) (n ^ (1 + 2)))), none, none] [] at hM
  refine st hF (g_assign hF rfl) rfl fun a hF => ?_
  refine wpList_nil ?_
  refine tN ?_
  refine sq ?_
  refine wp_region_lit ?_
  refine st hF (g_assign hF rfl) rfl fun a hF => ?_
  refine wpList_nil ?_
  refine tN ?_
  refine sq ?_
  refine wp_region_lit ?_
  refine st hF (g_loadAgg ty_ag_47 hF rfl (hM.row 4 rfl) (by simp only [fnC_size, cells_size, vecC_size, tabC_size, planeC_size, mrk_size, rowI_size, cpC_size, tenC_size, smC_size, numC_size, numI_size] <;> omega) (whole rfl)) rfl fun a hF => st hF (g_move hF rfl) rfl fun a hF => ?_
  refine stR hF (d_call Try.call26 hF (.cons rfl (.cons rfl .nil)) (heldTensor_ok (p : Int) (n : Int) ((1 : Nat) : Int) ((2 : Nat) : Int) b4 (n ^ (1 + 2)) (1) (fun c => (1) + c) _ (by omega) (by omega) (hM.row 3 rfl) (fun c _ => by omega))) rfl ?_
  rintro _ w' a ⟨hx, rfl⟩ hF
  have hM := hM.ext hx
  refine st hF (g_assign hF rfl) rfl fun a hF => ?_
  refine wpList_nil ?_
  refine tN ?_
  refine sq ?_
  refine sq ?_
  refine wp_region_lit ?_
  refine st hF (g_move hF rfl) rfl fun a hF => st hF (g_lss hF rfl rfl) rfl fun a hF => ?_
  refine wpList_nil ?_
  refine tN ?_
  refine c_cond hF rfl (fun h7 => ?_) (fun h7 => ?_)
  ·
    first | exact absurd rfl h7 | (exfalso; omega)
  ·
    refine wp_skip ?_
    refine tN ?_
    refine sq ?_
    refine sq ?_
    refine wp_region_lit ?_
    refine st hF (g_move hF rfl) rfl fun a hF => st hF (g_move hF rfl) rfl fun a hF => st hF (g_neq hF rfl rfl) rfl fun a hF => ?_
    refine wpList_nil ?_
    refine tN ?_
    refine c_cond hF rfl (fun h8 => ?_) (fun h8 => ?_)
    ·
      first | exact absurd rfl h8 | (exfalso; omega)
    ·
      refine wp_skip ?_
      refine tN ?_
      refine sq ?_
      refine wp_region_lit ?_
      refine st hF (g_loadAgg ty_ag_26 hF rfl (hM.row 0 rfl) (by simp only [fnC_size, cells_size, vecC_size, tabC_size, planeC_size, mrk_size, rowI_size, cpC_size, tenC_size, smC_size, numC_size, numI_size] <;> omega) (whole cells_size)) rfl fun a hF => ?_
      refine stR hF (d_call Try.call9 hF (.cons rfl .nil) (toAlgebra_ok (p : Int) (n : Int) T f _)) rfl ?_
      rintro _ w' a ⟨hx, rfl⟩ hF
      have hM := hM.ext hx
      refine stR hF (d_call Try.call23 hF (.cons rfl .nil) (CoproductTensorIY p n T f _ hp hn0 hn hTp hT0 hf hfr G hG hc)) rfl ?_
      rintro _ w' a ⟨hx, b9, rfl, hge, hbk⟩ hF
      have hM := hM.fill hx 5 hbk hge
      change Mem w w' [some (b1, algC (p : Int) (n : Int) T f), some (b2, numC (n ^ (1 + 2)) (prF n (fun i j k => cpS p n T G (fun c => if c = i then 1 else 0) n j k) (n * n * n))), some (b3, tenC (p : Int) (n : Int) ((1 : Nat) : Int) ((2 : Nat) : Int) (.slice (some ⟨b2, 0, none⟩) (n ^ (1 + 2)) (n ^ (1 + 2)))), some (b4, numC (n ^ (1 + 2)) (fun c => (1) + c)), some (b5, tenC (p : Int) (n : Int) ((1 : Nat) : Int) ((2 : Nat) : Int) (.slice (some ⟨b4, 0, none⟩) (n ^ (1 + 2)) (n ^ (1 + 2)))), some (b9, numC (n ^ (1 + 2)) (prF n (fun i j k => cpI p n T G (fun c => if c = i then 1 else 0) j k) (n * n * n))), none] [] at hM
      refine st hF (g_move hF rfl) rfl fun a hF => st hF (g_extract hF rfl rfl) rfl fun a hF => st hF (g_extract hF rfl rfl) rfl fun a hF => ?_
      refine stR hF (d_alloc 6 hM ty_ze_47) rfl ?_
      rintro _ w' a ⟨b10, rfl, hM, -⟩ hF
      change Mem w w' [some (b1, algC (p : Int) (n : Int) T f), some (b2, numC (n ^ (1 + 2)) (prF n (fun i j k => cpS p n T G (fun c => if c = i then 1 else 0) n j k) (n * n * n))), some (b3, tenC (p : Int) (n : Int) ((1 : Nat) : Int) ((2 : Nat) : Int) (.slice (some ⟨b2, 0, none⟩) (n ^ (1 + 2)) (n ^ (1 + 2)))), some (b4, numC (n ^ (1 + 2)) (fun c => (1) + c)), some (b5, tenC (p : Int) (n : Int) ((1 : Nat) : Int) ((2 : Nat) : Int) (.slice (some ⟨b4, 0, none⟩) (n ^ (1 + 2)) (n ^ (1 + 2)))), some (b9, numC (n ^ (1 + 2)) (prF n (fun i j k => cpI p n T G (fun c => if c = i then 1 else 0) j k) (n * n * n))), some (b10, tenC 0 0 0 0 (.slice none 0 0))] [] at hM
      refine stN hF (d_storeAgg 6 hM rfl ty_sz_47 hF rfl rfl (tenC_one rfl) (by simp only [fnC_size, cells_size, vecC_size, tabC_size, planeC_size, mrk_size, rowI_size, cpC_size, tenC_size, smC_size, numC_size, numI_size]) (by simp only [fnC_size, cells_size, vecC_size, tabC_size, planeC_size, mrk_size, rowI_size, cpC_size, tenC_size, smC_size, numC_size, numI_size] <;> omega) (splice_whole _ _ rfl)) ?_
      intro _ w' a hM hF
      change Mem w w' [some (b1, algC (p : Int) (n : Int) T f), some (b2, numC (n ^ (1 + 2)) (prF n (fun i j k => cpS p n T G (fun c => if c = i then 1 else 0) n j k) (n * n * n))), some (b3, tenC (p : Int) (n : Int) ((1 : Nat) : Int) ((2 : Nat) : Int) (.slice (some ⟨b2, 0, none⟩) (n ^ (1 + 2)) (n ^ (1 + 2)))), some (b4, numC (n ^ (1 + 2)) (fun c => (1) + c)), some (b5, tenC (p : Int) (n : Int) ((1 : Nat) : Int) ((2 : Nat) : Int) (.slice (some ⟨b4, 0, none⟩) (n ^ (1 + 2)) (n ^ (1 + 2)))), some (b9, numC (n ^ (1 + 2)) (prF n (fun i j k => cpI p n T G (fun c => if c = i then 1 else 0) j k) (n * n * n))), some (b10, tenC (p : Int) (n : Int) ((1 : Nat) : Int) ((2 : Nat) : Int) (.slice (some ⟨b9, 0, none⟩) (n ^ (1 + 2)) (n ^ (1 + 2))))] [] at hM
      refine st hF (g_assign hF rfl) rfl fun a hF => ?_
      refine wpList_nil ?_
      refine tN ?_
      refine sq ?_
      refine sq ?_
      refine wp_region_lit ?_
      refine st hF (g_loadAgg ty_ag_47 hF rfl (hM.row 6 rfl) (by simp only [fnC_size, cells_size, vecC_size, tabC_size, planeC_size, mrk_size, rowI_size, cpC_size, tenC_size, smC_size, numC_size, numI_size] <;> omega) (whole rfl)) rfl fun a hF => st hF (g_loadAgg ty_ag_47 hF rfl (hM.row 2 rfl) (by simp only [fnC_size, cells_size, vecC_size, tabC_size, planeC_size, mrk_size, rowI_size, cpC_size, tenC_size, smC_size, numC_size, numI_size] <;> omega) (whole rfl)) rfl fun a hF => ?_
      refine stR hF (d_call Try.call24 hF (.cons rfl (.cons rfl .nil)) (eqTensor_ok (p : Int) (n : Int) ((1 : Nat) : Int) ((2 : Nat) : Int) b9 b2 (n ^ (1 + 2)) (fun c => (((prF n (fun i j k => cpI p n T G (fun c => if c = i then 1 else 0) j k) (n * n * n)) c : Nat) : Int)) (fun c => (((prF n (fun i j k => cpS p n T G (fun c => if c = i then 1 else 0) n j k) (n * n * n)) c : Nat) : Int)) _ (hM.row 5 rfl) (hM.row 1 rfl) (by omega) (fun c hc => congrArg (Nat.cast : Nat → Int) (eqlaw c hc)))) rfl ?_
      rintro _ w' a ⟨hx, rfl⟩ hF
      have hM := hM.ext hx
      refine st hF (g_not hF rfl) rfl fun a hF => st hF (g_move hF rfl) rfl fun a hF => stY hF rfl rfl rfl (g_move hF rfl) rfl fun a hF => stY hF rfl rfl rfl (g_move hF rfl) rfl fun a hF => stY hF rfl rfl rfl (g_neq hF rfl rfl) rfl fun a hF => st hF (g_pickF hF rfl rfl) rfl fun a hF => ?_
      refine wpList_nil ?_
      refine tN ?_
      refine c_kF hF rfl (by decide) ?_
      refine wp_skip ?_
      refine tN ?_
      refine sq ?_
      refine wp_region_lit ?_
      refine st hF (g_assign hF rfl) rfl fun a hF => ?_
      refine wpList_nil ?_
      refine tN ?_
      refine sq ?_
      refine wp_region_lit ?_
      refine st hF (g_loadAgg ty_ag_47 hF rfl (hM.row 4 rfl) (by simp only [fnC_size, cells_size, vecC_size, tabC_size, planeC_size, mrk_size, rowI_size, cpC_size, tenC_size, smC_size, numC_size, numI_size] <;> omega) (whole rfl)) rfl fun a hF => st hF (g_move hF rfl) rfl fun a hF => ?_
      refine stR hF (d_call Try.call26 hF (.cons rfl (.cons rfl .nil)) (heldTensor_ok (p : Int) (n : Int) ((1 : Nat) : Int) ((2 : Nat) : Int) b4 (n ^ (1 + 2)) (1) (fun c => (1) + c) _ (by omega) (by omega) (hM.row 3 rfl) (fun c _ => by omega))) rfl ?_
      rintro _ w' a ⟨hx, rfl⟩ hF
      have hM := hM.ext hx
      refine st hF (g_assign hF rfl) rfl fun a hF => ?_
      refine wpList_nil ?_
      refine tN ?_
      refine sq ?_
      refine sq ?_
      refine wp_region_lit ?_
      refine st hF (g_move hF rfl) rfl fun a hF => st hF (g_lss hF rfl rfl) rfl fun a hF => ?_
      refine wpList_nil ?_
      refine tN ?_
      refine c_kF hF rfl h7 ?_
      refine wp_skip ?_
      refine tN ?_
      refine sq ?_
      refine sq ?_
      refine wp_region_lit ?_
      refine st hF (g_move hF rfl) rfl fun a hF => st hF (g_move hF rfl) rfl fun a hF => st hF (g_neq hF rfl rfl) rfl fun a hF => ?_
      refine wpList_nil ?_
      refine tN ?_
      refine c_kF hF rfl h8 ?_
      refine wp_skip ?_
      refine tN ?_
      refine sq ?_
      refine wp_region_lit ?_
      refine st hF (g_assign hF rfl) rfl fun a hF => ?_
      refine wpList_nil ?_
      refine tN ?_
      refine wp_ret ?_
      refine fin1 rfl hF.defers (res_tmp hF rfl) ⟨_, rfl, hM.below, ?_⟩
      show _ = _
      rfl

theorem law_CoproductTensor (p n : Int) (T : Nat → Nat → Nat → Nat) (f : Nat → Nat) (w : World) (hT : ∀ i j k, T i j k ≤ 255) (hf : ∀ i, f i ≤ 255) : CallsV Try.prog 7 #[.agg (algC p n T f)] w (.bool true) := by
  by_cases hc : CodeP p n T f 0 (vAtL [])
  · have hs := hc.1.1
    have hp0 := primeP_pos hs.1
    have hn := hs.2.1
    have e1 : ((p.toNat : Nat) : Int) = p := by omega
    have e2 : ((n.toNat : Nat) : Int) = n := by omega
    have has := hc.1.2.1
    obtain ⟨uu, huu⟩ := hc.1.2.2
    have hc2 : CodeP ((p.toNat : Nat) : Int) ((n.toNat : Nat) : Int) (trunc n.toNat T) f 0 (vAtL []) := by rw [e1, e2]; exact code_trunc hc
    by_cases hfr : FrobN p.toNat n.toNat (trunc n.toNat T) f
    · obtain ⟨G, hG⟩ := cop_exists (F := formM p.toNat n.toNat (trunc n.toNat T) f) (primeN_of hs.1) (by omega) (by omega) (fun i c h => formM_out h) (formM_lt (by omega)) hfr
      have h := law_CoproductTensorY p.toNat n.toNat (trunc n.toNat T) f  w (primeN_of hs.1) (by omega) (by omega) (trunc_lt hs) trunc_out hf  hfr G hG has hc2
      rw [e1, e2, ← algC_trunc hs] at h
      exact h
    · have h := law_CoproductTensorF p.toNat n.toNat (trunc n.toNat T) f  w (primeN_of hs.1) (by omega) (by omega) (trunc_lt hs) trunc_out hf  hfr hc2
      rw [e1, e2, ← algC_trunc hs] at h
      exact h
  · exact law_CoproductTensorA p n T f w hT hf hc

end Go.Proofs.Ytfbhngnfhpjonaa
