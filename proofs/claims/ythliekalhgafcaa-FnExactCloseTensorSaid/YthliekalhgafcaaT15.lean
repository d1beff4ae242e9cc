/- What functions of the program return, as walks over their operations; no statement of the seat is proved here. -/
import Derived.Test.YthliekalhgafcaaT14
set_option linter.unusedVariables false
set_option linter.unusedSimpArgs false
namespace Go.Proofs.Ythliekalhgafcaa
open Go Go.RowKit Go.Sw Go.Ech
open Classical
theorem law_CloseTensorZ (p n i o : Int) (sl : Value) (m : Nat) (g : Nat → Int) (w : World) (hs : ArgSl w sl m g) (hmx : 1048576 < m) (hml : m ≤ maxLen) :
    CallsR Try.prog 10 #[.agg (tenC p n i o sl)] w (fun res _ => res = .bool true) := by
  refine calls_fr [.agg (tenC p n i o sl)] Try.func10 rfl Try.ntmps10 rfl fun a hF => ?_
  have hM : Mem w w [none, none, none, none, none, none, none, none, none] [] := MemX.start w 9
  change Fr 96 a [(0, .agg (tenC p n i o sl))] at hF
  have hso := hs.one
  refine sq ?_
  refine wp_region_lit ?_
  refine stR hF (d_box 0 hM hF rfl) rfl ?_
  rintro _ w' a ⟨b1, rfl, hM, -⟩ hF
  change Mem w w' [some (b1, tenC p n i o sl), none, none, none, none, none, none, none, none] [] at hM
  refine st hF (g_assign hF rfl) rfl fun a hF => ?_
  refine wpList_nil ?_
  refine tN ?_
  refine sq ?_
  refine wp_region_lit ?_
  refine st hF (g_assign hF rfl) rfl fun a hF => ?_
  refine wpList_nil ?_
  refine tN ?_
  refine sq ?_
  refine wp_region_lit ?_
  refine st hF (g_loadAgg ty_ag_24 hF rfl (hM.row 0 rfl) (by simp only [fnC_size, cells_size, vecC_size, tabC_size, planeC_size, tenC_size, smC_size, numC_size, numI_size] <;> omega) (whole rfl)) rfl fun a hF => st hF (g_move hF rfl) rfl fun a hF => ?_
  refine stR hF (d_call Try.call13 hF (.cons rfl (.cons rfl .nil)) (szTensor_no p n i o sl m (1048576) g _ (hs.ext hM.below) (by omega) (by omega) (by unfold maxLen at *; omega))) rfl ?_
  rintro _ w' a ⟨hx, rfl⟩ hF
  have hM := hM.ext hx
  refine st hF (g_assign hF rfl) rfl fun a hF => ?_
  refine wpList_nil ?_
  refine tN ?_
  refine sq ?_
  refine sq ?_
  refine wp_region_lit ?_
  refine st hF (g_move hF rfl) rfl fun a hF => st hF (g_lss hF rfl rfl) rfl fun a hF => ?_
  refine wpList_nil ?_
  refine tN ?_
  refine c_cond hF rfl (fun h2 => ?_) (fun h2 => ?_)
  ·
    refine sq ?_
    refine wp_region_lit ?_
    refine st hF (g_assign hF rfl) rfl fun a hF => ?_
    refine wpList_nil ?_
    refine tN ?_
    refine wp_ret ?_
    refine tR ?_
    refine fin1 rfl hF.defers (res_tmp hF rfl) ⟨_, rfl, hM.below, ?_⟩
    show _ = _
    rfl
  ·
    exfalso; omega

theorem law_CloseTensorA (p n i o : Int) (sl : Value) (m : Nat) (g : Nat → Int) (w : World) (hs : ArgSl w sl m g) (hm : m < 10000000) (hmx : m ≤ 1048576) (hA : ¬ TenP p n i o m g) :
    CallsR Try.prog 10 #[.agg (tenC p n i o sl)] w (fun res _ => res = .bool true) := by
  refine calls_fr [.agg (tenC p n i o sl)] Try.func10 rfl Try.ntmps10 rfl fun a hF => ?_
  have hM : Mem w w [none, none, none, none, none, none, none, none, none] [] := MemX.start w 9
  change Fr 96 a [(0, .agg (tenC p n i o sl))] at hF
  have hso := hs.one
  refine sq ?_
  refine wp_region_lit ?_
  refine stR hF (d_box 0 hM hF rfl) rfl ?_
  rintro _ w' a ⟨b1, rfl, hM, -⟩ hF
  change Mem w w' [some (b1, tenC p n i o sl), none, none, none, none, none, none, none, none] [] at hM
  refine st hF (g_assign hF rfl) rfl fun a hF => ?_
  refine wpList_nil ?_
  refine tN ?_
  refine sq ?_
  refine wp_region_lit ?_
  refine st hF (g_assign hF rfl) rfl fun a hF => ?_
  refine wpList_nil ?_
  refine tN ?_
  refine sq ?_
  refine wp_region_lit ?_
  refine st hF (g_loadAgg ty_ag_24 hF rfl (hM.row 0 rfl) (by simp only [fnC_size, cells_size, vecC_size, tabC_size, planeC_size, tenC_size, smC_size, numC_size, numI_size] <;> omega) (whole rfl)) rfl fun a hF => st hF (g_move hF rfl) rfl fun a hF => ?_
  refine stR hF (d_call Try.call13 hF (.cons rfl (.cons rfl .nil)) (szTensor_ok p n i o sl m (1048576) g _ (hs.ext hM.below) (by omega) (by omega))) rfl ?_
  rintro _ w' a ⟨hx, rfl⟩ hF
  have hM := hM.ext hx
  refine st hF (g_assign hF rfl) rfl fun a hF => ?_
  refine wpList_nil ?_
  refine tN ?_
  refine sq ?_
  refine sq ?_
  refine wp_region_lit ?_
  refine st hF (g_move hF rfl) rfl fun a hF => st hF (g_lss hF rfl rfl) rfl fun a hF => ?_
  refine wpList_nil ?_
  refine tN ?_
  refine c_cond hF rfl (fun h2 => ?_) (fun h2 => ?_)
  ·
    first | exact absurd rfl h2 | (exfalso; omega)
  ·
    refine wp_skip ?_
    refine tN ?_
    refine sq ?_
    refine wp_region_lit ?_
    refine st hF (g_loadAgg ty_ag_24 hF rfl (hM.row 0 rfl) (by simp only [fnC_size, cells_size, vecC_size, tabC_size, planeC_size, tenC_size, smC_size, numC_size, numI_size] <;> omega) (whole rfl)) rfl fun a hF => ?_
    refine stR hF (d_call Try.call15 hF (.cons rfl .nil) (toTensor_ok p n i o sl m g _ (hs.ext hM.below) hm)) rfl ?_
    rintro _ w' a ⟨hx, b3, rfl, hge, hbk⟩ hF
    have hM := hM.fill hx 1 hbk hge
    change Mem w w' [some (b1, tenC p n i o sl), some (b3, numI m g), none, none, none, none, none, none, none] [] at hM
    refine stR hF (d_call Try.call33 hF (.cons rfl .nil) (CloseTensorSA p n i o b3 m g _ (hM.row 1 rfl) (by omega) hA)) rfl ?_
    rintro _ w' a ⟨hx, rfl⟩ hF
    have hM := hM.ext hx
    refine st hF (g_move hF rfl) rfl fun a hF => st hF (g_extract hF rfl rfl) rfl fun a hF => st hF (g_extract hF rfl rfl) rfl fun a hF => ?_
    refine stR hF (d_alloc 2 hM ty_ze_27) rfl ?_
    rintro _ w' a ⟨b4, rfl, hM, -⟩ hF
    change Mem w w' [some (b1, tenC p n i o sl), some (b3, numI m g), some (b4, tenC 0 0 0 0 (.slice none 0 0)), none, none, none, none, none, none] [] at hM
    refine stN hF (d_storeAgg 2 hM rfl ty_sz_27 hF rfl rfl (tenC_one rfl) (by simp only [fnC_size, cells_size, vecC_size, tabC_size, planeC_size, tenC_size, smC_size, numC_size, numI_size]) (by simp only [fnC_size, cells_size, vecC_size, tabC_size, planeC_size, tenC_size, smC_size, numC_size, numI_size] <;> omega) (splice_whole _ _ rfl)) ?_
    intro _ w' a hM hF
    change Mem w w' [some (b1, tenC p n i o sl), some (b3, numI m g), some (b4, tenC 0 0 0 0 (.slice none 0 0)), none, none, none, none, none, none] [] at hM
    refine st hF (g_assign hF rfl) rfl fun a hF => ?_
    refine wpList_nil ?_
    refine tN ?_
    refine sq ?_
    refine wp_region_lit ?_
    refine st hF (g_loadAgg ty_ag_24 hF rfl (hM.row 0 rfl) (by simp only [fnC_size, cells_size, vecC_size, tabC_size, planeC_size, tenC_size, smC_size, numC_size, numI_size] <;> omega) (whole rfl)) rfl fun a hF => ?_
    refine stR hF (d_call Try.call15 hF (.cons rfl .nil) (toTensor_ok p n i o sl m g _ (hs.ext hM.below) hm)) rfl ?_
    rintro _ w' a ⟨hx, b5, rfl, hge, hbk⟩ hF
    have hM := hM.fill hx 3 hbk hge
    change Mem w w' [some (b1, tenC p n i o sl), some (b3, numI m g), some (b4, tenC 0 0 0 0 (.slice none 0 0)), some (b5, numI m g), none, none, none, none, none] [] at hM
    refine stR hF (d_alloc 4 hM ty_ze_27) rfl ?_
    rintro _ w' a ⟨b6, rfl, hM, -⟩ hF
    change Mem w w' [some (b1, tenC p n i o sl), some (b3, numI m g), some (b4, tenC 0 0 0 0 (.slice none 0 0)), some (b5, numI m g), some (b6, tenC 0 0 0 0 (.slice none 0 0)), none, none, none, none] [] at hM
    refine stN hF (d_storeAgg 4 hM rfl ty_sz_27 hF rfl rfl (tenC_one rfl) (by simp only [fnC_size, cells_size, vecC_size, tabC_size, planeC_size, tenC_size, smC_size, numC_size, numI_size]) (by simp only [fnC_size, cells_size, vecC_size, tabC_size, planeC_size, tenC_size, smC_size, numC_size, numI_size] <;> omega) (splice_whole _ _ rfl)) ?_
    intro _ w' a hM hF
    change Mem w w' [some (b1, tenC p n i o sl), some (b3, numI m g), some (b4, tenC 0 0 0 0 (.slice none 0 0)), some (b5, numI m g), some (b6, tenC p n i o (.slice (some ⟨b5, 0, none⟩) m m)), none, none, none, none] [] at hM
    refine wpList_nil ?_
    refine tN ?_
    refine sq ?_
    refine wp_region_lit ?_
    refine st hF (g_loadAgg ty_ag_27 hF rfl (hM.row 4 rfl) (by simp only [fnC_size, cells_size, vecC_size, tabC_size, planeC_size, tenC_size, smC_size, numC_size, numI_size] <;> omega) (whole rfl)) rfl fun a hF => ?_
    refine stR hF (d_call Try.call34 hF (.cons rfl .nil) (CloseTensorIA p n i o b5 m g _ (hM.row 3 rfl) (by omega) hA)) rfl ?_
    rintro _ w' a ⟨hx, rfl⟩ hF
    have hM := hM.ext hx
    refine st hF (g_move hF rfl) rfl fun a hF => st hF (g_extract hF rfl rfl) rfl fun a hF => st hF (g_extract hF rfl rfl) rfl fun a hF => ?_
    refine stR hF (d_alloc 5 hM ty_ze_27) rfl ?_
    rintro _ w' a ⟨b7, rfl, hM, -⟩ hF
    change Mem w w' [some (b1, tenC p n i o sl), some (b3, numI m g), some (b4, tenC 0 0 0 0 (.slice none 0 0)), some (b5, numI m g), some (b6, tenC p n i o (.slice (some ⟨b5, 0, none⟩) m m)), some (b7, tenC 0 0 0 0 (.slice none 0 0)), none, none, none] [] at hM
    refine stN hF (d_storeAgg 5 hM rfl ty_sz_27 hF rfl rfl (tenC_one rfl) (by simp only [fnC_size, cells_size, vecC_size, tabC_size, planeC_size, tenC_size, smC_size, numC_size, numI_size]) (by simp only [fnC_size, cells_size, vecC_size, tabC_size, planeC_size, tenC_size, smC_size, numC_size, numI_size] <;> omega) (splice_whole _ _ rfl)) ?_
    intro _ w' a hM hF
    change Mem w w' [some (b1, tenC p n i o sl), some (b3, numI m g), some (b4, tenC 0 0 0 0 (.slice none 0 0)), some (b5, numI m g), some (b6, tenC p n i o (.slice (some ⟨b5, 0, none⟩) m m)), some (b7, tenC 0 0 0 0 (.slice none 0 0)), none, none, none] [] at hM
    refine st hF (g_assign hF rfl) rfl fun a hF => ?_
    refine wpList_nil ?_
    refine tN ?_
    refine sq ?_
    refine sq ?_
    refine wp_region_lit ?_
    refine st hF (g_loadAgg ty_ag_27 hF rfl (hM.row 5 rfl) (by simp only [fnC_size, cells_size, vecC_size, tabC_size, planeC_size, tenC_size, smC_size, numC_size, numI_size] <;> omega) (whole rfl)) rfl fun a hF => st hF (g_loadAgg ty_ag_27 hF rfl (hM.row 2 rfl) (by simp only [fnC_size, cells_size, vecC_size, tabC_size, planeC_size, tenC_size, smC_size, numC_size, numI_size] <;> omega) (whole rfl)) rfl fun a hF => ?_
    refine stR hF (d_call Try.call17 hF (.cons rfl (.cons rfl .nil)) (eqTensor_0 _)) rfl ?_
    rintro _ w' a ⟨hx, rfl⟩ hF
    have hM := hM.ext hx
    refine st hF (g_not hF rfl) rfl fun a hF => st hF (g_move hF rfl) rfl fun a hF => stY hF rfl rfl rfl (g_move hF rfl) rfl fun a hF => stY hF rfl rfl rfl (g_move hF rfl) rfl fun a hF => stY hF rfl rfl rfl (g_neq hF rfl rfl) rfl fun a hF => st hF (g_pickF hF rfl rfl) rfl fun a hF => ?_
    refine wpList_nil ?_
    refine tN ?_
    refine c_kF hF rfl (by decide) ?_
    refine wp_skip ?_
    refine tN ?_
    refine sq ?_
    refine sq ?_
    refine c_par 3 [6] [.val (.agg (tenC p n i o (.slice (some ⟨b5, 0, none⟩) m m))), .val (.agg (tenC p n i o sl)), .own 6 (numI m g) (fun b => .agg (tenC p n i o (.slice (some ⟨b, 0, none⟩) m m)))] hmix rfl hF rfl hM ⟨fun a w gG hF hS hd => by have hM := hS.mem rfl; exact par_val hS rfl (g_loadAgg ty_ag_27 hF rfl (hM.row 4 rfl) (by simp only [fnC_size, cells_size, vecC_size, tabC_size, planeC_size, tenC_size, smC_size, numC_size, numI_size] <;> omega) (whole rfl)), fun a w gG hF hS hd => by have hM := hS.mem rfl; exact par_val hS rfl (g_loadAgg ty_ag_24 hF rfl (hM.row 0 rfl) (by simp only [fnC_size, cells_size, vecC_size, tabC_size, planeC_size, tenC_size, smC_size, numC_size, numI_size] <;> omega) (whole rfl)), fun a w gG hF hS hd => by have hF := hF.ext1 42 (hd 1 rfl rfl); have hM := hS.mem rfl; exact par_own (by repeat constructor) hS rfl rfl rfl rfl (d_callOwnB 6 hS.1 (d_call Try.call15 hF (.cons rfl .nil) (toTensor_ok p n i o sl m g _ (hs.ext hM.below) hm))), trivial⟩ ?_
    intro a w' L hF hS hq
    have hF := hF.ext1 41 (hq 0 rfl rfl)
    have hF := hF.ext1 42 (hq 1 rfl rfl)
    obtain ⟨hM, hL⟩ := hS
    obtain ⟨b9, hptr, hkk⟩ := hq 2 rfl rfl
    have hF := hF.ext1 43 hptr
    have hL := hL.take hkk
    obtain rfl := hL.eq
    change Mem w w' [some (b1, tenC p n i o sl), some (b3, numI m g), some (b4, tenC 0 0 0 0 (.slice none 0 0)), some (b5, numI m g), some (b6, tenC p n i o (.slice (some ⟨b5, 0, none⟩) m m)), some (b7, tenC 0 0 0 0 (.slice none 0 0)), some (b9, numI m g), none, none] [] at hM
    change wpList Try.prog _ _ [_, _] _ _
    refine stR hF (d_call Try.call17 hF (.cons rfl (.cons rfl .nil)) (eqTensor_ok p n i o b5 b9 m g g _ (hM.row 3 rfl) (hM.row 6 rfl) (by omega) (fun _ _ => rfl))) rfl ?_
    rintro _ w' a ⟨hx, rfl⟩ hF
    have hM := hM.ext hx
    refine st hF (g_not hF rfl) rfl fun a hF => ?_
    refine wpList_nil ?_
    refine tN ?_
    refine c_Fl hF rfl ?_
    refine wp_skip ?_
    refine tN ?_
    refine sq ?_
    refine wp_region_lit ?_
    refine st hF (g_assign hF rfl) rfl fun a hF => ?_
    refine wpList_nil ?_
    refine tN ?_
    refine sq ?_
    refine wp_region_lit ?_
    refine st hF (g_loadAgg ty_ag_27 hF rfl (hM.row 4 rfl) (by simp only [fnC_size, cells_size, vecC_size, tabC_size, planeC_size, tenC_size, smC_size, numC_size, numI_size] <;> omega) (whole rfl)) rfl fun a hF => st hF (g_move hF rfl) rfl fun a hF => ?_
    refine stR hF (d_callX Try.call20 hF (.cons rfl (.cons rfl .nil)) (markTensor_ok p n i o b5 m (1) g _ (by omega) (by omega) (hM.row 3 rfl))) rfl ?_
    rintro _ w' a ⟨hx, rfl, hbk⟩ hF
    have hM := hM.upd 3 rfl hx hbk
    change Mem w w' [some (b1, tenC p n i o sl), some (b3, numI m g), some (b4, tenC 0 0 0 0 (.slice none 0 0)), some (b5, numC m (fun c => (1) + c)), some (b6, tenC p n i o (.slice (some ⟨b5, 0, none⟩) m m)), some (b7, tenC 0 0 0 0 (.slice none 0 0)), some (b9, numI m g), none, none] [] at hM
    refine st hF (g_assign hF rfl) rfl fun a hF => ?_
    refine wpList_nil ?_
    refine tN ?_
    refine sq ?_
    refine sq ?_
    refine wp_region_lit ?_
    refine st hF (g_move hF rfl) rfl fun a hF => st hF (g_lss hF rfl rfl) rfl fun a hF => st hF (g_move hF rfl) rfl fun a hF => ?_
    by_cases g11 : (((1 + m : Nat) : Int) : Int) < 0
    ·
      first | rw [decide_eq_true g11] at hF | simp only [decide_eq_true g11] at hF
      first | exact absurd rfl g11 | (exfalso; omega)
    ·
      first | rw [decide_eq_false g11] at hF | simp only [decide_eq_false g11] at hF
      refine stY hF rfl rfl rfl (g_loadAgg ty_ag_27 hF rfl (hM.row 5 rfl) (by simp only [fnC_size, cells_size, vecC_size, tabC_size, planeC_size, tenC_size, smC_size, numC_size, numI_size] <;> omega) (whole rfl)) rfl fun a hF => stY hF rfl rfl rfl (g_loadAgg ty_ag_27 hF rfl (hM.row 2 rfl) (by simp only [fnC_size, cells_size, vecC_size, tabC_size, planeC_size, tenC_size, smC_size, numC_size, numI_size] <;> omega) (whole rfl)) rfl fun a hF => ?_
      refine stYR hF rfl rfl rfl (d_call Try.call17 hF (.cons rfl (.cons rfl .nil)) (eqTensor_0 _)) rfl ?_
      rintro _ w' a ⟨hx, rfl⟩ hF
      have hM := hM.ext hx
      refine stY hF rfl rfl rfl (g_not hF rfl) rfl fun a hF => st hF (g_pickF hF rfl rfl) rfl fun a hF => st hF (g_move hF rfl) rfl fun a hF => stY hF rfl rfl rfl (g_move hF rfl) rfl fun a hF => stY hF rfl rfl rfl (g_move hF rfl) rfl fun a hF => stY hF rfl rfl rfl (g_neq hF rfl rfl) rfl fun a hF => st hF (g_pickF hF rfl rfl) rfl fun a hF => ?_
      refine wpList_nil ?_
      refine tN ?_
      refine c_kF hF rfl (by decide) ?_
      refine wp_skip ?_
      refine tN ?_
      refine sq ?_
      refine wp_region_lit ?_
      refine st hF (g_assign hF rfl) rfl fun a hF => ?_
      refine wpList_nil ?_
      refine tN ?_
      refine sq ?_
      refine wp_region_lit ?_
      refine st hF (g_loadAgg ty_ag_27 hF rfl (hM.row 5 rfl) (by simp only [fnC_size, cells_size, vecC_size, tabC_size, planeC_size, tenC_size, smC_size, numC_size, numI_size] <;> omega) (whole rfl)) rfl fun a hF => st hF (g_move hF rfl) rfl fun a hF => ?_
      refine stR hF (d_call Try.call20 hF (.cons rfl (.cons rfl .nil)) (markTensor_0 (1) _ (by omega))) rfl ?_
      rintro _ w' a ⟨hx, rfl⟩ hF
      have hM := hM.ext hx
      refine st hF (g_assign hF rfl) rfl fun a hF => ?_
      refine wpList_nil ?_
      refine tN ?_
      refine sq ?_
      refine wp_region_lit ?_
      refine st hF (g_assign hF rfl) rfl fun a hF => ?_
      refine wpList_nil ?_
      refine tN ?_
      refine sq ?_
      refine wp_region_lit ?_
      refine st hF (g_loadAgg ty_ag_27 hF rfl (hM.row 5 rfl) (by simp only [fnC_size, cells_size, vecC_size, tabC_size, planeC_size, tenC_size, smC_size, numC_size, numI_size] <;> omega) (whole rfl)) rfl fun a hF => st hF (g_move hF rfl) rfl fun a hF => ?_
      refine stR hF (d_call Try.call21 hF (.cons rfl (.cons rfl .nil)) (heldTensor_0 (1) _ (by omega))) rfl ?_
      rintro _ w' a ⟨hx, rfl⟩ hF
      have hM := hM.ext hx
      refine st hF (g_assign hF rfl) rfl fun a hF => ?_
      refine wpList_nil ?_
      refine tN ?_
      refine sq ?_
      refine sq ?_
      refine wp_region_lit ?_
      refine st hF (g_move hF rfl) rfl fun a hF => st hF (g_lss hF rfl rfl) rfl fun a hF => ?_
      refine wpList_nil ?_
      refine tN ?_
      refine c_cond hF rfl (fun h13 => ?_) (fun h13 => ?_)
      ·
        first | exact absurd rfl h13 | (exfalso; omega)
      ·
        refine wp_skip ?_
        refine tN ?_
        refine sq ?_
        refine sq ?_
        refine wp_region_lit ?_
        refine st hF (g_move hF rfl) rfl fun a hF => st hF (g_move hF rfl) rfl fun a hF => st hF (g_neq hF rfl rfl) rfl fun a hF => ?_
        refine wpList_nil ?_
        refine tN ?_
        refine c_kF hF rfl (by decide) ?_
        refine wp_skip ?_
        refine tN ?_
        refine sq ?_
        refine wp_region_lit ?_
        refine st hF (g_loadAgg ty_ag_24 hF rfl (hM.row 0 rfl) (by simp only [fnC_size, cells_size, vecC_size, tabC_size, planeC_size, tenC_size, smC_size, numC_size, numI_size] <;> omega) (whole rfl)) rfl fun a hF => ?_
        refine stR hF (d_call Try.call15 hF (.cons rfl .nil) (toTensor_ok p n i o sl m g _ (hs.ext hM.below) hm)) rfl ?_
        rintro _ w' a ⟨hx, b15, rfl, hge, hbk⟩ hF
        have hM := hM.fill hx 7 hbk hge
        change Mem w w' [some (b1, tenC p n i o sl), some (b3, numI m g), some (b4, tenC 0 0 0 0 (.slice none 0 0)), some (b5, numC m (fun c => (1) + c)), some (b6, tenC p n i o (.slice (some ⟨b5, 0, none⟩) m m)), some (b7, tenC 0 0 0 0 (.slice none 0 0)), some (b9, numI m g), some (b15, numI m g), none] [] at hM
        refine stR hF (d_call Try.call34 hF (.cons rfl .nil) (CloseTensorIA p n i o b15 m g _ (hM.row 7 rfl) (by omega) hA)) rfl ?_
        rintro _ w' a ⟨hx, rfl⟩ hF
        have hM := hM.ext hx
        refine st hF (g_move hF rfl) rfl fun a hF => st hF (g_extract hF rfl rfl) rfl fun a hF => st hF (g_extract hF rfl rfl) rfl fun a hF => ?_
        refine stR hF (d_alloc 8 hM ty_ze_27) rfl ?_
        rintro _ w' a ⟨b16, rfl, hM, -⟩ hF
        change Mem w w' [some (b1, tenC p n i o sl), some (b3, numI m g), some (b4, tenC 0 0 0 0 (.slice none 0 0)), some (b5, numC m (fun c => (1) + c)), some (b6, tenC p n i o (.slice (some ⟨b5, 0, none⟩) m m)), some (b7, tenC 0 0 0 0 (.slice none 0 0)), some (b9, numI m g), some (b15, numI m g), some (b16, tenC 0 0 0 0 (.slice none 0 0))] [] at hM
        refine stN hF (d_storeAgg 8 hM rfl ty_sz_27 hF rfl rfl (tenC_one rfl) (by simp only [fnC_size, cells_size, vecC_size, tabC_size, planeC_size, tenC_size, smC_size, numC_size, numI_size]) (by simp only [fnC_size, cells_size, vecC_size, tabC_size, planeC_size, tenC_size, smC_size, numC_size, numI_size] <;> omega) (splice_whole _ _ rfl)) ?_
        intro _ w' a hM hF
        change Mem w w' [some (b1, tenC p n i o sl), some (b3, numI m g), some (b4, tenC 0 0 0 0 (.slice none 0 0)), some (b5, numC m (fun c => (1) + c)), some (b6, tenC p n i o (.slice (some ⟨b5, 0, none⟩) m m)), some (b7, tenC 0 0 0 0 (.slice none 0 0)), some (b9, numI m g), some (b15, numI m g), some (b16, tenC 0 0 0 0 (.slice none 0 0))] [] at hM
        refine st hF (g_assign hF rfl) rfl fun a hF => ?_
        refine wpList_nil ?_
        refine tN ?_
        refine sq ?_
        refine sq ?_
        refine wp_region_lit ?_
        refine st hF (g_loadAgg ty_ag_27 hF rfl (hM.row 8 rfl) (by simp only [fnC_size, cells_size, vecC_size, tabC_size, planeC_size, tenC_size, smC_size, numC_size, numI_size] <;> omega) (whole rfl)) rfl fun a hF => st hF (g_loadAgg ty_ag_27 hF rfl (hM.row 2 rfl) (by simp only [fnC_size, cells_size, vecC_size, tabC_size, planeC_size, tenC_size, smC_size, numC_size, numI_size] <;> omega) (whole rfl)) rfl fun a hF => ?_
        refine stR hF (d_call Try.call17 hF (.cons rfl (.cons rfl .nil)) (eqTensor_0 _)) rfl ?_
        rintro _ w' a ⟨hx, rfl⟩ hF
        have hM := hM.ext hx
        refine st hF (g_not hF rfl) rfl fun a hF => st hF (g_move hF rfl) rfl fun a hF => stY hF rfl rfl rfl (g_move hF rfl) rfl fun a hF => stY hF rfl rfl rfl (g_move hF rfl) rfl fun a hF => stY hF rfl rfl rfl (g_neq hF rfl rfl) rfl fun a hF => st hF (g_pickF hF rfl rfl) rfl fun a hF => ?_
        refine wpList_nil ?_
        refine tN ?_
        refine c_kF hF rfl (by decide) ?_
        refine wp_skip ?_
        refine tN ?_
        refine sq ?_
        refine wp_region_lit ?_
        refine st hF (g_assign hF rfl) rfl fun a hF => ?_
        refine wpList_nil ?_
        refine tN ?_
        refine sq ?_
        refine wp_region_lit ?_
        refine st hF (g_loadAgg ty_ag_27 hF rfl (hM.row 5 rfl) (by simp only [fnC_size, cells_size, vecC_size, tabC_size, planeC_size, tenC_size, smC_size, numC_size, numI_size] <;> omega) (whole rfl)) rfl fun a hF => st hF (g_move hF rfl) rfl fun a hF => ?_
        refine stR hF (d_call Try.call21 hF (.cons rfl (.cons rfl .nil)) (heldTensor_0 (1) _ (by omega))) rfl ?_
        rintro _ w' a ⟨hx, rfl⟩ hF
        have hM := hM.ext hx
        refine st hF (g_assign hF rfl) rfl fun a hF => ?_
        refine wpList_nil ?_
        refine tN ?_
        refine sq ?_
        refine sq ?_
        refine wp_region_lit ?_
        refine st hF (g_move hF rfl) rfl fun a hF => st hF (g_lss hF rfl rfl) rfl fun a hF => ?_
        refine wpList_nil ?_
        refine tN ?_
        refine c_kF hF rfl h13 ?_
        refine wp_skip ?_
        refine tN ?_
        refine sq ?_
        refine sq ?_
        refine wp_region_lit ?_
        refine st hF (g_move hF rfl) rfl fun a hF => st hF (g_move hF rfl) rfl fun a hF => st hF (g_neq hF rfl rfl) rfl fun a hF => ?_
        refine wpList_nil ?_
        refine tN ?_
        refine c_kF hF rfl (by decide) ?_
        refine wp_skip ?_
        refine tN ?_
        refine sq ?_
        refine wp_region_lit ?_
        refine st hF (g_assign hF rfl) rfl fun a hF => ?_
        refine wpList_nil ?_
        refine tN ?_
        refine wp_ret ?_
        refine fin1 rfl hF.defers (res_tmp hF rfl) ⟨_, rfl, hM.below, ?_⟩
        show _ = _
        rfl

theorem law_CloseTensorR (p n i o : Int) (sl : Value) (m : Nat) (g : Nat → Int) (w : World) (hs : ArgSl w sl m g) (hm : m < 10000000) (hmx : m ≤ 1048576) (h1 : TenP p n i o m g) (hR : ¬ (1 ≤ i ∧ 1 ≤ o)) :
    CallsR Try.prog 10 #[.agg (tenC p n i o sl)] w (fun res _ => res = .bool true) := by
  refine calls_fr [.agg (tenC p n i o sl)] Try.func10 rfl Try.ntmps10 rfl fun a hF => ?_
  have hM : Mem w w [none, none, none, none, none, none, none, none, none] [] := MemX.start w 9
  change Fr 96 a [(0, .agg (tenC p n i o sl))] at hF
  have hso := hs.one
  refine sq ?_
  refine wp_region_lit ?_
  refine stR hF (d_box 0 hM hF rfl) rfl ?_
  rintro _ w' a ⟨b1, rfl, hM, -⟩ hF
  change Mem w w' [some (b1, tenC p n i o sl), none, none, none, none, none, none, none, none] [] at hM
  refine st hF (g_assign hF rfl) rfl fun a hF => ?_
  refine wpList_nil ?_
  refine tN ?_
  refine sq ?_
  refine wp_region_lit ?_
  refine st hF (g_assign hF rfl) rfl fun a hF => ?_
  refine wpList_nil ?_
  refine tN ?_
  refine sq ?_
  refine wp_region_lit ?_
  refine st hF (g_loadAgg ty_ag_24 hF rfl (hM.row 0 rfl) (by simp only [fnC_size, cells_size, vecC_size, tabC_size, planeC_size, tenC_size, smC_size, numC_size, numI_size] <;> omega) (whole rfl)) rfl fun a hF => st hF (g_move hF rfl) rfl fun a hF => ?_
  refine stR hF (d_call Try.call13 hF (.cons rfl (.cons rfl .nil)) (szTensor_ok p n i o sl m (1048576) g _ (hs.ext hM.below) (by omega) (by omega))) rfl ?_
  rintro _ w' a ⟨hx, rfl⟩ hF
  have hM := hM.ext hx
  refine st hF (g_assign hF rfl) rfl fun a hF => ?_
  refine wpList_nil ?_
  refine tN ?_
  refine sq ?_
  refine sq ?_
  refine wp_region_lit ?_
  refine st hF (g_move hF rfl) rfl fun a hF => st hF (g_lss hF rfl rfl) rfl fun a hF => ?_
  refine wpList_nil ?_
  refine tN ?_
  refine c_cond hF rfl (fun h2 => ?_) (fun h2 => ?_)
  ·
    first | exact absurd rfl h2 | (exfalso; omega)
  ·
    refine wp_skip ?_
    refine tN ?_
    refine sq ?_
    refine wp_region_lit ?_
    refine st hF (g_loadAgg ty_ag_24 hF rfl (hM.row 0 rfl) (by simp only [fnC_size, cells_size, vecC_size, tabC_size, planeC_size, tenC_size, smC_size, numC_size, numI_size] <;> omega) (whole rfl)) rfl fun a hF => ?_
    refine stR hF (d_call Try.call15 hF (.cons rfl .nil) (toTensor_ok p n i o sl m g _ (hs.ext hM.below) hm)) rfl ?_
    rintro _ w' a ⟨hx, b3, rfl, hge, hbk⟩ hF
    have hM := hM.fill hx 1 hbk hge
    change Mem w w' [some (b1, tenC p n i o sl), some (b3, numI m g), none, none, none, none, none, none, none] [] at hM
    refine stR hF (d_call Try.call33 hF (.cons rfl .nil) (CloseTensorSR p n i o b3 m g _ (hM.row 1 rfl) (by omega) h1 hR)) rfl ?_
    rintro _ w' a ⟨hx, rfl⟩ hF
    have hM := hM.ext hx
    refine st hF (g_move hF rfl) rfl fun a hF => st hF (g_extract hF rfl rfl) rfl fun a hF => st hF (g_extract hF rfl rfl) rfl fun a hF => ?_
    refine stR hF (d_alloc 2 hM ty_ze_27) rfl ?_
    rintro _ w' a ⟨b4, rfl, hM, -⟩ hF
    change Mem w w' [some (b1, tenC p n i o sl), some (b3, numI m g), some (b4, tenC 0 0 0 0 (.slice none 0 0)), none, none, none, none, none, none] [] at hM
    refine stN hF (d_storeAgg 2 hM rfl ty_sz_27 hF rfl rfl (tenC_one rfl) (by simp only [fnC_size, cells_size, vecC_size, tabC_size, planeC_size, tenC_size, smC_size, numC_size, numI_size]) (by simp only [fnC_size, cells_size, vecC_size, tabC_size, planeC_size, tenC_size, smC_size, numC_size, numI_size] <;> omega) (splice_whole _ _ rfl)) ?_
    intro _ w' a hM hF
    change Mem w w' [some (b1, tenC p n i o sl), some (b3, numI m g), some (b4, tenC 0 0 0 0 (.slice none 0 0)), none, none, none, none, none, none] [] at hM
    refine st hF (g_assign hF rfl) rfl fun a hF => ?_
    refine wpList_nil ?_
    refine tN ?_
    refine sq ?_
    refine wp_region_lit ?_
    refine st hF (g_loadAgg ty_ag_24 hF rfl (hM.row 0 rfl) (by simp only [fnC_size, cells_size, vecC_size, tabC_size, planeC_size, tenC_size, smC_size, numC_size, numI_size] <;> omega) (whole rfl)) rfl fun a hF => ?_
    refine stR hF (d_call Try.call15 hF (.cons rfl .nil) (toTensor_ok p n i o sl m g _ (hs.ext hM.below) hm)) rfl ?_
    rintro _ w' a ⟨hx, b5, rfl, hge, hbk⟩ hF
    have hM := hM.fill hx 3 hbk hge
    change Mem w w' [some (b1, tenC p n i o sl), some (b3, numI m g), some (b4, tenC 0 0 0 0 (.slice none 0 0)), some (b5, numI m g), none, none, none, none, none] [] at hM
    refine stR hF (d_alloc 4 hM ty_ze_27) rfl ?_
    rintro _ w' a ⟨b6, rfl, hM, -⟩ hF
    change Mem w w' [some (b1, tenC p n i o sl), some (b3, numI m g), some (b4, tenC 0 0 0 0 (.slice none 0 0)), some (b5, numI m g), some (b6, tenC 0 0 0 0 (.slice none 0 0)), none, none, none, none] [] at hM
    refine stN hF (d_storeAgg 4 hM rfl ty_sz_27 hF rfl rfl (tenC_one rfl) (by simp only [fnC_size, cells_size, vecC_size, tabC_size, planeC_size, tenC_size, smC_size, numC_size, numI_size]) (by simp only [fnC_size, cells_size, vecC_size, tabC_size, planeC_size, tenC_size, smC_size, numC_size, numI_size] <;> omega) (splice_whole _ _ rfl)) ?_
    intro _ w' a hM hF
    change Mem w w' [some (b1, tenC p n i o sl), some (b3, numI m g), some (b4, tenC 0 0 0 0 (.slice none 0 0)), some (b5, numI m g), some (b6, tenC p n i o (.slice (some ⟨b5, 0, none⟩) m m)), none, none, none, none] [] at hM
    refine wpList_nil ?_
    refine tN ?_
    refine sq ?_
    refine wp_region_lit ?_
    refine st hF (g_loadAgg ty_ag_27 hF rfl (hM.row 4 rfl) (by simp only [fnC_size, cells_size, vecC_size, tabC_size, planeC_size, tenC_size, smC_size, numC_size, numI_size] <;> omega) (whole rfl)) rfl fun a hF => ?_
    refine stR hF (d_call Try.call34 hF (.cons rfl .nil) (CloseTensorIR p n i o b5 m g _ (hM.row 3 rfl) (by omega) h1 hR)) rfl ?_
    rintro _ w' a ⟨hx, rfl⟩ hF
    have hM := hM.ext hx
    refine st hF (g_move hF rfl) rfl fun a hF => st hF (g_extract hF rfl rfl) rfl fun a hF => st hF (g_extract hF rfl rfl) rfl fun a hF => ?_
    refine stR hF (d_alloc 5 hM ty_ze_27) rfl ?_
    rintro _ w' a ⟨b7, rfl, hM, -⟩ hF
    change Mem w w' [some (b1, tenC p n i o sl), some (b3, numI m g), some (b4, tenC 0 0 0 0 (.slice none 0 0)), some (b5, numI m g), some (b6, tenC p n i o (.slice (some ⟨b5, 0, none⟩) m m)), some (b7, tenC 0 0 0 0 (.slice none 0 0)), none, none, none] [] at hM
    refine stN hF (d_storeAgg 5 hM rfl ty_sz_27 hF rfl rfl (tenC_one rfl) (by simp only [fnC_size, cells_size, vecC_size, tabC_size, planeC_size, tenC_size, smC_size, numC_size, numI_size]) (by simp only [fnC_size, cells_size, vecC_size, tabC_size, planeC_size, tenC_size, smC_size, numC_size, numI_size] <;> omega) (splice_whole _ _ rfl)) ?_
    intro _ w' a hM hF
    change Mem w w' [some (b1, tenC p n i o sl), some (b3, numI m g), some (b4, tenC 0 0 0 0 (.slice none 0 0)), some (b5, numI m g), some (b6, tenC p n i o (.slice (some ⟨b5, 0, none⟩) m m)), some (b7, tenC 0 0 0 0 (.slice none 0 0)), none, none, none] [] at hM
    refine st hF (g_assign hF rfl) rfl fun a hF => ?_
    refine wpList_nil ?_
    refine tN ?_
    refine sq ?_
    refine sq ?_
    refine wp_region_lit ?_
    refine st hF (g_loadAgg ty_ag_27 hF rfl (hM.row 5 rfl) (by simp only [fnC_size, cells_size, vecC_size, tabC_size, planeC_size, tenC_size, smC_size, numC_size, numI_size] <;> omega) (whole rfl)) rfl fun a hF => st hF (g_loadAgg ty_ag_27 hF rfl (hM.row 2 rfl) (by simp only [fnC_size, cells_size, vecC_size, tabC_size, planeC_size, tenC_size, smC_size, numC_size, numI_size] <;> omega) (whole rfl)) rfl fun a hF => ?_
    refine stR hF (d_call Try.call17 hF (.cons rfl (.cons rfl .nil)) (eqTensor_0 _)) rfl ?_
    rintro _ w' a ⟨hx, rfl⟩ hF
    have hM := hM.ext hx
    refine st hF (g_not hF rfl) rfl fun a hF => st hF (g_move hF rfl) rfl fun a hF => stY hF rfl rfl rfl (g_move hF rfl) rfl fun a hF => stY hF rfl rfl rfl (g_move hF rfl) rfl fun a hF => stY hF rfl rfl rfl (g_neq hF rfl rfl) rfl fun a hF => st hF (g_pickF hF rfl rfl) rfl fun a hF => ?_
    refine wpList_nil ?_
    refine tN ?_
    refine c_kF hF rfl (by decide) ?_
    refine wp_skip ?_
    refine tN ?_
    refine sq ?_
    refine sq ?_
    refine c_par 3 [6] [.val (.agg (tenC p n i o (.slice (some ⟨b5, 0, none⟩) m m))), .val (.agg (tenC p n i o sl)), .own 6 (numI m g) (fun b => .agg (tenC p n i o (.slice (some ⟨b, 0, none⟩) m m)))] hmix rfl hF rfl hM ⟨fun a w gG hF hS hd => by have hM := hS.mem rfl; exact par_val hS rfl (g_loadAgg ty_ag_27 hF rfl (hM.row 4 rfl) (by simp only [fnC_size, cells_size, vecC_size, tabC_size, planeC_size, tenC_size, smC_size, numC_size, numI_size] <;> omega) (whole rfl)), fun a w gG hF hS hd => by have hM := hS.mem rfl; exact par_val hS rfl (g_loadAgg ty_ag_24 hF rfl (hM.row 0 rfl) (by simp only [fnC_size, cells_size, vecC_size, tabC_size, planeC_size, tenC_size, smC_size, numC_size, numI_size] <;> omega) (whole rfl)), fun a w gG hF hS hd => by have hF := hF.ext1 42 (hd 1 rfl rfl); have hM := hS.mem rfl; exact par_own (by repeat constructor) hS rfl rfl rfl rfl (d_callOwnB 6 hS.1 (d_call Try.call15 hF (.cons rfl .nil) (toTensor_ok p n i o sl m g _ (hs.ext hM.below) hm))), trivial⟩ ?_
    intro a w' L hF hS hq
    have hF := hF.ext1 41 (hq 0 rfl rfl)
    have hF := hF.ext1 42 (hq 1 rfl rfl)
    obtain ⟨hM, hL⟩ := hS
    obtain ⟨b9, hptr, hkk⟩ := hq 2 rfl rfl
    have hF := hF.ext1 43 hptr
    have hL := hL.take hkk
    obtain rfl := hL.eq
    change Mem w w' [some (b1, tenC p n i o sl), some (b3, numI m g), some (b4, tenC 0 0 0 0 (.slice none 0 0)), some (b5, numI m g), some (b6, tenC p n i o (.slice (some ⟨b5, 0, none⟩) m m)), some (b7, tenC 0 0 0 0 (.slice none 0 0)), some (b9, numI m g), none, none] [] at hM
    change wpList Try.prog _ _ [_, _] _ _
    refine stR hF (d_call Try.call17 hF (.cons rfl (.cons rfl .nil)) (eqTensor_ok p n i o b5 b9 m g g _ (hM.row 3 rfl) (hM.row 6 rfl) (by omega) (fun _ _ => rfl))) rfl ?_
    rintro _ w' a ⟨hx, rfl⟩ hF
    have hM := hM.ext hx
    refine st hF (g_not hF rfl) rfl fun a hF => ?_
    refine wpList_nil ?_
    refine tN ?_
    refine c_Fl hF rfl ?_
    refine wp_skip ?_
    refine tN ?_
    refine sq ?_
    refine wp_region_lit ?_
    refine st hF (g_assign hF rfl) rfl fun a hF => ?_
    refine wpList_nil ?_
    refine tN ?_
    refine sq ?_
    refine wp_region_lit ?_
    refine st hF (g_loadAgg ty_ag_27 hF rfl (hM.row 4 rfl) (by simp only [fnC_size, cells_size, vecC_size, tabC_size, planeC_size, tenC_size, smC_size, numC_size, numI_size] <;> omega) (whole rfl)) rfl fun a hF => st hF (g_move hF rfl) rfl fun a hF => ?_
    refine stR hF (d_callX Try.call20 hF (.cons rfl (.cons rfl .nil)) (markTensor_ok p n i o b5 m (1) g _ (by omega) (by omega) (hM.row 3 rfl))) rfl ?_
    rintro _ w' a ⟨hx, rfl, hbk⟩ hF
    have hM := hM.upd 3 rfl hx hbk
    change Mem w w' [some (b1, tenC p n i o sl), some (b3, numI m g), some (b4, tenC 0 0 0 0 (.slice none 0 0)), some (b5, numC m (fun c => (1) + c)), some (b6, tenC p n i o (.slice (some ⟨b5, 0, none⟩) m m)), some (b7, tenC 0 0 0 0 (.slice none 0 0)), some (b9, numI m g), none, none] [] at hM
    refine st hF (g_assign hF rfl) rfl fun a hF => ?_
    refine wpList_nil ?_
    refine tN ?_
    refine sq ?_
    refine sq ?_
    refine wp_region_lit ?_
    refine st hF (g_move hF rfl) rfl fun a hF => st hF (g_lss hF rfl rfl) rfl fun a hF => st hF (g_move hF rfl) rfl fun a hF => ?_
    by_cases g11 : (((1 + m : Nat) : Int) : Int) < 0
    ·
      first | rw [decide_eq_true g11] at hF | simp only [decide_eq_true g11] at hF
      first | exact absurd rfl g11 | (exfalso; omega)
    ·
      first | rw [decide_eq_false g11] at hF | simp only [decide_eq_false g11] at hF
      refine stY hF rfl rfl rfl (g_loadAgg ty_ag_27 hF rfl (hM.row 5 rfl) (by simp only [fnC_size, cells_size, vecC_size, tabC_size, planeC_size, tenC_size, smC_size, numC_size, numI_size] <;> omega) (whole rfl)) rfl fun a hF => stY hF rfl rfl rfl (g_loadAgg ty_ag_27 hF rfl (hM.row 2 rfl) (by simp only [fnC_size, cells_size, vecC_size, tabC_size, planeC_size, tenC_size, smC_size, numC_size, numI_size] <;> omega) (whole rfl)) rfl fun a hF => ?_
      refine stYR hF rfl rfl rfl (d_call Try.call17 hF (.cons rfl (.cons rfl .nil)) (eqTensor_0 _)) rfl ?_
      rintro _ w' a ⟨hx, rfl⟩ hF
      have hM := hM.ext hx
      refine stY hF rfl rfl rfl (g_not hF rfl) rfl fun a hF => st hF (g_pickF hF rfl rfl) rfl fun a hF => st hF (g_move hF rfl) rfl fun a hF => stY hF rfl rfl rfl (g_move hF rfl) rfl fun a hF => stY hF rfl rfl rfl (g_move hF rfl) rfl fun a hF => stY hF rfl rfl rfl (g_neq hF rfl rfl) rfl fun a hF => st hF (g_pickF hF rfl rfl) rfl fun a hF => ?_
      refine wpList_nil ?_
      refine tN ?_
      refine c_kF hF rfl (by decide) ?_
      refine wp_skip ?_
      refine tN ?_
      refine sq ?_
      refine wp_region_lit ?_
      refine st hF (g_assign hF rfl) rfl fun a hF => ?_
      refine wpList_nil ?_
      refine tN ?_
      refine sq ?_
      refine wp_region_lit ?_
      refine st hF (g_loadAgg ty_ag_27 hF rfl (hM.row 5 rfl) (by simp only [fnC_size, cells_size, vecC_size, tabC_size, planeC_size, tenC_size, smC_size, numC_size, numI_size] <;> omega) (whole rfl)) rfl fun a hF => st hF (g_move hF rfl) rfl fun a hF => ?_
      refine stR hF (d_call Try.call20 hF (.cons rfl (.cons rfl .nil)) (markTensor_0 (1) _ (by omega))) rfl ?_
      rintro _ w' a ⟨hx, rfl⟩ hF
      have hM := hM.ext hx
      refine st hF (g_assign hF rfl) rfl fun a hF => ?_
      refine wpList_nil ?_
      refine tN ?_
      refine sq ?_
      refine wp_region_lit ?_
      refine st hF (g_assign hF rfl) rfl fun a hF => ?_
      refine wpList_nil ?_
      refine tN ?_
      refine sq ?_
      refine wp_region_lit ?_
      refine st hF (g_loadAgg ty_ag_27 hF rfl (hM.row 5 rfl) (by simp only [fnC_size, cells_size, vecC_size, tabC_size, planeC_size, tenC_size, smC_size, numC_size, numI_size] <;> omega) (whole rfl)) rfl fun a hF => st hF (g_move hF rfl) rfl fun a hF => ?_
      refine stR hF (d_call Try.call21 hF (.cons rfl (.cons rfl .nil)) (heldTensor_0 (1) _ (by omega))) rfl ?_
      rintro _ w' a ⟨hx, rfl⟩ hF
      have hM := hM.ext hx
      refine st hF (g_assign hF rfl) rfl fun a hF => ?_
      refine wpList_nil ?_
      refine tN ?_
      refine sq ?_
      refine sq ?_
      refine wp_region_lit ?_
      refine st hF (g_move hF rfl) rfl fun a hF => st hF (g_lss hF rfl rfl) rfl fun a hF => ?_
      refine wpList_nil ?_
      refine tN ?_
      refine c_cond hF rfl (fun h13 => ?_) (fun h13 => ?_)
      ·
        first | exact absurd rfl h13 | (exfalso; omega)
      ·
        refine wp_skip ?_
        refine tN ?_
        refine sq ?_
        refine sq ?_
        refine wp_region_lit ?_
        refine st hF (g_move hF rfl) rfl fun a hF => st hF (g_move hF rfl) rfl fun a hF => st hF (g_neq hF rfl rfl) rfl fun a hF => ?_
        refine wpList_nil ?_
        refine tN ?_
        refine c_kF hF rfl (by decide) ?_
        refine wp_skip ?_
        refine tN ?_
        refine sq ?_
        refine wp_region_lit ?_
        refine st hF (g_loadAgg ty_ag_24 hF rfl (hM.row 0 rfl) (by simp only [fnC_size, cells_size, vecC_size, tabC_size, planeC_size, tenC_size, smC_size, numC_size, numI_size] <;> omega) (whole rfl)) rfl fun a hF => ?_
        refine stR hF (d_call Try.call15 hF (.cons rfl .nil) (toTensor_ok p n i o sl m g _ (hs.ext hM.below) hm)) rfl ?_
        rintro _ w' a ⟨hx, b15, rfl, hge, hbk⟩ hF
        have hM := hM.fill hx 7 hbk hge
        change Mem w w' [some (b1, tenC p n i o sl), some (b3, numI m g), some (b4, tenC 0 0 0 0 (.slice none 0 0)), some (b5, numC m (fun c => (1) + c)), some (b6, tenC p n i o (.slice (some ⟨b5, 0, none⟩) m m)), some (b7, tenC 0 0 0 0 (.slice none 0 0)), some (b9, numI m g), some (b15, numI m g), none] [] at hM
        refine stR hF (d_call Try.call34 hF (.cons rfl .nil) (CloseTensorIR p n i o b15 m g _ (hM.row 7 rfl) (by omega) h1 hR)) rfl ?_
        rintro _ w' a ⟨hx, rfl⟩ hF
        have hM := hM.ext hx
        refine st hF (g_move hF rfl) rfl fun a hF => st hF (g_extract hF rfl rfl) rfl fun a hF => st hF (g_extract hF rfl rfl) rfl fun a hF => ?_
        refine stR hF (d_alloc 8 hM ty_ze_27) rfl ?_
        rintro _ w' a ⟨b16, rfl, hM, -⟩ hF
        change Mem w w' [some (b1, tenC p n i o sl), some (b3, numI m g), some (b4, tenC 0 0 0 0 (.slice none 0 0)), some (b5, numC m (fun c => (1) + c)), some (b6, tenC p n i o (.slice (some ⟨b5, 0, none⟩) m m)), some (b7, tenC 0 0 0 0 (.slice none 0 0)), some (b9, numI m g), some (b15, numI m g), some (b16, tenC 0 0 0 0 (.slice none 0 0))] [] at hM
        refine stN hF (d_storeAgg 8 hM rfl ty_sz_27 hF rfl rfl (tenC_one rfl) (by simp only [fnC_size, cells_size, vecC_size, tabC_size, planeC_size, tenC_size, smC_size, numC_size, numI_size]) (by simp only [fnC_size, cells_size, vecC_size, tabC_size, planeC_size, tenC_size, smC_size, numC_size, numI_size] <;> omega) (splice_whole _ _ rfl)) ?_
        intro _ w' a hM hF
        change Mem w w' [some (b1, tenC p n i o sl), some (b3, numI m g), some (b4, tenC 0 0 0 0 (.slice none 0 0)), some (b5, numC m (fun c => (1) + c)), some (b6, tenC p n i o (.slice (some ⟨b5, 0, none⟩) m m)), some (b7, tenC 0 0 0 0 (.slice none 0 0)), some (b9, numI m g), some (b15, numI m g), some (b16, tenC 0 0 0 0 (.slice none 0 0))] [] at hM
        refine st hF (g_assign hF rfl) rfl fun a hF => ?_
        refine wpList_nil ?_
        refine tN ?_
        refine sq ?_
        refine sq ?_
        refine wp_region_lit ?_
        refine st hF (g_loadAgg ty_ag_27 hF rfl (hM.row 8 rfl) (by simp only [fnC_size, cells_size, vecC_size, tabC_size, planeC_size, tenC_size, smC_size, numC_size, numI_size] <;> omega) (whole rfl)) rfl fun a hF => st hF (g_loadAgg ty_ag_27 hF rfl (hM.row 2 rfl) (by simp only [fnC_size, cells_size, vecC_size, tabC_size, planeC_size, tenC_size, smC_size, numC_size, numI_size] <;> omega) (whole rfl)) rfl fun a hF => ?_
        refine stR hF (d_call Try.call17 hF (.cons rfl (.cons rfl .nil)) (eqTensor_0 _)) rfl ?_
        rintro _ w' a ⟨hx, rfl⟩ hF
        have hM := hM.ext hx
        refine st hF (g_not hF rfl) rfl fun a hF => st hF (g_move hF rfl) rfl fun a hF => stY hF rfl rfl rfl (g_move hF rfl) rfl fun a hF => stY hF rfl rfl rfl (g_move hF rfl) rfl fun a hF => stY hF rfl rfl rfl (g_neq hF rfl rfl) rfl fun a hF => st hF (g_pickF hF rfl rfl) rfl fun a hF => ?_
        refine wpList_nil ?_
        refine tN ?_
        refine c_kF hF rfl (by decide) ?_
        refine wp_skip ?_
        refine tN ?_
        refine sq ?_
        refine wp_region_lit ?_
        refine st hF (g_assign hF rfl) rfl fun a hF => ?_
        refine wpList_nil ?_
        refine tN ?_
        refine sq ?_
        refine wp_region_lit ?_
        refine st hF (g_loadAgg ty_ag_27 hF rfl (hM.row 5 rfl) (by simp only [fnC_size, cells_size, vecC_size, tabC_size, planeC_size, tenC_size, smC_size, numC_size, numI_size] <;> omega) (whole rfl)) rfl fun a hF => st hF (g_move hF rfl) rfl fun a hF => ?_
        refine stR hF (d_call Try.call21 hF (.cons rfl (.cons rfl .nil)) (heldTensor_0 (1) _ (by omega))) rfl ?_
        rintro _ w' a ⟨hx, rfl⟩ hF
        have hM := hM.ext hx
        refine st hF (g_assign hF rfl) rfl fun a hF => ?_
        refine wpList_nil ?_
        refine tN ?_
        refine sq ?_
        refine sq ?_
        refine wp_region_lit ?_
        refine st hF (g_move hF rfl) rfl fun a hF => st hF (g_lss hF rfl rfl) rfl fun a hF => ?_
        refine wpList_nil ?_
        refine tN ?_
        refine c_kF hF rfl h13 ?_
        refine wp_skip ?_
        refine tN ?_
        refine sq ?_
        refine sq ?_
        refine wp_region_lit ?_
        refine st hF (g_move hF rfl) rfl fun a hF => st hF (g_move hF rfl) rfl fun a hF => st hF (g_neq hF rfl rfl) rfl fun a hF => ?_
        refine wpList_nil ?_
        refine tN ?_
        refine c_kF hF rfl (by decide) ?_
        refine wp_skip ?_
        refine tN ?_
        refine sq ?_
        refine wp_region_lit ?_
        refine st hF (g_assign hF rfl) rfl fun a hF => ?_
        refine wpList_nil ?_
        refine tN ?_
        refine wp_ret ?_
        refine fin1 rfl hF.defers (res_tmp hF rfl) ⟨_, rfl, hM.below, ?_⟩
        show _ = _
        rfl

theorem law_CloseTensorB (p n i o : Nat) (sl : Value) (f : Nat → Nat) (w : World) (hpP : primeP (p : Int)) (hn0 : 0 < n) (hn : n ≤ 6) (hwa : wl n (i + 1) (o + 1)) (hfp : ∀ c, f c < p) (hs : ArgSl w sl (n ^ ((i + 1) + (o + 1))) (fun c => ((f c : Nat) : Int))) :
    CallsR Try.prog 10 #[.agg (tenC (p : Int) (n : Int) ((i + 1 : Nat) : Int) ((o + 1 : Nat) : Int) sl)] w (fun res _ => res = .bool true) := by
  refine calls_fr [.agg (tenC (p : Int) (n : Int) ((i + 1 : Nat) : Int) ((o + 1 : Nat) : Int) sl)] Try.func10 rfl Try.ntmps10 rfl fun a hF => ?_
  have hM : Mem w w [none, none, none, none, none, none, none, none, none, none, none, none] [] := MemX.start w 12
  change Fr 96 a [(0, .agg (tenC (p : Int) (n : Int) ((i + 1 : Nat) : Int) ((o + 1 : Nat) : Int) sl))] at hF
  have hso := hs.one
  have hwa3 := hwa.2.2
  have hE : n ^ (i + o) ≤ n ^ ((i + 1) + (o + 1)) := Nat.pow_le_pow_right hn0 (by omega)
  refine sq ?_
  refine wp_region_lit ?_
  refine stR hF (d_box 0 hM hF rfl) rfl ?_
  rintro _ w' a ⟨b1, rfl, hM, -⟩ hF
  change Mem w w' [some (b1, tenC (p : Int) (n : Int) ((i + 1 : Nat) : Int) ((o + 1 : Nat) : Int) sl), none, none, none, none, none, none, none, none, none, none, none] [] at hM
  refine st hF (g_assign hF rfl) rfl fun a hF => ?_
  refine wpList_nil ?_
  refine tN ?_
  refine sq ?_
  refine wp_region_lit ?_
  refine st hF (g_assign hF rfl) rfl fun a hF => ?_
  refine wpList_nil ?_
  refine tN ?_
  refine sq ?_
  refine wp_region_lit ?_
  refine st hF (g_loadAgg ty_ag_24 hF rfl (hM.row 0 rfl) (by simp only [fnC_size, cells_size, vecC_size, tabC_size, planeC_size, tenC_size, smC_size, numC_size, numI_size] <;> omega) (whole rfl)) rfl fun a hF => st hF (g_move hF rfl) rfl fun a hF => ?_
  refine stR hF (d_call Try.call13 hF (.cons rfl (.cons rfl .nil)) (szTensor_ok (p : Int) (n : Int) ((i + 1 : Nat) : Int) ((o + 1 : Nat) : Int) sl (n ^ ((i + 1) + (o + 1))) (1048576) (fun c => ((f c : Nat) : Int)) _ (hs.ext hM.below) (by omega) (by omega))) rfl ?_
  rintro _ w' a ⟨hx, rfl⟩ hF
  have hM := hM.ext hx
  refine st hF (g_assign hF rfl) rfl fun a hF => ?_
  refine wpList_nil ?_
  refine tN ?_
  refine sq ?_
  refine sq ?_
  refine wp_region_lit ?_
  refine st hF (g_move hF rfl) rfl fun a hF => st hF (g_lss hF rfl rfl) rfl fun a hF => ?_
  refine wpList_nil ?_
  refine tN ?_
  refine c_cond hF rfl (fun h2 => ?_) (fun h2 => ?_)
  ·
    first | exact absurd rfl h2 | (exfalso; omega)
  ·
    refine wp_skip ?_
    refine tN ?_
    refine sq ?_
    refine wp_region_lit ?_
    refine st hF (g_loadAgg ty_ag_24 hF rfl (hM.row 0 rfl) (by simp only [fnC_size, cells_size, vecC_size, tabC_size, planeC_size, tenC_size, smC_size, numC_size, numI_size] <;> omega) (whole rfl)) rfl fun a hF => ?_
    refine stR hF (d_call Try.call15 hF (.cons rfl .nil) (toTensor_ok (p : Int) (n : Int) ((i + 1 : Nat) : Int) ((o + 1 : Nat) : Int) sl (n ^ ((i + 1) + (o + 1))) (fun c => ((f c : Nat) : Int)) _ (hs.ext hM.below) (by omega))) rfl ?_
    rintro _ w' a ⟨hx, b3, rfl, hge, hbk⟩ hF
    have hM := hM.fill hx 1 hbk hge
    change Mem w w' [some (b1, tenC (p : Int) (n : Int) ((i + 1 : Nat) : Int) ((o + 1 : Nat) : Int) sl), some (b3, numC (n ^ ((i + 1) + (o + 1))) f), none, none, none, none, none, none, none, none, none, none] [] at hM
    refine stR hF (d_call Try.call33 hF (.cons rfl .nil) (CloseTensorSB p n i o b3 f _ hpP hn0 hn hwa hfp (hM.row 1 rfl))) rfl ?_
    rintro _ w' a ⟨hx, b4, rfl, hge, hbk⟩ hF
    have hM := hM.fill hx 2 hbk hge
    change Mem w w' [some (b1, tenC (p : Int) (n : Int) ((i + 1 : Nat) : Int) ((o + 1 : Nat) : Int) sl), some (b3, numC (n ^ ((i + 1) + (o + 1))) f), some (b4, numC (n ^ (i + o)) (acF p (n ^ o) n (clT n (n ^ o) f) (n ^ i) 0)), none, none, none, none, none, none, none, none, none] [] at hM
    refine st hF (g_move hF rfl) rfl fun a hF => st hF (g_extract hF rfl rfl) rfl fun a hF => st hF (g_extract hF rfl rfl) rfl fun a hF => ?_
    refine stR hF (d_alloc 3 hM ty_ze_27) rfl ?_
    rintro _ w' a ⟨b5, rfl, hM, -⟩ hF
    change Mem w w' [some (b1, tenC (p : Int) (n : Int) ((i + 1 : Nat) : Int) ((o + 1 : Nat) : Int) sl), some (b3, numC (n ^ ((i + 1) + (o + 1))) f), some (b4, numC (n ^ (i + o)) (acF p (n ^ o) n (clT n (n ^ o) f) (n ^ i) 0)), some (b5, tenC 0 0 0 0 (.slice none 0 0)), none, none, none, none, none, none, none, none] [] at hM
    refine stN hF (d_storeAgg 3 hM rfl ty_sz_27 hF rfl rfl (tenC_one rfl) (by simp only [fnC_size, cells_size, vecC_size, tabC_size, planeC_size, tenC_size, smC_size, numC_size, numI_size]) (by simp only [fnC_size, cells_size, vecC_size, tabC_size, planeC_size, tenC_size, smC_size, numC_size, numI_size] <;> omega) (splice_whole _ _ rfl)) ?_
    intro _ w' a hM hF
    change Mem w w' [some (b1, tenC (p : Int) (n : Int) ((i + 1 : Nat) : Int) ((o + 1 : Nat) : Int) sl), some (b3, numC (n ^ ((i + 1) + (o + 1))) f), some (b4, numC (n ^ (i + o)) (acF p (n ^ o) n (clT n (n ^ o) f) (n ^ i) 0)), some (b5, tenC (p : Int) (n : Int) (i : Int) (o : Int) (.slice (some ⟨b4, 0, none⟩) (n ^ (i + o)) (n ^ (i + o)))), none, none, none, none, none, none, none, none] [] at hM
    refine st hF (g_assign hF rfl) rfl fun a hF => ?_
    refine wpList_nil ?_
    refine tN ?_
    refine sq ?_
    refine wp_region_lit ?_
    refine st hF (g_loadAgg ty_ag_24 hF rfl (hM.row 0 rfl) (by simp only [fnC_size, cells_size, vecC_size, tabC_size, planeC_size, tenC_size, smC_size, numC_size, numI_size] <;> omega) (whole rfl)) rfl fun a hF => ?_
    refine stR hF (d_call Try.call15 hF (.cons rfl .nil) (toTensor_ok (p : Int) (n : Int) ((i + 1 : Nat) : Int) ((o + 1 : Nat) : Int) sl (n ^ ((i + 1) + (o + 1))) (fun c => ((f c : Nat) : Int)) _ (hs.ext hM.below) (by omega))) rfl ?_
    rintro _ w' a ⟨hx, b6, rfl, hge, hbk⟩ hF
    have hM := hM.fill hx 4 hbk hge
    change Mem w w' [some (b1, tenC (p : Int) (n : Int) ((i + 1 : Nat) : Int) ((o + 1 : Nat) : Int) sl), some (b3, numC (n ^ ((i + 1) + (o + 1))) f), some (b4, numC (n ^ (i + o)) (acF p (n ^ o) n (clT n (n ^ o) f) (n ^ i) 0)), some (b5, tenC (p : Int) (n : Int) (i : Int) (o : Int) (.slice (some ⟨b4, 0, none⟩) (n ^ (i + o)) (n ^ (i + o)))), some (b6, numC (n ^ ((i + 1) + (o + 1))) f), none, none, none, none, none, none, none] [] at hM
    refine stR hF (d_alloc 5 hM ty_ze_27) rfl ?_
    rintro _ w' a ⟨b7, rfl, hM, -⟩ hF
    change Mem w w' [some (b1, tenC (p : Int) (n : Int) ((i + 1 : Nat) : Int) ((o + 1 : Nat) : Int) sl), some (b3, numC (n ^ ((i + 1) + (o + 1))) f), some (b4, numC (n ^ (i + o)) (acF p (n ^ o) n (clT n (n ^ o) f) (n ^ i) 0)), some (b5, tenC (p : Int) (n : Int) (i : Int) (o : Int) (.slice (some ⟨b4, 0, none⟩) (n ^ (i + o)) (n ^ (i + o)))), some (b6, numC (n ^ ((i + 1) + (o + 1))) f), some (b7, tenC 0 0 0 0 (.slice none 0 0)), none, none, none, none, none, none] [] at hM
    refine stN hF (d_storeAgg 5 hM rfl ty_sz_27 hF rfl rfl (tenC_one rfl) (by simp only [fnC_size, cells_size, vecC_size, tabC_size, planeC_size, tenC_size, smC_size, numC_size, numI_size]) (by simp only [fnC_size, cells_size, vecC_size, tabC_size, planeC_size, tenC_size, smC_size, numC_size, numI_size] <;> omega) (splice_whole _ _ rfl)) ?_
    intro _ w' a hM hF
    change Mem w w' [some (b1, tenC (p : Int) (n : Int) ((i + 1 : Nat) : Int) ((o + 1 : Nat) : Int) sl), some (b3, numC (n ^ ((i + 1) + (o + 1))) f), some (b4, numC (n ^ (i + o)) (acF p (n ^ o) n (clT n (n ^ o) f) (n ^ i) 0)), some (b5, tenC (p : Int) (n : Int) (i : Int) (o : Int) (.slice (some ⟨b4, 0, none⟩) (n ^ (i + o)) (n ^ (i + o)))), some (b6, numC (n ^ ((i + 1) + (o + 1))) f), some (b7, tenC (p : Int) (n : Int) ((i + 1 : Nat) : Int) ((o + 1 : Nat) : Int) (.slice (some ⟨b6, 0, none⟩) (n ^ ((i + 1) + (o + 1))) (n ^ ((i + 1) + (o + 1))))), none, none, none, none, none, none] [] at hM
    refine wpList_nil ?_
    refine tN ?_
    refine sq ?_
    refine wp_region_lit ?_
    refine st hF (g_loadAgg ty_ag_27 hF rfl (hM.row 5 rfl) (by simp only [fnC_size, cells_size, vecC_size, tabC_size, planeC_size, tenC_size, smC_size, numC_size, numI_size] <;> omega) (whole rfl)) rfl fun a hF => ?_
    refine stR hF (d_call Try.call34 hF (.cons rfl .nil) (CloseTensorIB p n i o b6 f _ hpP hn0 hn hwa hfp (hM.row 4 rfl))) rfl ?_
    rintro _ w' a ⟨hx, b8, rfl, hge, hbk⟩ hF
    have hM := hM.fill hx 6 hbk hge
    change Mem w w' [some (b1, tenC (p : Int) (n : Int) ((i + 1 : Nat) : Int) ((o + 1 : Nat) : Int) sl), some (b3, numC (n ^ ((i + 1) + (o + 1))) f), some (b4, numC (n ^ (i + o)) (acF p (n ^ o) n (clT n (n ^ o) f) (n ^ i) 0)), some (b5, tenC (p : Int) (n : Int) (i : Int) (o : Int) (.slice (some ⟨b4, 0, none⟩) (n ^ (i + o)) (n ^ (i + o)))), some (b6, numC (n ^ ((i + 1) + (o + 1))) f), some (b7, tenC (p : Int) (n : Int) ((i + 1 : Nat) : Int) ((o + 1 : Nat) : Int) (.slice (some ⟨b6, 0, none⟩) (n ^ ((i + 1) + (o + 1))) (n ^ ((i + 1) + (o + 1))))), some (b8, numC (n ^ (i + o)) (acF p (n ^ o) n (clT n (n ^ o) f) (n ^ i) 0)), none, none, none, none, none] [] at hM
    refine st hF (g_move hF rfl) rfl fun a hF => st hF (g_extract hF rfl rfl) rfl fun a hF => st hF (g_extract hF rfl rfl) rfl fun a hF => ?_
    refine stR hF (d_alloc 7 hM ty_ze_27) rfl ?_
    rintro _ w' a ⟨b9, rfl, hM, -⟩ hF
    change Mem w w' [some (b1, tenC (p : Int) (n : Int) ((i + 1 : Nat) : Int) ((o + 1 : Nat) : Int) sl), some (b3, numC (n ^ ((i + 1) + (o + 1))) f), some (b4, numC (n ^ (i + o)) (acF p (n ^ o) n (clT n (n ^ o) f) (n ^ i) 0)), some (b5, tenC (p : Int) (n : Int) (i : Int) (o : Int) (.slice (some ⟨b4, 0, none⟩) (n ^ (i + o)) (n ^ (i + o)))), some (b6, numC (n ^ ((i + 1) + (o + 1))) f), some (b7, tenC (p : Int) (n : Int) ((i + 1 : Nat) : Int) ((o + 1 : Nat) : Int) (.slice (some ⟨b6, 0, none⟩) (n ^ ((i + 1) + (o + 1))) (n ^ ((i + 1) + (o + 1))))), some (b8, numC (n ^ (i + o)) (acF p (n ^ o) n (clT n (n ^ o) f) (n ^ i) 0)), some (b9, tenC 0 0 0 0 (.slice none 0 0)), none, none, none, none] [] at hM
    refine stN hF (d_storeAgg 7 hM rfl ty_sz_27 hF rfl rfl (tenC_one rfl) (by simp only [fnC_size, cells_size, vecC_size, tabC_size, planeC_size, tenC_size, smC_size, numC_size, numI_size]) (by simp only [fnC_size, cells_size, vecC_size, tabC_size, planeC_size, tenC_size, smC_size, numC_size, numI_size] <;> omega) (splice_whole _ _ rfl)) ?_
    intro _ w' a hM hF
    change Mem w w' [some (b1, tenC (p : Int) (n : Int) ((i + 1 : Nat) : Int) ((o + 1 : Nat) : Int) sl), some (b3, numC (n ^ ((i + 1) + (o + 1))) f), some (b4, numC (n ^ (i + o)) (acF p (n ^ o) n (clT n (n ^ o) f) (n ^ i) 0)), some (b5, tenC (p : Int) (n : Int) (i : Int) (o : Int) (.slice (some ⟨b4, 0, none⟩) (n ^ (i + o)) (n ^ (i + o)))), some (b6, numC (n ^ ((i + 1) + (o + 1))) f), some (b7, tenC (p : Int) (n : Int) ((i + 1 : Nat) : Int) ((o + 1 : Nat) : Int) (.slice (some ⟨b6, 0, none⟩) (n ^ ((i + 1) + (o + 1))) (n ^ ((i + 1) + (o + 1))))), some (b8, numC (n ^ (i + o)) (acF p (n ^ o) n (clT n (n ^ o) f) (n ^ i) 0)), some (b9, tenC (p : Int) (n : Int) (i : Int) (o : Int) (.slice (some ⟨b8, 0, none⟩) (n ^ (i + o)) (n ^ (i + o)))), none, none, none, none] [] at hM
    refine st hF (g_assign hF rfl) rfl fun a hF => ?_
    refine wpList_nil ?_
    refine tN ?_
    refine sq ?_
    refine sq ?_
    refine wp_region_lit ?_
    refine st hF (g_loadAgg ty_ag_27 hF rfl (hM.row 7 rfl) (by simp only [fnC_size, cells_size, vecC_size, tabC_size, planeC_size, tenC_size, smC_size, numC_size, numI_size] <;> omega) (whole rfl)) rfl fun a hF => st hF (g_loadAgg ty_ag_27 hF rfl (hM.row 3 rfl) (by simp only [fnC_size, cells_size, vecC_size, tabC_size, planeC_size, tenC_size, smC_size, numC_size, numI_size] <;> omega) (whole rfl)) rfl fun a hF => ?_
    refine stR hF (d_call Try.call17 hF (.cons rfl (.cons rfl .nil)) (eqTensor_ok (p : Int) (n : Int) (i : Int) (o : Int) b8 b4 (n ^ (i + o)) (fun c => (((acF p (n ^ o) n (clT n (n ^ o) f) (n ^ i) 0) c : Nat) : Int)) (fun c => (((acF p (n ^ o) n (clT n (n ^ o) f) (n ^ i) 0) c : Nat) : Int)) _ (hM.row 6 rfl) (hM.row 2 rfl) (by omega) (fun _ _ => rfl))) rfl ?_
    rintro _ w' a ⟨hx, rfl⟩ hF
    have hM := hM.ext hx
    refine st hF (g_not hF rfl) rfl fun a hF => st hF (g_move hF rfl) rfl fun a hF => stY hF rfl rfl rfl (g_move hF rfl) rfl fun a hF => stY hF rfl rfl rfl (g_move hF rfl) rfl fun a hF => stY hF rfl rfl rfl (g_neq hF rfl rfl) rfl fun a hF => st hF (g_pickF hF rfl rfl) rfl fun a hF => ?_
    refine wpList_nil ?_
    refine tN ?_
    refine c_kF hF rfl (by decide) ?_
    refine wp_skip ?_
    refine tN ?_
    refine sq ?_
    refine sq ?_
    refine c_par 3 [8] [.val (.agg (tenC (p : Int) (n : Int) ((i + 1 : Nat) : Int) ((o + 1 : Nat) : Int) (.slice (some ⟨b6, 0, none⟩) (n ^ ((i + 1) + (o + 1))) (n ^ ((i + 1) + (o + 1)))))), .val (.agg (tenC (p : Int) (n : Int) ((i + 1 : Nat) : Int) ((o + 1 : Nat) : Int) sl)), .own 8 (numC (n ^ ((i + 1) + (o + 1))) f) (fun b => .agg (tenC (p : Int) (n : Int) ((i + 1 : Nat) : Int) ((o + 1 : Nat) : Int) (.slice (some ⟨b, 0, none⟩) (n ^ ((i + 1) + (o + 1))) (n ^ ((i + 1) + (o + 1))))))] hmix rfl hF rfl hM ⟨fun a w gG hF hS hd => by have hM := hS.mem rfl; exact par_val hS rfl (g_loadAgg ty_ag_27 hF rfl (hM.row 5 rfl) (by simp only [fnC_size, cells_size, vecC_size, tabC_size, planeC_size, tenC_size, smC_size, numC_size, numI_size] <;> omega) (whole rfl)), fun a w gG hF hS hd => by have hM := hS.mem rfl; exact par_val hS rfl (g_loadAgg ty_ag_24 hF rfl (hM.row 0 rfl) (by simp only [fnC_size, cells_size, vecC_size, tabC_size, planeC_size, tenC_size, smC_size, numC_size, numI_size] <;> omega) (whole rfl)), fun a w gG hF hS hd => by have hF := hF.ext1 42 (hd 1 rfl rfl); have hM := hS.mem rfl; exact par_own (by repeat constructor) hS rfl rfl rfl rfl (d_callOwnB 8 hS.1 (d_call Try.call15 hF (.cons rfl .nil) (toTensor_ok (p : Int) (n : Int) ((i + 1 : Nat) : Int) ((o + 1 : Nat) : Int) sl (n ^ ((i + 1) + (o + 1))) (fun c => ((f c : Nat) : Int)) _ (hs.ext hM.below) (by omega)))), trivial⟩ ?_
    intro a w' L hF hS hq
    have hF := hF.ext1 41 (hq 0 rfl rfl)
    have hF := hF.ext1 42 (hq 1 rfl rfl)
    obtain ⟨hM, hL⟩ := hS
    obtain ⟨b11, hptr, hkk⟩ := hq 2 rfl rfl
    have hF := hF.ext1 43 hptr
    have hL := hL.take hkk
    obtain rfl := hL.eq
    change Mem w w' [some (b1, tenC (p : Int) (n : Int) ((i + 1 : Nat) : Int) ((o + 1 : Nat) : Int) sl), some (b3, numC (n ^ ((i + 1) + (o + 1))) f), some (b4, numC (n ^ (i + o)) (acF p (n ^ o) n (clT n (n ^ o) f) (n ^ i) 0)), some (b5, tenC (p : Int) (n : Int) (i : Int) (o : Int) (.slice (some ⟨b4, 0, none⟩) (n ^ (i + o)) (n ^ (i + o)))), some (b6, numC (n ^ ((i + 1) + (o + 1))) f), some (b7, tenC (p : Int) (n : Int) ((i + 1 : Nat) : Int) ((o + 1 : Nat) : Int) (.slice (some ⟨b6, 0, none⟩) (n ^ ((i + 1) + (o + 1))) (n ^ ((i + 1) + (o + 1))))), some (b8, numC (n ^ (i + o)) (acF p (n ^ o) n (clT n (n ^ o) f) (n ^ i) 0)), some (b9, tenC (p : Int) (n : Int) (i : Int) (o : Int) (.slice (some ⟨b8, 0, none⟩) (n ^ (i + o)) (n ^ (i + o)))), some (b11, numC (n ^ ((i + 1) + (o + 1))) f), none, none, none] [] at hM
    change wpList Try.prog _ _ [_, _] _ _
    refine stR hF (d_call Try.call17 hF (.cons rfl (.cons rfl .nil)) (eqTensor_ok (p : Int) (n : Int) ((i + 1 : Nat) : Int) ((o + 1 : Nat) : Int) b6 b11 (n ^ ((i + 1) + (o + 1))) (fun c => ((f c : Nat) : Int)) (fun c => ((f c : Nat) : Int)) _ (hM.row 4 rfl) (hM.row 8 rfl) (by omega) (fun _ _ => rfl))) rfl ?_
    rintro _ w' a ⟨hx, rfl⟩ hF
    have hM := hM.ext hx
    refine st hF (g_not hF rfl) rfl fun a hF => ?_
    refine wpList_nil ?_
    refine tN ?_
    refine c_Fl hF rfl ?_
    refine wp_skip ?_
    refine tN ?_
    refine sq ?_
    refine wp_region_lit ?_
    refine st hF (g_assign hF rfl) rfl fun a hF => ?_
    refine wpList_nil ?_
    refine tN ?_
    refine sq ?_
    refine wp_region_lit ?_
    refine st hF (g_loadAgg ty_ag_27 hF rfl (hM.row 5 rfl) (by simp only [fnC_size, cells_size, vecC_size, tabC_size, planeC_size, tenC_size, smC_size, numC_size, numI_size] <;> omega) (whole rfl)) rfl fun a hF => st hF (g_move hF rfl) rfl fun a hF => ?_
    refine stR hF (d_callX Try.call20 hF (.cons rfl (.cons rfl .nil)) (markTensor_ok (p : Int) (n : Int) ((i + 1 : Nat) : Int) ((o + 1 : Nat) : Int) b6 (n ^ ((i + 1) + (o + 1))) (1) (fun c => ((f c : Nat) : Int)) _ (by omega) (by omega) (hM.row 4 rfl))) rfl ?_
    rintro _ w' a ⟨hx, rfl, hbk⟩ hF
    have hM := hM.upd 4 rfl hx hbk
    change Mem w w' [some (b1, tenC (p : Int) (n : Int) ((i + 1 : Nat) : Int) ((o + 1 : Nat) : Int) sl), some (b3, numC (n ^ ((i + 1) + (o + 1))) f), some (b4, numC (n ^ (i + o)) (acF p (n ^ o) n (clT n (n ^ o) f) (n ^ i) 0)), some (b5, tenC (p : Int) (n : Int) (i : Int) (o : Int) (.slice (some ⟨b4, 0, none⟩) (n ^ (i + o)) (n ^ (i + o)))), some (b6, numC (n ^ ((i + 1) + (o + 1))) (fun c => (1) + c)), some (b7, tenC (p : Int) (n : Int) ((i + 1 : Nat) : Int) ((o + 1 : Nat) : Int) (.slice (some ⟨b6, 0, none⟩) (n ^ ((i + 1) + (o + 1))) (n ^ ((i + 1) + (o + 1))))), some (b8, numC (n ^ (i + o)) (acF p (n ^ o) n (clT n (n ^ o) f) (n ^ i) 0)), some (b9, tenC (p : Int) (n : Int) (i : Int) (o : Int) (.slice (some ⟨b8, 0, none⟩) (n ^ (i + o)) (n ^ (i + o)))), some (b11, numC (n ^ ((i + 1) + (o + 1))) f), none, none, none] [] at hM
    refine st hF (g_assign hF rfl) rfl fun a hF => ?_
    refine wpList_nil ?_
    refine tN ?_
    refine sq ?_
    refine sq ?_
    refine wp_region_lit ?_
    refine st hF (g_move hF rfl) rfl fun a hF => st hF (g_lss hF rfl rfl) rfl fun a hF => st hF (g_move hF rfl) rfl fun a hF => ?_
    by_cases g13 : (((1 + (n ^ ((i + 1) + (o + 1))) : Nat) : Int) : Int) < 0
    ·
      first | rw [decide_eq_true g13] at hF | simp only [decide_eq_true g13] at hF
      first | exact absurd rfl g13 | (exfalso; omega)
    ·
      first | rw [decide_eq_false g13] at hF | simp only [decide_eq_false g13] at hF
      refine stY hF rfl rfl rfl (g_loadAgg ty_ag_27 hF rfl (hM.row 7 rfl) (by simp only [fnC_size, cells_size, vecC_size, tabC_size, planeC_size, tenC_size, smC_size, numC_size, numI_size] <;> omega) (whole rfl)) rfl fun a hF => stY hF rfl rfl rfl (g_loadAgg ty_ag_27 hF rfl (hM.row 3 rfl) (by simp only [fnC_size, cells_size, vecC_size, tabC_size, planeC_size, tenC_size, smC_size, numC_size, numI_size] <;> omega) (whole rfl)) rfl fun a hF => ?_
      refine stYR hF rfl rfl rfl (d_call Try.call17 hF (.cons rfl (.cons rfl .nil)) (eqTensor_ok (p : Int) (n : Int) (i : Int) (o : Int) b8 b4 (n ^ (i + o)) (fun c => (((acF p (n ^ o) n (clT n (n ^ o) f) (n ^ i) 0) c : Nat) : Int)) (fun c => (((acF p (n ^ o) n (clT n (n ^ o) f) (n ^ i) 0) c : Nat) : Int)) _ (hM.row 6 rfl) (hM.row 2 rfl) (by omega) (fun _ _ => rfl))) rfl ?_
      rintro _ w' a ⟨hx, rfl⟩ hF
      have hM := hM.ext hx
      refine stY hF rfl rfl rfl (g_not hF rfl) rfl fun a hF => st hF (g_pickF hF rfl rfl) rfl fun a hF => st hF (g_move hF rfl) rfl fun a hF => stY hF rfl rfl rfl (g_move hF rfl) rfl fun a hF => stY hF rfl rfl rfl (g_move hF rfl) rfl fun a hF => stY hF rfl rfl rfl (g_neq hF rfl rfl) rfl fun a hF => st hF (g_pickF hF rfl rfl) rfl fun a hF => ?_
      refine wpList_nil ?_
      refine tN ?_
      refine c_kF hF rfl (by decide) ?_
      refine wp_skip ?_
      refine tN ?_
      refine sq ?_
      refine wp_region_lit ?_
      refine st hF (g_assign hF rfl) rfl fun a hF => ?_
      refine wpList_nil ?_
      refine tN ?_
      refine sq ?_
      refine wp_region_lit ?_
      refine st hF (g_loadAgg ty_ag_27 hF rfl (hM.row 7 rfl) (by simp only [fnC_size, cells_size, vecC_size, tabC_size, planeC_size, tenC_size, smC_size, numC_size, numI_size] <;> omega) (whole rfl)) rfl fun a hF => st hF (g_move hF rfl) rfl fun a hF => ?_
      refine stR hF (d_callX Try.call20 hF (.cons rfl (.cons rfl .nil)) (markTensor_ok (p : Int) (n : Int) (i : Int) (o : Int) b8 (n ^ (i + o)) (1) (fun c => (((acF p (n ^ o) n (clT n (n ^ o) f) (n ^ i) 0) c : Nat) : Int)) _ (by omega) (by omega) (hM.row 6 rfl))) rfl ?_
      rintro _ w' a ⟨hx, rfl, hbk⟩ hF
      have hM := hM.upd 6 rfl hx hbk
      change Mem w w' [some (b1, tenC (p : Int) (n : Int) ((i + 1 : Nat) : Int) ((o + 1 : Nat) : Int) sl), some (b3, numC (n ^ ((i + 1) + (o + 1))) f), some (b4, numC (n ^ (i + o)) (acF p (n ^ o) n (clT n (n ^ o) f) (n ^ i) 0)), some (b5, tenC (p : Int) (n : Int) (i : Int) (o : Int) (.slice (some ⟨b4, 0, none⟩) (n ^ (i + o)) (n ^ (i + o)))), some (b6, numC (n ^ ((i + 1) + (o + 1))) (fun c => (1) + c)), some (b7, tenC (p : Int) (n : Int) ((i + 1 : Nat) : Int) ((o + 1 : Nat) : Int) (.slice (some ⟨b6, 0, none⟩) (n ^ ((i + 1) + (o + 1))) (n ^ ((i + 1) + (o + 1))))), some (b8, numC (n ^ (i + o)) (fun c => (1) + c)), some (b9, tenC (p : Int) (n : Int) (i : Int) (o : Int) (.slice (some ⟨b8, 0, none⟩) (n ^ (i + o)) (n ^ (i + o)))), some (b11, numC (n ^ ((i + 1) + (o + 1))) f), none, none, none] [] at hM
      refine st hF (g_assign hF rfl) rfl fun a hF => ?_
      refine wpList_nil ?_
      refine tN ?_
      refine sq ?_
      refine wp_region_lit ?_
      refine st hF (g_assign hF rfl) rfl fun a hF => ?_
      refine wpList_nil ?_
      refine tN ?_
      refine sq ?_
      refine wp_region_lit ?_
      refine st hF (g_loadAgg ty_ag_27 hF rfl (hM.row 7 rfl) (by simp only [fnC_size, cells_size, vecC_size, tabC_size, planeC_size, tenC_size, smC_size, numC_size, numI_size] <;> omega) (whole rfl)) rfl fun a hF => st hF (g_move hF rfl) rfl fun a hF => ?_
      refine stR hF (d_call Try.call21 hF (.cons rfl (.cons rfl .nil)) (heldTensor_ok (p : Int) (n : Int) (i : Int) (o : Int) b8 (n ^ (i + o)) (1) (fun c => (1) + c) _ (by omega) (by omega) (hM.row 6 rfl) (fun c _ => by omega))) rfl ?_
      rintro _ w' a ⟨hx, rfl⟩ hF
      have hM := hM.ext hx
      refine st hF (g_assign hF rfl) rfl fun a hF => ?_
      refine wpList_nil ?_
      refine tN ?_
      refine sq ?_
      refine sq ?_
      refine wp_region_lit ?_
      refine st hF (g_move hF rfl) rfl fun a hF => st hF (g_lss hF rfl rfl) rfl fun a hF => ?_
      refine wpList_nil ?_
      refine tN ?_
      refine c_cond hF rfl (fun h15 => ?_) (fun h15 => ?_)
      ·
        first | exact absurd rfl h15 | (exfalso; omega)
      ·
        refine wp_skip ?_
        refine tN ?_
        refine sq ?_
        refine sq ?_
        refine wp_region_lit ?_
        refine st hF (g_move hF rfl) rfl fun a hF => st hF (g_move hF rfl) rfl fun a hF => st hF (g_neq hF rfl rfl) rfl fun a hF => ?_
        refine wpList_nil ?_
        refine tN ?_
        refine c_cond hF rfl (fun h16 => ?_) (fun h16 => ?_)
        ·
          first | exact absurd rfl h16 | (exfalso; omega)
        ·
          refine wp_skip ?_
          refine tN ?_
          refine sq ?_
          refine wp_region_lit ?_
          refine st hF (g_loadAgg ty_ag_24 hF rfl (hM.row 0 rfl) (by simp only [fnC_size, cells_size, vecC_size, tabC_size, planeC_size, tenC_size, smC_size, numC_size, numI_size] <;> omega) (whole rfl)) rfl fun a hF => ?_
          refine stR hF (d_call Try.call15 hF (.cons rfl .nil) (toTensor_ok (p : Int) (n : Int) ((i + 1 : Nat) : Int) ((o + 1 : Nat) : Int) sl (n ^ ((i + 1) + (o + 1))) (fun c => ((f c : Nat) : Int)) _ (hs.ext hM.below) (by omega))) rfl ?_
          rintro _ w' a ⟨hx, b17, rfl, hge, hbk⟩ hF
          have hM := hM.fill hx 9 hbk hge
          change Mem w w' [some (b1, tenC (p : Int) (n : Int) ((i + 1 : Nat) : Int) ((o + 1 : Nat) : Int) sl), some (b3, numC (n ^ ((i + 1) + (o + 1))) f), some (b4, numC (n ^ (i + o)) (acF p (n ^ o) n (clT n (n ^ o) f) (n ^ i) 0)), some (b5, tenC (p : Int) (n : Int) (i : Int) (o : Int) (.slice (some ⟨b4, 0, none⟩) (n ^ (i + o)) (n ^ (i + o)))), some (b6, numC (n ^ ((i + 1) + (o + 1))) (fun c => (1) + c)), some (b7, tenC (p : Int) (n : Int) ((i + 1 : Nat) : Int) ((o + 1 : Nat) : Int) (.slice (some ⟨b6, 0, none⟩) (n ^ ((i + 1) + (o + 1))) (n ^ ((i + 1) + (o + 1))))), some (b8, numC (n ^ (i + o)) (fun c => (1) + c)), some (b9, tenC (p : Int) (n : Int) (i : Int) (o : Int) (.slice (some ⟨b8, 0, none⟩) (n ^ (i + o)) (n ^ (i + o)))), some (b11, numC (n ^ ((i + 1) + (o + 1))) f), some (b17, numC (n ^ ((i + 1) + (o + 1))) f), none, none] [] at hM
          refine stR hF (d_call Try.call34 hF (.cons rfl .nil) (CloseTensorIB p n i o b17 f _ hpP hn0 hn hwa hfp (hM.row 9 rfl))) rfl ?_
          rintro _ w' a ⟨hx, b18, rfl, hge, hbk⟩ hF
          have hM := hM.fill hx 10 hbk hge
          change Mem w w' [some (b1, tenC (p : Int) (n : Int) ((i + 1 : Nat) : Int) ((o + 1 : Nat) : Int) sl), some (b3, numC (n ^ ((i + 1) + (o + 1))) f), some (b4, numC (n ^ (i + o)) (acF p (n ^ o) n (clT n (n ^ o) f) (n ^ i) 0)), some (b5, tenC (p : Int) (n : Int) (i : Int) (o : Int) (.slice (some ⟨b4, 0, none⟩) (n ^ (i + o)) (n ^ (i + o)))), some (b6, numC (n ^ ((i + 1) + (o + 1))) (fun c => (1) + c)), some (b7, tenC (p : Int) (n : Int) ((i + 1 : Nat) : Int) ((o + 1 : Nat) : Int) (.slice (some ⟨b6, 0, none⟩) (n ^ ((i + 1) + (o + 1))) (n ^ ((i + 1) + (o + 1))))), some (b8, numC (n ^ (i + o)) (fun c => (1) + c)), some (b9, tenC (p : Int) (n : Int) (i : Int) (o : Int) (.slice (some ⟨b8, 0, none⟩) (n ^ (i + o)) (n ^ (i + o)))), some (b11, numC (n ^ ((i + 1) + (o + 1))) f), some (b17, numC (n ^ ((i + 1) + (o + 1))) f), some (b18, numC (n ^ (i + o)) (acF p (n ^ o) n (clT n (n ^ o) f) (n ^ i) 0)), none] [] at hM
          refine st hF (g_move hF rfl) rfl fun a hF => st hF (g_extract hF rfl rfl) rfl fun a hF => st hF (g_extract hF rfl rfl) rfl fun a hF => ?_
          refine stR hF (d_alloc 11 hM ty_ze_27) rfl ?_
          rintro _ w' a ⟨b19, rfl, hM, -⟩ hF
          change Mem w w' [some (b1, tenC (p : Int) (n : Int) ((i + 1 : Nat) : Int) ((o + 1 : Nat) : Int) sl), some (b3, numC (n ^ ((i + 1) + (o + 1))) f), some (b4, numC (n ^ (i + o)) (acF p (n ^ o) n (clT n (n ^ o) f) (n ^ i) 0)), some (b5, tenC (p : Int) (n : Int) (i : Int) (o : Int) (.slice (some ⟨b4, 0, none⟩) (n ^ (i + o)) (n ^ (i + o)))), some (b6, numC (n ^ ((i + 1) + (o + 1))) (fun c => (1) + c)), some (b7, tenC (p : Int) (n : Int) ((i + 1 : Nat) : Int) ((o + 1 : Nat) : Int) (.slice (some ⟨b6, 0, none⟩) (n ^ ((i + 1) + (o + 1))) (n ^ ((i + 1) + (o + 1))))), some (b8, numC (n ^ (i + o)) (fun c => (1) + c)), some (b9, tenC (p : Int) (n : Int) (i : Int) (o : Int) (.slice (some ⟨b8, 0, none⟩) (n ^ (i + o)) (n ^ (i + o)))), some (b11, numC (n ^ ((i + 1) + (o + 1))) f), some (b17, numC (n ^ ((i + 1) + (o + 1))) f), some (b18, numC (n ^ (i + o)) (acF p (n ^ o) n (clT n (n ^ o) f) (n ^ i) 0)), some (b19, tenC 0 0 0 0 (.slice none 0 0))] [] at hM
          refine stN hF (d_storeAgg 11 hM rfl ty_sz_27 hF rfl rfl (tenC_one rfl) (by simp only [fnC_size, cells_size, vecC_size, tabC_size, planeC_size, tenC_size, smC_size, numC_size, numI_size]) (by simp only [fnC_size, cells_size, vecC_size, tabC_size, planeC_size, tenC_size, smC_size, numC_size, numI_size] <;> omega) (splice_whole _ _ rfl)) ?_
          intro _ w' a hM hF
          change Mem w w' [some (b1, tenC (p : Int) (n : Int) ((i + 1 : Nat) : Int) ((o + 1 : Nat) : Int) sl), some (b3, numC (n ^ ((i + 1) + (o + 1))) f), some (b4, numC (n ^ (i + o)) (acF p (n ^ o) n (clT n (n ^ o) f) (n ^ i) 0)), some (b5, tenC (p : Int) (n : Int) (i : Int) (o : Int) (.slice (some ⟨b4, 0, none⟩) (n ^ (i + o)) (n ^ (i + o)))), some (b6, numC (n ^ ((i + 1) + (o + 1))) (fun c => (1) + c)), some (b7, tenC (p : Int) (n : Int) ((i + 1 : Nat) : Int) ((o + 1 : Nat) : Int) (.slice (some ⟨b6, 0, none⟩) (n ^ ((i + 1) + (o + 1))) (n ^ ((i + 1) + (o + 1))))), some (b8, numC (n ^ (i + o)) (fun c => (1) + c)), some (b9, tenC (p : Int) (n : Int) (i : Int) (o : Int) (.slice (some ⟨b8, 0, none⟩) (n ^ (i + o)) (n ^ (i + o)))), some (b11, numC (n ^ ((i + 1) + (o + 1))) f), some (b17, numC (n ^ ((i + 1) + (o + 1))) f), some (b18, numC (n ^ (i + o)) (acF p (n ^ o) n (clT n (n ^ o) f) (n ^ i) 0)), some (b19, tenC (p : Int) (n : Int) (i : Int) (o : Int) (.slice (some ⟨b18, 0, none⟩) (n ^ (i + o)) (n ^ (i + o))))] [] at hM
          refine st hF (g_assign hF rfl) rfl fun a hF => ?_
          refine wpList_nil ?_
          refine tN ?_
          refine sq ?_
          refine sq ?_
          refine wp_region_lit ?_
          refine st hF (g_loadAgg ty_ag_27 hF rfl (hM.row 11 rfl) (by simp only [fnC_size, cells_size, vecC_size, tabC_size, planeC_size, tenC_size, smC_size, numC_size, numI_size] <;> omega) (whole rfl)) rfl fun a hF => st hF (g_loadAgg ty_ag_27 hF rfl (hM.row 3 rfl) (by simp only [fnC_size, cells_size, vecC_size, tabC_size, planeC_size, tenC_size, smC_size, numC_size, numI_size] <;> omega) (whole rfl)) rfl fun a hF => ?_
          refine stR hF (d_call Try.call17 hF (.cons rfl (.cons rfl .nil)) (eqTensor_ok (p : Int) (n : Int) (i : Int) (o : Int) b18 b4 (n ^ (i + o)) (fun c => (((acF p (n ^ o) n (clT n (n ^ o) f) (n ^ i) 0) c : Nat) : Int)) (fun c => (((acF p (n ^ o) n (clT n (n ^ o) f) (n ^ i) 0) c : Nat) : Int)) _ (hM.row 10 rfl) (hM.row 2 rfl) (by omega) (fun _ _ => rfl))) rfl ?_
          rintro _ w' a ⟨hx, rfl⟩ hF
          have hM := hM.ext hx
          refine st hF (g_not hF rfl) rfl fun a hF => st hF (g_move hF rfl) rfl fun a hF => stY hF rfl rfl rfl (g_move hF rfl) rfl fun a hF => stY hF rfl rfl rfl (g_move hF rfl) rfl fun a hF => stY hF rfl rfl rfl (g_neq hF rfl rfl) rfl fun a hF => st hF (g_pickF hF rfl rfl) rfl fun a hF => ?_
          refine wpList_nil ?_
          refine tN ?_
          refine c_kF hF rfl (by decide) ?_
          refine wp_skip ?_
          refine tN ?_
          refine sq ?_
          refine wp_region_lit ?_
          refine st hF (g_assign hF rfl) rfl fun a hF => ?_
          refine wpList_nil ?_
          refine tN ?_
          refine sq ?_
          refine wp_region_lit ?_
          refine st hF (g_loadAgg ty_ag_27 hF rfl (hM.row 7 rfl) (by simp only [fnC_size, cells_size, vecC_size, tabC_size, planeC_size, tenC_size, smC_size, numC_size, numI_size] <;> omega) (whole rfl)) rfl fun a hF => st hF (g_move hF rfl) rfl fun a hF => ?_
          refine stR hF (d_call Try.call21 hF (.cons rfl (.cons rfl .nil)) (heldTensor_ok (p : Int) (n : Int) (i : Int) (o : Int) b8 (n ^ (i + o)) (1) (fun c => (1) + c) _ (by omega) (by omega) (hM.row 6 rfl) (fun c _ => by omega))) rfl ?_
          rintro _ w' a ⟨hx, rfl⟩ hF
          have hM := hM.ext hx
          refine st hF (g_assign hF rfl) rfl fun a hF => ?_
          refine wpList_nil ?_
          refine tN ?_
          refine sq ?_
          refine sq ?_
          refine wp_region_lit ?_
          refine st hF (g_move hF rfl) rfl fun a hF => st hF (g_lss hF rfl rfl) rfl fun a hF => ?_
          refine wpList_nil ?_
          refine tN ?_
          refine c_kF hF rfl h15 ?_
          refine wp_skip ?_
          refine tN ?_
          refine sq ?_
          refine sq ?_
          refine wp_region_lit ?_
          refine st hF (g_move hF rfl) rfl fun a hF => st hF (g_move hF rfl) rfl fun a hF => st hF (g_neq hF rfl rfl) rfl fun a hF => ?_
          refine wpList_nil ?_
          refine tN ?_
          refine c_kF hF rfl h16 ?_
          refine wp_skip ?_
          refine tN ?_
          refine sq ?_
          refine wp_region_lit ?_
          refine st hF (g_assign hF rfl) rfl fun a hF => ?_
          refine wpList_nil ?_
          refine tN ?_
          refine wp_ret ?_
          refine fin1 rfl hF.defers (res_tmp hF rfl) ⟨_, rfl, hM.below, ?_⟩
          show _ = _
          rfl

theorem law_CloseTensor (p n i o : Int) (sl : Value) (m : Nat) (g : Nat → Int) (w : World) (hs : ArgSl w sl m g) (hml : m ≤ maxLen) : CallsV Try.prog 10 #[.agg (tenC p n i o sl)] w (.bool true) := by
  by_cases hz : m ≤ 1048576
  · by_cases h1 : TenP p n i o m g
    · by_cases hR : 1 ≤ i ∧ 1 ≤ o
      · obtain ⟨p', n', i', o', f, rfl, rfl, rfl, rfl, hpP, hn0, hn, hwa, rfl, hfp, hf⟩ := h1.nat
        obtain ⟨i'', rfl⟩ : ∃ q : Nat, i' = q + 1 := ⟨i' - 1, by omega⟩
        obtain ⟨o'', rfl⟩ : ∃ q : Nat, o' = q + 1 := ⟨o' - 1, by omega⟩
        exact law_CloseTensorB p' n' i'' o'' sl f w hpP hn0 hn hwa hfp (hs.congr hf)
      · exact law_CloseTensorR p n i o sl m g w hs (by omega) hz h1 hR
    · exact law_CloseTensorA p n i o sl m g w hs (by omega) hz h1
  · exact law_CloseTensorZ p n i o sl m g w hs (by omega) hml

end Go.Proofs.Ythliekalhgafcaa
