/- What functions of the program return, as walks over their operations; no statement of the seat is proved here. -/
import Derived.Test.YtlpccepifehilaaV12
set_option linter.unusedVariables false
set_option linter.unusedSimpArgs false
namespace Go.Proofs.Ytlpccepifehilaa
open Go Go.RowKit Go.Sw Go.Ech
open Classical
theorem ty_ag_24 : aggP Try.prog 24 = some 5 := by kernel_rfl
theorem law_PermuteTensorZ1 (p n i o : Int) (sl : Value) (m0 : Nat) (g : Nat → Int) (x1 : Option Addr) (m1 c1 : Nat) (F : Nat → Int) (x2 : Option Addr) (m2 c2 : Nat) (G : Nat → Int) (w : World) (hs : ArgSl w sl m0 g) (hs1 : ArgSl w (.slice x1 m1 c1) m1 F) (hs2 : ArgSl w (.slice x2 m2 c2) m2 G) (hml : m0 ≤ maxLen) (hz : 1048576 < m1) :
    CallsR Try.prog 3 #[.agg (tenC p n i o sl), .slice x1 m1 c1, .slice x2 m2 c2] w (fun res _ => res = .bool true) := by
  refine calls_fr [.agg (tenC p n i o sl), .slice x1 m1 c1, .slice x2 m2 c2] Try.func3 rfl Try.ntmps3 rfl fun a hF => ?_
  have hM : Mem w w [none, none, none, none, none, none, none, none, none, none, none, none, none, none, none, none, none] [] := MemX.start w 17
  change Fr 138 a [(0, .agg (tenC p n i o sl)), (1, .slice x1 m1 c1), (2, .slice x2 m2 c2)] at hF
  have hso := hs.one
  have hml2 := hml
  unfold maxLen at hml2
  refine sq ?_
  refine wp_region_lit ?_
  refine stR hF (d_box 0 hM hF rfl) rfl ?_
  rintro _ w' a ⟨b1, rfl, hM, -⟩ hF
  change Mem w w' [some (b1, tenC p n i o sl), none, none, none, none, none, none, none, none, none, none, none, none, none, none, none, none] [] at hM
  refine st hF (g_assign hF rfl) rfl fun a hF => ?_
  refine wpList_nil ?_
  refine tN ?_
  refine sq ?_
  refine sq ?_
  refine wp_region_lit ?_
  refine st hF (g_move hF rfl) rfl fun a hF => st hF (g_lenX ty_us_22 hF rfl) rfl fun a hF => st hF (g_gtr hF rfl rfl) rfl fun a hF => ?_
  refine wpList_nil ?_
  refine tN ?_
  refine c_cond hF rfl (fun h2 => ?_) (fun h2 => ?_)
  ·
   refine sq ?_
   refine wp_region_lit ?_
   refine st hF (g_assign hF rfl) rfl fun a hF => ?_
   refine wpList_nil ?_
   refine tN ?_
   refine wp_ret ?_
   refine tR ?_
   refine fin1 rfl hF.defers (res_tmp hF rfl) ⟨_, rfl, hM.below, ?_⟩
   show _ = _
   rfl
  ·
   exfalso; omega

theorem law_PermuteTensorZ2 (p n i o : Int) (sl : Value) (m0 : Nat) (g : Nat → Int) (x1 : Option Addr) (m1 c1 : Nat) (F : Nat → Int) (x2 : Option Addr) (m2 c2 : Nat) (G : Nat → Int) (w : World) (hs : ArgSl w sl m0 g) (hs1 : ArgSl w (.slice x1 m1 c1) m1 F) (hs2 : ArgSl w (.slice x2 m2 c2) m2 G) (hml : m0 ≤ maxLen) (hz1 : m1 ≤ 1048576) (hz : 1048576 < m2) :
    CallsR Try.prog 3 #[.agg (tenC p n i o sl), .slice x1 m1 c1, .slice x2 m2 c2] w (fun res _ => res = .bool true) := by
  refine calls_fr [.agg (tenC p n i o sl), .slice x1 m1 c1, .slice x2 m2 c2] Try.func3 rfl Try.ntmps3 rfl fun a hF => ?_
  have hM : Mem w w [none, none, none, none, none, none, none, none, none, none, none, none, none, none, none, none, none] [] := MemX.start w 17
  change Fr 138 a [(0, .agg (tenC p n i o sl)), (1, .slice x1 m1 c1), (2, .slice x2 m2 c2)] at hF
  have hso := hs.one
  have hml2 := hml
  unfold maxLen at hml2
  refine sq ?_
  refine wp_region_lit ?_
  refine stR hF (d_box 0 hM hF rfl) rfl ?_
  rintro _ w' a ⟨b1, rfl, hM, -⟩ hF
  change Mem w w' [some (b1, tenC p n i o sl), none, none, none, none, none, none, none, none, none, none, none, none, none, none, none, none] [] at hM
  refine st hF (g_assign hF rfl) rfl fun a hF => ?_
  refine wpList_nil ?_
  refine tN ?_
  refine sq ?_
  refine sq ?_
  refine wp_region_lit ?_
  refine st hF (g_move hF rfl) rfl fun a hF => st hF (g_lenX ty_us_22 hF rfl) rfl fun a hF => st hF (g_gtr hF rfl rfl) rfl fun a hF => ?_
  refine wpList_nil ?_
  refine tN ?_
  refine c_cond hF rfl (fun h2 => ?_) (fun h2 => ?_)
  ·
   exfalso; omega
  ·
   refine wp_skip ?_
   refine tN ?_
   refine sq ?_
   refine sq ?_
   refine wp_region_lit ?_
   refine st hF (g_move hF rfl) rfl fun a hF => st hF (g_lenX ty_us_22 hF rfl) rfl fun a hF => st hF (g_gtr hF rfl rfl) rfl fun a hF => ?_
   refine wpList_nil ?_
   refine tN ?_
   refine c_cond hF rfl (fun h3 => ?_) (fun h3 => ?_)
   ·
    refine sq ?_
    refine wp_region_lit ?_
    refine st hF (g_assign hF rfl) rfl fun a hF => ?_
    refine wpList_nil ?_
    refine tN ?_
    refine wp_ret ?_
    refine tR ?_
    refine fin1 rfl hF.defers (res_tmp hF rfl) ⟨_, rfl, hM.below, ?_⟩
    show _ = _
    rfl
   ·
    exfalso; omega

theorem law_PermuteTensorZ0 (p n i o : Int) (sl : Value) (m0 : Nat) (g : Nat → Int) (x1 : Option Addr) (m1 c1 : Nat) (F : Nat → Int) (x2 : Option Addr) (m2 c2 : Nat) (G : Nat → Int) (w : World) (hs : ArgSl w sl m0 g) (hs1 : ArgSl w (.slice x1 m1 c1) m1 F) (hs2 : ArgSl w (.slice x2 m2 c2) m2 G) (hml : m0 ≤ maxLen) (hz1 : m1 ≤ 1048576) (hz2 : m2 ≤ 1048576) (hz : 1048576 < m0) :
    CallsR Try.prog 3 #[.agg (tenC p n i o sl), .slice x1 m1 c1, .slice x2 m2 c2] w (fun res _ => res = .bool true) := by
  refine calls_fr [.agg (tenC p n i o sl), .slice x1 m1 c1, .slice x2 m2 c2] Try.func3 rfl Try.ntmps3 rfl fun a hF => ?_
  have hM : Mem w w [none, none, none, none, none, none, none, none, none, none, none, none, none, none, none, none, none] [] := MemX.start w 17
  change Fr 138 a [(0, .agg (tenC p n i o sl)), (1, .slice x1 m1 c1), (2, .slice x2 m2 c2)] at hF
  have hso := hs.one
  have hml2 := hml
  unfold maxLen at hml2
  refine sq ?_
  refine wp_region_lit ?_
  refine stR hF (d_box 0 hM hF rfl) rfl ?_
  rintro _ w' a ⟨b1, rfl, hM, -⟩ hF
  change Mem w w' [some (b1, tenC p n i o sl), none, none, none, none, none, none, none, none, none, none, none, none, none, none, none, none] [] at hM
  refine st hF (g_assign hF rfl) rfl fun a hF => ?_
  refine wpList_nil ?_
  refine tN ?_
  refine sq ?_
  refine sq ?_
  refine wp_region_lit ?_
  refine st hF (g_move hF rfl) rfl fun a hF => st hF (g_lenX ty_us_22 hF rfl) rfl fun a hF => st hF (g_gtr hF rfl rfl) rfl fun a hF => ?_
  refine wpList_nil ?_
  refine tN ?_
  refine c_cond hF rfl (fun h2 => ?_) (fun h2 => ?_)
  ·
   exfalso; omega
  ·
   refine wp_skip ?_
   refine tN ?_
   refine sq ?_
   refine sq ?_
   refine wp_region_lit ?_
   refine st hF (g_move hF rfl) rfl fun a hF => st hF (g_lenX ty_us_22 hF rfl) rfl fun a hF => st hF (g_gtr hF rfl rfl) rfl fun a hF => ?_
   refine wpList_nil ?_
   refine tN ?_
   refine c_cond hF rfl (fun h3 => ?_) (fun h3 => ?_)
   ·
    exfalso; omega
   ·
    refine wp_skip ?_
    refine tN ?_
    refine sq ?_
    refine wp_region_lit ?_
    refine st hF (g_assign hF rfl) rfl fun a hF => ?_
    refine wpList_nil ?_
    refine tN ?_
    refine sq ?_
    refine wp_region_lit ?_
    refine st hF (g_loadAgg ty_ag_24 hF rfl (hM.row 0 rfl) (by simp only [fnC_size, cells_size, vecC_size, tabC_size, planeC_size, tenC_size, smC_size, numC_size, numI_size, rowJ_size] <;> omega) (whole rfl)) rfl fun a hF => st hF (g_move hF rfl) rfl fun a hF => ?_
    refine stR hF (d_call Try.call5 hF (.cons rfl (.cons rfl .nil)) (szTensor_no p n i o sl m0 (1048576) g _ (hs.ext hM.below) (by omega) (by omega) (by unfold maxLen at *; omega))) rfl ?_
    rintro _ w' a ⟨hx, rfl⟩ hF
    have hM := hM.ext hx
    refine st hF (g_assign hF rfl) rfl fun a hF => ?_
    refine wpList_nil ?_
    refine tN ?_
    refine sq ?_
    refine sq ?_
    refine wp_region_lit ?_
    refine st hF (g_move hF rfl) rfl fun a hF => st hF (g_lss hF rfl rfl) rfl fun a hF => ?_
    refine wpList_nil ?_
    refine tN ?_
    refine c_cond hF rfl (fun h4 => ?_) (fun h4 => ?_)
    ·
     refine sq ?_
     refine wp_region_lit ?_
     refine st hF (g_assign hF rfl) rfl fun a hF => ?_
     refine wpList_nil ?_
     refine tN ?_
     refine wp_ret ?_
     refine tR ?_
     refine fin1 rfl hF.defers (res_tmp hF rfl) ⟨_, rfl, hM.below, ?_⟩
     show _ = _
     rfl
    ·
     exfalso; omega

theorem law_PermuteTensorA (p n i o : Int) (sl : Value) (m0 : Nat) (g : Nat → Int) (x1 : Option Addr) (m1 c1 : Nat) (F : Nat → Int) (x2 : Option Addr) (m2 c2 : Nat) (G : Nat → Int) (w : World) (hs : ArgSl w sl m0 g) (hs1 : ArgSl w (.slice x1 m1 c1) m1 F) (hs2 : ArgSl w (.slice x2 m2 c2) m2 G) (hz0 : m0 ≤ 1048576) (hz1 : m1 ≤ 1048576) (hz2 : m2 ≤ 1048576) (hA : ¬ TenP p n i o m0 g) :
    CallsR Try.prog 3 #[.agg (tenC p n i o sl), .slice x1 m1 c1, .slice x2 m2 c2] w (fun res _ => res = .bool true) := by
  refine calls_fr [.agg (tenC p n i o sl), .slice x1 m1 c1, .slice x2 m2 c2] Try.func3 rfl Try.ntmps3 rfl fun a hF => ?_
  have hM : Mem w w [none, none, none, none, none, none, none, none, none, none, none, none, none, none, none, none, none] [] := MemX.start w 17
  change Fr 138 a [(0, .agg (tenC p n i o sl)), (1, .slice x1 m1 c1), (2, .slice x2 m2 c2)] at hF
  have hso := hs.one
  refine sq ?_
  refine wp_region_lit ?_
  refine stR hF (d_box 0 hM hF rfl) rfl ?_
  rintro _ w' a ⟨b1, rfl, hM, -⟩ hF
  change Mem w w' [some (b1, tenC p n i o sl), none, none, none, none, none, none, none, none, none, none, none, none, none, none, none, none] [] at hM
  refine st hF (g_assign hF rfl) rfl fun a hF => ?_
  refine wpList_nil ?_
  refine tN ?_
  refine sq ?_
  refine sq ?_
  refine wp_region_lit ?_
  refine st hF (g_move hF rfl) rfl fun a hF => st hF (g_lenX ty_us_22 hF rfl) rfl fun a hF => st hF (g_gtr hF rfl rfl) rfl fun a hF => ?_
  refine wpList_nil ?_
  refine tN ?_
  refine c_cond hF rfl (fun h2 => ?_) (fun h2 => ?_)
  ·
   first | exact absurd rfl h2 | (exfalso; omega)
  ·
   refine wp_skip ?_
   refine tN ?_
   refine sq ?_
   refine sq ?_
   refine wp_region_lit ?_
   refine st hF (g_move hF rfl) rfl fun a hF => st hF (g_lenX ty_us_22 hF rfl) rfl fun a hF => st hF (g_gtr hF rfl rfl) rfl fun a hF => ?_
   refine wpList_nil ?_
   refine tN ?_
   refine c_cond hF rfl (fun h3 => ?_) (fun h3 => ?_)
   ·
    first | exact absurd rfl h3 | (exfalso; omega)
   ·
    refine wp_skip ?_
    refine tN ?_
    refine sq ?_
    refine wp_region_lit ?_
    refine st hF (g_assign hF rfl) rfl fun a hF => ?_
    refine wpList_nil ?_
    refine tN ?_
    refine sq ?_
    refine wp_region_lit ?_
    refine st hF (g_loadAgg ty_ag_24 hF rfl (hM.row 0 rfl) (by simp only [fnC_size, cells_size, vecC_size, tabC_size, planeC_size, tenC_size, smC_size, numC_size, numI_size, rowJ_size] <;> omega) (whole rfl)) rfl fun a hF => st hF (g_move hF rfl) rfl fun a hF => ?_
    refine stR hF (d_call Try.call5 hF (.cons rfl (.cons rfl .nil)) (szTensor_ok p n i o sl m0 (1048576) g _ (hs.ext hM.below) (by omega) (by omega))) rfl ?_
    rintro _ w' a ⟨hx, rfl⟩ hF
    have hM := hM.ext hx
    refine st hF (g_assign hF rfl) rfl fun a hF => ?_
    refine wpList_nil ?_
    refine tN ?_
    refine sq ?_
    refine sq ?_
    refine wp_region_lit ?_
    refine st hF (g_move hF rfl) rfl fun a hF => st hF (g_lss hF rfl rfl) rfl fun a hF => ?_
    refine wpList_nil ?_
    refine tN ?_
    refine c_cond hF rfl (fun h4 => ?_) (fun h4 => ?_)
    ·
     first | exact absurd rfl h4 | (exfalso; omega)
    ·
     refine wp_skip ?_
     refine tN ?_
     refine sq ?_
     refine wp_region_lit ?_
     refine st hF (g_loadAgg ty_ag_24 hF rfl (hM.row 0 rfl) (by simp only [fnC_size, cells_size, vecC_size, tabC_size, planeC_size, tenC_size, smC_size, numC_size, numI_size, rowJ_size] <;> omega) (whole rfl)) rfl fun a hF => ?_
     refine stR hF (d_call Try.call7 hF (.cons rfl .nil) (toTensor_ok p n i o sl m0 g _ (hs.ext hM.below) (by omega))) rfl ?_
     rintro _ w' a ⟨hx, b5, rfl, hge, hbk⟩ hF
     have hM := hM.fill hx 1 hbk hge
     change Mem w w' [some (b1, tenC p n i o sl), some (b5, numI m0 g), none, none, none, none, none, none, none, none, none, none, none, none, none, none, none] [] at hM
     refine st hF (g_move hF rfl) rfl fun a hF => ?_
     refine stR hF (d_call Try.call8 hF (.cons rfl .nil) (toInt64S_ok (.slice x1 m1 c1) m1 F _ (hs1.ext hM.below) (by omega))) rfl ?_
     rintro _ w' a ⟨hx, b6, rfl, hge, hbk⟩ hF
     have hM := hM.fill hx 2 hbk hge
     change Mem w w' [some (b1, tenC p n i o sl), some (b5, numI m0 g), some (b6, numI m1 F), none, none, none, none, none, none, none, none, none, none, none, none, none, none] [] at hM
     refine st hF (g_move hF rfl) rfl fun a hF => ?_
     refine stR hF (d_call Try.call8 hF (.cons rfl .nil) (toInt64S_ok (.slice x2 m2 c2) m2 G _ (hs2.ext hM.below) (by omega))) rfl ?_
     rintro _ w' a ⟨hx, b7, rfl, hge, hbk⟩ hF
     have hM := hM.fill hx 3 hbk hge
     change Mem w w' [some (b1, tenC p n i o sl), some (b5, numI m0 g), some (b6, numI m1 F), some (b7, numI m2 G), none, none, none, none, none, none, none, none, none, none, none, none, none] [] at hM
     refine stR hF (d_call Try.call6 hF (.cons rfl (.cons rfl (.cons rfl .nil))) (PermS_A p n i o b5 m0 g b6 m1 F b7 m2 G _ (by omega) (by omega) (by omega) (hM.row 1 rfl) (hM.row 2 rfl) (hM.row 3 rfl) hA)) rfl ?_
     rintro _ w' a ⟨hx, rfl⟩ hF
     have hM := hM.ext hx
     refine st hF (g_move hF rfl) rfl fun a hF => st hF (g_extract hF rfl rfl) rfl fun a hF => st hF (g_extract hF rfl rfl) rfl fun a hF => ?_
     refine stR hF (d_alloc 4 hM ty_ze_26) rfl ?_
     rintro _ w' a ⟨b8, rfl, hM, -⟩ hF
     change Mem w w' [some (b1, tenC p n i o sl), some (b5, numI m0 g), some (b6, numI m1 F), some (b7, numI m2 G), some (b8, tenC 0 0 0 0 (.slice none 0 0)), none, none, none, none, none, none, none, none, none, none, none, none] [] at hM
     refine stN hF (d_storeAgg 4 hM rfl ty_sz_26 hF rfl rfl (tenC_one rfl) (by simp only [fnC_size, cells_size, vecC_size, tabC_size, planeC_size, tenC_size, smC_size, numC_size, numI_size, rowJ_size]) (by simp only [fnC_size, cells_size, vecC_size, tabC_size, planeC_size, tenC_size, smC_size, numC_size, numI_size, rowJ_size] <;> omega) (splice_whole _ _ rfl)) ?_
     intro _ w' a hM hF
     change Mem w w' [some (b1, tenC p n i o sl), some (b5, numI m0 g), some (b6, numI m1 F), some (b7, numI m2 G), some (b8, tenC 0 0 0 0 (.slice none 0 0)), none, none, none, none, none, none, none, none, none, none, none, none] [] at hM
     refine st hF (g_assign hF rfl) rfl fun a hF => ?_
     refine wpList_nil ?_
     refine tN ?_
     refine sq ?_
     refine wp_region_lit ?_
     refine st hF (g_loadAgg ty_ag_24 hF rfl (hM.row 0 rfl) (by simp only [fnC_size, cells_size, vecC_size, tabC_size, planeC_size, tenC_size, smC_size, numC_size, numI_size, rowJ_size] <;> omega) (whole rfl)) rfl fun a hF => ?_
     refine stR hF (d_call Try.call7 hF (.cons rfl .nil) (toTensor_ok p n i o sl m0 g _ (hs.ext hM.below) (by omega))) rfl ?_
     rintro _ w' a ⟨hx, b9, rfl, hge, hbk⟩ hF
     have hM := hM.fill hx 5 hbk hge
     change Mem w w' [some (b1, tenC p n i o sl), some (b5, numI m0 g), some (b6, numI m1 F), some (b7, numI m2 G), some (b8, tenC 0 0 0 0 (.slice none 0 0)), some (b9, numI m0 g), none, none, none, none, none, none, none, none, none, none, none] [] at hM
     refine stR hF (d_alloc 6 hM ty_ze_26) rfl ?_
     rintro _ w' a ⟨b10, rfl, hM, -⟩ hF
     change Mem w w' [some (b1, tenC p n i o sl), some (b5, numI m0 g), some (b6, numI m1 F), some (b7, numI m2 G), some (b8, tenC 0 0 0 0 (.slice none 0 0)), some (b9, numI m0 g), some (b10, tenC 0 0 0 0 (.slice none 0 0)), none, none, none, none, none, none, none, none, none, none] [] at hM
     refine stN hF (d_storeAgg 6 hM rfl ty_sz_26 hF rfl rfl (tenC_one rfl) (by simp only [fnC_size, cells_size, vecC_size, tabC_size, planeC_size, tenC_size, smC_size, numC_size, numI_size, rowJ_size]) (by simp only [fnC_size, cells_size, vecC_size, tabC_size, planeC_size, tenC_size, smC_size, numC_size, numI_size, rowJ_size] <;> omega) (splice_whole _ _ rfl)) ?_
     intro _ w' a hM hF
     change Mem w w' [some (b1, tenC p n i o sl), some (b5, numI m0 g), some (b6, numI m1 F), some (b7, numI m2 G), some (b8, tenC 0 0 0 0 (.slice none 0 0)), some (b9, numI m0 g), some (b10, tenC p n i o (.slice (some ⟨b9, 0, none⟩) m0 m0)), none, none, none, none, none, none, none, none, none, none] [] at hM
     refine wpList_nil ?_
     refine tN ?_
     refine sq ?_
     refine wp_region_lit ?_
     refine st hF (g_move hF rfl) rfl fun a hF => ?_
     refine stR hF (d_call Try.call8 hF (.cons rfl .nil) (toInt64S_ok (.slice x1 m1 c1) m1 F _ (hs1.ext hM.below) (by omega))) rfl ?_
     rintro _ w' a ⟨hx, b11, rfl, hge, hbk⟩ hF
     have hM := hM.fill hx 7 hbk hge
     change Mem w w' [some (b1, tenC p n i o sl), some (b5, numI m0 g), some (b6, numI m1 F), some (b7, numI m2 G), some (b8, tenC 0 0 0 0 (.slice none 0 0)), some (b9, numI m0 g), some (b10, tenC p n i o (.slice (some ⟨b9, 0, none⟩) m0 m0)), some (b11, numI m1 F), none, none, none, none, none, none, none, none, none] [] at hM
     refine st hF (g_assign hF rfl) rfl fun a hF => ?_
     refine wpList_nil ?_
     refine tN ?_
     refine sq ?_
     refine wp_region_lit ?_
     refine st hF (g_move hF rfl) rfl fun a hF => ?_
     refine stR hF (d_call Try.call8 hF (.cons rfl .nil) (toInt64S_ok (.slice x2 m2 c2) m2 G _ (hs2.ext hM.below) (by omega))) rfl ?_
     rintro _ w' a ⟨hx, b12, rfl, hge, hbk⟩ hF
     have hM := hM.fill hx 8 hbk hge
     change Mem w w' [some (b1, tenC p n i o sl), some (b5, numI m0 g), some (b6, numI m1 F), some (b7, numI m2 G), some (b8, tenC 0 0 0 0 (.slice none 0 0)), some (b9, numI m0 g), some (b10, tenC p n i o (.slice (some ⟨b9, 0, none⟩) m0 m0)), some (b11, numI m1 F), some (b12, numI m2 G), none, none, none, none, none, none, none, none] [] at hM
     refine st hF (g_assign hF rfl) rfl fun a hF => ?_
     refine wpList_nil ?_
     refine tN ?_
     refine sq ?_
     refine wp_region_lit ?_
     refine st hF (g_loadAgg ty_ag_26 hF rfl (hM.row 6 rfl) (by simp only [fnC_size, cells_size, vecC_size, tabC_size, planeC_size, tenC_size, smC_size, numC_size, numI_size, rowJ_size] <;> omega) (whole rfl)) rfl fun a hF => st hF (g_move hF rfl) rfl fun a hF => st hF (g_move hF rfl) rfl fun a hF => ?_
     refine stR hF (d_call Try.call9 hF (.cons rfl (.cons rfl (.cons rfl .nil))) (PermI_A p n i o b9 m0 g b11 m1 F b12 m2 G _ (by omega) (hM.row 5 rfl) (hM.row 7 rfl) (hM.row 8 rfl) hA)) rfl ?_
     rintro _ w' a ⟨hx, rfl⟩ hF
     have hM := hM.ext hx
     refine st hF (g_move hF rfl) rfl fun a hF => st hF (g_extract hF rfl rfl) rfl fun a hF => st hF (g_extract hF rfl rfl) rfl fun a hF => ?_
     refine stR hF (d_alloc 9 hM ty_ze_26) rfl ?_
     rintro _ w' a ⟨b13, rfl, hM, -⟩ hF
     change Mem w w' [some (b1, tenC p n i o sl), some (b5, numI m0 g), some (b6, numI m1 F), some (b7, numI m2 G), some (b8, tenC 0 0 0 0 (.slice none 0 0)), some (b9, numI m0 g), some (b10, tenC p n i o (.slice (some ⟨b9, 0, none⟩) m0 m0)), some (b11, numI m1 F), some (b12, numI m2 G), some (b13, tenC 0 0 0 0 (.slice none 0 0)), none, none, none, none, none, none, none] [] at hM
     refine stN hF (d_storeAgg 9 hM rfl ty_sz_26 hF rfl rfl (tenC_one rfl) (by simp only [fnC_size, cells_size, vecC_size, tabC_size, planeC_size, tenC_size, smC_size, numC_size, numI_size, rowJ_size]) (by simp only [fnC_size, cells_size, vecC_size, tabC_size, planeC_size, tenC_size, smC_size, numC_size, numI_size, rowJ_size] <;> omega) (splice_whole _ _ rfl)) ?_
     intro _ w' a hM hF
     change Mem w w' [some (b1, tenC p n i o sl), some (b5, numI m0 g), some (b6, numI m1 F), some (b7, numI m2 G), some (b8, tenC 0 0 0 0 (.slice none 0 0)), some (b9, numI m0 g), some (b10, tenC p n i o (.slice (some ⟨b9, 0, none⟩) m0 m0)), some (b11, numI m1 F), some (b12, numI m2 G), some (b13, tenC 0 0 0 0 (.slice none 0 0)), none, none, none, none, none, none, none] [] at hM
     refine st hF (g_assign hF rfl) rfl fun a hF => ?_
     refine wpList_nil ?_
     refine tN ?_
     refine sq ?_
     refine sq ?_
     refine wp_region_lit ?_
     refine st hF (g_loadAgg ty_ag_26 hF rfl (hM.row 9 rfl) (by simp only [fnC_size, cells_size, vecC_size, tabC_size, planeC_size, tenC_size, smC_size, numC_size, numI_size, rowJ_size] <;> omega) (whole rfl)) rfl fun a hF => st hF (g_loadAgg ty_ag_26 hF rfl (hM.row 4 rfl) (by simp only [fnC_size, cells_size, vecC_size, tabC_size, planeC_size, tenC_size, smC_size, numC_size, numI_size, rowJ_size] <;> omega) (whole rfl)) rfl fun a hF => ?_
     refine stR hF (d_call Try.call10 hF (.cons rfl (.cons rfl .nil)) (eqTensor_0 _)) rfl ?_
     rintro _ w' a ⟨hx, rfl⟩ hF
     have hM := hM.ext hx
     refine st hF (g_not hF rfl) rfl fun a hF => st hF (g_move hF rfl) rfl fun a hF => stY hF rfl rfl rfl (g_move hF rfl) rfl fun a hF => stY hF rfl rfl rfl (g_move hF rfl) rfl fun a hF => stY hF rfl rfl rfl (g_neq hF rfl rfl) rfl fun a hF => st hF (g_pickF hF rfl rfl) rfl fun a hF => ?_
     refine wpList_nil ?_
     refine tN ?_
     refine c_kF hF rfl (by decide) ?_
     refine wp_skip ?_
     refine tN ?_
     refine sq ?_
     refine sq ?_
     refine c_par 3 [10] [.val (.agg (tenC p n i o (.slice (some ⟨b9, 0, none⟩) m0 m0))), .val (.agg (tenC p n i o sl)), .own 10 (numI m0 g) (fun b => .agg (tenC p n i o (.slice (some ⟨b, 0, none⟩) m0 m0)))] hmix rfl hF rfl hM ⟨fun a w gG hF hS hd => by have hM := hS.mem rfl; exact par_val hS rfl (g_loadAgg ty_ag_26 hF rfl (hM.row 6 rfl) (by simp only [fnC_size, cells_size, vecC_size, tabC_size, planeC_size, tenC_size, smC_size, numC_size, numI_size, rowJ_size] <;> omega) (whole rfl)), fun a w gG hF hS hd => by have hM := hS.mem rfl; exact par_val hS rfl (g_loadAgg ty_ag_24 hF rfl (hM.row 0 rfl) (by simp only [fnC_size, cells_size, vecC_size, tabC_size, planeC_size, tenC_size, smC_size, numC_size, numI_size, rowJ_size] <;> omega) (whole rfl)), fun a w gG hF hS hd => by have hF := hF.ext1 64 (hd 1 rfl rfl); have hM := hS.mem rfl; exact par_own (by repeat constructor) hS rfl rfl rfl rfl (d_callOwnB 10 hS.1 (d_call Try.call7 hF (.cons rfl .nil) (toTensor_ok p n i o sl m0 g _ (hs.ext hM.below) (by omega)))), trivial⟩ ?_
     intro a w' L hF hS hq
     have hF := hF.ext1 63 (hq 0 rfl rfl)
     have hF := hF.ext1 64 (hq 1 rfl rfl)
     obtain ⟨hM, hL⟩ := hS
     obtain ⟨b15, hptr, hkk⟩ := hq 2 rfl rfl
     have hF := hF.ext1 65 hptr
     have hL := hL.take hkk
     obtain rfl := hL.eq
     change Mem w w' [some (b1, tenC p n i o sl), some (b5, numI m0 g), some (b6, numI m1 F), some (b7, numI m2 G), some (b8, tenC 0 0 0 0 (.slice none 0 0)), some (b9, numI m0 g), some (b10, tenC p n i o (.slice (some ⟨b9, 0, none⟩) m0 m0)), some (b11, numI m1 F), some (b12, numI m2 G), some (b13, tenC 0 0 0 0 (.slice none 0 0)), some (b15, numI m0 g), none, none, none, none, none, none] [] at hM
     change wpList Try.prog _ _ [_, _] _ _
     refine stR hF (d_call Try.call10 hF (.cons rfl (.cons rfl .nil)) (eqTensor_ok p n i o b9 b15 m0 g g _ (hM.row 5 rfl) (hM.row 10 rfl) (by omega) (fun _ _ => rfl))) rfl ?_
     rintro _ w' a ⟨hx, rfl⟩ hF
     have hM := hM.ext hx
     refine st hF (g_not hF rfl) rfl fun a hF => ?_
     refine wpList_nil ?_
     refine tN ?_
     refine c_Fl hF rfl ?_
     refine wp_skip ?_
     refine tN ?_
     refine sq ?_
     refine sq ?_
     refine wp_region_lit ?_
     refine st hF (g_move hF rfl) rfl fun a hF => st hF (g_move hF rfl) rfl fun a hF => ?_
     refine stR hF (d_call Try.call8 hF (.cons rfl .nil) (toInt64S_ok (.slice x1 m1 c1) m1 F _ (hs1.ext hM.below) (by omega))) rfl ?_
     rintro _ w' a ⟨hx, b17, rfl, hge, hbk⟩ hF
     have hM := hM.fill hx 11 hbk hge
     change Mem w w' [some (b1, tenC p n i o sl), some (b5, numI m0 g), some (b6, numI m1 F), some (b7, numI m2 G), some (b8, tenC 0 0 0 0 (.slice none 0 0)), some (b9, numI m0 g), some (b10, tenC p n i o (.slice (some ⟨b9, 0, none⟩) m0 m0)), some (b11, numI m1 F), some (b12, numI m2 G), some (b13, tenC 0 0 0 0 (.slice none 0 0)), some (b15, numI m0 g), some (b17, numI m1 F), none, none, none, none, none] [] at hM
     refine stR hF (d_call Try.call11 hF (.cons rfl (.cons rfl .nil)) (eqInt64S_ok b11 b17 m1 F F _ (hM.row 7 rfl) (hM.row 11 rfl) (by omega) (fun _ _ => rfl))) rfl ?_
     rintro _ w' a ⟨hx, rfl⟩ hF
     have hM := hM.ext hx
     refine st hF (g_not hF rfl) rfl fun a hF => ?_
     refine wpList_nil ?_
     refine tN ?_
     refine c_Fl hF rfl ?_
     refine wp_skip ?_
     refine tN ?_
     refine sq ?_
     refine sq ?_
     refine wp_region_lit ?_
     refine st hF (g_move hF rfl) rfl fun a hF => st hF (g_move hF rfl) rfl fun a hF => ?_
     refine stR hF (d_call Try.call8 hF (.cons rfl .nil) (toInt64S_ok (.slice x2 m2 c2) m2 G _ (hs2.ext hM.below) (by omega))) rfl ?_
     rintro _ w' a ⟨hx, b19, rfl, hge, hbk⟩ hF
     have hM := hM.fill hx 12 hbk hge
     change Mem w w' [some (b1, tenC p n i o sl), some (b5, numI m0 g), some (b6, numI m1 F), some (b7, numI m2 G), some (b8, tenC 0 0 0 0 (.slice none 0 0)), some (b9, numI m0 g), some (b10, tenC p n i o (.slice (some ⟨b9, 0, none⟩) m0 m0)), some (b11, numI m1 F), some (b12, numI m2 G), some (b13, tenC 0 0 0 0 (.slice none 0 0)), some (b15, numI m0 g), some (b17, numI m1 F), some (b19, numI m2 G), none, none, none, none] [] at hM
     refine stR hF (d_call Try.call11 hF (.cons rfl (.cons rfl .nil)) (eqInt64S_ok b12 b19 m2 G G _ (hM.row 8 rfl) (hM.row 12 rfl) (by omega) (fun _ _ => rfl))) rfl ?_
     rintro _ w' a ⟨hx, rfl⟩ hF
     have hM := hM.ext hx
     refine st hF (g_not hF rfl) rfl fun a hF => ?_
     refine wpList_nil ?_
     refine tN ?_
     refine c_Fl hF rfl ?_
     refine wp_skip ?_
     refine tN ?_
     refine sq ?_
     refine wp_region_lit ?_
     refine st hF (g_assign hF rfl) rfl fun a hF => ?_
     refine wpList_nil ?_
     refine tN ?_
     refine sq ?_
     refine wp_region_lit ?_
     refine st hF (g_loadAgg ty_ag_26 hF rfl (hM.row 6 rfl) (by simp only [fnC_size, cells_size, vecC_size, tabC_size, planeC_size, tenC_size, smC_size, numC_size, numI_size, rowJ_size] <;> omega) (whole rfl)) rfl fun a hF => st hF (g_move hF rfl) rfl fun a hF => ?_
     refine stR hF (d_callX Try.call12 hF (.cons rfl (.cons rfl .nil)) (markTensor_ok p n i o b9 m0 (1) g _ (by omega) (by omega) (hM.row 5 rfl))) rfl ?_
     rintro _ w' a ⟨hx, rfl, hbk⟩ hF
     have hM := hM.upd 5 rfl hx hbk
     change Mem w w' [some (b1, tenC p n i o sl), some (b5, numI m0 g), some (b6, numI m1 F), some (b7, numI m2 G), some (b8, tenC 0 0 0 0 (.slice none 0 0)), some (b9, numC m0 (fun c => (1) + c)), some (b10, tenC p n i o (.slice (some ⟨b9, 0, none⟩) m0 m0)), some (b11, numI m1 F), some (b12, numI m2 G), some (b13, tenC 0 0 0 0 (.slice none 0 0)), some (b15, numI m0 g), some (b17, numI m1 F), some (b19, numI m2 G), none, none, none, none] [] at hM
     refine st hF (g_assign hF rfl) rfl fun a hF => ?_
     refine wpList_nil ?_
     refine tN ?_
     refine sq ?_
     refine wp_region_lit ?_
     refine st hF (g_move hF rfl) rfl fun a hF => st hF (g_move hF rfl) rfl fun a hF => ?_
     refine stR hF (d_callX Try.call13 hF (.cons rfl (.cons rfl .nil)) (markInt64S_ok b11 m1 (1 + m0) F _ (by omega) (by omega) (hM.row 7 rfl))) rfl ?_
     rintro _ w' a ⟨hx, rfl, hbk⟩ hF
     have hM := hM.upd 7 rfl hx hbk
     change Mem w w' [some (b1, tenC p n i o sl), some (b5, numI m0 g), some (b6, numI m1 F), some (b7, numI m2 G), some (b8, tenC 0 0 0 0 (.slice none 0 0)), some (b9, numC m0 (fun c => (1) + c)), some (b10, tenC p n i o (.slice (some ⟨b9, 0, none⟩) m0 m0)), some (b11, numC m1 (fun c => (1 + m0) + c)), some (b12, numI m2 G), some (b13, tenC 0 0 0 0 (.slice none 0 0)), some (b15, numI m0 g), some (b17, numI m1 F), some (b19, numI m2 G), none, none, none, none] [] at hM
     refine st hF (g_assign hF rfl) rfl fun a hF => ?_
     refine wpList_nil ?_
     refine tN ?_
     refine sq ?_
     refine wp_region_lit ?_
     refine st hF (g_move hF rfl) rfl fun a hF => st hF (g_move hF rfl) rfl fun a hF => ?_
     refine stR hF (d_callX Try.call13 hF (.cons rfl (.cons rfl .nil)) (markInt64S_ok b12 m2 (1 + m0 + m1) G _ (by omega) (by omega) (hM.row 8 rfl))) rfl ?_
     rintro _ w' a ⟨hx, rfl, hbk⟩ hF
     have hM := hM.upd 8 rfl hx hbk
     change Mem w w' [some (b1, tenC p n i o sl), some (b5, numI m0 g), some (b6, numI m1 F), some (b7, numI m2 G), some (b8, tenC 0 0 0 0 (.slice none 0 0)), some (b9, numC m0 (fun c => (1) + c)), some (b10, tenC p n i o (.slice (some ⟨b9, 0, none⟩) m0 m0)), some (b11, numC m1 (fun c => (1 + m0) + c)), some (b12, numC m2 (fun c => (1 + m0 + m1) + c)), some (b13, tenC 0 0 0 0 (.slice none 0 0)), some (b15, numI m0 g), some (b17, numI m1 F), some (b19, numI m2 G), none, none, none, none] [] at hM
     refine st hF (g_assign hF rfl) rfl fun a hF => ?_
     refine wpList_nil ?_
     refine tN ?_
     refine sq ?_
     refine sq ?_
     refine wp_region_lit ?_
     refine st hF (g_move hF rfl) rfl fun a hF => st hF (g_lss hF rfl rfl) rfl fun a hF => st hF (g_move hF rfl) rfl fun a hF => ?_
     by_cases g21 : (((1 + m0 + m1 + m2 : Nat) : Int) : Int) < 0
     ·
      first | rw [decide_eq_true g21] at hF | simp only [decide_eq_true g21] at hF
      first | exact absurd rfl g21 | (exfalso; omega)
     ·
      first | rw [decide_eq_false g21] at hF | simp only [decide_eq_false g21] at hF
      refine stY hF rfl rfl rfl (g_loadAgg ty_ag_26 hF rfl (hM.row 9 rfl) (by simp only [fnC_size, cells_size, vecC_size, tabC_size, planeC_size, tenC_size, smC_size, numC_size, numI_size, rowJ_size] <;> omega) (whole rfl)) rfl fun a hF => stY hF rfl rfl rfl (g_loadAgg ty_ag_26 hF rfl (hM.row 4 rfl) (by simp only [fnC_size, cells_size, vecC_size, tabC_size, planeC_size, tenC_size, smC_size, numC_size, numI_size, rowJ_size] <;> omega) (whole rfl)) rfl fun a hF => ?_
      refine stYR hF rfl rfl rfl (d_call Try.call10 hF (.cons rfl (.cons rfl .nil)) (eqTensor_0 _)) rfl ?_
      rintro _ w' a ⟨hx, rfl⟩ hF
      have hM := hM.ext hx
      refine stY hF rfl rfl rfl (g_not hF rfl) rfl fun a hF => st hF (g_pickF hF rfl rfl) rfl fun a hF => st hF (g_move hF rfl) rfl fun a hF => stY hF rfl rfl rfl (g_move hF rfl) rfl fun a hF => stY hF rfl rfl rfl (g_move hF rfl) rfl fun a hF => stY hF rfl rfl rfl (g_neq hF rfl rfl) rfl fun a hF => st hF (g_pickF hF rfl rfl) rfl fun a hF => ?_
      refine wpList_nil ?_
      refine tN ?_
      refine c_kF hF rfl (by decide) ?_
      refine wp_skip ?_
      refine tN ?_
      refine sq ?_
      refine wp_region_lit ?_
      refine st hF (g_assign hF rfl) rfl fun a hF => ?_
      refine wpList_nil ?_
      refine tN ?_
      refine sq ?_
      refine wp_region_lit ?_
      refine st hF (g_loadAgg ty_ag_26 hF rfl (hM.row 9 rfl) (by simp only [fnC_size, cells_size, vecC_size, tabC_size, planeC_size, tenC_size, smC_size, numC_size, numI_size, rowJ_size] <;> omega) (whole rfl)) rfl fun a hF => st hF (g_move hF rfl) rfl fun a hF => ?_
      refine stR hF (d_call Try.call12 hF (.cons rfl (.cons rfl .nil)) (markTensor_0 (1) _ (by omega))) rfl ?_
      rintro _ w' a ⟨hx, rfl⟩ hF
      have hM := hM.ext hx
      refine st hF (g_assign hF rfl) rfl fun a hF => ?_
      refine wpList_nil ?_
      refine tN ?_
      refine sq ?_
      refine wp_region_lit ?_
      refine st hF (g_assign hF rfl) rfl fun a hF => ?_
      refine wpList_nil ?_
      refine tN ?_
      refine sq ?_
      refine wp_region_lit ?_
      refine st hF (g_loadAgg ty_ag_26 hF rfl (hM.row 9 rfl) (by simp only [fnC_size, cells_size, vecC_size, tabC_size, planeC_size, tenC_size, smC_size, numC_size, numI_size, rowJ_size] <;> omega) (whole rfl)) rfl fun a hF => st hF (g_move hF rfl) rfl fun a hF => ?_
      refine stR hF (d_call Try.call14 hF (.cons rfl (.cons rfl .nil)) (heldTensor_0 (1) _ (by omega))) rfl ?_
      rintro _ w' a ⟨hx, rfl⟩ hF
      have hM := hM.ext hx
      refine st hF (g_assign hF rfl) rfl fun a hF => ?_
      refine wpList_nil ?_
      refine tN ?_
      refine sq ?_
      refine sq ?_
      refine wp_region_lit ?_
      refine st hF (g_move hF rfl) rfl fun a hF => st hF (g_lss hF rfl rfl) rfl fun a hF => ?_
      refine wpList_nil ?_
      refine tN ?_
      refine c_cond hF rfl (fun h23 => ?_) (fun h23 => ?_)
      ·
       first | exact absurd rfl h23 | (exfalso; omega)
      ·
       refine wp_skip ?_
       refine tN ?_
       refine sq ?_
       refine sq ?_
       refine wp_region_lit ?_
       refine st hF (g_move hF rfl) rfl fun a hF => st hF (g_move hF rfl) rfl fun a hF => st hF (g_neq hF rfl rfl) rfl fun a hF => ?_
       refine wpList_nil ?_
       refine tN ?_
       refine c_kF hF rfl (by decide) ?_
       refine wp_skip ?_
       refine tN ?_
       refine sq ?_
       refine wp_region_lit ?_
       refine st hF (g_loadAgg ty_ag_24 hF rfl (hM.row 0 rfl) (by simp only [fnC_size, cells_size, vecC_size, tabC_size, planeC_size, tenC_size, smC_size, numC_size, numI_size, rowJ_size] <;> omega) (whole rfl)) rfl fun a hF => ?_
       refine stR hF (d_call Try.call7 hF (.cons rfl .nil) (toTensor_ok p n i o sl m0 g _ (hs.ext hM.below) (by omega))) rfl ?_
       rintro _ w' a ⟨hx, b25, rfl, hge, hbk⟩ hF
       have hM := hM.fill hx 13 hbk hge
       change Mem w w' [some (b1, tenC p n i o sl), some (b5, numI m0 g), some (b6, numI m1 F), some (b7, numI m2 G), some (b8, tenC 0 0 0 0 (.slice none 0 0)), some (b9, numC m0 (fun c => (1) + c)), some (b10, tenC p n i o (.slice (some ⟨b9, 0, none⟩) m0 m0)), some (b11, numC m1 (fun c => (1 + m0) + c)), some (b12, numC m2 (fun c => (1 + m0 + m1) + c)), some (b13, tenC 0 0 0 0 (.slice none 0 0)), some (b15, numI m0 g), some (b17, numI m1 F), some (b19, numI m2 G), some (b25, numI m0 g), none, none, none] [] at hM
       refine st hF (g_move hF rfl) rfl fun a hF => ?_
       refine stR hF (d_call Try.call8 hF (.cons rfl .nil) (toInt64S_ok (.slice x1 m1 c1) m1 F _ (hs1.ext hM.below) (by omega))) rfl ?_
       rintro _ w' a ⟨hx, b26, rfl, hge, hbk⟩ hF
       have hM := hM.fill hx 14 hbk hge
       change Mem w w' [some (b1, tenC p n i o sl), some (b5, numI m0 g), some (b6, numI m1 F), some (b7, numI m2 G), some (b8, tenC 0 0 0 0 (.slice none 0 0)), some (b9, numC m0 (fun c => (1) + c)), some (b10, tenC p n i o (.slice (some ⟨b9, 0, none⟩) m0 m0)), some (b11, numC m1 (fun c => (1 + m0) + c)), some (b12, numC m2 (fun c => (1 + m0 + m1) + c)), some (b13, tenC 0 0 0 0 (.slice none 0 0)), some (b15, numI m0 g), some (b17, numI m1 F), some (b19, numI m2 G), some (b25, numI m0 g), some (b26, numI m1 F), none, none] [] at hM
       refine st hF (g_move hF rfl) rfl fun a hF => ?_
       refine stR hF (d_call Try.call8 hF (.cons rfl .nil) (toInt64S_ok (.slice x2 m2 c2) m2 G _ (hs2.ext hM.below) (by omega))) rfl ?_
       rintro _ w' a ⟨hx, b27, rfl, hge, hbk⟩ hF
       have hM := hM.fill hx 15 hbk hge
       change Mem w w' [some (b1, tenC p n i o sl), some (b5, numI m0 g), some (b6, numI m1 F), some (b7, numI m2 G), some (b8, tenC 0 0 0 0 (.slice none 0 0)), some (b9, numC m0 (fun c => (1) + c)), some (b10, tenC p n i o (.slice (some ⟨b9, 0, none⟩) m0 m0)), some (b11, numC m1 (fun c => (1 + m0) + c)), some (b12, numC m2 (fun c => (1 + m0 + m1) + c)), some (b13, tenC 0 0 0 0 (.slice none 0 0)), some (b15, numI m0 g), some (b17, numI m1 F), some (b19, numI m2 G), some (b25, numI m0 g), some (b26, numI m1 F), some (b27, numI m2 G), none] [] at hM
       refine stR hF (d_call Try.call9 hF (.cons rfl (.cons rfl (.cons rfl .nil))) (PermI_A p n i o b25 m0 g b26 m1 F b27 m2 G _ (by omega) (hM.row 13 rfl) (hM.row 14 rfl) (hM.row 15 rfl) hA)) rfl ?_
       rintro _ w' a ⟨hx, rfl⟩ hF
       have hM := hM.ext hx
       refine st hF (g_move hF rfl) rfl fun a hF => st hF (g_extract hF rfl rfl) rfl fun a hF => st hF (g_extract hF rfl rfl) rfl fun a hF => ?_
       refine stR hF (d_alloc 16 hM ty_ze_26) rfl ?_
       rintro _ w' a ⟨b28, rfl, hM, -⟩ hF
       change Mem w w' [some (b1, tenC p n i o sl), some (b5, numI m0 g), some (b6, numI m1 F), some (b7, numI m2 G), some (b8, tenC 0 0 0 0 (.slice none 0 0)), some (b9, numC m0 (fun c => (1) + c)), some (b10, tenC p n i o (.slice (some ⟨b9, 0, none⟩) m0 m0)), some (b11, numC m1 (fun c => (1 + m0) + c)), some (b12, numC m2 (fun c => (1 + m0 + m1) + c)), some (b13, tenC 0 0 0 0 (.slice none 0 0)), some (b15, numI m0 g), some (b17, numI m1 F), some (b19, numI m2 G), some (b25, numI m0 g), some (b26, numI m1 F), some (b27, numI m2 G), some (b28, tenC 0 0 0 0 (.slice none 0 0))] [] at hM
       refine stN hF (d_storeAgg 16 hM rfl ty_sz_26 hF rfl rfl (tenC_one rfl) (by simp only [fnC_size, cells_size, vecC_size, tabC_size, planeC_size, tenC_size, smC_size, numC_size, numI_size, rowJ_size]) (by simp only [fnC_size, cells_size, vecC_size, tabC_size, planeC_size, tenC_size, smC_size, numC_size, numI_size, rowJ_size] <;> omega) (splice_whole _ _ rfl)) ?_
       intro _ w' a hM hF
       change Mem w w' [some (b1, tenC p n i o sl), some (b5, numI m0 g), some (b6, numI m1 F), some (b7, numI m2 G), some (b8, tenC 0 0 0 0 (.slice none 0 0)), some (b9, numC m0 (fun c => (1) + c)), some (b10, tenC p n i o (.slice (some ⟨b9, 0, none⟩) m0 m0)), some (b11, numC m1 (fun c => (1 + m0) + c)), some (b12, numC m2 (fun c => (1 + m0 + m1) + c)), some (b13, tenC 0 0 0 0 (.slice none 0 0)), some (b15, numI m0 g), some (b17, numI m1 F), some (b19, numI m2 G), some (b25, numI m0 g), some (b26, numI m1 F), some (b27, numI m2 G), some (b28, tenC 0 0 0 0 (.slice none 0 0))] [] at hM
       refine st hF (g_assign hF rfl) rfl fun a hF => ?_
       refine wpList_nil ?_
       refine tN ?_
       refine sq ?_
       refine sq ?_
       refine wp_region_lit ?_
       refine st hF (g_loadAgg ty_ag_26 hF rfl (hM.row 16 rfl) (by simp only [fnC_size, cells_size, vecC_size, tabC_size, planeC_size, tenC_size, smC_size, numC_size, numI_size, rowJ_size] <;> omega) (whole rfl)) rfl fun a hF => st hF (g_loadAgg ty_ag_26 hF rfl (hM.row 4 rfl) (by simp only [fnC_size, cells_size, vecC_size, tabC_size, planeC_size, tenC_size, smC_size, numC_size, numI_size, rowJ_size] <;> omega) (whole rfl)) rfl fun a hF => ?_
       refine stR hF (d_call Try.call10 hF (.cons rfl (.cons rfl .nil)) (eqTensor_0 _)) rfl ?_
       rintro _ w' a ⟨hx, rfl⟩ hF
       have hM := hM.ext hx
       refine st hF (g_not hF rfl) rfl fun a hF => st hF (g_move hF rfl) rfl fun a hF => stY hF rfl rfl rfl (g_move hF rfl) rfl fun a hF => stY hF rfl rfl rfl (g_move hF rfl) rfl fun a hF => stY hF rfl rfl rfl (g_neq hF rfl rfl) rfl fun a hF => st hF (g_pickF hF rfl rfl) rfl fun a hF => ?_
       refine wpList_nil ?_
       refine tN ?_
       refine c_kF hF rfl (by decide) ?_
       refine wp_skip ?_
       refine tN ?_
       refine sq ?_
       refine wp_region_lit ?_
       refine st hF (g_assign hF rfl) rfl fun a hF => ?_
       refine wpList_nil ?_
       refine tN ?_
       refine sq ?_
       refine wp_region_lit ?_
       refine st hF (g_loadAgg ty_ag_26 hF rfl (hM.row 9 rfl) (by simp only [fnC_size, cells_size, vecC_size, tabC_size, planeC_size, tenC_size, smC_size, numC_size, numI_size, rowJ_size] <;> omega) (whole rfl)) rfl fun a hF => st hF (g_move hF rfl) rfl fun a hF => ?_
       refine stR hF (d_call Try.call14 hF (.cons rfl (.cons rfl .nil)) (heldTensor_0 (1) _ (by omega))) rfl ?_
       rintro _ w' a ⟨hx, rfl⟩ hF
       have hM := hM.ext hx
       refine st hF (g_assign hF rfl) rfl fun a hF => ?_
       refine wpList_nil ?_
       refine tN ?_
       refine sq ?_
       refine sq ?_
       refine wp_region_lit ?_
       refine st hF (g_move hF rfl) rfl fun a hF => st hF (g_lss hF rfl rfl) rfl fun a hF => ?_
       refine wpList_nil ?_
       refine tN ?_
       refine c_kF hF rfl h23 ?_
       refine wp_skip ?_
       refine tN ?_
       refine sq ?_
       refine sq ?_
       refine wp_region_lit ?_
       refine st hF (g_move hF rfl) rfl fun a hF => st hF (g_move hF rfl) rfl fun a hF => st hF (g_neq hF rfl rfl) rfl fun a hF => ?_
       refine wpList_nil ?_
       refine tN ?_
       refine c_kF hF rfl (by decide) ?_
       refine wp_skip ?_
       refine tN ?_
       refine sq ?_
       refine wp_region_lit ?_
       refine st hF (g_assign hF rfl) rfl fun a hF => ?_
       refine wpList_nil ?_
       refine tN ?_
       refine wp_ret ?_
       refine fin1 rfl hF.defers (res_tmp hF rfl) ⟨_, rfl, hM.below, ?_⟩
       show _ = _
       rfl

theorem law_PermuteTensorR (p n i o : Int) (sl : Value) (m0 : Nat) (g : Nat → Int) (x1 : Option Addr) (m1 c1 : Nat) (F : Nat → Int) (x2 : Option Addr) (m2 c2 : Nat) (G : Nat → Int) (w : World) (hs : ArgSl w sl m0 g) (hs1 : ArgSl w (.slice x1 m1 c1) m1 F) (hs2 : ArgSl w (.slice x2 m2 c2) m2 G) (hz0 : m0 ≤ 1048576) (hz1 : m1 ≤ 1048576) (hz2 : m2 ≤ 1048576) (hT : TenP p n i o m0 g) (hR : ¬ (((m1 : Int) = i ∧ LegP m1 F) ∧ ((m2 : Int) = o ∧ LegP m2 G))) :
    CallsR Try.prog 3 #[.agg (tenC p n i o sl), .slice x1 m1 c1, .slice x2 m2 c2] w (fun res _ => res = .bool true) := by
  refine calls_fr [.agg (tenC p n i o sl), .slice x1 m1 c1, .slice x2 m2 c2] Try.func3 rfl Try.ntmps3 rfl fun a hF => ?_
  have hM : Mem w w [none, none, none, none, none, none, none, none, none, none, none, none, none, none, none, none, none] [] := MemX.start w 17
  change Fr 138 a [(0, .agg (tenC p n i o sl)), (1, .slice x1 m1 c1), (2, .slice x2 m2 c2)] at hF
  have hso := hs.one
  refine sq ?_
  refine wp_region_lit ?_
  refine stR hF (d_box 0 hM hF rfl) rfl ?_
  rintro _ w' a ⟨b1, rfl, hM, -⟩ hF
  change Mem w w' [some (b1, tenC p n i o sl), none, none, none, none, none, none, none, none, none, none, none, none, none, none, none, none] [] at hM
  refine st hF (g_assign hF rfl) rfl fun a hF => ?_
  refine wpList_nil ?_
  refine tN ?_
  refine sq ?_
  refine sq ?_
  refine wp_region_lit ?_
  refine st hF (g_move hF rfl) rfl fun a hF => st hF (g_lenX ty_us_22 hF rfl) rfl fun a hF => st hF (g_gtr hF rfl rfl) rfl fun a hF => ?_
  refine wpList_nil ?_
  refine tN ?_
  refine c_cond hF rfl (fun h2 => ?_) (fun h2 => ?_)
  ·
   first | exact absurd rfl h2 | (exfalso; omega)
  ·
   refine wp_skip ?_
   refine tN ?_
   refine sq ?_
   refine sq ?_
   refine wp_region_lit ?_
   refine st hF (g_move hF rfl) rfl fun a hF => st hF (g_lenX ty_us_22 hF rfl) rfl fun a hF => st hF (g_gtr hF rfl rfl) rfl fun a hF => ?_
   refine wpList_nil ?_
   refine tN ?_
   refine c_cond hF rfl (fun h3 => ?_) (fun h3 => ?_)
   ·
    first | exact absurd rfl h3 | (exfalso; omega)
   ·
    refine wp_skip ?_
    refine tN ?_
    refine sq ?_
    refine wp_region_lit ?_
    refine st hF (g_assign hF rfl) rfl fun a hF => ?_
    refine wpList_nil ?_
    refine tN ?_
    refine sq ?_
    refine wp_region_lit ?_
    refine st hF (g_loadAgg ty_ag_24 hF rfl (hM.row 0 rfl) (by simp only [fnC_size, cells_size, vecC_size, tabC_size, planeC_size, tenC_size, smC_size, numC_size, numI_size, rowJ_size] <;> omega) (whole rfl)) rfl fun a hF => st hF (g_move hF rfl) rfl fun a hF => ?_
    refine stR hF (d_call Try.call5 hF (.cons rfl (.cons rfl .nil)) (szTensor_ok p n i o sl m0 (1048576) g _ (hs.ext hM.below) (by omega) (by omega))) rfl ?_
    rintro _ w' a ⟨hx, rfl⟩ hF
    have hM := hM.ext hx
    refine st hF (g_assign hF rfl) rfl fun a hF => ?_
    refine wpList_nil ?_
    refine tN ?_
    refine sq ?_
    refine sq ?_
    refine wp_region_lit ?_
    refine st hF (g_move hF rfl) rfl fun a hF => st hF (g_lss hF rfl rfl) rfl fun a hF => ?_
    refine wpList_nil ?_
    refine tN ?_
    refine c_cond hF rfl (fun h4 => ?_) (fun h4 => ?_)
    ·
     first | exact absurd rfl h4 | (exfalso; omega)
    ·
     refine wp_skip ?_
     refine tN ?_
     refine sq ?_
     refine wp_region_lit ?_
     refine st hF (g_loadAgg ty_ag_24 hF rfl (hM.row 0 rfl) (by simp only [fnC_size, cells_size, vecC_size, tabC_size, planeC_size, tenC_size, smC_size, numC_size, numI_size, rowJ_size] <;> omega) (whole rfl)) rfl fun a hF => ?_
     refine stR hF (d_call Try.call7 hF (.cons rfl .nil) (toTensor_ok p n i o sl m0 g _ (hs.ext hM.below) (by omega))) rfl ?_
     rintro _ w' a ⟨hx, b5, rfl, hge, hbk⟩ hF
     have hM := hM.fill hx 1 hbk hge
     change Mem w w' [some (b1, tenC p n i o sl), some (b5, numI m0 g), none, none, none, none, none, none, none, none, none, none, none, none, none, none, none] [] at hM
     refine st hF (g_move hF rfl) rfl fun a hF => ?_
     refine stR hF (d_call Try.call8 hF (.cons rfl .nil) (toInt64S_ok (.slice x1 m1 c1) m1 F _ (hs1.ext hM.below) (by omega))) rfl ?_
     rintro _ w' a ⟨hx, b6, rfl, hge, hbk⟩ hF
     have hM := hM.fill hx 2 hbk hge
     change Mem w w' [some (b1, tenC p n i o sl), some (b5, numI m0 g), some (b6, numI m1 F), none, none, none, none, none, none, none, none, none, none, none, none, none, none] [] at hM
     refine st hF (g_move hF rfl) rfl fun a hF => ?_
     refine stR hF (d_call Try.call8 hF (.cons rfl .nil) (toInt64S_ok (.slice x2 m2 c2) m2 G _ (hs2.ext hM.below) (by omega))) rfl ?_
     rintro _ w' a ⟨hx, b7, rfl, hge, hbk⟩ hF
     have hM := hM.fill hx 3 hbk hge
     change Mem w w' [some (b1, tenC p n i o sl), some (b5, numI m0 g), some (b6, numI m1 F), some (b7, numI m2 G), none, none, none, none, none, none, none, none, none, none, none, none, none] [] at hM
     refine stR hF (d_call Try.call6 hF (.cons rfl (.cons rfl (.cons rfl .nil))) (PermS_R p n i o b5 m0 g b6 m1 F b7 m2 G _ (by omega) (by omega) (by omega) (hM.row 1 rfl) (hM.row 2 rfl) (hM.row 3 rfl) hT hR)) rfl ?_
     rintro _ w' a ⟨hx, rfl⟩ hF
     have hM := hM.ext hx
     refine st hF (g_move hF rfl) rfl fun a hF => st hF (g_extract hF rfl rfl) rfl fun a hF => st hF (g_extract hF rfl rfl) rfl fun a hF => ?_
     refine stR hF (d_alloc 4 hM ty_ze_26) rfl ?_
     rintro _ w' a ⟨b8, rfl, hM, -⟩ hF
     change Mem w w' [some (b1, tenC p n i o sl), some (b5, numI m0 g), some (b6, numI m1 F), some (b7, numI m2 G), some (b8, tenC 0 0 0 0 (.slice none 0 0)), none, none, none, none, none, none, none, none, none, none, none, none] [] at hM
     refine stN hF (d_storeAgg 4 hM rfl ty_sz_26 hF rfl rfl (tenC_one rfl) (by simp only [fnC_size, cells_size, vecC_size, tabC_size, planeC_size, tenC_size, smC_size, numC_size, numI_size, rowJ_size]) (by simp only [fnC_size, cells_size, vecC_size, tabC_size, planeC_size, tenC_size, smC_size, numC_size, numI_size, rowJ_size] <;> omega) (splice_whole _ _ rfl)) ?_
     intro _ w' a hM hF
     change Mem w w' [some (b1, tenC p n i o sl), some (b5, numI m0 g), some (b6, numI m1 F), some (b7, numI m2 G), some (b8, tenC 0 0 0 0 (.slice none 0 0)), none, none, none, none, none, none, none, none, none, none, none, none] [] at hM
     refine st hF (g_assign hF rfl) rfl fun a hF => ?_
     refine wpList_nil ?_
     refine tN ?_
     refine sq ?_
     refine wp_region_lit ?_
     refine st hF (g_loadAgg ty_ag_24 hF rfl (hM.row 0 rfl) (by simp only [fnC_size, cells_size, vecC_size, tabC_size, planeC_size, tenC_size, smC_size, numC_size, numI_size, rowJ_size] <;> omega) (whole rfl)) rfl fun a hF => ?_
     refine stR hF (d_call Try.call7 hF (.cons rfl .nil) (toTensor_ok p n i o sl m0 g _ (hs.ext hM.below) (by omega))) rfl ?_
     rintro _ w' a ⟨hx, b9, rfl, hge, hbk⟩ hF
     have hM := hM.fill hx 5 hbk hge
     change Mem w w' [some (b1, tenC p n i o sl), some (b5, numI m0 g), some (b6, numI m1 F), some (b7, numI m2 G), some (b8, tenC 0 0 0 0 (.slice none 0 0)), some (b9, numI m0 g), none, none, none, none, none, none, none, none, none, none, none] [] at hM
     refine stR hF (d_alloc 6 hM ty_ze_26) rfl ?_
     rintro _ w' a ⟨b10, rfl, hM, -⟩ hF
     change Mem w w' [some (b1, tenC p n i o sl), some (b5, numI m0 g), some (b6, numI m1 F), some (b7, numI m2 G), some (b8, tenC 0 0 0 0 (.slice none 0 0)), some (b9, numI m0 g), some (b10, tenC 0 0 0 0 (.slice none 0 0)), none, none, none, none, none, none, none, none, none, none] [] at hM
     refine stN hF (d_storeAgg 6 hM rfl ty_sz_26 hF rfl rfl (tenC_one rfl) (by simp only [fnC_size, cells_size, vecC_size, tabC_size, planeC_size, tenC_size, smC_size, numC_size, numI_size, rowJ_size]) (by simp only [fnC_size, cells_size, vecC_size, tabC_size, planeC_size, tenC_size, smC_size, numC_size, numI_size, rowJ_size] <;> omega) (splice_whole _ _ rfl)) ?_
     intro _ w' a hM hF
     change Mem w w' [some (b1, tenC p n i o sl), some (b5, numI m0 g), some (b6, numI m1 F), some (b7, numI m2 G), some (b8, tenC 0 0 0 0 (.slice none 0 0)), some (b9, numI m0 g), some (b10, tenC p n i o (.slice (some ⟨b9, 0, none⟩) m0 m0)), none, none, none, none, none, none, none, none, none, none] [] at hM
     refine wpList_nil ?_
     refine tN ?_
     refine sq ?_
     refine wp_region_lit ?_
     refine st hF (g_move hF rfl) rfl fun a hF => ?_
     refine stR hF (d_call Try.call8 hF (.cons rfl .nil) (toInt64S_ok (.slice x1 m1 c1) m1 F _ (hs1.ext hM.below) (by omega))) rfl ?_
     rintro _ w' a ⟨hx, b11, rfl, hge, hbk⟩ hF
     have hM := hM.fill hx 7 hbk hge
     change Mem w w' [some (b1, tenC p n i o sl), some (b5, numI m0 g), some (b6, numI m1 F), some (b7, numI m2 G), some (b8, tenC 0 0 0 0 (.slice none 0 0)), some (b9, numI m0 g), some (b10, tenC p n i o (.slice (some ⟨b9, 0, none⟩) m0 m0)), some (b11, numI m1 F), none, none, none, none, none, none, none, none, none] [] at hM
     refine st hF (g_assign hF rfl) rfl fun a hF => ?_
     refine wpList_nil ?_
     refine tN ?_
     refine sq ?_
     refine wp_region_lit ?_
     refine st hF (g_move hF rfl) rfl fun a hF => ?_
     refine stR hF (d_call Try.call8 hF (.cons rfl .nil) (toInt64S_ok (.slice x2 m2 c2) m2 G _ (hs2.ext hM.below) (by omega))) rfl ?_
     rintro _ w' a ⟨hx, b12, rfl, hge, hbk⟩ hF
     have hM := hM.fill hx 8 hbk hge
     change Mem w w' [some (b1, tenC p n i o sl), some (b5, numI m0 g), some (b6, numI m1 F), some (b7, numI m2 G), some (b8, tenC 0 0 0 0 (.slice none 0 0)), some (b9, numI m0 g), some (b10, tenC p n i o (.slice (some ⟨b9, 0, none⟩) m0 m0)), some (b11, numI m1 F), some (b12, numI m2 G), none, none, none, none, none, none, none, none] [] at hM
     refine st hF (g_assign hF rfl) rfl fun a hF => ?_
     refine wpList_nil ?_
     refine tN ?_
     refine sq ?_
     refine wp_region_lit ?_
     refine st hF (g_loadAgg ty_ag_26 hF rfl (hM.row 6 rfl) (by simp only [fnC_size, cells_size, vecC_size, tabC_size, planeC_size, tenC_size, smC_size, numC_size, numI_size, rowJ_size] <;> omega) (whole rfl)) rfl fun a hF => st hF (g_move hF rfl) rfl fun a hF => st hF (g_move hF rfl) rfl fun a hF => ?_
     refine stR hF (d_call Try.call9 hF (.cons rfl (.cons rfl (.cons rfl .nil))) (PermI_R p n i o b9 m0 g b11 m1 F b12 m2 G _ (by omega) (hM.row 5 rfl) (hM.row 7 rfl) (hM.row 8 rfl) hT hR)) rfl ?_
     rintro _ w' a ⟨hx, rfl⟩ hF
     have hM := hM.ext hx
     refine st hF (g_move hF rfl) rfl fun a hF => st hF (g_extract hF rfl rfl) rfl fun a hF => st hF (g_extract hF rfl rfl) rfl fun a hF => ?_
     refine stR hF (d_alloc 9 hM ty_ze_26) rfl ?_
     rintro _ w' a ⟨b13, rfl, hM, -⟩ hF
     change Mem w w' [some (b1, tenC p n i o sl), some (b5, numI m0 g), some (b6, numI m1 F), some (b7, numI m2 G), some (b8, tenC 0 0 0 0 (.slice none 0 0)), some (b9, numI m0 g), some (b10, tenC p n i o (.slice (some ⟨b9, 0, none⟩) m0 m0)), some (b11, numI m1 F), some (b12, numI m2 G), some (b13, tenC 0 0 0 0 (.slice none 0 0)), none, none, none, none, none, none, none] [] at hM
     refine stN hF (d_storeAgg 9 hM rfl ty_sz_26 hF rfl rfl (tenC_one rfl) (by simp only [fnC_size, cells_size, vecC_size, tabC_size, planeC_size, tenC_size, smC_size, numC_size, numI_size, rowJ_size]) (by simp only [fnC_size, cells_size, vecC_size, tabC_size, planeC_size, tenC_size, smC_size, numC_size, numI_size, rowJ_size] <;> omega) (splice_whole _ _ rfl)) ?_
     intro _ w' a hM hF
     change Mem w w' [some (b1, tenC p n i o sl), some (b5, numI m0 g), some (b6, numI m1 F), some (b7, numI m2 G), some (b8, tenC 0 0 0 0 (.slice none 0 0)), some (b9, numI m0 g), some (b10, tenC p n i o (.slice (some ⟨b9, 0, none⟩) m0 m0)), some (b11, numI m1 F), some (b12, numI m2 G), some (b13, tenC 0 0 0 0 (.slice none 0 0)), none, none, none, none, none, none, none] [] at hM
     refine st hF (g_assign hF rfl) rfl fun a hF => ?_
     refine wpList_nil ?_
     refine tN ?_
     refine sq ?_
     refine sq ?_
     refine wp_region_lit ?_
     refine st hF (g_loadAgg ty_ag_26 hF rfl (hM.row 9 rfl) (by simp only [fnC_size, cells_size, vecC_size, tabC_size, planeC_size, tenC_size, smC_size, numC_size, numI_size, rowJ_size] <;> omega) (whole rfl)) rfl fun a hF => st hF (g_loadAgg ty_ag_26 hF rfl (hM.row 4 rfl) (by simp only [fnC_size, cells_size, vecC_size, tabC_size, planeC_size, tenC_size, smC_size, numC_size, numI_size, rowJ_size] <;> omega) (whole rfl)) rfl fun a hF => ?_
     refine stR hF (d_call Try.call10 hF (.cons rfl (.cons rfl .nil)) (eqTensor_0 _)) rfl ?_
     rintro _ w' a ⟨hx, rfl⟩ hF
     have hM := hM.ext hx
     refine st hF (g_not hF rfl) rfl fun a hF => st hF (g_move hF rfl) rfl fun a hF => stY hF rfl rfl rfl (g_move hF rfl) rfl fun a hF => stY hF rfl rfl rfl (g_move hF rfl) rfl fun a hF => stY hF rfl rfl rfl (g_neq hF rfl rfl) rfl fun a hF => st hF (g_pickF hF rfl rfl) rfl fun a hF => ?_
     refine wpList_nil ?_
     refine tN ?_
     refine c_kF hF rfl (by decide) ?_
     refine wp_skip ?_
     refine tN ?_
     refine sq ?_
     refine sq ?_
     refine c_par 3 [10] [.val (.agg (tenC p n i o (.slice (some ⟨b9, 0, none⟩) m0 m0))), .val (.agg (tenC p n i o sl)), .own 10 (numI m0 g) (fun b => .agg (tenC p n i o (.slice (some ⟨b, 0, none⟩) m0 m0)))] hmix rfl hF rfl hM ⟨fun a w gG hF hS hd => by have hM := hS.mem rfl; exact par_val hS rfl (g_loadAgg ty_ag_26 hF rfl (hM.row 6 rfl) (by simp only [fnC_size, cells_size, vecC_size, tabC_size, planeC_size, tenC_size, smC_size, numC_size, numI_size, rowJ_size] <;> omega) (whole rfl)), fun a w gG hF hS hd => by have hM := hS.mem rfl; exact par_val hS rfl (g_loadAgg ty_ag_24 hF rfl (hM.row 0 rfl) (by simp only [fnC_size, cells_size, vecC_size, tabC_size, planeC_size, tenC_size, smC_size, numC_size, numI_size, rowJ_size] <;> omega) (whole rfl)), fun a w gG hF hS hd => by have hF := hF.ext1 64 (hd 1 rfl rfl); have hM := hS.mem rfl; exact par_own (by repeat constructor) hS rfl rfl rfl rfl (d_callOwnB 10 hS.1 (d_call Try.call7 hF (.cons rfl .nil) (toTensor_ok p n i o sl m0 g _ (hs.ext hM.below) (by omega)))), trivial⟩ ?_
     intro a w' L hF hS hq
     have hF := hF.ext1 63 (hq 0 rfl rfl)
     have hF := hF.ext1 64 (hq 1 rfl rfl)
     obtain ⟨hM, hL⟩ := hS
     obtain ⟨b15, hptr, hkk⟩ := hq 2 rfl rfl
     have hF := hF.ext1 65 hptr
     have hL := hL.take hkk
     obtain rfl := hL.eq
     change Mem w w' [some (b1, tenC p n i o sl), some (b5, numI m0 g), some (b6, numI m1 F), some (b7, numI m2 G), some (b8, tenC 0 0 0 0 (.slice none 0 0)), some (b9, numI m0 g), some (b10, tenC p n i o (.slice (some ⟨b9, 0, none⟩) m0 m0)), some (b11, numI m1 F), some (b12, numI m2 G), some (b13, tenC 0 0 0 0 (.slice none 0 0)), some (b15, numI m0 g), none, none, none, none, none, none] [] at hM
     change wpList Try.prog _ _ [_, _] _ _
     refine stR hF (d_call Try.call10 hF (.cons rfl (.cons rfl .nil)) (eqTensor_ok p n i o b9 b15 m0 g g _ (hM.row 5 rfl) (hM.row 10 rfl) (by omega) (fun _ _ => rfl))) rfl ?_
     rintro _ w' a ⟨hx, rfl⟩ hF
     have hM := hM.ext hx
     refine st hF (g_not hF rfl) rfl fun a hF => ?_
     refine wpList_nil ?_
     refine tN ?_
     refine c_Fl hF rfl ?_
     refine wp_skip ?_
     refine tN ?_
     refine sq ?_
     refine sq ?_
     refine wp_region_lit ?_
     refine st hF (g_move hF rfl) rfl fun a hF => st hF (g_move hF rfl) rfl fun a hF => ?_
     refine stR hF (d_call Try.call8 hF (.cons rfl .nil) (toInt64S_ok (.slice x1 m1 c1) m1 F _ (hs1.ext hM.below) (by omega))) rfl ?_
     rintro _ w' a ⟨hx, b17, rfl, hge, hbk⟩ hF
     have hM := hM.fill hx 11 hbk hge
     change Mem w w' [some (b1, tenC p n i o sl), some (b5, numI m0 g), some (b6, numI m1 F), some (b7, numI m2 G), some (b8, tenC 0 0 0 0 (.slice none 0 0)), some (b9, numI m0 g), some (b10, tenC p n i o (.slice (some ⟨b9, 0, none⟩) m0 m0)), some (b11, numI m1 F), some (b12, numI m2 G), some (b13, tenC 0 0 0 0 (.slice none 0 0)), some (b15, numI m0 g), some (b17, numI m1 F), none, none, none, none, none] [] at hM
     refine stR hF (d_call Try.call11 hF (.cons rfl (.cons rfl .nil)) (eqInt64S_ok b11 b17 m1 F F _ (hM.row 7 rfl) (hM.row 11 rfl) (by omega) (fun _ _ => rfl))) rfl ?_
     rintro _ w' a ⟨hx, rfl⟩ hF
     have hM := hM.ext hx
     refine st hF (g_not hF rfl) rfl fun a hF => ?_
     refine wpList_nil ?_
     refine tN ?_
     refine c_Fl hF rfl ?_
     refine wp_skip ?_
     refine tN ?_
     refine sq ?_
     refine sq ?_
     refine wp_region_lit ?_
     refine st hF (g_move hF rfl) rfl fun a hF => st hF (g_move hF rfl) rfl fun a hF => ?_
     refine stR hF (d_call Try.call8 hF (.cons rfl .nil) (toInt64S_ok (.slice x2 m2 c2) m2 G _ (hs2.ext hM.below) (by omega))) rfl ?_
     rintro _ w' a ⟨hx, b19, rfl, hge, hbk⟩ hF
     have hM := hM.fill hx 12 hbk hge
     change Mem w w' [some (b1, tenC p n i o sl), some (b5, numI m0 g), some (b6, numI m1 F), some (b7, numI m2 G), some (b8, tenC 0 0 0 0 (.slice none 0 0)), some (b9, numI m0 g), some (b10, tenC p n i o (.slice (some ⟨b9, 0, none⟩) m0 m0)), some (b11, numI m1 F), some (b12, numI m2 G), some (b13, tenC 0 0 0 0 (.slice none 0 0)), some (b15, numI m0 g), some (b17, numI m1 F), some (b19, numI m2 G), none, none, none, none] [] at hM
     refine stR hF (d_call Try.call11 hF (.cons rfl (.cons rfl .nil)) (eqInt64S_ok b12 b19 m2 G G _ (hM.row 8 rfl) (hM.row 12 rfl) (by omega) (fun _ _ => rfl))) rfl ?_
     rintro _ w' a ⟨hx, rfl⟩ hF
     have hM := hM.ext hx
     refine st hF (g_not hF rfl) rfl fun a hF => ?_
     refine wpList_nil ?_
     refine tN ?_
     refine c_Fl hF rfl ?_
     refine wp_skip ?_
     refine tN ?_
     refine sq ?_
     refine wp_region_lit ?_
     refine st hF (g_assign hF rfl) rfl fun a hF => ?_
     refine wpList_nil ?_
     refine tN ?_
     refine sq ?_
     refine wp_region_lit ?_
     refine st hF (g_loadAgg ty_ag_26 hF rfl (hM.row 6 rfl) (by simp only [fnC_size, cells_size, vecC_size, tabC_size, planeC_size, tenC_size, smC_size, numC_size, numI_size, rowJ_size] <;> omega) (whole rfl)) rfl fun a hF => st hF (g_move hF rfl) rfl fun a hF => ?_
     refine stR hF (d_callX Try.call12 hF (.cons rfl (.cons rfl .nil)) (markTensor_ok p n i o b9 m0 (1) g _ (by omega) (by omega) (hM.row 5 rfl))) rfl ?_
     rintro _ w' a ⟨hx, rfl, hbk⟩ hF
     have hM := hM.upd 5 rfl hx hbk
     change Mem w w' [some (b1, tenC p n i o sl), some (b5, numI m0 g), some (b6, numI m1 F), some (b7, numI m2 G), some (b8, tenC 0 0 0 0 (.slice none 0 0)), some (b9, numC m0 (fun c => (1) + c)), some (b10, tenC p n i o (.slice (some ⟨b9, 0, none⟩) m0 m0)), some (b11, numI m1 F), some (b12, numI m2 G), some (b13, tenC 0 0 0 0 (.slice none 0 0)), some (b15, numI m0 g), some (b17, numI m1 F), some (b19, numI m2 G), none, none, none, none] [] at hM
     refine st hF (g_assign hF rfl) rfl fun a hF => ?_
     refine wpList_nil ?_
     refine tN ?_
     refine sq ?_
     refine wp_region_lit ?_
     refine st hF (g_move hF rfl) rfl fun a hF => st hF (g_move hF rfl) rfl fun a hF => ?_
     refine stR hF (d_callX Try.call13 hF (.cons rfl (.cons rfl .nil)) (markInt64S_ok b11 m1 (1 + m0) F _ (by omega) (by omega) (hM.row 7 rfl))) rfl ?_
     rintro _ w' a ⟨hx, rfl, hbk⟩ hF
     have hM := hM.upd 7 rfl hx hbk
     change Mem w w' [some (b1, tenC p n i o sl), some (b5, numI m0 g), some (b6, numI m1 F), some (b7, numI m2 G), some (b8, tenC 0 0 0 0 (.slice none 0 0)), some (b9, numC m0 (fun c => (1) + c)), some (b10, tenC p n i o (.slice (some ⟨b9, 0, none⟩) m0 m0)), some (b11, numC m1 (fun c => (1 + m0) + c)), some (b12, numI m2 G), some (b13, tenC 0 0 0 0 (.slice none 0 0)), some (b15, numI m0 g), some (b17, numI m1 F), some (b19, numI m2 G), none, none, none, none] [] at hM
     refine st hF (g_assign hF rfl) rfl fun a hF => ?_
     refine wpList_nil ?_
     refine tN ?_
     refine sq ?_
     refine wp_region_lit ?_
     refine st hF (g_move hF rfl) rfl fun a hF => st hF (g_move hF rfl) rfl fun a hF => ?_
     refine stR hF (d_callX Try.call13 hF (.cons rfl (.cons rfl .nil)) (markInt64S_ok b12 m2 (1 + m0 + m1) G _ (by omega) (by omega) (hM.row 8 rfl))) rfl ?_
     rintro _ w' a ⟨hx, rfl, hbk⟩ hF
     have hM := hM.upd 8 rfl hx hbk
     change Mem w w' [some (b1, tenC p n i o sl), some (b5, numI m0 g), some (b6, numI m1 F), some (b7, numI m2 G), some (b8, tenC 0 0 0 0 (.slice none 0 0)), some (b9, numC m0 (fun c => (1) + c)), some (b10, tenC p n i o (.slice (some ⟨b9, 0, none⟩) m0 m0)), some (b11, numC m1 (fun c => (1 + m0) + c)), some (b12, numC m2 (fun c => (1 + m0 + m1) + c)), some (b13, tenC 0 0 0 0 (.slice none 0 0)), some (b15, numI m0 g), some (b17, numI m1 F), some (b19, numI m2 G), none, none, none, none] [] at hM
     refine st hF (g_assign hF rfl) rfl fun a hF => ?_
     refine wpList_nil ?_
     refine tN ?_
     refine sq ?_
     refine sq ?_
     refine wp_region_lit ?_
     refine st hF (g_move hF rfl) rfl fun a hF => st hF (g_lss hF rfl rfl) rfl fun a hF => st hF (g_move hF rfl) rfl fun a hF => ?_
     by_cases g21 : (((1 + m0 + m1 + m2 : Nat) : Int) : Int) < 0
     ·
      first | rw [decide_eq_true g21] at hF | simp only [decide_eq_true g21] at hF
      first | exact absurd rfl g21 | (exfalso; omega)
     ·
      first | rw [decide_eq_false g21] at hF | simp only [decide_eq_false g21] at hF
      refine stY hF rfl rfl rfl (g_loadAgg ty_ag_26 hF rfl (hM.row 9 rfl) (by simp only [fnC_size, cells_size, vecC_size, tabC_size, planeC_size, tenC_size, smC_size, numC_size, numI_size, rowJ_size] <;> omega) (whole rfl)) rfl fun a hF => stY hF rfl rfl rfl (g_loadAgg ty_ag_26 hF rfl (hM.row 4 rfl) (by simp only [fnC_size, cells_size, vecC_size, tabC_size, planeC_size, tenC_size, smC_size, numC_size, numI_size, rowJ_size] <;> omega) (whole rfl)) rfl fun a hF => ?_
      refine stYR hF rfl rfl rfl (d_call Try.call10 hF (.cons rfl (.cons rfl .nil)) (eqTensor_0 _)) rfl ?_
      rintro _ w' a ⟨hx, rfl⟩ hF
      have hM := hM.ext hx
      refine stY hF rfl rfl rfl (g_not hF rfl) rfl fun a hF => st hF (g_pickF hF rfl rfl) rfl fun a hF => st hF (g_move hF rfl) rfl fun a hF => stY hF rfl rfl rfl (g_move hF rfl) rfl fun a hF => stY hF rfl rfl rfl (g_move hF rfl) rfl fun a hF => stY hF rfl rfl rfl (g_neq hF rfl rfl) rfl fun a hF => st hF (g_pickF hF rfl rfl) rfl fun a hF => ?_
      refine wpList_nil ?_
      refine tN ?_
      refine c_kF hF rfl (by decide) ?_
      refine wp_skip ?_
      refine tN ?_
      refine sq ?_
      refine wp_region_lit ?_
      refine st hF (g_assign hF rfl) rfl fun a hF => ?_
      refine wpList_nil ?_
      refine tN ?_
      refine sq ?_
      refine wp_region_lit ?_
      refine st hF (g_loadAgg ty_ag_26 hF rfl (hM.row 9 rfl) (by simp only [fnC_size, cells_size, vecC_size, tabC_size, planeC_size, tenC_size, smC_size, numC_size, numI_size, rowJ_size] <;> omega) (whole rfl)) rfl fun a hF => st hF (g_move hF rfl) rfl fun a hF => ?_
      refine stR hF (d_call Try.call12 hF (.cons rfl (.cons rfl .nil)) (markTensor_0 (1) _ (by omega))) rfl ?_
      rintro _ w' a ⟨hx, rfl⟩ hF
      have hM := hM.ext hx
      refine st hF (g_assign hF rfl) rfl fun a hF => ?_
      refine wpList_nil ?_
      refine tN ?_
      refine sq ?_
      refine wp_region_lit ?_
      refine st hF (g_assign hF rfl) rfl fun a hF => ?_
      refine wpList_nil ?_
      refine tN ?_
      refine sq ?_
      refine wp_region_lit ?_
      refine st hF (g_loadAgg ty_ag_26 hF rfl (hM.row 9 rfl) (by simp only [fnC_size, cells_size, vecC_size, tabC_size, planeC_size, tenC_size, smC_size, numC_size, numI_size, rowJ_size] <;> omega) (whole rfl)) rfl fun a hF => st hF (g_move hF rfl) rfl fun a hF => ?_
      refine stR hF (d_call Try.call14 hF (.cons rfl (.cons rfl .nil)) (heldTensor_0 (1) _ (by omega))) rfl ?_
      rintro _ w' a ⟨hx, rfl⟩ hF
      have hM := hM.ext hx
      refine st hF (g_assign hF rfl) rfl fun a hF => ?_
      refine wpList_nil ?_
      refine tN ?_
      refine sq ?_
      refine sq ?_
      refine wp_region_lit ?_
      refine st hF (g_move hF rfl) rfl fun a hF => st hF (g_lss hF rfl rfl) rfl fun a hF => ?_
      refine wpList_nil ?_
      refine tN ?_
      refine c_cond hF rfl (fun h23 => ?_) (fun h23 => ?_)
      ·
       first | exact absurd rfl h23 | (exfalso; omega)
      ·
       refine wp_skip ?_
       refine tN ?_
       refine sq ?_
       refine sq ?_
       refine wp_region_lit ?_
       refine st hF (g_move hF rfl) rfl fun a hF => st hF (g_move hF rfl) rfl fun a hF => st hF (g_neq hF rfl rfl) rfl fun a hF => ?_
       refine wpList_nil ?_
       refine tN ?_
       refine c_kF hF rfl (by decide) ?_
       refine wp_skip ?_
       refine tN ?_
       refine sq ?_
       refine wp_region_lit ?_
       refine st hF (g_loadAgg ty_ag_24 hF rfl (hM.row 0 rfl) (by simp only [fnC_size, cells_size, vecC_size, tabC_size, planeC_size, tenC_size, smC_size, numC_size, numI_size, rowJ_size] <;> omega) (whole rfl)) rfl fun a hF => ?_
       refine stR hF (d_call Try.call7 hF (.cons rfl .nil) (toTensor_ok p n i o sl m0 g _ (hs.ext hM.below) (by omega))) rfl ?_
       rintro _ w' a ⟨hx, b25, rfl, hge, hbk⟩ hF
       have hM := hM.fill hx 13 hbk hge
       change Mem w w' [some (b1, tenC p n i o sl), some (b5, numI m0 g), some (b6, numI m1 F), some (b7, numI m2 G), some (b8, tenC 0 0 0 0 (.slice none 0 0)), some (b9, numC m0 (fun c => (1) + c)), some (b10, tenC p n i o (.slice (some ⟨b9, 0, none⟩) m0 m0)), some (b11, numC m1 (fun c => (1 + m0) + c)), some (b12, numC m2 (fun c => (1 + m0 + m1) + c)), some (b13, tenC 0 0 0 0 (.slice none 0 0)), some (b15, numI m0 g), some (b17, numI m1 F), some (b19, numI m2 G), some (b25, numI m0 g), none, none, none] [] at hM
       refine st hF (g_move hF rfl) rfl fun a hF => ?_
       refine stR hF (d_call Try.call8 hF (.cons rfl .nil) (toInt64S_ok (.slice x1 m1 c1) m1 F _ (hs1.ext hM.below) (by omega))) rfl ?_
       rintro _ w' a ⟨hx, b26, rfl, hge, hbk⟩ hF
       have hM := hM.fill hx 14 hbk hge
       change Mem w w' [some (b1, tenC p n i o sl), some (b5, numI m0 g), some (b6, numI m1 F), some (b7, numI m2 G), some (b8, tenC 0 0 0 0 (.slice none 0 0)), some (b9, numC m0 (fun c => (1) + c)), some (b10, tenC p n i o (.slice (some ⟨b9, 0, none⟩) m0 m0)), some (b11, numC m1 (fun c => (1 + m0) + c)), some (b12, numC m2 (fun c => (1 + m0 + m1) + c)), some (b13, tenC 0 0 0 0 (.slice none 0 0)), some (b15, numI m0 g), some (b17, numI m1 F), some (b19, numI m2 G), some (b25, numI m0 g), some (b26, numI m1 F), none, none] [] at hM
       refine st hF (g_move hF rfl) rfl fun a hF => ?_
       refine stR hF (d_call Try.call8 hF (.cons rfl .nil) (toInt64S_ok (.slice x2 m2 c2) m2 G _ (hs2.ext hM.below) (by omega))) rfl ?_
       rintro _ w' a ⟨hx, b27, rfl, hge, hbk⟩ hF
       have hM := hM.fill hx 15 hbk hge
       change Mem w w' [some (b1, tenC p n i o sl), some (b5, numI m0 g), some (b6, numI m1 F), some (b7, numI m2 G), some (b8, tenC 0 0 0 0 (.slice none 0 0)), some (b9, numC m0 (fun c => (1) + c)), some (b10, tenC p n i o (.slice (some ⟨b9, 0, none⟩) m0 m0)), some (b11, numC m1 (fun c => (1 + m0) + c)), some (b12, numC m2 (fun c => (1 + m0 + m1) + c)), some (b13, tenC 0 0 0 0 (.slice none 0 0)), some (b15, numI m0 g), some (b17, numI m1 F), some (b19, numI m2 G), some (b25, numI m0 g), some (b26, numI m1 F), some (b27, numI m2 G), none] [] at hM
       refine stR hF (d_call Try.call9 hF (.cons rfl (.cons rfl (.cons rfl .nil))) (PermI_R p n i o b25 m0 g b26 m1 F b27 m2 G _ (by omega) (hM.row 13 rfl) (hM.row 14 rfl) (hM.row 15 rfl) hT hR)) rfl ?_
       rintro _ w' a ⟨hx, rfl⟩ hF
       have hM := hM.ext hx
       refine st hF (g_move hF rfl) rfl fun a hF => st hF (g_extract hF rfl rfl) rfl fun a hF => st hF (g_extract hF rfl rfl) rfl fun a hF => ?_
       refine stR hF (d_alloc 16 hM ty_ze_26) rfl ?_
       rintro _ w' a ⟨b28, rfl, hM, -⟩ hF
       change Mem w w' [some (b1, tenC p n i o sl), some (b5, numI m0 g), some (b6, numI m1 F), some (b7, numI m2 G), some (b8, tenC 0 0 0 0 (.slice none 0 0)), some (b9, numC m0 (fun c => (1) + c)), some (b10, tenC p n i o (.slice (some ⟨b9, 0, none⟩) m0 m0)), some (b11, numC m1 (fun c => (1 + m0) + c)), some (b12, numC m2 (fun c => (1 + m0 + m1) + c)), some (b13, tenC 0 0 0 0 (.slice none 0 0)), some (b15, numI m0 g), some (b17, numI m1 F), some (b19, numI m2 G), some (b25, numI m0 g), some (b26, numI m1 F), some (b27, numI m2 G), some (b28, tenC 0 0 0 0 (.slice none 0 0))] [] at hM
       refine stN hF (d_storeAgg 16 hM rfl ty_sz_26 hF rfl rfl (tenC_one rfl) (by simp only [fnC_size, cells_size, vecC_size, tabC_size, planeC_size, tenC_size, smC_size, numC_size, numI_size, rowJ_size]) (by simp only [fnC_size, cells_size, vecC_size, tabC_size, planeC_size, tenC_size, smC_size, numC_size, numI_size, rowJ_size] <;> omega) (splice_whole _ _ rfl)) ?_
       intro _ w' a hM hF
       change Mem w w' [some (b1, tenC p n i o sl), some (b5, numI m0 g), some (b6, numI m1 F), some (b7, numI m2 G), some (b8, tenC 0 0 0 0 (.slice none 0 0)), some (b9, numC m0 (fun c => (1) + c)), some (b10, tenC p n i o (.slice (some ⟨b9, 0, none⟩) m0 m0)), some (b11, numC m1 (fun c => (1 + m0) + c)), some (b12, numC m2 (fun c => (1 + m0 + m1) + c)), some (b13, tenC 0 0 0 0 (.slice none 0 0)), some (b15, numI m0 g), some (b17, numI m1 F), some (b19, numI m2 G), some (b25, numI m0 g), some (b26, numI m1 F), some (b27, numI m2 G), some (b28, tenC 0 0 0 0 (.slice none 0 0))] [] at hM
       refine st hF (g_assign hF rfl) rfl fun a hF => ?_
       refine wpList_nil ?_
       refine tN ?_
       refine sq ?_
       refine sq ?_
       refine wp_region_lit ?_
       refine st hF (g_loadAgg ty_ag_26 hF rfl (hM.row 16 rfl) (by simp only [fnC_size, cells_size, vecC_size, tabC_size, planeC_size, tenC_size, smC_size, numC_size, numI_size, rowJ_size] <;> omega) (whole rfl)) rfl fun a hF => st hF (g_loadAgg ty_ag_26 hF rfl (hM.row 4 rfl) (by simp only [fnC_size, cells_size, vecC_size, tabC_size, planeC_size, tenC_size, smC_size, numC_size, numI_size, rowJ_size] <;> omega) (whole rfl)) rfl fun a hF => ?_
       refine stR hF (d_call Try.call10 hF (.cons rfl (.cons rfl .nil)) (eqTensor_0 _)) rfl ?_
       rintro _ w' a ⟨hx, rfl⟩ hF
       have hM := hM.ext hx
       refine st hF (g_not hF rfl) rfl fun a hF => st hF (g_move hF rfl) rfl fun a hF => stY hF rfl rfl rfl (g_move hF rfl) rfl fun a hF => stY hF rfl rfl rfl (g_move hF rfl) rfl fun a hF => stY hF rfl rfl rfl (g_neq hF rfl rfl) rfl fun a hF => st hF (g_pickF hF rfl rfl) rfl fun a hF => ?_
       refine wpList_nil ?_
       refine tN ?_
       refine c_kF hF rfl (by decide) ?_
       refine wp_skip ?_
       refine tN ?_
       refine sq ?_
       refine wp_region_lit ?_
       refine st hF (g_assign hF rfl) rfl fun a hF => ?_
       refine wpList_nil ?_
       refine tN ?_
       refine sq ?_
       refine wp_region_lit ?_
       refine st hF (g_loadAgg ty_ag_26 hF rfl (hM.row 9 rfl) (by simp only [fnC_size, cells_size, vecC_size, tabC_size, planeC_size, tenC_size, smC_size, numC_size, numI_size, rowJ_size] <;> omega) (whole rfl)) rfl fun a hF => st hF (g_move hF rfl) rfl fun a hF => ?_
       refine stR hF (d_call Try.call14 hF (.cons rfl (.cons rfl .nil)) (heldTensor_0 (1) _ (by omega))) rfl ?_
       rintro _ w' a ⟨hx, rfl⟩ hF
       have hM := hM.ext hx
       refine st hF (g_assign hF rfl) rfl fun a hF => ?_
       refine wpList_nil ?_
       refine tN ?_
       refine sq ?_
       refine sq ?_
       refine wp_region_lit ?_
       refine st hF (g_move hF rfl) rfl fun a hF => st hF (g_lss hF rfl rfl) rfl fun a hF => ?_
       refine wpList_nil ?_
       refine tN ?_
       refine c_kF hF rfl h23 ?_
       refine wp_skip ?_
       refine tN ?_
       refine sq ?_
       refine sq ?_
       refine wp_region_lit ?_
       refine st hF (g_move hF rfl) rfl fun a hF => st hF (g_move hF rfl) rfl fun a hF => st hF (g_neq hF rfl rfl) rfl fun a hF => ?_
       refine wpList_nil ?_
       refine tN ?_
       refine c_kF hF rfl (by decide) ?_
       refine wp_skip ?_
       refine tN ?_
       refine sq ?_
       refine wp_region_lit ?_
       refine st hF (g_assign hF rfl) rfl fun a hF => ?_
       refine wpList_nil ?_
       refine tN ?_
       refine wp_ret ?_
       refine fin1 rfl hF.defers (res_tmp hF rfl) ⟨_, rfl, hM.below, ?_⟩
       show _ = _
       rfl

set_option maxRecDepth 100000 in
theorem law_PermuteTensorV (p n i o : Nat) (sl : Value) (f : Nat → Nat) (x1 : Option Addr) (c1 : Nat) (ua : Nat → Nat) (x2 : Option Addr) (c2 : Nat) (ub : Nat → Nat) (w : World) (hpP : primeP (p : Int)) (hn0 : 0 < n) (hn : n ≤ 6) (hw : wl n i o) (hfp : ∀ c, f c < p) (hua : ∀ c, c < i → ua c < i) (hub : ∀ c, c < o → ub c < o) (hLa : LegP i (fun c => ((ua c : Nat) : Int))) (hLb : LegP o (fun c => ((ub c : Nat) : Int)))  (hs : ArgSl w sl (n ^ (i + o)) (fun c => ((f c : Nat) : Int))) (hs1 : ArgSl w (.slice x1 i c1) i (fun c => ((ua c : Nat) : Int))) (hs2 : ArgSl w (.slice x2 o c2) o (fun c => ((ub c : Nat) : Int))) :
    CallsR Try.prog 3 #[.agg (tenC (p : Int) (n : Int) (i : Int) (o : Int) sl), .slice x1 i c1, .slice x2 o c2] w (fun res _ => res = .bool true) := by
  refine calls_fr [.agg (tenC (p : Int) (n : Int) (i : Int) (o : Int) sl), .slice x1 i c1, .slice x2 o c2] Try.func3 rfl Try.ntmps3 rfl fun a hF => ?_
  have hM : Mem w w [none, none, none, none, none, none, none, none, none, none, none, none, none, none, none, none, none, none, none, none] [] := MemX.start w 20
  change Fr 138 a [(0, .agg (tenC (p : Int) (n : Int) (i : Int) (o : Int) sl)), (1, .slice x1 i c1), (2, .slice x2 o c2)] at hF
  have hso := hs.one
  have hp0 : 0 < p := by have h := hpP; unfold primeP at h; omega
  have hp2 : p < 100 := by have h := hpP; unfold primeP at h; omega
  have hw3 := hw.2.2
  have hw1 := hw.1
  have hw2 := hw.2.1
  have hT := TenP.of_nat hpP hn0 hn hw rfl hfp
  have hw1 := hw.1
  have hw2 := hw.2.1
  refine sq ?_
  refine wp_region_lit ?_
  refine stR hF (d_box 0 hM hF rfl) rfl ?_
  rintro _ w' a ⟨b1, rfl, hM, -⟩ hF
  change Mem w w' [some (b1, tenC (p : Int) (n : Int) (i : Int) (o : Int) sl), none, none, none, none, none, none, none, none, none, none, none, none, none, none, none, none, none, none, none] [] at hM
  refine st hF (g_assign hF rfl) rfl fun a hF => ?_
  refine wpList_nil ?_
  refine tN ?_
  refine sq ?_
  refine sq ?_
  refine wp_region_lit ?_
  refine st hF (g_move hF rfl) rfl fun a hF => st hF (g_lenX ty_us_22 hF rfl) rfl fun a hF => st hF (g_gtr hF rfl rfl) rfl fun a hF => ?_
  refine wpList_nil ?_
  refine tN ?_
  refine c_cond hF rfl (fun h2 => ?_) (fun h2 => ?_)
  ·
   first | exact absurd rfl h2 | (exfalso; omega)
  ·
   refine wp_skip ?_
   refine tN ?_
   refine sq ?_
   refine sq ?_
   refine wp_region_lit ?_
   refine st hF (g_move hF rfl) rfl fun a hF => st hF (g_lenX ty_us_22 hF rfl) rfl fun a hF => st hF (g_gtr hF rfl rfl) rfl fun a hF => ?_
   refine wpList_nil ?_
   refine tN ?_
   refine c_cond hF rfl (fun h3 => ?_) (fun h3 => ?_)
   ·
    first | exact absurd rfl h3 | (exfalso; omega)
   ·
    refine wp_skip ?_
    refine tN ?_
    refine sq ?_
    refine wp_region_lit ?_
    refine st hF (g_assign hF rfl) rfl fun a hF => ?_
    refine wpList_nil ?_
    refine tN ?_
    refine sq ?_
    refine wp_region_lit ?_
    refine st hF (g_loadAgg ty_ag_24 hF rfl (hM.row 0 rfl) (by simp only [fnC_size, cells_size, vecC_size, tabC_size, planeC_size, tenC_size, smC_size, numC_size, numI_size, rowJ_size] <;> omega) (whole rfl)) rfl fun a hF => st hF (g_move hF rfl) rfl fun a hF => ?_
    refine stR hF (d_call Try.call5 hF (.cons rfl (.cons rfl .nil)) (szTensor_ok (p : Int) (n : Int) (i : Int) (o : Int) sl (n ^ (i + o)) (1048576) (fun c => ((f c : Nat) : Int)) _ (hs.ext hM.below) (by omega) (by omega))) rfl ?_
    rintro _ w' a ⟨hx, rfl⟩ hF
    have hM := hM.ext hx
    refine st hF (g_assign hF rfl) rfl fun a hF => ?_
    refine wpList_nil ?_
    refine tN ?_
    refine sq ?_
    refine sq ?_
    refine wp_region_lit ?_
    refine st hF (g_move hF rfl) rfl fun a hF => st hF (g_lss hF rfl rfl) rfl fun a hF => ?_
    refine wpList_nil ?_
    refine tN ?_
    refine c_cond hF rfl (fun h4 => ?_) (fun h4 => ?_)
    ·
     first | exact absurd rfl h4 | (exfalso; omega)
    ·
     refine wp_skip ?_
     refine tN ?_
     refine sq ?_
     refine wp_region_lit ?_
     refine st hF (g_loadAgg ty_ag_24 hF rfl (hM.row 0 rfl) (by simp only [fnC_size, cells_size, vecC_size, tabC_size, planeC_size, tenC_size, smC_size, numC_size, numI_size, rowJ_size] <;> omega) (whole rfl)) rfl fun a hF => ?_
     refine stR hF (d_call Try.call7 hF (.cons rfl .nil) (toTensor_ok (p : Int) (n : Int) (i : Int) (o : Int) sl (n ^ (i + o)) (fun c => ((f c : Nat) : Int)) _ (hs.ext hM.below) (by omega))) rfl ?_
     rintro _ w' a ⟨hx, b5, rfl, hge, hbk⟩ hF
     have hM := hM.fill hx 1 hbk hge
     change Mem w w' [some (b1, tenC (p : Int) (n : Int) (i : Int) (o : Int) sl), some (b5, numC (n ^ (i + o)) f), none, none, none, none, none, none, none, none, none, none, none, none, none, none, none, none, none, none] [] at hM
     refine st hF (g_move hF rfl) rfl fun a hF => ?_
     refine stR hF (d_call Try.call8 hF (.cons rfl .nil) (toInt64S_ok (.slice x1 i c1) i (fun c => ((ua c : Nat) : Int)) _ (hs1.ext hM.below) (by omega))) rfl ?_
     rintro _ w' a ⟨hx, b6, rfl, hge, hbk⟩ hF
     have hM := hM.fill hx 2 hbk hge
     change Mem w w' [some (b1, tenC (p : Int) (n : Int) (i : Int) (o : Int) sl), some (b5, numC (n ^ (i + o)) f), some (b6, numC i ua), none, none, none, none, none, none, none, none, none, none, none, none, none, none, none, none, none] [] at hM
     refine st hF (g_move hF rfl) rfl fun a hF => ?_
     refine stR hF (d_call Try.call8 hF (.cons rfl .nil) (toInt64S_ok (.slice x2 o c2) o (fun c => ((ub c : Nat) : Int)) _ (hs2.ext hM.below) (by omega))) rfl ?_
     rintro _ w' a ⟨hx, b7, rfl, hge, hbk⟩ hF
     have hM := hM.fill hx 3 hbk hge
     change Mem w w' [some (b1, tenC (p : Int) (n : Int) (i : Int) (o : Int) sl), some (b5, numC (n ^ (i + o)) f), some (b6, numC i ua), some (b7, numC o ub), none, none, none, none, none, none, none, none, none, none, none, none, none, none, none, none] [] at hM
     refine stR hF (d_call Try.call6 hF (.cons rfl (.cons rfl (.cons rfl .nil))) (PermS_V p n i o b5 f b6 ua b7 ub _ hpP hn0 hn hw hfp hua hub hLa hLb (hM.row 1 rfl) (hM.row 2 rfl) (hM.row 3 rfl))) rfl ?_
     rintro _ w' a ⟨hx, b8, rfl, hge, hbk⟩ hF
     have hM := hM.fill hx 4 hbk hge
     change Mem w w' [some (b1, tenC (p : Int) (n : Int) (i : Int) (o : Int) sl), some (b5, numC (n ^ (i + o)) f), some (b6, numC i ua), some (b7, numC o ub), some (b8, numC (n ^ (i + o)) (Rw.pmF n (i + o) (ordF i ua ub) f)), none, none, none, none, none, none, none, none, none, none, none, none, none, none, none] [] at hM
     refine st hF (g_move hF rfl) rfl fun a hF => st hF (g_extract hF rfl rfl) rfl fun a hF => st hF (g_extract hF rfl rfl) rfl fun a hF => ?_
     refine stR hF (d_alloc 5 hM ty_ze_26) rfl ?_
     rintro _ w' a ⟨b9, rfl, hM, -⟩ hF
     change Mem w w' [some (b1, tenC (p : Int) (n : Int) (i : Int) (o : Int) sl), some (b5, numC (n ^ (i + o)) f), some (b6, numC i ua), some (b7, numC o ub), some (b8, numC (n ^ (i + o)) (Rw.pmF n (i + o) (ordF i ua ub) f)), some (b9, tenC 0 0 0 0 (.slice none 0 0)), none, none, none, none, none, none, none, none, none, none, none, none, none, none] [] at hM
     refine stN hF (d_storeAgg 5 hM rfl ty_sz_26 hF rfl rfl (tenC_one rfl) (by simp only [fnC_size, cells_size, vecC_size, tabC_size, planeC_size, tenC_size, smC_size, numC_size, numI_size, rowJ_size]) (by simp only [fnC_size, cells_size, vecC_size, tabC_size, planeC_size, tenC_size, smC_size, numC_size, numI_size, rowJ_size] <;> omega) (splice_whole _ _ rfl)) ?_
     intro _ w' a hM hF
     change Mem w w' [some (b1, tenC (p : Int) (n : Int) (i : Int) (o : Int) sl), some (b5, numC (n ^ (i + o)) f), some (b6, numC i ua), some (b7, numC o ub), some (b8, numC (n ^ (i + o)) (Rw.pmF n (i + o) (ordF i ua ub) f)), some (b9, tenC (p : Int) (n : Int) (i : Int) (o : Int) (.slice (some ⟨b8, 0, none⟩) (n ^ (i + o)) (n ^ (i + o)))), none, none, none, none, none, none, none, none, none, none, none, none, none, none] [] at hM
     refine st hF (g_assign hF rfl) rfl fun a hF => ?_
     refine wpList_nil ?_
     refine tN ?_
     refine sq ?_
     refine wp_region_lit ?_
     refine st hF (g_loadAgg ty_ag_24 hF rfl (hM.row 0 rfl) (by simp only [fnC_size, cells_size, vecC_size, tabC_size, planeC_size, tenC_size, smC_size, numC_size, numI_size, rowJ_size] <;> omega) (whole rfl)) rfl fun a hF => ?_
     refine stR hF (d_call Try.call7 hF (.cons rfl .nil) (toTensor_ok (p : Int) (n : Int) (i : Int) (o : Int) sl (n ^ (i + o)) (fun c => ((f c : Nat) : Int)) _ (hs.ext hM.below) (by omega))) rfl ?_
     rintro _ w' a ⟨hx, b10, rfl, hge, hbk⟩ hF
     have hM := hM.fill hx 6 hbk hge
     change Mem w w' [some (b1, tenC (p : Int) (n : Int) (i : Int) (o : Int) sl), some (b5, numC (n ^ (i + o)) f), some (b6, numC i ua), some (b7, numC o ub), some (b8, numC (n ^ (i + o)) (Rw.pmF n (i + o) (ordF i ua ub) f)), some (b9, tenC (p : Int) (n : Int) (i : Int) (o : Int) (.slice (some ⟨b8, 0, none⟩) (n ^ (i + o)) (n ^ (i + o)))), some (b10, numC (n ^ (i + o)) f), none, none, none, none, none, none, none, none, none, none, none, none, none] [] at hM
     refine stR hF (d_alloc 7 hM ty_ze_26) rfl ?_
     rintro _ w' a ⟨b11, rfl, hM, -⟩ hF
     change Mem w w' [some (b1, tenC (p : Int) (n : Int) (i : Int) (o : Int) sl), some (b5, numC (n ^ (i + o)) f), some (b6, numC i ua), some (b7, numC o ub), some (b8, numC (n ^ (i + o)) (Rw.pmF n (i + o) (ordF i ua ub) f)), some (b9, tenC (p : Int) (n : Int) (i : Int) (o : Int) (.slice (some ⟨b8, 0, none⟩) (n ^ (i + o)) (n ^ (i + o)))), some (b10, numC (n ^ (i + o)) f), some (b11, tenC 0 0 0 0 (.slice none 0 0)), none, none, none, none, none, none, none, none, none, none, none, none] [] at hM
     refine stN hF (d_storeAgg 7 hM rfl ty_sz_26 hF rfl rfl (tenC_one rfl) (by simp only [fnC_size, cells_size, vecC_size, tabC_size, planeC_size, tenC_size, smC_size, numC_size, numI_size, rowJ_size]) (by simp only [fnC_size, cells_size, vecC_size, tabC_size, planeC_size, tenC_size, smC_size, numC_size, numI_size, rowJ_size] <;> omega) (splice_whole _ _ rfl)) ?_
     intro _ w' a hM hF
     change Mem w w' [some (b1, tenC (p : Int) (n : Int) (i : Int) (o : Int) sl), some (b5, numC (n ^ (i + o)) f), some (b6, numC i ua), some (b7, numC o ub), some (b8, numC (n ^ (i + o)) (Rw.pmF n (i + o) (ordF i ua ub) f)), some (b9, tenC (p : Int) (n : Int) (i : Int) (o : Int) (.slice (some ⟨b8, 0, none⟩) (n ^ (i + o)) (n ^ (i + o)))), some (b10, numC (n ^ (i + o)) f), some (b11, tenC (p : Int) (n : Int) (i : Int) (o : Int) (.slice (some ⟨b10, 0, none⟩) (n ^ (i + o)) (n ^ (i + o)))), none, none, none, none, none, none, none, none, none, none, none, none] [] at hM
     refine wpList_nil ?_
     refine tN ?_
     refine sq ?_
     refine wp_region_lit ?_
     refine st hF (g_move hF rfl) rfl fun a hF => ?_
     refine stR hF (d_call Try.call8 hF (.cons rfl .nil) (toInt64S_ok (.slice x1 i c1) i (fun c => ((ua c : Nat) : Int)) _ (hs1.ext hM.below) (by omega))) rfl ?_
     rintro _ w' a ⟨hx, b12, rfl, hge, hbk⟩ hF
     have hM := hM.fill hx 8 hbk hge
     change Mem w w' [some (b1, tenC (p : Int) (n : Int) (i : Int) (o : Int) sl), some (b5, numC (n ^ (i + o)) f), some (b6, numC i ua), some (b7, numC o ub), some (b8, numC (n ^ (i + o)) (Rw.pmF n (i + o) (ordF i ua ub) f)), some (b9, tenC (p : Int) (n : Int) (i : Int) (o : Int) (.slice (some ⟨b8, 0, none⟩) (n ^ (i + o)) (n ^ (i + o)))), some (b10, numC (n ^ (i + o)) f), some (b11, tenC (p : Int) (n : Int) (i : Int) (o : Int) (.slice (some ⟨b10, 0, none⟩) (n ^ (i + o)) (n ^ (i + o)))), some (b12, numC i ua), none, none, none, none, none, none, none, none, none, none, none] [] at hM
     refine st hF (g_assign hF rfl) rfl fun a hF => ?_
     refine wpList_nil ?_
     refine tN ?_
     refine sq ?_
     refine wp_region_lit ?_
     refine st hF (g_move hF rfl) rfl fun a hF => ?_
     refine stR hF (d_call Try.call8 hF (.cons rfl .nil) (toInt64S_ok (.slice x2 o c2) o (fun c => ((ub c : Nat) : Int)) _ (hs2.ext hM.below) (by omega))) rfl ?_
     rintro _ w' a ⟨hx, b13, rfl, hge, hbk⟩ hF
     have hM := hM.fill hx 9 hbk hge
     change Mem w w' [some (b1, tenC (p : Int) (n : Int) (i : Int) (o : Int) sl), some (b5, numC (n ^ (i + o)) f), some (b6, numC i ua), some (b7, numC o ub), some (b8, numC (n ^ (i + o)) (Rw.pmF n (i + o) (ordF i ua ub) f)), some (b9, tenC (p : Int) (n : Int) (i : Int) (o : Int) (.slice (some ⟨b8, 0, none⟩) (n ^ (i + o)) (n ^ (i + o)))), some (b10, numC (n ^ (i + o)) f), some (b11, tenC (p : Int) (n : Int) (i : Int) (o : Int) (.slice (some ⟨b10, 0, none⟩) (n ^ (i + o)) (n ^ (i + o)))), some (b12, numC i ua), some (b13, numC o ub), none, none, none, none, none, none, none, none, none, none] [] at hM
     refine st hF (g_assign hF rfl) rfl fun a hF => ?_
     refine wpList_nil ?_
     refine tN ?_
     refine sq ?_
     refine wp_region_lit ?_
     refine st hF (g_loadAgg ty_ag_26 hF rfl (hM.row 7 rfl) (by simp only [fnC_size, cells_size, vecC_size, tabC_size, planeC_size, tenC_size, smC_size, numC_size, numI_size, rowJ_size] <;> omega) (whole rfl)) rfl fun a hF => st hF (g_move hF rfl) rfl fun a hF => st hF (g_move hF rfl) rfl fun a hF => ?_
     refine stR hF (d_call Try.call9 hF (.cons rfl (.cons rfl (.cons rfl .nil))) (PermI_V p n i o b10 f b12 ua b13 ub _ hpP hn0 hn hw hfp hua hub hLa hLb (hM.row 6 rfl) (hM.row 8 rfl) (hM.row 9 rfl))) rfl ?_
     rintro _ w' a ⟨hx, b14, rfl, hge, hbk⟩ hF
     have hM := hM.fill hx 10 hbk hge
     change Mem w w' [some (b1, tenC (p : Int) (n : Int) (i : Int) (o : Int) sl), some (b5, numC (n ^ (i + o)) f), some (b6, numC i ua), some (b7, numC o ub), some (b8, numC (n ^ (i + o)) (Rw.pmF n (i + o) (ordF i ua ub) f)), some (b9, tenC (p : Int) (n : Int) (i : Int) (o : Int) (.slice (some ⟨b8, 0, none⟩) (n ^ (i + o)) (n ^ (i + o)))), some (b10, numC (n ^ (i + o)) f), some (b11, tenC (p : Int) (n : Int) (i : Int) (o : Int) (.slice (some ⟨b10, 0, none⟩) (n ^ (i + o)) (n ^ (i + o)))), some (b12, numC i ua), some (b13, numC o ub), some (b14, numC (n ^ (i + o)) (Rw.pmF n (i + o) (ordF i ua ub) f)), none, none, none, none, none, none, none, none, none] [] at hM
     refine st hF (g_move hF rfl) rfl fun a hF => st hF (g_extract hF rfl rfl) rfl fun a hF => st hF (g_extract hF rfl rfl) rfl fun a hF => ?_
     refine stR hF (d_alloc 11 hM ty_ze_26) rfl ?_
     rintro _ w' a ⟨b15, rfl, hM, -⟩ hF
     change Mem w w' [some (b1, tenC (p : Int) (n : Int) (i : Int) (o : Int) sl), some (b5, numC (n ^ (i + o)) f), some (b6, numC i ua), some (b7, numC o ub), some (b8, numC (n ^ (i + o)) (Rw.pmF n (i + o) (ordF i ua ub) f)), some (b9, tenC (p : Int) (n : Int) (i : Int) (o : Int) (.slice (some ⟨b8, 0, none⟩) (n ^ (i + o)) (n ^ (i + o)))), some (b10, numC (n ^ (i + o)) f), some (b11, tenC (p : Int) (n : Int) (i : Int) (o : Int) (.slice (some ⟨b10, 0, none⟩) (n ^ (i + o)) (n ^ (i + o)))), some (b12, numC i ua), some (b13, numC o ub), some (b14, numC (n ^ (i + o)) (Rw.pmF n (i + o) (ordF i ua ub) f)), some (b15, tenC 0 0 0 0 (.slice none 0 0)), none, none, none, none, none, none, none, none] [] at hM
     refine stN hF (d_storeAgg 11 hM rfl ty_sz_26 hF rfl rfl (tenC_one rfl) (by simp only [fnC_size, cells_size, vecC_size, tabC_size, planeC_size, tenC_size, smC_size, numC_size, numI_size, rowJ_size]) (by simp only [fnC_size, cells_size, vecC_size, tabC_size, planeC_size, tenC_size, smC_size, numC_size, numI_size, rowJ_size] <;> omega) (splice_whole _ _ rfl)) ?_
     intro _ w' a hM hF
     change Mem w w' [some (b1, tenC (p : Int) (n : Int) (i : Int) (o : Int) sl), some (b5, numC (n ^ (i + o)) f), some (b6, numC i ua), some (b7, numC o ub), some (b8, numC (n ^ (i + o)) (Rw.pmF n (i + o) (ordF i ua ub) f)), some (b9, tenC (p : Int) (n : Int) (i : Int) (o : Int) (.slice (some ⟨b8, 0, none⟩) (n ^ (i + o)) (n ^ (i + o)))), some (b10, numC (n ^ (i + o)) f), some (b11, tenC (p : Int) (n : Int) (i : Int) (o : Int) (.slice (some ⟨b10, 0, none⟩) (n ^ (i + o)) (n ^ (i + o)))), some (b12, numC i ua), some (b13, numC o ub), some (b14, numC (n ^ (i + o)) (Rw.pmF n (i + o) (ordF i ua ub) f)), some (b15, tenC (p : Int) (n : Int) (i : Int) (o : Int) (.slice (some ⟨b14, 0, none⟩) (n ^ (i + o)) (n ^ (i + o)))), none, none, none, none, none, none, none, none] [] at hM
     refine st hF (g_assign hF rfl) rfl fun a hF => ?_
     refine wpList_nil ?_
     refine tN ?_
     refine sq ?_
     refine sq ?_
     refine wp_region_lit ?_
     refine st hF (g_loadAgg ty_ag_26 hF rfl (hM.row 11 rfl) (by simp only [fnC_size, cells_size, vecC_size, tabC_size, planeC_size, tenC_size, smC_size, numC_size, numI_size, rowJ_size] <;> omega) (whole rfl)) rfl fun a hF => st hF (g_loadAgg ty_ag_26 hF rfl (hM.row 5 rfl) (by simp only [fnC_size, cells_size, vecC_size, tabC_size, planeC_size, tenC_size, smC_size, numC_size, numI_size, rowJ_size] <;> omega) (whole rfl)) rfl fun a hF => ?_
     refine stR hF (d_call Try.call10 hF (.cons rfl (.cons rfl .nil)) (eqTensor_ok (p : Int) (n : Int) (i : Int) (o : Int) b14 b8 (n ^ (i + o)) (fun c => (((Rw.pmF n (i + o) (ordF i ua ub) f) c : Nat) : Int)) (fun c => (((Rw.pmF n (i + o) (ordF i ua ub) f) c : Nat) : Int)) _ (hM.row 10 rfl) (hM.row 4 rfl) (by omega) (fun _ _ => rfl))) rfl ?_
     rintro _ w' a ⟨hx, rfl⟩ hF
     have hM := hM.ext hx
     refine st hF (g_not hF rfl) rfl fun a hF => st hF (g_move hF rfl) rfl fun a hF => stY hF rfl rfl rfl (g_move hF rfl) rfl fun a hF => stY hF rfl rfl rfl (g_move hF rfl) rfl fun a hF => stY hF rfl rfl rfl (g_neq hF rfl rfl) rfl fun a hF => st hF (g_pickF hF rfl rfl) rfl fun a hF => ?_
     refine wpList_nil ?_
     refine tN ?_
     refine c_kF hF rfl (by decide) ?_
     refine wp_skip ?_
     refine tN ?_
     refine sq ?_
     refine sq ?_
     refine c_par 3 [12] [.val (.agg (tenC (p : Int) (n : Int) (i : Int) (o : Int) (.slice (some ⟨b10, 0, none⟩) (n ^ (i + o)) (n ^ (i + o))))), .val (.agg (tenC (p : Int) (n : Int) (i : Int) (o : Int) sl)), .own 12 (numC (n ^ (i + o)) f) (fun b => .agg (tenC (p : Int) (n : Int) (i : Int) (o : Int) (.slice (some ⟨b, 0, none⟩) (n ^ (i + o)) (n ^ (i + o)))))] hmix rfl hF rfl hM ⟨fun a w gG hF hS hd => by have hM := hS.mem rfl; exact par_val hS rfl (g_loadAgg ty_ag_26 hF rfl (hM.row 7 rfl) (by simp only [fnC_size, cells_size, vecC_size, tabC_size, planeC_size, tenC_size, smC_size, numC_size, numI_size, rowJ_size] <;> omega) (whole rfl)), fun a w gG hF hS hd => by have hM := hS.mem rfl; exact par_val hS rfl (g_loadAgg ty_ag_24 hF rfl (hM.row 0 rfl) (by simp only [fnC_size, cells_size, vecC_size, tabC_size, planeC_size, tenC_size, smC_size, numC_size, numI_size, rowJ_size] <;> omega) (whole rfl)), fun a w gG hF hS hd => by have hF := hF.ext1 64 (hd 1 rfl rfl); have hM := hS.mem rfl; exact par_own (by repeat constructor) hS rfl rfl rfl rfl (d_callOwnB 12 hS.1 (d_call Try.call7 hF (.cons rfl .nil) (toTensor_ok (p : Int) (n : Int) (i : Int) (o : Int) sl (n ^ (i + o)) (fun c => ((f c : Nat) : Int)) _ (hs.ext hM.below) (by omega)))), trivial⟩ ?_
     intro a w' L hF hS hq
     have hF := hF.ext1 63 (hq 0 rfl rfl)
     have hF := hF.ext1 64 (hq 1 rfl rfl)
     obtain ⟨hM, hL⟩ := hS
     obtain ⟨b17, hptr, hkk⟩ := hq 2 rfl rfl
     have hF := hF.ext1 65 hptr
     have hL := hL.take hkk
     obtain rfl := hL.eq
     change Mem w w' [some (b1, tenC (p : Int) (n : Int) (i : Int) (o : Int) sl), some (b5, numC (n ^ (i + o)) f), some (b6, numC i ua), some (b7, numC o ub), some (b8, numC (n ^ (i + o)) (Rw.pmF n (i + o) (ordF i ua ub) f)), some (b9, tenC (p : Int) (n : Int) (i : Int) (o : Int) (.slice (some ⟨b8, 0, none⟩) (n ^ (i + o)) (n ^ (i + o)))), some (b10, numC (n ^ (i + o)) f), some (b11, tenC (p : Int) (n : Int) (i : Int) (o : Int) (.slice (some ⟨b10, 0, none⟩) (n ^ (i + o)) (n ^ (i + o)))), some (b12, numC i ua), some (b13, numC o ub), some (b14, numC (n ^ (i + o)) (Rw.pmF n (i + o) (ordF i ua ub) f)), some (b15, tenC (p : Int) (n : Int) (i : Int) (o : Int) (.slice (some ⟨b14, 0, none⟩) (n ^ (i + o)) (n ^ (i + o)))), some (b17, numC (n ^ (i + o)) f), none, none, none, none, none, none, none] [] at hM
     change wpList Try.prog _ _ [_, _] _ _
     refine stR hF (d_call Try.call10 hF (.cons rfl (.cons rfl .nil)) (eqTensor_ok (p : Int) (n : Int) (i : Int) (o : Int) b10 b17 (n ^ (i + o)) (fun c => ((f c : Nat) : Int)) (fun c => ((f c : Nat) : Int)) _ (hM.row 6 rfl) (hM.row 12 rfl) (by omega) (fun _ _ => rfl))) rfl ?_
     rintro _ w' a ⟨hx, rfl⟩ hF
     have hM := hM.ext hx
     refine st hF (g_not hF rfl) rfl fun a hF => ?_
     refine wpList_nil ?_
     refine tN ?_
     refine c_Fl hF rfl ?_
     refine wp_skip ?_
     refine tN ?_
     refine sq ?_
     refine sq ?_
     refine wp_region_lit ?_
     refine st hF (g_move hF rfl) rfl fun a hF => st hF (g_move hF rfl) rfl fun a hF => ?_
     refine stR hF (d_call Try.call8 hF (.cons rfl .nil) (toInt64S_ok (.slice x1 i c1) i (fun c => ((ua c : Nat) : Int)) _ (hs1.ext hM.below) (by omega))) rfl ?_
     rintro _ w' a ⟨hx, b19, rfl, hge, hbk⟩ hF
     have hM := hM.fill hx 13 hbk hge
     change Mem w w' [some (b1, tenC (p : Int) (n : Int) (i : Int) (o : Int) sl), some (b5, numC (n ^ (i + o)) f), some (b6, numC i ua), some (b7, numC o ub), some (b8, numC (n ^ (i + o)) (Rw.pmF n (i + o) (ordF i ua ub) f)), some (b9, tenC (p : Int) (n : Int) (i : Int) (o : Int) (.slice (some ⟨b8, 0, none⟩) (n ^ (i + o)) (n ^ (i + o)))), some (b10, numC (n ^ (i + o)) f), some (b11, tenC (p : Int) (n : Int) (i : Int) (o : Int) (.slice (some ⟨b10, 0, none⟩) (n ^ (i + o)) (n ^ (i + o)))), some (b12, numC i ua), some (b13, numC o ub), some (b14, numC (n ^ (i + o)) (Rw.pmF n (i + o) (ordF i ua ub) f)), some (b15, tenC (p : Int) (n : Int) (i : Int) (o : Int) (.slice (some ⟨b14, 0, none⟩) (n ^ (i + o)) (n ^ (i + o)))), some (b17, numC (n ^ (i + o)) f), some (b19, numC i ua), none, none, none, none, none, none] [] at hM
     refine stR hF (d_call Try.call11 hF (.cons rfl (.cons rfl .nil)) (eqInt64S_ok b12 b19 i (fun c => ((ua c : Nat) : Int)) (fun c => ((ua c : Nat) : Int)) _ (hM.row 8 rfl) (hM.row 13 rfl) (by omega) (fun _ _ => rfl))) rfl ?_
     rintro _ w' a ⟨hx, rfl⟩ hF
     have hM := hM.ext hx
     refine st hF (g_not hF rfl) rfl fun a hF => ?_
     refine wpList_nil ?_
     refine tN ?_
     refine c_Fl hF rfl ?_
     refine wp_skip ?_
     refine tN ?_
     refine sq ?_
     refine sq ?_
     refine wp_region_lit ?_
     refine st hF (g_move hF rfl) rfl fun a hF => st hF (g_move hF rfl) rfl fun a hF => ?_
     refine stR hF (d_call Try.call8 hF (.cons rfl .nil) (toInt64S_ok (.slice x2 o c2) o (fun c => ((ub c : Nat) : Int)) _ (hs2.ext hM.below) (by omega))) rfl ?_
     rintro _ w' a ⟨hx, b21, rfl, hge, hbk⟩ hF
     have hM := hM.fill hx 14 hbk hge
     change Mem w w' [some (b1, tenC (p : Int) (n : Int) (i : Int) (o : Int) sl), some (b5, numC (n ^ (i + o)) f), some (b6, numC i ua), some (b7, numC o ub), some (b8, numC (n ^ (i + o)) (Rw.pmF n (i + o) (ordF i ua ub) f)), some (b9, tenC (p : Int) (n : Int) (i : Int) (o : Int) (.slice (some ⟨b8, 0, none⟩) (n ^ (i + o)) (n ^ (i + o)))), some (b10, numC (n ^ (i + o)) f), some (b11, tenC (p : Int) (n : Int) (i : Int) (o : Int) (.slice (some ⟨b10, 0, none⟩) (n ^ (i + o)) (n ^ (i + o)))), some (b12, numC i ua), some (b13, numC o ub), some (b14, numC (n ^ (i + o)) (Rw.pmF n (i + o) (ordF i ua ub) f)), some (b15, tenC (p : Int) (n : Int) (i : Int) (o : Int) (.slice (some ⟨b14, 0, none⟩) (n ^ (i + o)) (n ^ (i + o)))), some (b17, numC (n ^ (i + o)) f), some (b19, numC i ua), some (b21, numC o ub), none, none, none, none, none] [] at hM
     refine stR hF (d_call Try.call11 hF (.cons rfl (.cons rfl .nil)) (eqInt64S_ok b13 b21 o (fun c => ((ub c : Nat) : Int)) (fun c => ((ub c : Nat) : Int)) _ (hM.row 9 rfl) (hM.row 14 rfl) (by omega) (fun _ _ => rfl))) rfl ?_
     rintro _ w' a ⟨hx, rfl⟩ hF
     have hM := hM.ext hx
     refine st hF (g_not hF rfl) rfl fun a hF => ?_
     refine wpList_nil ?_
     refine tN ?_
     refine c_Fl hF rfl ?_
     refine wp_skip ?_
     refine tN ?_
     refine sq ?_
     refine wp_region_lit ?_
     refine st hF (g_assign hF rfl) rfl fun a hF => ?_
     refine wpList_nil ?_
     refine tN ?_
     refine sq ?_
     refine wp_region_lit ?_
     refine st hF (g_loadAgg ty_ag_26 hF rfl (hM.row 7 rfl) (by simp only [fnC_size, cells_size, vecC_size, tabC_size, planeC_size, tenC_size, smC_size, numC_size, numI_size, rowJ_size] <;> omega) (whole rfl)) rfl fun a hF => st hF (g_move hF rfl) rfl fun a hF => ?_
     refine stR hF (d_callX Try.call12 hF (.cons rfl (.cons rfl .nil)) (markTensor_ok (p : Int) (n : Int) (i : Int) (o : Int) b10 (n ^ (i + o)) (1) (fun c => ((f c : Nat) : Int)) _ (by omega) (by omega) (hM.row 6 rfl))) rfl ?_
     rintro _ w' a ⟨hx, rfl, hbk⟩ hF
     have hM := hM.upd 6 rfl hx hbk
     change Mem w w' [some (b1, tenC (p : Int) (n : Int) (i : Int) (o : Int) sl), some (b5, numC (n ^ (i + o)) f), some (b6, numC i ua), some (b7, numC o ub), some (b8, numC (n ^ (i + o)) (Rw.pmF n (i + o) (ordF i ua ub) f)), some (b9, tenC (p : Int) (n : Int) (i : Int) (o : Int) (.slice (some ⟨b8, 0, none⟩) (n ^ (i + o)) (n ^ (i + o)))), some (b10, numC (n ^ (i + o)) (fun c => (1) + c)), some (b11, tenC (p : Int) (n : Int) (i : Int) (o : Int) (.slice (some ⟨b10, 0, none⟩) (n ^ (i + o)) (n ^ (i + o)))), some (b12, numC i ua), some (b13, numC o ub), some (b14, numC (n ^ (i + o)) (Rw.pmF n (i + o) (ordF i ua ub) f)), some (b15, tenC (p : Int) (n : Int) (i : Int) (o : Int) (.slice (some ⟨b14, 0, none⟩) (n ^ (i + o)) (n ^ (i + o)))), some (b17, numC (n ^ (i + o)) f), some (b19, numC i ua), some (b21, numC o ub), none, none, none, none, none] [] at hM
     refine st hF (g_assign hF rfl) rfl fun a hF => ?_
     refine wpList_nil ?_
     refine tN ?_
     refine sq ?_
     refine wp_region_lit ?_
     refine st hF (g_move hF rfl) rfl fun a hF => st hF (g_move hF rfl) rfl fun a hF => ?_
     refine stR hF (d_callX Try.call13 hF (.cons rfl (.cons rfl .nil)) (markInt64S_ok b12 i (1 + (n ^ (i + o))) (fun c => ((ua c : Nat) : Int)) _ (by omega) (by omega) (hM.row 8 rfl))) rfl ?_
     rintro _ w' a ⟨hx, rfl, hbk⟩ hF
     have hM := hM.upd 8 rfl hx hbk
     change Mem w w' [some (b1, tenC (p : Int) (n : Int) (i : Int) (o : Int) sl), some (b5, numC (n ^ (i + o)) f), some (b6, numC i ua), some (b7, numC o ub), some (b8, numC (n ^ (i + o)) (Rw.pmF n (i + o) (ordF i ua ub) f)), some (b9, tenC (p : Int) (n : Int) (i : Int) (o : Int) (.slice (some ⟨b8, 0, none⟩) (n ^ (i + o)) (n ^ (i + o)))), some (b10, numC (n ^ (i + o)) (fun c => (1) + c)), some (b11, tenC (p : Int) (n : Int) (i : Int) (o : Int) (.slice (some ⟨b10, 0, none⟩) (n ^ (i + o)) (n ^ (i + o)))), some (b12, numC i (fun c => (1 + (n ^ (i + o))) + c)), some (b13, numC o ub), some (b14, numC (n ^ (i + o)) (Rw.pmF n (i + o) (ordF i ua ub) f)), some (b15, tenC (p : Int) (n : Int) (i : Int) (o : Int) (.slice (some ⟨b14, 0, none⟩) (n ^ (i + o)) (n ^ (i + o)))), some (b17, numC (n ^ (i + o)) f), some (b19, numC i ua), some (b21, numC o ub), none, none, none, none, none] [] at hM
     refine st hF (g_assign hF rfl) rfl fun a hF => ?_
     refine wpList_nil ?_
     refine tN ?_
     refine sq ?_
     refine wp_region_lit ?_
     refine st hF (g_move hF rfl) rfl fun a hF => st hF (g_move hF rfl) rfl fun a hF => ?_
     refine stR hF (d_callX Try.call13 hF (.cons rfl (.cons rfl .nil)) (markInt64S_ok b13 o (1 + (n ^ (i + o)) + i) (fun c => ((ub c : Nat) : Int)) _ (by omega) (by omega) (hM.row 9 rfl))) rfl ?_
     rintro _ w' a ⟨hx, rfl, hbk⟩ hF
     have hM := hM.upd 9 rfl hx hbk
     change Mem w w' [some (b1, tenC (p : Int) (n : Int) (i : Int) (o : Int) sl), some (b5, numC (n ^ (i + o)) f), some (b6, numC i ua), some (b7, numC o ub), some (b8, numC (n ^ (i + o)) (Rw.pmF n (i + o) (ordF i ua ub) f)), some (b9, tenC (p : Int) (n : Int) (i : Int) (o : Int) (.slice (some ⟨b8, 0, none⟩) (n ^ (i + o)) (n ^ (i + o)))), some (b10, numC (n ^ (i + o)) (fun c => (1) + c)), some (b11, tenC (p : Int) (n : Int) (i : Int) (o : Int) (.slice (some ⟨b10, 0, none⟩) (n ^ (i + o)) (n ^ (i + o)))), some (b12, numC i (fun c => (1 + (n ^ (i + o))) + c)), some (b13, numC o (fun c => (1 + (n ^ (i + o)) + i) + c)), some (b14, numC (n ^ (i + o)) (Rw.pmF n (i + o) (ordF i ua ub) f)), some (b15, tenC (p : Int) (n : Int) (i : Int) (o : Int) (.slice (some ⟨b14, 0, none⟩) (n ^ (i + o)) (n ^ (i + o)))), some (b17, numC (n ^ (i + o)) f), some (b19, numC i ua), some (b21, numC o ub), none, none, none, none, none] [] at hM
     refine st hF (g_assign hF rfl) rfl fun a hF => ?_
     refine wpList_nil ?_
     refine tN ?_
     refine sq ?_
     refine sq ?_
     refine wp_region_lit ?_
     refine st hF (g_move hF rfl) rfl fun a hF => st hF (g_lss hF rfl rfl) rfl fun a hF => st hF (g_move hF rfl) rfl fun a hF => ?_
     by_cases g23 : (((1 + (n ^ (i + o)) + i + o : Nat) : Int) : Int) < 0
     ·
      first | rw [decide_eq_true g23] at hF | simp only [decide_eq_true g23] at hF
      first | exact absurd rfl g23 | (exfalso; omega)
     ·
      first | rw [decide_eq_false g23] at hF | simp only [decide_eq_false g23] at hF
      refine stY hF rfl rfl rfl (g_loadAgg ty_ag_26 hF rfl (hM.row 11 rfl) (by simp only [fnC_size, cells_size, vecC_size, tabC_size, planeC_size, tenC_size, smC_size, numC_size, numI_size, rowJ_size] <;> omega) (whole rfl)) rfl fun a hF => stY hF rfl rfl rfl (g_loadAgg ty_ag_26 hF rfl (hM.row 5 rfl) (by simp only [fnC_size, cells_size, vecC_size, tabC_size, planeC_size, tenC_size, smC_size, numC_size, numI_size, rowJ_size] <;> omega) (whole rfl)) rfl fun a hF => ?_
      refine stYR hF rfl rfl rfl (d_call Try.call10 hF (.cons rfl (.cons rfl .nil)) (eqTensor_ok (p : Int) (n : Int) (i : Int) (o : Int) b14 b8 (n ^ (i + o)) (fun c => (((Rw.pmF n (i + o) (ordF i ua ub) f) c : Nat) : Int)) (fun c => (((Rw.pmF n (i + o) (ordF i ua ub) f) c : Nat) : Int)) _ (hM.row 10 rfl) (hM.row 4 rfl) (by omega) (fun _ _ => rfl))) rfl ?_
      rintro _ w' a ⟨hx, rfl⟩ hF
      have hM := hM.ext hx
      refine stY hF rfl rfl rfl (g_not hF rfl) rfl fun a hF => st hF (g_pickF hF rfl rfl) rfl fun a hF => st hF (g_move hF rfl) rfl fun a hF => stY hF rfl rfl rfl (g_move hF rfl) rfl fun a hF => stY hF rfl rfl rfl (g_move hF rfl) rfl fun a hF => stY hF rfl rfl rfl (g_neq hF rfl rfl) rfl fun a hF => st hF (g_pickF hF rfl rfl) rfl fun a hF => ?_
      refine wpList_nil ?_
      refine tN ?_
      refine c_kF hF rfl (by decide) ?_
      refine wp_skip ?_
      refine tN ?_
      refine sq ?_
      refine wp_region_lit ?_
      refine st hF (g_assign hF rfl) rfl fun a hF => ?_
      refine wpList_nil ?_
      refine tN ?_
      refine sq ?_
      refine wp_region_lit ?_
      refine st hF (g_loadAgg ty_ag_26 hF rfl (hM.row 11 rfl) (by simp only [fnC_size, cells_size, vecC_size, tabC_size, planeC_size, tenC_size, smC_size, numC_size, numI_size, rowJ_size] <;> omega) (whole rfl)) rfl fun a hF => st hF (g_move hF rfl) rfl fun a hF => ?_
      refine stR hF (d_callX Try.call12 hF (.cons rfl (.cons rfl .nil)) (markTensor_ok (p : Int) (n : Int) (i : Int) (o : Int) b14 (n ^ (i + o)) (1) (fun c => (((Rw.pmF n (i + o) (ordF i ua ub) f) c : Nat) : Int)) _ (by omega) (by omega) (hM.row 10 rfl))) rfl ?_
      rintro _ w' a ⟨hx, rfl, hbk⟩ hF
      have hM := hM.upd 10 rfl hx hbk
      change Mem w w' [some (b1, tenC (p : Int) (n : Int) (i : Int) (o : Int) sl), some (b5, numC (n ^ (i + o)) f), some (b6, numC i ua), some (b7, numC o ub), some (b8, numC (n ^ (i + o)) (Rw.pmF n (i + o) (ordF i ua ub) f)), some (b9, tenC (p : Int) (n : Int) (i : Int) (o : Int) (.slice (some ⟨b8, 0, none⟩) (n ^ (i + o)) (n ^ (i + o)))), some (b10, numC (n ^ (i + o)) (fun c => (1) + c)), some (b11, tenC (p : Int) (n : Int) (i : Int) (o : Int) (.slice (some ⟨b10, 0, none⟩) (n ^ (i + o)) (n ^ (i + o)))), some (b12, numC i (fun c => (1 + (n ^ (i + o))) + c)), some (b13, numC o (fun c => (1 + (n ^ (i + o)) + i) + c)), some (b14, numC (n ^ (i + o)) (fun c => (1) + c)), some (b15, tenC (p : Int) (n : Int) (i : Int) (o : Int) (.slice (some ⟨b14, 0, none⟩) (n ^ (i + o)) (n ^ (i + o)))), some (b17, numC (n ^ (i + o)) f), some (b19, numC i ua), some (b21, numC o ub), none, none, none, none, none] [] at hM
      refine st hF (g_assign hF rfl) rfl fun a hF => ?_
      refine wpList_nil ?_
      refine tN ?_
      refine sq ?_
      refine wp_region_lit ?_
      refine st hF (g_assign hF rfl) rfl fun a hF => ?_
      refine wpList_nil ?_
      refine tN ?_
      refine sq ?_
      refine wp_region_lit ?_
      refine st hF (g_loadAgg ty_ag_26 hF rfl (hM.row 11 rfl) (by simp only [fnC_size, cells_size, vecC_size, tabC_size, planeC_size, tenC_size, smC_size, numC_size, numI_size, rowJ_size] <;> omega) (whole rfl)) rfl fun a hF => st hF (g_move hF rfl) rfl fun a hF => ?_
      refine stR hF (d_call Try.call14 hF (.cons rfl (.cons rfl .nil)) (heldTensor_ok (p : Int) (n : Int) (i : Int) (o : Int) b14 (n ^ (i + o)) (1) (fun c => (1) + c) _ (by omega) (by omega) (hM.row 10 rfl) (fun c _ => by omega))) rfl ?_
      rintro _ w' a ⟨hx, rfl⟩ hF
      have hM := hM.ext hx
      refine st hF (g_assign hF rfl) rfl fun a hF => ?_
      refine wpList_nil ?_
      refine tN ?_
      refine sq ?_
      refine sq ?_
      refine wp_region_lit ?_
      refine st hF (g_move hF rfl) rfl fun a hF => st hF (g_lss hF rfl rfl) rfl fun a hF => ?_
      refine wpList_nil ?_
      refine tN ?_
      refine c_cond hF rfl (fun h25 => ?_) (fun h25 => ?_)
      ·
       first | exact absurd rfl h25 | (exfalso; omega)
      ·
       refine wp_skip ?_
       refine tN ?_
       refine sq ?_
       refine sq ?_
       refine wp_region_lit ?_
       refine st hF (g_move hF rfl) rfl fun a hF => st hF (g_move hF rfl) rfl fun a hF => st hF (g_neq hF rfl rfl) rfl fun a hF => ?_
       refine wpList_nil ?_
       refine tN ?_
       refine c_cond hF rfl (fun h26 => ?_) (fun h26 => ?_)
       ·
        first | exact absurd rfl h26 | (exfalso; omega)
       ·
        refine wp_skip ?_
        refine tN ?_
        refine sq ?_
        refine wp_region_lit ?_
        refine st hF (g_loadAgg ty_ag_24 hF rfl (hM.row 0 rfl) (by simp only [fnC_size, cells_size, vecC_size, tabC_size, planeC_size, tenC_size, smC_size, numC_size, numI_size, rowJ_size] <;> omega) (whole rfl)) rfl fun a hF => ?_
        refine stR hF (d_call Try.call7 hF (.cons rfl .nil) (toTensor_ok (p : Int) (n : Int) (i : Int) (o : Int) sl (n ^ (i + o)) (fun c => ((f c : Nat) : Int)) _ (hs.ext hM.below) (by omega))) rfl ?_
        rintro _ w' a ⟨hx, b27, rfl, hge, hbk⟩ hF
        have hM := hM.fill hx 15 hbk hge
        change Mem w w' [some (b1, tenC (p : Int) (n : Int) (i : Int) (o : Int) sl), some (b5, numC (n ^ (i + o)) f), some (b6, numC i ua), some (b7, numC o ub), some (b8, numC (n ^ (i + o)) (Rw.pmF n (i + o) (ordF i ua ub) f)), some (b9, tenC (p : Int) (n : Int) (i : Int) (o : Int) (.slice (some ⟨b8, 0, none⟩) (n ^ (i + o)) (n ^ (i + o)))), some (b10, numC (n ^ (i + o)) (fun c => (1) + c)), some (b11, tenC (p : Int) (n : Int) (i : Int) (o : Int) (.slice (some ⟨b10, 0, none⟩) (n ^ (i + o)) (n ^ (i + o)))), some (b12, numC i (fun c => (1 + (n ^ (i + o))) + c)), some (b13, numC o (fun c => (1 + (n ^ (i + o)) + i) + c)), some (b14, numC (n ^ (i + o)) (fun c => (1) + c)), some (b15, tenC (p : Int) (n : Int) (i : Int) (o : Int) (.slice (some ⟨b14, 0, none⟩) (n ^ (i + o)) (n ^ (i + o)))), some (b17, numC (n ^ (i + o)) f), some (b19, numC i ua), some (b21, numC o ub), some (b27, numC (n ^ (i + o)) f), none, none, none, none] [] at hM
        refine st hF (g_move hF rfl) rfl fun a hF => ?_
        refine stR hF (d_call Try.call8 hF (.cons rfl .nil) (toInt64S_ok (.slice x1 i c1) i (fun c => ((ua c : Nat) : Int)) _ (hs1.ext hM.below) (by omega))) rfl ?_
        rintro _ w' a ⟨hx, b28, rfl, hge, hbk⟩ hF
        have hM := hM.fill hx 16 hbk hge
        change Mem w w' [some (b1, tenC (p : Int) (n : Int) (i : Int) (o : Int) sl), some (b5, numC (n ^ (i + o)) f), some (b6, numC i ua), some (b7, numC o ub), some (b8, numC (n ^ (i + o)) (Rw.pmF n (i + o) (ordF i ua ub) f)), some (b9, tenC (p : Int) (n : Int) (i : Int) (o : Int) (.slice (some ⟨b8, 0, none⟩) (n ^ (i + o)) (n ^ (i + o)))), some (b10, numC (n ^ (i + o)) (fun c => (1) + c)), some (b11, tenC (p : Int) (n : Int) (i : Int) (o : Int) (.slice (some ⟨b10, 0, none⟩) (n ^ (i + o)) (n ^ (i + o)))), some (b12, numC i (fun c => (1 + (n ^ (i + o))) + c)), some (b13, numC o (fun c => (1 + (n ^ (i + o)) + i) + c)), some (b14, numC (n ^ (i + o)) (fun c => (1) + c)), some (b15, tenC (p : Int) (n : Int) (i : Int) (o : Int) (.slice (some ⟨b14, 0, none⟩) (n ^ (i + o)) (n ^ (i + o)))), some (b17, numC (n ^ (i + o)) f), some (b19, numC i ua), some (b21, numC o ub), some (b27, numC (n ^ (i + o)) f), some (b28, numC i ua), none, none, none] [] at hM
        refine st hF (g_move hF rfl) rfl fun a hF => ?_
        refine stR hF (d_call Try.call8 hF (.cons rfl .nil) (toInt64S_ok (.slice x2 o c2) o (fun c => ((ub c : Nat) : Int)) _ (hs2.ext hM.below) (by omega))) rfl ?_
        rintro _ w' a ⟨hx, b29, rfl, hge, hbk⟩ hF
        have hM := hM.fill hx 17 hbk hge
        change Mem w w' [some (b1, tenC (p : Int) (n : Int) (i : Int) (o : Int) sl), some (b5, numC (n ^ (i + o)) f), some (b6, numC i ua), some (b7, numC o ub), some (b8, numC (n ^ (i + o)) (Rw.pmF n (i + o) (ordF i ua ub) f)), some (b9, tenC (p : Int) (n : Int) (i : Int) (o : Int) (.slice (some ⟨b8, 0, none⟩) (n ^ (i + o)) (n ^ (i + o)))), some (b10, numC (n ^ (i + o)) (fun c => (1) + c)), some (b11, tenC (p : Int) (n : Int) (i : Int) (o : Int) (.slice (some ⟨b10, 0, none⟩) (n ^ (i + o)) (n ^ (i + o)))), some (b12, numC i (fun c => (1 + (n ^ (i + o))) + c)), some (b13, numC o (fun c => (1 + (n ^ (i + o)) + i) + c)), some (b14, numC (n ^ (i + o)) (fun c => (1) + c)), some (b15, tenC (p : Int) (n : Int) (i : Int) (o : Int) (.slice (some ⟨b14, 0, none⟩) (n ^ (i + o)) (n ^ (i + o)))), some (b17, numC (n ^ (i + o)) f), some (b19, numC i ua), some (b21, numC o ub), some (b27, numC (n ^ (i + o)) f), some (b28, numC i ua), some (b29, numC o ub), none, none] [] at hM
        refine stR hF (d_call Try.call9 hF (.cons rfl (.cons rfl (.cons rfl .nil))) (PermI_V p n i o b27 f b28 ua b29 ub _ hpP hn0 hn hw hfp hua hub hLa hLb (hM.row 15 rfl) (hM.row 16 rfl) (hM.row 17 rfl))) rfl ?_
        rintro _ w' a ⟨hx, b30, rfl, hge, hbk⟩ hF
        have hM := hM.fill hx 18 hbk hge
        change Mem w w' [some (b1, tenC (p : Int) (n : Int) (i : Int) (o : Int) sl), some (b5, numC (n ^ (i + o)) f), some (b6, numC i ua), some (b7, numC o ub), some (b8, numC (n ^ (i + o)) (Rw.pmF n (i + o) (ordF i ua ub) f)), some (b9, tenC (p : Int) (n : Int) (i : Int) (o : Int) (.slice (some ⟨b8, 0, none⟩) (n ^ (i + o)) (n ^ (i + o)))), some (b10, numC (n ^ (i + o)) (fun c => (1) + c)), some (b11, tenC (p : Int) (n : Int) (i : Int) (o : Int) (.slice (some ⟨b10, 0, none⟩) (n ^ (i + o)) (n ^ (i + o)))), some (b12, numC i (fun c => (1 + (n ^ (i + o))) + c)), some (b13, numC o (fun c => (1 + (n ^ (i + o)) + i) + c)), some (b14, numC (n ^ (i + o)) (fun c => (1) + c)), some (b15, tenC (p : Int) (n : Int) (i : Int) (o : Int) (.slice (some ⟨b14, 0, none⟩) (n ^ (i + o)) (n ^ (i + o)))), some (b17, numC (n ^ (i + o)) f), some (b19, numC i ua), some (b21, numC o ub), some (b27, numC (n ^ (i + o)) f), some (b28, numC i ua), some (b29, numC o ub), some (b30, numC (n ^ (i + o)) (Rw.pmF n (i + o) (ordF i ua ub) f)), none] [] at hM
        refine st hF (g_move hF rfl) rfl fun a hF => st hF (g_extract hF rfl rfl) rfl fun a hF => st hF (g_extract hF rfl rfl) rfl fun a hF => ?_
        refine stR hF (d_alloc 19 hM ty_ze_26) rfl ?_
        rintro _ w' a ⟨b31, rfl, hM, -⟩ hF
        change Mem w w' [some (b1, tenC (p : Int) (n : Int) (i : Int) (o : Int) sl), some (b5, numC (n ^ (i + o)) f), some (b6, numC i ua), some (b7, numC o ub), some (b8, numC (n ^ (i + o)) (Rw.pmF n (i + o) (ordF i ua ub) f)), some (b9, tenC (p : Int) (n : Int) (i : Int) (o : Int) (.slice (some ⟨b8, 0, none⟩) (n ^ (i + o)) (n ^ (i + o)))), some (b10, numC (n ^ (i + o)) (fun c => (1) + c)), some (b11, tenC (p : Int) (n : Int) (i : Int) (o : Int) (.slice (some ⟨b10, 0, none⟩) (n ^ (i + o)) (n ^ (i + o)))), some (b12, numC i (fun c => (1 + (n ^ (i + o))) + c)), some (b13, numC o (fun c => (1 + (n ^ (i + o)) + i) + c)), some (b14, numC (n ^ (i + o)) (fun c => (1) + c)), some (b15, tenC (p : Int) (n : Int) (i : Int) (o : Int) (.slice (some ⟨b14, 0, none⟩) (n ^ (i + o)) (n ^ (i + o)))), some (b17, numC (n ^ (i + o)) f), some (b19, numC i ua), some (b21, numC o ub), some (b27, numC (n ^ (i + o)) f), some (b28, numC i ua), some (b29, numC o ub), some (b30, numC (n ^ (i + o)) (Rw.pmF n (i + o) (ordF i ua ub) f)), some (b31, tenC 0 0 0 0 (.slice none 0 0))] [] at hM
        refine stN hF (d_storeAgg 19 hM rfl ty_sz_26 hF rfl rfl (tenC_one rfl) (by simp only [fnC_size, cells_size, vecC_size, tabC_size, planeC_size, tenC_size, smC_size, numC_size, numI_size, rowJ_size]) (by simp only [fnC_size, cells_size, vecC_size, tabC_size, planeC_size, tenC_size, smC_size, numC_size, numI_size, rowJ_size] <;> omega) (splice_whole _ _ rfl)) ?_
        intro _ w' a hM hF
        change Mem w w' [some (b1, tenC (p : Int) (n : Int) (i : Int) (o : Int) sl), some (b5, numC (n ^ (i + o)) f), some (b6, numC i ua), some (b7, numC o ub), some (b8, numC (n ^ (i + o)) (Rw.pmF n (i + o) (ordF i ua ub) f)), some (b9, tenC (p : Int) (n : Int) (i : Int) (o : Int) (.slice (some ⟨b8, 0, none⟩) (n ^ (i + o)) (n ^ (i + o)))), some (b10, numC (n ^ (i + o)) (fun c => (1) + c)), some (b11, tenC (p : Int) (n : Int) (i : Int) (o : Int) (.slice (some ⟨b10, 0, none⟩) (n ^ (i + o)) (n ^ (i + o)))), some (b12, numC i (fun c => (1 + (n ^ (i + o))) + c)), some (b13, numC o (fun c => (1 + (n ^ (i + o)) + i) + c)), some (b14, numC (n ^ (i + o)) (fun c => (1) + c)), some (b15, tenC (p : Int) (n : Int) (i : Int) (o : Int) (.slice (some ⟨b14, 0, none⟩) (n ^ (i + o)) (n ^ (i + o)))), some (b17, numC (n ^ (i + o)) f), some (b19, numC i ua), some (b21, numC o ub), some (b27, numC (n ^ (i + o)) f), some (b28, numC i ua), some (b29, numC o ub), some (b30, numC (n ^ (i + o)) (Rw.pmF n (i + o) (ordF i ua ub) f)), some (b31, tenC (p : Int) (n : Int) (i : Int) (o : Int) (.slice (some ⟨b30, 0, none⟩) (n ^ (i + o)) (n ^ (i + o))))] [] at hM
        refine st hF (g_assign hF rfl) rfl fun a hF => ?_
        refine wpList_nil ?_
        refine tN ?_
        refine sq ?_
        refine sq ?_
        refine wp_region_lit ?_
        refine st hF (g_loadAgg ty_ag_26 hF rfl (hM.row 19 rfl) (by simp only [fnC_size, cells_size, vecC_size, tabC_size, planeC_size, tenC_size, smC_size, numC_size, numI_size, rowJ_size] <;> omega) (whole rfl)) rfl fun a hF => st hF (g_loadAgg ty_ag_26 hF rfl (hM.row 5 rfl) (by simp only [fnC_size, cells_size, vecC_size, tabC_size, planeC_size, tenC_size, smC_size, numC_size, numI_size, rowJ_size] <;> omega) (whole rfl)) rfl fun a hF => ?_
        refine stR hF (d_call Try.call10 hF (.cons rfl (.cons rfl .nil)) (eqTensor_ok (p : Int) (n : Int) (i : Int) (o : Int) b30 b8 (n ^ (i + o)) (fun c => (((Rw.pmF n (i + o) (ordF i ua ub) f) c : Nat) : Int)) (fun c => (((Rw.pmF n (i + o) (ordF i ua ub) f) c : Nat) : Int)) _ (hM.row 18 rfl) (hM.row 4 rfl) (by omega) (fun _ _ => rfl))) rfl ?_
        rintro _ w' a ⟨hx, rfl⟩ hF
        have hM := hM.ext hx
        refine st hF (g_not hF rfl) rfl fun a hF => st hF (g_move hF rfl) rfl fun a hF => stY hF rfl rfl rfl (g_move hF rfl) rfl fun a hF => stY hF rfl rfl rfl (g_move hF rfl) rfl fun a hF => stY hF rfl rfl rfl (g_neq hF rfl rfl) rfl fun a hF => st hF (g_pickF hF rfl rfl) rfl fun a hF => ?_
        refine wpList_nil ?_
        refine tN ?_
        refine c_kF hF rfl (by decide) ?_
        refine wp_skip ?_
        refine tN ?_
        refine sq ?_
        refine wp_region_lit ?_
        refine st hF (g_assign hF rfl) rfl fun a hF => ?_
        refine wpList_nil ?_
        refine tN ?_
        refine sq ?_
        refine wp_region_lit ?_
        refine st hF (g_loadAgg ty_ag_26 hF rfl (hM.row 11 rfl) (by simp only [fnC_size, cells_size, vecC_size, tabC_size, planeC_size, tenC_size, smC_size, numC_size, numI_size, rowJ_size] <;> omega) (whole rfl)) rfl fun a hF => st hF (g_move hF rfl) rfl fun a hF => ?_
        refine stR hF (d_call Try.call14 hF (.cons rfl (.cons rfl .nil)) (heldTensor_ok (p : Int) (n : Int) (i : Int) (o : Int) b14 (n ^ (i + o)) (1) (fun c => (1) + c) _ (by omega) (by omega) (hM.row 10 rfl) (fun c _ => by omega))) rfl ?_
        rintro _ w' a ⟨hx, rfl⟩ hF
        have hM := hM.ext hx
        refine st hF (g_assign hF rfl) rfl fun a hF => ?_
        refine wpList_nil ?_
        refine tN ?_
        refine sq ?_
        refine sq ?_
        refine wp_region_lit ?_
        refine st hF (g_move hF rfl) rfl fun a hF => st hF (g_lss hF rfl rfl) rfl fun a hF => ?_
        refine wpList_nil ?_
        refine tN ?_
        refine c_kF hF rfl h25 ?_
        refine wp_skip ?_
        refine tN ?_
        refine sq ?_
        refine sq ?_
        refine wp_region_lit ?_
        refine st hF (g_move hF rfl) rfl fun a hF => st hF (g_move hF rfl) rfl fun a hF => st hF (g_neq hF rfl rfl) rfl fun a hF => ?_
        refine wpList_nil ?_
        refine tN ?_
        refine c_kF hF rfl h26 ?_
        refine wp_skip ?_
        refine tN ?_
        refine sq ?_
        refine wp_region_lit ?_
        refine st hF (g_assign hF rfl) rfl fun a hF => ?_
        refine wpList_nil ?_
        refine tN ?_
        refine wp_ret ?_
        refine fin1 rfl hF.defers (res_tmp hF rfl) ⟨_, rfl, hM.below, ?_⟩
        show _ = _
        rfl

theorem leg_nat {m : Nat} {F : Nat → Int} (h : LegP m F) : ∃ u : Nat → Nat, (∀ c, c < m → u c < m) ∧ (∀ c, c < m → F c = ((u c : Nat) : Int)) ∧ LegP m (fun c => ((u c : Nat) : Int)) := by
  have e : ∀ c, c < m → F c = (((F c).toNat : Nat) : Int) := fun c hc => by have := h.1 c hc; omega
  refine ⟨fun c => (F c).toNat, fun c hc => by have := h.1 c hc; show (F c).toNat < m; omega, e, fun c hc => ?_, fun x y hxy hy => ?_⟩
  · have := h.1 c hc
    show 0 ≤ (((F c).toNat : Nat) : Int) ∧ (((F c).toNat : Nat) : Int) < m
    omega
  · show (((F x).toNat : Nat) : Int) ≠ (((F y).toNat : Nat) : Int)
    rw [← e x (by omega), ← e y hy]
    exact h.2 x y hxy hy
theorem law_PermuteTensor (p n i o : Int) (sl : Value) (m0 : Nat) (g : Nat → Int) (s1 : Value) (m1 : Nat) (F : Nat → Int) (s2 : Value) (m2 : Nat) (G : Nat → Int) (w : World) (hs : ArgSl w sl m0 g) (hml : m0 ≤ maxLen) (hs1 : ArgSl w s1 m1 F) (_hm1 : m1 ≤ maxLen) (_hF : ∀ i, -9223372036854775808 ≤ F i ∧ F i ≤ 9223372036854775807) (hs2 : ArgSl w s2 m2 G) (_hm2 : m2 ≤ maxLen) (_hG : ∀ i, -9223372036854775808 ≤ G i ∧ G i ≤ 9223372036854775807) : CallsV Try.prog 3 #[.agg (tenC p n i o sl), s1, s2] w (.bool true) := by
  obtain ⟨⟨x1, c1, rfl⟩, hq1⟩ := hs1
  obtain ⟨⟨x2, c2, rfl⟩, hq2⟩ := hs2
  have hs1 : ArgSl w (.slice x1 m1 c1) m1 F := ⟨⟨x1, c1, rfl⟩, hq1⟩
  have hs2 : ArgSl w (.slice x2 m2 c2) m2 G := ⟨⟨x2, c2, rfl⟩, hq2⟩
  by_cases hz1 : m1 ≤ 1048576
  · by_cases hz2 : m2 ≤ 1048576
    · by_cases hz0 : m0 ≤ 1048576
      · by_cases hT : TenP p n i o m0 g
        · by_cases hR : ((m1 : Int) = i ∧ LegP m1 F) ∧ ((m2 : Int) = o ∧ LegP m2 G)
          · obtain ⟨⟨hi, hLa⟩, ho, hLb⟩ := hR
            obtain ⟨p', n', i', o', f, rfl, rfl, rfl, rfl, hpP, hn0, hn, hw, rfl, hfp, hf⟩ := hT.nat
            obtain rfl : m1 = i' := by omega
            obtain rfl : m2 = o' := by omega
            obtain ⟨ua, hua, hea, hLa2⟩ := leg_nat hLa
            obtain ⟨ub, hub, heb, hLb2⟩ := leg_nat hLb
            exact law_PermuteTensorV p' n' m1 m2 sl f x1 c1 ua x2 c2 ub w hpP hn0 hn hw hfp hua hub hLa2 hLb2 (hs.congr hf) (hs1.congr hea) (hs2.congr heb)
          · exact law_PermuteTensorR p n i o sl m0 g x1 m1 c1 F x2 m2 c2 G w hs hs1 hs2 hz0 hz1 hz2 hT hR
        · exact law_PermuteTensorA p n i o sl m0 g x1 m1 c1 F x2 m2 c2 G w hs hs1 hs2 hz0 hz1 hz2 hT
      · exact law_PermuteTensorZ0 p n i o sl m0 g x1 m1 c1 F x2 m2 c2 G w hs hs1 hs2 hml hz1 hz2 (by omega)
    · exact law_PermuteTensorZ2 p n i o sl m0 g x1 m1 c1 F x2 m2 c2 G w hs hs1 hs2 hml hz1 (by omega)
  · exact law_PermuteTensorZ1 p n i o sl m0 g x1 m1 c1 F x2 m2 c2 G w hs hs1 hs2 hml (by omega)

end Go.Proofs.Ytlpccepifehilaa
