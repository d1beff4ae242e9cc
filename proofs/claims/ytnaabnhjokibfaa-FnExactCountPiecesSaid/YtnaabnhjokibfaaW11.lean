/- What functions of the program return, as walks over their operations; no statement of the seat is proved here. -/
import Derived.Test.YtnaabnhjokibfaaW10
set_option linter.unusedVariables false
set_option linter.unusedSimpArgs false
namespace Go.Proofs.Ytnaabnhjokibfaa
open Go Go.RowKit Go.Sw
open Classical
theorem law_CountPiecesZ (s : ByteArray) (w : World) (hz : 1048576 < s.size) (hml : s.size ≤ maxLen) :
    CallsR Try.prog 7 #[.string (s)] w (fun res _ => res = .bool true) := by
  refine calls_fr [.string (s)] Try.func7 rfl Try.ntmps7 rfl fun a hF => ?_
  have hM : Mem w w [none, none, none, none, none, none] [] := MemX.start w 6
  change Fr 66 a [(0, .string (s))] at hF
  refine sq ?_
  refine wp_region_lit ?_
  refine st hF (g_assign hF rfl) rfl fun a hF => ?_
  refine wpList_nil ?_
  refine tN ?_
  refine sq ?_
  refine sq ?_
  refine wp_region_lit ?_
  refine st hF (g_move hF rfl) rfl fun a hF => st hF (g_lenS ty_ut_9 hF rfl) rfl fun a hF => st hF (g_gtr hF rfl rfl) rfl fun a hF => ?_
  refine wpList_nil ?_
  refine tN ?_
  refine c_cond hF rfl (fun h1 => ?_) (fun h1 => ?_)
  ·
    refine sq ?_
    refine wp_region_lit ?_
    refine st hF (g_assign hF rfl) rfl fun a hF => ?_
    refine wpList_nil ?_
    refine tN ?_
    refine wp_ret ?_
    refine tR ?_
    refine fin1 rfl hF.defers (res_tmp hF rfl) ⟨_, rfl, hM.below, ?_⟩
    show _ = _
    rfl
  ·
    exfalso; omega

theorem law_CountPiecesE  (w : World)  :
    CallsR Try.prog 7 #[.string (⟨#[]⟩)] w (fun res _ => res = .bool true) := by
  refine calls_fr [.string (⟨#[]⟩)] Try.func7 rfl Try.ntmps7 rfl fun a hF => ?_
  have hM : Mem w w [none, none, none, none, none, none] [] := MemX.start w 6
  change Fr 66 a [(0, .string (⟨#[]⟩))] at hF
  have he0 : (⟨#[]⟩ : ByteArray).size = 0 := rfl
  refine sq ?_
  refine wp_region_lit ?_
  refine st hF (g_assign hF rfl) rfl fun a hF => ?_
  refine wpList_nil ?_
  refine tN ?_
  refine sq ?_
  refine sq ?_
  refine wp_region_lit ?_
  refine st hF (g_move hF rfl) rfl fun a hF => st hF (g_lenS ty_ut_9 hF rfl) rfl fun a hF => st hF (g_gtr hF rfl rfl) rfl fun a hF => ?_
  refine wpList_nil ?_
  refine tN ?_
  refine c_cond hF rfl (fun h1 => ?_) (fun h1 => ?_)
  ·
    first | exact absurd rfl h1 | (exfalso; omega)
  ·
    refine wp_skip ?_
    refine tN ?_
    refine sq ?_
    refine wp_region_lit ?_
    refine st hF (g_move hF rfl) rfl fun a hF => ?_
    refine stR hF (d_call Try.call21 hF (.cons rfl .nil) (CountPiecesS_E _)) rfl ?_
    rintro _ w' a ⟨hx, bN0, rfl, hgN, hbN⟩ hF
    have hM := hM.fill hx 0 hbN hgN
    change Mem w w' [some (bN0, numC 6 (fun _ => 0)), none, none, none, none, none] [] at hM
    refine st hF (g_move hF rfl) rfl fun a hF => st hF (g_extract hF rfl rfl) rfl fun a hF => st hF (g_extract hF rfl rfl) rfl fun a hF => st hF (g_assign hF rfl) rfl fun a hF => st hF (g_assign hF rfl) rfl fun a hF => ?_
    refine wpList_nil ?_
    refine tN ?_
    refine sq ?_
    refine wp_region_lit ?_
    refine st hF (g_move hF rfl) rfl fun a hF => ?_
    refine stR hF (d_call Try.call22 hF (.cons rfl .nil) (CountPiecesI_E _)) rfl ?_
    rintro _ w' a ⟨hx, bN1, rfl, hgN, hbN⟩ hF
    have hM := hM.fill hx 1 hbN hgN
    change Mem w w' [some (bN0, numC 6 (fun _ => 0)), some (bN1, numC 6 (fun _ => 0)), none, none, none, none] [] at hM
    refine st hF (g_move hF rfl) rfl fun a hF => st hF (g_extract hF rfl rfl) rfl fun a hF => st hF (g_extract hF rfl rfl) rfl fun a hF => st hF (g_assign hF rfl) rfl fun a hF => st hF (g_assign hF rfl) rfl fun a hF => ?_
    refine wpList_nil ?_
    refine tN ?_
    refine sq ?_
    refine sq ?_
    refine wp_region_lit ?_
    refine st hF (g_move hF rfl) rfl fun a hF => st hF (g_move hF rfl) rfl fun a hF => ?_
    refine stR hF (d_call Try.call23 hF (.cons rfl (.cons rfl .nil)) (eqInt64S_ok bN1 bN0 6 (fun _ => 0) (fun _ => 0) _ (hM.row 1 rfl) (hM.row 0 rfl) (by omega) (fun _ _ => rfl))) rfl ?_
    rintro _ w' a ⟨hx, rfl⟩ hF
    have hM := hM.ext hx
    refine st hF (g_not hF rfl) rfl fun a hF => st hF (g_move hF rfl) rfl fun a hF => stY hF rfl rfl rfl (g_move hF rfl) rfl fun a hF => stY hF rfl rfl rfl (g_move hF rfl) rfl fun a hF => stY hF rfl rfl rfl (g_neq hF rfl rfl) rfl fun a hF => st hF (g_pickF hF rfl rfl) rfl fun a hF => ?_
    refine wpList_nil ?_
    refine tN ?_
    refine c_kF hF rfl (by decide) ?_
    refine wp_skip ?_
    refine tN ?_
    refine sq ?_
    refine wp_region_lit ?_
    refine st hF (g_assign hF rfl) rfl fun a hF => ?_
    refine wpList_nil ?_
    refine tN ?_
    refine sq ?_
    refine wp_region_lit ?_
    refine st hF (g_move hF rfl) rfl fun a hF => st hF (g_move hF rfl) rfl fun a hF => ?_
    refine stR hF (d_callX Try.call24 hF (.cons rfl (.cons rfl .nil)) (markInt64S_ok bN1 6 (1) (fun _ => 0) _ (by omega) (by omega) (hM.row 1 rfl))) rfl ?_
    rintro _ w' a ⟨hx, rfl, hbk⟩ hF
    have hM := hM.upd 1 rfl hx hbk
    change Mem w w' [some (bN0, numC 6 (fun _ => 0)), some (bN1, numC 6 (fun c => 1 + c)), none, none, none, none] [] at hM
    refine st hF (g_assign hF rfl) rfl fun a hF => ?_
    refine wpList_nil ?_
    refine tN ?_
    refine sq ?_
    refine wp_region_lit ?_
    refine st hF (g_assign hF rfl) rfl fun a hF => ?_
    refine wpList_nil ?_
    refine tN ?_
    refine sq ?_
    refine wp_region_lit ?_
    refine st hF (g_move hF rfl) rfl fun a hF => st hF (g_move hF rfl) rfl fun a hF => ?_
    refine stR hF (d_call Try.call25 hF (.cons rfl (.cons rfl .nil)) (heldInt64S_ok bN1 6 (1) (fun c => 1 + c) _ (by omega) (by omega) (hM.row 1 rfl) (fun _ _ => rfl))) rfl ?_
    rintro _ w' a ⟨hx, rfl⟩ hF
    have hM := hM.ext hx
    refine st hF (g_assign hF rfl) rfl fun a hF => ?_
    refine wpList_nil ?_
    refine tN ?_
    refine sq ?_
    refine sq ?_
    refine wp_region_lit ?_
    refine st hF (g_move hF rfl) rfl fun a hF => st hF (g_lss hF rfl rfl) rfl fun a hF => ?_
    refine wpList_nil ?_
    refine tN ?_
    refine c_cond hF rfl (fun h3 => ?_) (fun h3 => ?_)
    ·
      first | exact absurd rfl h3 | (exfalso; omega)
    ·
      refine wp_skip ?_
      refine tN ?_
      refine sq ?_
      refine sq ?_
      refine wp_region_lit ?_
      refine st hF (g_move hF rfl) rfl fun a hF => st hF (g_move hF rfl) rfl fun a hF => st hF (g_neq hF rfl rfl) rfl fun a hF => ?_
      refine wpList_nil ?_
      refine tN ?_
      refine c_cond hF rfl (fun h4 => ?_) (fun h4 => ?_)
      ·
        first | exact absurd rfl h4 | (exfalso; omega)
      ·
        refine wp_skip ?_
        refine tN ?_
        refine sq ?_
        refine wp_region_lit ?_
        refine st hF (g_move hF rfl) rfl fun a hF => ?_
        refine stR hF (d_call Try.call22 hF (.cons rfl .nil) (CountPiecesI_E _)) rfl ?_
        rintro _ w' a ⟨hx, bN2, rfl, hgN, hbN⟩ hF
        have hM := hM.fill hx 2 hbN hgN
        change Mem w w' [some (bN0, numC 6 (fun _ => 0)), some (bN1, numC 6 (fun c => 1 + c)), some (bN2, numC 6 (fun _ => 0)), none, none, none] [] at hM
        refine st hF (g_move hF rfl) rfl fun a hF => st hF (g_extract hF rfl rfl) rfl fun a hF => st hF (g_extract hF rfl rfl) rfl fun a hF => st hF (g_assign hF rfl) rfl fun a hF => st hF (g_assign hF rfl) rfl fun a hF => ?_
        refine wpList_nil ?_
        refine tN ?_
        refine sq ?_
        refine sq ?_
        refine wp_region_lit ?_
        refine st hF (g_move hF rfl) rfl fun a hF => st hF (g_move hF rfl) rfl fun a hF => ?_
        refine stR hF (d_call Try.call23 hF (.cons rfl (.cons rfl .nil)) (eqInt64S_ok bN2 bN0 6 (fun _ => 0) (fun _ => 0) _ (hM.row 2 rfl) (hM.row 0 rfl) (by omega) (fun _ _ => rfl))) rfl ?_
        rintro _ w' a ⟨hx, rfl⟩ hF
        have hM := hM.ext hx
        refine st hF (g_not hF rfl) rfl fun a hF => st hF (g_move hF rfl) rfl fun a hF => stY hF rfl rfl rfl (g_move hF rfl) rfl fun a hF => stY hF rfl rfl rfl (g_move hF rfl) rfl fun a hF => stY hF rfl rfl rfl (g_neq hF rfl rfl) rfl fun a hF => st hF (g_pickF hF rfl rfl) rfl fun a hF => ?_
        refine wpList_nil ?_
        refine tN ?_
        refine c_kF hF rfl (by decide) ?_
        refine wp_skip ?_
        refine tN ?_
        refine sq ?_
        refine wp_region_lit ?_
        refine st hF (g_assign hF rfl) rfl fun a hF => ?_
        refine wpList_nil ?_
        refine tN ?_
        refine sq ?_
        refine wp_region_lit ?_
        refine st hF (g_move hF rfl) rfl fun a hF => st hF (g_move hF rfl) rfl fun a hF => ?_
        refine stR hF (d_call Try.call25 hF (.cons rfl (.cons rfl .nil)) (heldInt64S_ok bN1 6 (1) (fun c => 1 + c) _ (by omega) (by omega) (hM.row 1 rfl) (fun _ _ => rfl))) rfl ?_
        rintro _ w' a ⟨hx, rfl⟩ hF
        have hM := hM.ext hx
        refine st hF (g_assign hF rfl) rfl fun a hF => ?_
        refine wpList_nil ?_
        refine tN ?_
        refine sq ?_
        refine sq ?_
        refine wp_region_lit ?_
        refine st hF (g_move hF rfl) rfl fun a hF => st hF (g_lss hF rfl rfl) rfl fun a hF => ?_
        refine wpList_nil ?_
        refine tN ?_
        refine c_kF hF rfl h3 ?_
        refine wp_skip ?_
        refine tN ?_
        refine sq ?_
        refine sq ?_
        refine wp_region_lit ?_
        refine st hF (g_move hF rfl) rfl fun a hF => st hF (g_move hF rfl) rfl fun a hF => st hF (g_neq hF rfl rfl) rfl fun a hF => ?_
        refine wpList_nil ?_
        refine tN ?_
        refine c_kF hF rfl h4 ?_
        refine wp_skip ?_
        refine tN ?_
        refine sq ?_
        refine wp_region_lit ?_
        refine st hF (g_assign hF rfl) rfl fun a hF => ?_
        refine wpList_nil ?_
        refine tN ?_
        refine wp_ret ?_
        refine fin1 rfl hF.defers (res_tmp hF rfl) ⟨_, rfl, hM.below, ?_⟩
        show _ = _
        rfl

theorem law_CountPiecesL (s : ByteArray) (w : World) (hW : ¬ WordP s) (h0 : 300 < s.size) (hz : s.size ≤ 1048576) :
    CallsR Try.prog 7 #[.string (s)] w (fun res _ => res = .bool true) := by
  refine calls_fr [.string (s)] Try.func7 rfl Try.ntmps7 rfl fun a hF => ?_
  have hM : Mem w w [none, none, none, none, none, none] [] := MemX.start w 6
  change Fr 66 a [(0, .string (s))] at hF
  refine sq ?_
  refine wp_region_lit ?_
  refine st hF (g_assign hF rfl) rfl fun a hF => ?_
  refine wpList_nil ?_
  refine tN ?_
  refine sq ?_
  refine sq ?_
  refine wp_region_lit ?_
  refine st hF (g_move hF rfl) rfl fun a hF => st hF (g_lenS ty_ut_9 hF rfl) rfl fun a hF => st hF (g_gtr hF rfl rfl) rfl fun a hF => ?_
  refine wpList_nil ?_
  refine tN ?_
  refine c_cond hF rfl (fun h1 => ?_) (fun h1 => ?_)
  ·
    first | exact absurd rfl h1 | (exfalso; omega)
  ·
    refine wp_skip ?_
    refine tN ?_
    refine sq ?_
    refine wp_region_lit ?_
    refine st hF (g_move hF rfl) rfl fun a hF => ?_
    refine stR hF (d_call Try.call21 hF (.cons rfl .nil) (CountPiecesS_N s _ hW (by omega) (by omega))) rfl ?_
    rintro _ w' a ⟨hx, rfl⟩ hF
    have hM := hM.ext hx
    refine st hF (g_move hF rfl) rfl fun a hF => st hF (g_extract hF rfl rfl) rfl fun a hF => st hF (g_extract hF rfl rfl) rfl fun a hF => st hF (g_assign hF rfl) rfl fun a hF => st hF (g_assign hF rfl) rfl fun a hF => ?_
    refine wpList_nil ?_
    refine tN ?_
    refine sq ?_
    refine wp_region_lit ?_
    refine st hF (g_move hF rfl) rfl fun a hF => ?_
    refine stR hF (d_call Try.call22 hF (.cons rfl .nil) (CountPiecesI_L s _ (by omega))) rfl ?_
    rintro _ w' a ⟨hx, rfl⟩ hF
    have hM := hM.ext hx
    refine st hF (g_move hF rfl) rfl fun a hF => st hF (g_extract hF rfl rfl) rfl fun a hF => st hF (g_extract hF rfl rfl) rfl fun a hF => st hF (g_assign hF rfl) rfl fun a hF => st hF (g_assign hF rfl) rfl fun a hF => ?_
    refine wpList_nil ?_
    refine tN ?_
    refine sq ?_
    refine sq ?_
    refine wp_region_lit ?_
    refine st hF (g_move hF rfl) rfl fun a hF => st hF (g_move hF rfl) rfl fun a hF => ?_
    refine stR hF (d_call Try.call23 hF (.cons rfl (.cons rfl .nil)) (eqInt64S_0 _)) rfl ?_
    rintro _ w' a ⟨hx, rfl⟩ hF
    have hM := hM.ext hx
    refine st hF (g_not hF rfl) rfl fun a hF => st hF (g_move hF rfl) rfl fun a hF => stY hF rfl rfl rfl (g_move hF rfl) rfl fun a hF => stY hF rfl rfl rfl (g_move hF rfl) rfl fun a hF => stY hF rfl rfl rfl (g_neq hF rfl rfl) rfl fun a hF => st hF (g_pickF hF rfl rfl) rfl fun a hF => ?_
    refine wpList_nil ?_
    refine tN ?_
    refine c_kF hF rfl (by decide) ?_
    refine wp_skip ?_
    refine tN ?_
    refine sq ?_
    refine wp_region_lit ?_
    refine st hF (g_assign hF rfl) rfl fun a hF => ?_
    refine wpList_nil ?_
    refine tN ?_
    refine sq ?_
    refine wp_region_lit ?_
    refine st hF (g_move hF rfl) rfl fun a hF => st hF (g_move hF rfl) rfl fun a hF => ?_
    refine stR hF (d_call Try.call24 hF (.cons rfl (.cons rfl .nil)) (markInt64S_0 (1) _ (by omega))) rfl ?_
    rintro _ w' a ⟨hx, rfl⟩ hF
    have hM := hM.ext hx
    refine st hF (g_assign hF rfl) rfl fun a hF => ?_
    refine wpList_nil ?_
    refine tN ?_
    refine sq ?_
    refine wp_region_lit ?_
    refine st hF (g_assign hF rfl) rfl fun a hF => ?_
    refine wpList_nil ?_
    refine tN ?_
    refine sq ?_
    refine wp_region_lit ?_
    refine st hF (g_move hF rfl) rfl fun a hF => st hF (g_move hF rfl) rfl fun a hF => ?_
    refine stR hF (d_call Try.call25 hF (.cons rfl (.cons rfl .nil)) (heldInt64S_0 (1) _ (by omega))) rfl ?_
    rintro _ w' a ⟨hx, rfl⟩ hF
    have hM := hM.ext hx
    refine st hF (g_assign hF rfl) rfl fun a hF => ?_
    refine wpList_nil ?_
    refine tN ?_
    refine sq ?_
    refine sq ?_
    refine wp_region_lit ?_
    refine st hF (g_move hF rfl) rfl fun a hF => st hF (g_lss hF rfl rfl) rfl fun a hF => ?_
    refine wpList_nil ?_
    refine tN ?_
    refine c_cond hF rfl (fun h3 => ?_) (fun h3 => ?_)
    ·
      first | exact absurd rfl h3 | (exfalso; omega)
    ·
      refine wp_skip ?_
      refine tN ?_
      refine sq ?_
      refine sq ?_
      refine wp_region_lit ?_
      refine st hF (g_move hF rfl) rfl fun a hF => st hF (g_move hF rfl) rfl fun a hF => st hF (g_neq hF rfl rfl) rfl fun a hF => ?_
      refine wpList_nil ?_
      refine tN ?_
      refine c_kF hF rfl (by decide) ?_
      refine wp_skip ?_
      refine tN ?_
      refine sq ?_
      refine wp_region_lit ?_
      refine st hF (g_move hF rfl) rfl fun a hF => ?_
      refine stR hF (d_call Try.call22 hF (.cons rfl .nil) (CountPiecesI_L s _ (by omega))) rfl ?_
      rintro _ w' a ⟨hx, rfl⟩ hF
      have hM := hM.ext hx
      refine st hF (g_move hF rfl) rfl fun a hF => st hF (g_extract hF rfl rfl) rfl fun a hF => st hF (g_extract hF rfl rfl) rfl fun a hF => st hF (g_assign hF rfl) rfl fun a hF => st hF (g_assign hF rfl) rfl fun a hF => ?_
      refine wpList_nil ?_
      refine tN ?_
      refine sq ?_
      refine sq ?_
      refine wp_region_lit ?_
      refine st hF (g_move hF rfl) rfl fun a hF => st hF (g_move hF rfl) rfl fun a hF => ?_
      refine stR hF (d_call Try.call23 hF (.cons rfl (.cons rfl .nil)) (eqInt64S_0 _)) rfl ?_
      rintro _ w' a ⟨hx, rfl⟩ hF
      have hM := hM.ext hx
      refine st hF (g_not hF rfl) rfl fun a hF => st hF (g_move hF rfl) rfl fun a hF => stY hF rfl rfl rfl (g_move hF rfl) rfl fun a hF => stY hF rfl rfl rfl (g_move hF rfl) rfl fun a hF => stY hF rfl rfl rfl (g_neq hF rfl rfl) rfl fun a hF => st hF (g_pickF hF rfl rfl) rfl fun a hF => ?_
      refine wpList_nil ?_
      refine tN ?_
      refine c_kF hF rfl (by decide) ?_
      refine wp_skip ?_
      refine tN ?_
      refine sq ?_
      refine wp_region_lit ?_
      refine st hF (g_assign hF rfl) rfl fun a hF => ?_
      refine wpList_nil ?_
      refine tN ?_
      refine sq ?_
      refine wp_region_lit ?_
      refine st hF (g_move hF rfl) rfl fun a hF => st hF (g_move hF rfl) rfl fun a hF => ?_
      refine stR hF (d_call Try.call25 hF (.cons rfl (.cons rfl .nil)) (heldInt64S_0 (1) _ (by omega))) rfl ?_
      rintro _ w' a ⟨hx, rfl⟩ hF
      have hM := hM.ext hx
      refine st hF (g_assign hF rfl) rfl fun a hF => ?_
      refine wpList_nil ?_
      refine tN ?_
      refine sq ?_
      refine sq ?_
      refine wp_region_lit ?_
      refine st hF (g_move hF rfl) rfl fun a hF => st hF (g_lss hF rfl rfl) rfl fun a hF => ?_
      refine wpList_nil ?_
      refine tN ?_
      refine c_kF hF rfl h3 ?_
      refine wp_skip ?_
      refine tN ?_
      refine sq ?_
      refine sq ?_
      refine wp_region_lit ?_
      refine st hF (g_move hF rfl) rfl fun a hF => st hF (g_move hF rfl) rfl fun a hF => st hF (g_neq hF rfl rfl) rfl fun a hF => ?_
      refine wpList_nil ?_
      refine tN ?_
      refine c_kF hF rfl (by decide) ?_
      refine wp_skip ?_
      refine tN ?_
      refine sq ?_
      refine wp_region_lit ?_
      refine st hF (g_assign hF rfl) rfl fun a hF => ?_
      refine wpList_nil ?_
      refine tN ?_
      refine wp_ret ?_
      refine fin1 rfl hF.defers (res_tmp hF rfl) ⟨_, rfl, hM.below, ?_⟩
      show _ = _
      rfl

theorem law_CountPiecesN (s : ByteArray) (w : World) (hW : ¬ WordP s) (h0 : 0 < s.size) (h3 : s.size ≤ 300) :
    CallsR Try.prog 7 #[.string (s)] w (fun res _ => res = .bool true) := by
  refine calls_fr [.string (s)] Try.func7 rfl Try.ntmps7 rfl fun a hF => ?_
  have hM : Mem w w [none, none, none, none, none, none] [] := MemX.start w 6
  change Fr 66 a [(0, .string (s))] at hF
  refine sq ?_
  refine wp_region_lit ?_
  refine st hF (g_assign hF rfl) rfl fun a hF => ?_
  refine wpList_nil ?_
  refine tN ?_
  refine sq ?_
  refine sq ?_
  refine wp_region_lit ?_
  refine st hF (g_move hF rfl) rfl fun a hF => st hF (g_lenS ty_ut_9 hF rfl) rfl fun a hF => st hF (g_gtr hF rfl rfl) rfl fun a hF => ?_
  refine wpList_nil ?_
  refine tN ?_
  refine c_cond hF rfl (fun h1 => ?_) (fun h1 => ?_)
  ·
    first | exact absurd rfl h1 | (exfalso; omega)
  ·
    refine wp_skip ?_
    refine tN ?_
    refine sq ?_
    refine wp_region_lit ?_
    refine st hF (g_move hF rfl) rfl fun a hF => ?_
    refine stR hF (d_call Try.call21 hF (.cons rfl .nil) (CountPiecesS_N s _ hW (by omega) (by omega))) rfl ?_
    rintro _ w' a ⟨hx, rfl⟩ hF
    have hM := hM.ext hx
    refine st hF (g_move hF rfl) rfl fun a hF => st hF (g_extract hF rfl rfl) rfl fun a hF => st hF (g_extract hF rfl rfl) rfl fun a hF => st hF (g_assign hF rfl) rfl fun a hF => st hF (g_assign hF rfl) rfl fun a hF => ?_
    refine wpList_nil ?_
    refine tN ?_
    refine sq ?_
    refine wp_region_lit ?_
    refine st hF (g_move hF rfl) rfl fun a hF => ?_
    refine stR hF (d_call Try.call22 hF (.cons rfl .nil) (CountPiecesI_N s _ hW (by omega) (by omega))) rfl ?_
    rintro _ w' a ⟨hx, rfl⟩ hF
    have hM := hM.ext hx
    refine st hF (g_move hF rfl) rfl fun a hF => st hF (g_extract hF rfl rfl) rfl fun a hF => st hF (g_extract hF rfl rfl) rfl fun a hF => st hF (g_assign hF rfl) rfl fun a hF => st hF (g_assign hF rfl) rfl fun a hF => ?_
    refine wpList_nil ?_
    refine tN ?_
    refine sq ?_
    refine sq ?_
    refine wp_region_lit ?_
    refine st hF (g_move hF rfl) rfl fun a hF => st hF (g_move hF rfl) rfl fun a hF => ?_
    refine stR hF (d_call Try.call23 hF (.cons rfl (.cons rfl .nil)) (eqInt64S_0 _)) rfl ?_
    rintro _ w' a ⟨hx, rfl⟩ hF
    have hM := hM.ext hx
    refine st hF (g_not hF rfl) rfl fun a hF => st hF (g_move hF rfl) rfl fun a hF => stY hF rfl rfl rfl (g_move hF rfl) rfl fun a hF => stY hF rfl rfl rfl (g_move hF rfl) rfl fun a hF => stY hF rfl rfl rfl (g_neq hF rfl rfl) rfl fun a hF => st hF (g_pickF hF rfl rfl) rfl fun a hF => ?_
    refine wpList_nil ?_
    refine tN ?_
    refine c_kF hF rfl (by decide) ?_
    refine wp_skip ?_
    refine tN ?_
    refine sq ?_
    refine wp_region_lit ?_
    refine st hF (g_assign hF rfl) rfl fun a hF => ?_
    refine wpList_nil ?_
    refine tN ?_
    refine sq ?_
    refine wp_region_lit ?_
    refine st hF (g_move hF rfl) rfl fun a hF => st hF (g_move hF rfl) rfl fun a hF => ?_
    refine stR hF (d_call Try.call24 hF (.cons rfl (.cons rfl .nil)) (markInt64S_0 (1) _ (by omega))) rfl ?_
    rintro _ w' a ⟨hx, rfl⟩ hF
    have hM := hM.ext hx
    refine st hF (g_assign hF rfl) rfl fun a hF => ?_
    refine wpList_nil ?_
    refine tN ?_
    refine sq ?_
    refine wp_region_lit ?_
    refine st hF (g_assign hF rfl) rfl fun a hF => ?_
    refine wpList_nil ?_
    refine tN ?_
    refine sq ?_
    refine wp_region_lit ?_
    refine st hF (g_move hF rfl) rfl fun a hF => st hF (g_move hF rfl) rfl fun a hF => ?_
    refine stR hF (d_call Try.call25 hF (.cons rfl (.cons rfl .nil)) (heldInt64S_0 (1) _ (by omega))) rfl ?_
    rintro _ w' a ⟨hx, rfl⟩ hF
    have hM := hM.ext hx
    refine st hF (g_assign hF rfl) rfl fun a hF => ?_
    refine wpList_nil ?_
    refine tN ?_
    refine sq ?_
    refine sq ?_
    refine wp_region_lit ?_
    refine st hF (g_move hF rfl) rfl fun a hF => st hF (g_lss hF rfl rfl) rfl fun a hF => ?_
    refine wpList_nil ?_
    refine tN ?_
    refine c_cond hF rfl (fun h3 => ?_) (fun h3 => ?_)
    ·
      first | exact absurd rfl h3 | (exfalso; omega)
    ·
      refine wp_skip ?_
      refine tN ?_
      refine sq ?_
      refine sq ?_
      refine wp_region_lit ?_
      refine st hF (g_move hF rfl) rfl fun a hF => st hF (g_move hF rfl) rfl fun a hF => st hF (g_neq hF rfl rfl) rfl fun a hF => ?_
      refine wpList_nil ?_
      refine tN ?_
      refine c_kF hF rfl (by decide) ?_
      refine wp_skip ?_
      refine tN ?_
      refine sq ?_
      refine wp_region_lit ?_
      refine st hF (g_move hF rfl) rfl fun a hF => ?_
      refine stR hF (d_call Try.call22 hF (.cons rfl .nil) (CountPiecesI_N s _ hW (by omega) (by omega))) rfl ?_
      rintro _ w' a ⟨hx, rfl⟩ hF
      have hM := hM.ext hx
      refine st hF (g_move hF rfl) rfl fun a hF => st hF (g_extract hF rfl rfl) rfl fun a hF => st hF (g_extract hF rfl rfl) rfl fun a hF => st hF (g_assign hF rfl) rfl fun a hF => st hF (g_assign hF rfl) rfl fun a hF => ?_
      refine wpList_nil ?_
      refine tN ?_
      refine sq ?_
      refine sq ?_
      refine wp_region_lit ?_
      refine st hF (g_move hF rfl) rfl fun a hF => st hF (g_move hF rfl) rfl fun a hF => ?_
      refine stR hF (d_call Try.call23 hF (.cons rfl (.cons rfl .nil)) (eqInt64S_0 _)) rfl ?_
      rintro _ w' a ⟨hx, rfl⟩ hF
      have hM := hM.ext hx
      refine st hF (g_not hF rfl) rfl fun a hF => st hF (g_move hF rfl) rfl fun a hF => stY hF rfl rfl rfl (g_move hF rfl) rfl fun a hF => stY hF rfl rfl rfl (g_move hF rfl) rfl fun a hF => stY hF rfl rfl rfl (g_neq hF rfl rfl) rfl fun a hF => st hF (g_pickF hF rfl rfl) rfl fun a hF => ?_
      refine wpList_nil ?_
      refine tN ?_
      refine c_kF hF rfl (by decide) ?_
      refine wp_skip ?_
      refine tN ?_
      refine sq ?_
      refine wp_region_lit ?_
      refine st hF (g_assign hF rfl) rfl fun a hF => ?_
      refine wpList_nil ?_
      refine tN ?_
      refine sq ?_
      refine wp_region_lit ?_
      refine st hF (g_move hF rfl) rfl fun a hF => st hF (g_move hF rfl) rfl fun a hF => ?_
      refine stR hF (d_call Try.call25 hF (.cons rfl (.cons rfl .nil)) (heldInt64S_0 (1) _ (by omega))) rfl ?_
      rintro _ w' a ⟨hx, rfl⟩ hF
      have hM := hM.ext hx
      refine st hF (g_assign hF rfl) rfl fun a hF => ?_
      refine wpList_nil ?_
      refine tN ?_
      refine sq ?_
      refine sq ?_
      refine wp_region_lit ?_
      refine st hF (g_move hF rfl) rfl fun a hF => st hF (g_lss hF rfl rfl) rfl fun a hF => ?_
      refine wpList_nil ?_
      refine tN ?_
      refine c_kF hF rfl h3 ?_
      refine wp_skip ?_
      refine tN ?_
      refine sq ?_
      refine sq ?_
      refine wp_region_lit ?_
      refine st hF (g_move hF rfl) rfl fun a hF => st hF (g_move hF rfl) rfl fun a hF => st hF (g_neq hF rfl rfl) rfl fun a hF => ?_
      refine wpList_nil ?_
      refine tN ?_
      refine c_kF hF rfl (by decide) ?_
      refine wp_skip ?_
      refine tN ?_
      refine sq ?_
      refine wp_region_lit ?_
      refine st hF (g_assign hF rfl) rfl fun a hF => ?_
      refine wpList_nil ?_
      refine tN ?_
      refine wp_ret ?_
      refine fin1 rfl hF.defers (res_tmp hF rfl) ⟨_, rfl, hM.below, ?_⟩
      show _ = _
      rfl

theorem law_CountPiecesY (s : ByteArray) (w : World) (hW : WordP s) (h0 : 0 < s.size) :
    CallsR Try.prog 7 #[.string (s)] w (fun res _ => res = .bool true) := by
  refine calls_fr [.string (s)] Try.func7 rfl Try.ntmps7 rfl fun a hF => ?_
  have hM : Mem w w [none, none, none, none, none, none] [] := MemX.start w 6
  change Fr 66 a [(0, .string (s))] at hF
  have h3 := hW.1
  refine sq ?_
  refine wp_region_lit ?_
  refine st hF (g_assign hF rfl) rfl fun a hF => ?_
  refine wpList_nil ?_
  refine tN ?_
  refine sq ?_
  refine sq ?_
  refine wp_region_lit ?_
  refine st hF (g_move hF rfl) rfl fun a hF => st hF (g_lenS ty_ut_9 hF rfl) rfl fun a hF => st hF (g_gtr hF rfl rfl) rfl fun a hF => ?_
  refine wpList_nil ?_
  refine tN ?_
  refine c_cond hF rfl (fun h1 => ?_) (fun h1 => ?_)
  ·
    first | exact absurd rfl h1 | (exfalso; omega)
  ·
    refine wp_skip ?_
    refine tN ?_
    refine sq ?_
    refine wp_region_lit ?_
    refine st hF (g_move hF rfl) rfl fun a hF => ?_
    refine stR hF (d_call Try.call21 hF (.cons rfl .nil) (CountPiecesS_Y s _ hW h0)) rfl ?_
    rintro _ w' a ⟨hx, bN0, rfl, hgN, hbN⟩ hF
    have hM := hM.fill hx 0 hbN hgN
    change Mem w w' [some (bN0, numC 6 (fun c => cntL s c s.size)), none, none, none, none, none] [] at hM
    refine st hF (g_move hF rfl) rfl fun a hF => st hF (g_extract hF rfl rfl) rfl fun a hF => st hF (g_extract hF rfl rfl) rfl fun a hF => st hF (g_assign hF rfl) rfl fun a hF => st hF (g_assign hF rfl) rfl fun a hF => ?_
    refine wpList_nil ?_
    refine tN ?_
    refine sq ?_
    refine wp_region_lit ?_
    refine st hF (g_move hF rfl) rfl fun a hF => ?_
    refine stR hF (d_call Try.call22 hF (.cons rfl .nil) (CountPiecesI_Y s _ hW (by omega))) rfl ?_
    rintro _ w' a ⟨hx, bN1, rfl, hgN, hbN⟩ hF
    have hM := hM.fill hx 1 hbN hgN
    change Mem w w' [some (bN0, numC 6 (fun c => cntL s c s.size)), some (bN1, numC 6 (fun c => cntL s c s.size)), none, none, none, none] [] at hM
    refine st hF (g_move hF rfl) rfl fun a hF => st hF (g_extract hF rfl rfl) rfl fun a hF => st hF (g_extract hF rfl rfl) rfl fun a hF => st hF (g_assign hF rfl) rfl fun a hF => st hF (g_assign hF rfl) rfl fun a hF => ?_
    refine wpList_nil ?_
    refine tN ?_
    refine sq ?_
    refine sq ?_
    refine wp_region_lit ?_
    refine st hF (g_move hF rfl) rfl fun a hF => st hF (g_move hF rfl) rfl fun a hF => ?_
    refine stR hF (d_call Try.call23 hF (.cons rfl (.cons rfl .nil)) (eqInt64S_ok bN1 bN0 6 (fun c => cntL s c s.size) (fun c => cntL s c s.size) _ (hM.row 1 rfl) (hM.row 0 rfl) (by omega) (fun _ _ => rfl))) rfl ?_
    rintro _ w' a ⟨hx, rfl⟩ hF
    have hM := hM.ext hx
    refine st hF (g_not hF rfl) rfl fun a hF => st hF (g_move hF rfl) rfl fun a hF => stY hF rfl rfl rfl (g_move hF rfl) rfl fun a hF => stY hF rfl rfl rfl (g_move hF rfl) rfl fun a hF => stY hF rfl rfl rfl (g_neq hF rfl rfl) rfl fun a hF => st hF (g_pickF hF rfl rfl) rfl fun a hF => ?_
    refine wpList_nil ?_
    refine tN ?_
    refine c_kF hF rfl (by decide) ?_
    refine wp_skip ?_
    refine tN ?_
    refine sq ?_
    refine wp_region_lit ?_
    refine st hF (g_assign hF rfl) rfl fun a hF => ?_
    refine wpList_nil ?_
    refine tN ?_
    refine sq ?_
    refine wp_region_lit ?_
    refine st hF (g_move hF rfl) rfl fun a hF => st hF (g_move hF rfl) rfl fun a hF => ?_
    refine stR hF (d_callX Try.call24 hF (.cons rfl (.cons rfl .nil)) (markInt64S_ok bN1 6 (1) (fun c => cntL s c s.size) _ (by omega) (by omega) (hM.row 1 rfl))) rfl ?_
    rintro _ w' a ⟨hx, rfl, hbk⟩ hF
    have hM := hM.upd 1 rfl hx hbk
    change Mem w w' [some (bN0, numC 6 (fun c => cntL s c s.size)), some (bN1, numC 6 (fun c => 1 + c)), none, none, none, none] [] at hM
    refine st hF (g_assign hF rfl) rfl fun a hF => ?_
    refine wpList_nil ?_
    refine tN ?_
    refine sq ?_
    refine wp_region_lit ?_
    refine st hF (g_assign hF rfl) rfl fun a hF => ?_
    refine wpList_nil ?_
    refine tN ?_
    refine sq ?_
    refine wp_region_lit ?_
    refine st hF (g_move hF rfl) rfl fun a hF => st hF (g_move hF rfl) rfl fun a hF => ?_
    refine stR hF (d_call Try.call25 hF (.cons rfl (.cons rfl .nil)) (heldInt64S_ok bN1 6 (1) (fun c => 1 + c) _ (by omega) (by omega) (hM.row 1 rfl) (fun _ _ => rfl))) rfl ?_
    rintro _ w' a ⟨hx, rfl⟩ hF
    have hM := hM.ext hx
    refine st hF (g_assign hF rfl) rfl fun a hF => ?_
    refine wpList_nil ?_
    refine tN ?_
    refine sq ?_
    refine sq ?_
    refine wp_region_lit ?_
    refine st hF (g_move hF rfl) rfl fun a hF => st hF (g_lss hF rfl rfl) rfl fun a hF => ?_
    refine wpList_nil ?_
    refine tN ?_
    refine c_cond hF rfl (fun h3 => ?_) (fun h3 => ?_)
    ·
      first | exact absurd rfl h3 | (exfalso; omega)
    ·
      refine wp_skip ?_
      refine tN ?_
      refine sq ?_
      refine sq ?_
      refine wp_region_lit ?_
      refine st hF (g_move hF rfl) rfl fun a hF => st hF (g_move hF rfl) rfl fun a hF => st hF (g_neq hF rfl rfl) rfl fun a hF => ?_
      refine wpList_nil ?_
      refine tN ?_
      refine c_cond hF rfl (fun h4 => ?_) (fun h4 => ?_)
      ·
        first | exact absurd rfl h4 | (exfalso; omega)
      ·
        refine wp_skip ?_
        refine tN ?_
        refine sq ?_
        refine wp_region_lit ?_
        refine st hF (g_move hF rfl) rfl fun a hF => ?_
        refine stR hF (d_call Try.call22 hF (.cons rfl .nil) (CountPiecesI_Y s _ hW (by omega))) rfl ?_
        rintro _ w' a ⟨hx, bN2, rfl, hgN, hbN⟩ hF
        have hM := hM.fill hx 2 hbN hgN
        change Mem w w' [some (bN0, numC 6 (fun c => cntL s c s.size)), some (bN1, numC 6 (fun c => 1 + c)), some (bN2, numC 6 (fun c => cntL s c s.size)), none, none, none] [] at hM
        refine st hF (g_move hF rfl) rfl fun a hF => st hF (g_extract hF rfl rfl) rfl fun a hF => st hF (g_extract hF rfl rfl) rfl fun a hF => st hF (g_assign hF rfl) rfl fun a hF => st hF (g_assign hF rfl) rfl fun a hF => ?_
        refine wpList_nil ?_
        refine tN ?_
        refine sq ?_
        refine sq ?_
        refine wp_region_lit ?_
        refine st hF (g_move hF rfl) rfl fun a hF => st hF (g_move hF rfl) rfl fun a hF => ?_
        refine stR hF (d_call Try.call23 hF (.cons rfl (.cons rfl .nil)) (eqInt64S_ok bN2 bN0 6 (fun c => cntL s c s.size) (fun c => cntL s c s.size) _ (hM.row 2 rfl) (hM.row 0 rfl) (by omega) (fun _ _ => rfl))) rfl ?_
        rintro _ w' a ⟨hx, rfl⟩ hF
        have hM := hM.ext hx
        refine st hF (g_not hF rfl) rfl fun a hF => st hF (g_move hF rfl) rfl fun a hF => stY hF rfl rfl rfl (g_move hF rfl) rfl fun a hF => stY hF rfl rfl rfl (g_move hF rfl) rfl fun a hF => stY hF rfl rfl rfl (g_neq hF rfl rfl) rfl fun a hF => st hF (g_pickF hF rfl rfl) rfl fun a hF => ?_
        refine wpList_nil ?_
        refine tN ?_
        refine c_kF hF rfl (by decide) ?_
        refine wp_skip ?_
        refine tN ?_
        refine sq ?_
        refine wp_region_lit ?_
        refine st hF (g_assign hF rfl) rfl fun a hF => ?_
        refine wpList_nil ?_
        refine tN ?_
        refine sq ?_
        refine wp_region_lit ?_
        refine st hF (g_move hF rfl) rfl fun a hF => st hF (g_move hF rfl) rfl fun a hF => ?_
        refine stR hF (d_call Try.call25 hF (.cons rfl (.cons rfl .nil)) (heldInt64S_ok bN1 6 (1) (fun c => 1 + c) _ (by omega) (by omega) (hM.row 1 rfl) (fun _ _ => rfl))) rfl ?_
        rintro _ w' a ⟨hx, rfl⟩ hF
        have hM := hM.ext hx
        refine st hF (g_assign hF rfl) rfl fun a hF => ?_
        refine wpList_nil ?_
        refine tN ?_
        refine sq ?_
        refine sq ?_
        refine wp_region_lit ?_
        refine st hF (g_move hF rfl) rfl fun a hF => st hF (g_lss hF rfl rfl) rfl fun a hF => ?_
        refine wpList_nil ?_
        refine tN ?_
        refine c_kF hF rfl h3 ?_
        refine wp_skip ?_
        refine tN ?_
        refine sq ?_
        refine sq ?_
        refine wp_region_lit ?_
        refine st hF (g_move hF rfl) rfl fun a hF => st hF (g_move hF rfl) rfl fun a hF => st hF (g_neq hF rfl rfl) rfl fun a hF => ?_
        refine wpList_nil ?_
        refine tN ?_
        refine c_kF hF rfl h4 ?_
        refine wp_skip ?_
        refine tN ?_
        refine sq ?_
        refine wp_region_lit ?_
        refine st hF (g_assign hF rfl) rfl fun a hF => ?_
        refine wpList_nil ?_
        refine tN ?_
        refine wp_ret ?_
        refine fin1 rfl hF.defers (res_tmp hF rfl) ⟨_, rfl, hM.below, ?_⟩
        show _ = _
        rfl

theorem law_CountPieces (s : ByteArray) (w : World) (hml : s.size ≤ maxLen) : CallsV Try.prog 7 #[.string s] w (.bool true) := by
  by_cases hz : 1048576 < s.size
  · exact law_CountPiecesZ s w hz hml
  · by_cases h0 : s.size = 0
    · rw [str_e0 h0]; exact law_CountPiecesE w
    · by_cases hW : WordP s
      · exact law_CountPiecesY s w hW (by omega)
      · by_cases h3 : s.size ≤ 300
        · exact law_CountPiecesN s w hW (by omega) h3
        · exact law_CountPiecesL s w hW (by omega) (by omega)

end Go.Proofs.Ytnaabnhjokibfaa
