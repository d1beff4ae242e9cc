/- What functions of the program return, as walks over their operations; no statement of the seat is proved here. -/
import Derived.Test.YtfbhngnfhpjonaaU2
import Derived.Test.YtfbhngnfhpjonaaSw28
set_option linter.unusedVariables false
set_option linter.unusedSimpArgs false
namespace Go.Proofs.Ytfbhngnfhpjonaa
open Go Go.RowKit Go.Sw Go.Ech
open Classical
theorem ty_fo_47_0 : fieldOff Try.prog 47 0 = some 0 := by kernel_rfl
theorem ty_fo_47_1 : fieldOff Try.prog 47 1 = some 1 := by kernel_rfl
theorem ty_fo_47_2 : fieldOff Try.prog 47 2 = some 2 := by kernel_rfl
theorem ty_fo_47_3 : fieldOff Try.prog 47 3 = some 3 := by kernel_rfl
theorem ty_fo_47_4 : fieldOff Try.prog 47 4 = some 4 := by kernel_rfl
theorem eqInt64S_ok (b bz m : Nat) (f g : Nat → Int) (w : World) (hb : Blk w b (numI m f)) (hbz : Blk w bz (numI m g)) (hm : m < 10000000) (he : ∀ c, c < m → f c = g c) :
    CallsR Try.prog 57 #[.slice (some ⟨b, 0, none⟩) (m) (m), .slice (some ⟨bz, 0, none⟩) (m) (m)] w (fun res _ => res = .bool true) := by
  refine calls_fr [.slice (some ⟨b, 0, none⟩) (m) (m), .slice (some ⟨bz, 0, none⟩) (m) (m)] Try.func57 rfl Try.ntmps57 rfl fun a hF => ?_
  have hM : Mem w w [] [(b, numI m f), (bz, numI m g)] := MemX.startD w 0 _ (startD2 hb hbz)
  change Fr 26 a [(0, .slice (some ⟨b, 0, none⟩) (m) (m)), (1, .slice (some ⟨bz, 0, none⟩) (m) (m))] at hF
  refine sq ?_
  refine wp_region_lit ?_
  refine st hF (g_assign hF rfl) rfl fun a hF => ?_
  refine wpList_nil ?_
  refine tN ?_
  refine sq ?_
  refine sq ?_
  refine wp_region_lit ?_
  refine st hF (g_move hF rfl) rfl fun a hF => st hF (g_len ty_us_45 hF rfl) rfl fun a hF => st hF (g_move hF rfl) rfl fun a hF => st hF (g_len ty_us_45 hF rfl) rfl fun a hF => st hF (g_neq hF rfl rfl) rfl fun a hF => ?_
  refine wpList_nil ?_
  refine tN ?_
  refine c_cond hF rfl (fun h1 => ?_) (fun h1 => ?_)
  ·
    first | exact absurd rfl h1 | (exfalso; omega)
  ·
    refine wp_skip ?_
    refine tN ?_
    refine sq ?_
    refine sq ?_
    refine wp_region_lit ?_
    refine st hF (g_assign hF rfl) rfl fun a hF => ?_
    refine wpList_nil ?_
    refine tN ?_
    refine wp_block ?_
    change Mem w _ [] [(b, numI m f), (bz, numI m g)] at hM
    refine c_loop (fun (kk : Nat) a w' => kk ≤ m ∧ (True) ∧ Fr 26 a [(0, .slice (some ⟨b, 0, none⟩) (m) (m)), (1, .slice (some ⟨bz, 0, none⟩) (m) (m)), (6, .slice (some ⟨b, 0, none⟩) (m) (m)), (7, .int .i64 (((m : Nat) : Int))), (8, .slice (some ⟨bz, 0, none⟩) (m) (m)), (9, .int .i64 (((m : Nat) : Int))), (10, .bool (decide ((((m : Nat) : Int) : Int) ≠ ((m : Nat) : Int)))), (5, .int .i64 (((kk : Nat) : Int)))] ∧ Mem w w' [] [(b, numI m f), (bz, numI m g)]) (fun kk => m - kk) 0 ?_ ?_
    ·
      refine ⟨by omega, trivial, hF.sub _ (by repeat' constructor), ?_⟩
      exact hM
    ·
      clear hF hM
      rintro gk a w' ⟨hgk, hinv1, hF, hM⟩
      have hek := he gk
      refine sq ?_
      refine sq ?_
      refine wp_region_lit ?_
      refine st hF (g_move hF rfl) rfl fun a hF => st hF (g_move hF rfl) rfl fun a hF => st hF (g_len ty_us_45 hF rfl) rfl fun a hF => st hF (g_lss hF rfl rfl) rfl fun a hF => ?_
      refine wpList_nil ?_
      refine tN ?_
      refine c_cond hF rfl (fun h2 => ?_) (fun h2 => ?_)
      ·
        refine wp_skip ?_
        refine tN ?_
        refine sq ?_
        refine wp_block ?_
        refine sq ?_
        refine c_par 8 [] [.val (.slice (some ⟨b, 0, none⟩) (m) (m)), .val (.int .i64 (((gk : Nat) : Int))), .val (ptr b (0 + (gk) * 1)), .val (.int .i64 (f (gk))), .val (.slice (some ⟨bz, 0, none⟩) (m) (m)), .val (.int .i64 (((gk : Nat) : Int))), .val (ptr bz (0 + (gk) * 1)), .val (.int .i64 (g (gk)))] hmix rfl hF rfl hM ⟨fun a w gG hF hS hd => by exact par_val hS rfl (g_move hF rfl), fun a w gG hF hS hd => by exact par_val hS rfl (g_move hF rfl), fun a w gG hF hS hd => by have hF := hF.ext1 17 (hd 0 rfl rfl); have hF := hF.ext1 18 (hd 1 rfl rfl); exact par_val hS rfl (g_indexSl (i := gk) ty_sl_45 hF rfl rfl rfl (by omega)), fun a w gG hF hS hd => by have hF := hF.ext1 19 (hd 2 rfl rfl); have hM := hS.mem rfl; exact par_val hS rfl (g_load ty_on_2 hF rfl (hM.fz 0 rfl) (numI_get (k := gk) (by omega) (by omega))), fun a w gG hF hS hd => by exact par_val hS rfl (g_move hF rfl), fun a w gG hF hS hd => by exact par_val hS rfl (g_move hF rfl), fun a w gG hF hS hd => by have hF := hF.ext1 21 (hd 4 rfl rfl); have hF := hF.ext1 22 (hd 5 rfl rfl); exact par_val hS rfl (g_indexSl (i := gk) ty_sl_45 hF rfl rfl rfl (by omega)), fun a w gG hF hS hd => by have hF := hF.ext1 23 (hd 6 rfl rfl); have hM := hS.mem rfl; exact par_val hS rfl (g_load ty_on_2 hF rfl (hM.fz 1 rfl) (numI_get (k := gk) (by omega) (by omega))), trivial⟩ ?_
        intro a w' L hF hS hq
        have hF := hF.ext1 17 (hq 0 rfl rfl)
        have hF := hF.ext1 18 (hq 1 rfl rfl)
        have hF := hF.ext1 19 (hq 2 rfl rfl)
        have hF := hF.ext1 20 (hq 3 rfl rfl)
        have hF := hF.ext1 21 (hq 4 rfl rfl)
        have hF := hF.ext1 22 (hq 5 rfl rfl)
        have hF := hF.ext1 23 (hq 6 rfl rfl)
        have hF := hF.ext1 24 (hq 7 rfl rfl)
        have hM := hS.mem rfl
        change wpList Try.prog _ _ [_] _ _
        refine st hF (g_neq hF rfl rfl) rfl fun a hF => ?_
        refine wpList_nil ?_
        refine tN ?_
        refine c_cond hF rfl (fun h3 => ?_) (fun h3 => ?_)
        ·
          first | exact absurd rfl h3 | (exfalso; omega)
        ·
          refine wp_skip ?_
          refine iN ?_
          refine tN ?_
          refine wp_region_lit ?_
          refine st hF (g_move hF rfl) rfl fun a hF => st hF (g_add hF rfl rfl (add_nat (gk) (1) (by omega))) rfl fun a hF => st hF (g_assign hF rfl) rfl fun a hF => ?_
          refine wpList_nil ?_
          refine tN ?_
          refine ⟨gk + 1, ⟨by omega, trivial, hF.sub _ (by repeat' constructor), ?_⟩, by omega⟩
          exact hM
      ·
        obtain rfl : m = gk := by omega
        refine wp_exit ?_
        refine tX ?_
        refine tX ?_
        refine ib_same ?_
        refine tN ?_
        refine sq ?_
        refine wp_region_lit ?_
        refine st hF (g_assign hF rfl) rfl fun a hF => ?_
        refine wpList_nil ?_
        refine tN ?_
        refine wp_ret ?_
        refine fin1 rfl hF.defers (res_tmp hF rfl) ⟨_, rfl, hM.below, ?_⟩
        show _ = _
        rfl

theorem eqInt64S_0  (w : World)  :
    CallsR Try.prog 57 #[.slice none 0 0, .slice none 0 0] w (fun res _ => res = .bool true) := by
  refine calls_fr [.slice none 0 0, .slice none 0 0] Try.func57 rfl Try.ntmps57 rfl fun a hF => ?_
  have hM : Mem w w [] [] := MemX.start w 0
  change Fr 26 a [(0, .slice none 0 0), (1, .slice none 0 0)] at hF
  refine sq ?_
  refine wp_region_lit ?_
  refine st hF (g_assign hF rfl) rfl fun a hF => ?_
  refine wpList_nil ?_
  refine tN ?_
  refine sq ?_
  refine sq ?_
  refine wp_region_lit ?_
  refine st hF (g_move hF rfl) rfl fun a hF => st hF (g_len0 ty_us_45 hF rfl) rfl fun a hF => st hF (g_move hF rfl) rfl fun a hF => st hF (g_len0 ty_us_45 hF rfl) rfl fun a hF => st hF (g_neq hF rfl rfl) rfl fun a hF => ?_
  refine wpList_nil ?_
  refine tN ?_
  refine c_kF hF rfl (by decide) ?_
  refine wp_skip ?_
  refine tN ?_
  refine sq ?_
  refine sq ?_
  refine wp_region_lit ?_
  refine st hF (g_assign hF rfl) rfl fun a hF => ?_
  refine wpList_nil ?_
  refine tN ?_
  refine wp_block ?_
  change Mem w _ [] [] at hM
  refine c_loop (fun (kk : Nat) a w' => kk ≤ 0 ∧ (True) ∧ Fr 26 a [(0, .slice none 0 0), (1, .slice none 0 0), (6, .slice none 0 0), (7, .int .i64 (0)), (8, .slice none 0 0), (9, .int .i64 (0)), (10, .bool (decide ((0 : Int) ≠ 0))), (5, .int .i64 (((kk : Nat) : Int)))] ∧ Mem w w' [] []) (fun kk => 0 - kk) 0 ?_ ?_
  ·
    refine ⟨by omega, trivial, hF.sub _ (by repeat' constructor), ?_⟩
    exact hM
  ·
    clear hF hM
    rintro gk a w' ⟨hgk, hinv1, hF, hM⟩
    refine sq ?_
    refine sq ?_
    refine wp_region_lit ?_
    refine st hF (g_move hF rfl) rfl fun a hF => st hF (g_move hF rfl) rfl fun a hF => st hF (g_len0 ty_us_45 hF rfl) rfl fun a hF => st hF (g_lss hF rfl rfl) rfl fun a hF => ?_
    refine wpList_nil ?_
    refine tN ?_
    refine c_cond hF rfl (fun h2 => ?_) (fun h2 => ?_)
    ·
      first | (exfalso; omega) | contradiction
    ·
      obtain rfl : 0 = gk := by omega
      refine wp_exit ?_
      refine tX ?_
      refine tX ?_
      refine ib_same ?_
      refine tN ?_
      refine sq ?_
      refine wp_region_lit ?_
      refine st hF (g_assign hF rfl) rfl fun a hF => ?_
      refine wpList_nil ?_
      refine tN ?_
      refine wp_ret ?_
      refine fin1 rfl hF.defers (res_tmp hF rfl) ⟨_, rfl, hM.below, ?_⟩
      show _ = _
      rfl

theorem eqTensor_ok (p n i o : Int) (b bz m : Nat) (f g : Nat → Int) (w : World) (hb : Blk w b (numI m f)) (hbz : Blk w bz (numI m g)) (hm : m < 10000000) (he : ∀ c, c < m → f c = g c) :
    CallsR Try.prog 24 #[.agg (tenC p n i o (.slice (some ⟨b, 0, none⟩) m m)), .agg (tenC p n i o (.slice (some ⟨bz, 0, none⟩) m m))] w (fun res _ => res = .bool true) := by
  refine calls_fr [.agg (tenC p n i o (.slice (some ⟨b, 0, none⟩) m m)), .agg (tenC p n i o (.slice (some ⟨bz, 0, none⟩) m m))] Try.func24 rfl Try.ntmps24 rfl fun a hF => ?_
  have hM : Mem w w [none, none] [(b, numI m f), (bz, numI m g)] := MemX.startD w 2 _ (startD2 hb hbz)
  change Fr 31 a [(0, .agg (tenC p n i o (.slice (some ⟨b, 0, none⟩) m m))), (1, .agg (tenC p n i o (.slice (some ⟨bz, 0, none⟩) m m)))] at hF
  refine sq ?_
  refine wp_region_lit ?_
  refine stR hF (d_box 0 hM hF rfl) rfl ?_
  rintro _ w' a ⟨b1, rfl, hM, -⟩ hF
  change Mem w w' [some (b1, tenC p n i o (.slice (some ⟨b, 0, none⟩) m m)), none] [(b, numI m f), (bz, numI m g)] at hM
  refine stR hF (d_box 1 hM hF rfl) rfl ?_
  rintro _ w' a ⟨b2, rfl, hM, -⟩ hF
  change Mem w w' [some (b1, tenC p n i o (.slice (some ⟨b, 0, none⟩) m m)), some (b2, tenC p n i o (.slice (some ⟨bz, 0, none⟩) m m))] [(b, numI m f), (bz, numI m g)] at hM
  refine st hF (g_assign hF rfl) rfl fun a hF => ?_
  refine wpList_nil ?_
  refine tN ?_
  refine sq ?_
  refine sq ?_
  refine wp_region_lit ?_
  refine st hF (g_fieldAddr ty_fo_47_0 hF rfl) rfl fun a hF => st hF (g_load ty_on_2 hF rfl (hM.row 0 rfl) (tenC_0 (by omega))) rfl fun a hF => st hF (g_fieldAddr ty_fo_47_0 hF rfl) rfl fun a hF => st hF (g_load ty_on_2 hF rfl (hM.row 1 rfl) (tenC_0 (by omega))) rfl fun a hF => st hF (g_neq hF rfl rfl) rfl fun a hF => ?_
  refine wpList_nil ?_
  refine tN ?_
  refine c_cond hF rfl (fun h3 => ?_) (fun h3 => ?_)
  ·
    first | exact absurd rfl h3 | (exfalso; omega)
  ·
    refine wp_skip ?_
    refine tN ?_
    refine sq ?_
    refine sq ?_
    refine wp_region_lit ?_
    refine st hF (g_fieldAddr ty_fo_47_1 hF rfl) rfl fun a hF => st hF (g_load ty_on_2 hF rfl (hM.row 0 rfl) (tenC_1 (by omega))) rfl fun a hF => st hF (g_fieldAddr ty_fo_47_1 hF rfl) rfl fun a hF => st hF (g_load ty_on_2 hF rfl (hM.row 1 rfl) (tenC_1 (by omega))) rfl fun a hF => st hF (g_neq hF rfl rfl) rfl fun a hF => ?_
    refine wpList_nil ?_
    refine tN ?_
    refine c_cond hF rfl (fun h4 => ?_) (fun h4 => ?_)
    ·
      first | exact absurd rfl h4 | (exfalso; omega)
    ·
      refine wp_skip ?_
      refine tN ?_
      refine sq ?_
      refine sq ?_
      refine wp_region_lit ?_
      refine st hF (g_fieldAddr ty_fo_47_2 hF rfl) rfl fun a hF => st hF (g_load ty_on_2 hF rfl (hM.row 0 rfl) (tenC_2 (by omega))) rfl fun a hF => st hF (g_fieldAddr ty_fo_47_2 hF rfl) rfl fun a hF => st hF (g_load ty_on_2 hF rfl (hM.row 1 rfl) (tenC_2 (by omega))) rfl fun a hF => st hF (g_neq hF rfl rfl) rfl fun a hF => ?_
      refine wpList_nil ?_
      refine tN ?_
      refine c_cond hF rfl (fun h5 => ?_) (fun h5 => ?_)
      ·
        first | exact absurd rfl h5 | (exfalso; omega)
      ·
        refine wp_skip ?_
        refine tN ?_
        refine sq ?_
        refine sq ?_
        refine wp_region_lit ?_
        refine st hF (g_fieldAddr ty_fo_47_3 hF rfl) rfl fun a hF => st hF (g_load ty_on_2 hF rfl (hM.row 0 rfl) (tenC_3 (by omega))) rfl fun a hF => st hF (g_fieldAddr ty_fo_47_3 hF rfl) rfl fun a hF => st hF (g_load ty_on_2 hF rfl (hM.row 1 rfl) (tenC_3 (by omega))) rfl fun a hF => st hF (g_neq hF rfl rfl) rfl fun a hF => ?_
        refine wpList_nil ?_
        refine tN ?_
        refine c_cond hF rfl (fun h6 => ?_) (fun h6 => ?_)
        ·
          first | exact absurd rfl h6 | (exfalso; omega)
        ·
          refine wp_skip ?_
          refine tN ?_
          refine sq ?_
          refine sq ?_
          refine wp_region_lit ?_
          refine st hF (g_fieldAddr ty_fo_47_4 hF rfl) rfl fun a hF => st hF (g_load ty_on_45 hF rfl (hM.row 0 rfl) (tenC_4 (by omega))) rfl fun a hF => st hF (g_fieldAddr ty_fo_47_4 hF rfl) rfl fun a hF => st hF (g_load ty_on_45 hF rfl (hM.row 1 rfl) (tenC_4 (by omega))) rfl fun a hF => ?_
          refine stR hF (d_call Try.call57 hF (.cons rfl (.cons rfl .nil)) (eqInt64S_ok b bz m f g _ (hM.fz 0 rfl) (hM.fz 1 rfl) hm he)) rfl ?_
          rintro _ w' a ⟨hx, rfl⟩ hF
          have hM := hM.ext hx
          refine st hF (g_not hF rfl) rfl fun a hF => ?_
          refine wpList_nil ?_
          refine tN ?_
          refine c_Fl hF rfl ?_
          refine wp_skip ?_
          refine tN ?_
          refine sq ?_
          refine wp_region_lit ?_
          refine st hF (g_assign hF rfl) rfl fun a hF => ?_
          refine wpList_nil ?_
          refine tN ?_
          refine wp_ret ?_
          refine fin1 rfl hF.defers (res_tmp hF rfl) ⟨_, rfl, hM.below, ?_⟩
          show _ = _
          rfl

theorem eqTensor_0  (w : World)  :
    CallsR Try.prog 24 #[.agg (tenC 0 0 0 0 (.slice none 0 0)), .agg (tenC 0 0 0 0 (.slice none 0 0))] w (fun res _ => res = .bool true) := by
  refine calls_fr [.agg (tenC 0 0 0 0 (.slice none 0 0)), .agg (tenC 0 0 0 0 (.slice none 0 0))] Try.func24 rfl Try.ntmps24 rfl fun a hF => ?_
  have hM : Mem w w [none, none] [] := MemX.start w 2
  change Fr 31 a [(0, .agg (tenC 0 0 0 0 (.slice none 0 0))), (1, .agg (tenC 0 0 0 0 (.slice none 0 0)))] at hF
  refine sq ?_
  refine wp_region_lit ?_
  refine stR hF (d_box 0 hM hF rfl) rfl ?_
  rintro _ w' a ⟨b1, rfl, hM, -⟩ hF
  change Mem w w' [some (b1, tenC 0 0 0 0 (.slice none 0 0)), none] [] at hM
  refine stR hF (d_box 1 hM hF rfl) rfl ?_
  rintro _ w' a ⟨b2, rfl, hM, -⟩ hF
  change Mem w w' [some (b1, tenC 0 0 0 0 (.slice none 0 0)), some (b2, tenC 0 0 0 0 (.slice none 0 0))] [] at hM
  refine st hF (g_assign hF rfl) rfl fun a hF => ?_
  refine wpList_nil ?_
  refine tN ?_
  refine sq ?_
  refine sq ?_
  refine wp_region_lit ?_
  refine st hF (g_fieldAddr ty_fo_47_0 hF rfl) rfl fun a hF => st hF (g_load ty_on_2 hF rfl (hM.row 0 rfl) (tenC_0 (by omega))) rfl fun a hF => st hF (g_fieldAddr ty_fo_47_0 hF rfl) rfl fun a hF => st hF (g_load ty_on_2 hF rfl (hM.row 1 rfl) (tenC_0 (by omega))) rfl fun a hF => st hF (g_neq hF rfl rfl) rfl fun a hF => ?_
  refine wpList_nil ?_
  refine tN ?_
  refine c_kF hF rfl (by decide) ?_
  refine wp_skip ?_
  refine tN ?_
  refine sq ?_
  refine sq ?_
  refine wp_region_lit ?_
  refine st hF (g_fieldAddr ty_fo_47_1 hF rfl) rfl fun a hF => st hF (g_load ty_on_2 hF rfl (hM.row 0 rfl) (tenC_1 (by omega))) rfl fun a hF => st hF (g_fieldAddr ty_fo_47_1 hF rfl) rfl fun a hF => st hF (g_load ty_on_2 hF rfl (hM.row 1 rfl) (tenC_1 (by omega))) rfl fun a hF => st hF (g_neq hF rfl rfl) rfl fun a hF => ?_
  refine wpList_nil ?_
  refine tN ?_
  refine c_kF hF rfl (by decide) ?_
  refine wp_skip ?_
  refine tN ?_
  refine sq ?_
  refine sq ?_
  refine wp_region_lit ?_
  refine st hF (g_fieldAddr ty_fo_47_2 hF rfl) rfl fun a hF => st hF (g_load ty_on_2 hF rfl (hM.row 0 rfl) (tenC_2 (by omega))) rfl fun a hF => st hF (g_fieldAddr ty_fo_47_2 hF rfl) rfl fun a hF => st hF (g_load ty_on_2 hF rfl (hM.row 1 rfl) (tenC_2 (by omega))) rfl fun a hF => st hF (g_neq hF rfl rfl) rfl fun a hF => ?_
  refine wpList_nil ?_
  refine tN ?_
  refine c_kF hF rfl (by decide) ?_
  refine wp_skip ?_
  refine tN ?_
  refine sq ?_
  refine sq ?_
  refine wp_region_lit ?_
  refine st hF (g_fieldAddr ty_fo_47_3 hF rfl) rfl fun a hF => st hF (g_load ty_on_2 hF rfl (hM.row 0 rfl) (tenC_3 (by omega))) rfl fun a hF => st hF (g_fieldAddr ty_fo_47_3 hF rfl) rfl fun a hF => st hF (g_load ty_on_2 hF rfl (hM.row 1 rfl) (tenC_3 (by omega))) rfl fun a hF => st hF (g_neq hF rfl rfl) rfl fun a hF => ?_
  refine wpList_nil ?_
  refine tN ?_
  refine c_kF hF rfl (by decide) ?_
  refine wp_skip ?_
  refine tN ?_
  refine sq ?_
  refine sq ?_
  refine wp_region_lit ?_
  refine st hF (g_fieldAddr ty_fo_47_4 hF rfl) rfl fun a hF => st hF (g_load ty_on_45 hF rfl (hM.row 0 rfl) (tenC_4 (by omega))) rfl fun a hF => st hF (g_fieldAddr ty_fo_47_4 hF rfl) rfl fun a hF => st hF (g_load ty_on_45 hF rfl (hM.row 1 rfl) (tenC_4 (by omega))) rfl fun a hF => ?_
  refine stR hF (d_call Try.call57 hF (.cons rfl (.cons rfl .nil)) (eqInt64S_0 _)) rfl ?_
  rintro _ w' a ⟨hx, rfl⟩ hF
  have hM := hM.ext hx
  refine st hF (g_not hF rfl) rfl fun a hF => ?_
  refine wpList_nil ?_
  refine tN ?_
  refine c_Fl hF rfl ?_
  refine wp_skip ?_
  refine tN ?_
  refine sq ?_
  refine wp_region_lit ?_
  refine st hF (g_assign hF rfl) rfl fun a hF => ?_
  refine wpList_nil ?_
  refine tN ?_
  refine wp_ret ?_
  refine fin1 rfl hF.defers (res_tmp hF rfl) ⟨_, rfl, hM.below, ?_⟩
  show _ = _
  rfl

theorem markInt64S_ok (b m k : Nat) (f : Nat → Int) (w : World) (hm : m < 10000000) (hk : k < 100000000) (hb : Blk w b (numI m f)) :
    CallsX Try.prog [b] 58 #[.slice (some ⟨b, 0, none⟩) (m) (m), .int .i64 (((k : Nat) : Int))] w (fun v w' => v = .int .i64 ((k + m : Nat) : Int) ∧ Blk w' b (numC m (fun c => k + c))) := by
  refine calls_frX [.slice (some ⟨b, 0, none⟩) (m) (m), .int .i64 (((k : Nat) : Int))] Try.func58 rfl Try.ntmps58 rfl fun a hF => ?_
  have hM : MemX [b] w w [some (b, numI m f)] [] := MemX.startX1 0 hb
  change Fr 19 a [(0, .slice (some ⟨b, 0, none⟩) (m) (m)), (1, .int .i64 (((k : Nat) : Int)))] at hF
  refine sq ?_
  refine wp_region_lit ?_
  refine st hF (g_assign hF rfl) rfl fun a hF => ?_
  refine wpList_nil ?_
  refine tN ?_
  refine sq ?_
  refine sq ?_
  refine wp_region_lit ?_
  refine st hF (g_assign hF rfl) rfl fun a hF => ?_
  refine wpList_nil ?_
  refine tN ?_
  refine wp_block ?_
  change MemX [b] w _ [some (b, numI m f)] [] at hM
  refine c_loop (fun (kk : Nat) a w' => kk ≤ m ∧ (True) ∧ Fr 19 a [(0, .slice (some ⟨b, 0, none⟩) (m) (m)), (4, .int .i64 (0)), (5, .int .i64 (((kk : Nat) : Int))), (1, .int .i64 (((k + kk : Nat) : Int)))] ∧ MemX [b] w w' [some (b, numI m (fun c => if c < kk then ((k + c : Nat) : Int) else f c))] []) (fun kk => m - kk) 0 ?_ ?_
  ·
    refine ⟨by omega, trivial, hF.sub _ (by repeat' constructor), ?_⟩
    exact hM.rowc 0 rfl (numI_congr fun c hc => by simp)
  ·
    clear hF hM
    rintro gk a w' ⟨hgk, hinv1, hF, hM⟩
    refine sq ?_
    refine sq ?_
    refine wp_region_lit ?_
    refine st hF (g_move hF rfl) rfl fun a hF => st hF (g_move hF rfl) rfl fun a hF => st hF (g_len ty_us_45 hF rfl) rfl fun a hF => st hF (g_lss hF rfl rfl) rfl fun a hF => ?_
    refine wpList_nil ?_
    refine tN ?_
    refine c_cond hF rfl (fun h1 => ?_) (fun h1 => ?_)
    ·
      refine wp_skip ?_
      refine tN ?_
      refine sq ?_
      refine wp_block ?_
      refine sq ?_
      refine wp_region_lit ?_
      refine st hF (g_move hF rfl) rfl fun a hF => st hF (g_move hF rfl) rfl fun a hF => st hF (g_move hF rfl) rfl fun a hF => st hF (g_indexSl (i := gk) ty_sl_45 hF rfl rfl rfl (by omega)) rfl fun a hF => ?_
      refine stN hF (d_store 0 hM rfl ty_on_2 hF rfl rfl rfl (by first | omega | (simp only [fnC_size, cells_size, vecC_size, tabC_size, planeC_size, mrk_size, rowI_size, cpC_size, tenC_size, smC_size, numC_size, numI_size] <;> omega))) ?_
      intro _ w' a hM hF
      rw [show (numI m (fun c => if c < gk then ((k + c : Nat) : Int) else f c)).setIfInBounds (0 + (gk) * 1) (.int .i64 (((k + gk : Nat) : Int))) = numI m (fun c => if c = (gk) then (((k + gk : Nat) : Int) : Int) else (fun c => if c < gk then ((k + c : Nat) : Int) else f c) c) from numI_set (k := (gk)) (by omega) (fun c _ => rfl)] at hM
      change MemX [b] w w' [some (b, numI m (fun c => if c = (gk) then (((k + gk : Nat) : Int) : Int) else (fun c => if c < gk then ((k + c : Nat) : Int) else f c) c))] [] at hM
      refine wpList_nil ?_
      refine tN ?_
      refine wp_region_lit ?_
      refine st hF (g_move hF rfl) rfl fun a hF => st hF (g_add hF rfl rfl (add_nat (k + gk) (1) (by omega))) rfl fun a hF => st hF (g_assign hF rfl) rfl fun a hF => ?_
      refine wpList_nil ?_
      refine iN ?_
      refine tN ?_
      refine wp_region_lit ?_
      refine st hF (g_move hF rfl) rfl fun a hF => st hF (g_add hF rfl rfl (add_nat (gk) (1) (by omega))) rfl fun a hF => st hF (g_assign hF rfl) rfl fun a hF => ?_
      refine wpList_nil ?_
      refine tN ?_
      refine ⟨gk + 1, ⟨by omega, trivial, hF.sub _ (by repeat' constructor), ?_⟩, by omega⟩
      refine hM.rowc 0 rfl (numI_congr fun c hc => ?_)
      by_cases e1 : c = gk
      · subst e1; simp
      · have e0 : (c < gk + 1) = (c < gk) := by apply propext; omega
        simp [e0, e1]
    ·
      obtain rfl : m = gk := by omega
      refine wp_exit ?_
      refine tX ?_
      refine tX ?_
      refine ib_same ?_
      refine tN ?_
      refine sq ?_
      refine wp_region_lit ?_
      refine st hF (g_move hF rfl) rfl fun a hF => st hF (g_assign hF rfl) rfl fun a hF => ?_
      refine wpList_nil ?_
      refine tN ?_
      refine wp_ret ?_
      refine fin1 rfl hF.defers (res_tmp hF rfl) ⟨_, rfl, hM.bel, ?_⟩
      exact ⟨rfl, (hM.rowc (cs' := numI m (fun c => ((k + c : Nat) : Int))) 0 rfl (numI_congr fun c hc => by simp [hc])).row 0 rfl⟩

theorem markInt64S_0 (k : Nat) (w : World) (hk : k < 10000000) :
    CallsR Try.prog 58 #[.slice none 0 0, .int .i64 (((k : Nat) : Int))] w (fun res _ => res = .int .i64 ((k : Nat) : Int)) := by
  refine calls_fr [.slice none 0 0, .int .i64 (((k : Nat) : Int))] Try.func58 rfl Try.ntmps58 rfl fun a hF => ?_
  have hM : Mem w w [] [] := MemX.start w 0
  change Fr 19 a [(0, .slice none 0 0), (1, .int .i64 (((k : Nat) : Int)))] at hF
  refine sq ?_
  refine wp_region_lit ?_
  refine st hF (g_assign hF rfl) rfl fun a hF => ?_
  refine wpList_nil ?_
  refine tN ?_
  refine sq ?_
  refine sq ?_
  refine wp_region_lit ?_
  refine st hF (g_assign hF rfl) rfl fun a hF => ?_
  refine wpList_nil ?_
  refine tN ?_
  refine wp_block ?_
  change Mem w _ [] [] at hM
  refine c_loop (fun (kk : Nat) a w' => kk ≤ 0 ∧ (True) ∧ Fr 19 a [(0, .slice none 0 0), (4, .int .i64 (0)), (5, .int .i64 (((kk : Nat) : Int))), (1, .int .i64 (((k + kk : Nat) : Int)))] ∧ Mem w w' [] []) (fun kk => 0 - kk) 0 ?_ ?_
  ·
    refine ⟨by omega, trivial, hF.sub _ (by repeat' constructor), ?_⟩
    exact hM
  ·
    clear hF hM
    rintro gk a w' ⟨hgk, hinv1, hF, hM⟩
    refine sq ?_
    refine sq ?_
    refine wp_region_lit ?_
    refine st hF (g_move hF rfl) rfl fun a hF => st hF (g_move hF rfl) rfl fun a hF => st hF (g_len0 ty_us_45 hF rfl) rfl fun a hF => st hF (g_lss hF rfl rfl) rfl fun a hF => ?_
    refine wpList_nil ?_
    refine tN ?_
    refine c_cond hF rfl (fun h1 => ?_) (fun h1 => ?_)
    ·
      exfalso; omega
    ·
      obtain rfl : 0 = gk := by omega
      refine wp_exit ?_
      refine tX ?_
      refine tX ?_
      refine ib_same ?_
      refine tN ?_
      refine sq ?_
      refine wp_region_lit ?_
      refine st hF (g_move hF rfl) rfl fun a hF => st hF (g_assign hF rfl) rfl fun a hF => ?_
      refine wpList_nil ?_
      refine tN ?_
      refine wp_ret ?_
      refine fin1 rfl hF.defers (res_tmp hF rfl) ⟨_, rfl, hM.below, ?_⟩
      show _ = _
      rfl

theorem markTensor_ok (p n i o : Int) (b m k : Nat) (f : Nat → Int) (w : World) (hm : m < 10000000) (hk : k < 100000000) (hb : Blk w b (numI m f)) :
    CallsX Try.prog [b] 25 #[.agg (tenC p n i o (.slice (some ⟨b, 0, none⟩) m m)), .int .i64 (((k : Nat) : Int))] w (fun v w' => v = .int .i64 ((k + m : Nat) : Int) ∧ Blk w' b (numC m (fun c => k + c))) := by
  refine calls_frX [.agg (tenC p n i o (.slice (some ⟨b, 0, none⟩) m m)), .int .i64 (((k : Nat) : Int))] Try.func25 rfl Try.ntmps25 rfl fun a hF => ?_
  have hM : MemX [b] w w [some (b, numI m f), none] [] := MemX.startX1 1 hb
  change Fr 10 a [(0, .agg (tenC p n i o (.slice (some ⟨b, 0, none⟩) m m))), (1, .int .i64 (((k : Nat) : Int)))] at hF
  refine sq ?_
  refine wp_region_lit ?_
  refine stR hF (d_box 1 hM hF rfl) rfl ?_
  rintro _ w' a ⟨b1, rfl, hM, -⟩ hF
  change MemX [b] w w' [some (b, numI m f), some (b1, tenC p n i o (.slice (some ⟨b, 0, none⟩) m m))] [] at hM
  refine st hF (g_assign hF rfl) rfl fun a hF => ?_
  refine wpList_nil ?_
  refine tN ?_
  refine sq ?_
  refine wp_region_lit ?_
  refine st hF (g_fieldAddr ty_fo_47_4 hF rfl) rfl fun a hF => st hF (g_load ty_on_45 hF rfl (hM.row 1 rfl) (tenC_4 (by omega))) rfl fun a hF => st hF (g_move hF rfl) rfl fun a hF => ?_
  refine stR hF (d_callX Try.call58 hF (.cons rfl (.cons rfl .nil)) (markInt64S_ok b m k f _ hm hk (hM.row 0 rfl))) rfl ?_
  rintro _ w' a ⟨hx, rfl, hbk⟩ hF
  have hM := hM.upd 0 rfl hx hbk
  change MemX [b] w w' [some (b, numC m (fun c => k + c)), some (b1, tenC p n i o (.slice (some ⟨b, 0, none⟩) m m))] [] at hM
  refine st hF (g_assign hF rfl) rfl fun a hF => ?_
  refine wpList_nil ?_
  refine tN ?_
  refine sq ?_
  refine wp_region_lit ?_
  refine st hF (g_move hF rfl) rfl fun a hF => st hF (g_assign hF rfl) rfl fun a hF => ?_
  refine wpList_nil ?_
  refine tN ?_
  refine wp_ret ?_
  refine fin1 rfl hF.defers (res_tmp hF rfl) ⟨_, rfl, hM.bel, ?_⟩
  exact ⟨rfl, hM.row 0 rfl⟩

theorem markTensor_0 (k : Nat) (w : World) (hk : k < 10000000) :
    CallsR Try.prog 25 #[.agg (tenC 0 0 0 0 (.slice none 0 0)), .int .i64 (((k : Nat) : Int))] w (fun res _ => res = .int .i64 ((k : Nat) : Int)) := by
  refine calls_fr [.agg (tenC 0 0 0 0 (.slice none 0 0)), .int .i64 (((k : Nat) : Int))] Try.func25 rfl Try.ntmps25 rfl fun a hF => ?_
  have hM : Mem w w [none] [] := MemX.start w 1
  change Fr 10 a [(0, .agg (tenC 0 0 0 0 (.slice none 0 0))), (1, .int .i64 (((k : Nat) : Int)))] at hF
  refine sq ?_
  refine wp_region_lit ?_
  refine stR hF (d_box 0 hM hF rfl) rfl ?_
  rintro _ w' a ⟨b1, rfl, hM, -⟩ hF
  change Mem w w' [some (b1, tenC 0 0 0 0 (.slice none 0 0))] [] at hM
  refine st hF (g_assign hF rfl) rfl fun a hF => ?_
  refine wpList_nil ?_
  refine tN ?_
  refine sq ?_
  refine wp_region_lit ?_
  refine st hF (g_fieldAddr ty_fo_47_4 hF rfl) rfl fun a hF => st hF (g_load ty_on_45 hF rfl (hM.row 0 rfl) (tenC_4 (by omega))) rfl fun a hF => st hF (g_move hF rfl) rfl fun a hF => ?_
  refine stR hF (d_call Try.call58 hF (.cons rfl (.cons rfl .nil)) (markInt64S_0 (k) _ (by omega))) rfl ?_
  rintro _ w' a ⟨hx, rfl⟩ hF
  have hM := hM.ext hx
  refine st hF (g_assign hF rfl) rfl fun a hF => ?_
  refine wpList_nil ?_
  refine tN ?_
  refine sq ?_
  refine wp_region_lit ?_
  refine st hF (g_move hF rfl) rfl fun a hF => st hF (g_assign hF rfl) rfl fun a hF => ?_
  refine wpList_nil ?_
  refine tN ?_
  refine wp_ret ?_
  refine fin1 rfl hF.defers (res_tmp hF rfl) ⟨_, rfl, hM.below, ?_⟩
  show _ = _
  rfl

theorem heldInt64S_ok (b m k : Nat) (f : Nat → Nat) (w : World) (hm : m < 10000000) (hk : k < 100000000) (hb : Blk w b (numC m f)) (he : ∀ c, c < m → f c = k + c) :
    CallsR Try.prog 59 #[.slice (some ⟨b, 0, none⟩) (m) (m), .int .i64 (((k : Nat) : Int))] w (fun res _ => res = .int .i64 ((k + m : Nat) : Int)) := by
  refine calls_fr [.slice (some ⟨b, 0, none⟩) (m) (m), .int .i64 (((k : Nat) : Int))] Try.func59 rfl Try.ntmps59 rfl fun a hF => ?_
  have hM : Mem w w [] [(b, numC m f)] := MemX.startD w 0 _ (startD1 hb)
  change Fr 21 a [(0, .slice (some ⟨b, 0, none⟩) (m) (m)), (1, .int .i64 (((k : Nat) : Int)))] at hF
  refine sq ?_
  refine wp_region_lit ?_
  refine st hF (g_assign hF rfl) rfl fun a hF => ?_
  refine wpList_nil ?_
  refine tN ?_
  refine sq ?_
  refine sq ?_
  refine wp_region_lit ?_
  refine st hF (g_assign hF rfl) rfl fun a hF => ?_
  refine wpList_nil ?_
  refine tN ?_
  refine wp_block ?_
  change Mem w _ [] [(b, numC m f)] at hM
  refine c_loop (fun (kk : Nat) a w' => kk ≤ m ∧ (True) ∧ Fr 21 a [(0, .slice (some ⟨b, 0, none⟩) (m) (m)), (5, .int .i64 (((kk : Nat) : Int))), (1, .int .i64 (((k + kk : Nat) : Int)))] ∧ Mem w w' [] [(b, numC m f)]) (fun kk => m - kk) 0 ?_ ?_
  ·
    refine ⟨by omega, trivial, hF.sub _ (by repeat' constructor), ?_⟩
    exact hM
  ·
    clear hF hM
    rintro gk a w' ⟨hgk, hinv1, hF, hM⟩
    have hek := he gk
    refine sq ?_
    refine sq ?_
    refine wp_region_lit ?_
    refine st hF (g_move hF rfl) rfl fun a hF => st hF (g_move hF rfl) rfl fun a hF => st hF (g_len ty_us_45 hF rfl) rfl fun a hF => st hF (g_lss hF rfl rfl) rfl fun a hF => ?_
    refine wpList_nil ?_
    refine tN ?_
    refine c_cond hF rfl (fun h1 => ?_) (fun h1 => ?_)
    ·
      refine wp_skip ?_
      refine tN ?_
      refine sq ?_
      refine wp_block ?_
      refine sq ?_
      refine sq ?_
      refine wp_region_lit ?_
      refine st hF (g_move hF rfl) rfl fun a hF => st hF (g_move hF rfl) rfl fun a hF => st hF (g_indexSl (i := gk) ty_sl_45 hF rfl rfl rfl (by omega)) rfl fun a hF => st hF (g_load ty_on_2 hF rfl (hM.fz 0 rfl) (numC_get (k := gk) (by omega) (by omega))) rfl fun a hF => st hF (g_move hF rfl) rfl fun a hF => st hF (g_neq hF rfl rfl) rfl fun a hF => ?_
      refine wpList_nil ?_
      refine tN ?_
      refine c_cond hF rfl (fun h2 => ?_) (fun h2 => ?_)
      ·
        exfalso; omega
      ·
        refine wp_skip ?_
        refine tN ?_
        refine wp_region_lit ?_
        refine st hF (g_move hF rfl) rfl fun a hF => st hF (g_add hF rfl rfl (add_nat (k + gk) (1) (by omega))) rfl fun a hF => st hF (g_assign hF rfl) rfl fun a hF => ?_
        refine wpList_nil ?_
        refine iN ?_
        refine tN ?_
        refine wp_region_lit ?_
        refine st hF (g_move hF rfl) rfl fun a hF => st hF (g_add hF rfl rfl (add_nat (gk) (1) (by omega))) rfl fun a hF => st hF (g_assign hF rfl) rfl fun a hF => ?_
        refine wpList_nil ?_
        refine tN ?_
        refine ⟨gk + 1, ⟨by omega, trivial, hF.sub _ (by repeat' constructor), ?_⟩, by omega⟩
        exact hM
    ·
      obtain rfl : m = gk := by omega
      refine wp_exit ?_
      refine tX ?_
      refine tX ?_
      refine ib_same ?_
      refine tN ?_
      refine sq ?_
      refine wp_region_lit ?_
      refine st hF (g_move hF rfl) rfl fun a hF => st hF (g_assign hF rfl) rfl fun a hF => ?_
      refine wpList_nil ?_
      refine tN ?_
      refine wp_ret ?_
      refine fin1 rfl hF.defers (res_tmp hF rfl) ⟨_, rfl, hM.below, ?_⟩
      show _ = _
      rfl

theorem heldInt64S_0 (k : Nat) (w : World) (hk : k < 10000000) :
    CallsR Try.prog 59 #[.slice none 0 0, .int .i64 (((k : Nat) : Int))] w (fun res _ => res = .int .i64 ((k : Nat) : Int)) := by
  refine calls_fr [.slice none 0 0, .int .i64 (((k : Nat) : Int))] Try.func59 rfl Try.ntmps59 rfl fun a hF => ?_
  have hM : Mem w w [] [] := MemX.start w 0
  change Fr 21 a [(0, .slice none 0 0), (1, .int .i64 (((k : Nat) : Int)))] at hF
  refine sq ?_
  refine wp_region_lit ?_
  refine st hF (g_assign hF rfl) rfl fun a hF => ?_
  refine wpList_nil ?_
  refine tN ?_
  refine sq ?_
  refine sq ?_
  refine wp_region_lit ?_
  refine st hF (g_assign hF rfl) rfl fun a hF => ?_
  refine wpList_nil ?_
  refine tN ?_
  refine wp_block ?_
  change Mem w _ [] [] at hM
  refine c_loop (fun (kk : Nat) a w' => kk ≤ 0 ∧ (True) ∧ Fr 21 a [(0, .slice none 0 0), (5, .int .i64 (((kk : Nat) : Int))), (1, .int .i64 (((k + kk : Nat) : Int)))] ∧ Mem w w' [] []) (fun kk => 0 - kk) 0 ?_ ?_
  ·
    refine ⟨by omega, trivial, hF.sub _ (by repeat' constructor), ?_⟩
    exact hM
  ·
    clear hF hM
    rintro gk a w' ⟨hgk, hinv1, hF, hM⟩
    refine sq ?_
    refine sq ?_
    refine wp_region_lit ?_
    refine st hF (g_move hF rfl) rfl fun a hF => st hF (g_move hF rfl) rfl fun a hF => st hF (g_len0 ty_us_45 hF rfl) rfl fun a hF => st hF (g_lss hF rfl rfl) rfl fun a hF => ?_
    refine wpList_nil ?_
    refine tN ?_
    refine c_cond hF rfl (fun h1 => ?_) (fun h1 => ?_)
    ·
      exfalso; omega
    ·
      obtain rfl : 0 = gk := by omega
      refine wp_exit ?_
      refine tX ?_
      refine tX ?_
      refine ib_same ?_
      refine tN ?_
      refine sq ?_
      refine wp_region_lit ?_
      refine st hF (g_move hF rfl) rfl fun a hF => st hF (g_assign hF rfl) rfl fun a hF => ?_
      refine wpList_nil ?_
      refine tN ?_
      refine wp_ret ?_
      refine fin1 rfl hF.defers (res_tmp hF rfl) ⟨_, rfl, hM.below, ?_⟩
      show _ = _
      rfl

theorem heldTensor_ok (p n i o : Int) (b m k : Nat) (f : Nat → Nat) (w : World) (hm : m < 10000000) (hk : k < 100000000) (hb : Blk w b (numC m f)) (he : ∀ c, c < m → f c = k + c) :
    CallsR Try.prog 26 #[.agg (tenC p n i o (.slice (some ⟨b, 0, none⟩) m m)), .int .i64 (((k : Nat) : Int))] w (fun res _ => res = .int .i64 ((k + m : Nat) : Int)) := by
  refine calls_fr [.agg (tenC p n i o (.slice (some ⟨b, 0, none⟩) m m)), .int .i64 (((k : Nat) : Int))] Try.func26 rfl Try.ntmps26 rfl fun a hF => ?_
  have hM : Mem w w [none] [(b, numC m f)] := MemX.startD w 1 _ (startD1 hb)
  change Fr 12 a [(0, .agg (tenC p n i o (.slice (some ⟨b, 0, none⟩) m m))), (1, .int .i64 (((k : Nat) : Int)))] at hF
  refine sq ?_
  refine wp_region_lit ?_
  refine stR hF (d_box 0 hM hF rfl) rfl ?_
  rintro _ w' a ⟨b1, rfl, hM, -⟩ hF
  change Mem w w' [some (b1, tenC p n i o (.slice (some ⟨b, 0, none⟩) m m))] [(b, numC m f)] at hM
  refine st hF (g_assign hF rfl) rfl fun a hF => ?_
  refine wpList_nil ?_
  refine tN ?_
  refine sq ?_
  refine wp_region_lit ?_
  refine st hF (g_fieldAddr ty_fo_47_4 hF rfl) rfl fun a hF => st hF (g_load ty_on_45 hF rfl (hM.row 0 rfl) (tenC_4 (by omega))) rfl fun a hF => st hF (g_move hF rfl) rfl fun a hF => ?_
  refine stR hF (d_call Try.call59 hF (.cons rfl (.cons rfl .nil)) (heldInt64S_ok b m k f _ hm hk (hM.fz 0 rfl) he)) rfl ?_
  rintro _ w' a ⟨hx, rfl⟩ hF
  have hM := hM.ext hx
  refine st hF (g_assign hF rfl) rfl fun a hF => ?_
  refine wpList_nil ?_
  refine tN ?_
  refine sq ?_
  refine sq ?_
  refine wp_region_lit ?_
  refine st hF (g_move hF rfl) rfl fun a hF => st hF (g_lss hF rfl rfl) rfl fun a hF => ?_
  refine wpList_nil ?_
  refine tN ?_
  refine c_cond hF rfl (fun h2 => ?_) (fun h2 => ?_)
  ·
    exfalso; omega
  ·
    refine wp_skip ?_
    refine tN ?_
    refine sq ?_
    refine wp_region_lit ?_
    refine st hF (g_move hF rfl) rfl fun a hF => st hF (g_assign hF rfl) rfl fun a hF => ?_
    refine wpList_nil ?_
    refine tN ?_
    refine wp_ret ?_
    refine fin1 rfl hF.defers (res_tmp hF rfl) ⟨_, rfl, hM.below, ?_⟩
    show _ = _
    rfl

theorem heldTensor_0 (k : Nat) (w : World) (hk : k < 10000000) :
    CallsR Try.prog 26 #[.agg (tenC 0 0 0 0 (.slice none 0 0)), .int .i64 (((k : Nat) : Int))] w (fun res _ => res = .int .i64 ((k : Nat) : Int)) := by
  refine calls_fr [.agg (tenC 0 0 0 0 (.slice none 0 0)), .int .i64 (((k : Nat) : Int))] Try.func26 rfl Try.ntmps26 rfl fun a hF => ?_
  have hM : Mem w w [none] [] := MemX.start w 1
  change Fr 12 a [(0, .agg (tenC 0 0 0 0 (.slice none 0 0))), (1, .int .i64 (((k : Nat) : Int)))] at hF
  refine sq ?_
  refine wp_region_lit ?_
  refine stR hF (d_box 0 hM hF rfl) rfl ?_
  rintro _ w' a ⟨b1, rfl, hM, -⟩ hF
  change Mem w w' [some (b1, tenC 0 0 0 0 (.slice none 0 0))] [] at hM
  refine st hF (g_assign hF rfl) rfl fun a hF => ?_
  refine wpList_nil ?_
  refine tN ?_
  refine sq ?_
  refine wp_region_lit ?_
  refine st hF (g_fieldAddr ty_fo_47_4 hF rfl) rfl fun a hF => st hF (g_load ty_on_45 hF rfl (hM.row 0 rfl) (tenC_4 (by omega))) rfl fun a hF => st hF (g_move hF rfl) rfl fun a hF => ?_
  refine stR hF (d_call Try.call59 hF (.cons rfl (.cons rfl .nil)) (heldInt64S_0 (k) _ (by omega))) rfl ?_
  rintro _ w' a ⟨hx, rfl⟩ hF
  have hM := hM.ext hx
  refine st hF (g_assign hF rfl) rfl fun a hF => ?_
  refine wpList_nil ?_
  refine tN ?_
  refine sq ?_
  refine sq ?_
  refine wp_region_lit ?_
  refine st hF (g_move hF rfl) rfl fun a hF => st hF (g_lss hF rfl rfl) rfl fun a hF => ?_
  refine wpList_nil ?_
  refine tN ?_
  refine c_cond hF rfl (fun h2 => ?_) (fun h2 => ?_)
  ·
    exfalso; omega
  ·
    refine wp_skip ?_
    refine tN ?_
    refine sq ?_
    refine wp_region_lit ?_
    refine st hF (g_move hF rfl) rfl fun a hF => st hF (g_assign hF rfl) rfl fun a hF => ?_
    refine wpList_nil ?_
    refine tN ?_
    refine wp_ret ?_
    refine fin1 rfl hF.defers (res_tmp hF rfl) ⟨_, rfl, hM.below, ?_⟩
    show _ = _
    rfl










end Go.Proofs.Ytfbhngnfhpjonaa
