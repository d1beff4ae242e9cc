/- What functions of the program return, as walks over their operations; no statement of the seat is proved here. -/
import Derived.Test.YthliekalhgafcaaT2
import Derived.Test.YthliekalhgafcaaSw28
set_option linter.unusedVariables false
set_option linter.unusedSimpArgs false
namespace Go.Proofs.Ythliekalhgafcaa
open Go Go.RowKit Go.Sw Go.Ech
open Classical
theorem ty_fo_27_0 : fieldOff Try.prog 27 0 = some 0 := by kernel_rfl
theorem ty_fo_27_2 : fieldOff Try.prog 27 2 = some 2 := by kernel_rfl
theorem ty_fo_24_4 : fieldOff Try.prog 24 4 = some 4 := by kernel_rfl
theorem ty_mk_22_0 : ∀ w, (Instr.makeSlice 22 (.int .i64 ((0 : Nat) : Int)) (.int .i64 ((0 : Nat) : Int))).run Try.prog w = .ok (.slice (some ⟨w.heap.size, 0, none⟩) 0 0) (w.alloc (.cells (fnC 0 (fun _ => .int .i64 (0))) 2)) := by intros; kernel_rfl
theorem ty_fo_24_0 : fieldOff Try.prog 24 0 = some 0 := by kernel_rfl
theorem ty_fo_24_1 : fieldOff Try.prog 24 1 = some 1 := by kernel_rfl
theorem ty_fo_24_2 : fieldOff Try.prog 24 2 = some 2 := by kernel_rfl
theorem ty_fo_24_3 : fieldOff Try.prog 24 3 = some 3 := by kernel_rfl
theorem eqInt64S_ok (b bz m : Nat) (f g : Nat → Int) (w : World) (hb : Blk w b (numI m f)) (hbz : Blk w bz (numI m g)) (hm : m < 10000000) (he : ∀ c, c < m → f c = g c) :
    CallsR Try.prog 45 #[.slice (some ⟨b, 0, none⟩) (m) (m), .slice (some ⟨bz, 0, none⟩) (m) (m)] w (fun res _ => res = .bool true) := by
  refine calls_fr [.slice (some ⟨b, 0, none⟩) (m) (m), .slice (some ⟨bz, 0, none⟩) (m) (m)] Try.func45 rfl Try.ntmps45 rfl fun a hF => ?_
  have hM : Mem w w [] [(b, numI m f), (bz, numI m g)] := MemX.startD w 0 _ (startD2 hb hbz)
  change Fr 26 a [(0, .slice (some ⟨b, 0, none⟩) (m) (m)), (1, .slice (some ⟨bz, 0, none⟩) (m) (m))] at hF
  refine sq ?_
  refine wp_region_lit ?_
  refine st hF (g_assign hF rfl) rfl fun a hF => ?_
  refine wpList_nil ?_
  refine tN ?_
  refine sq ?_
  refine sq ?_
  refine wp_region_lit ?_
  refine st hF (g_move hF rfl) rfl fun a hF => st hF (g_len ty_us_22 hF rfl) rfl fun a hF => st hF (g_move hF rfl) rfl fun a hF => st hF (g_len ty_us_22 hF rfl) rfl fun a hF => st hF (g_neq hF rfl rfl) rfl fun a hF => ?_
  refine wpList_nil ?_
  refine tN ?_
  refine c_cond hF rfl (fun h1 => ?_) (fun h1 => ?_)
  ·
    first | exact absurd rfl h1 | (exfalso; omega)
  ·
    refine wp_skip ?_
    refine tN ?_
    refine sq ?_
    refine sq ?_
    refine wp_region_lit ?_
    refine st hF (g_assign hF rfl) rfl fun a hF => ?_
    refine wpList_nil ?_
    refine tN ?_
    refine wp_block ?_
    change Mem w _ [] [(b, numI m f), (bz, numI m g)] at hM
    refine c_loop (fun (kk : Nat) a w' => kk ≤ m ∧ (True) ∧ Fr 26 a [(0, .slice (some ⟨b, 0, none⟩) (m) (m)), (1, .slice (some ⟨bz, 0, none⟩) (m) (m)), (6, .slice (some ⟨b, 0, none⟩) (m) (m)), (7, .int .i64 (((m : Nat) : Int))), (8, .slice (some ⟨bz, 0, none⟩) (m) (m)), (9, .int .i64 (((m : Nat) : Int))), (10, .bool (decide ((((m : Nat) : Int) : Int) ≠ ((m : Nat) : Int)))), (5, .int .i64 (((kk : Nat) : Int)))] ∧ Mem w w' [] [(b, numI m f), (bz, numI m g)]) (fun kk => m - kk) 0 ?_ ?_
    ·
      refine ⟨by omega, trivial, hF.sub _ (by repeat' constructor), ?_⟩
      exact hM
    ·
      clear hF hM
      rintro gk a w' ⟨hgk, hinv1, hF, hM⟩
      have hek := he gk
      refine sq ?_
      refine sq ?_
      refine wp_region_lit ?_
      refine st hF (g_move hF rfl) rfl fun a hF => st hF (g_move hF rfl) rfl fun a hF => st hF (g_len ty_us_22 hF rfl) rfl fun a hF => st hF (g_lss hF rfl rfl) rfl fun a hF => ?_
      refine wpList_nil ?_
      refine tN ?_
      refine c_cond hF rfl (fun h2 => ?_) (fun h2 => ?_)
      ·
        refine wp_skip ?_
        refine tN ?_
        refine sq ?_
        refine wp_block ?_
        refine sq ?_
        refine c_par 8 [] [.val (.slice (some ⟨b, 0, none⟩) (m) (m)), .val (.int .i64 (((gk : Nat) : Int))), .val (ptr b (0 + (gk) * 1)), .val (.int .i64 (f (gk))), .val (.slice (some ⟨bz, 0, none⟩) (m) (m)), .val (.int .i64 (((gk : Nat) : Int))), .val (ptr bz (0 + (gk) * 1)), .val (.int .i64 (g (gk)))] hmix rfl hF rfl hM ⟨fun a w gG hF hS hd => by exact par_val hS rfl (g_move hF rfl), fun a w gG hF hS hd => by exact par_val hS rfl (g_move hF rfl), fun a w gG hF hS hd => by have hF := hF.ext1 17 (hd 0 rfl rfl); have hF := hF.ext1 18 (hd 1 rfl rfl); exact par_val hS rfl (g_indexSl (i := gk) ty_sl_22 hF rfl rfl rfl (by omega)), fun a w gG hF hS hd => by have hF := hF.ext1 19 (hd 2 rfl rfl); have hM := hS.mem rfl; exact par_val hS rfl (g_load ty_on_2 hF rfl (hM.fz 0 rfl) (numI_get (k := gk) (by omega) (by omega))), fun a w gG hF hS hd => by exact par_val hS rfl (g_move hF rfl), fun a w gG hF hS hd => by exact par_val hS rfl (g_move hF rfl), fun a w gG hF hS hd => by have hF := hF.ext1 21 (hd 4 rfl rfl); have hF := hF.ext1 22 (hd 5 rfl rfl); exact par_val hS rfl (g_indexSl (i := gk) ty_sl_22 hF rfl rfl rfl (by omega)), fun a w gG hF hS hd => by have hF := hF.ext1 23 (hd 6 rfl rfl); have hM := hS.mem rfl; exact par_val hS rfl (g_load ty_on_2 hF rfl (hM.fz 1 rfl) (numI_get (k := gk) (by omega) (by omega))), trivial⟩ ?_
        intro a w' L hF hS hq
        have hF := hF.ext1 17 (hq 0 rfl rfl)
        have hF := hF.ext1 18 (hq 1 rfl rfl)
        have hF := hF.ext1 19 (hq 2 rfl rfl)
        have hF := hF.ext1 20 (hq 3 rfl rfl)
        have hF := hF.ext1 21 (hq 4 rfl rfl)
        have hF := hF.ext1 22 (hq 5 rfl rfl)
        have hF := hF.ext1 23 (hq 6 rfl rfl)
        have hF := hF.ext1 24 (hq 7 rfl rfl)
        have hM := hS.mem rfl
        change wpList Try.prog _ _ [_] _ _
        refine st hF (g_neq hF rfl rfl) rfl fun a hF => ?_
        refine wpList_nil ?_
        refine tN ?_
        refine c_cond hF rfl (fun h3 => ?_) (fun h3 => ?_)
        ·
          first | exact absurd rfl h3 | (exfalso; omega)
        ·
          refine wp_skip ?_
          refine iN ?_
          refine tN ?_
          refine wp_region_lit ?_
          refine st hF (g_move hF rfl) rfl fun a hF => st hF (g_add hF rfl rfl (add_nat (gk) (1) (by omega))) rfl fun a hF => st hF (g_assign hF rfl) rfl fun a hF => ?_
          refine wpList_nil ?_
          refine tN ?_
          refine ⟨gk + 1, ⟨by omega, trivial, hF.sub _ (by repeat' constructor), ?_⟩, by omega⟩
          exact hM
      ·
        obtain rfl : m = gk := by omega
        refine wp_exit ?_
        refine tX ?_
        refine tX ?_
        refine ib_same ?_
        refine tN ?_
        refine sq ?_
        refine wp_region_lit ?_
        refine st hF (g_assign hF rfl) rfl fun a hF => ?_
        refine wpList_nil ?_
        refine tN ?_
        refine wp_ret ?_
        refine fin1 rfl hF.defers (res_tmp hF rfl) ⟨_, rfl, hM.below, ?_⟩
        show _ = _
        rfl

theorem eqInt64S_0  (w : World)  :
    CallsR Try.prog 45 #[.slice none 0 0, .slice none 0 0] w (fun res _ => res = .bool true) := by
  refine calls_fr [.slice none 0 0, .slice none 0 0] Try.func45 rfl Try.ntmps45 rfl fun a hF => ?_
  have hM : Mem w w [] [] := MemX.start w 0
  change Fr 26 a [(0, .slice none 0 0), (1, .slice none 0 0)] at hF
  refine sq ?_
  refine wp_region_lit ?_
  refine st hF (g_assign hF rfl) rfl fun a hF => ?_
  refine wpList_nil ?_
  refine tN ?_
  refine sq ?_
  refine sq ?_
  refine wp_region_lit ?_
  refine st hF (g_move hF rfl) rfl fun a hF => st hF (g_len0 ty_us_22 hF rfl) rfl fun a hF => st hF (g_move hF rfl) rfl fun a hF => st hF (g_len0 ty_us_22 hF rfl) rfl fun a hF => st hF (g_neq hF rfl rfl) rfl fun a hF => ?_
  refine wpList_nil ?_
  refine tN ?_
  refine c_kF hF rfl (by decide) ?_
  refine wp_skip ?_
  refine tN ?_
  refine sq ?_
  refine sq ?_
  refine wp_region_lit ?_
  refine st hF (g_assign hF rfl) rfl fun a hF => ?_
  refine wpList_nil ?_
  refine tN ?_
  refine wp_block ?_
  change Mem w _ [] [] at hM
  refine c_loop (fun (kk : Nat) a w' => kk ≤ 0 ∧ (True) ∧ Fr 26 a [(0, .slice none 0 0), (1, .slice none 0 0), (6, .slice none 0 0), (7, .int .i64 (0)), (8, .slice none 0 0), (9, .int .i64 (0)), (10, .bool (decide ((0 : Int) ≠ 0))), (5, .int .i64 (((kk : Nat) : Int)))] ∧ Mem w w' [] []) (fun kk => 0 - kk) 0 ?_ ?_
  ·
    refine ⟨by omega, trivial, hF.sub _ (by repeat' constructor), ?_⟩
    exact hM
  ·
    clear hF hM
    rintro gk a w' ⟨hgk, hinv1, hF, hM⟩
    refine sq ?_
    refine sq ?_
    refine wp_region_lit ?_
    refine st hF (g_move hF rfl) rfl fun a hF => st hF (g_move hF rfl) rfl fun a hF => st hF (g_len0 ty_us_22 hF rfl) rfl fun a hF => st hF (g_lss hF rfl rfl) rfl fun a hF => ?_
    refine wpList_nil ?_
    refine tN ?_
    refine c_cond hF rfl (fun h2 => ?_) (fun h2 => ?_)
    ·
      first | (exfalso; omega) | contradiction
    ·
      obtain rfl : 0 = gk := by omega
      refine wp_exit ?_
      refine tX ?_
      refine tX ?_
      refine ib_same ?_
      refine tN ?_
      refine sq ?_
      refine wp_region_lit ?_
      refine st hF (g_assign hF rfl) rfl fun a hF => ?_
      refine wpList_nil ?_
      refine tN ?_
      refine wp_ret ?_
      refine fin1 rfl hF.defers (res_tmp hF rfl) ⟨_, rfl, hM.below, ?_⟩
      show _ = _
      rfl

theorem eqTensor_ok (p n i o : Int) (b bz m : Nat) (f g : Nat → Int) (w : World) (hb : Blk w b (numI m f)) (hbz : Blk w bz (numI m g)) (hm : m < 10000000) (he : ∀ c, c < m → f c = g c) :
    CallsR Try.prog 17 #[.agg (tenC p n i o (.slice (some ⟨b, 0, none⟩) m m)), .agg (tenC p n i o (.slice (some ⟨bz, 0, none⟩) m m))] w (fun res _ => res = .bool true) := by
  refine calls_fr [.agg (tenC p n i o (.slice (some ⟨b, 0, none⟩) m m)), .agg (tenC p n i o (.slice (some ⟨bz, 0, none⟩) m m))] Try.func17 rfl Try.ntmps17 rfl fun a hF => ?_
  have hM : Mem w w [none, none] [(b, numI m f), (bz, numI m g)] := MemX.startD w 2 _ (startD2 hb hbz)
  change Fr 31 a [(0, .agg (tenC p n i o (.slice (some ⟨b, 0, none⟩) m m))), (1, .agg (tenC p n i o (.slice (some ⟨bz, 0, none⟩) m m)))] at hF
  refine sq ?_
  refine wp_region_lit ?_
  refine stR hF (d_box 0 hM hF rfl) rfl ?_
  rintro _ w' a ⟨b1, rfl, hM, -⟩ hF
  change Mem w w' [some (b1, tenC p n i o (.slice (some ⟨b, 0, none⟩) m m)), none] [(b, numI m f), (bz, numI m g)] at hM
  refine stR hF (d_box 1 hM hF rfl) rfl ?_
  rintro _ w' a ⟨b2, rfl, hM, -⟩ hF
  change Mem w w' [some (b1, tenC p n i o (.slice (some ⟨b, 0, none⟩) m m)), some (b2, tenC p n i o (.slice (some ⟨bz, 0, none⟩) m m))] [(b, numI m f), (bz, numI m g)] at hM
  refine st hF (g_assign hF rfl) rfl fun a hF => ?_
  refine wpList_nil ?_
  refine tN ?_
  refine sq ?_
  refine sq ?_
  refine wp_region_lit ?_
  refine st hF (g_fieldAddr ty_fo_27_0 hF rfl) rfl fun a hF => st hF (g_load ty_on_2 hF rfl (hM.row 0 rfl) (tenC_0 (by omega))) rfl fun a hF => st hF (g_fieldAddr ty_fo_27_0 hF rfl) rfl fun a hF => st hF (g_load ty_on_2 hF rfl (hM.row 1 rfl) (tenC_0 (by omega))) rfl fun a hF => st hF (g_neq hF rfl rfl) rfl fun a hF => ?_
  refine wpList_nil ?_
  refine tN ?_
  refine c_cond hF rfl (fun h3 => ?_) (fun h3 => ?_)
  ·
    first | exact absurd rfl h3 | (exfalso; omega)
  ·
    refine wp_skip ?_
    refine tN ?_
    refine sq ?_
    refine sq ?_
    refine wp_region_lit ?_
    refine st hF (g_fieldAddr ty_fo_27_1 hF rfl) rfl fun a hF => st hF (g_load ty_on_2 hF rfl (hM.row 0 rfl) (tenC_1 (by omega))) rfl fun a hF => st hF (g_fieldAddr ty_fo_27_1 hF rfl) rfl fun a hF => st hF (g_load ty_on_2 hF rfl (hM.row 1 rfl) (tenC_1 (by omega))) rfl fun a hF => st hF (g_neq hF rfl rfl) rfl fun a hF => ?_
    refine wpList_nil ?_
    refine tN ?_
    refine c_cond hF rfl (fun h4 => ?_) (fun h4 => ?_)
    ·
      first | exact absurd rfl h4 | (exfalso; omega)
    ·
      refine wp_skip ?_
      refine tN ?_
      refine sq ?_
      refine sq ?_
      refine wp_region_lit ?_
      refine st hF (g_fieldAddr ty_fo_27_2 hF rfl) rfl fun a hF => st hF (g_load ty_on_2 hF rfl (hM.row 0 rfl) (tenC_2 (by omega))) rfl fun a hF => st hF (g_fieldAddr ty_fo_27_2 hF rfl) rfl fun a hF => st hF (g_load ty_on_2 hF rfl (hM.row 1 rfl) (tenC_2 (by omega))) rfl fun a hF => st hF (g_neq hF rfl rfl) rfl fun a hF => ?_
      refine wpList_nil ?_
      refine tN ?_
      refine c_cond hF rfl (fun h5 => ?_) (fun h5 => ?_)
      ·
        first | exact absurd rfl h5 | (exfalso; omega)
      ·
        refine wp_skip ?_
        refine tN ?_
        refine sq ?_
        refine sq ?_
        refine wp_region_lit ?_
        refine st hF (g_fieldAddr ty_fo_27_3 hF rfl) rfl fun a hF => st hF (g_load ty_on_2 hF rfl (hM.row 0 rfl) (tenC_3 (by omega))) rfl fun a hF => st hF (g_fieldAddr ty_fo_27_3 hF rfl) rfl fun a hF => st hF (g_load ty_on_2 hF rfl (hM.row 1 rfl) (tenC_3 (by omega))) rfl fun a hF => st hF (g_neq hF rfl rfl) rfl fun a hF => ?_
        refine wpList_nil ?_
        refine tN ?_
        refine c_cond hF rfl (fun h6 => ?_) (fun h6 => ?_)
        ·
          first | exact absurd rfl h6 | (exfalso; omega)
        ·
          refine wp_skip ?_
          refine tN ?_
          refine sq ?_
          refine sq ?_
          refine wp_region_lit ?_
          refine st hF (g_fieldAddr ty_fo_27_4 hF rfl) rfl fun a hF => st hF (g_load ty_on_22 hF rfl (hM.row 0 rfl) (tenC_4 (by omega))) rfl fun a hF => st hF (g_fieldAddr ty_fo_27_4 hF rfl) rfl fun a hF => st hF (g_load ty_on_22 hF rfl (hM.row 1 rfl) (tenC_4 (by omega))) rfl fun a hF => ?_
          refine stR hF (d_call Try.call45 hF (.cons rfl (.cons rfl .nil)) (eqInt64S_ok b bz m f g _ (hM.fz 0 rfl) (hM.fz 1 rfl) hm he)) rfl ?_
          rintro _ w' a ⟨hx, rfl⟩ hF
          have hM := hM.ext hx
          refine st hF (g_not hF rfl) rfl fun a hF => ?_
          refine wpList_nil ?_
          refine tN ?_
          refine c_Fl hF rfl ?_
          refine wp_skip ?_
          refine tN ?_
          refine sq ?_
          refine wp_region_lit ?_
          refine st hF (g_assign hF rfl) rfl fun a hF => ?_
          refine wpList_nil ?_
          refine tN ?_
          refine wp_ret ?_
          refine fin1 rfl hF.defers (res_tmp hF rfl) ⟨_, rfl, hM.below, ?_⟩
          show _ = _
          rfl

theorem eqTensor_0  (w : World)  :
    CallsR Try.prog 17 #[.agg (tenC 0 0 0 0 (.slice none 0 0)), .agg (tenC 0 0 0 0 (.slice none 0 0))] w (fun res _ => res = .bool true) := by
  refine calls_fr [.agg (tenC 0 0 0 0 (.slice none 0 0)), .agg (tenC 0 0 0 0 (.slice none 0 0))] Try.func17 rfl Try.ntmps17 rfl fun a hF => ?_
  have hM : Mem w w [none, none] [] := MemX.start w 2
  change Fr 31 a [(0, .agg (tenC 0 0 0 0 (.slice none 0 0))), (1, .agg (tenC 0 0 0 0 (.slice none 0 0)))] at hF
  refine sq ?_
  refine wp_region_lit ?_
  refine stR hF (d_box 0 hM hF rfl) rfl ?_
  rintro _ w' a ⟨b1, rfl, hM, -⟩ hF
  change Mem w w' [some (b1, tenC 0 0 0 0 (.slice none 0 0)), none] [] at hM
  refine stR hF (d_box 1 hM hF rfl) rfl ?_
  rintro _ w' a ⟨b2, rfl, hM, -⟩ hF
  change Mem w w' [some (b1, tenC 0 0 0 0 (.slice none 0 0)), some (b2, tenC 0 0 0 0 (.slice none 0 0))] [] at hM
  refine st hF (g_assign hF rfl) rfl fun a hF => ?_
  refine wpList_nil ?_
  refine tN ?_
  refine sq ?_
  refine sq ?_
  refine wp_region_lit ?_
  refine st hF (g_fieldAddr ty_fo_27_0 hF rfl) rfl fun a hF => st hF (g_load ty_on_2 hF rfl (hM.row 0 rfl) (tenC_0 (by omega))) rfl fun a hF => st hF (g_fieldAddr ty_fo_27_0 hF rfl) rfl fun a hF => st hF (g_load ty_on_2 hF rfl (hM.row 1 rfl) (tenC_0 (by omega))) rfl fun a hF => st hF (g_neq hF rfl rfl) rfl fun a hF => ?_
  refine wpList_nil ?_
  refine tN ?_
  refine c_kF hF rfl (by decide) ?_
  refine wp_skip ?_
  refine tN ?_
  refine sq ?_
  refine sq ?_
  refine wp_region_lit ?_
  refine st hF (g_fieldAddr ty_fo_27_1 hF rfl) rfl fun a hF => st hF (g_load ty_on_2 hF rfl (hM.row 0 rfl) (tenC_1 (by omega))) rfl fun a hF => st hF (g_fieldAddr ty_fo_27_1 hF rfl) rfl fun a hF => st hF (g_load ty_on_2 hF rfl (hM.row 1 rfl) (tenC_1 (by omega))) rfl fun a hF => st hF (g_neq hF rfl rfl) rfl fun a hF => ?_
  refine wpList_nil ?_
  refine tN ?_
  refine c_kF hF rfl (by decide) ?_
  refine wp_skip ?_
  refine tN ?_
  refine sq ?_
  refine sq ?_
  refine wp_region_lit ?_
  refine st hF (g_fieldAddr ty_fo_27_2 hF rfl) rfl fun a hF => st hF (g_load ty_on_2 hF rfl (hM.row 0 rfl) (tenC_2 (by omega))) rfl fun a hF => st hF (g_fieldAddr ty_fo_27_2 hF rfl) rfl fun a hF => st hF (g_load ty_on_2 hF rfl (hM.row 1 rfl) (tenC_2 (by omega))) rfl fun a hF => st hF (g_neq hF rfl rfl) rfl fun a hF => ?_
  refine wpList_nil ?_
  refine tN ?_
  refine c_kF hF rfl (by decide) ?_
  refine wp_skip ?_
  refine tN ?_
  refine sq ?_
  refine sq ?_
  refine wp_region_lit ?_
  refine st hF (g_fieldAddr ty_fo_27_3 hF rfl) rfl fun a hF => st hF (g_load ty_on_2 hF rfl (hM.row 0 rfl) (tenC_3 (by omega))) rfl fun a hF => st hF (g_fieldAddr ty_fo_27_3 hF rfl) rfl fun a hF => st hF (g_load ty_on_2 hF rfl (hM.row 1 rfl) (tenC_3 (by omega))) rfl fun a hF => st hF (g_neq hF rfl rfl) rfl fun a hF => ?_
  refine wpList_nil ?_
  refine tN ?_
  refine c_kF hF rfl (by decide) ?_
  refine wp_skip ?_
  refine tN ?_
  refine sq ?_
  refine sq ?_
  refine wp_region_lit ?_
  refine st hF (g_fieldAddr ty_fo_27_4 hF rfl) rfl fun a hF => st hF (g_load ty_on_22 hF rfl (hM.row 0 rfl) (tenC_4 (by omega))) rfl fun a hF => st hF (g_fieldAddr ty_fo_27_4 hF rfl) rfl fun a hF => st hF (g_load ty_on_22 hF rfl (hM.row 1 rfl) (tenC_4 (by omega))) rfl fun a hF => ?_
  refine stR hF (d_call Try.call45 hF (.cons rfl (.cons rfl .nil)) (eqInt64S_0 _)) rfl ?_
  rintro _ w' a ⟨hx, rfl⟩ hF
  have hM := hM.ext hx
  refine st hF (g_not hF rfl) rfl fun a hF => ?_
  refine wpList_nil ?_
  refine tN ?_
  refine c_Fl hF rfl ?_
  refine wp_skip ?_
  refine tN ?_
  refine sq ?_
  refine wp_region_lit ?_
  refine st hF (g_assign hF rfl) rfl fun a hF => ?_
  refine wpList_nil ?_
  refine tN ?_
  refine wp_ret ?_
  refine fin1 rfl hF.defers (res_tmp hF rfl) ⟨_, rfl, hM.below, ?_⟩
  show _ = _
  rfl

theorem markInt64S_ok (b m k : Nat) (f : Nat → Int) (w : World) (hm : m < 10000000) (hk : k < 100000000) (hb : Blk w b (numI m f)) :
    CallsX Try.prog [b] 51 #[.slice (some ⟨b, 0, none⟩) (m) (m), .int .i64 (((k : Nat) : Int))] w (fun v w' => v = .int .i64 ((k + m : Nat) : Int) ∧ Blk w' b (numC m (fun c => k + c))) := by
  refine calls_frX [.slice (some ⟨b, 0, none⟩) (m) (m), .int .i64 (((k : Nat) : Int))] Try.func51 rfl Try.ntmps51 rfl fun a hF => ?_
  have hM : MemX [b] w w [some (b, numI m f)] [] := MemX.startX1 0 hb
  change Fr 19 a [(0, .slice (some ⟨b, 0, none⟩) (m) (m)), (1, .int .i64 (((k : Nat) : Int)))] at hF
  refine sq ?_
  refine wp_region_lit ?_
  refine st hF (g_assign hF rfl) rfl fun a hF => ?_
  refine wpList_nil ?_
  refine tN ?_
  refine sq ?_
  refine sq ?_
  refine wp_region_lit ?_
  refine st hF (g_assign hF rfl) rfl fun a hF => ?_
  refine wpList_nil ?_
  refine tN ?_
  refine wp_block ?_
  change MemX [b] w _ [some (b, numI m f)] [] at hM
  refine c_loop (fun (kk : Nat) a w' => kk ≤ m ∧ (True) ∧ Fr 19 a [(0, .slice (some ⟨b, 0, none⟩) (m) (m)), (4, .int .i64 (0)), (5, .int .i64 (((kk : Nat) : Int))), (1, .int .i64 (((k + kk : Nat) : Int)))] ∧ MemX [b] w w' [some (b, numI m (fun c => if c < kk then ((k + c : Nat) : Int) else f c))] []) (fun kk => m - kk) 0 ?_ ?_
  ·
    refine ⟨by omega, trivial, hF.sub _ (by repeat' constructor), ?_⟩
    exact hM.rowc 0 rfl (numI_congr fun c hc => by simp)
  ·
    clear hF hM
    rintro gk a w' ⟨hgk, hinv1, hF, hM⟩
    refine sq ?_
    refine sq ?_
    refine wp_region_lit ?_
    refine st hF (g_move hF rfl) rfl fun a hF => st hF (g_move hF rfl) rfl fun a hF => st hF (g_len ty_us_22 hF rfl) rfl fun a hF => st hF (g_lss hF rfl rfl) rfl fun a hF => ?_
    refine wpList_nil ?_
    refine tN ?_
    refine c_cond hF rfl (fun h1 => ?_) (fun h1 => ?_)
    ·
      refine wp_skip ?_
      refine tN ?_
      refine sq ?_
      refine wp_block ?_
      refine sq ?_
      refine wp_region_lit ?_
      refine st hF (g_move hF rfl) rfl fun a hF => st hF (g_move hF rfl) rfl fun a hF => st hF (g_move hF rfl) rfl fun a hF => st hF (g_indexSl (i := gk) ty_sl_22 hF rfl rfl rfl (by omega)) rfl fun a hF => ?_
      refine stN hF (d_store 0 hM rfl ty_on_2 hF rfl rfl rfl (by first | omega | (simp only [fnC_size, cells_size, vecC_size, tabC_size, planeC_size, tenC_size, smC_size, numC_size, numI_size] <;> omega))) ?_
      intro _ w' a hM hF
      rw [show (numI m (fun c => if c < gk then ((k + c : Nat) : Int) else f c)).setIfInBounds (0 + (gk) * 1) (.int .i64 (((k + gk : Nat) : Int))) = numI m (fun c => if c = (gk) then (((k + gk : Nat) : Int) : Int) else (fun c => if c < gk then ((k + c : Nat) : Int) else f c) c) from numI_set (k := (gk)) (by omega) (fun c _ => rfl)] at hM
      change MemX [b] w w' [some (b, numI m (fun c => if c = (gk) then (((k + gk : Nat) : Int) : Int) else (fun c => if c < gk then ((k + c : Nat) : Int) else f c) c))] [] at hM
      refine wpList_nil ?_
      refine tN ?_
      refine wp_region_lit ?_
      refine st hF (g_move hF rfl) rfl fun a hF => st hF (g_add hF rfl rfl (add_nat (k + gk) (1) (by omega))) rfl fun a hF => st hF (g_assign hF rfl) rfl fun a hF => ?_
      refine wpList_nil ?_
      refine iN ?_
      refine tN ?_
      refine wp_region_lit ?_
      refine st hF (g_move hF rfl) rfl fun a hF => st hF (g_add hF rfl rfl (add_nat (gk) (1) (by omega))) rfl fun a hF => st hF (g_assign hF rfl) rfl fun a hF => ?_
      refine wpList_nil ?_
      refine tN ?_
      refine ⟨gk + 1, ⟨by omega, trivial, hF.sub _ (by repeat' constructor), ?_⟩, by omega⟩
      refine hM.rowc 0 rfl (numI_congr fun c hc => ?_)
      by_cases e1 : c = gk
      · subst e1; simp
      · have e0 : (c < gk + 1) = (c < gk) := by apply propext; omega
        simp [e0, e1]
    ·
      obtain rfl : m = gk := by omega
      refine wp_exit ?_
      refine tX ?_
      refine tX ?_
      refine ib_same ?_
      refine tN ?_
      refine sq ?_
      refine wp_region_lit ?_
      refine st hF (g_move hF rfl) rfl fun a hF => st hF (g_assign hF rfl) rfl fun a hF => ?_
      refine wpList_nil ?_
      refine tN ?_
      refine wp_ret ?_
      refine fin1 rfl hF.defers (res_tmp hF rfl) ⟨_, rfl, hM.bel, ?_⟩
      exact ⟨rfl, (hM.rowc (cs' := numI m (fun c => ((k + c : Nat) : Int))) 0 rfl (numI_congr fun c hc => by simp [hc])).row 0 rfl⟩

theorem markInt64S_0 (k : Nat) (w : World) (hk : k < 10000000) :
    CallsR Try.prog 51 #[.slice none 0 0, .int .i64 (((k : Nat) : Int))] w (fun res _ => res = .int .i64 ((k : Nat) : Int)) := by
  refine calls_fr [.slice none 0 0, .int .i64 (((k : Nat) : Int))] Try.func51 rfl Try.ntmps51 rfl fun a hF => ?_
  have hM : Mem w w [] [] := MemX.start w 0
  change Fr 19 a [(0, .slice none 0 0), (1, .int .i64 (((k : Nat) : Int)))] at hF
  refine sq ?_
  refine wp_region_lit ?_
  refine st hF (g_assign hF rfl) rfl fun a hF => ?_
  refine wpList_nil ?_
  refine tN ?_
  refine sq ?_
  refine sq ?_
  refine wp_region_lit ?_
  refine st hF (g_assign hF rfl) rfl fun a hF => ?_
  refine wpList_nil ?_
  refine tN ?_
  refine wp_block ?_
  change Mem w _ [] [] at hM
  refine c_loop (fun (kk : Nat) a w' => kk ≤ 0 ∧ (True) ∧ Fr 19 a [(0, .slice none 0 0), (4, .int .i64 (0)), (5, .int .i64 (((kk : Nat) : Int))), (1, .int .i64 (((k + kk : Nat) : Int)))] ∧ Mem w w' [] []) (fun kk => 0 - kk) 0 ?_ ?_
  ·
    refine ⟨by omega, trivial, hF.sub _ (by repeat' constructor), ?_⟩
    exact hM
  ·
    clear hF hM
    rintro gk a w' ⟨hgk, hinv1, hF, hM⟩
    refine sq ?_
    refine sq ?_
    refine wp_region_lit ?_
    refine st hF (g_move hF rfl) rfl fun a hF => st hF (g_move hF rfl) rfl fun a hF => st hF (g_len0 ty_us_22 hF rfl) rfl fun a hF => st hF (g_lss hF rfl rfl) rfl fun a hF => ?_
    refine wpList_nil ?_
    refine tN ?_
    refine c_cond hF rfl (fun h1 => ?_) (fun h1 => ?_)
    ·
      exfalso; omega
    ·
      obtain rfl : 0 = gk := by omega
      refine wp_exit ?_
      refine tX ?_
      refine tX ?_
      refine ib_same ?_
      refine tN ?_
      refine sq ?_
      refine wp_region_lit ?_
      refine st hF (g_move hF rfl) rfl fun a hF => st hF (g_assign hF rfl) rfl fun a hF => ?_
      refine wpList_nil ?_
      refine tN ?_
      refine wp_ret ?_
      refine fin1 rfl hF.defers (res_tmp hF rfl) ⟨_, rfl, hM.below, ?_⟩
      show _ = _
      rfl

theorem markTensor_ok (p n i o : Int) (b m k : Nat) (f : Nat → Int) (w : World) (hm : m < 10000000) (hk : k < 100000000) (hb : Blk w b (numI m f)) :
    CallsX Try.prog [b] 20 #[.agg (tenC p n i o (.slice (some ⟨b, 0, none⟩) m m)), .int .i64 (((k : Nat) : Int))] w (fun v w' => v = .int .i64 ((k + m : Nat) : Int) ∧ Blk w' b (numC m (fun c => k + c))) := by
  refine calls_frX [.agg (tenC p n i o (.slice (some ⟨b, 0, none⟩) m m)), .int .i64 (((k : Nat) : Int))] Try.func20 rfl Try.ntmps20 rfl fun a hF => ?_
  have hM : MemX [b] w w [some (b, numI m f), none] [] := MemX.startX1 1 hb
  change Fr 10 a [(0, .agg (tenC p n i o (.slice (some ⟨b, 0, none⟩) m m))), (1, .int .i64 (((k : Nat) : Int)))] at hF
  refine sq ?_
  refine wp_region_lit ?_
  refine stR hF (d_box 1 hM hF rfl) rfl ?_
  rintro _ w' a ⟨b1, rfl, hM, -⟩ hF
  change MemX [b] w w' [some (b, numI m f), some (b1, tenC p n i o (.slice (some ⟨b, 0, none⟩) m m))] [] at hM
  refine st hF (g_assign hF rfl) rfl fun a hF => ?_
  refine wpList_nil ?_
  refine tN ?_
  refine sq ?_
  refine wp_region_lit ?_
  refine st hF (g_fieldAddr ty_fo_27_4 hF rfl) rfl fun a hF => st hF (g_load ty_on_22 hF rfl (hM.row 1 rfl) (tenC_4 (by omega))) rfl fun a hF => st hF (g_move hF rfl) rfl fun a hF => ?_
  refine stR hF (d_callX Try.call51 hF (.cons rfl (.cons rfl .nil)) (markInt64S_ok b m k f _ hm hk (hM.row 0 rfl))) rfl ?_
  rintro _ w' a ⟨hx, rfl, hbk⟩ hF
  have hM := hM.upd 0 rfl hx hbk
  change MemX [b] w w' [some (b, numC m (fun c => k + c)), some (b1, tenC p n i o (.slice (some ⟨b, 0, none⟩) m m))] [] at hM
  refine st hF (g_assign hF rfl) rfl fun a hF => ?_
  refine wpList_nil ?_
  refine tN ?_
  refine sq ?_
  refine wp_region_lit ?_
  refine st hF (g_move hF rfl) rfl fun a hF => st hF (g_assign hF rfl) rfl fun a hF => ?_
  refine wpList_nil ?_
  refine tN ?_
  refine wp_ret ?_
  refine fin1 rfl hF.defers (res_tmp hF rfl) ⟨_, rfl, hM.bel, ?_⟩
  exact ⟨rfl, hM.row 0 rfl⟩

theorem markTensor_0 (k : Nat) (w : World) (hk : k < 10000000) :
    CallsR Try.prog 20 #[.agg (tenC 0 0 0 0 (.slice none 0 0)), .int .i64 (((k : Nat) : Int))] w (fun res _ => res = .int .i64 ((k : Nat) : Int)) := by
  refine calls_fr [.agg (tenC 0 0 0 0 (.slice none 0 0)), .int .i64 (((k : Nat) : Int))] Try.func20 rfl Try.ntmps20 rfl fun a hF => ?_
  have hM : Mem w w [none] [] := MemX.start w 1
  change Fr 10 a [(0, .agg (tenC 0 0 0 0 (.slice none 0 0))), (1, .int .i64 (((k : Nat) : Int)))] at hF
  refine sq ?_
  refine wp_region_lit ?_
  refine stR hF (d_box 0 hM hF rfl) rfl ?_
  rintro _ w' a ⟨b1, rfl, hM, -⟩ hF
  change Mem w w' [some (b1, tenC 0 0 0 0 (.slice none 0 0))] [] at hM
  refine st hF (g_assign hF rfl) rfl fun a hF => ?_
  refine wpList_nil ?_
  refine tN ?_
  refine sq ?_
  refine wp_region_lit ?_
  refine st hF (g_fieldAddr ty_fo_27_4 hF rfl) rfl fun a hF => st hF (g_load ty_on_22 hF rfl (hM.row 0 rfl) (tenC_4 (by omega))) rfl fun a hF => st hF (g_move hF rfl) rfl fun a hF => ?_
  refine stR hF (d_call Try.call51 hF (.cons rfl (.cons rfl .nil)) (markInt64S_0 (k) _ (by omega))) rfl ?_
  rintro _ w' a ⟨hx, rfl⟩ hF
  have hM := hM.ext hx
  refine st hF (g_assign hF rfl) rfl fun a hF => ?_
  refine wpList_nil ?_
  refine tN ?_
  refine sq ?_
  refine wp_region_lit ?_
  refine st hF (g_move hF rfl) rfl fun a hF => st hF (g_assign hF rfl) rfl fun a hF => ?_
  refine wpList_nil ?_
  refine tN ?_
  refine wp_ret ?_
  refine fin1 rfl hF.defers (res_tmp hF rfl) ⟨_, rfl, hM.below, ?_⟩
  show _ = _
  rfl

theorem heldInt64S_ok (b m k : Nat) (f : Nat → Nat) (w : World) (hm : m < 10000000) (hk : k < 100000000) (hb : Blk w b (numC m f)) (he : ∀ c, c < m → f c = k + c) :
    CallsR Try.prog 52 #[.slice (some ⟨b, 0, none⟩) (m) (m), .int .i64 (((k : Nat) : Int))] w (fun res _ => res = .int .i64 ((k + m : Nat) : Int)) := by
  refine calls_fr [.slice (some ⟨b, 0, none⟩) (m) (m), .int .i64 (((k : Nat) : Int))] Try.func52 rfl Try.ntmps52 rfl fun a hF => ?_
  have hM : Mem w w [] [(b, numC m f)] := MemX.startD w 0 _ (startD1 hb)
  change Fr 21 a [(0, .slice (some ⟨b, 0, none⟩) (m) (m)), (1, .int .i64 (((k : Nat) : Int)))] at hF
  refine sq ?_
  refine wp_region_lit ?_
  refine st hF (g_assign hF rfl) rfl fun a hF => ?_
  refine wpList_nil ?_
  refine tN ?_
  refine sq ?_
  refine sq ?_
  refine wp_region_lit ?_
  refine st hF (g_assign hF rfl) rfl fun a hF => ?_
  refine wpList_nil ?_
  refine tN ?_
  refine wp_block ?_
  change Mem w _ [] [(b, numC m f)] at hM
  refine c_loop (fun (kk : Nat) a w' => kk ≤ m ∧ (True) ∧ Fr 21 a [(0, .slice (some ⟨b, 0, none⟩) (m) (m)), (5, .int .i64 (((kk : Nat) : Int))), (1, .int .i64 (((k + kk : Nat) : Int)))] ∧ Mem w w' [] [(b, numC m f)]) (fun kk => m - kk) 0 ?_ ?_
  ·
    refine ⟨by omega, trivial, hF.sub _ (by repeat' constructor), ?_⟩
    exact hM
  ·
    clear hF hM
    rintro gk a w' ⟨hgk, hinv1, hF, hM⟩
    have hek := he gk
    refine sq ?_
    refine sq ?_
    refine wp_region_lit ?_
    refine st hF (g_move hF rfl) rfl fun a hF => st hF (g_move hF rfl) rfl fun a hF => st hF (g_len ty_us_22 hF rfl) rfl fun a hF => st hF (g_lss hF rfl rfl) rfl fun a hF => ?_
    refine wpList_nil ?_
    refine tN ?_
    refine c_cond hF rfl (fun h1 => ?_) (fun h1 => ?_)
    ·
      refine wp_skip ?_
      refine tN ?_
      refine sq ?_
      refine wp_block ?_
      refine sq ?_
      refine sq ?_
      refine wp_region_lit ?_
      refine st hF (g_move hF rfl) rfl fun a hF => st hF (g_move hF rfl) rfl fun a hF => st hF (g_indexSl (i := gk) ty_sl_22 hF rfl rfl rfl (by omega)) rfl fun a hF => st hF (g_load ty_on_2 hF rfl (hM.fz 0 rfl) (numC_get (k := gk) (by omega) (by omega))) rfl fun a hF => st hF (g_move hF rfl) rfl fun a hF => st hF (g_neq hF rfl rfl) rfl fun a hF => ?_
      refine wpList_nil ?_
      refine tN ?_
      refine c_cond hF rfl (fun h2 => ?_) (fun h2 => ?_)
      ·
        exfalso; omega
      ·
        refine wp_skip ?_
        refine tN ?_
        refine wp_region_lit ?_
        refine st hF (g_move hF rfl) rfl fun a hF => st hF (g_add hF rfl rfl (add_nat (k + gk) (1) (by omega))) rfl fun a hF => st hF (g_assign hF rfl) rfl fun a hF => ?_
        refine wpList_nil ?_
        refine iN ?_
        refine tN ?_
        refine wp_region_lit ?_
        refine st hF (g_move hF rfl) rfl fun a hF => st hF (g_add hF rfl rfl (add_nat (gk) (1) (by omega))) rfl fun a hF => st hF (g_assign hF rfl) rfl fun a hF => ?_
        refine wpList_nil ?_
        refine tN ?_
        refine ⟨gk + 1, ⟨by omega, trivial, hF.sub _ (by repeat' constructor), ?_⟩, by omega⟩
        exact hM
    ·
      obtain rfl : m = gk := by omega
      refine wp_exit ?_
      refine tX ?_
      refine tX ?_
      refine ib_same ?_
      refine tN ?_
      refine sq ?_
      refine wp_region_lit ?_
      refine st hF (g_move hF rfl) rfl fun a hF => st hF (g_assign hF rfl) rfl fun a hF => ?_
      refine wpList_nil ?_
      refine tN ?_
      refine wp_ret ?_
      refine fin1 rfl hF.defers (res_tmp hF rfl) ⟨_, rfl, hM.below, ?_⟩
      show _ = _
      rfl

theorem heldInt64S_0 (k : Nat) (w : World) (hk : k < 10000000) :
    CallsR Try.prog 52 #[.slice none 0 0, .int .i64 (((k : Nat) : Int))] w (fun res _ => res = .int .i64 ((k : Nat) : Int)) := by
  refine calls_fr [.slice none 0 0, .int .i64 (((k : Nat) : Int))] Try.func52 rfl Try.ntmps52 rfl fun a hF => ?_
  have hM : Mem w w [] [] := MemX.start w 0
  change Fr 21 a [(0, .slice none 0 0), (1, .int .i64 (((k : Nat) : Int)))] at hF
  refine sq ?_
  refine wp_region_lit ?_
  refine st hF (g_assign hF rfl) rfl fun a hF => ?_
  refine wpList_nil ?_
  refine tN ?_
  refine sq ?_
  refine sq ?_
  refine wp_region_lit ?_
  refine st hF (g_assign hF rfl) rfl fun a hF => ?_
  refine wpList_nil ?_
  refine tN ?_
  refine wp_block ?_
  change Mem w _ [] [] at hM
  refine c_loop (fun (kk : Nat) a w' => kk ≤ 0 ∧ (True) ∧ Fr 21 a [(0, .slice none 0 0), (5, .int .i64 (((kk : Nat) : Int))), (1, .int .i64 (((k + kk : Nat) : Int)))] ∧ Mem w w' [] []) (fun kk => 0 - kk) 0 ?_ ?_
  ·
    refine ⟨by omega, trivial, hF.sub _ (by repeat' constructor), ?_⟩
    exact hM
  ·
    clear hF hM
    rintro gk a w' ⟨hgk, hinv1, hF, hM⟩
    refine sq ?_
    refine sq ?_
    refine wp_region_lit ?_
    refine st hF (g_move hF rfl) rfl fun a hF => st hF (g_move hF rfl) rfl fun a hF => st hF (g_len0 ty_us_22 hF rfl) rfl fun a hF => st hF (g_lss hF rfl rfl) rfl fun a hF => ?_
    refine wpList_nil ?_
    refine tN ?_
    refine c_cond hF rfl (fun h1 => ?_) (fun h1 => ?_)
    ·
      exfalso; omega
    ·
      obtain rfl : 0 = gk := by omega
      refine wp_exit ?_
      refine tX ?_
      refine tX ?_
      refine ib_same ?_
      refine tN ?_
      refine sq ?_
      refine wp_region_lit ?_
      refine st hF (g_move hF rfl) rfl fun a hF => st hF (g_assign hF rfl) rfl fun a hF => ?_
      refine wpList_nil ?_
      refine tN ?_
      refine wp_ret ?_
      refine fin1 rfl hF.defers (res_tmp hF rfl) ⟨_, rfl, hM.below, ?_⟩
      show _ = _
      rfl

theorem heldTensor_ok (p n i o : Int) (b m k : Nat) (f : Nat → Nat) (w : World) (hm : m < 10000000) (hk : k < 100000000) (hb : Blk w b (numC m f)) (he : ∀ c, c < m → f c = k + c) :
    CallsR Try.prog 21 #[.agg (tenC p n i o (.slice (some ⟨b, 0, none⟩) m m)), .int .i64 (((k : Nat) : Int))] w (fun res _ => res = .int .i64 ((k + m : Nat) : Int)) := by
  refine calls_fr [.agg (tenC p n i o (.slice (some ⟨b, 0, none⟩) m m)), .int .i64 (((k : Nat) : Int))] Try.func21 rfl Try.ntmps21 rfl fun a hF => ?_
  have hM : Mem w w [none] [(b, numC m f)] := MemX.startD w 1 _ (startD1 hb)
  change Fr 12 a [(0, .agg (tenC p n i o (.slice (some ⟨b, 0, none⟩) m m))), (1, .int .i64 (((k : Nat) : Int)))] at hF
  refine sq ?_
  refine wp_region_lit ?_
  refine stR hF (d_box 0 hM hF rfl) rfl ?_
  rintro _ w' a ⟨b1, rfl, hM, -⟩ hF
  change Mem w w' [some (b1, tenC p n i o (.slice (some ⟨b, 0, none⟩) m m))] [(b, numC m f)] at hM
  refine st hF (g_assign hF rfl) rfl fun a hF => ?_
  refine wpList_nil ?_
  refine tN ?_
  refine sq ?_
  refine wp_region_lit ?_
  refine st hF (g_fieldAddr ty_fo_27_4 hF rfl) rfl fun a hF => st hF (g_load ty_on_22 hF rfl (hM.row 0 rfl) (tenC_4 (by omega))) rfl fun a hF => st hF (g_move hF rfl) rfl fun a hF => ?_
  refine stR hF (d_call Try.call52 hF (.cons rfl (.cons rfl .nil)) (heldInt64S_ok b m k f _ hm hk (hM.fz 0 rfl) he)) rfl ?_
  rintro _ w' a ⟨hx, rfl⟩ hF
  have hM := hM.ext hx
  refine st hF (g_assign hF rfl) rfl fun a hF => ?_
  refine wpList_nil ?_
  refine tN ?_
  refine sq ?_
  refine sq ?_
  refine wp_region_lit ?_
  refine st hF (g_move hF rfl) rfl fun a hF => st hF (g_lss hF rfl rfl) rfl fun a hF => ?_
  refine wpList_nil ?_
  refine tN ?_
  refine c_cond hF rfl (fun h2 => ?_) (fun h2 => ?_)
  ·
    exfalso; omega
  ·
    refine wp_skip ?_
    refine tN ?_
    refine sq ?_
    refine wp_region_lit ?_
    refine st hF (g_move hF rfl) rfl fun a hF => st hF (g_assign hF rfl) rfl fun a hF => ?_
    refine wpList_nil ?_
    refine tN ?_
    refine wp_ret ?_
    refine fin1 rfl hF.defers (res_tmp hF rfl) ⟨_, rfl, hM.below, ?_⟩
    show _ = _
    rfl

theorem heldTensor_0 (k : Nat) (w : World) (hk : k < 10000000) :
    CallsR Try.prog 21 #[.agg (tenC 0 0 0 0 (.slice none 0 0)), .int .i64 (((k : Nat) : Int))] w (fun res _ => res = .int .i64 ((k : Nat) : Int)) := by
  refine calls_fr [.agg (tenC 0 0 0 0 (.slice none 0 0)), .int .i64 (((k : Nat) : Int))] Try.func21 rfl Try.ntmps21 rfl fun a hF => ?_
  have hM : Mem w w [none] [] := MemX.start w 1
  change Fr 12 a [(0, .agg (tenC 0 0 0 0 (.slice none 0 0))), (1, .int .i64 (((k : Nat) : Int)))] at hF
  refine sq ?_
  refine wp_region_lit ?_
  refine stR hF (d_box 0 hM hF rfl) rfl ?_
  rintro _ w' a ⟨b1, rfl, hM, -⟩ hF
  change Mem w w' [some (b1, tenC 0 0 0 0 (.slice none 0 0))] [] at hM
  refine st hF (g_assign hF rfl) rfl fun a hF => ?_
  refine wpList_nil ?_
  refine tN ?_
  refine sq ?_
  refine wp_region_lit ?_
  refine st hF (g_fieldAddr ty_fo_27_4 hF rfl) rfl fun a hF => st hF (g_load ty_on_22 hF rfl (hM.row 0 rfl) (tenC_4 (by omega))) rfl fun a hF => st hF (g_move hF rfl) rfl fun a hF => ?_
  refine stR hF (d_call Try.call52 hF (.cons rfl (.cons rfl .nil)) (heldInt64S_0 (k) _ (by omega))) rfl ?_
  rintro _ w' a ⟨hx, rfl⟩ hF
  have hM := hM.ext hx
  refine st hF (g_assign hF rfl) rfl fun a hF => ?_
  refine wpList_nil ?_
  refine tN ?_
  refine sq ?_
  refine sq ?_
  refine wp_region_lit ?_
  refine st hF (g_move hF rfl) rfl fun a hF => st hF (g_lss hF rfl rfl) rfl fun a hF => ?_
  refine wpList_nil ?_
  refine tN ?_
  refine c_cond hF rfl (fun h2 => ?_) (fun h2 => ?_)
  ·
    exfalso; omega
  ·
    refine wp_skip ?_
    refine tN ?_
    refine sq ?_
    refine wp_region_lit ?_
    refine st hF (g_move hF rfl) rfl fun a hF => st hF (g_assign hF rfl) rfl fun a hF => ?_
    refine wpList_nil ?_
    refine tN ?_
    refine wp_ret ?_
    refine fin1 rfl hF.defers (res_tmp hF rfl) ⟨_, rfl, hM.below, ?_⟩
    show _ = _
    rfl

theorem szInt64S_ok (x : Option Addr) (m c k : Nat) (w : World) (hk : k < 10000000) (hm : m ≤ k) :
    CallsR Try.prog 39 #[.slice x m c, .int .i64 (((k : Nat) : Int))] w (fun res _ => res = .int .i64 ((k - m : Nat) : Int)) := by
  refine calls_fr [.slice x m c, .int .i64 (((k : Nat) : Int))] Try.func39 rfl Try.ntmps39 rfl fun a hF => ?_
  have hM : Mem w w [] [] := MemX.start w 0
  change Fr 12 a [(0, .slice x m c), (1, .int .i64 (((k : Nat) : Int)))] at hF
  refine sq ?_
  refine wp_region_lit ?_
  refine st hF (g_assign hF rfl) rfl fun a hF => ?_
  refine wpList_nil ?_
  refine tN ?_
  refine sq ?_
  refine wp_region_lit ?_
  refine st hF (g_move hF rfl) rfl fun a hF => st hF (g_move hF rfl) rfl fun a hF => st hF (g_lenX ty_us_22 hF rfl) rfl fun a hF => st hF (g_sub hF rfl rfl (show _ = ((k - m : Nat) : Int) from (show IntKind.i64.wrap (((k : Nat) : Int) - ((m : Nat) : Int)) = ((k - m : Nat) : Int) from by rw [wrap_i64 (by omega) (by omega)]; omega))) rfl fun a hF => st hF (g_assign hF rfl) rfl fun a hF => ?_
  refine wpList_nil ?_
  refine tN ?_
  refine sq ?_
  refine sq ?_
  refine wp_region_lit ?_
  refine st hF (g_move hF rfl) rfl fun a hF => st hF (g_lss hF rfl rfl) rfl fun a hF => ?_
  refine wpList_nil ?_
  refine tN ?_
  refine c_cond hF rfl (fun h1 => ?_) (fun h1 => ?_)
  ·
    exfalso; omega
  ·
    refine wp_skip ?_
    refine tN ?_
    refine sq ?_
    refine wp_region_lit ?_
    refine st hF (g_move hF rfl) rfl fun a hF => st hF (g_assign hF rfl) rfl fun a hF => ?_
    refine wpList_nil ?_
    refine tN ?_
    refine wp_ret ?_
    refine fin1 rfl hF.defers (res_tmp hF rfl) ⟨_, rfl, hM.below, ?_⟩
    show _ = _
    rfl

theorem szInt64S_no (x : Option Addr) (m c k : Nat) (w : World) (hk : k < 10000000) (hm : k < m) (hm2 : m ≤ maxLen) :
    CallsR Try.prog 39 #[.slice x m c, .int .i64 (((k : Nat) : Int))] w (fun res _ => res = .int .i64 (-1)) := by
  refine calls_fr [.slice x m c, .int .i64 (((k : Nat) : Int))] Try.func39 rfl Try.ntmps39 rfl fun a hF => ?_
  have hM : Mem w w [] [] := MemX.start w 0
  change Fr 12 a [(0, .slice x m c), (1, .int .i64 (((k : Nat) : Int)))] at hF
  unfold maxLen at hm2
  refine sq ?_
  refine wp_region_lit ?_
  refine st hF (g_assign hF rfl) rfl fun a hF => ?_
  refine wpList_nil ?_
  refine tN ?_
  refine sq ?_
  refine wp_region_lit ?_
  refine st hF (g_move hF rfl) rfl fun a hF => st hF (g_move hF rfl) rfl fun a hF => st hF (g_lenX ty_us_22 hF rfl) rfl fun a hF => st hF (g_sub hF rfl rfl (wrap_i64 (by omega) (by omega))) rfl fun a hF => st hF (g_assign hF rfl) rfl fun a hF => ?_
  refine wpList_nil ?_
  refine tN ?_
  refine sq ?_
  refine sq ?_
  refine wp_region_lit ?_
  refine st hF (g_move hF rfl) rfl fun a hF => st hF (g_lss hF rfl rfl) rfl fun a hF => ?_
  refine wpList_nil ?_
  refine tN ?_
  refine c_cond hF rfl (fun h1 => ?_) (fun h1 => ?_)
  ·
    refine sq ?_
    refine wp_region_lit ?_
    refine st hF (g_assign hF rfl) rfl fun a hF => ?_
    refine wpList_nil ?_
    refine tN ?_
    refine wp_ret ?_
    refine tR ?_
    refine fin1 rfl hF.defers (res_tmp hF rfl) ⟨_, rfl, hM.below, ?_⟩
    show _ = _
    rfl
  ·
    exfalso; omega

theorem szTensorX (p n i o : Int) (x : Option Addr) (m c k : Nat) (w : World) (hk : k < 10000000) (hm : m ≤ k) :
    CallsR Try.prog 13 #[.agg (tenC p n i o (.slice x m c)), .int .i64 (((k : Nat) : Int))] w (fun res _ => res = .int .i64 ((k - m : Nat) : Int)) := by
  refine calls_fr [.agg (tenC p n i o (.slice x m c)), .int .i64 (((k : Nat) : Int))] Try.func13 rfl Try.ntmps13 rfl fun a hF => ?_
  have hM : Mem w w [none] [] := MemX.start w 1
  change Fr 12 a [(0, .agg (tenC p n i o (.slice x m c))), (1, .int .i64 (((k : Nat) : Int)))] at hF
  refine sq ?_
  refine wp_region_lit ?_
  refine stR hF (d_box 0 hM hF rfl) rfl ?_
  rintro _ w' a ⟨b1, rfl, hM, -⟩ hF
  change Mem w w' [some (b1, tenC p n i o (.slice x m c))] [] at hM
  refine st hF (g_assign hF rfl) rfl fun a hF => ?_
  refine wpList_nil ?_
  refine tN ?_
  refine sq ?_
  refine wp_region_lit ?_
  refine st hF (g_fieldAddr ty_fo_24_4 hF rfl) rfl fun a hF => st hF (g_load ty_on_22 hF rfl (hM.row 0 rfl) (tenC_4 (by omega))) rfl fun a hF => st hF (g_move hF rfl) rfl fun a hF => ?_
  refine stR hF (d_call Try.call39 hF (.cons rfl (.cons rfl .nil)) (szInt64S_ok x m c k _ hk hm)) rfl ?_
  rintro _ w' a ⟨hx, rfl⟩ hF
  have hM := hM.ext hx
  refine st hF (g_assign hF rfl) rfl fun a hF => ?_
  refine wpList_nil ?_
  refine tN ?_
  refine sq ?_
  refine sq ?_
  refine wp_region_lit ?_
  refine st hF (g_move hF rfl) rfl fun a hF => st hF (g_lss hF rfl rfl) rfl fun a hF => ?_
  refine wpList_nil ?_
  refine tN ?_
  refine c_cond hF rfl (fun h2 => ?_) (fun h2 => ?_)
  ·
    exfalso; omega
  ·
    refine wp_skip ?_
    refine tN ?_
    refine sq ?_
    refine wp_region_lit ?_
    refine st hF (g_move hF rfl) rfl fun a hF => st hF (g_assign hF rfl) rfl fun a hF => ?_
    refine wpList_nil ?_
    refine tN ?_
    refine wp_ret ?_
    refine fin1 rfl hF.defers (res_tmp hF rfl) ⟨_, rfl, hM.below, ?_⟩
    show _ = _
    rfl

theorem szTensorN (p n i o : Int) (x : Option Addr) (m c k : Nat) (w : World) (hk : k < 10000000) (hm : k < m) (hm2 : m ≤ maxLen) :
    CallsR Try.prog 13 #[.agg (tenC p n i o (.slice x m c)), .int .i64 (((k : Nat) : Int))] w (fun res _ => res = .int .i64 (-1)) := by
  refine calls_fr [.agg (tenC p n i o (.slice x m c)), .int .i64 (((k : Nat) : Int))] Try.func13 rfl Try.ntmps13 rfl fun a hF => ?_
  have hM : Mem w w [none] [] := MemX.start w 1
  change Fr 12 a [(0, .agg (tenC p n i o (.slice x m c))), (1, .int .i64 (((k : Nat) : Int)))] at hF
  refine sq ?_
  refine wp_region_lit ?_
  refine stR hF (d_box 0 hM hF rfl) rfl ?_
  rintro _ w' a ⟨b1, rfl, hM, -⟩ hF
  change Mem w w' [some (b1, tenC p n i o (.slice x m c))] [] at hM
  refine st hF (g_assign hF rfl) rfl fun a hF => ?_
  refine wpList_nil ?_
  refine tN ?_
  refine sq ?_
  refine wp_region_lit ?_
  refine st hF (g_fieldAddr ty_fo_24_4 hF rfl) rfl fun a hF => st hF (g_load ty_on_22 hF rfl (hM.row 0 rfl) (tenC_4 (by omega))) rfl fun a hF => st hF (g_move hF rfl) rfl fun a hF => ?_
  refine stR hF (d_call Try.call39 hF (.cons rfl (.cons rfl .nil)) (szInt64S_no x m c k _ hk hm hm2)) rfl ?_
  rintro _ w' a ⟨hx, rfl⟩ hF
  have hM := hM.ext hx
  refine st hF (g_assign hF rfl) rfl fun a hF => ?_
  refine wpList_nil ?_
  refine tN ?_
  refine sq ?_
  refine sq ?_
  refine wp_region_lit ?_
  refine st hF (g_move hF rfl) rfl fun a hF => st hF (g_lss hF rfl rfl) rfl fun a hF => ?_
  refine wpList_nil ?_
  refine tN ?_
  refine c_cond hF rfl (fun h2 => ?_) (fun h2 => ?_)
  ·
    refine sq ?_
    refine wp_region_lit ?_
    refine st hF (g_assign hF rfl) rfl fun a hF => ?_
    refine wpList_nil ?_
    refine tN ?_
    refine wp_ret ?_
    refine tR ?_
    refine fin1 rfl hF.defers (res_tmp hF rfl) ⟨_, rfl, hM.below, ?_⟩
    show _ = _
    rfl
  ·
    exfalso; omega

theorem szTensor_ok (p n i o : Int) (sl : Value) (m k : Nat) (g : Nat → Int) (w : World) (hs : ArgSl w sl m g) (hk : k < 10000000) (hm : m ≤ k) : CallsV Try.prog 13 #[.agg (tenC p n i o sl), .int .i64 ((k : Nat) : Int)] w (.int .i64 ((k - m : Nat) : Int)) := by
  obtain ⟨⟨x, c, rfl⟩, -⟩ := hs
  exact szTensorX p n i o x m c k w hk hm
theorem szTensor_no (p n i o : Int) (sl : Value) (m k : Nat) (g : Nat → Int) (w : World) (hs : ArgSl w sl m g) (hk : k < 10000000) (hm : k < m) (hm2 : m ≤ maxLen) : CallsV Try.prog 13 #[.agg (tenC p n i o sl), .int .i64 ((k : Nat) : Int)] w (.int .i64 (-1)) := by
  obtain ⟨⟨x, c, rfl⟩, -⟩ := hs
  exact szTensorN p n i o x m c k w hk hm hm2

theorem toInt64S_P (b o c m : Nat) (g : Nat → Int) (w : World) (hm0 : 0 < m) (hm : m < 10000000) (hc : ∀ i, i < m → w.cell? ⟨b, o + i * 1, none⟩ = some (.int .i64 (g i))) :
    CallsR Try.prog 41 #[.slice (some ⟨b, o, none⟩) (m) (c)] w (fun v w' => ∃ b, v = .slice (some ⟨b, 0, none⟩) m m ∧ w.heap.size ≤ b ∧ Blk w' b (numI m g)) := by
  refine calls_fr [.slice (some ⟨b, o, none⟩) (m) (c)] Try.func41 rfl Try.ntmps41 rfl fun a hF => ?_
  have hM : Mem w w [none] [] := MemX.start w 1
  change Fr 22 a [(0, .slice (some ⟨b, o, none⟩) (m) (c))] at hF
  refine sq ?_
  refine wp_region_lit ?_
  refine st hF (g_assign hF rfl) rfl fun a hF => ?_
  refine wpList_nil ?_
  refine tN ?_
  refine sq ?_
  refine wp_region_lit ?_
  refine st hF (g_move hF rfl) rfl fun a hF => st hF (g_len ty_us_22 hF rfl) rfl fun a hF => ?_
  refine stR hF (d_make1b (len := m) 0 hM hF ty_si_22 rfl rfl rfl (by omega) (by decide)) rfl ?_
  rintro _ w' a ⟨b2, rfl, hM, -⟩ hF
  change Mem w w' [some (b2, numI m (fun _ => 0))] [] at hM
  refine st hF (g_assign hF rfl) rfl fun a hF => ?_
  refine wpList_nil ?_
  refine tN ?_
  refine sq ?_
  refine sq ?_
  refine wp_region_lit ?_
  refine st hF (g_assign hF rfl) rfl fun a hF => ?_
  refine wpList_nil ?_
  refine tN ?_
  refine wp_block ?_
  change Mem w _ [some (b2, numI m (fun _ => 0))] [] at hM
  refine c_loop (fun (kk : Nat) a w' => kk ≤ m ∧ (True) ∧ Fr 22 a [(0, .slice (some ⟨b, o, none⟩) (m) (c)), (2, .slice none 0 0), (5, .slice (some ⟨b, o, none⟩) (m) (c)), (6, .int .i64 (((m : Nat) : Int))), (7, .slice (some ⟨b2, 0, none⟩) (m) (m)), (3, .slice (some ⟨b2, 0, none⟩) (m) (m)), (4, .int .i64 (((kk : Nat) : Int)))] ∧ Mem w w' [some (b2, numI m (fun c => if c < kk then g c else 0))] []) (fun kk => m - kk) 0 ?_ ?_
  ·
    refine ⟨by omega, trivial, hF.sub _ (by repeat' constructor), ?_⟩
    exact hM.rowc 0 rfl (numI_congr fun c hc => by simp)
  ·
    clear hF hM
    rintro gk a w' ⟨hgk, hinv1, hF, hM⟩
    refine sq ?_
    refine sq ?_
    refine wp_region_lit ?_
    refine st hF (g_move hF rfl) rfl fun a hF => st hF (g_move hF rfl) rfl fun a hF => st hF (g_len ty_us_22 hF rfl) rfl fun a hF => st hF (g_lss hF rfl rfl) rfl fun a hF => ?_
    refine wpList_nil ?_
    refine tN ?_
    refine c_cond hF rfl (fun h3 => ?_) (fun h3 => ?_)
    ·
      refine wp_skip ?_
      refine tN ?_
      refine sq ?_
      refine wp_block ?_
      refine wp_region_lit ?_
      refine st hF (g_move hF rfl) rfl fun a hF => st hF (g_move hF rfl) rfl fun a hF => st hF (g_move hF rfl) rfl fun a hF => st hF (g_move hF rfl) rfl fun a hF => st hF (g_indexSl (i := gk) ty_sl_22 hF rfl rfl rfl (by omega)) rfl fun a hF => st hF (g_loadC ty_on_2 hF rfl (cell_ext (hc (gk) (by omega)) hM.below)) rfl fun a hF => st hF (g_indexSl (i := gk) ty_sl_22 hF rfl rfl rfl (by omega)) rfl fun a hF => ?_
      refine stN hF (d_store 0 hM rfl ty_on_2 hF rfl rfl rfl (by first | omega | (simp only [fnC_size, cells_size, vecC_size, tabC_size, planeC_size, tenC_size, smC_size, numC_size, numI_size] <;> omega))) ?_
      intro _ w' a hM hF
      rw [show (numI m (fun c => if c < gk then g c else 0)).setIfInBounds (0 + (gk) * 1) (.int .i64 (g (gk))) = numI m (fun c => if c = (gk) then (g (gk) : Int) else (fun c => if c < gk then g c else 0) c) from numI_set (k := (gk)) (by omega) (fun c _ => rfl)] at hM
      change Mem w w' [some (b2, numI m (fun c => if c = (gk) then (g (gk) : Int) else (fun c => if c < gk then g c else 0) c))] [] at hM
      refine wpList_nil ?_
      refine iN ?_
      refine tN ?_
      refine wp_region_lit ?_
      refine st hF (g_move hF rfl) rfl fun a hF => st hF (g_add hF rfl rfl (add_nat (gk) (1) (by omega))) rfl fun a hF => st hF (g_assign hF rfl) rfl fun a hF => ?_
      refine wpList_nil ?_
      refine tN ?_
      refine ⟨gk + 1, ⟨by omega, trivial, hF.sub _ (by repeat' constructor), ?_⟩, by omega⟩
      refine hM.rowc 0 rfl (numI_congr fun c hc => ?_)
      by_cases e1 : c = gk
      · subst e1; simp
      · have e0 : (c < gk + 1) = (c < gk) := by apply propext; omega
        simp [e0, e1]
    ·
      obtain rfl : m = gk := by omega
      have hM := hM.rowc (cs' := numI m g) 0 rfl (numI_congr fun c hc => by rw [if_pos hc])
      refine wp_exit ?_
      refine tX ?_
      refine tX ?_
      refine ib_same ?_
      refine tN ?_
      refine sq ?_
      refine wp_region_lit ?_
      refine st hF (g_move hF rfl) rfl fun a hF => st hF (g_assign hF rfl) rfl fun a hF => ?_
      refine wpList_nil ?_
      refine tN ?_
      refine wp_ret ?_
      refine fin1 rfl hF.defers (res_tmp hF rfl) ⟨_, rfl, hM.below, ?_⟩
      exact ⟨_, rfl, hM.ge 0 rfl, hM.row 0 rfl⟩

theorem toInt64S_Z (x : Option Addr) (c : Nat) (g : Nat → Int) (w : World)  :
    CallsR Try.prog 41 #[.slice x 0 c] w (fun v w' => ∃ b, v = .slice (some ⟨b, 0, none⟩) 0 0 ∧ w.heap.size ≤ b ∧ Blk w' b (numI 0 g)) := by
  refine calls_fr [.slice x 0 c] Try.func41 rfl Try.ntmps41 rfl fun a hF => ?_
  have hM : Mem w w [none] [] := MemX.start w 1
  change Fr 22 a [(0, .slice x 0 c)] at hF
  refine sq ?_
  refine wp_region_lit ?_
  refine st hF (g_assign hF rfl) rfl fun a hF => ?_
  refine wpList_nil ?_
  refine tN ?_
  refine sq ?_
  refine wp_region_lit ?_
  refine st hF (g_move hF rfl) rfl fun a hF => st hF (g_lenX ty_us_22 hF rfl) rfl fun a hF => ?_
  refine stR hF (d_makeC (len := 0) 0 hM hF rfl rfl ty_mk_22_0) rfl ?_
  rintro _ w' a ⟨b1, rfl, hM, -⟩ hF
  change Mem w w' [some (b1, fnC 0 (fun _ => .int .i64 (0)))] [] at hM
  refine st hF (g_assign hF rfl) rfl fun a hF => ?_
  refine wpList_nil ?_
  refine tN ?_
  refine sq ?_
  refine sq ?_
  refine wp_region_lit ?_
  refine st hF (g_assign hF rfl) rfl fun a hF => ?_
  refine wpList_nil ?_
  refine tN ?_
  refine wp_block ?_
  change Mem w _ [some (b1, fnC 0 (fun _ => .int .i64 (0)))] [] at hM
  refine c_loop (fun (kk : Nat) a w' => kk ≤ 0 ∧ (True) ∧ Fr 22 a [(0, .slice x 0 c), (2, .slice none 0 0), (5, .slice x 0 c), (6, .int .i64 (0)), (7, .slice (some ⟨b1, 0, none⟩) (0) (0)), (3, .slice (some ⟨b1, 0, none⟩) (0) (0)), (4, .int .i64 (((kk : Nat) : Int)))] ∧ Mem w w' [some (b1, numI 0 (fun c => if c < kk then g c else 0))] []) (fun kk => 0 - kk) 0 ?_ ?_
  ·
    refine ⟨by omega, trivial, hF.sub _ (by repeat' constructor), ?_⟩
    exact hM.rowc 0 rfl (numI_congr fun c hc => by simp)
  ·
    clear hF hM
    rintro gk a w' ⟨hgk, hinv1, hF, hM⟩
    refine sq ?_
    refine sq ?_
    refine wp_region_lit ?_
    refine st hF (g_move hF rfl) rfl fun a hF => st hF (g_move hF rfl) rfl fun a hF => st hF (g_lenX ty_us_22 hF rfl) rfl fun a hF => st hF (g_lss hF rfl rfl) rfl fun a hF => ?_
    refine wpList_nil ?_
    refine tN ?_
    refine c_cond hF rfl (fun h2 => ?_) (fun h2 => ?_)
    ·
      exfalso; omega
    ·
      obtain rfl : 0 = gk := by omega
      refine wp_exit ?_
      refine tX ?_
      refine tX ?_
      refine ib_same ?_
      refine tN ?_
      refine sq ?_
      refine wp_region_lit ?_
      refine st hF (g_move hF rfl) rfl fun a hF => st hF (g_assign hF rfl) rfl fun a hF => ?_
      refine wpList_nil ?_
      refine tN ?_
      refine wp_ret ?_
      refine fin1 rfl hF.defers (res_tmp hF rfl) ⟨_, rfl, hM.below, ?_⟩
      exact ⟨_, rfl, hM.ge 0 rfl, (hM.rowc (cs' := numI 0 g) 0 rfl (numI_congr fun c hc => absurd hc (by omega))).row 0 rfl⟩

theorem toInt64S_ok (sl : Value) (m : Nat) (g : Nat → Int) (w : World) (hs : ArgSl w sl m g) (hm : m < 10000000) : CallsR Try.prog 41 #[sl] w (fun v w' => ∃ b, v = .slice (some ⟨b, 0, none⟩) m m ∧ w.heap.size ≤ b ∧ Blk w' b (numI m g)) := by
  by_cases h0 : 0 < m
  · obtain ⟨b, o, c, rfl, hc⟩ := hs.2 h0
    exact toInt64S_P b o c m g w h0 hm hc
  · obtain ⟨⟨x, c, rfl⟩, -⟩ := hs
    obtain rfl : m = 0 := by omega
    exact toInt64S_Z x c g w

theorem toTensor_ok (p n i o : Int) (sl : Value) (m : Nat) (g : Nat → Int) (w : World) (hs : ArgSl w sl m g) (hm : m < 10000000) :
    CallsR Try.prog 15 #[.agg (tenC p n i o sl)] w (fun v w' => TenOutI w w' p n i o m g v) := by
  refine calls_fr [.agg (tenC p n i o sl)] Try.func15 rfl Try.ntmps15 rfl fun a hF => ?_
  have hM : Mem w w [none, none, none, none] [] := MemX.start w 4
  change Fr 21 a [(0, .agg (tenC p n i o sl))] at hF
  have hso := hs.one
  refine sq ?_
  refine wp_region_lit ?_
  refine stR hF (d_box 0 hM hF rfl) rfl ?_
  rintro _ w' a ⟨b1, rfl, hM, -⟩ hF
  change Mem w w' [some (b1, tenC p n i o sl), none, none, none] [] at hM
  refine stR hF (d_alloc 1 hM ty_ze_27) rfl ?_
  rintro _ w' a ⟨b2, rfl, hM, -⟩ hF
  change Mem w w' [some (b1, tenC p n i o sl), some (b2, tenC 0 0 0 0 (.slice none 0 0)), none, none] [] at hM
  refine wpList_nil ?_
  refine tN ?_
  refine sq ?_
  refine wp_region_lit ?_
  refine stR hF (d_alloc 2 hM ty_ze_27) rfl ?_
  rintro _ w' a ⟨b3, rfl, hM, -⟩ hF
  change Mem w w' [some (b1, tenC p n i o sl), some (b2, tenC 0 0 0 0 (.slice none 0 0)), some (b3, tenC 0 0 0 0 (.slice none 0 0)), none] [] at hM
  refine wpList_nil ?_
  refine tN ?_
  refine sq ?_
  refine wp_region_lit ?_
  refine st hF (g_fieldAddr ty_fo_24_0 hF rfl) rfl fun a hF => st hF (g_load ty_on_2 hF rfl (hM.row 0 rfl) (tenC_0 (by omega))) rfl fun a hF => st hF (g_fieldAddr ty_fo_27_0 hF rfl) rfl fun a hF => ?_
  refine stN hF (d_store 2 hM rfl ty_on_2 hF rfl rfl rfl (by first | omega | (simp only [fnC_size, cells_size, vecC_size, tabC_size, planeC_size, tenC_size, smC_size, numC_size, numI_size] <;> omega))) ?_
  intro _ w' a hM hF
  rw [tenC_set0 (by omega)] at hM
  change Mem w w' [some (b1, tenC p n i o sl), some (b2, tenC 0 0 0 0 (.slice none 0 0)), some (b3, tenC p 0 0 0 (.slice none 0 0)), none] [] at hM
  refine wpList_nil ?_
  refine tN ?_
  refine sq ?_
  refine wp_region_lit ?_
  refine st hF (g_fieldAddr ty_fo_24_1 hF rfl) rfl fun a hF => st hF (g_load ty_on_2 hF rfl (hM.row 0 rfl) (tenC_1 (by omega))) rfl fun a hF => st hF (g_fieldAddr ty_fo_27_1 hF rfl) rfl fun a hF => ?_
  refine stN hF (d_store 2 hM rfl ty_on_2 hF rfl rfl rfl (by first | omega | (simp only [fnC_size, cells_size, vecC_size, tabC_size, planeC_size, tenC_size, smC_size, numC_size, numI_size] <;> omega))) ?_
  intro _ w' a hM hF
  rw [tenC_set1 (by omega)] at hM
  change Mem w w' [some (b1, tenC p n i o sl), some (b2, tenC 0 0 0 0 (.slice none 0 0)), some (b3, tenC p n 0 0 (.slice none 0 0)), none] [] at hM
  refine wpList_nil ?_
  refine tN ?_
  refine sq ?_
  refine wp_region_lit ?_
  refine st hF (g_fieldAddr ty_fo_24_2 hF rfl) rfl fun a hF => st hF (g_load ty_on_2 hF rfl (hM.row 0 rfl) (tenC_2 (by omega))) rfl fun a hF => st hF (g_fieldAddr ty_fo_27_2 hF rfl) rfl fun a hF => ?_
  refine stN hF (d_store 2 hM rfl ty_on_2 hF rfl rfl rfl (by first | omega | (simp only [fnC_size, cells_size, vecC_size, tabC_size, planeC_size, tenC_size, smC_size, numC_size, numI_size] <;> omega))) ?_
  intro _ w' a hM hF
  rw [tenC_set2 (by omega)] at hM
  change Mem w w' [some (b1, tenC p n i o sl), some (b2, tenC 0 0 0 0 (.slice none 0 0)), some (b3, tenC p n i 0 (.slice none 0 0)), none] [] at hM
  refine wpList_nil ?_
  refine tN ?_
  refine sq ?_
  refine wp_region_lit ?_
  refine st hF (g_fieldAddr ty_fo_24_3 hF rfl) rfl fun a hF => st hF (g_load ty_on_2 hF rfl (hM.row 0 rfl) (tenC_3 (by omega))) rfl fun a hF => st hF (g_fieldAddr ty_fo_27_3 hF rfl) rfl fun a hF => ?_
  refine stN hF (d_store 2 hM rfl ty_on_2 hF rfl rfl rfl (by first | omega | (simp only [fnC_size, cells_size, vecC_size, tabC_size, planeC_size, tenC_size, smC_size, numC_size, numI_size] <;> omega))) ?_
  intro _ w' a hM hF
  rw [tenC_set3 (by omega)] at hM
  change Mem w w' [some (b1, tenC p n i o sl), some (b2, tenC 0 0 0 0 (.slice none 0 0)), some (b3, tenC p n i o (.slice none 0 0)), none] [] at hM
  refine wpList_nil ?_
  refine tN ?_
  refine sq ?_
  refine wp_region_lit ?_
  refine st hF (g_fieldAddr ty_fo_24_4 hF rfl) rfl fun a hF => st hF (g_load ty_on_22 hF rfl (hM.row 0 rfl) (tenC_4 (by omega))) rfl fun a hF => ?_
  refine stR hF (d_call Try.call41 hF (.cons rfl .nil) (toInt64S_ok sl m g _ (hs.ext hM.below) hm)) rfl ?_
  rintro _ w' a ⟨hx, b4, rfl, hge, hbk⟩ hF
  have hM := hM.fill hx 3 hbk hge
  change Mem w w' [some (b1, tenC p n i o sl), some (b2, tenC 0 0 0 0 (.slice none 0 0)), some (b3, tenC p n i o (.slice none 0 0)), some (b4, numI m g)] [] at hM
  refine st hF (g_fieldAddr ty_fo_27_4 hF rfl) rfl fun a hF => ?_
  refine stN hF (d_store 2 hM rfl ty_on_22 hF rfl rfl rfl (by first | omega | (simp only [fnC_size, cells_size, vecC_size, tabC_size, planeC_size, tenC_size, smC_size, numC_size, numI_size] <;> omega))) ?_
  intro _ w' a hM hF
  rw [tenC_set4 (by omega)] at hM
  change Mem w w' [some (b1, tenC p n i o sl), some (b2, tenC 0 0 0 0 (.slice none 0 0)), some (b3, tenC p n i o (.slice (some ⟨b4, 0, none⟩) (m) (m))), some (b4, numI m g)] [] at hM
  refine wpList_nil ?_
  refine tN ?_
  refine sq ?_
  refine wp_region_lit ?_
  refine st hF (g_loadAgg ty_ag_27 hF rfl (hM.row 2 rfl) (by simp only [fnC_size, cells_size, vecC_size, tabC_size, planeC_size, tenC_size, smC_size, numC_size, numI_size] <;> omega) (whole rfl)) rfl fun a hF => ?_
  refine stN hF (d_storeAgg 1 hM rfl ty_sz_27 hF rfl rfl (tenC_one rfl) (by simp only [fnC_size, cells_size, vecC_size, tabC_size, planeC_size, tenC_size, smC_size, numC_size, numI_size]) (by simp only [fnC_size, cells_size, vecC_size, tabC_size, planeC_size, tenC_size, smC_size, numC_size, numI_size] <;> omega) (splice_whole _ _ rfl)) ?_
  intro _ w' a hM hF
  change Mem w w' [some (b1, tenC p n i o sl), some (b2, tenC p n i o (.slice (some ⟨b4, 0, none⟩) (m) (m))), some (b3, tenC p n i o (.slice (some ⟨b4, 0, none⟩) (m) (m))), some (b4, numI m g)] [] at hM
  refine wpList_nil ?_
  refine tN ?_
  refine wp_ret ?_
  refine fin1 rfl hF.defers (res_agg ty_ag_27 hF rfl (hM.row 1 rfl) (by simp only [fnC_size, cells_size, vecC_size, tabC_size, planeC_size, tenC_size, smC_size, numC_size, numI_size])) ⟨_, rfl, hM.below, ?_⟩
  exact ⟨_, rfl, hM.ge 3 rfl, hM.row 3 rfl⟩

end Go.Proofs.Ythliekalhgafcaa

namespace Go.Proofs.Ythliekalhgafcaa
open Go Go.RowKit Go.Sw Go.Ech
open Classical
theorem ty_bu_27 : ∀ w, (Instr.build 27 #[]).run Try.prog w = .ok (.agg (tenC 0 0 0 0 (.slice none 0 0))) w := by intros; kernel_rfl
/-- Numbers that are 1 at the first j places of the diagonal. -/
def dgF (W j c : Nat) : Nat := if c % (W + 1) = 0 ∧ c / (W + 1) < j then 1 else 0
theorem dg_step {W i c : Nat} : (if c = i * W + i then 1 else dgF W i c) = dgF W (i + 1) c := by
  have e1 : i * W + i = (W + 1) * i := by rw [Nat.add_mul, Nat.mul_comm]; omega
  unfold dgF
  by_cases e : c = i * W + i
  · rw [if_pos e, if_pos]; rw [e, e1]; exact ⟨Nat.mul_mod_right _ _, by rw [Nat.mul_div_cancel_left _ (by omega)]; omega⟩
  · rw [if_neg e]
    by_cases h : c % (W + 1) = 0
    · have h1 := Nat.div_add_mod c (W + 1)
      have h2 : c / (W + 1) ≠ i := fun h3 => e (by rw [h3, h] at h1; omega)
      have h4 : (c / (W + 1) < i + 1) = (c / (W + 1) < i) := by apply propext; omega
      simp only [h4]
    · rw [if_neg (fun q => h q.1), if_neg (fun q => h q.1)]
theorem dg_0 {W c : Nat} : dgF W 0 c = 0 := by unfold dgF; rw [if_neg (fun h => Nat.not_lt_zero _ h.2)]
theorem idx_bd {n k i : Nat} (h : i < n ^ k) : i * n ^ k + n ^ k ≤ n ^ (k + k) := by
  rw [Nat.pow_add, ← Nat.succ_mul]; exact Nat.mul_le_mul_right _ h
theorem half_le {n k : Nat} (hn : 0 < n) (h : n ^ (k + k) ≤ 1296) : n ^ k ≤ 1296 := Nat.le_trans (Nat.pow_le_pow_right hn (by omega)) h
/-- The code of a prime, a size and numbers of legs. -/
theorem wl_of {n i o : Nat} (hn : 0 < n) (h : ¬ 8 < (i : Int)) (h1 : ¬ 8 < (o : Int)) (h2 : ¬ 1296 < ((pwr n (i + o) 1 : Nat) : Int)) : wl n i o := ⟨by omega, by omega, (pwr_iff hn).1 (by omega)⟩
theorem wl_not {n i o : Nat} (hn : 0 < n) (h : 8 < (i : Int) ∨ 8 < (o : Int) ∨ 1296 < ((pwr n (i + o) 1 : Nat) : Int)) : ¬ wl n i o := fun hw => by
  have := (pwr_iff hn).2 hw.2.2
  have h1 := hw.1; have h2 := hw.2.1
  omega

theorem l03Sizes_A (p n i o : Int) (w : World) (hA : ¬ (primeP p ∧ 1 ≤ n ∧ n ≤ 6)) :
    CallsR Try.prog 47 #[.int .i64 (p), .int .i64 (n), .int .i64 (i), .int .i64 (o)] w (fun res _ => res = .int .i64 2) := by
  refine calls_fr [.int .i64 (p), .int .i64 (n), .int .i64 (i), .int .i64 (o)] Try.func47 rfl Try.ntmps47 rfl fun a hF => ?_
  have hM : Mem w w [] [] := MemX.start w 0
  change Fr 33 a [(0, .int .i64 (p)), (1, .int .i64 (n)), (2, .int .i64 (i)), (3, .int .i64 (o))] at hF
  refine sq ?_
  refine wp_region_lit ?_
  refine st hF (g_assign hF rfl) rfl fun a hF => ?_
  refine wpList_nil ?_
  refine tN ?_
  refine sq ?_
  refine wp_block ?_
  refine sq ?_
  refine wp_region_lit ?_
  refine st hF (g_move hF rfl) rfl fun a hF => ?_
  refine stR hF (d_call Try.call76 hF (.cons rfl .nil) (l01Prime_ok (p) _)) rfl ?_
  rintro _ w' a ⟨hx, rfl⟩ hF
  have hM := hM.ext hx
  refine st hF (g_notP hF rfl) rfl fun a hF => st hF (g_move hF rfl) rfl fun a hF => ?_
  by_cases g1 : ¬ (primeP (p))
  ·
    first | rw [decide_eq_true g1] at hF | simp only [decide_eq_true g1] at hF
    refine stS hF rfl rfl rfl rfl rfl fun a hF => stS hF rfl rfl rfl rfl rfl fun a hF => stS hF rfl rfl rfl rfl rfl fun a hF => st hF (g_pickT hF rfl rfl) rfl fun a hF => st hF (g_assign hF rfl) rfl fun a hF => ?_
    refine wpList_nil ?_
    refine tN ?_
    refine c_T hF rfl ?_
    refine sq ?_
    refine wp_region_lit ?_
    refine st hF (g_assign hF rfl) rfl fun a hF => ?_
    refine wpList_nil ?_
    refine tN ?_
    refine wp_ret ?_
    refine iR ?_
    refine tR ?_
    refine fin1 rfl hF.defers (res_tmp hF rfl) ⟨_, rfl, hM.below, ?_⟩
    show _ = _
    rfl
  ·
    first | rw [decide_eq_false g1] at hF | simp only [decide_eq_false g1] at hF
    refine stY hF rfl rfl rfl (g_move hF rfl) rfl fun a hF => ?_
    refine stYR hF rfl rfl rfl (d_call Try.call46 hF (.cons rfl (.cons rfl (.cons rfl .nil))) (l01In_ok (n) (1) (6) _)) rfl ?_
    rintro _ w' a ⟨hx, rfl⟩ hF
    have hM := hM.ext hx
    refine stY hF rfl rfl rfl (g_notP hF rfl) rfl fun a hF => st hF (g_pickF hF rfl rfl) rfl fun a hF => st hF (g_assign hF rfl) rfl fun a hF => ?_
    refine wpList_nil ?_
    refine tN ?_
    refine c_cond hF rfl (fun h3 => ?_) (fun h3 => ?_)
    ·
      refine sq ?_
      refine wp_region_lit ?_
      refine st hF (g_assign hF rfl) rfl fun a hF => ?_
      refine wpList_nil ?_
      refine tN ?_
      refine wp_ret ?_
      refine iR ?_
      refine tR ?_
      refine fin1 rfl hF.defers (res_tmp hF rfl) ⟨_, rfl, hM.below, ?_⟩
      show _ = _
      rfl
    ·
      exact absurd ⟨Decidable.not_not.1 (by assumption), by omega, by omega⟩ hA

theorem l03Sizes_ok (p : Int) (n i o : Nat) (w : World) (hp : primeP p) (hn0 : 0 < n) (hn : n ≤ 6) (hi : i < 400) (ho : o < 400) :
    CallsR Try.prog 47 #[.int .i64 (p), .int .i64 (((n : Nat) : Int)), .int .i64 (((i : Nat) : Int)), .int .i64 (((o : Nat) : Int))] w (fun res _ => res = .int .i64 (if wl n i o then 0 else 3)) := by
  refine calls_fr [.int .i64 (p), .int .i64 (((n : Nat) : Int)), .int .i64 (((i : Nat) : Int)), .int .i64 (((o : Nat) : Int))] Try.func47 rfl Try.ntmps47 rfl fun a hF => ?_
  have hM : Mem w w [] [] := MemX.start w 0
  change Fr 33 a [(0, .int .i64 (p)), (1, .int .i64 (((n : Nat) : Int))), (2, .int .i64 (((i : Nat) : Int))), (3, .int .i64 (((o : Nat) : Int)))] at hF
  refine sq ?_
  refine wp_region_lit ?_
  refine st hF (g_assign hF rfl) rfl fun a hF => ?_
  refine wpList_nil ?_
  refine tN ?_
  refine sq ?_
  refine wp_block ?_
  refine sq ?_
  refine wp_region_lit ?_
  refine st hF (g_move hF rfl) rfl fun a hF => ?_
  refine stR hF (d_call Try.call76 hF (.cons rfl .nil) (l01Prime_ok (p) _)) rfl ?_
  rintro _ w' a ⟨hx, rfl⟩ hF
  have hM := hM.ext hx
  refine st hF (g_notP hF rfl) rfl fun a hF => st hF (g_move hF rfl) rfl fun a hF => ?_
  by_cases g1 : ¬ (primeP (p))
  ·
    first | rw [decide_eq_true g1] at hF | simp only [decide_eq_true g1] at hF
    refine stS hF rfl rfl rfl rfl rfl fun a hF => stS hF rfl rfl rfl rfl rfl fun a hF => stS hF rfl rfl rfl rfl rfl fun a hF => st hF (g_pickT hF rfl rfl) rfl fun a hF => st hF (g_assign hF rfl) rfl fun a hF => ?_
    refine wpList_nil ?_
    refine tN ?_
    refine c_T hF rfl ?_
    refine sq ?_
    refine wp_region_lit ?_
    refine st hF (g_assign hF rfl) rfl fun a hF => ?_
    refine wpList_nil ?_
    refine tN ?_
    refine wp_ret ?_
    refine iR ?_
    refine tR ?_
    refine fin1 rfl hF.defers (res_tmp hF rfl) ⟨_, rfl, hM.below, ?_⟩
    show _ = _
    exfalso; first | exact absurd hp (by assumption) | omega
  ·
    first | rw [decide_eq_false g1] at hF | simp only [decide_eq_false g1] at hF
    refine stY hF rfl rfl rfl (g_move hF rfl) rfl fun a hF => ?_
    refine stYR hF rfl rfl rfl (d_call Try.call46 hF (.cons rfl (.cons rfl (.cons rfl .nil))) (l01In_ok (((n : Nat) : Int)) (1) (6) _)) rfl ?_
    rintro _ w' a ⟨hx, rfl⟩ hF
    have hM := hM.ext hx
    refine stY hF rfl rfl rfl (g_notP hF rfl) rfl fun a hF => st hF (g_pickF hF rfl rfl) rfl fun a hF => st hF (g_assign hF rfl) rfl fun a hF => ?_
    refine wpList_nil ?_
    refine tN ?_
    refine c_cond hF rfl (fun h3 => ?_) (fun h3 => ?_)
    ·
      refine sq ?_
      refine wp_region_lit ?_
      refine st hF (g_assign hF rfl) rfl fun a hF => ?_
      refine wpList_nil ?_
      refine tN ?_
      refine wp_ret ?_
      refine iR ?_
      refine tR ?_
      refine fin1 rfl hF.defers (res_tmp hF rfl) ⟨_, rfl, hM.below, ?_⟩
      show _ = _
      exfalso; first | exact absurd hp (by assumption) | omega
    ·
      refine sq ?_
      refine wp_region_lit ?_
      refine st hF (g_move hF rfl) rfl fun a hF => st hF (g_gtr hF rfl rfl) rfl fun a hF => st hF (g_move hF rfl) rfl fun a hF => ?_
      by_cases g4 : 8 < (((i : Nat) : Int) : Int)
      ·
        first | rw [decide_eq_true g4] at hF | simp only [decide_eq_true g4] at hF
        refine stS hF rfl rfl rfl rfl rfl fun a hF => stS hF rfl rfl rfl rfl rfl fun a hF => st hF (g_pickT hF rfl rfl) rfl fun a hF => st hF (g_move hF rfl) rfl fun a hF => stS hF rfl rfl rfl rfl rfl fun a hF => stS hF rfl rfl rfl rfl rfl fun a hF => stS hF rfl rfl rfl rfl rfl fun a hF => stS hF rfl rfl rfl rfl rfl fun a hF => stS hF rfl rfl rfl rfl rfl fun a hF => stS hF rfl rfl rfl rfl rfl fun a hF => st hF (g_pickT hF rfl rfl) rfl fun a hF => st hF (g_assign hF rfl) rfl fun a hF => ?_
        refine wpList_nil ?_
        refine tN ?_
        refine c_T hF rfl ?_
        refine sq ?_
        refine wp_region_lit ?_
        refine st hF (g_assign hF rfl) rfl fun a hF => ?_
        refine wpList_nil ?_
        refine tN ?_
        refine wp_ret ?_
        refine iR ?_
        refine tR ?_
        refine fin1 rfl hF.defers (res_tmp hF rfl) ⟨_, rfl, hM.below, ?_⟩
        show _ = _
        rw [if_neg (wl_not hn0 (by first | (left; omega) | (right; left; omega) | (right; right; omega)))]
      ·
        first | rw [decide_eq_false g4] at hF | simp only [decide_eq_false g4] at hF
        refine stY hF rfl rfl rfl (g_move hF rfl) rfl fun a hF => stY hF rfl rfl rfl (g_gtr hF rfl rfl) rfl fun a hF => st hF (g_pickF hF rfl rfl) rfl fun a hF => st hF (g_move hF rfl) rfl fun a hF => ?_
        by_cases g6 : 8 < (((o : Nat) : Int) : Int)
        ·
          first | rw [decide_eq_true g6] at hF | simp only [decide_eq_true g6] at hF
          refine stS hF rfl rfl rfl rfl rfl fun a hF => stS hF rfl rfl rfl rfl rfl fun a hF => stS hF rfl rfl rfl rfl rfl fun a hF => stS hF rfl rfl rfl rfl rfl fun a hF => stS hF rfl rfl rfl rfl rfl fun a hF => stS hF rfl rfl rfl rfl rfl fun a hF => st hF (g_pickT hF rfl rfl) rfl fun a hF => st hF (g_assign hF rfl) rfl fun a hF => ?_
          refine wpList_nil ?_
          refine tN ?_
          refine c_T hF rfl ?_
          refine sq ?_
          refine wp_region_lit ?_
          refine st hF (g_assign hF rfl) rfl fun a hF => ?_
          refine wpList_nil ?_
          refine tN ?_
          refine wp_ret ?_
          refine iR ?_
          refine tR ?_
          refine fin1 rfl hF.defers (res_tmp hF rfl) ⟨_, rfl, hM.below, ?_⟩
          show _ = _
          rw [if_neg (wl_not hn0 (by first | (left; omega) | (right; left; omega) | (right; right; omega)))]
        ·
          first | rw [decide_eq_false g6] at hF | simp only [decide_eq_false g6] at hF
          refine stY hF rfl rfl rfl (g_move hF rfl) rfl fun a hF => stY hF rfl rfl rfl (g_move hF rfl) rfl fun a hF => stY hF rfl rfl rfl (g_move hF rfl) rfl fun a hF => stY hF rfl rfl rfl (g_add hF rfl rfl (add_nat (i) (o) (by omega))) rfl fun a hF => ?_
          refine stYR hF rfl rfl rfl (d_call Try.call68 hF (.cons rfl (.cons rfl .nil)) (l03Power_ok (n) (i + o) _ (by omega) (by omega) (by omega))) rfl ?_
          rintro _ w' a ⟨hx, rfl⟩ hF
          have hM := hM.ext hx
          refine stY hF rfl rfl rfl (g_gtr hF rfl rfl) rfl fun a hF => st hF (g_pickF hF rfl rfl) rfl fun a hF => st hF (g_assign hF rfl) rfl fun a hF => ?_
          refine wpList_nil ?_
          refine tN ?_
          refine c_cond hF rfl (fun h8 => ?_) (fun h8 => ?_)
          ·
            refine sq ?_
            refine wp_region_lit ?_
            refine st hF (g_assign hF rfl) rfl fun a hF => ?_
            refine wpList_nil ?_
            refine tN ?_
            refine wp_ret ?_
            refine iR ?_
            refine tR ?_
            refine fin1 rfl hF.defers (res_tmp hF rfl) ⟨_, rfl, hM.below, ?_⟩
            show _ = _
            rw [if_neg (wl_not hn0 (by first | (left; omega) | (right; left; omega) | (right; right; omega)))]
          ·
            refine wp_skip ?_
            refine iN ?_
            refine tN ?_
            refine sq ?_
            refine wp_region_lit ?_
            refine st hF (g_assign hF rfl) rfl fun a hF => ?_
            refine wpList_nil ?_
            refine tN ?_
            refine wp_ret ?_
            refine fin1 rfl hF.defers (res_tmp hF rfl) ⟨_, rfl, hM.below, ?_⟩
            show _ = _
            rw [if_pos (wl_of hn0 (by omega) (by omega) (by omega))]

theorem l03One_ok (p n k : Nat) (w : World) (hpP : primeP (p : Int)) (hn0 : 0 < n) (hn : n ≤ 6) (hw : wl n k k) :
    CallsR Try.prog 48 #[.int .i64 (((p : Nat) : Int)), .int .i64 (((n : Nat) : Int)), .int .i64 (((k : Nat) : Int))] w (fun v w' => TenOut w w' (p : Int) (n : Int) (k : Int) (k : Int) (n ^ (k + k)) (dgF (n ^ k) (n ^ k)) v) := by
  refine calls_fr [.int .i64 (((p : Nat) : Int)), .int .i64 (((n : Nat) : Int)), .int .i64 (((k : Nat) : Int))] Try.func48 rfl Try.ntmps48 rfl fun a hF => ?_
  have hM : Mem w w [none, none, none] [] := MemX.start w 3
  change Fr 32 a [(0, .int .i64 (((p : Nat) : Int))), (1, .int .i64 (((n : Nat) : Int))), (2, .int .i64 (((k : Nat) : Int)))] at hF
  have hw3 := hw.2.2
  have hw1 := hw.1
  have hk1 := half_le hn0 hw3
  refine sq ?_
  refine wp_region_lit ?_
  refine stR hF (d_alloc 0 hM ty_ze_27) rfl ?_
  rintro _ w' a ⟨b1, rfl, hM, -⟩ hF
  change Mem w w' [some (b1, tenC 0 0 0 0 (.slice none 0 0)), none, none] [] at hM
  refine wpList_nil ?_
  refine tN ?_
  refine sq ?_
  refine wp_region_lit ?_
  refine st hF (g_move hF rfl) rfl fun a hF => st hF (g_move hF rfl) rfl fun a hF => st hF (g_move hF rfl) rfl fun a hF => st hF (g_move hF rfl) rfl fun a hF => ?_
  refine stR hF (d_call Try.call54 hF (.cons rfl (.cons rfl (.cons rfl (.cons rfl .nil)))) (l03Empty_ok (p) (n) (k) (k) _ (by omega) (by omega) hw)) rfl ?_
  rintro _ w' a ⟨hx, b2, rfl, hge, hbk⟩ hF
  have hM := hM.fill hx 1 hbk hge
  change Mem w w' [some (b1, tenC 0 0 0 0 (.slice none 0 0)), some (b2, numC ((n) ^ ((k) + (k))) (fun _ => 0)), none] [] at hM
  refine stR hF (d_alloc 2 hM ty_ze_27) rfl ?_
  rintro _ w' a ⟨b3, rfl, hM, -⟩ hF
  change Mem w w' [some (b1, tenC 0 0 0 0 (.slice none 0 0)), some (b2, numC ((n) ^ ((k) + (k))) (fun _ => 0)), some (b3, tenC 0 0 0 0 (.slice none 0 0))] [] at hM
  refine stN hF (d_storeAgg 2 hM rfl ty_sz_27 hF rfl rfl (tenC_one rfl) (by simp only [fnC_size, cells_size, vecC_size, tabC_size, planeC_size, tenC_size, smC_size, numC_size, numI_size]) (by simp only [fnC_size, cells_size, vecC_size, tabC_size, planeC_size, tenC_size, smC_size, numC_size, numI_size] <;> omega) (splice_whole _ _ rfl)) ?_
  intro _ w' a hM hF
  change Mem w w' [some (b1, tenC 0 0 0 0 (.slice none 0 0)), some (b2, numC ((n) ^ ((k) + (k))) (fun _ => 0)), some (b3, tenC ((p : Nat) : Int) ((n : Nat) : Int) ((k : Nat) : Int) ((k : Nat) : Int) (.slice (some ⟨b2, 0, none⟩) ((n) ^ ((k) + (k))) ((n) ^ ((k) + (k)))))] [] at hM
  refine wpList_nil ?_
  refine tN ?_
  refine sq ?_
  refine wp_region_lit ?_
  refine st hF (g_move hF rfl) rfl fun a hF => st hF (g_move hF rfl) rfl fun a hF => ?_
  refine stR hF (d_call Try.call68 hF (.cons rfl (.cons rfl .nil)) ((CallsR.val (l03Power_ok (n) (k) _ (by omega) (by omega) (by omega)) (congrArg (fun x : Nat => Value.int .i64 (x : Int)) (pwr_le (by omega) hk1))))) rfl ?_
  rintro _ w' a ⟨hx, rfl⟩ hF
  have hM := hM.ext hx
  refine st hF (g_assign hF rfl) rfl fun a hF => ?_
  refine wpList_nil ?_
  refine tN ?_
  refine sq ?_
  refine sq ?_
  refine wp_region_lit ?_
  refine st hF (g_assign hF rfl) rfl fun a hF => ?_
  refine wpList_nil ?_
  refine tN ?_
  refine wp_block ?_
  change Mem w _ [some (b1, tenC 0 0 0 0 (.slice none 0 0)), some (b2, numC ((n) ^ ((k) + (k))) (fun _ => 0)), some (b3, tenC ((p : Nat) : Int) ((n : Nat) : Int) ((k : Nat) : Int) ((k : Nat) : Int) (.slice (some ⟨b2, 0, none⟩) ((n) ^ ((k) + (k))) ((n) ^ ((k) + (k)))))] [] at hM
  refine c_loop (fun (kk : Nat) a w' => kk ≤ n ^ k ∧ (True) ∧ Fr 32 a [(0, .int .i64 (((p : Nat) : Int))), (1, .int .i64 (((n : Nat) : Int))), (2, .int .i64 (((k : Nat) : Int))), (6, ptr b1 (0)), (10, .int .i64 (((p : Nat) : Int))), (11, .int .i64 (((n : Nat) : Int))), (12, .int .i64 (((k : Nat) : Int))), (13, .int .i64 (((k : Nat) : Int))), (14, .agg (tenC ((p : Nat) : Int) ((n : Nat) : Int) ((k : Nat) : Int) ((k : Nat) : Int) (.slice (some ⟨b2, 0, none⟩) ((n) ^ ((k) + (k))) ((n) ^ ((k) + (k)))))), (7, ptr b3 (0)), (15, .int .i64 (((n : Nat) : Int))), (16, .int .i64 (((k : Nat) : Int))), (17, .int .i64 ((((n) ^ (k) : Nat) : Int))), (8, .int .i64 ((((n) ^ (k) : Nat) : Int))), (9, .int .i64 (((kk : Nat) : Int)))] ∧ Mem w w' [some (b1, tenC 0 0 0 0 (.slice none 0 0)), some (b2, numC (n ^ (k + k)) (dgF (n ^ k) kk)), some (b3, tenC ((p : Nat) : Int) ((n : Nat) : Int) ((k : Nat) : Int) ((k : Nat) : Int) (.slice (some ⟨b2, 0, none⟩) ((n) ^ ((k) + (k))) ((n) ^ ((k) + (k)))))] []) (fun kk => n ^ k - kk) 0 ?_ ?_
  ·
    refine ⟨by omega, trivial, hF.sub _ (by repeat' constructor), ?_⟩
    refine hM.rowc 1 rfl (numC_congr fun c hc => dg_0.symm)
  ·
    clear hF hM
    rintro gk a w' ⟨hgk, hinv1, hF, hM⟩
    have hidx : gk < n ^ k → gk * n ^ k + n ^ k ≤ n ^ (k + k) := idx_bd
    refine sq ?_
    refine sq ?_
    refine wp_region_lit ?_
    refine st hF (g_move hF rfl) rfl fun a hF => st hF (g_move hF rfl) rfl fun a hF => st hF (g_lss hF rfl rfl) rfl fun a hF => ?_
    refine wpList_nil ?_
    refine tN ?_
    refine c_cond hF rfl (fun h4 => ?_) (fun h4 => ?_)
    ·
      refine wp_skip ?_
      refine tN ?_
      refine sq ?_
      refine wp_block ?_
      refine wp_region_lit ?_
      refine st hF (g_fieldAddr ty_fo_27_4 hF rfl) rfl fun a hF => st hF (g_load ty_on_22 hF rfl (hM.row 2 rfl) (tenC_4 (by omega))) rfl fun a hF => st hF (g_move hF rfl) rfl fun a hF => st hF (g_move hF rfl) rfl fun a hF => st hF (g_mul hF rfl rfl (mul_nat (gk) ((n) ^ (k)) (by omega))) rfl fun a hF => st hF (g_move hF rfl) rfl fun a hF => st hF (g_add hF rfl rfl (add_nat ((gk) * ((n) ^ (k))) (gk) (by omega))) rfl fun a hF => st hF (g_indexSl (i := (gk) * ((n) ^ (k)) + gk) ty_sl_22 hF rfl rfl rfl (by omega)) rfl fun a hF => ?_
      refine stN hF (d_store 1 hM rfl ty_on_2 hF rfl rfl rfl (by first | omega | (simp only [fnC_size, cells_size, vecC_size, tabC_size, planeC_size, tenC_size, smC_size, numC_size, numI_size] <;> omega))) ?_
      intro _ w' a hM hF
      rw [show (numC (n ^ (k + k)) (dgF (n ^ k) gk)).setIfInBounds (0 + ((gk) * ((n) ^ (k)) + gk) * 1) (.int .i64 (1)) = numC (n ^ (k + k)) (fun c => if c = ((gk) * ((n) ^ (k)) + gk) then 1 else (dgF (n ^ k) gk) c) from numC_set (k := ((gk) * ((n) ^ (k)) + gk)) (by omega) (fun c _ => rfl)] at hM
      change Mem w w' [some (b1, tenC 0 0 0 0 (.slice none 0 0)), some (b2, numC (n ^ (k + k)) (fun c => if c = ((gk) * ((n) ^ (k)) + gk) then 1 else (dgF (n ^ k) gk) c)), some (b3, tenC ((p : Nat) : Int) ((n : Nat) : Int) ((k : Nat) : Int) ((k : Nat) : Int) (.slice (some ⟨b2, 0, none⟩) ((n) ^ ((k) + (k))) ((n) ^ ((k) + (k)))))] [] at hM
      refine wpList_nil ?_
      refine iN ?_
      refine tN ?_
      refine wp_region_lit ?_
      refine st hF (g_move hF rfl) rfl fun a hF => st hF (g_add hF rfl rfl (add_nat (gk) (1) (by omega))) rfl fun a hF => st hF (g_assign hF rfl) rfl fun a hF => ?_
      refine wpList_nil ?_
      refine tN ?_
      refine ⟨gk + 1, ⟨by omega, trivial, hF.sub _ (by repeat' constructor), ?_⟩, by omega⟩
      refine hM.rowc 1 rfl (numC_congr fun c hc => dg_step)
    ·
      obtain rfl : n ^ k = gk := by omega
      refine wp_exit ?_
      refine tX ?_
      refine tX ?_
      refine ib_same ?_
      refine tN ?_
      refine sq ?_
      refine wp_region_lit ?_
      refine st hF (g_loadAgg ty_ag_27 hF rfl (hM.row 2 rfl) (by simp only [fnC_size, cells_size, vecC_size, tabC_size, planeC_size, tenC_size, smC_size, numC_size, numI_size] <;> omega) (whole rfl)) rfl fun a hF => ?_
      refine stN hF (d_storeAgg 0 hM rfl ty_sz_27 hF rfl rfl (tenC_one rfl) (by simp only [fnC_size, cells_size, vecC_size, tabC_size, planeC_size, tenC_size, smC_size, numC_size, numI_size]) (by simp only [fnC_size, cells_size, vecC_size, tabC_size, planeC_size, tenC_size, smC_size, numC_size, numI_size] <;> omega) (splice_whole _ _ rfl)) ?_
      intro _ w' a hM hF
      change Mem w w' [some (b1, tenC ((p : Nat) : Int) ((n : Nat) : Int) ((k : Nat) : Int) ((k : Nat) : Int) (.slice (some ⟨b2, 0, none⟩) ((n) ^ ((k) + (k))) ((n) ^ ((k) + (k))))), some (b2, numC (n ^ (k + k)) (dgF (n ^ k) (n ^ k))), some (b3, tenC ((p : Nat) : Int) ((n : Nat) : Int) ((k : Nat) : Int) ((k : Nat) : Int) (.slice (some ⟨b2, 0, none⟩) ((n) ^ ((k) + (k))) ((n) ^ ((k) + (k)))))] [] at hM
      refine wpList_nil ?_
      refine tN ?_
      refine wp_ret ?_
      refine fin1 rfl hF.defers (res_agg ty_ag_27 hF rfl (hM.row 0 rfl) (by simp only [fnC_size, cells_size, vecC_size, tabC_size, planeC_size, tenC_size, smC_size, numC_size, numI_size])) ⟨_, rfl, hM.below, ?_⟩
      exact ⟨_, rfl, hM.ge 1 rfl, hM.row 1 rfl⟩

end Go.Proofs.Ythliekalhgafcaa
