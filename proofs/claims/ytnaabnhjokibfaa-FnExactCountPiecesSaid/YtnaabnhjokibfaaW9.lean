/- What functions of the program return, as walks over their operations; no statement of the seat is proved here. -/
import Derived.Test.YtnaabnhjokibfaaW8
import Derived.Test.YtnaabnhjokibfaaV1
import Derived.Test.YtnaabnhjokibfaaSw27
set_option linter.unusedVariables false
set_option linter.unusedSimpArgs false
namespace Go.Proofs.Ytnaabnhjokibfaa
open Go Go.RowKit Go.Sw
open Classical
theorem ty_us_40 : Try.prog.underlying 40 = some (.slice 2) := by kernel_rfl
theorem ty_sl_40 : sliceOf Try.prog 40 = some 1 := by kernel_rfl
theorem eqInt64S_ok (b bz m : Nat) (f h : Nat → Nat) (w : World) (hb : Blk w b (numC m f)) (hbz : Blk w bz (numC m h)) (hm : m < 10000000) (he : ∀ c, c < m → f c = h c) :
    CallsR Try.prog 23 #[.slice (some ⟨b, 0, none⟩) (m) (m), .slice (some ⟨bz, 0, none⟩) (m) (m)] w (fun res _ => res = .bool true) := by
  refine calls_fr [.slice (some ⟨b, 0, none⟩) (m) (m), .slice (some ⟨bz, 0, none⟩) (m) (m)] Try.func23 rfl Try.ntmps23 rfl fun a hF => ?_
  have hM : Mem w w [] [(b, numC m f), (bz, numC m h)] := MemX.startD w 0 _ (startD2 hb hbz)
  change Fr 26 a [(0, .slice (some ⟨b, 0, none⟩) (m) (m)), (1, .slice (some ⟨bz, 0, none⟩) (m) (m))] at hF
  refine sq ?_
  refine wp_region_lit ?_
  refine st hF (g_assign hF rfl) rfl fun a hF => ?_
  refine wpList_nil ?_
  refine tN ?_
  refine sq ?_
  refine sq ?_
  refine wp_region_lit ?_
  refine st hF (g_move hF rfl) rfl fun a hF => st hF (g_len ty_us_40 hF rfl) rfl fun a hF => st hF (g_move hF rfl) rfl fun a hF => st hF (g_len ty_us_40 hF rfl) rfl fun a hF => st hF (g_neq hF rfl rfl) rfl fun a hF => ?_
  refine wpList_nil ?_
  refine tN ?_
  refine c_cond hF rfl (fun h1 => ?_) (fun h1 => ?_)
  ·
    first | exact absurd rfl h1 | (exfalso; omega)
  ·
    refine wp_skip ?_
    refine tN ?_
    refine sq ?_
    refine sq ?_
    refine wp_region_lit ?_
    refine st hF (g_assign hF rfl) rfl fun a hF => ?_
    refine wpList_nil ?_
    refine tN ?_
    refine wp_block ?_
    change Mem w _ [] [(b, numC m f), (bz, numC m h)] at hM
    refine c_loop (fun (kk : Nat) a w' => kk ≤ m ∧ (True) ∧ Fr 26 a [(0, .slice (some ⟨b, 0, none⟩) (m) (m)), (1, .slice (some ⟨bz, 0, none⟩) (m) (m)), (6, .slice (some ⟨b, 0, none⟩) (m) (m)), (7, .int .i64 (((m : Nat) : Int))), (8, .slice (some ⟨bz, 0, none⟩) (m) (m)), (9, .int .i64 (((m : Nat) : Int))), (10, .bool (decide ((((m : Nat) : Int) : Int) ≠ ((m : Nat) : Int)))), (5, .int .i64 (((kk : Nat) : Int)))] ∧ Mem w w' [] [(b, numC m f), (bz, numC m h)]) (fun kk => m - kk) 0 ?_ ?_
    ·
      refine ⟨by omega, trivial, hF.sub _ (by repeat' constructor), ?_⟩
      exact hM
    ·
      clear hF hM
      rintro gk a w' ⟨hgk, hinv1, hF, hM⟩
      have hek := he gk
      refine sq ?_
      refine sq ?_
      refine wp_region_lit ?_
      refine st hF (g_move hF rfl) rfl fun a hF => st hF (g_move hF rfl) rfl fun a hF => st hF (g_len ty_us_40 hF rfl) rfl fun a hF => st hF (g_lss hF rfl rfl) rfl fun a hF => ?_
      refine wpList_nil ?_
      refine tN ?_
      refine c_cond hF rfl (fun h2 => ?_) (fun h2 => ?_)
      ·
        refine wp_skip ?_
        refine tN ?_
        refine sq ?_
        refine wp_block ?_
        refine sq ?_
        refine c_par 8 [] [.val (.slice (some ⟨b, 0, none⟩) (m) (m)), .val (.int .i64 (((gk : Nat) : Int))), .val (ptr b (0 + (gk) * 1)), .val (.int .i64 (((f (gk) : Nat) : Int))), .val (.slice (some ⟨bz, 0, none⟩) (m) (m)), .val (.int .i64 (((gk : Nat) : Int))), .val (ptr bz (0 + (gk) * 1)), .val (.int .i64 (((h (gk) : Nat) : Int)))] hmix rfl hF rfl hM ⟨fun a w gG hF hS hd => by exact par_val hS rfl (g_move hF rfl), fun a w gG hF hS hd => by exact par_val hS rfl (g_move hF rfl), fun a w gG hF hS hd => by have hF := hF.ext1 17 (hd 0 rfl rfl); have hF := hF.ext1 18 (hd 1 rfl rfl); exact par_val hS rfl (g_indexSl (i := gk) ty_sl_40 hF rfl rfl rfl (by omega)), fun a w gG hF hS hd => by have hF := hF.ext1 19 (hd 2 rfl rfl); have hM := hS.mem rfl; exact par_val hS rfl (g_load ty_on_2 hF rfl (hM.fz 0 rfl) (numC_get (k := gk) (by omega) (by omega))), fun a w gG hF hS hd => by exact par_val hS rfl (g_move hF rfl), fun a w gG hF hS hd => by exact par_val hS rfl (g_move hF rfl), fun a w gG hF hS hd => by have hF := hF.ext1 21 (hd 4 rfl rfl); have hF := hF.ext1 22 (hd 5 rfl rfl); exact par_val hS rfl (g_indexSl (i := gk) ty_sl_40 hF rfl rfl rfl (by omega)), fun a w gG hF hS hd => by have hF := hF.ext1 23 (hd 6 rfl rfl); have hM := hS.mem rfl; exact par_val hS rfl (g_load ty_on_2 hF rfl (hM.fz 1 rfl) (numC_get (k := gk) (by omega) (by omega))), trivial⟩ ?_
        intro a w' L hF hS hq
        have hF := hF.ext1 17 (hq 0 rfl rfl)
        have hF := hF.ext1 18 (hq 1 rfl rfl)
        have hF := hF.ext1 19 (hq 2 rfl rfl)
        have hF := hF.ext1 20 (hq 3 rfl rfl)
        have hF := hF.ext1 21 (hq 4 rfl rfl)
        have hF := hF.ext1 22 (hq 5 rfl rfl)
        have hF := hF.ext1 23 (hq 6 rfl rfl)
        have hF := hF.ext1 24 (hq 7 rfl rfl)
        have hM := hS.mem rfl
        change wpList Try.prog _ _ [_] _ _
        refine st hF (g_neq hF rfl rfl) rfl fun a hF => ?_
        refine wpList_nil ?_
        refine tN ?_
        refine c_cond hF rfl (fun h3 => ?_) (fun h3 => ?_)
        ·
          first | exact absurd rfl h3 | (exfalso; omega)
        ·
          refine wp_skip ?_
          refine iN ?_
          refine tN ?_
          refine wp_region_lit ?_
          refine st hF (g_move hF rfl) rfl fun a hF => st hF (g_add hF rfl rfl (add_nat (gk) (1) (by omega))) rfl fun a hF => st hF (g_assign hF rfl) rfl fun a hF => ?_
          refine wpList_nil ?_
          refine tN ?_
          refine ⟨gk + 1, ⟨by omega, trivial, hF.sub _ (by repeat' constructor), ?_⟩, by omega⟩
          exact hM
      ·
        obtain rfl : m = gk := by omega
        refine wp_exit ?_
        refine tX ?_
        refine tX ?_
        refine ib_same ?_
        refine tN ?_
        refine sq ?_
        refine wp_region_lit ?_
        refine st hF (g_assign hF rfl) rfl fun a hF => ?_
        refine wpList_nil ?_
        refine tN ?_
        refine wp_ret ?_
        refine fin1 rfl hF.defers (res_tmp hF rfl) ⟨_, rfl, hM.below, ?_⟩
        show _ = _
        rfl

theorem eqInt64S_0  (w : World)  :
    CallsR Try.prog 23 #[.slice none 0 0, .slice none 0 0] w (fun res _ => res = .bool true) := by
  refine calls_fr [.slice none 0 0, .slice none 0 0] Try.func23 rfl Try.ntmps23 rfl fun a hF => ?_
  have hM : Mem w w [] [] := MemX.start w 0
  change Fr 26 a [(0, .slice none 0 0), (1, .slice none 0 0)] at hF
  refine sq ?_
  refine wp_region_lit ?_
  refine st hF (g_assign hF rfl) rfl fun a hF => ?_
  refine wpList_nil ?_
  refine tN ?_
  refine sq ?_
  refine sq ?_
  refine wp_region_lit ?_
  refine st hF (g_move hF rfl) rfl fun a hF => st hF (g_len0 ty_us_40 hF rfl) rfl fun a hF => st hF (g_move hF rfl) rfl fun a hF => st hF (g_len0 ty_us_40 hF rfl) rfl fun a hF => st hF (g_neq hF rfl rfl) rfl fun a hF => ?_
  refine wpList_nil ?_
  refine tN ?_
  refine c_kF hF rfl (by decide) ?_
  refine wp_skip ?_
  refine tN ?_
  refine sq ?_
  refine sq ?_
  refine wp_region_lit ?_
  refine st hF (g_assign hF rfl) rfl fun a hF => ?_
  refine wpList_nil ?_
  refine tN ?_
  refine wp_block ?_
  change Mem w _ [] [] at hM
  refine c_loop (fun (kk : Nat) a w' => kk ≤ 0 ∧ (True) ∧ Fr 26 a [(0, .slice none 0 0), (1, .slice none 0 0), (6, .slice none 0 0), (7, .int .i64 (0)), (8, .slice none 0 0), (9, .int .i64 (0)), (10, .bool (decide ((0 : Int) ≠ 0))), (5, .int .i64 (((kk : Nat) : Int)))] ∧ Mem w w' [] []) (fun kk => 0 - kk) 0 ?_ ?_
  ·
    refine ⟨by omega, trivial, hF.sub _ (by repeat' constructor), ?_⟩
    exact hM
  ·
    clear hF hM
    rintro gk a w' ⟨hgk, hinv1, hF, hM⟩
    refine sq ?_
    refine sq ?_
    refine wp_region_lit ?_
    refine st hF (g_move hF rfl) rfl fun a hF => st hF (g_move hF rfl) rfl fun a hF => st hF (g_len0 ty_us_40 hF rfl) rfl fun a hF => st hF (g_lss hF rfl rfl) rfl fun a hF => ?_
    refine wpList_nil ?_
    refine tN ?_
    refine c_cond hF rfl (fun h2 => ?_) (fun h2 => ?_)
    ·
      first | (exfalso; omega) | contradiction
    ·
      obtain rfl : 0 = gk := by omega
      refine wp_exit ?_
      refine tX ?_
      refine tX ?_
      refine ib_same ?_
      refine tN ?_
      refine sq ?_
      refine wp_region_lit ?_
      refine st hF (g_assign hF rfl) rfl fun a hF => ?_
      refine wpList_nil ?_
      refine tN ?_
      refine wp_ret ?_
      refine fin1 rfl hF.defers (res_tmp hF rfl) ⟨_, rfl, hM.below, ?_⟩
      show _ = _
      rfl

theorem markInt64S_ok (b m k : Nat) (f : Nat → Nat) (w : World) (hm : m < 10000000) (hk : k < 100000000) (hb : Blk w b (numC m f)) :
    CallsX Try.prog [b] 24 #[.slice (some ⟨b, 0, none⟩) (m) (m), .int .i64 (((k : Nat) : Int))] w (fun v w' => v = .int .i64 ((k + m : Nat) : Int) ∧ Blk w' b (numC m (fun c => k + c))) := by
  refine calls_frX [.slice (some ⟨b, 0, none⟩) (m) (m), .int .i64 (((k : Nat) : Int))] Try.func24 rfl Try.ntmps24 rfl fun a hF => ?_
  have hM : MemX [b] w w [some (b, numC m f)] [] := MemX.startX1 0 hb
  change Fr 19 a [(0, .slice (some ⟨b, 0, none⟩) (m) (m)), (1, .int .i64 (((k : Nat) : Int)))] at hF
  refine sq ?_
  refine wp_region_lit ?_
  refine st hF (g_assign hF rfl) rfl fun a hF => ?_
  refine wpList_nil ?_
  refine tN ?_
  refine sq ?_
  refine sq ?_
  refine wp_region_lit ?_
  refine st hF (g_assign hF rfl) rfl fun a hF => ?_
  refine wpList_nil ?_
  refine tN ?_
  refine wp_block ?_
  change MemX [b] w _ [some (b, numC m f)] [] at hM
  refine c_loop (fun (kk : Nat) a w' => kk ≤ m ∧ (True) ∧ Fr 19 a [(0, .slice (some ⟨b, 0, none⟩) (m) (m)), (4, .int .i64 (0)), (5, .int .i64 (((kk : Nat) : Int))), (1, .int .i64 (((k + kk : Nat) : Int)))] ∧ MemX [b] w w' [some (b, numC m (fun c => if c < kk then k + c else f c))] []) (fun kk => m - kk) 0 ?_ ?_
  ·
    refine ⟨by omega, trivial, hF.sub _ (by repeat' constructor), ?_⟩
    exact hM.rowc 0 rfl (numC_congr fun c hc => by simp)
  ·
    clear hF hM
    rintro gk a w' ⟨hgk, hinv1, hF, hM⟩
    refine sq ?_
    refine sq ?_
    refine wp_region_lit ?_
    refine st hF (g_move hF rfl) rfl fun a hF => st hF (g_move hF rfl) rfl fun a hF => st hF (g_len ty_us_40 hF rfl) rfl fun a hF => st hF (g_lss hF rfl rfl) rfl fun a hF => ?_
    refine wpList_nil ?_
    refine tN ?_
    refine c_cond hF rfl (fun h1 => ?_) (fun h1 => ?_)
    ·
      refine wp_skip ?_
      refine tN ?_
      refine sq ?_
      refine wp_block ?_
      refine sq ?_
      refine wp_region_lit ?_
      refine st hF (g_move hF rfl) rfl fun a hF => st hF (g_move hF rfl) rfl fun a hF => st hF (g_move hF rfl) rfl fun a hF => st hF (g_indexSl (i := gk) ty_sl_40 hF rfl rfl rfl (by omega)) rfl fun a hF => ?_
      refine stN hF (d_store 0 hM rfl ty_on_2 hF rfl rfl rfl (by first | omega | (simp only [fnC_size, cells_size, vecC_size, tabC_size, planeC_size, layC_size, numC_size] <;> omega))) ?_
      intro _ w' a hM hF
      rw [show (numC m (fun c => if c < gk then k + c else f c)).setIfInBounds (0 + (gk) * 1) (.int .i64 (((k + gk : Nat) : Int))) = numC m (fun c => if c = gk then k + gk else (fun c => if c < gk then k + c else f c) c) from numC_set (k := gk) (by omega) (fun c _ => rfl)] at hM
      change MemX [b] w w' [some (b, numC m (fun c => if c = gk then k + gk else (fun c => if c < gk then k + c else f c) c))] [] at hM
      refine wpList_nil ?_
      refine tN ?_
      refine wp_region_lit ?_
      refine st hF (g_move hF rfl) rfl fun a hF => st hF (g_add hF rfl rfl (add_nat (k + gk) (1) (by omega))) rfl fun a hF => st hF (g_assign hF rfl) rfl fun a hF => ?_
      refine wpList_nil ?_
      refine iN ?_
      refine tN ?_
      refine wp_region_lit ?_
      refine st hF (g_move hF rfl) rfl fun a hF => st hF (g_add hF rfl rfl (add_nat (gk) (1) (by omega))) rfl fun a hF => st hF (g_assign hF rfl) rfl fun a hF => ?_
      refine wpList_nil ?_
      refine tN ?_
      refine ⟨gk + 1, ⟨by omega, trivial, hF.sub _ (by repeat' constructor), ?_⟩, by omega⟩
      refine hM.rowc 0 rfl (numC_congr fun c hc => ?_)
      by_cases e1 : c = gk
      · subst e1; simp
      · have e0 : (c < gk + 1) = (c < gk) := by apply propext; omega
        simp [e0, e1]
    ·
      obtain rfl : m = gk := by omega
      refine wp_exit ?_
      refine tX ?_
      refine tX ?_
      refine ib_same ?_
      refine tN ?_
      refine sq ?_
      refine wp_region_lit ?_
      refine st hF (g_move hF rfl) rfl fun a hF => st hF (g_assign hF rfl) rfl fun a hF => ?_
      refine wpList_nil ?_
      refine tN ?_
      refine wp_ret ?_
      refine fin1 rfl hF.defers (res_tmp hF rfl) ⟨_, rfl, hM.bel, ?_⟩
      exact ⟨rfl, (hM.rowc (cs' := numC m (fun c => k + c)) 0 rfl (numC_congr fun c hc => by simp [hc])).row 0 rfl⟩

theorem markInt64S_0 (k : Nat) (w : World) (hk : k < 10000000) :
    CallsR Try.prog 24 #[.slice none 0 0, .int .i64 (((k : Nat) : Int))] w (fun res _ => res = .int .i64 ((k : Nat) : Int)) := by
  refine calls_fr [.slice none 0 0, .int .i64 (((k : Nat) : Int))] Try.func24 rfl Try.ntmps24 rfl fun a hF => ?_
  have hM : Mem w w [] [] := MemX.start w 0
  change Fr 19 a [(0, .slice none 0 0), (1, .int .i64 (((k : Nat) : Int)))] at hF
  refine sq ?_
  refine wp_region_lit ?_
  refine st hF (g_assign hF rfl) rfl fun a hF => ?_
  refine wpList_nil ?_
  refine tN ?_
  refine sq ?_
  refine sq ?_
  refine wp_region_lit ?_
  refine st hF (g_assign hF rfl) rfl fun a hF => ?_
  refine wpList_nil ?_
  refine tN ?_
  refine wp_block ?_
  change Mem w _ [] [] at hM
  refine c_loop (fun (kk : Nat) a w' => kk ≤ 0 ∧ (True) ∧ Fr 19 a [(0, .slice none 0 0), (4, .int .i64 (0)), (5, .int .i64 (((kk : Nat) : Int))), (1, .int .i64 (((k + kk : Nat) : Int)))] ∧ Mem w w' [] []) (fun kk => 0 - kk) 0 ?_ ?_
  ·
    refine ⟨by omega, trivial, hF.sub _ (by repeat' constructor), ?_⟩
    exact hM
  ·
    clear hF hM
    rintro gk a w' ⟨hgk, hinv1, hF, hM⟩
    refine sq ?_
    refine sq ?_
    refine wp_region_lit ?_
    refine st hF (g_move hF rfl) rfl fun a hF => st hF (g_move hF rfl) rfl fun a hF => st hF (g_len0 ty_us_40 hF rfl) rfl fun a hF => st hF (g_lss hF rfl rfl) rfl fun a hF => ?_
    refine wpList_nil ?_
    refine tN ?_
    refine c_cond hF rfl (fun h1 => ?_) (fun h1 => ?_)
    ·
      exfalso; omega
    ·
      obtain rfl : 0 = gk := by omega
      refine wp_exit ?_
      refine tX ?_
      refine tX ?_
      refine ib_same ?_
      refine tN ?_
      refine sq ?_
      refine wp_region_lit ?_
      refine st hF (g_move hF rfl) rfl fun a hF => st hF (g_assign hF rfl) rfl fun a hF => ?_
      refine wpList_nil ?_
      refine tN ?_
      refine wp_ret ?_
      refine fin1 rfl hF.defers (res_tmp hF rfl) ⟨_, rfl, hM.below, ?_⟩
      show _ = _
      rfl

theorem heldInt64S_ok (b m k : Nat) (f : Nat → Nat) (w : World) (hm : m < 10000000) (hk : k < 100000000) (hb : Blk w b (numC m f)) (he : ∀ c, c < m → f c = k + c) :
    CallsR Try.prog 25 #[.slice (some ⟨b, 0, none⟩) (m) (m), .int .i64 (((k : Nat) : Int))] w (fun res _ => res = .int .i64 ((k + m : Nat) : Int)) := by
  refine calls_fr [.slice (some ⟨b, 0, none⟩) (m) (m), .int .i64 (((k : Nat) : Int))] Try.func25 rfl Try.ntmps25 rfl fun a hF => ?_
  have hM : Mem w w [] [(b, numC m f)] := MemX.startD w 0 _ (startD1 hb)
  change Fr 21 a [(0, .slice (some ⟨b, 0, none⟩) (m) (m)), (1, .int .i64 (((k : Nat) : Int)))] at hF
  refine sq ?_
  refine wp_region_lit ?_
  refine st hF (g_assign hF rfl) rfl fun a hF => ?_
  refine wpList_nil ?_
  refine tN ?_
  refine sq ?_
  refine sq ?_
  refine wp_region_lit ?_
  refine st hF (g_assign hF rfl) rfl fun a hF => ?_
  refine wpList_nil ?_
  refine tN ?_
  refine wp_block ?_
  change Mem w _ [] [(b, numC m f)] at hM
  refine c_loop (fun (kk : Nat) a w' => kk ≤ m ∧ (True) ∧ Fr 21 a [(0, .slice (some ⟨b, 0, none⟩) (m) (m)), (5, .int .i64 (((kk : Nat) : Int))), (1, .int .i64 (((k + kk : Nat) : Int)))] ∧ Mem w w' [] [(b, numC m f)]) (fun kk => m - kk) 0 ?_ ?_
  ·
    refine ⟨by omega, trivial, hF.sub _ (by repeat' constructor), ?_⟩
    exact hM
  ·
    clear hF hM
    rintro gk a w' ⟨hgk, hinv1, hF, hM⟩
    have hek := he gk
    refine sq ?_
    refine sq ?_
    refine wp_region_lit ?_
    refine st hF (g_move hF rfl) rfl fun a hF => st hF (g_move hF rfl) rfl fun a hF => st hF (g_len ty_us_40 hF rfl) rfl fun a hF => st hF (g_lss hF rfl rfl) rfl fun a hF => ?_
    refine wpList_nil ?_
    refine tN ?_
    refine c_cond hF rfl (fun h1 => ?_) (fun h1 => ?_)
    ·
      refine wp_skip ?_
      refine tN ?_
      refine sq ?_
      refine wp_block ?_
      refine sq ?_
      refine sq ?_
      refine wp_region_lit ?_
      refine st hF (g_move hF rfl) rfl fun a hF => st hF (g_move hF rfl) rfl fun a hF => st hF (g_indexSl (i := gk) ty_sl_40 hF rfl rfl rfl (by omega)) rfl fun a hF => st hF (g_load ty_on_2 hF rfl (hM.fz 0 rfl) (numC_get (k := gk) (by omega) (by omega))) rfl fun a hF => st hF (g_move hF rfl) rfl fun a hF => st hF (g_neq hF rfl rfl) rfl fun a hF => ?_
      refine wpList_nil ?_
      refine tN ?_
      refine c_cond hF rfl (fun h2 => ?_) (fun h2 => ?_)
      ·
        exfalso; omega
      ·
        refine wp_skip ?_
        refine tN ?_
        refine wp_region_lit ?_
        refine st hF (g_move hF rfl) rfl fun a hF => st hF (g_add hF rfl rfl (add_nat (k + gk) (1) (by omega))) rfl fun a hF => st hF (g_assign hF rfl) rfl fun a hF => ?_
        refine wpList_nil ?_
        refine iN ?_
        refine tN ?_
        refine wp_region_lit ?_
        refine st hF (g_move hF rfl) rfl fun a hF => st hF (g_add hF rfl rfl (add_nat (gk) (1) (by omega))) rfl fun a hF => st hF (g_assign hF rfl) rfl fun a hF => ?_
        refine wpList_nil ?_
        refine tN ?_
        refine ⟨gk + 1, ⟨by omega, trivial, hF.sub _ (by repeat' constructor), ?_⟩, by omega⟩
        exact hM
    ·
      obtain rfl : m = gk := by omega
      refine wp_exit ?_
      refine tX ?_
      refine tX ?_
      refine ib_same ?_
      refine tN ?_
      refine sq ?_
      refine wp_region_lit ?_
      refine st hF (g_move hF rfl) rfl fun a hF => st hF (g_assign hF rfl) rfl fun a hF => ?_
      refine wpList_nil ?_
      refine tN ?_
      refine wp_ret ?_
      refine fin1 rfl hF.defers (res_tmp hF rfl) ⟨_, rfl, hM.below, ?_⟩
      show _ = _
      rfl

theorem heldInt64S_0 (k : Nat) (w : World) (hk : k < 10000000) :
    CallsR Try.prog 25 #[.slice none 0 0, .int .i64 (((k : Nat) : Int))] w (fun res _ => res = .int .i64 ((k : Nat) : Int)) := by
  refine calls_fr [.slice none 0 0, .int .i64 (((k : Nat) : Int))] Try.func25 rfl Try.ntmps25 rfl fun a hF => ?_
  have hM : Mem w w [] [] := MemX.start w 0
  change Fr 21 a [(0, .slice none 0 0), (1, .int .i64 (((k : Nat) : Int)))] at hF
  refine sq ?_
  refine wp_region_lit ?_
  refine st hF (g_assign hF rfl) rfl fun a hF => ?_
  refine wpList_nil ?_
  refine tN ?_
  refine sq ?_
  refine sq ?_
  refine wp_region_lit ?_
  refine st hF (g_assign hF rfl) rfl fun a hF => ?_
  refine wpList_nil ?_
  refine tN ?_
  refine wp_block ?_
  change Mem w _ [] [] at hM
  refine c_loop (fun (kk : Nat) a w' => kk ≤ 0 ∧ (True) ∧ Fr 21 a [(0, .slice none 0 0), (5, .int .i64 (((kk : Nat) : Int))), (1, .int .i64 (((k + kk : Nat) : Int)))] ∧ Mem w w' [] []) (fun kk => 0 - kk) 0 ?_ ?_
  ·
    refine ⟨by omega, trivial, hF.sub _ (by repeat' constructor), ?_⟩
    exact hM
  ·
    clear hF hM
    rintro gk a w' ⟨hgk, hinv1, hF, hM⟩
    refine sq ?_
    refine sq ?_
    refine wp_region_lit ?_
    refine st hF (g_move hF rfl) rfl fun a hF => st hF (g_move hF rfl) rfl fun a hF => st hF (g_len0 ty_us_40 hF rfl) rfl fun a hF => st hF (g_lss hF rfl rfl) rfl fun a hF => ?_
    refine wpList_nil ?_
    refine tN ?_
    refine c_cond hF rfl (fun h1 => ?_) (fun h1 => ?_)
    ·
      exfalso; omega
    ·
      obtain rfl : 0 = gk := by omega
      refine wp_exit ?_
      refine tX ?_
      refine tX ?_
      refine ib_same ?_
      refine tN ?_
      refine sq ?_
      refine wp_region_lit ?_
      refine st hF (g_move hF rfl) rfl fun a hF => st hF (g_assign hF rfl) rfl fun a hF => ?_
      refine wpList_nil ?_
      refine tN ?_
      refine wp_ret ?_
      refine fin1 rfl hF.defers (res_tmp hF rfl) ⟨_, rfl, hM.below, ?_⟩
      show _ = _
      rfl

def letN (k : Nat) : Nat := if k = 0 then 105 else if k = 1 then 120 else if k = 2 then 109 else if k = 3 then 115 else if k = 4 then 117 else 101
def cntL (s : ByteArray) (k : Nat) : Nat → Nat
  | 0 => 0
  | i + 1 => if byt s i = letN k then cntL s k i + 1 else cntL s k i
theorem cntL_le {s : ByteArray} {k : Nat} : ∀ i : Nat, cntL s k i ≤ i
  | 0 => Nat.le_refl _
  | i + 1 => by have := cntL_le (s := s) (k := k) i; rw [cntL]; split <;> omega
theorem byt_lets {k : Nat} (hk : k < 6) : byt (⟨#[105, 120, 109, 115, 117, 101]⟩ : ByteArray) k = letN k := by
  obtain rfl | rfl | rfl | rfl | rfl | rfl : k = 0 ∨ k = 1 ∨ k = 2 ∨ k = 3 ∨ k = 4 ∨ k = 5 := by omega
  all_goals rfl
theorem lets_ext {k : Nat} (hk : k < 6) : (⟨#[105, 120, 109, 115, 117, 101]⟩ : ByteArray).extract k (k + 1) = ⟨#[UInt8.ofNat (letN k)]⟩ := by
  obtain rfl | rfl | rfl | rfl | rfl | rfl : k = 0 ∨ k = 1 ∨ k = 2 ∨ k = 3 ∨ k = 4 ∨ k = 5 := by omega
  all_goals decide
theorem letN_lt {k : Nat} : letN k < 256 := by unfold letN; split; omega; split; omega; split; omega; split; omega; split <;> omega
theorem countByte_take {s : ByteArray} {k : Nat} : ∀ i, i ≤ s.size → Lib.countByte (s.data.toList.take i) (UInt8.ofNat (letN k)) = cntL s k i
  | 0, _ => by simp [Lib.countByte, cntL]
  | i + 1, h => by
    have ih := countByte_take (s := s) (k := k) i (by omega)
    have hlt : i < s.data.toList.length := by rw [Array.length_toList]; exact h
    have e1 : s.data.toList.take (i + 1) = s.data.toList.take i ++ [s.data.toList[i]] := by rw [List.take_add_one, List.getElem?_eq_getElem hlt]; rfl
    have e2 : byt s i = (s.data.toList[i]).toNat := by
      unfold byt; rw [Array.getD_eq_getD_getElem?, ← Array.getElem?_toList, List.getElem?_eq_getElem hlt]; rfl
    unfold Lib.countByte at ih ⊢
    rw [e1, List.count_append, ih, cntL, e2]
    have h256 := letN_lt (k := k)
    have e3 : (UInt8.ofNat (letN k)).toNat = letN k := by simp; omega
    by_cases e : (s.data.toList[i]).toNat = letN k
    · have : s.data.toList[i] = UInt8.ofNat (letN k) := UInt8.toNat_inj.1 (by rw [e3]; exact e)
      rw [if_pos e, this]; simp
    · have : ¬ s.data.toList[i] = UInt8.ofNat (letN k) := fun e4 => e (by rw [e4, e3])
      rw [if_neg e, List.count_singleton, if_neg (by simpa using this)]; rfl
theorem count_let (s : ByteArray) (k : Nat) (w : World) (hk : k < 6) : CallsR Try.prog 43 #[.string s, .string ((⟨#[105, 120, 109, 115, 117, 101]⟩ : ByteArray).extract k (k + 1))] w (fun u _ => u = .int .i64 ((cntL s k s.size : Nat) : Int)) := by
  rw [lets_ext hk]
  refine (Try.strings_Count_one s (UInt8.ofNat (letN k)) w).mono fun e w' ⟨he, hw⟩ => ⟨_, he, hw ▸ Ext.refl _, ?_⟩
  have := countByte_take (s := s) (k := k) s.size (Nat.le_refl _)
  rw [List.take_of_length_le (by simp)] at this
  rw [this]

end Go.Proofs.Ytnaabnhjokibfaa
