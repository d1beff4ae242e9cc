/- What functions of the program return, as walks over their operations; no statement of the seat is proved here. -/
import Derived.Test.YtbeodbfbfbefkaaDoorZ11
import Derived.Test.YtbeodbfbfbefkaaDoorQ7
set_option linter.unusedVariables false
set_option linter.unusedSimpArgs false
namespace Go.Proofs.YtbeodbfbfbefkaaDoor
open Go Go.RowKit Go.Sw Go.Ech
open Classical
theorem ty_ag_26 : aggP Tryd.prog 26 = some 224 := by kernel_rfl
def cutR (n R : Nat) (W : Nat → Nat → Nat) (i c : Nat) : Nat := if i < R ∧ c < n then W i c else 0
theorem eqVectorS_ok (b1 c1 b2 c2 m : Nat) (cs1 cs2 : Array Value) (v1 v2 : Value) (e1 e2 : Option (Nat × Array Value)) (V1 V2 : Nat → Nat → Nat) (w : World) (hm : m < 1000) (hs1 : SlAt 6 v1 e1 m b1 c1 cs1 (fun c => .int .u8 ((V1 (c / 6) (c % 6) : Nat) : Int))) (hb1 : Blk w b1 cs1) (hs2 : SlAt 6 v2 e2 m b2 c2 cs2 (fun c => .int .u8 ((V2 (c / 6) (c % 6) : Nat) : Int))) (hb2 : Blk w b2 cs2) (hv1 : ∀ i c, V1 i c ≤ 255) (hv2 : ∀ i c, V2 i c ≤ 255) (he : ∀ i, i < m → eqV 6 (V1 i) (V2 i)) :
    CallsR Tryd.prog 10 #[.slice (some ⟨b1, 0, none⟩) (m) (c1), .slice (some ⟨b2, 0, none⟩) (m) (c2)] w (fun res _ => res = .bool true) := by
  refine calls_fr [.slice (some ⟨b1, 0, none⟩) (m) (c1), .slice (some ⟨b2, 0, none⟩) (m) (c2)] Tryd.func10 rfl Tryd.ntmps10 rfl fun a hF => ?_
  have hM : Mem w w [] [(b1, cs1), (b2, cs2)] := MemX.startD w 0 _ (startD2 hb1 hb2)
  change Fr 27 a [(0, .slice (some ⟨b1, 0, none⟩) (m) (c1)), (1, .slice (some ⟨b2, 0, none⟩) (m) (c2))] at hF
  refine sq (wp_region_lit ?_)
  refine st hF (g_assign hF rfl) rfl fun a hF => ?_
  refine wpList_nil (tN (sq (sq (wp_region_lit ?_))))
  refine st hF (g_move hF rfl) rfl fun a hF => st hF (g_len ty_us_27 hF rfl) rfl fun a hF => st hF (g_move hF rfl) rfl fun a hF => st hF (g_len ty_us_27 hF rfl) rfl fun a hF => st hF (g_neq hF rfl rfl) rfl fun a hF => ?_
  refine wpList_nil (tN ?_)
  refine c_cond hF rfl (fun h1 => ?_) (fun h1 => ?_)
  ·
   exact absurd rfl h1
  ·
   refine wp_skip (tN (sq (sq (wp_region_lit ?_))))
   refine st hF (g_assign hF rfl) rfl fun a hF => ?_
   refine wpList_nil (tN (wp_block ?_))
   change Mem w _ [] [(b1, cs1), (b2, cs2)] at hM
   refine c_loop (fun (kk : Nat) a w' => kk ≤ m ∧ (True) ∧ Fr 27 a [(0, .slice (some ⟨b1, 0, none⟩) (m) (c1)), (1, .slice (some ⟨b2, 0, none⟩) (m) (c2)), (6, .slice (some ⟨b1, 0, none⟩) (m) (c1)), (7, .int .i64 (((m : Nat) : Int))), (8, .slice (some ⟨b2, 0, none⟩) (m) (c2)), (9, .int .i64 (((m : Nat) : Int))), (10, .bool (decide ((((m : Nat) : Int) : Int) ≠ ((m : Nat) : Int)))), (5, .int .i64 (((kk : Nat) : Int)))] ∧ Mem w w' [] [(b1, cs1), (b2, cs2)]) (fun kk => m - kk) 0 ?_ ?_
   ·
    refine ⟨by omega, trivial, hF.sub _ (by repeat' constructor), ?_⟩
    exact hM
   ·
    clear hF hM
    rintro gk a w' ⟨hgk, hinv1, hF, hM⟩
    refine sq (sq (wp_region_lit ?_))
    refine st hF (g_move hF rfl) rfl fun a hF => st hF (g_move hF rfl) rfl fun a hF => st hF (g_len ty_us_27 hF rfl) rfl fun a hF => st hF (g_lss hF rfl rfl) rfl fun a hF => ?_
    refine wpList_nil (tN ?_)
    refine c_cond hF rfl (fun h2 => ?_) (fun h2 => ?_)
    ·
     refine wp_skip (tN (sq (wp_block (sq ?_))))
     refine c_par 8 [] [.val (.slice (some ⟨b1, 0, none⟩) (m) (c1)), .val (.int .i64 (((gk : Nat) : Int))), .val (ptr b1 (0 + (gk) * 6)), .val (.agg (vecC (V1 (gk)))), .val (.slice (some ⟨b2, 0, none⟩) (m) (c2)), .val (.int .i64 (((gk : Nat) : Int))), .val (ptr b2 (0 + (gk) * 6)), .val (.agg (vecC (V2 (gk))))] hmix rfl hF rfl hM ⟨fun a w gG hF hS hd => by exact par_val hS rfl (g_move hF rfl), fun a w gG hF hS hd => by exact par_val hS rfl (g_move hF rfl), fun a w gG hF hS hd => by have hF := hF.ext1 17 (hd 0 rfl rfl); have hF := hF.ext1 18 (hd 1 rfl rfl); exact par_val hS rfl (g_indexSl (i := gk) ty_sl_27 hF rfl rfl rfl (by omega)), fun a w gG hF hS hd => by have hF := hF.ext1 19 (hd 2 rfl rfl); have hM := hS.mem rfl; exact par_val hS rfl (g_loadAgg ty_ag_30 hF rfl (hM.fz 0 rfl) (hs1.room (gk) (by omega)) (hs1.vec0 (gk) (by omega))), fun a w gG hF hS hd => by exact par_val hS rfl (g_move hF rfl), fun a w gG hF hS hd => by exact par_val hS rfl (g_move hF rfl), fun a w gG hF hS hd => by have hF := hF.ext1 21 (hd 4 rfl rfl); have hF := hF.ext1 22 (hd 5 rfl rfl); exact par_val hS rfl (g_indexSl (i := gk) ty_sl_27 hF rfl rfl rfl (by omega)), fun a w gG hF hS hd => by have hF := hF.ext1 23 (hd 6 rfl rfl); have hM := hS.mem rfl; exact par_val hS rfl (g_loadAgg ty_ag_30 hF rfl (hM.fz 1 rfl) (hs2.room (gk) (by omega)) (hs2.vec0 (gk) (by omega))), trivial⟩ ?_
     intro a w' L hF hS hq
     have hF := hF.ext1 17 (hq 0 rfl rfl)
     have hF := hF.ext1 18 (hq 1 rfl rfl)
     have hF := hF.ext1 19 (hq 2 rfl rfl)
     have hF := hF.ext1 20 (hq 3 rfl rfl)
     have hF := hF.ext1 21 (hq 4 rfl rfl)
     have hF := hF.ext1 22 (hq 5 rfl rfl)
     have hF := hF.ext1 23 (hq 6 rfl rfl)
     have hF := hF.ext1 24 (hq 7 rfl rfl)
     have hM := hS.mem rfl
     change wpList Tryd.prog _ _ [_, _] _ _
     refine stR hF (d_call Tryd.call25 hF (.cons rfl (.cons rfl .nil)) (eqVector_ok (V1 (gk)) (V2 (gk)) _)) rfl ?_
     rintro _ w' a ⟨hx, rfl⟩ hF
     have hM := hM.ext hx
     refine st hF (g_notP hF rfl) rfl fun a hF => ?_
     refine wpList_nil (tN ?_)
     refine c_cond hF rfl (fun h3 => ?_) (fun h3 => ?_)
     ·
      exact absurd (he gk (by omega)) h3
     ·
      refine wp_skip (iN (tN (wp_region_lit ?_)))
      refine st hF (g_move hF rfl) rfl fun a hF => st hF (g_add hF rfl rfl (add_nat (gk) (1) (by omega))) rfl fun a hF => st hF (g_assign hF rfl) rfl fun a hF => ?_
      refine wpList_nil (tN ?_)
      refine ⟨gk + 1, ⟨by omega, trivial, hF.sub _ (by repeat' constructor), ?_⟩, by omega⟩
      exact hM
    ·
     obtain rfl : m = gk := by omega
     refine wp_exit (tX (tX ?_))
     refine ib_same ?_
     refine tN (sq (wp_region_lit ?_))
     refine st hF (g_assign hF rfl) rfl fun a hF => ?_
     refine wpList_nil (tN (wp_ret ?_))
     refine fin1 rfl hF.defers (res_tmp hF rfl) ⟨_, rfl, hM.below, ?_⟩
     show _ = _
     rfl

theorem eqVectorS_0  (w : World)  :
    CallsR Tryd.prog 10 #[.slice none 0 0, .slice none 0 0] w (fun res _ => res = .bool true) := by
  refine calls_fr [.slice none 0 0, .slice none 0 0] Tryd.func10 rfl Tryd.ntmps10 rfl fun a hF => ?_
  have hM : Mem w w [] [] := MemX.start w 0
  change Fr 27 a [(0, .slice none 0 0), (1, .slice none 0 0)] at hF
  refine sq (wp_region_lit ?_)
  refine st hF (g_assign hF rfl) rfl fun a hF => ?_
  refine wpList_nil (tN (sq (sq (wp_region_lit ?_))))
  refine st hF (g_move hF rfl) rfl fun a hF => st hF (g_len0 ty_us_27 hF rfl) rfl fun a hF => st hF (g_move hF rfl) rfl fun a hF => st hF (g_len0 ty_us_27 hF rfl) rfl fun a hF => st hF (g_neq hF rfl rfl) rfl fun a hF => ?_
  refine wpList_nil (tN ?_)
  refine c_kF hF rfl (by decide) ?_
  refine wp_skip (tN (sq (sq (wp_region_lit ?_))))
  refine st hF (g_assign hF rfl) rfl fun a hF => ?_
  refine wpList_nil (tN (wp_block ?_))
  change Mem w _ [] [] at hM
  refine c_loop (fun (kk : Nat) a w' => kk ≤ 0 ∧ (True) ∧ Fr 27 a [(0, .slice none 0 0), (1, .slice none 0 0), (6, .slice none 0 0), (7, .int .i64 (0)), (8, .slice none 0 0), (9, .int .i64 (0)), (10, .bool (decide ((0 : Int) ≠ 0))), (5, .int .i64 (((kk : Nat) : Int)))] ∧ Mem w w' [] []) (fun kk => 0 - kk) 0 ?_ ?_
  ·
   refine ⟨by omega, trivial, hF.sub _ (by repeat' constructor), ?_⟩
   exact hM
  ·
   clear hF hM
   rintro gk a w' ⟨hgk, hinv1, hF, hM⟩
   refine sq (sq (wp_region_lit ?_))
   refine st hF (g_move hF rfl) rfl fun a hF => st hF (g_move hF rfl) rfl fun a hF => st hF (g_len0 ty_us_27 hF rfl) rfl fun a hF => st hF (g_lss hF rfl rfl) rfl fun a hF => ?_
   refine wpList_nil (tN ?_)
   refine c_cond hF rfl (fun h2 => ?_) (fun h2 => ?_)
   ·
    first | (exfalso; omega) | contradiction
   ·
    obtain rfl : 0 = gk := by omega
    refine wp_exit (tX (tX ?_))
    refine ib_same ?_
    refine tN (sq (wp_region_lit ?_))
    refine st hF (g_assign hF rfl) rfl fun a hF => ?_
    refine wpList_nil (tN (wp_ret ?_))
    refine fin1 rfl hF.defers (res_tmp hF rfl) ⟨_, rfl, hM.below, ?_⟩
    show _ = _
    rfl

theorem markVectorS_ok (b c m k Z : Nat) (xs : Nat → Value) (w : World) (hm : m ≤ 10) (hk : k ≤ 100) (hZ : m * 6 ≤ Z) (hb : Blk w b (mrk Z k 0 xs)) :
    CallsX Tryd.prog [b] 11 #[.slice (some ⟨b, 0, none⟩) (m) (c), .int .i64 (((k : Nat) : Int))] w (fun v w' => v = .int .i64 ((k + m * 6 : Nat) : Int) ∧ Blk w' b (mrk Z k (m * 6) xs)) := by
  refine calls_frX [.slice (some ⟨b, 0, none⟩) (m) (c), .int .i64 (((k : Nat) : Int))] Tryd.func11 rfl Tryd.ntmps11 rfl fun a hF => ?_
  have hM : MemX [b] w w [some (b, mrk Z k 0 xs)] [] := MemX.startX1 0 hb
  change Fr 27 a [(0, .slice (some ⟨b, 0, none⟩) (m) (c)), (1, .int .i64 (((k : Nat) : Int)))] at hF
  refine sq (wp_region_lit ?_)
  refine st hF (g_assign hF rfl) rfl fun a hF => ?_
  refine wpList_nil (tN (sq (sq (wp_region_lit ?_))))
  refine st hF (g_assign hF rfl) rfl fun a hF => ?_
  refine wpList_nil (tN (wp_block ?_))
  change MemX [b] w _ [some (b, mrk Z k 0 xs)] [] at hM
  refine c_loop (fun (kk : Nat) a w' => kk ≤ m ∧ (True) ∧ Fr 27 a [(0, .slice (some ⟨b, 0, none⟩) (m) (c)), (4, .int .i64 (0)), (5, .int .i64 (((kk : Nat) : Int))), (1, .int .i64 (((k + kk * 6 : Nat) : Int)))] ∧ MemX [b] w w' [some (b, mrk Z k (kk * 6) xs)] []) (fun kk => m - kk) 0 ?_ ?_
  ·
   refine ⟨by omega, trivial, hF.sub _ (by repeat' constructor), ?_⟩
   refine hM.rowc 0 rfl (mrk_congr (by omega))
  ·
   clear hF hM
   rintro gi a w' ⟨hgi, hinv1, hF, hM⟩
   refine sq (sq (wp_region_lit ?_))
   refine st hF (g_move hF rfl) rfl fun a hF => st hF (g_move hF rfl) rfl fun a hF => st hF (g_len ty_us_27 hF rfl) rfl fun a hF => st hF (g_lss hF rfl rfl) rfl fun a hF => ?_
   refine wpList_nil (tN ?_)
   refine c_cond hF rfl (fun h1 => ?_) (fun h1 => ?_)
   ·
    refine wp_skip (tN (sq (wp_block (sq (wp_region_lit ?_)))))
    refine st hF (g_assign hF rfl) rfl fun a hF => ?_
    refine wpList_nil (tN (wp_block ?_))
    change MemX [b] w _ [some (b, mrk Z k (gi * 6) xs)] [] at hM
    refine c_loop (fun (kk : Nat) a w' => kk ≤ 6 ∧ (True) ∧ Fr 27 a [(0, .slice (some ⟨b, 0, none⟩) (m) (c)), (4, .int .i64 (0)), (5, .int .i64 (((gi : Nat) : Int))), (7, .int .i64 (((gi : Nat) : Int))), (8, .slice (some ⟨b, 0, none⟩) (m) (c)), (9, .int .i64 (((m : Nat) : Int))), (10, .bool (decide ((((gi : Nat) : Int) : Int) < ((m : Nat) : Int)))), (6, .int .i64 (((kk : Nat) : Int))), (1, .int .i64 (((k + gi * 6 + kk : Nat) : Int)))] ∧ MemX [b] w w' [some (b, mrk Z k (gi * 6 + kk) xs)] []) (fun kk => 6 - kk) 0 ?_ ?_
    ·
     refine ⟨by omega, trivial, hF.sub _ (by repeat' constructor), ?_⟩
     refine hM.rowc 0 rfl (mrk_congr (by omega))
    ·
     clear hF hM
     rintro gj a w' ⟨hgj, hinv2, hF, hM⟩
     refine sq (sq (wp_region_lit ?_))
     refine st hF (g_move hF rfl) rfl fun a hF => st hF (g_lss hF rfl rfl) rfl fun a hF => ?_
     refine wpList_nil (tN ?_)
     refine c_cond hF rfl (fun h2 => ?_) (fun h2 => ?_)
     ·
      refine wp_skip (tN (sq (wp_block (sq (wp_region_lit ?_)))))
      refine st hF (g_move hF rfl) rfl fun a hF => st hF (g_move hF rfl) rfl fun a hF => st hF (g_move hF rfl) rfl fun a hF => st hF (g_move hF rfl) rfl fun a hF => st hF (g_conv ty_un_5 ty_ud_3 hF rfl (wrap_u8 (by omega) (by omega))) rfl fun a hF => st hF (g_indexSl (i := gi) ty_sl_27 hF rfl rfl rfl (by omega)) rfl fun a hF => st hF (g_indexAddr ty_ar_30 hF rfl rfl rfl (by omega)) rfl fun a hF => ?_
      refine stN hF (d_store 0 hM rfl ty_on_5 hF rfl rfl rfl (by first | omega | (simp only [fnC_size, cells_size, vecC_size, tabC_size, planeC_size, dgC_size, numC_sz, ldB_size, rowV_size, mrk_size] <;> omega) | simp)) ?_
      intro _ w' a hM hF
      change MemX [b] w w' [some (b, (mrk Z k (gi * 6 + gj) xs).setIfInBounds (0 + (gi) * 6 + (gj) * 1) (.int .u8 (((k + gi * 6 + gj : Nat) : Int))))] [] at hM
      refine wpList_nil (tN (wp_region_lit ?_))
      refine st hF (g_move hF rfl) rfl fun a hF => st hF (g_add hF rfl rfl (add_nat (k + gi * 6 + gj) (1) (by omega))) rfl fun a hF => st hF (g_assign hF rfl) rfl fun a hF => ?_
      refine wpList_nil (iN (tN (wp_region_lit ?_)))
      refine st hF (g_move hF rfl) rfl fun a hF => st hF (g_add hF rfl rfl (add_nat (gj) (1) (by omega))) rfl fun a hF => st hF (g_assign hF rfl) rfl fun a hF => ?_
      refine wpList_nil (tN ?_)
      refine ⟨gj + 1, ⟨by omega, trivial, hF.sub _ (by repeat' constructor), ?_⟩, by omega⟩
      refine hM.rowc 0 rfl ?_
      rw [show k + gi * 6 + gj = k + (gi * 6 + gj) by omega]; exact mrk_set (by omega) (by omega)
     ·
      obtain rfl : 6 = gj := by omega
      refine wp_exit (tX (tX ?_))
      refine ib_same ?_
      refine iN (tN (wp_region_lit ?_))
      refine st hF (g_move hF rfl) rfl fun a hF => st hF (g_add hF rfl rfl (add_nat (gi) (1) (by omega))) rfl fun a hF => st hF (g_assign hF rfl) rfl fun a hF => ?_
      refine wpList_nil (tN ?_)
      rw [show k + gi * 6 + 6 = k + (gi + 1) * 6 from by omega] at hF
      refine ⟨gi + 1, ⟨by omega, trivial, hF.sub _ (by repeat' constructor), ?_⟩, by omega⟩
      refine hM.rowc 0 rfl (mrk_congr (by omega))
   ·
    obtain rfl : m = gi := by omega
    refine wp_exit (tX (tX ?_))
    refine ib_same ?_
    refine tN (sq (wp_region_lit ?_))
    refine st hF (g_move hF rfl) rfl fun a hF => st hF (g_assign hF rfl) rfl fun a hF => ?_
    refine wpList_nil (tN (wp_ret ?_))
    refine fin1 rfl hF.defers (res_tmp hF rfl) ⟨_, rfl, hM.bel, ?_⟩
    exact ⟨rfl, hM.row 0 rfl⟩

theorem markVectorS_0 (k : Nat) (w : World) (hk : k ≤ 100) :
    CallsR Tryd.prog 11 #[.slice none 0 0, .int .i64 (((k : Nat) : Int))] w (fun res _ => res = .int .i64 ((k : Nat) : Int)) := by
  refine calls_fr [.slice none 0 0, .int .i64 (((k : Nat) : Int))] Tryd.func11 rfl Tryd.ntmps11 rfl fun a hF => ?_
  have hM : Mem w w [] [] := MemX.start w 0
  change Fr 27 a [(0, .slice none 0 0), (1, .int .i64 (((k : Nat) : Int)))] at hF
  refine sq (wp_region_lit ?_)
  refine st hF (g_assign hF rfl) rfl fun a hF => ?_
  refine wpList_nil (tN (sq (sq (wp_region_lit ?_))))
  refine st hF (g_assign hF rfl) rfl fun a hF => ?_
  refine wpList_nil (tN (wp_block ?_))
  change Mem w _ [] [] at hM
  refine c_loop (fun (kk : Nat) a w' => kk ≤ 0 ∧ (True) ∧ Fr 27 a [(0, .slice none 0 0), (4, .int .i64 (0)), (5, .int .i64 (((kk : Nat) : Int))), (1, .int .i64 (((k : Nat) : Int)))] ∧ Mem w w' [] []) (fun kk => 0 - kk) 0 ?_ ?_
  ·
   refine ⟨by omega, trivial, hF.sub _ (by repeat' constructor), ?_⟩
   exact hM
  ·
   clear hF hM
   rintro gi a w' ⟨hgi, hinv1, hF, hM⟩
   refine sq (sq (wp_region_lit ?_))
   refine st hF (g_move hF rfl) rfl fun a hF => st hF (g_move hF rfl) rfl fun a hF => st hF (g_len0 ty_us_27 hF rfl) rfl fun a hF => st hF (g_lss hF rfl rfl) rfl fun a hF => ?_
   refine wpList_nil (tN ?_)
   refine c_cond hF rfl (fun h1 => ?_) (fun h1 => ?_)
   ·
    exfalso; omega
   ·
    obtain rfl : 0 = gi := by omega
    refine wp_exit (tX (tX ?_))
    refine ib_same ?_
    refine tN (sq (wp_region_lit ?_))
    refine st hF (g_move hF rfl) rfl fun a hF => st hF (g_assign hF rfl) rfl fun a hF => ?_
    refine wpList_nil (tN (wp_ret ?_))
    refine fin1 rfl hF.defers (res_tmp hF rfl) ⟨_, rfl, hM.below, ?_⟩
    show _ = _
    rfl

theorem heldVectorS_ok (b c m k Z : Nat) (xs : Nat → Value) (w : World) (hm : m ≤ 10) (hk : k ≤ 100) (hZ : m * 6 ≤ Z) (hb : Blk w b (mrk Z k (m * 6) xs)) :
    CallsX Tryd.prog [b] 12 #[.slice (some ⟨b, 0, none⟩) (m) (c), .int .i64 (((k : Nat) : Int))] w (fun v w' => v = .int .i64 ((k + m * 6 : Nat) : Int) ∧ Blk w' b (mrk Z k (m * 6) xs)) := by
  refine calls_frX [.slice (some ⟨b, 0, none⟩) (m) (c), .int .i64 (((k : Nat) : Int))] Tryd.func12 rfl Tryd.ntmps12 rfl fun a hF => ?_
  have hM : MemX [b] w w [some (b, mrk Z k (m * 6) xs)] [] := MemX.startX1 0 hb
  change Fr 29 a [(0, .slice (some ⟨b, 0, none⟩) (m) (c)), (1, .int .i64 (((k : Nat) : Int)))] at hF
  refine sq (wp_region_lit ?_)
  refine st hF (g_assign hF rfl) rfl fun a hF => ?_
  refine wpList_nil (tN (sq (sq (wp_region_lit ?_))))
  refine st hF (g_assign hF rfl) rfl fun a hF => ?_
  refine wpList_nil (tN (wp_block ?_))
  change MemX [b] w _ [some (b, mrk Z k (m * 6) xs)] [] at hM
  refine c_loop (fun (kk : Nat) a w' => kk ≤ m ∧ (True) ∧ Fr 29 a [(0, .slice (some ⟨b, 0, none⟩) (m) (c)), (5, .int .i64 (((kk : Nat) : Int))), (1, .int .i64 (((k + kk * 6 : Nat) : Int)))] ∧ MemX [b] w w' [some (b, mrk Z k (m * 6) xs)] []) (fun kk => m - kk) 0 ?_ ?_
  ·
   refine ⟨by omega, trivial, hF.sub _ (by repeat' constructor), ?_⟩
   exact hM
  ·
   clear hF hM
   rintro gi a w' ⟨hgi, hinv1, hF, hM⟩
   refine sq (sq (wp_region_lit ?_))
   refine st hF (g_move hF rfl) rfl fun a hF => st hF (g_move hF rfl) rfl fun a hF => st hF (g_len ty_us_27 hF rfl) rfl fun a hF => st hF (g_lss hF rfl rfl) rfl fun a hF => ?_
   refine wpList_nil (tN ?_)
   refine c_cond hF rfl (fun h1 => ?_) (fun h1 => ?_)
   ·
    refine wp_skip (tN (sq (wp_block (sq (wp_region_lit ?_)))))
    refine st hF (g_assign hF rfl) rfl fun a hF => ?_
    refine wpList_nil (tN (wp_block ?_))
    change MemX [b] w _ [some (b, mrk Z k (m * 6) xs)] [] at hM
    refine c_loop (fun (kk : Nat) a w' => kk ≤ 6 ∧ (True) ∧ Fr 29 a [(0, .slice (some ⟨b, 0, none⟩) (m) (c)), (5, .int .i64 (((gi : Nat) : Int))), (7, .int .i64 (((gi : Nat) : Int))), (8, .slice (some ⟨b, 0, none⟩) (m) (c)), (9, .int .i64 (((m : Nat) : Int))), (10, .bool (decide ((((gi : Nat) : Int) : Int) < ((m : Nat) : Int)))), (6, .int .i64 (((kk : Nat) : Int))), (1, .int .i64 (((k + gi * 6 + kk : Nat) : Int)))] ∧ MemX [b] w w' [some (b, mrk Z k (m * 6) xs)] []) (fun kk => 6 - kk) 0 ?_ ?_
    ·
     refine ⟨by omega, trivial, hF.sub _ (by repeat' constructor), ?_⟩
     exact hM
    ·
     clear hF hM
     rintro gj a w' ⟨hgj, hinv2, hF, hM⟩
     refine sq (sq (wp_region_lit ?_))
     refine st hF (g_move hF rfl) rfl fun a hF => st hF (g_lss hF rfl rfl) rfl fun a hF => ?_
     refine wpList_nil (tN ?_)
     refine c_cond hF rfl (fun h2 => ?_) (fun h2 => ?_)
     ·
      refine wp_skip (tN (sq (wp_block (sq (sq (wp_region_lit ?_))))))
      refine st hF (g_move hF rfl) rfl fun a hF => st hF (g_move hF rfl) rfl fun a hF => st hF (g_move hF rfl) rfl fun a hF => st hF (g_indexSl (i := gi) ty_sl_27 hF rfl rfl rfl (by omega)) rfl fun a hF => st hF (g_indexAddr ty_ar_30 hF rfl rfl rfl (by omega)) rfl fun a hF => st hF (g_load ty_on_5 hF rfl (hM.row 0 rfl) (mrk_get (c := gi * 6 + gj) (by omega) (by omega) (by omega))) rfl fun a hF => st hF (g_move hF rfl) rfl fun a hF => st hF (g_conv ty_un_5 ty_ud_3 hF rfl (wrap_u8 (by omega) (by omega))) rfl fun a hF => st hF (g_neq hF rfl rfl) rfl fun a hF => ?_
      refine wpList_nil (tN ?_)
      refine c_cond hF rfl (fun h3 => ?_) (fun h3 => ?_)
      ·
       exfalso; omega
      ·
       refine wp_skip (tN (wp_region_lit ?_))
       refine st hF (g_move hF rfl) rfl fun a hF => st hF (g_add hF rfl rfl (add_nat (k + gi * 6 + gj) (1) (by omega))) rfl fun a hF => st hF (g_assign hF rfl) rfl fun a hF => ?_
       refine wpList_nil (iN (tN (wp_region_lit ?_)))
       refine st hF (g_move hF rfl) rfl fun a hF => st hF (g_add hF rfl rfl (add_nat (gj) (1) (by omega))) rfl fun a hF => st hF (g_assign hF rfl) rfl fun a hF => ?_
       refine wpList_nil (tN ?_)
       refine ⟨gj + 1, ⟨by omega, trivial, hF.sub _ (by repeat' constructor), ?_⟩, by omega⟩
       exact hM
     ·
      obtain rfl : 6 = gj := by omega
      refine wp_exit (tX (tX ?_))
      refine ib_same ?_
      refine iN (tN (wp_region_lit ?_))
      refine st hF (g_move hF rfl) rfl fun a hF => st hF (g_add hF rfl rfl (add_nat (gi) (1) (by omega))) rfl fun a hF => st hF (g_assign hF rfl) rfl fun a hF => ?_
      refine wpList_nil (tN ?_)
      rw [show k + gi * 6 + 6 = k + (gi + 1) * 6 from by omega] at hF
      refine ⟨gi + 1, ⟨by omega, trivial, hF.sub _ (by repeat' constructor), ?_⟩, by omega⟩
      exact hM
   ·
    obtain rfl : m = gi := by omega
    refine wp_exit (tX (tX ?_))
    refine ib_same ?_
    refine tN (sq (wp_region_lit ?_))
    refine st hF (g_move hF rfl) rfl fun a hF => st hF (g_assign hF rfl) rfl fun a hF => ?_
    refine wpList_nil (tN (wp_ret ?_))
    refine fin1 rfl hF.defers (res_tmp hF rfl) ⟨_, rfl, hM.bel, ?_⟩
    exact ⟨rfl, hM.row 0 rfl⟩

theorem heldVectorS_0 (k : Nat) (w : World) (hk : k ≤ 100) :
    CallsR Tryd.prog 12 #[.slice none 0 0, .int .i64 (((k : Nat) : Int))] w (fun res _ => res = .int .i64 ((k : Nat) : Int)) := by
  refine calls_fr [.slice none 0 0, .int .i64 (((k : Nat) : Int))] Tryd.func12 rfl Tryd.ntmps12 rfl fun a hF => ?_
  have hM : Mem w w [] [] := MemX.start w 0
  change Fr 29 a [(0, .slice none 0 0), (1, .int .i64 (((k : Nat) : Int)))] at hF
  refine sq (wp_region_lit ?_)
  refine st hF (g_assign hF rfl) rfl fun a hF => ?_
  refine wpList_nil (tN (sq (sq (wp_region_lit ?_))))
  refine st hF (g_assign hF rfl) rfl fun a hF => ?_
  refine wpList_nil (tN (wp_block ?_))
  change Mem w _ [] [] at hM
  refine c_loop (fun (kk : Nat) a w' => kk ≤ 0 ∧ (True) ∧ Fr 29 a [(0, .slice none 0 0), (5, .int .i64 (((kk : Nat) : Int))), (1, .int .i64 (((k : Nat) : Int)))] ∧ Mem w w' [] []) (fun kk => 0 - kk) 0 ?_ ?_
  ·
   refine ⟨by omega, trivial, hF.sub _ (by repeat' constructor), ?_⟩
   exact hM
  ·
   clear hF hM
   rintro gi a w' ⟨hgi, hinv1, hF, hM⟩
   refine sq (sq (wp_region_lit ?_))
   refine st hF (g_move hF rfl) rfl fun a hF => st hF (g_move hF rfl) rfl fun a hF => st hF (g_len0 ty_us_27 hF rfl) rfl fun a hF => st hF (g_lss hF rfl rfl) rfl fun a hF => ?_
   refine wpList_nil (tN ?_)
   refine c_cond hF rfl (fun h1 => ?_) (fun h1 => ?_)
   ·
    exfalso; omega
   ·
    obtain rfl : 0 = gi := by omega
    refine wp_exit (tX (tX ?_))
    refine ib_same ?_
    refine tN (sq (wp_region_lit ?_))
    refine st hF (g_move hF rfl) rfl fun a hF => st hF (g_assign hF rfl) rfl fun a hF => ?_
    refine wpList_nil (tN (wp_ret ?_))
    refine fin1 rfl hF.defers (res_tmp hF rfl) ⟨_, rfl, hM.below, ?_⟩
    show _ = _
    rfl

theorem law_PrimitiveIdempotentsA (p n : Int) (T : Nat → Nat → Nat → Nat) (f : Nat → Nat) (w : World) (hT : ∀ i j k, T i j k ≤ 255) (hf : ∀ i, f i ≤ 255) (hc : ¬ CodeP p n T f 0 (vAtL [])) :
    CallsR Tryd.prog 3 #[.agg (algC p n T f)] w (fun res _ => res = .bool true) := by
  refine calls_fr [.agg (algC p n T f)] Tryd.func3 rfl Tryd.ntmps3 rfl fun a hF => ?_
  have hM : Mem w w [none, none, none, none] [] := MemX.start w 4
  change Fr 66 a [(0, .agg (algC p n T f))] at hF
  refine sq (wp_region_lit ?_)
  refine stR hF (d_box 0 hM hF rfl) rfl ?_
  rintro _ w' a ⟨b1, rfl, hM, -⟩ hF
  change Mem w w' [some (b1, algC p n T f), none, none, none] [] at hM
  refine st hF (g_assign hF rfl) rfl fun a hF => ?_
  refine wpList_nil (tN (sq (wp_region_lit ?_)))
  refine st hF (g_loadAgg ty_ag_26 hF rfl (hM.row 0 rfl) (by simp only [fnC_size, cells_size, vecC_size, tabC_size, planeC_size, dgC_size, numC_sz, ldB_size, rowV_size, mrk_size] <;> omega) (whole cells_size)) rfl fun a hF => ?_
  refine stR hF (d_call Tryd.call8 hF (.cons rfl .nil) (toAlgebra_ok p n T f _)) rfl ?_
  rintro _ w' a ⟨hx, rfl⟩ hF
  have hM := hM.ext hx
  refine stR hF (d_call Tryd.call7 hF (.cons rfl .nil) (PrimitiveIdempotentsS_A p n T f _ hT hf hc)) rfl ?_
  rintro _ w' a ⟨hx, rfl⟩ hF
  have hM := hM.ext hx
  refine st hF (g_move hF rfl) rfl fun a hF => st hF (g_extract hF rfl rfl) rfl fun a hF => st hF (g_extract hF rfl rfl) rfl fun a hF => st hF (g_assign hF rfl) rfl fun a hF => st hF (g_assign hF rfl) rfl fun a hF => ?_
  refine wpList_nil (tN (sq (wp_region_lit ?_)))
  refine st hF (g_loadAgg ty_ag_26 hF rfl (hM.row 0 rfl) (by simp only [fnC_size, cells_size, vecC_size, tabC_size, planeC_size, dgC_size, numC_sz, ldB_size, rowV_size, mrk_size] <;> omega) (whole cells_size)) rfl fun a hF => ?_
  refine stR hF (d_call Tryd.call8 hF (.cons rfl .nil) (toAlgebra_ok p n T f _)) rfl ?_
  rintro _ w' a ⟨hx, rfl⟩ hF
  have hM := hM.ext hx
  refine stR hF (d_call Tryd.call9 hF (.cons rfl .nil) (PrimitiveIdempotentsI_A p n T f _ hT hf hc)) rfl ?_
  rintro _ w' a ⟨hx, rfl⟩ hF
  have hM := hM.ext hx
  refine st hF (g_move hF rfl) rfl fun a hF => st hF (g_extract hF rfl rfl) rfl fun a hF => st hF (g_extract hF rfl rfl) rfl fun a hF => st hF (g_assign hF rfl) rfl fun a hF => st hF (g_assign hF rfl) rfl fun a hF => ?_
  refine wpList_nil (tN (sq (sq (wp_region_lit ?_))))
  refine st hF (g_move hF rfl) rfl fun a hF => st hF (g_move hF rfl) rfl fun a hF => ?_
  refine stR hF (d_call Tryd.call10 hF (.cons rfl (.cons rfl .nil)) (eqVectorS_0 _)) rfl ?_
  rintro _ w' a ⟨hx, rfl⟩ hF
  have hM := hM.ext hx
  refine st hF (g_not hF rfl) rfl fun a hF => st hF (g_move hF rfl) rfl fun a hF => stY hF rfl rfl rfl (g_move hF rfl) rfl fun a hF => stY hF rfl rfl rfl (g_move hF rfl) rfl fun a hF => stY hF rfl rfl rfl (g_neq hF rfl rfl) rfl fun a hF => st hF (g_pickF hF rfl rfl) rfl fun a hF => ?_
  refine wpList_nil (tN ?_)
  refine c_kF hF rfl (by decide) ?_
  refine wp_skip (tN (sq (wp_region_lit ?_)))
  refine st hF (g_assign hF rfl) rfl fun a hF => ?_
  refine wpList_nil (tN (sq (wp_region_lit ?_)))
  refine st hF (g_move hF rfl) rfl fun a hF => st hF (g_move hF rfl) rfl fun a hF => ?_
  refine stR hF (d_call Tryd.call11 hF (.cons rfl (.cons rfl .nil)) (markVectorS_0 (1) _ (by omega))) rfl ?_
  rintro _ w' a ⟨hx, rfl⟩ hF
  have hM := hM.ext hx
  refine st hF (g_assign hF rfl) rfl fun a hF => ?_
  refine wpList_nil (tN (sq (wp_region_lit ?_)))
  refine st hF (g_assign hF rfl) rfl fun a hF => ?_
  refine wpList_nil (tN (sq (wp_region_lit ?_)))
  refine st hF (g_move hF rfl) rfl fun a hF => st hF (g_move hF rfl) rfl fun a hF => ?_
  refine stR hF (d_call Tryd.call12 hF (.cons rfl (.cons rfl .nil)) (heldVectorS_0 (1) _ (by omega))) rfl ?_
  rintro _ w' a ⟨hx, rfl⟩ hF
  have hM := hM.ext hx
  refine st hF (g_assign hF rfl) rfl fun a hF => ?_
  refine wpList_nil (tN (sq (sq (wp_region_lit ?_))))
  refine st hF (g_move hF rfl) rfl fun a hF => st hF (g_lss hF rfl rfl) rfl fun a hF => ?_
  refine wpList_nil (tN ?_)
  refine c_cond hF rfl (fun h3 => ?_) (fun h3 => ?_)
  ·
   first | exact absurd rfl h3 | (exfalso; omega)
  ·
   refine wp_skip (tN (sq (sq (wp_region_lit ?_))))
   refine st hF (g_move hF rfl) rfl fun a hF => st hF (g_move hF rfl) rfl fun a hF => st hF (g_neq hF rfl rfl) rfl fun a hF => ?_
   refine wpList_nil (tN ?_)
   refine c_kF hF rfl (by decide) ?_
   refine wp_skip (tN (sq (wp_region_lit ?_)))
   refine st hF (g_loadAgg ty_ag_26 hF rfl (hM.row 0 rfl) (by simp only [fnC_size, cells_size, vecC_size, tabC_size, planeC_size, dgC_size, numC_sz, ldB_size, rowV_size, mrk_size] <;> omega) (whole cells_size)) rfl fun a hF => ?_
   refine stR hF (d_call Tryd.call8 hF (.cons rfl .nil) (toAlgebra_ok p n T f _)) rfl ?_
   rintro _ w' a ⟨hx, rfl⟩ hF
   have hM := hM.ext hx
   refine stR hF (d_call Tryd.call9 hF (.cons rfl .nil) (PrimitiveIdempotentsI_A p n T f _ hT hf hc)) rfl ?_
   rintro _ w' a ⟨hx, rfl⟩ hF
   have hM := hM.ext hx
   refine st hF (g_move hF rfl) rfl fun a hF => st hF (g_extract hF rfl rfl) rfl fun a hF => st hF (g_extract hF rfl rfl) rfl fun a hF => st hF (g_assign hF rfl) rfl fun a hF => st hF (g_assign hF rfl) rfl fun a hF => ?_
   refine wpList_nil (tN (sq (sq (wp_region_lit ?_))))
   refine st hF (g_move hF rfl) rfl fun a hF => st hF (g_move hF rfl) rfl fun a hF => ?_
   refine stR hF (d_call Tryd.call10 hF (.cons rfl (.cons rfl .nil)) (eqVectorS_0 _)) rfl ?_
   rintro _ w' a ⟨hx, rfl⟩ hF
   have hM := hM.ext hx
   refine st hF (g_not hF rfl) rfl fun a hF => st hF (g_move hF rfl) rfl fun a hF => stY hF rfl rfl rfl (g_move hF rfl) rfl fun a hF => stY hF rfl rfl rfl (g_move hF rfl) rfl fun a hF => stY hF rfl rfl rfl (g_neq hF rfl rfl) rfl fun a hF => st hF (g_pickF hF rfl rfl) rfl fun a hF => ?_
   refine wpList_nil (tN ?_)
   refine c_kF hF rfl (by decide) ?_
   refine wp_skip (tN (sq (wp_region_lit ?_)))
   refine st hF (g_assign hF rfl) rfl fun a hF => ?_
   refine wpList_nil (tN (sq (wp_region_lit ?_)))
   refine st hF (g_move hF rfl) rfl fun a hF => st hF (g_move hF rfl) rfl fun a hF => ?_
   refine stR hF (d_call Tryd.call12 hF (.cons rfl (.cons rfl .nil)) (heldVectorS_0 (1) _ (by omega))) rfl ?_
   rintro _ w' a ⟨hx, rfl⟩ hF
   have hM := hM.ext hx
   refine st hF (g_assign hF rfl) rfl fun a hF => ?_
   refine wpList_nil (tN (sq (sq (wp_region_lit ?_))))
   refine st hF (g_move hF rfl) rfl fun a hF => st hF (g_lss hF rfl rfl) rfl fun a hF => ?_
   refine wpList_nil (tN ?_)
   refine c_kF hF rfl h3 ?_
   refine wp_skip (tN (sq (sq (wp_region_lit ?_))))
   refine st hF (g_move hF rfl) rfl fun a hF => st hF (g_move hF rfl) rfl fun a hF => st hF (g_neq hF rfl rfl) rfl fun a hF => ?_
   refine wpList_nil (tN ?_)
   refine c_kF hF rfl (by decide) ?_
   refine wp_skip (tN (sq (wp_region_lit ?_)))
   refine st hF (g_assign hF rfl) rfl fun a hF => ?_
   refine wpList_nil (tN (wp_ret ?_))
   refine fin1 rfl hF.defers (res_tmp hF rfl) ⟨_, rfl, hM.below, ?_⟩
   show _ = _
   rfl

theorem law_PrimitiveIdempotentsN (p n : Nat) (T : Nat → Nat → Nat → Nat) (f : Nat → Nat) (ev : Value) (w : World) (hp : primeN p) (hn0 : 0 < n) (hn : n ≤ 6) (hTp : ∀ i j k, T i j k < p) (hT0 : ∀ i j k, n ≤ k → T i j k = 0) (hf : ∀ i, f i ≤ 255) (hc : CodeP (p : Int) (n : Int) T f 0 (vAtL [])) (hcom : ¬ comP T) (hg : Blk w 0 #[.iface 141 ev]) :
    CallsR Tryd.prog 3 #[.agg (algC (p : Int) (n : Int) T f)] w (fun res _ => res = .bool true) := by
  refine calls_fr [.agg (algC (p : Int) (n : Int) T f)] Tryd.func3 rfl Tryd.ntmps3 rfl fun a hF => ?_
  have hM : Mem w w [none, none, none, none] [(0, #[.iface 141 ev])] := MemX.startD w 4 _ (startD1 hg)
  change Fr 66 a [(0, .agg (algC (p : Int) (n : Int) T f))] at hF
  have hp2 := hp.two
  have hp13 := hp.le
  have hT : ∀ i j k, T i j k ≤ 255 := fun i j k => by have := hTp i j k; omega
  refine sq (wp_region_lit ?_)
  refine stR hF (d_box 0 hM hF rfl) rfl ?_
  rintro _ w' a ⟨b1, rfl, hM, -⟩ hF
  change Mem w w' [some (b1, algC (p : Int) (n : Int) T f), none, none, none] [(0, #[.iface 141 ev])] at hM
  refine st hF (g_assign hF rfl) rfl fun a hF => ?_
  refine wpList_nil (tN (sq (wp_region_lit ?_)))
  refine st hF (g_loadAgg ty_ag_26 hF rfl (hM.row 0 rfl) (by simp only [fnC_size, cells_size, vecC_size, tabC_size, planeC_size, dgC_size, numC_sz, ldB_size, rowV_size, mrk_size] <;> omega) (whole cells_size)) rfl fun a hF => ?_
  refine stR hF (d_call Tryd.call8 hF (.cons rfl .nil) (toAlgebra_ok (p : Int) (n : Int) T f _)) rfl ?_
  rintro _ w' a ⟨hx, rfl⟩ hF
  have hM := hM.ext hx
  refine stR hF (d_call Tryd.call7 hF (.cons rfl .nil) (PrimitiveIdempotentsS_N p n T f _ hp hn0 hn hTp hT0 hf hc hcom)) rfl ?_
  rintro _ w' a ⟨hx, rfl⟩ hF
  have hM := hM.ext hx
  refine st hF (g_move hF rfl) rfl fun a hF => st hF (g_extract hF rfl rfl) rfl fun a hF => st hF (g_extract hF rfl rfl) rfl fun a hF => st hF (g_assign hF rfl) rfl fun a hF => st hF (g_assign hF rfl) rfl fun a hF => ?_
  refine wpList_nil (tN (sq (wp_region_lit ?_)))
  refine st hF (g_loadAgg ty_ag_26 hF rfl (hM.row 0 rfl) (by simp only [fnC_size, cells_size, vecC_size, tabC_size, planeC_size, dgC_size, numC_sz, ldB_size, rowV_size, mrk_size] <;> omega) (whole cells_size)) rfl fun a hF => ?_
  refine stR hF (d_call Tryd.call8 hF (.cons rfl .nil) (toAlgebra_ok (p : Int) (n : Int) T f _)) rfl ?_
  rintro _ w' a ⟨hx, rfl⟩ hF
  have hM := hM.ext hx
  refine stR hF (d_call Tryd.call9 hF (.cons rfl .nil) (PrimitiveIdempotentsI_N p n T f ev _ hp hn0 hn hTp hT0 hf hc hcom (hM.fz 0 rfl))) rfl ?_
  rintro _ w' a ⟨hx, rfl⟩ hF
  have hM := hM.ext hx
  refine st hF (g_move hF rfl) rfl fun a hF => st hF (g_extract hF rfl rfl) rfl fun a hF => st hF (g_extract hF rfl rfl) rfl fun a hF => st hF (g_assign hF rfl) rfl fun a hF => st hF (g_assign hF rfl) rfl fun a hF => ?_
  refine wpList_nil (tN (sq (sq (wp_region_lit ?_))))
  refine st hF (g_move hF rfl) rfl fun a hF => st hF (g_move hF rfl) rfl fun a hF => ?_
  refine stR hF (d_call Tryd.call10 hF (.cons rfl (.cons rfl .nil)) (eqVectorS_0 _)) rfl ?_
  rintro _ w' a ⟨hx, rfl⟩ hF
  have hM := hM.ext hx
  refine st hF (g_not hF rfl) rfl fun a hF => st hF (g_move hF rfl) rfl fun a hF => stY hF rfl rfl rfl (g_move hF rfl) rfl fun a hF => stY hF rfl rfl rfl (g_move hF rfl) rfl fun a hF => stY hF rfl rfl rfl (g_neq hF rfl rfl) rfl fun a hF => st hF (g_pickF hF rfl rfl) rfl fun a hF => ?_
  refine wpList_nil (tN ?_)
  refine c_kF hF rfl (by decide) ?_
  refine wp_skip (tN (sq (wp_region_lit ?_)))
  refine st hF (g_assign hF rfl) rfl fun a hF => ?_
  refine wpList_nil (tN (sq (wp_region_lit ?_)))
  refine st hF (g_move hF rfl) rfl fun a hF => st hF (g_move hF rfl) rfl fun a hF => ?_
  refine stR hF (d_call Tryd.call11 hF (.cons rfl (.cons rfl .nil)) (markVectorS_0 (1) _ (by omega))) rfl ?_
  rintro _ w' a ⟨hx, rfl⟩ hF
  have hM := hM.ext hx
  refine st hF (g_assign hF rfl) rfl fun a hF => ?_
  refine wpList_nil (tN (sq (wp_region_lit ?_)))
  refine st hF (g_assign hF rfl) rfl fun a hF => ?_
  refine wpList_nil (tN (sq (wp_region_lit ?_)))
  refine st hF (g_move hF rfl) rfl fun a hF => st hF (g_move hF rfl) rfl fun a hF => ?_
  refine stR hF (d_call Tryd.call12 hF (.cons rfl (.cons rfl .nil)) (heldVectorS_0 (1) _ (by omega))) rfl ?_
  rintro _ w' a ⟨hx, rfl⟩ hF
  have hM := hM.ext hx
  refine st hF (g_assign hF rfl) rfl fun a hF => ?_
  refine wpList_nil (tN (sq (sq (wp_region_lit ?_))))
  refine st hF (g_move hF rfl) rfl fun a hF => st hF (g_lss hF rfl rfl) rfl fun a hF => ?_
  refine wpList_nil (tN ?_)
  refine c_cond hF rfl (fun h3 => ?_) (fun h3 => ?_)
  ·
   first | exact absurd rfl h3 | (exfalso; omega)
  ·
   refine wp_skip (tN (sq (sq (wp_region_lit ?_))))
   refine st hF (g_move hF rfl) rfl fun a hF => st hF (g_move hF rfl) rfl fun a hF => st hF (g_neq hF rfl rfl) rfl fun a hF => ?_
   refine wpList_nil (tN ?_)
   refine c_kF hF rfl (by decide) ?_
   refine wp_skip (tN (sq (wp_region_lit ?_)))
   refine st hF (g_loadAgg ty_ag_26 hF rfl (hM.row 0 rfl) (by simp only [fnC_size, cells_size, vecC_size, tabC_size, planeC_size, dgC_size, numC_sz, ldB_size, rowV_size, mrk_size] <;> omega) (whole cells_size)) rfl fun a hF => ?_
   refine stR hF (d_call Tryd.call8 hF (.cons rfl .nil) (toAlgebra_ok (p : Int) (n : Int) T f _)) rfl ?_
   rintro _ w' a ⟨hx, rfl⟩ hF
   have hM := hM.ext hx
   refine stR hF (d_call Tryd.call9 hF (.cons rfl .nil) (PrimitiveIdempotentsI_N p n T f ev _ hp hn0 hn hTp hT0 hf hc hcom (hM.fz 0 rfl))) rfl ?_
   rintro _ w' a ⟨hx, rfl⟩ hF
   have hM := hM.ext hx
   refine st hF (g_move hF rfl) rfl fun a hF => st hF (g_extract hF rfl rfl) rfl fun a hF => st hF (g_extract hF rfl rfl) rfl fun a hF => st hF (g_assign hF rfl) rfl fun a hF => st hF (g_assign hF rfl) rfl fun a hF => ?_
   refine wpList_nil (tN (sq (sq (wp_region_lit ?_))))
   refine st hF (g_move hF rfl) rfl fun a hF => st hF (g_move hF rfl) rfl fun a hF => ?_
   refine stR hF (d_call Tryd.call10 hF (.cons rfl (.cons rfl .nil)) (eqVectorS_0 _)) rfl ?_
   rintro _ w' a ⟨hx, rfl⟩ hF
   have hM := hM.ext hx
   refine st hF (g_not hF rfl) rfl fun a hF => st hF (g_move hF rfl) rfl fun a hF => stY hF rfl rfl rfl (g_move hF rfl) rfl fun a hF => stY hF rfl rfl rfl (g_move hF rfl) rfl fun a hF => stY hF rfl rfl rfl (g_neq hF rfl rfl) rfl fun a hF => st hF (g_pickF hF rfl rfl) rfl fun a hF => ?_
   refine wpList_nil (tN ?_)
   refine c_kF hF rfl (by decide) ?_
   refine wp_skip (tN (sq (wp_region_lit ?_)))
   refine st hF (g_assign hF rfl) rfl fun a hF => ?_
   refine wpList_nil (tN (sq (wp_region_lit ?_)))
   refine st hF (g_move hF rfl) rfl fun a hF => st hF (g_move hF rfl) rfl fun a hF => ?_
   refine stR hF (d_call Tryd.call12 hF (.cons rfl (.cons rfl .nil)) (heldVectorS_0 (1) _ (by omega))) rfl ?_
   rintro _ w' a ⟨hx, rfl⟩ hF
   have hM := hM.ext hx
   refine st hF (g_assign hF rfl) rfl fun a hF => ?_
   refine wpList_nil (tN (sq (sq (wp_region_lit ?_))))
   refine st hF (g_move hF rfl) rfl fun a hF => st hF (g_lss hF rfl rfl) rfl fun a hF => ?_
   refine wpList_nil (tN ?_)
   refine c_kF hF rfl h3 ?_
   refine wp_skip (tN (sq (sq (wp_region_lit ?_))))
   refine st hF (g_move hF rfl) rfl fun a hF => st hF (g_move hF rfl) rfl fun a hF => st hF (g_neq hF rfl rfl) rfl fun a hF => ?_
   refine wpList_nil (tN ?_)
   refine c_kF hF rfl (by decide) ?_
   refine wp_skip (tN (sq (wp_region_lit ?_)))
   refine st hF (g_assign hF rfl) rfl fun a hF => ?_
   refine wpList_nil (tN (wp_ret ?_))
   refine fin1 rfl hF.defers (res_tmp hF rfl) ⟨_, rfl, hM.below, ?_⟩
   show _ = _
   rfl

theorem law_PrimitiveIdempotentsY (p n : Nat) (T : Nat → Nat → Nat → Nat) (f : Nat → Nat) (R0 : Nat) (W : Nat → Nat → Nat) (r0 : Nat) (W0 : Nat → Nat → Nat) (w : World) (hp : primeN p) (hn0 : 0 < n) (hn : n ≤ 6) (hTp : ∀ i j k, T i j k < p) (hT0 : ∀ i j k, n ≤ k → T i j k = 0) (hf : ∀ i, f i ≤ 255) (hc : CodeP (p : Int) (n : Int) T f 0 (vAtL [])) (hcom : comP T) (uu : Nat → Nat) (huu : UnitI p n T uu) (haI : AssI p n T) (hkI : ComI n T) (hK0 : IsKer p n (spE p n T uu p 1) n r0 W0) (hR0 : R0 = (prL p n T uu W0 r0).length) (hW0 : W = srt (gz (prL p n T uu W0 r0)) (prL p n T uu W0 r0).length) :
    CallsR Tryd.prog 3 #[.agg (algC (p : Int) (n : Int) T f)] w (fun res _ => res = .bool true) := by
  refine calls_fr [.agg (algC (p : Int) (n : Int) T f)] Tryd.func3 rfl Tryd.ntmps3 rfl fun a hF => ?_
  have hM : Mem w w [none, none, none, none] [] := MemX.start w 4
  change Fr 66 a [(0, .agg (algC (p : Int) (n : Int) T f))] at hF
  have hp2 := hp.two
  have hp13 := hp.le
  have hT : ∀ i j k, T i j k ≤ 255 := fun i j k => by have := hTp i j k; omega
  have hInv0 : InvA p n T (prL p n T uu W0 r0) := prL_inv hp hn0 hn haI hkI hT0 huu hK0 r0 (Nat.le_refl _)
  have hR6 : R0 ≤ n := by rw [hR0]; exact hInv0.count hp hn hkI
  have hvf : ∀ i c, W i c ≤ 255 := by rw [hW0]; exact srt_le (gz_le hp.le hInv0) _
  refine sq (wp_region_lit ?_)
  refine stR hF (d_box 0 hM hF rfl) rfl ?_
  rintro _ w' a ⟨b1, rfl, hM, -⟩ hF
  change Mem w w' [some (b1, algC (p : Int) (n : Int) T f), none, none, none] [] at hM
  refine st hF (g_assign hF rfl) rfl fun a hF => ?_
  refine wpList_nil (tN (sq (wp_region_lit ?_)))
  refine st hF (g_loadAgg ty_ag_26 hF rfl (hM.row 0 rfl) (by simp only [fnC_size, cells_size, vecC_size, tabC_size, planeC_size, dgC_size, numC_sz, ldB_size, rowV_size, mrk_size] <;> omega) (whole cells_size)) rfl fun a hF => ?_
  refine stR hF (d_call Tryd.call8 hF (.cons rfl .nil) (toAlgebra_ok (p : Int) (n : Int) T f _)) rfl ?_
  rintro _ w' a ⟨hx, rfl⟩ hF
  have hM := hM.ext hx
  refine stR hF (d_call Tryd.call7 hF (.cons rfl .nil) (PrimitiveIdempotentsS_W p n T f R0 W r0 W0 _ hp hn0 hn hTp hT0 hf hc hcom uu huu haI hkI hK0 hR0 hW0)) rfl ?_
  rintro u w' a ⟨hx, ul, rfl, blW, clW, csW, hlW, hgl, hbl⟩ hF
  obtain rfl := hlW.val
  have hM := hM.fill hx 1 hbl hgl
  change Mem w w' [some (b1, algC (p : Int) (n : Int) T f), some (blW, csW), none, none] [] at hM
  refine st hF (g_move hF rfl) rfl fun a hF => st hF (g_extract hF rfl rfl) rfl fun a hF => st hF (g_extract hF rfl rfl) rfl fun a hF => st hF (g_assign hF rfl) rfl fun a hF => st hF (g_assign hF rfl) rfl fun a hF => ?_
  refine wpList_nil (tN (sq (wp_region_lit ?_)))
  refine st hF (g_loadAgg ty_ag_26 hF rfl (hM.row 0 rfl) (by simp only [fnC_size, cells_size, vecC_size, tabC_size, planeC_size, dgC_size, numC_sz, ldB_size, rowV_size, mrk_size] <;> omega) (whole cells_size)) rfl fun a hF => ?_
  refine stR hF (d_call Tryd.call8 hF (.cons rfl .nil) (toAlgebra_ok (p : Int) (n : Int) T f _)) rfl ?_
  rintro _ w' a ⟨hx, rfl⟩ hF
  have hM := hM.ext hx
  refine stR hF (d_call Tryd.call9 hF (.cons rfl .nil) (PrimitiveIdempotentsI_W p n T f R0 W r0 W0 _ hp hn0 hn hTp hT0 hf hc hcom uu huu haI hkI hK0 hR0 hW0)) rfl ?_
  rintro u w' a ⟨hx, ul, rfl, blG, clG, csG, hlG, hgl, hbl⟩ hF
  obtain rfl := hlG.val
  have hM := hM.fill hx 2 hbl hgl
  change Mem w w' [some (b1, algC (p : Int) (n : Int) T f), some (blW, csW), some (blG, csG), none] [] at hM
  refine st hF (g_move hF rfl) rfl fun a hF => st hF (g_extract hF rfl rfl) rfl fun a hF => st hF (g_extract hF rfl rfl) rfl fun a hF => st hF (g_assign hF rfl) rfl fun a hF => st hF (g_assign hF rfl) rfl fun a hF => ?_
  refine wpList_nil (tN (sq (sq (wp_region_lit ?_))))
  refine st hF (g_move hF rfl) rfl fun a hF => st hF (g_move hF rfl) rfl fun a hF => ?_
  refine stR hF (d_call Tryd.call10 hF (.cons rfl (.cons rfl .nil)) (eqVectorS_ok blG clG blW clW R0 csG csW _ _ _ _ W W _ (by omega) hlG (hM.row 2 rfl) hlW (hM.row 1 rfl) hvf hvf (fun _ _ _ _ => rfl))) rfl ?_
  rintro _ w' a ⟨hx, rfl⟩ hF
  have hM := hM.ext hx
  refine st hF (g_not hF rfl) rfl fun a hF => st hF (g_move hF rfl) rfl fun a hF => stY hF rfl rfl rfl (g_move hF rfl) rfl fun a hF => stY hF rfl rfl rfl (g_move hF rfl) rfl fun a hF => stY hF rfl rfl rfl (g_neq hF rfl rfl) rfl fun a hF => st hF (g_pickF hF rfl rfl) rfl fun a hF => ?_
  refine wpList_nil (tN ?_)
  refine c_kF hF rfl (by decide) ?_
  refine wp_skip (tN (sq (wp_region_lit ?_)))
  refine st hF (g_assign hF rfl) rfl fun a hF => ?_
  refine wpList_nil (tN (sq (wp_region_lit ?_)))
  refine st hF (g_move hF rfl) rfl fun a hF => st hF (g_move hF rfl) rfl fun a hF => ?_
  obtain ⟨Zq, xq, hmk, hZq⟩ : ∃ (Z : Nat) (xs : Nat → Value), csG = mrk Z (1) 0 xs ∧ R0 * 6 ≤ Z := ⟨_, _, mrk_self csG, by have := hlG.sz; have := hlG.le; omega⟩
  have hM := hM.rowc (cs' := mrk Zq (1) 0 xq) 2 rfl hmk
  refine stR hF (d_callX Tryd.call11 hF (.cons rfl (.cons rfl .nil)) (markVectorS_ok blG clG R0 (1) Zq xq _ (by omega) (by omega) hZq (hM.row 2 rfl))) rfl ?_
  rintro _ w' a ⟨hx, rfl, hbk⟩ hF
  have hM := hM.upd 2 rfl hx hbk
  change Mem w w' [some (b1, algC (p : Int) (n : Int) T f), some (blW, csW), some (blG, mrk Zq (1) (R0 * 6) xq), none] [] at hM
  refine st hF (g_assign hF rfl) rfl fun a hF => ?_
  refine wpList_nil (tN (sq (wp_region_lit ?_)))
  refine st hF (g_assign hF rfl) rfl fun a hF => ?_
  refine wpList_nil (tN (sq (wp_region_lit ?_)))
  refine st hF (g_move hF rfl) rfl fun a hF => st hF (g_move hF rfl) rfl fun a hF => ?_
  refine stR hF (d_callX Tryd.call12 hF (.cons rfl (.cons rfl .nil)) (heldVectorS_ok blG clG R0 (1) Zq xq _ (by omega) (by omega) hZq (hM.row 2 rfl))) rfl ?_
  rintro _ w' a ⟨hx, rfl, hbk⟩ hF
  have hM := hM.upd 2 rfl hx hbk
  change Mem w w' [some (b1, algC (p : Int) (n : Int) T f), some (blW, csW), some (blG, mrk Zq (1) (R0 * 6) xq), none] [] at hM
  refine st hF (g_assign hF rfl) rfl fun a hF => ?_
  refine wpList_nil (tN (sq (sq (wp_region_lit ?_))))
  refine st hF (g_move hF rfl) rfl fun a hF => st hF (g_lss hF rfl rfl) rfl fun a hF => ?_
  refine wpList_nil (tN ?_)
  refine c_cond hF rfl (fun h3 => ?_) (fun h3 => ?_)
  ·
   first | exact absurd rfl h3 | (exfalso; omega)
  ·
   refine wp_skip (tN (sq (sq (wp_region_lit ?_))))
   refine st hF (g_move hF rfl) rfl fun a hF => st hF (g_move hF rfl) rfl fun a hF => st hF (g_neq hF rfl rfl) rfl fun a hF => ?_
   refine wpList_nil (tN ?_)
   refine c_cond hF rfl (fun h4 => ?_) (fun h4 => ?_)
   ·
    first | exact absurd rfl h4 | (exfalso; omega)
   ·
    refine wp_skip (tN (sq (wp_region_lit ?_)))
    refine st hF (g_loadAgg ty_ag_26 hF rfl (hM.row 0 rfl) (by simp only [fnC_size, cells_size, vecC_size, tabC_size, planeC_size, dgC_size, numC_sz, ldB_size, rowV_size, mrk_size] <;> omega) (whole cells_size)) rfl fun a hF => ?_
    refine stR hF (d_call Tryd.call8 hF (.cons rfl .nil) (toAlgebra_ok (p : Int) (n : Int) T f _)) rfl ?_
    rintro _ w' a ⟨hx, rfl⟩ hF
    have hM := hM.ext hx
    refine stR hF (d_call Tryd.call9 hF (.cons rfl .nil) (PrimitiveIdempotentsI_W p n T f R0 W r0 W0 _ hp hn0 hn hTp hT0 hf hc hcom uu huu haI hkI hK0 hR0 hW0)) rfl ?_
    rintro u w' a ⟨hx, ul, rfl, blH, clH, csH, hlH, hgl, hbl⟩ hF
    obtain rfl := hlH.val
    have hM := hM.fill hx 3 hbl hgl
    change Mem w w' [some (b1, algC (p : Int) (n : Int) T f), some (blW, csW), some (blG, mrk Zq (1) (R0 * 6) xq), some (blH, csH)] [] at hM
    refine st hF (g_move hF rfl) rfl fun a hF => st hF (g_extract hF rfl rfl) rfl fun a hF => st hF (g_extract hF rfl rfl) rfl fun a hF => st hF (g_assign hF rfl) rfl fun a hF => st hF (g_assign hF rfl) rfl fun a hF => ?_
    refine wpList_nil (tN (sq (sq (wp_region_lit ?_))))
    refine st hF (g_move hF rfl) rfl fun a hF => st hF (g_move hF rfl) rfl fun a hF => ?_
    refine stR hF (d_call Tryd.call10 hF (.cons rfl (.cons rfl .nil)) (eqVectorS_ok blH clH blW clW R0 csH csW _ _ _ _ W W _ (by omega) hlH (hM.row 3 rfl) hlW (hM.row 1 rfl) hvf hvf (fun _ _ _ _ => rfl))) rfl ?_
    rintro _ w' a ⟨hx, rfl⟩ hF
    have hM := hM.ext hx
    refine st hF (g_not hF rfl) rfl fun a hF => st hF (g_move hF rfl) rfl fun a hF => stY hF rfl rfl rfl (g_move hF rfl) rfl fun a hF => stY hF rfl rfl rfl (g_move hF rfl) rfl fun a hF => stY hF rfl rfl rfl (g_neq hF rfl rfl) rfl fun a hF => st hF (g_pickF hF rfl rfl) rfl fun a hF => ?_
    refine wpList_nil (tN ?_)
    refine c_kF hF rfl (by decide) ?_
    refine wp_skip (tN (sq (wp_region_lit ?_)))
    refine st hF (g_assign hF rfl) rfl fun a hF => ?_
    refine wpList_nil (tN (sq (wp_region_lit ?_)))
    refine st hF (g_move hF rfl) rfl fun a hF => st hF (g_move hF rfl) rfl fun a hF => ?_
    refine stR hF (d_callX Tryd.call12 hF (.cons rfl (.cons rfl .nil)) (heldVectorS_ok blG clG R0 (1) Zq xq _ (by omega) (by omega) hZq (hM.row 2 rfl))) rfl ?_
    rintro _ w' a ⟨hx, rfl, hbk⟩ hF
    have hM := hM.upd 2 rfl hx hbk
    change Mem w w' [some (b1, algC (p : Int) (n : Int) T f), some (blW, csW), some (blG, mrk Zq (1) (R0 * 6) xq), some (blH, csH)] [] at hM
    refine st hF (g_assign hF rfl) rfl fun a hF => ?_
    refine wpList_nil (tN (sq (sq (wp_region_lit ?_))))
    refine st hF (g_move hF rfl) rfl fun a hF => st hF (g_lss hF rfl rfl) rfl fun a hF => ?_
    refine wpList_nil (tN ?_)
    refine c_kF hF rfl h3 ?_
    refine wp_skip (tN (sq (sq (wp_region_lit ?_))))
    refine st hF (g_move hF rfl) rfl fun a hF => st hF (g_move hF rfl) rfl fun a hF => st hF (g_neq hF rfl rfl) rfl fun a hF => ?_
    refine wpList_nil (tN ?_)
    refine c_kF hF rfl h4 ?_
    refine wp_skip (tN (sq (wp_region_lit ?_)))
    refine st hF (g_assign hF rfl) rfl fun a hF => ?_
    refine wpList_nil (tN (wp_ret ?_))
    refine fin1 rfl hF.defers (res_tmp hF rfl) ⟨_, rfl, hM.below, ?_⟩
    show _ = _
    rfl

theorem law_PrimitiveIdempotents (p n : Int) (T : Nat → Nat → Nat → Nat) (f : Nat → Nat) (ev : Value) (w : World) (hT : ∀ i j k, T i j k ≤ 255) (hf : ∀ i, f i ≤ 255) (hg : Blk w 0 #[.iface 141 ev]) : CallsV Tryd.prog 3 #[.agg (algC p n T f)] w (.bool true) := by
  by_cases hc : CodeP p n T f 0 (vAtL [])
  · have hs0 := hc.1.1
    have hp0 := primeP_pos hs0.1
    have hn := hs0.2.1
    have e1 : ((p.toNat : Nat) : Int) = p := by omega
    have e2 : ((n.toNat : Nat) : Int) = n := by omega
    have hc2 : CodeP ((p.toNat : Nat) : Int) ((n.toNat : Nat) : Int) (trunc n.toNat T) f 0 (vAtL []) := by rw [e1, e2]; exact code_trunc hc
    obtain ⟨uu, huu⟩ := hc.1.2.2
    have hpp := primeN_of hs0.1
    by_cases hcom : comP (trunc n.toNat T)
    · have hpm := hpp.two
      have haI := AssI_of (p := p.toNat) (n := n.toNat) (T := (trunc n.toNat T)) (by omega) hc.1.2.1
      have hkI := ComI_of (n := n.toNat) (T := (trunc n.toNat T)) (by omega) hcom
      obtain ⟨r0, W0, hK0⟩ := isKer_exists (n := n.toNat) (m := n.toNat) (M := spE p.toNat n.toNat (trunc n.toNat T) uu p.toNat 1) hpp (fun i c => spE_lt (by omega) i c)
      have h := law_PrimitiveIdempotentsY p.toNat n.toNat (trunc n.toNat T) f _ _ r0 W0 w hpp (by omega) (by omega) (trunc_lt hs0) trunc_out hf hc2 hcom uu huu haI hkI hK0 rfl rfl
      rw [e1, e2, ← algC_trunc hs0] at h
      exact h
    · have h := law_PrimitiveIdempotentsN p.toNat n.toNat (trunc n.toNat T) f ev w hpp (by omega) (by omega) (trunc_lt hs0) trunc_out hf hc2 hcom hg
      rw [e1, e2, ← algC_trunc hs0] at h
      exact h
  · exact law_PrimitiveIdempotentsA p n T f w hT hf hc

end Go.Proofs.YtbeodbfbfbefkaaDoor
