/- What functions of the program return, as walks over their operations; no statement of the seat is proved here. -/
import Derived.Test.YtggdbbjmdbkpcaaP6
import Derived.Test.YtggdbbjmdbkpcaaEch7
import Derived.Test.YtggdbbjmdbkpcaaSw33
set_option linter.unusedVariables false
set_option linter.unusedSimpArgs false
namespace Go.Proofs.Ytggdbbjmdbkpcaa
open Go Go.RowKit Go.Sw Go.Ech
open Classical
theorem ty_ud_3 : Try.prog.underlying 3 = some (.int .i64) := by kernel_rfl
theorem eqVectorS_ok (b1 c1 b2 c2 m : Nat) (cs1 cs2 : Array Value) (v1 v2 : Value) (e1 e2 : Option (Nat × Array Value)) (V1 V2 : Nat → Nat → Nat) (w : World) (hm : m < 1000) (hs1 : SlAt 6 v1 e1 m b1 c1 cs1 (fun c => .int .u8 ((V1 (c / 6) (c % 6) : Nat) : Int))) (hb1 : Blk w b1 cs1) (hs2 : SlAt 6 v2 e2 m b2 c2 cs2 (fun c => .int .u8 ((V2 (c / 6) (c % 6) : Nat) : Int))) (hb2 : Blk w b2 cs2) (hv1 : ∀ i c, V1 i c ≤ 255) (hv2 : ∀ i c, V2 i c ≤ 255) (he : ∀ i, i < m → eqV 6 (V1 i) (V2 i)) :
    CallsR Try.prog 18 #[.slice (some ⟨b1, 0, none⟩) (m) (c1), .slice (some ⟨b2, 0, none⟩) (m) (c2)] w (fun res _ => res = .bool true) := by
  refine calls_fr [.slice (some ⟨b1, 0, none⟩) (m) (c1), .slice (some ⟨b2, 0, none⟩) (m) (c2)] Try.func18 rfl Try.ntmps18 rfl fun a hF => ?_
  have hM : Mem w w [] [(b1, cs1), (b2, cs2)] := MemX.startD w 0 _ (startD2 hb1 hb2)
  change Fr 27 a [(0, .slice (some ⟨b1, 0, none⟩) (m) (c1)), (1, .slice (some ⟨b2, 0, none⟩) (m) (c2))] at hF
  refine sq ?_
  refine wp_region_lit ?_
  refine st hF (g_assign hF rfl) rfl fun a hF => ?_
  refine wpList_nil ?_
  refine tN ?_
  refine sq ?_
  refine sq ?_
  refine wp_region_lit ?_
  refine st hF (g_move hF rfl) rfl fun a hF => st hF (g_len ty_us_27 hF rfl) rfl fun a hF => st hF (g_move hF rfl) rfl fun a hF => st hF (g_len ty_us_27 hF rfl) rfl fun a hF => st hF (g_neq hF rfl rfl) rfl fun a hF => ?_
  refine wpList_nil ?_
  refine tN ?_
  refine c_cond hF rfl (fun h1 => ?_) (fun h1 => ?_)
  ·
    exact absurd rfl h1
  ·
    refine wp_skip ?_
    refine tN ?_
    refine sq ?_
    refine sq ?_
    refine wp_region_lit ?_
    refine st hF (g_assign hF rfl) rfl fun a hF => ?_
    refine wpList_nil ?_
    refine tN ?_
    refine wp_block ?_
    change Mem w _ [] [(b1, cs1), (b2, cs2)] at hM
    refine c_loop (fun (kk : Nat) a w' => kk ≤ m ∧ (True) ∧ Fr 27 a [(0, .slice (some ⟨b1, 0, none⟩) (m) (c1)), (1, .slice (some ⟨b2, 0, none⟩) (m) (c2)), (6, .slice (some ⟨b1, 0, none⟩) (m) (c1)), (7, .int .i64 (((m : Nat) : Int))), (8, .slice (some ⟨b2, 0, none⟩) (m) (c2)), (9, .int .i64 (((m : Nat) : Int))), (10, .bool (decide ((((m : Nat) : Int) : Int) ≠ ((m : Nat) : Int)))), (5, .int .i64 (((kk : Nat) : Int)))] ∧ Mem w w' [] [(b1, cs1), (b2, cs2)]) (fun kk => m - kk) 0 ?_ ?_
    ·
      refine ⟨by omega, trivial, hF.sub _ (by repeat' constructor), ?_⟩
      exact hM
    ·
      clear hF hM
      rintro gk a w' ⟨hgk, hinv1, hF, hM⟩
      refine sq ?_
      refine sq ?_
      refine wp_region_lit ?_
      refine st hF (g_move hF rfl) rfl fun a hF => st hF (g_move hF rfl) rfl fun a hF => st hF (g_len ty_us_27 hF rfl) rfl fun a hF => st hF (g_lss hF rfl rfl) rfl fun a hF => ?_
      refine wpList_nil ?_
      refine tN ?_
      refine c_cond hF rfl (fun h2 => ?_) (fun h2 => ?_)
      ·
        refine wp_skip ?_
        refine tN ?_
        refine sq ?_
        refine wp_block ?_
        refine sq ?_
        refine c_par 8 [] [.val (.slice (some ⟨b1, 0, none⟩) (m) (c1)), .val (.int .i64 (((gk : Nat) : Int))), .val (ptr b1 (0 + (gk) * 6)), .val (.agg (vecC (V1 (gk)))), .val (.slice (some ⟨b2, 0, none⟩) (m) (c2)), .val (.int .i64 (((gk : Nat) : Int))), .val (ptr b2 (0 + (gk) * 6)), .val (.agg (vecC (V2 (gk))))] hmix rfl hF rfl hM ⟨fun a w gG hF hS hd => by exact par_val hS rfl (g_move hF rfl), fun a w gG hF hS hd => by exact par_val hS rfl (g_move hF rfl), fun a w gG hF hS hd => by have hF := hF.ext1 17 (hd 0 rfl rfl); have hF := hF.ext1 18 (hd 1 rfl rfl); exact par_val hS rfl (g_indexSl (i := gk) ty_sl_27 hF rfl rfl rfl (by omega)), fun a w gG hF hS hd => by have hF := hF.ext1 19 (hd 2 rfl rfl); have hM := hS.mem rfl; exact par_val hS rfl (g_loadAgg ty_ag_30 hF rfl (hM.fz 0 rfl) (hs1.room (gk) (by omega)) (hs1.vec0 (gk) (by omega))), fun a w gG hF hS hd => by exact par_val hS rfl (g_move hF rfl), fun a w gG hF hS hd => by exact par_val hS rfl (g_move hF rfl), fun a w gG hF hS hd => by have hF := hF.ext1 21 (hd 4 rfl rfl); have hF := hF.ext1 22 (hd 5 rfl rfl); exact par_val hS rfl (g_indexSl (i := gk) ty_sl_27 hF rfl rfl rfl (by omega)), fun a w gG hF hS hd => by have hF := hF.ext1 23 (hd 6 rfl rfl); have hM := hS.mem rfl; exact par_val hS rfl (g_loadAgg ty_ag_30 hF rfl (hM.fz 1 rfl) (hs2.room (gk) (by omega)) (hs2.vec0 (gk) (by omega))), trivial⟩ ?_
        intro a w' L hF hS hq
        have hF := hF.ext1 17 (hq 0 rfl rfl)
        have hF := hF.ext1 18 (hq 1 rfl rfl)
        have hF := hF.ext1 19 (hq 2 rfl rfl)
        have hF := hF.ext1 20 (hq 3 rfl rfl)
        have hF := hF.ext1 21 (hq 4 rfl rfl)
        have hF := hF.ext1 22 (hq 5 rfl rfl)
        have hF := hF.ext1 23 (hq 6 rfl rfl)
        have hF := hF.ext1 24 (hq 7 rfl rfl)
        have hM := hS.mem rfl
        change wpList Try.prog _ _ [_, _] _ _
        refine stR hF (d_call Try.call35 hF (.cons rfl (.cons rfl .nil)) (eqVector_ok (V1 (gk)) (V2 (gk)) _)) rfl ?_
        rintro _ w' a ⟨hx, rfl⟩ hF
        have hM := hM.ext hx
        refine st hF (g_notP hF rfl) rfl fun a hF => ?_
        refine wpList_nil ?_
        refine tN ?_
        refine c_cond hF rfl (fun h3 => ?_) (fun h3 => ?_)
        ·
          exact absurd (he gk (by omega)) h3
        ·
          refine wp_skip ?_
          refine iN ?_
          refine tN ?_
          refine wp_region_lit ?_
          refine st hF (g_move hF rfl) rfl fun a hF => st hF (g_add hF rfl rfl (add_nat (gk) (1) (by omega))) rfl fun a hF => st hF (g_assign hF rfl) rfl fun a hF => ?_
          refine wpList_nil ?_
          refine tN ?_
          refine ⟨gk + 1, ⟨by omega, trivial, hF.sub _ (by repeat' constructor), ?_⟩, by omega⟩
          exact hM
      ·
        obtain rfl : m = gk := by omega
        refine wp_exit ?_
        refine tX ?_
        refine tX ?_
        refine ib_same ?_
        refine tN ?_
        refine sq ?_
        refine wp_region_lit ?_
        refine st hF (g_assign hF rfl) rfl fun a hF => ?_
        refine wpList_nil ?_
        refine tN ?_
        refine wp_ret ?_
        refine fin1 rfl hF.defers (res_tmp hF rfl) ⟨_, rfl, hM.below, ?_⟩
        show _ = _
        rfl

theorem eqVectorS_0  (w : World)  :
    CallsR Try.prog 18 #[.slice none 0 0, .slice none 0 0] w (fun res _ => res = .bool true) := by
  refine calls_fr [.slice none 0 0, .slice none 0 0] Try.func18 rfl Try.ntmps18 rfl fun a hF => ?_
  have hM : Mem w w [] [] := MemX.start w 0
  change Fr 27 a [(0, .slice none 0 0), (1, .slice none 0 0)] at hF
  refine sq ?_
  refine wp_region_lit ?_
  refine st hF (g_assign hF rfl) rfl fun a hF => ?_
  refine wpList_nil ?_
  refine tN ?_
  refine sq ?_
  refine sq ?_
  refine wp_region_lit ?_
  refine st hF (g_move hF rfl) rfl fun a hF => st hF (g_len0 ty_us_27 hF rfl) rfl fun a hF => st hF (g_move hF rfl) rfl fun a hF => st hF (g_len0 ty_us_27 hF rfl) rfl fun a hF => st hF (g_neq hF rfl rfl) rfl fun a hF => ?_
  refine wpList_nil ?_
  refine tN ?_
  refine c_kF hF rfl (by decide) ?_
  refine wp_skip ?_
  refine tN ?_
  refine sq ?_
  refine sq ?_
  refine wp_region_lit ?_
  refine st hF (g_assign hF rfl) rfl fun a hF => ?_
  refine wpList_nil ?_
  refine tN ?_
  refine wp_block ?_
  change Mem w _ [] [] at hM
  refine c_loop (fun (kk : Nat) a w' => kk ≤ 0 ∧ (True) ∧ Fr 27 a [(0, .slice none 0 0), (1, .slice none 0 0), (6, .slice none 0 0), (7, .int .i64 (0)), (8, .slice none 0 0), (9, .int .i64 (0)), (10, .bool (decide ((0 : Int) ≠ 0))), (5, .int .i64 (((kk : Nat) : Int)))] ∧ Mem w w' [] []) (fun kk => 0 - kk) 0 ?_ ?_
  ·
    refine ⟨by omega, trivial, hF.sub _ (by repeat' constructor), ?_⟩
    exact hM
  ·
    clear hF hM
    rintro gk a w' ⟨hgk, hinv1, hF, hM⟩
    refine sq ?_
    refine sq ?_
    refine wp_region_lit ?_
    refine st hF (g_move hF rfl) rfl fun a hF => st hF (g_move hF rfl) rfl fun a hF => st hF (g_len0 ty_us_27 hF rfl) rfl fun a hF => st hF (g_lss hF rfl rfl) rfl fun a hF => ?_
    refine wpList_nil ?_
    refine tN ?_
    refine c_cond hF rfl (fun h2 => ?_) (fun h2 => ?_)
    ·
      first | (exfalso; omega) | contradiction
    ·
      obtain rfl : 0 = gk := by omega
      refine wp_exit ?_
      refine tX ?_
      refine tX ?_
      refine ib_same ?_
      refine tN ?_
      refine sq ?_
      refine wp_region_lit ?_
      refine st hF (g_assign hF rfl) rfl fun a hF => ?_
      refine wpList_nil ?_
      refine tN ?_
      refine wp_ret ?_
      refine fin1 rfl hF.defers (res_tmp hF rfl) ⟨_, rfl, hM.below, ?_⟩
      show _ = _
      rfl

theorem markVectorS_ok (b c m k Z : Nat) (xs : Nat → Value) (w : World) (hm : m ≤ 10) (hk : k ≤ 100) (hZ : m * 6 ≤ Z) (hb : Blk w b (mrk Z k 0 xs)) :
    CallsX Try.prog [b] 19 #[.slice (some ⟨b, 0, none⟩) (m) (c), .int .i64 (((k : Nat) : Int))] w (fun v w' => v = .int .i64 ((k + m * 6 : Nat) : Int) ∧ Blk w' b (mrk Z k (m * 6) xs)) := by
  refine calls_frX [.slice (some ⟨b, 0, none⟩) (m) (c), .int .i64 (((k : Nat) : Int))] Try.func19 rfl Try.ntmps19 rfl fun a hF => ?_
  have hM : MemX [b] w w [some (b, mrk Z k 0 xs)] [] := MemX.startX1 0 hb
  change Fr 27 a [(0, .slice (some ⟨b, 0, none⟩) (m) (c)), (1, .int .i64 (((k : Nat) : Int)))] at hF
  refine sq ?_
  refine wp_region_lit ?_
  refine st hF (g_assign hF rfl) rfl fun a hF => ?_
  refine wpList_nil ?_
  refine tN ?_
  refine sq ?_
  refine sq ?_
  refine wp_region_lit ?_
  refine st hF (g_assign hF rfl) rfl fun a hF => ?_
  refine wpList_nil ?_
  refine tN ?_
  refine wp_block ?_
  change MemX [b] w _ [some (b, mrk Z k 0 xs)] [] at hM
  refine c_loop (fun (kk : Nat) a w' => kk ≤ m ∧ (True) ∧ Fr 27 a [(0, .slice (some ⟨b, 0, none⟩) (m) (c)), (4, .int .i64 (0)), (5, .int .i64 (((kk : Nat) : Int))), (1, .int .i64 (((k + kk * 6 : Nat) : Int)))] ∧ MemX [b] w w' [some (b, mrk Z k (kk * 6) xs)] []) (fun kk => m - kk) 0 ?_ ?_
  ·
    refine ⟨by omega, trivial, hF.sub _ (by repeat' constructor), ?_⟩
    refine hM.rowc 0 rfl (mrk_congr (by omega))
  ·
    clear hF hM
    rintro gi a w' ⟨hgi, hinv1, hF, hM⟩
    refine sq ?_
    refine sq ?_
    refine wp_region_lit ?_
    refine st hF (g_move hF rfl) rfl fun a hF => st hF (g_move hF rfl) rfl fun a hF => st hF (g_len ty_us_27 hF rfl) rfl fun a hF => st hF (g_lss hF rfl rfl) rfl fun a hF => ?_
    refine wpList_nil ?_
    refine tN ?_
    refine c_cond hF rfl (fun h1 => ?_) (fun h1 => ?_)
    ·
      refine wp_skip ?_
      refine tN ?_
      refine sq ?_
      refine wp_block ?_
      refine sq ?_
      refine wp_region_lit ?_
      refine st hF (g_assign hF rfl) rfl fun a hF => ?_
      refine wpList_nil ?_
      refine tN ?_
      refine wp_block ?_
      change MemX [b] w _ [some (b, mrk Z k (gi * 6) xs)] [] at hM
      refine c_loop (fun (kk : Nat) a w' => kk ≤ 6 ∧ (True) ∧ Fr 27 a [(0, .slice (some ⟨b, 0, none⟩) (m) (c)), (4, .int .i64 (0)), (5, .int .i64 (((gi : Nat) : Int))), (7, .int .i64 (((gi : Nat) : Int))), (8, .slice (some ⟨b, 0, none⟩) (m) (c)), (9, .int .i64 (((m : Nat) : Int))), (10, .bool (decide ((((gi : Nat) : Int) : Int) < ((m : Nat) : Int)))), (6, .int .i64 (((kk : Nat) : Int))), (1, .int .i64 (((k + gi * 6 + kk : Nat) : Int)))] ∧ MemX [b] w w' [some (b, mrk Z k (gi * 6 + kk) xs)] []) (fun kk => 6 - kk) 0 ?_ ?_
      ·
        refine ⟨by omega, trivial, hF.sub _ (by repeat' constructor), ?_⟩
        refine hM.rowc 0 rfl (mrk_congr (by omega))
      ·
        clear hF hM
        rintro gj a w' ⟨hgj, hinv2, hF, hM⟩
        refine sq ?_
        refine sq ?_
        refine wp_region_lit ?_
        refine st hF (g_move hF rfl) rfl fun a hF => st hF (g_lss hF rfl rfl) rfl fun a hF => ?_
        refine wpList_nil ?_
        refine tN ?_
        refine c_cond hF rfl (fun h2 => ?_) (fun h2 => ?_)
        ·
          refine wp_skip ?_
          refine tN ?_
          refine sq ?_
          refine wp_block ?_
          refine sq ?_
          refine wp_region_lit ?_
          refine st hF (g_move hF rfl) rfl fun a hF => st hF (g_move hF rfl) rfl fun a hF => st hF (g_move hF rfl) rfl fun a hF => st hF (g_move hF rfl) rfl fun a hF => st hF (g_conv ty_un_5 ty_ud_3 hF rfl (wrap_u8 (by omega) (by omega))) rfl fun a hF => st hF (g_indexSl (i := gi) ty_sl_27 hF rfl rfl rfl (by omega)) rfl fun a hF => st hF (g_indexAddr ty_ar_30 hF rfl rfl rfl (by omega)) rfl fun a hF => ?_
          refine stN hF (d_store 0 hM rfl ty_on_5 hF rfl rfl rfl (by first | omega | (simp only [fnC_size, cells_size, vecC_size, tabC_size, planeC_size, mrk_size] <;> omega))) ?_
          intro _ w' a hM hF
          change MemX [b] w w' [some (b, (mrk Z k (gi * 6 + gj) xs).setIfInBounds (0 + (gi) * 6 + (gj) * 1) (.int .u8 (((k + gi * 6 + gj : Nat) : Int))))] [] at hM
          refine wpList_nil ?_
          refine tN ?_
          refine wp_region_lit ?_
          refine st hF (g_move hF rfl) rfl fun a hF => st hF (g_add hF rfl rfl (add_nat (k + gi * 6 + gj) (1) (by omega))) rfl fun a hF => st hF (g_assign hF rfl) rfl fun a hF => ?_
          refine wpList_nil ?_
          refine iN ?_
          refine tN ?_
          refine wp_region_lit ?_
          refine st hF (g_move hF rfl) rfl fun a hF => st hF (g_add hF rfl rfl (add_nat (gj) (1) (by omega))) rfl fun a hF => st hF (g_assign hF rfl) rfl fun a hF => ?_
          refine wpList_nil ?_
          refine tN ?_
          refine ⟨gj + 1, ⟨by omega, trivial, hF.sub _ (by repeat' constructor), ?_⟩, by omega⟩
          refine hM.rowc 0 rfl ?_
          rw [show k + gi * 6 + gj = k + (gi * 6 + gj) by omega]; exact mrk_set (by omega) (by omega)
        ·
          obtain rfl : 6 = gj := by omega
          refine wp_exit ?_
          refine tX ?_
          refine tX ?_
          refine ib_same ?_
          refine iN ?_
          refine tN ?_
          refine wp_region_lit ?_
          refine st hF (g_move hF rfl) rfl fun a hF => st hF (g_add hF rfl rfl (add_nat (gi) (1) (by omega))) rfl fun a hF => st hF (g_assign hF rfl) rfl fun a hF => ?_
          refine wpList_nil ?_
          refine tN ?_
          rw [show k + gi * 6 + 6 = k + (gi + 1) * 6 from by omega] at hF
          refine ⟨gi + 1, ⟨by omega, trivial, hF.sub _ (by repeat' constructor), ?_⟩, by omega⟩
          refine hM.rowc 0 rfl (mrk_congr (by omega))
    ·
      obtain rfl : m = gi := by omega
      refine wp_exit ?_
      refine tX ?_
      refine tX ?_
      refine ib_same ?_
      refine tN ?_
      refine sq ?_
      refine wp_region_lit ?_
      refine st hF (g_move hF rfl) rfl fun a hF => st hF (g_assign hF rfl) rfl fun a hF => ?_
      refine wpList_nil ?_
      refine tN ?_
      refine wp_ret ?_
      refine fin1 rfl hF.defers (res_tmp hF rfl) ⟨_, rfl, hM.bel, ?_⟩
      exact ⟨rfl, hM.row 0 rfl⟩

theorem markVectorS_0 (k : Nat) (w : World) (hk : k ≤ 100) :
    CallsR Try.prog 19 #[.slice none 0 0, .int .i64 (((k : Nat) : Int))] w (fun res _ => res = .int .i64 ((k : Nat) : Int)) := by
  refine calls_fr [.slice none 0 0, .int .i64 (((k : Nat) : Int))] Try.func19 rfl Try.ntmps19 rfl fun a hF => ?_
  have hM : Mem w w [] [] := MemX.start w 0
  change Fr 27 a [(0, .slice none 0 0), (1, .int .i64 (((k : Nat) : Int)))] at hF
  refine sq ?_
  refine wp_region_lit ?_
  refine st hF (g_assign hF rfl) rfl fun a hF => ?_
  refine wpList_nil ?_
  refine tN ?_
  refine sq ?_
  refine sq ?_
  refine wp_region_lit ?_
  refine st hF (g_assign hF rfl) rfl fun a hF => ?_
  refine wpList_nil ?_
  refine tN ?_
  refine wp_block ?_
  change Mem w _ [] [] at hM
  refine c_loop (fun (kk : Nat) a w' => kk ≤ 0 ∧ (True) ∧ Fr 27 a [(0, .slice none 0 0), (4, .int .i64 (0)), (5, .int .i64 (((kk : Nat) : Int))), (1, .int .i64 (((k : Nat) : Int)))] ∧ Mem w w' [] []) (fun kk => 0 - kk) 0 ?_ ?_
  ·
    refine ⟨by omega, trivial, hF.sub _ (by repeat' constructor), ?_⟩
    exact hM
  ·
    clear hF hM
    rintro gi a w' ⟨hgi, hinv1, hF, hM⟩
    refine sq ?_
    refine sq ?_
    refine wp_region_lit ?_
    refine st hF (g_move hF rfl) rfl fun a hF => st hF (g_move hF rfl) rfl fun a hF => st hF (g_len0 ty_us_27 hF rfl) rfl fun a hF => st hF (g_lss hF rfl rfl) rfl fun a hF => ?_
    refine wpList_nil ?_
    refine tN ?_
    refine c_cond hF rfl (fun h1 => ?_) (fun h1 => ?_)
    ·
      exfalso; omega
    ·
      obtain rfl : 0 = gi := by omega
      refine wp_exit ?_
      refine tX ?_
      refine tX ?_
      refine ib_same ?_
      refine tN ?_
      refine sq ?_
      refine wp_region_lit ?_
      refine st hF (g_move hF rfl) rfl fun a hF => st hF (g_assign hF rfl) rfl fun a hF => ?_
      refine wpList_nil ?_
      refine tN ?_
      refine wp_ret ?_
      refine fin1 rfl hF.defers (res_tmp hF rfl) ⟨_, rfl, hM.below, ?_⟩
      show _ = _
      rfl

theorem heldVectorS_ok (b c m k Z : Nat) (xs : Nat → Value) (w : World) (hm : m ≤ 10) (hk : k ≤ 100) (hZ : m * 6 ≤ Z) (hb : Blk w b (mrk Z k (m * 6) xs)) :
    CallsX Try.prog [b] 20 #[.slice (some ⟨b, 0, none⟩) (m) (c), .int .i64 (((k : Nat) : Int))] w (fun v w' => v = .int .i64 ((k + m * 6 : Nat) : Int) ∧ Blk w' b (mrk Z k (m * 6) xs)) := by
  refine calls_frX [.slice (some ⟨b, 0, none⟩) (m) (c), .int .i64 (((k : Nat) : Int))] Try.func20 rfl Try.ntmps20 rfl fun a hF => ?_
  have hM : MemX [b] w w [some (b, mrk Z k (m * 6) xs)] [] := MemX.startX1 0 hb
  change Fr 29 a [(0, .slice (some ⟨b, 0, none⟩) (m) (c)), (1, .int .i64 (((k : Nat) : Int)))] at hF
  refine sq ?_
  refine wp_region_lit ?_
  refine st hF (g_assign hF rfl) rfl fun a hF => ?_
  refine wpList_nil ?_
  refine tN ?_
  refine sq ?_
  refine sq ?_
  refine wp_region_lit ?_
  refine st hF (g_assign hF rfl) rfl fun a hF => ?_
  refine wpList_nil ?_
  refine tN ?_
  refine wp_block ?_
  change MemX [b] w _ [some (b, mrk Z k (m * 6) xs)] [] at hM
  refine c_loop (fun (kk : Nat) a w' => kk ≤ m ∧ (True) ∧ Fr 29 a [(0, .slice (some ⟨b, 0, none⟩) (m) (c)), (5, .int .i64 (((kk : Nat) : Int))), (1, .int .i64 (((k + kk * 6 : Nat) : Int)))] ∧ MemX [b] w w' [some (b, mrk Z k (m * 6) xs)] []) (fun kk => m - kk) 0 ?_ ?_
  ·
    refine ⟨by omega, trivial, hF.sub _ (by repeat' constructor), ?_⟩
    exact hM
  ·
    clear hF hM
    rintro gi a w' ⟨hgi, hinv1, hF, hM⟩
    refine sq ?_
    refine sq ?_
    refine wp_region_lit ?_
    refine st hF (g_move hF rfl) rfl fun a hF => st hF (g_move hF rfl) rfl fun a hF => st hF (g_len ty_us_27 hF rfl) rfl fun a hF => st hF (g_lss hF rfl rfl) rfl fun a hF => ?_
    refine wpList_nil ?_
    refine tN ?_
    refine c_cond hF rfl (fun h1 => ?_) (fun h1 => ?_)
    ·
      refine wp_skip ?_
      refine tN ?_
      refine sq ?_
      refine wp_block ?_
      refine sq ?_
      refine wp_region_lit ?_
      refine st hF (g_assign hF rfl) rfl fun a hF => ?_
      refine wpList_nil ?_
      refine tN ?_
      refine wp_block ?_
      change MemX [b] w _ [some (b, mrk Z k (m * 6) xs)] [] at hM
      refine c_loop (fun (kk : Nat) a w' => kk ≤ 6 ∧ (True) ∧ Fr 29 a [(0, .slice (some ⟨b, 0, none⟩) (m) (c)), (5, .int .i64 (((gi : Nat) : Int))), (7, .int .i64 (((gi : Nat) : Int))), (8, .slice (some ⟨b, 0, none⟩) (m) (c)), (9, .int .i64 (((m : Nat) : Int))), (10, .bool (decide ((((gi : Nat) : Int) : Int) < ((m : Nat) : Int)))), (6, .int .i64 (((kk : Nat) : Int))), (1, .int .i64 (((k + gi * 6 + kk : Nat) : Int)))] ∧ MemX [b] w w' [some (b, mrk Z k (m * 6) xs)] []) (fun kk => 6 - kk) 0 ?_ ?_
      ·
        refine ⟨by omega, trivial, hF.sub _ (by repeat' constructor), ?_⟩
        exact hM
      ·
        clear hF hM
        rintro gj a w' ⟨hgj, hinv2, hF, hM⟩
        refine sq ?_
        refine sq ?_
        refine wp_region_lit ?_
        refine st hF (g_move hF rfl) rfl fun a hF => st hF (g_lss hF rfl rfl) rfl fun a hF => ?_
        refine wpList_nil ?_
        refine tN ?_
        refine c_cond hF rfl (fun h2 => ?_) (fun h2 => ?_)
        ·
          refine wp_skip ?_
          refine tN ?_
          refine sq ?_
          refine wp_block ?_
          refine sq ?_
          refine sq ?_
          refine wp_region_lit ?_
          refine st hF (g_move hF rfl) rfl fun a hF => st hF (g_move hF rfl) rfl fun a hF => st hF (g_move hF rfl) rfl fun a hF => st hF (g_indexSl (i := gi) ty_sl_27 hF rfl rfl rfl (by omega)) rfl fun a hF => st hF (g_indexAddr ty_ar_30 hF rfl rfl rfl (by omega)) rfl fun a hF => st hF (g_load ty_on_5 hF rfl (hM.row 0 rfl) (mrk_get (c := gi * 6 + gj) (by omega) (by omega) (by omega))) rfl fun a hF => st hF (g_move hF rfl) rfl fun a hF => st hF (g_conv ty_un_5 ty_ud_3 hF rfl (wrap_u8 (by omega) (by omega))) rfl fun a hF => st hF (g_neq hF rfl rfl) rfl fun a hF => ?_
          refine wpList_nil ?_
          refine tN ?_
          refine c_cond hF rfl (fun h3 => ?_) (fun h3 => ?_)
          ·
            exfalso; omega
          ·
            refine wp_skip ?_
            refine tN ?_
            refine wp_region_lit ?_
            refine st hF (g_move hF rfl) rfl fun a hF => st hF (g_add hF rfl rfl (add_nat (k + gi * 6 + gj) (1) (by omega))) rfl fun a hF => st hF (g_assign hF rfl) rfl fun a hF => ?_
            refine wpList_nil ?_
            refine iN ?_
            refine tN ?_
            refine wp_region_lit ?_
            refine st hF (g_move hF rfl) rfl fun a hF => st hF (g_add hF rfl rfl (add_nat (gj) (1) (by omega))) rfl fun a hF => st hF (g_assign hF rfl) rfl fun a hF => ?_
            refine wpList_nil ?_
            refine tN ?_
            refine ⟨gj + 1, ⟨by omega, trivial, hF.sub _ (by repeat' constructor), ?_⟩, by omega⟩
            exact hM
        ·
          obtain rfl : 6 = gj := by omega
          refine wp_exit ?_
          refine tX ?_
          refine tX ?_
          refine ib_same ?_
          refine iN ?_
          refine tN ?_
          refine wp_region_lit ?_
          refine st hF (g_move hF rfl) rfl fun a hF => st hF (g_add hF rfl rfl (add_nat (gi) (1) (by omega))) rfl fun a hF => st hF (g_assign hF rfl) rfl fun a hF => ?_
          refine wpList_nil ?_
          refine tN ?_
          rw [show k + gi * 6 + 6 = k + (gi + 1) * 6 from by omega] at hF
          refine ⟨gi + 1, ⟨by omega, trivial, hF.sub _ (by repeat' constructor), ?_⟩, by omega⟩
          exact hM
    ·
      obtain rfl : m = gi := by omega
      refine wp_exit ?_
      refine tX ?_
      refine tX ?_
      refine ib_same ?_
      refine tN ?_
      refine sq ?_
      refine wp_region_lit ?_
      refine st hF (g_move hF rfl) rfl fun a hF => st hF (g_assign hF rfl) rfl fun a hF => ?_
      refine wpList_nil ?_
      refine tN ?_
      refine wp_ret ?_
      refine fin1 rfl hF.defers (res_tmp hF rfl) ⟨_, rfl, hM.bel, ?_⟩
      exact ⟨rfl, hM.row 0 rfl⟩

theorem heldVectorS_0 (k : Nat) (w : World) (hk : k ≤ 100) :
    CallsR Try.prog 20 #[.slice none 0 0, .int .i64 (((k : Nat) : Int))] w (fun res _ => res = .int .i64 ((k : Nat) : Int)) := by
  refine calls_fr [.slice none 0 0, .int .i64 (((k : Nat) : Int))] Try.func20 rfl Try.ntmps20 rfl fun a hF => ?_
  have hM : Mem w w [] [] := MemX.start w 0
  change Fr 29 a [(0, .slice none 0 0), (1, .int .i64 (((k : Nat) : Int)))] at hF
  refine sq ?_
  refine wp_region_lit ?_
  refine st hF (g_assign hF rfl) rfl fun a hF => ?_
  refine wpList_nil ?_
  refine tN ?_
  refine sq ?_
  refine sq ?_
  refine wp_region_lit ?_
  refine st hF (g_assign hF rfl) rfl fun a hF => ?_
  refine wpList_nil ?_
  refine tN ?_
  refine wp_block ?_
  change Mem w _ [] [] at hM
  refine c_loop (fun (kk : Nat) a w' => kk ≤ 0 ∧ (True) ∧ Fr 29 a [(0, .slice none 0 0), (5, .int .i64 (((kk : Nat) : Int))), (1, .int .i64 (((k : Nat) : Int)))] ∧ Mem w w' [] []) (fun kk => 0 - kk) 0 ?_ ?_
  ·
    refine ⟨by omega, trivial, hF.sub _ (by repeat' constructor), ?_⟩
    exact hM
  ·
    clear hF hM
    rintro gi a w' ⟨hgi, hinv1, hF, hM⟩
    refine sq ?_
    refine sq ?_
    refine wp_region_lit ?_
    refine st hF (g_move hF rfl) rfl fun a hF => st hF (g_move hF rfl) rfl fun a hF => st hF (g_len0 ty_us_27 hF rfl) rfl fun a hF => st hF (g_lss hF rfl rfl) rfl fun a hF => ?_
    refine wpList_nil ?_
    refine tN ?_
    refine c_cond hF rfl (fun h1 => ?_) (fun h1 => ?_)
    ·
      exfalso; omega
    ·
      obtain rfl : 0 = gi := by omega
      refine wp_exit ?_
      refine tX ?_
      refine tX ?_
      refine ib_same ?_
      refine tN ?_
      refine sq ?_
      refine wp_region_lit ?_
      refine st hF (g_move hF rfl) rfl fun a hF => st hF (g_assign hF rfl) rfl fun a hF => ?_
      refine wpList_nil ?_
      refine tN ?_
      refine wp_ret ?_
      refine fin1 rfl hF.defers (res_tmp hF rfl) ⟨_, rfl, hM.below, ?_⟩
      show _ = _
      rfl

end Go.Proofs.Ytggdbbjmdbkpcaa

namespace Go.Proofs.Ytggdbbjmdbkpcaa
open Go Go.RowKit Go.Sw Go.Ech
open Classical
theorem ty_bs0_27 : ∀ w, (Instr.buildSlice 27 0 #[]).run Try.prog w = .ok (.slice (some ⟨w.heap.size, 0, none⟩) 0 0) (w.alloc (.cells #[] 30)) := by intros; kernel_rfl
theorem dualBasis_ok (p n : Nat) (T : Nat → Nat → Nat → Nat) (f : Nat → Nat) (G : Nat → Nat → Nat) (w : World) (hp : primeN p) (hn0 : 0 < n) (hn : n ≤ 6) (hTp : ∀ i j k, T i j k < p) (hT0 : ∀ i j k, n ≤ k → T i j k = 0) (hf : ∀ i, f i ≤ 255) (hfr : FrobN p n T f) (hG : IsCop p n (formM p n T f) G) :
    CallsR Try.prog 74 #[.agg (algC (p : Int) (n : Int) T f)] w (fun u w' => OwnSl 6 w n (fun c => .int .u8 (((fun i j => G j i) (c / 6) (c % 6) : Nat) : Int)) u w') := by
  refine calls_fr [.agg (algC (p : Int) (n : Int) T f)] Try.func74 rfl Try.ntmps74 rfl fun a hF => ?_
  have hM : Mem w w [none, none] [] := MemX.start w 2
  change Fr 6 a [(0, .agg (algC (p : Int) (n : Int) T f))] at hF
  have hp2 := hp.two
  have hp13 := hp.le
  have hT : ∀ i j k, T i j k ≤ 255 := fun i j k => by have := hTp i j k; omega
  have hGp := hG.lt
  obtain ⟨hfr2, hG2⟩ := cop_tr (F' := formM p n (trT T) f) hp hn0 hn (fun i c h => formM_out h) (fun i c h => formM_out h) (formM_lt (by omega)) (fun i hi j hj => by unfold formM; rw [if_pos hj, if_pos hi]; rfl) hfr hG
  refine sq ?_
  refine wp_region_lit ?_
  refine stR hF (d_box 0 hM hF rfl) rfl ?_
  rintro _ w' a ⟨b1, rfl, hM, -⟩ hF
  change Mem w w' [some (b1, algC (p : Int) (n : Int) T f), none] [] at hM
  refine st hF (g_assign hF rfl) rfl fun a hF => ?_
  refine wpList_nil ?_
  refine tN ?_
  refine sq ?_
  refine wp_region_lit ?_
  refine st hF (g_loadAgg ty_ag_32 hF rfl (hM.row 0 rfl) (by simp only [fnC_size, cells_size, vecC_size, tabC_size, planeC_size, mrk_size] <;> omega) (whole cells_size)) rfl fun a hF => ?_
  refine stR hF (d_call Try.call126 hF (.cons rfl .nil) (oppositeTo_ok (p : Int) (n : Int) T f _)) rfl ?_
  rintro _ w' a ⟨hx, rfl⟩ hF
  have hM := hM.ext hx
  refine stR hF (d_callOwn (k := 1) hM (d_call Try.call73 hF (.cons rfl .nil) (copairing_ok p n (trT T) f (fun i j => G j i) _ hp hn0 hn (fun _ _ _ => hT _ _ _) (fun _ => hf _) hfr2 hG2))) rfl ?_
  rintro u w' a ⟨bG, capG, csG, hsG, hM, -⟩ hF
  obtain rfl := hsG.val
  change Mem w w' [some (b1, algC (p : Int) (n : Int) T f), some (bG, csG)] [] at hM
  refine st hF (g_assign hF rfl) rfl fun a hF => ?_
  refine wpList_nil ?_
  refine tN ?_
  refine wp_ret ?_
  refine fin1 rfl hF.defers (res_tmp hF rfl) ⟨_, rfl, hM.below, ?_⟩
  exact ⟨_, _, _, hsG, hM.ge 1 rfl, hM.row 1 rfl⟩

theorem DualBasisSA (p n : Int) (T : Nat → Nat → Nat → Nat) (f : Nat → Nat) (w : World) (hT : ∀ i j k, T i j k ≤ 255) (hf : ∀ i, f i ≤ 255) (hc : ¬ CodeP p n T f 0 (vAtL [])) :
    CallsR Try.prog 28 #[.agg (algC p n T f)] w (fun res _ => res = .tuple #[.slice none 0 0, .int .i64 1]) := by
  refine calls_fr [.agg (algC p n T f)] Try.func28 rfl Try.ntmps28 rfl fun a hF => ?_
  have hM : Mem w w [none, none, none, none] [] := MemX.start w 4
  change Fr 46 a [(0, .agg (algC p n T f))] at hF
  refine sq ?_
  refine wp_region_lit ?_
  refine stR hF (d_box 0 hM hF rfl) rfl ?_
  rintro _ w' a ⟨b1, rfl, hM, -⟩ hF
  change Mem w w' [some (b1, algC p n T f), none, none, none] [] at hM
  refine st hF (g_assign hF rfl) rfl fun a hF => st hF (g_assign hF rfl) rfl fun a hF => ?_
  refine wpList_nil ?_
  refine tN ?_
  refine sq ?_
  refine sq ?_
  refine wp_region_lit ?_
  refine st hF (g_loadAgg ty_ag_32 hF rfl (hM.row 0 rfl) (by simp only [fnC_size, cells_size, vecC_size, tabC_size, planeC_size, mrk_size] <;> omega) (whole cells_size)) rfl fun a hF => ?_
  refine stR hF (d_call Try.call70 hF (.cons rfl (.cons rfl .nil)) (l02Code_0A p n T f _ (fun _ _ _ => hT _ _ _) (fun _ => hf _) hc)) rfl ?_
  rintro _ w' a ⟨hx, rfl⟩ hF
  have hM := hM.ext hx
  refine st hF (g_assign hF rfl) rfl fun a hF => ?_
  refine wpList_nil ?_
  refine tN ?_
  refine sq ?_
  refine wp_region_lit ?_
  refine st hF (g_move hF rfl) rfl fun a hF => st hF (g_neq hF rfl rfl) rfl fun a hF => ?_
  refine wpList_nil ?_
  refine tN ?_
  refine c_kT hF rfl (by decide) ?_
  refine sq ?_
  refine wp_region_lit ?_
  refine st hF (g_move hF rfl) rfl fun a hF => st hF (g_assign hF rfl) rfl fun a hF => st hF (g_assign hF rfl) rfl fun a hF => ?_
  refine wpList_nil ?_
  refine tN ?_
  refine wp_ret ?_
  refine tR ?_
  refine fin2 rfl hF.defers (res_tmp hF rfl) (res_tmp hF rfl) ⟨_, rfl, hM.below, ?_⟩
  show _ = _
  rfl

theorem DualBasisSF (p n : Nat) (T : Nat → Nat → Nat → Nat) (f : Nat → Nat) (w : World) (hp : primeN p) (hn0 : 0 < n) (hn : n ≤ 6) (hTp : ∀ i j k, T i j k < p) (hT0 : ∀ i j k, n ≤ k → T i j k = 0) (hf : ∀ i, f i ≤ 255) (hfr : ¬ FrobN p n T f) (hc : CodeP (p : Int) (n : Int) T f 0 (vAtL [])) :
    CallsR Try.prog 28 #[.agg (algC (p : Int) (n : Int) T f)] w (fun res _ => res = .tuple #[.slice none 0 0, .int .i64 5]) := by
  refine calls_fr [.agg (algC (p : Int) (n : Int) T f)] Try.func28 rfl Try.ntmps28 rfl fun a hF => ?_
  have hM : Mem w w [none, none, none, none] [] := MemX.start w 4
  change Fr 46 a [(0, .agg (algC (p : Int) (n : Int) T f))] at hF
  have hp2 := hp.two
  have hp13 := hp.le
  have hT : ∀ i j k, T i j k ≤ 255 := fun i j k => by have := hTp i j k; omega
  refine sq ?_
  refine wp_region_lit ?_
  refine stR hF (d_box 0 hM hF rfl) rfl ?_
  rintro _ w' a ⟨b1, rfl, hM, -⟩ hF
  change Mem w w' [some (b1, algC (p : Int) (n : Int) T f), none, none, none] [] at hM
  refine st hF (g_assign hF rfl) rfl fun a hF => st hF (g_assign hF rfl) rfl fun a hF => ?_
  refine wpList_nil ?_
  refine tN ?_
  refine sq ?_
  refine sq ?_
  refine wp_region_lit ?_
  refine st hF (g_loadAgg ty_ag_32 hF rfl (hM.row 0 rfl) (by simp only [fnC_size, cells_size, vecC_size, tabC_size, planeC_size, mrk_size] <;> omega) (whole cells_size)) rfl fun a hF => ?_
  refine stR hF (d_call Try.call70 hF (.cons rfl (.cons rfl .nil)) (l02Code_0F p n T f _ hp hn0 hn hTp hf hfr hc)) rfl ?_
  rintro _ w' a ⟨hx, rfl⟩ hF
  have hM := hM.ext hx
  refine st hF (g_assign hF rfl) rfl fun a hF => ?_
  refine wpList_nil ?_
  refine tN ?_
  refine sq ?_
  refine wp_region_lit ?_
  refine st hF (g_move hF rfl) rfl fun a hF => st hF (g_neq hF rfl rfl) rfl fun a hF => ?_
  refine wpList_nil ?_
  refine tN ?_
  refine c_kT hF rfl (by decide) ?_
  refine sq ?_
  refine wp_region_lit ?_
  refine st hF (g_move hF rfl) rfl fun a hF => st hF (g_assign hF rfl) rfl fun a hF => st hF (g_assign hF rfl) rfl fun a hF => ?_
  refine wpList_nil ?_
  refine tN ?_
  refine wp_ret ?_
  refine tR ?_
  refine fin2 rfl hF.defers (res_tmp hF rfl) (res_tmp hF rfl) ⟨_, rfl, hM.below, ?_⟩
  show _ = _
  rfl

theorem DualBasisSY (p n : Nat) (T : Nat → Nat → Nat → Nat) (f : Nat → Nat) (w : World) (hp : primeN p) (hn0 : 0 < n) (hn : n ≤ 6) (hTp : ∀ i j k, T i j k < p) (hT0 : ∀ i j k, n ≤ k → T i j k = 0) (hf : ∀ i, f i ≤ 255) (hfr : FrobN p n T f) (G : Nat → Nat → Nat) (hG : IsCop p n (formM p n T f) G) (hc : CodeP (p : Int) (n : Int) T f 0 (vAtL [])) :
    CallsR Try.prog 28 #[.agg (algC (p : Int) (n : Int) T f)] w (fun u w' => ∃ l, u = .tuple #[l, .int .i64 0] ∧ OwnSl 6 w n (fun c => .int .u8 (((fun i j => G j i) (c / 6) (c % 6) : Nat) : Int)) l w') := by
  refine calls_fr [.agg (algC (p : Int) (n : Int) T f)] Try.func28 rfl Try.ntmps28 rfl fun a hF => ?_
  have hM : Mem w w [none, none, none, none, none] [] := MemX.start w 5
  change Fr 46 a [(0, .agg (algC (p : Int) (n : Int) T f))] at hF
  have hp2 := hp.two
  have hp13 := hp.le
  have hT : ∀ i j k, T i j k ≤ 255 := fun i j k => by have := hTp i j k; omega
  have hGp := hG.lt
  refine sq ?_
  refine wp_region_lit ?_
  refine stR hF (d_box 0 hM hF rfl) rfl ?_
  rintro _ w' a ⟨b1, rfl, hM, -⟩ hF
  change Mem w w' [some (b1, algC (p : Int) (n : Int) T f), none, none, none, none] [] at hM
  refine st hF (g_assign hF rfl) rfl fun a hF => st hF (g_assign hF rfl) rfl fun a hF => ?_
  refine wpList_nil ?_
  refine tN ?_
  refine sq ?_
  refine sq ?_
  refine wp_region_lit ?_
  refine st hF (g_loadAgg ty_ag_32 hF rfl (hM.row 0 rfl) (by simp only [fnC_size, cells_size, vecC_size, tabC_size, planeC_size, mrk_size] <;> omega) (whole cells_size)) rfl fun a hF => ?_
  refine stR hF (d_call Try.call70 hF (.cons rfl (.cons rfl .nil)) (l02Code_0Y p n T f _ hp hn0 hn hTp hf hfr hc)) rfl ?_
  rintro _ w' a ⟨hx, rfl⟩ hF
  have hM := hM.ext hx
  refine st hF (g_assign hF rfl) rfl fun a hF => ?_
  refine wpList_nil ?_
  refine tN ?_
  refine sq ?_
  refine wp_region_lit ?_
  refine st hF (g_move hF rfl) rfl fun a hF => st hF (g_neq hF rfl rfl) rfl fun a hF => ?_
  refine wpList_nil ?_
  refine tN ?_
  refine c_kF hF rfl (by decide) ?_
  refine wp_skip ?_
  refine tN ?_
  refine sq ?_
  refine wp_region_lit ?_
  refine st hF (g_loadAgg ty_ag_32 hF rfl (hM.row 0 rfl) (by simp only [fnC_size, cells_size, vecC_size, tabC_size, planeC_size, mrk_size] <;> omega) (whole cells_size)) rfl fun a hF => ?_
  refine stR hF (d_call Try.call71 hF (.cons rfl .nil) (l02Copairing_ok p n T f G _ hp hn0 hn hTp hT0 hf hfr hG)) rfl ?_
  rintro u w' a ⟨hx, hr⟩ hF
  have hr := hr.rows.fresh hM
  have hM := hM.ext hx
  obtain ⟨DG, βG, κG, CG, bG, cG, csG, hRG, hsG, hmG, hgG, hbG, hM⟩ := hM.addR hr
  obtain rfl := hsG.val
  have hRmG : ∀ x ∈ (DG ++ []), x ∈ (DG ++ []) := fun _ h => h
  change Mem w w' [some (b1, algC (p : Int) (n : Int) T f), none, none, none, none] (DG ++ []) at hM
  refine stR hF (d_buildC 1 hM hF rfl ty_bs0_27) rfl ?_
  rintro _ w' a ⟨b3, rfl, hM, -⟩ hF
  change Mem w w' [some (b1, algC (p : Int) (n : Int) T f), some (b3, #[]), none, none, none] (DG ++ []) at hM
  refine st hF (g_assign hF rfl) rfl fun a hF => st hF (g_assign hF rfl) rfl fun a hF => ?_
  refine wpList_nil ?_
  refine tN ?_
  refine sq ?_
  refine sq ?_
  refine wp_region_lit ?_
  refine st hF (g_assign hF rfl) rfl fun a hF => ?_
  refine wpList_nil ?_
  refine tN ?_
  refine wp_block ?_
  change Mem w _ [some (b1, algC (p : Int) (n : Int) T f), some (b3, #[]), none, none, none] (DG ++ []) at hM
  refine c_loop (fun (kk : Nat) a w' => kk ≤ n ∧ (True) ∧ ∃ (u6_1 : Value) (e6_1 : Option (Nat × Array Value)), Sl 6 u6_1 e6_1 (kk) (fun c => .int .u8 (((fun i j => G j i) (c / 6) (c % 6) : Nat) : Int)) ∧ Fr 46 a [(0, .agg (algC (p : Int) (n : Int) T f)), (1, ptr b1 (0)), (2, .slice none 0 0), (3, .int .i64 (0)), (10, .agg (algC (p : Int) (n : Int) T f)), (11, .int .i64 (0)), (4, .int .i64 (0)), (12, .int .i64 (0)), (13, .bool (decide ((0 : Int) ≠ 0))), (15, .agg (algC (p : Int) (n : Int) T f)), (16, .slice (some ⟨bG, 0, none⟩) (n) (cG)), (17, .slice (some ⟨b3, 0, none⟩) (0) (0)), (5, .slice (some ⟨bG, 0, none⟩) (n) (cG)), (7, .int .i64 (((kk : Nat) : Int))), (6, u6_1)] ∧ Mem w w' [some (b1, algC (p : Int) (n : Int) T f), e6_1, none, none, none] (DG ++ [])) (fun kk => n - kk) 0 ?_ ?_
  ·
    refine ⟨by omega, trivial, (.slice (some ⟨b3, 0, none⟩) (0) (0)), (some (b3, #[])), (Sl.empty 6 _ _), hF.sub _ (by repeat' constructor), ?_⟩
    exact hM
  ·
    clear hF hM
    rintro gj a w' ⟨hgj, hinv1, u6_1, e6_1, hslj, hF, hM⟩
    refine sq ?_
    refine sq ?_
    refine wp_region_lit ?_
    refine st hF (g_move hF rfl) rfl fun a hF => st hF (g_fieldAddr ty_fo_32_1 hF rfl) rfl fun a hF => st hF (g_load ty_on_2 hF rfl (hM.row 0 rfl) (algC_n (by omega))) rfl fun a hF => st hF (g_lss hF rfl rfl) rfl fun a hF => ?_
    refine wpList_nil ?_
    refine tN ?_
    refine c_cond hF rfl (fun h4 => ?_) (fun h4 => ?_)
    ·
      refine wp_skip ?_
      refine tN ?_
      refine sq ?_
      refine wp_block ?_
      refine sq ?_
      refine wp_region_lit ?_
      refine st hF (g_build0 ty_bu_30) rfl fun a hF => ?_
      refine stR hF (d_alloc 2 hM ty_ze_30) rfl ?_
      rintro _ w' a ⟨b5, rfl, hM, -⟩ hF
      change Mem w w' [some (b1, algC (p : Int) (n : Int) T f), e6_1, some (b5, fnC 6 (fun _ => .int .u8 (0))), none, none] (DG ++ []) at hM
      refine stN hF (d_storeAgg 2 hM rfl ty_sz_30 hF rfl rfl (by first | exact vecC_one | exact cells_one | (refine fnC_one fun _ _ => ?_; first | rfl | (split <;> rfl))) (by simp only [fnC_size, cells_size, vecC_size, tabC_size, planeC_size, mrk_size]) (by simp only [fnC_size, cells_size, vecC_size, tabC_size, planeC_size, mrk_size] <;> omega) (splice_whole _ _ (by simp only [fnC_size, cells_size, vecC_size, tabC_size, planeC_size, mrk_size]))) ?_
      intro _ w' a hM hF
      change Mem w w' [some (b1, algC (p : Int) (n : Int) T f), e6_1, some (b5, fnC 6 (fun _ => .int .u8 (0))), none, none] (DG ++ []) at hM
      refine wpList_nil ?_
      refine tN ?_
      refine sq ?_
      refine sq ?_
      refine wp_region_lit ?_
      refine st hF (g_assign hF rfl) rfl fun a hF => ?_
      refine wpList_nil ?_
      refine tN ?_
      refine wp_block ?_
      change Mem w _ [some (b1, algC (p : Int) (n : Int) T f), e6_1, some (b5, fnC 6 (fun _ => .int .u8 (0))), none, none] (DG ++ []) at hM
      refine c_loop (fun (kk : Nat) a w' => kk ≤ n ∧ (True) ∧ Fr 46 a [(0, .agg (algC (p : Int) (n : Int) T f)), (1, ptr b1 (0)), (2, .slice none 0 0), (3, .int .i64 (0)), (10, .agg (algC (p : Int) (n : Int) T f)), (11, .int .i64 (0)), (4, .int .i64 (0)), (12, .int .i64 (0)), (13, .bool (decide ((0 : Int) ≠ 0))), (15, .agg (algC (p : Int) (n : Int) T f)), (16, .slice (some ⟨bG, 0, none⟩) (n) (cG)), (17, .slice (some ⟨b3, 0, none⟩) (0) (0)), (5, .slice (some ⟨bG, 0, none⟩) (n) (cG)), (7, .int .i64 (((gj : Nat) : Int))), (6, u6_1), (18, .int .i64 (((gj : Nat) : Int))), (19, ptr b1 (0 + 1)), (20, .int .i64 (((n : Nat) : Int))), (21, .bool (decide ((((gj : Nat) : Int) : Int) < ((n : Nat) : Int)))), (24, .agg (fnC 6 (fun _ => .int .u8 (0)))), (8, ptr b5 (0)), (9, .int .i64 (((kk : Nat) : Int)))] ∧ Mem w w' [some (b1, algC (p : Int) (n : Int) T f), e6_1, some (b5, fnC 6 (fun c => .int .u8 ((if c < kk then G c gj else 0 : Nat) : Int))), none, none] (DG ++ [])) (fun kk => n - kk) 0 ?_ ?_
      ·
        refine ⟨by omega, trivial, hF.sub _ (by repeat' constructor), ?_⟩
        exact hM.cast (by simp)
      ·
        clear hF hM
        rintro gi a w' ⟨hgi, hinv2, hF, hM⟩
        have hgi := hGp gi gj
        refine sq ?_
        refine sq ?_
        refine wp_region_lit ?_
        refine st hF (g_move hF rfl) rfl fun a hF => st hF (g_fieldAddr ty_fo_32_1 hF rfl) rfl fun a hF => st hF (g_load ty_on_2 hF rfl (hM.row 0 rfl) (algC_n (by omega))) rfl fun a hF => st hF (g_lss hF rfl rfl) rfl fun a hF => ?_
        refine wpList_nil ?_
        refine tN ?_
        refine c_cond hF rfl (fun h6 => ?_) (fun h6 => ?_)
        ·
          refine wp_skip ?_
          refine tN ?_
          refine sq ?_
          refine wp_block ?_
          refine wp_region_lit ?_
          refine st hF (g_move hF rfl) rfl fun a hF => st hF (g_move hF rfl) rfl fun a hF => st hF (g_move hF rfl) rfl fun a hF => st hF (g_indexSl (i := gi) ty_sl_37 hF rfl rfl rfl (by omega)) rfl fun a hF => st hF (g_load ty_on_56 hF rfl (hM.fzm hmG) (hsG.get1 (gi) (by omega))) rfl fun a hF => st hF (g_move hF rfl) rfl fun a hF => st hF (g_indexSl (i := gj) ty_sl_56 hF rfl rfl rfl (by omega)) rfl fun a hF => st hF (g_load ty_on_2 hF rfl (hM.fzm (hRmG _ (hRG.mem (gi) (by omega)))) (hRG.get (i := gi) (by omega) (gj) (by omega))) rfl fun a hF => st hF (g_conv ty_un_5 ty_ud_2 hF rfl (wrap_u8 (by omega) (by have := hGp gi gj; omega))) rfl fun a hF => st hF (g_indexAddr ty_ar_30 hF rfl rfl rfl (by omega)) rfl fun a hF => ?_
          refine stN hF (d_store 2 hM rfl ty_on_5 hF rfl rfl rfl (by first | omega | (simp only [fnC_size, cells_size, vecC_size, tabC_size, planeC_size, mrk_size] <;> omega))) ?_
          intro _ w' a hM hF
          rw [show (fnC 6 (fun c => .int .u8 ((if c < gi then G c gj else 0 : Nat) : Int))).setIfInBounds (0 + (gi) * 1) (.int .u8 (((G (gi) (gj) : Nat) : Int))) = fnC 6 (fun c => .int .u8 (((if c = gi then G (gi) (gj) else if c < gi then G c gj else 0) : Nat) : Int)) from fnC_set (fun c _ => by rw [show 0 + (gi) * 1 = gi by omega]; by_cases hh : c = gi <;> simp [hh])] at hM
          change Mem w w' [some (b1, algC (p : Int) (n : Int) T f), e6_1, some (b5, fnC 6 (fun c => .int .u8 (((if c = gi then G (gi) (gj) else if c < gi then G c gj else 0) : Nat) : Int))), none, none] (DG ++ []) at hM
          refine wpList_nil ?_
          refine iN ?_
          refine tN ?_
          refine wp_region_lit ?_
          refine st hF (g_move hF rfl) rfl fun a hF => st hF (g_add hF rfl rfl (add_nat (gi) (1) (by omega))) rfl fun a hF => st hF (g_assign hF rfl) rfl fun a hF => ?_
          refine wpList_nil ?_
          refine tN ?_
          refine ⟨gi + 1, ⟨by omega, trivial, hF.sub _ (by repeat' constructor), ?_⟩, by omega⟩
          refine hM.rowc 2 rfl (fnC_congr fun c hc => congrArg (Value.int .u8) (congrArg Nat.cast ?_))
          by_cases e1 : c = gi
          · simp [e1]
          · have e0 : (c < gi + 1) = (c < gi) := by apply propext; omega
            simp [e0, e1]
        ·
          obtain rfl : n = gi := by omega
          have hM := hM.rowc (cs' := vecC (fun q => G q gj)) 2 rfl (fnC_congr fun c hc => congrArg (Value.int .u8) (congrArg Nat.cast (by by_cases e : c < n; rw [if_pos e]; rw [if_neg e]; exact (hG.out c gj (.inl (by omega))).symm)))
          refine wp_exit ?_
          refine tX ?_
          refine tX ?_
          refine ib_same ?_
          refine tN ?_
          refine wp_region_lit ?_
          refine st hF (g_move hF rfl) rfl fun a hF => st hF (g_loadAgg ty_ag_30 hF rfl (hM.row 2 rfl) (by simp only [fnC_size, cells_size, vecC_size, tabC_size, planeC_size, mrk_size] <;> omega) (whole (by simp only [fnC_size, cells_size, vecC_size, tabC_size, planeC_size, mrk_size]))) rfl fun a hF => ?_
          refine stR hF (d_buildC (vs := [(0, .agg (vecC (fun q => G q gj)))]) 3 hM hF (build1 hF rfl) (fun w => ty_bsg_27_1 (fun q => G q gj) w)) rfl ?_
          rintro _ w' a ⟨b7, rfl, hM, -⟩ hF
          change Mem w w' [some (b1, algC (p : Int) (n : Int) T f), e6_1, some (b5, vecC (fun q => G q gj)), some (b7, vecsC 1 (vAtL [(fun q => G q gj)])), none] (DG ++ []) at hM
          refine stR hF (d_append (k := 1) (N := gj) (m := 1) (f := (fun c => .int .u8 (((fun i j => G j i) (c / 6) (c % 6) : Nat) : Int))) (g := fun q => .int .u8 (((((fun q => G q gj)) q : Nat)) : Int)) ty_si_27 rfl (by decide) hM rfl hF rfl rfl hslj (fun q hq => ((hM.row 3 rfl).cell _).trans (vecs1_get q hq)) (fun _ _ => rfl) (by decide) (by unfold maxLen; omega) (by omega)) rfl ?_
          rintro u8 w' a ⟨e9, hM, hs10⟩ hF
          change Mem w w' [some (b1, algC (p : Int) (n : Int) T f), e9, some (b5, vecC (fun q => G q gj)), some (b7, vecsC 1 (vAtL [(fun q => G q gj)])), none] (DG ++ []) at hM
          refine st hF (g_assign hF rfl) rfl fun a hF => ?_
          refine wpList_nil ?_
          refine iN ?_
          refine tN ?_
          refine wp_region_lit ?_
          refine st hF (g_move hF rfl) rfl fun a hF => st hF (g_add hF rfl rfl (add_nat (gj) (1) (by omega))) rfl fun a hF => st hF (g_assign hF rfl) rfl fun a hF => ?_
          refine wpList_nil ?_
          refine tN ?_
          have hM := hM.drop 2
          have hM := hM.drop 3
          refine ⟨gj + 1, ⟨by omega, trivial, (u8), (e9), (Sl.snoc6 (N := gj) (F := (fun c => .int .u8 (((fun i j => G j i) (c / 6) (c % 6) : Nat) : Int))) (G := fun q => .int .u8 ((G q gj : Nat) : Int)) hs10 (fun q hq => by rw [show (gj * 6 + q) / 6 = gj by omega, show (gj * 6 + q) % 6 = q by omega])), hF.sub _ (by repeat' constructor), ?_⟩, by omega⟩
          exact hM
    ·
      obtain rfl : n = gj := by omega
      refine wp_exit ?_
      refine tX ?_
      refine tX ?_
      refine ib_same ?_
      refine tN ?_
      refine sq ?_
      refine wp_region_lit ?_
      refine st hF (g_move hF rfl) rfl fun a hF => st hF (g_assign hF rfl) rfl fun a hF => st hF (g_assign hF rfl) rfl fun a hF => ?_
      refine wpList_nil ?_
      refine tN ?_
      refine wp_ret ?_
      refine fin2 rfl hF.defers (res_tmp hF rfl) (res_tmp hF rfl) ⟨_, rfl, hM.below, ?_⟩
      exact ⟨_, rfl, OwnSl.pos hM (k := 1) rfl hslj hn0⟩

theorem DualBasisIA (p n : Int) (T : Nat → Nat → Nat → Nat) (f : Nat → Nat) (w : World) (hT : ∀ i j k, T i j k ≤ 255) (hf : ∀ i, f i ≤ 255) (hc : ¬ CodeP p n T f 0 (vAtL [])) :
    CallsR Try.prog 29 #[.agg (algC p n T f)] w (fun res _ => res = .tuple #[.slice none 0 0, .int .i64 1]) := by
  refine calls_fr [.agg (algC p n T f)] Try.func29 rfl Try.ntmps29 rfl fun a hF => ?_
  have hM : Mem w w [none] [] := MemX.start w 1
  change Fr 12 a [(0, .agg (algC p n T f))] at hF
  refine sq ?_
  refine wp_region_lit ?_
  refine stR hF (d_box 0 hM hF rfl) rfl ?_
  rintro _ w' a ⟨b1, rfl, hM, -⟩ hF
  change Mem w w' [some (b1, algC p n T f)] [] at hM
  refine st hF (g_assign hF rfl) rfl fun a hF => st hF (g_assign hF rfl) rfl fun a hF => ?_
  refine wpList_nil ?_
  refine tN ?_
  refine sq ?_
  refine wp_region_lit ?_
  refine st hF (g_loadAgg ty_ag_32 hF rfl (hM.row 0 rfl) (by simp only [fnC_size, cells_size, vecC_size, tabC_size, planeC_size, mrk_size] <;> omega) (whole cells_size)) rfl fun a hF => ?_
  refine stR hF (d_call Try.call72 hF (.cons rfl (.cons rfl .nil)) (frobeniusFault_0A p n T f _ (fun _ _ _ => hT _ _ _) (fun _ => hf _) hc)) rfl ?_
  rintro _ w' a ⟨hx, rfl⟩ hF
  have hM := hM.ext hx
  refine st hF (g_assign hF rfl) rfl fun a hF => ?_
  refine wpList_nil ?_
  refine tN ?_
  refine sq ?_
  refine sq ?_
  refine wp_region_lit ?_
  refine st hF (g_move hF rfl) rfl fun a hF => st hF (g_neq hF rfl rfl) rfl fun a hF => ?_
  refine wpList_nil ?_
  refine tN ?_
  refine c_kT hF rfl (by decide) ?_
  refine sq ?_
  refine wp_region_lit ?_
  refine st hF (g_move hF rfl) rfl fun a hF => st hF (g_assign hF rfl) rfl fun a hF => st hF (g_assign hF rfl) rfl fun a hF => ?_
  refine wpList_nil ?_
  refine tN ?_
  refine wp_ret ?_
  refine tR ?_
  refine fin2 rfl hF.defers (res_tmp hF rfl) (res_tmp hF rfl) ⟨_, rfl, hM.below, ?_⟩
  show _ = _
  rfl

theorem DualBasisIF (p n : Nat) (T : Nat → Nat → Nat → Nat) (f : Nat → Nat) (w : World) (hp : primeN p) (hn0 : 0 < n) (hn : n ≤ 6) (hTp : ∀ i j k, T i j k < p) (hT0 : ∀ i j k, n ≤ k → T i j k = 0) (hf : ∀ i, f i ≤ 255) (hfr : ¬ FrobN p n T f) (hc : CodeP (p : Int) (n : Int) T f 0 (vAtL [])) :
    CallsR Try.prog 29 #[.agg (algC (p : Int) (n : Int) T f)] w (fun res _ => res = .tuple #[.slice none 0 0, .int .i64 5]) := by
  refine calls_fr [.agg (algC (p : Int) (n : Int) T f)] Try.func29 rfl Try.ntmps29 rfl fun a hF => ?_
  have hM : Mem w w [none] [] := MemX.start w 1
  change Fr 12 a [(0, .agg (algC (p : Int) (n : Int) T f))] at hF
  have hp2 := hp.two
  have hp13 := hp.le
  have hT : ∀ i j k, T i j k ≤ 255 := fun i j k => by have := hTp i j k; omega
  refine sq ?_
  refine wp_region_lit ?_
  refine stR hF (d_box 0 hM hF rfl) rfl ?_
  rintro _ w' a ⟨b1, rfl, hM, -⟩ hF
  change Mem w w' [some (b1, algC (p : Int) (n : Int) T f)] [] at hM
  refine st hF (g_assign hF rfl) rfl fun a hF => st hF (g_assign hF rfl) rfl fun a hF => ?_
  refine wpList_nil ?_
  refine tN ?_
  refine sq ?_
  refine wp_region_lit ?_
  refine st hF (g_loadAgg ty_ag_32 hF rfl (hM.row 0 rfl) (by simp only [fnC_size, cells_size, vecC_size, tabC_size, planeC_size, mrk_size] <;> omega) (whole cells_size)) rfl fun a hF => ?_
  refine stR hF (d_call Try.call72 hF (.cons rfl (.cons rfl .nil)) (frobeniusFault_0F p n T f _ hp hn0 hn hTp hf hfr hc)) rfl ?_
  rintro _ w' a ⟨hx, rfl⟩ hF
  have hM := hM.ext hx
  refine st hF (g_assign hF rfl) rfl fun a hF => ?_
  refine wpList_nil ?_
  refine tN ?_
  refine sq ?_
  refine sq ?_
  refine wp_region_lit ?_
  refine st hF (g_move hF rfl) rfl fun a hF => st hF (g_neq hF rfl rfl) rfl fun a hF => ?_
  refine wpList_nil ?_
  refine tN ?_
  refine c_kT hF rfl (by decide) ?_
  refine sq ?_
  refine wp_region_lit ?_
  refine st hF (g_move hF rfl) rfl fun a hF => st hF (g_assign hF rfl) rfl fun a hF => st hF (g_assign hF rfl) rfl fun a hF => ?_
  refine wpList_nil ?_
  refine tN ?_
  refine wp_ret ?_
  refine tR ?_
  refine fin2 rfl hF.defers (res_tmp hF rfl) (res_tmp hF rfl) ⟨_, rfl, hM.below, ?_⟩
  show _ = _
  rfl

theorem DualBasisIY (p n : Nat) (T : Nat → Nat → Nat → Nat) (f : Nat → Nat) (w : World) (hp : primeN p) (hn0 : 0 < n) (hn : n ≤ 6) (hTp : ∀ i j k, T i j k < p) (hT0 : ∀ i j k, n ≤ k → T i j k = 0) (hf : ∀ i, f i ≤ 255) (hfr : FrobN p n T f) (G : Nat → Nat → Nat) (hG : IsCop p n (formM p n T f) G) (hc : CodeP (p : Int) (n : Int) T f 0 (vAtL [])) :
    CallsR Try.prog 29 #[.agg (algC (p : Int) (n : Int) T f)] w (fun u w' => ∃ l, u = .tuple #[l, .int .i64 0] ∧ OwnSl 6 w n (fun c => .int .u8 (((fun i j => G j i) (c / 6) (c % 6) : Nat) : Int)) l w') := by
  refine calls_fr [.agg (algC (p : Int) (n : Int) T f)] Try.func29 rfl Try.ntmps29 rfl fun a hF => ?_
  have hM : Mem w w [none, none] [] := MemX.start w 2
  change Fr 12 a [(0, .agg (algC (p : Int) (n : Int) T f))] at hF
  have hp2 := hp.two
  have hp13 := hp.le
  have hT : ∀ i j k, T i j k ≤ 255 := fun i j k => by have := hTp i j k; omega
  have hGp := hG.lt
  refine sq ?_
  refine wp_region_lit ?_
  refine stR hF (d_box 0 hM hF rfl) rfl ?_
  rintro _ w' a ⟨b1, rfl, hM, -⟩ hF
  change Mem w w' [some (b1, algC (p : Int) (n : Int) T f), none] [] at hM
  refine st hF (g_assign hF rfl) rfl fun a hF => st hF (g_assign hF rfl) rfl fun a hF => ?_
  refine wpList_nil ?_
  refine tN ?_
  refine sq ?_
  refine wp_region_lit ?_
  refine st hF (g_loadAgg ty_ag_32 hF rfl (hM.row 0 rfl) (by simp only [fnC_size, cells_size, vecC_size, tabC_size, planeC_size, mrk_size] <;> omega) (whole cells_size)) rfl fun a hF => ?_
  refine stR hF (d_call Try.call72 hF (.cons rfl (.cons rfl .nil)) (frobeniusFault_0Y p n T f _ hp hn0 hn hTp hf hfr hc)) rfl ?_
  rintro _ w' a ⟨hx, rfl⟩ hF
  have hM := hM.ext hx
  refine st hF (g_assign hF rfl) rfl fun a hF => ?_
  refine wpList_nil ?_
  refine tN ?_
  refine sq ?_
  refine sq ?_
  refine wp_region_lit ?_
  refine st hF (g_move hF rfl) rfl fun a hF => st hF (g_neq hF rfl rfl) rfl fun a hF => ?_
  refine wpList_nil ?_
  refine tN ?_
  refine c_kF hF rfl (by decide) ?_
  refine wp_skip ?_
  refine tN ?_
  refine sq ?_
  refine wp_region_lit ?_
  refine st hF (g_loadAgg ty_ag_32 hF rfl (hM.row 0 rfl) (by simp only [fnC_size, cells_size, vecC_size, tabC_size, planeC_size, mrk_size] <;> omega) (whole cells_size)) rfl fun a hF => ?_
  refine stR hF (d_call Try.call74 hF (.cons rfl .nil) (dualBasis_ok p n T f G _ hp hn0 hn hTp hT0 hf hfr hG)) rfl ?_
  rintro u w' a ⟨hx, blD, clD, csD, hlD, hgl, hbl⟩ hF
  obtain rfl := hlD.val
  have hM := hM.fill hx 1 hbl hgl
  change Mem w w' [some (b1, algC (p : Int) (n : Int) T f), some (blD, csD)] [] at hM
  refine st hF (g_assign hF rfl) rfl fun a hF => st hF (g_assign hF rfl) rfl fun a hF => ?_
  refine wpList_nil ?_
  refine tN ?_
  refine wp_ret ?_
  refine fin2 rfl hF.defers (res_tmp hF rfl) (res_tmp hF rfl) ⟨_, rfl, hM.below, ?_⟩
  exact ⟨_, rfl, _, _, _, hlD, hM.ge 1 rfl, hM.row 1 rfl⟩

theorem law_DualBasisA (p n : Int) (T : Nat → Nat → Nat → Nat) (f : Nat → Nat) (w : World) (hT : ∀ i j k, T i j k ≤ 255) (hf : ∀ i, f i ≤ 255) (hc : ¬ CodeP p n T f 0 (vAtL [])) :
    CallsR Try.prog 6 #[.agg (algC p n T f)] w (fun res _ => res = .bool true) := by
  refine calls_fr [.agg (algC p n T f)] Try.func6 rfl Try.ntmps6 rfl fun a hF => ?_
  have hM : Mem w w [none] [] := MemX.start w 1
  change Fr 66 a [(0, .agg (algC p n T f))] at hF
  refine sq ?_
  refine wp_region_lit ?_
  refine stR hF (d_box 0 hM hF rfl) rfl ?_
  rintro _ w' a ⟨b1, rfl, hM, -⟩ hF
  change Mem w w' [some (b1, algC p n T f)] [] at hM
  refine st hF (g_assign hF rfl) rfl fun a hF => ?_
  refine wpList_nil ?_
  refine tN ?_
  refine sq ?_
  refine wp_region_lit ?_
  refine st hF (g_loadAgg ty_ag_26 hF rfl (hM.row 0 rfl) (by simp only [fnC_size, cells_size, vecC_size, tabC_size, planeC_size, mrk_size] <;> omega) (whole cells_size)) rfl fun a hF => ?_
  refine stR hF (d_call Try.call16 hF (.cons rfl .nil) (toAlgebra_ok p n T f _)) rfl ?_
  rintro _ w' a ⟨hx, rfl⟩ hF
  have hM := hM.ext hx
  refine stR hF (d_call Try.call28 hF (.cons rfl .nil) (DualBasisSA p n T f  _ hT hf  hc)) rfl ?_
  rintro _ w' a ⟨hx, rfl⟩ hF
  have hM := hM.ext hx
  refine st hF (g_move hF rfl) rfl fun a hF => st hF (g_extract hF rfl rfl) rfl fun a hF => st hF (g_extract hF rfl rfl) rfl fun a hF => st hF (g_assign hF rfl) rfl fun a hF => st hF (g_assign hF rfl) rfl fun a hF => ?_
  refine wpList_nil ?_
  refine tN ?_
  refine sq ?_
  refine wp_region_lit ?_
  refine st hF (g_loadAgg ty_ag_26 hF rfl (hM.row 0 rfl) (by simp only [fnC_size, cells_size, vecC_size, tabC_size, planeC_size, mrk_size] <;> omega) (whole cells_size)) rfl fun a hF => ?_
  refine stR hF (d_call Try.call16 hF (.cons rfl .nil) (toAlgebra_ok p n T f _)) rfl ?_
  rintro _ w' a ⟨hx, rfl⟩ hF
  have hM := hM.ext hx
  refine stR hF (d_call Try.call29 hF (.cons rfl .nil) (DualBasisIA p n T f  _ hT hf  hc)) rfl ?_
  rintro _ w' a ⟨hx, rfl⟩ hF
  have hM := hM.ext hx
  refine st hF (g_move hF rfl) rfl fun a hF => st hF (g_extract hF rfl rfl) rfl fun a hF => st hF (g_extract hF rfl rfl) rfl fun a hF => st hF (g_assign hF rfl) rfl fun a hF => st hF (g_assign hF rfl) rfl fun a hF => ?_
  refine wpList_nil ?_
  refine tN ?_
  refine sq ?_
  refine sq ?_
  refine wp_region_lit ?_
  refine st hF (g_move hF rfl) rfl fun a hF => st hF (g_move hF rfl) rfl fun a hF => ?_
  refine stR hF (d_call Try.call18 hF (.cons rfl (.cons rfl .nil)) (eqVectorS_0 _)) rfl ?_
  rintro _ w' a ⟨hx, rfl⟩ hF
  have hM := hM.ext hx
  refine st hF (g_not hF rfl) rfl fun a hF => st hF (g_move hF rfl) rfl fun a hF => stY hF rfl rfl rfl (g_move hF rfl) rfl fun a hF => stY hF rfl rfl rfl (g_move hF rfl) rfl fun a hF => stY hF rfl rfl rfl (g_neq hF rfl rfl) rfl fun a hF => st hF (g_pickF hF rfl rfl) rfl fun a hF => ?_
  refine wpList_nil ?_
  refine tN ?_
  refine c_kF hF rfl (by decide) ?_
  refine wp_skip ?_
  refine tN ?_
  refine sq ?_
  refine wp_region_lit ?_
  refine st hF (g_assign hF rfl) rfl fun a hF => ?_
  refine wpList_nil ?_
  refine tN ?_
  refine sq ?_
  refine wp_region_lit ?_
  refine st hF (g_move hF rfl) rfl fun a hF => st hF (g_move hF rfl) rfl fun a hF => ?_
  refine stR hF (d_call Try.call19 hF (.cons rfl (.cons rfl .nil)) (markVectorS_0 (1) _ (by omega))) rfl ?_
  rintro _ w' a ⟨hx, rfl⟩ hF
  have hM := hM.ext hx
  refine st hF (g_assign hF rfl) rfl fun a hF => ?_
  refine wpList_nil ?_
  refine tN ?_
  refine sq ?_
  refine wp_region_lit ?_
  refine st hF (g_assign hF rfl) rfl fun a hF => ?_
  refine wpList_nil ?_
  refine tN ?_
  refine sq ?_
  refine wp_region_lit ?_
  refine st hF (g_move hF rfl) rfl fun a hF => st hF (g_move hF rfl) rfl fun a hF => ?_
  refine stR hF (d_call Try.call20 hF (.cons rfl (.cons rfl .nil)) (heldVectorS_0 (1) _ (by omega))) rfl ?_
  rintro _ w' a ⟨hx, rfl⟩ hF
  have hM := hM.ext hx
  refine st hF (g_assign hF rfl) rfl fun a hF => ?_
  refine wpList_nil ?_
  refine tN ?_
  refine sq ?_
  refine sq ?_
  refine wp_region_lit ?_
  refine st hF (g_move hF rfl) rfl fun a hF => st hF (g_lss hF rfl rfl) rfl fun a hF => ?_
  refine wpList_nil ?_
  refine tN ?_
  refine c_cond hF rfl (fun h3 => ?_) (fun h3 => ?_)
  ·
    first | exact absurd rfl h3 | (exfalso; omega)
  ·
    refine wp_skip ?_
    refine tN ?_
    refine sq ?_
    refine sq ?_
    refine wp_region_lit ?_
    refine st hF (g_move hF rfl) rfl fun a hF => st hF (g_move hF rfl) rfl fun a hF => st hF (g_neq hF rfl rfl) rfl fun a hF => ?_
    refine wpList_nil ?_
    refine tN ?_
    refine c_kF hF rfl (by decide) ?_
    refine wp_skip ?_
    refine tN ?_
    refine sq ?_
    refine wp_region_lit ?_
    refine st hF (g_loadAgg ty_ag_26 hF rfl (hM.row 0 rfl) (by simp only [fnC_size, cells_size, vecC_size, tabC_size, planeC_size, mrk_size] <;> omega) (whole cells_size)) rfl fun a hF => ?_
    refine stR hF (d_call Try.call16 hF (.cons rfl .nil) (toAlgebra_ok p n T f _)) rfl ?_
    rintro _ w' a ⟨hx, rfl⟩ hF
    have hM := hM.ext hx
    refine stR hF (d_call Try.call29 hF (.cons rfl .nil) (DualBasisIA p n T f  _ hT hf  hc)) rfl ?_
    rintro _ w' a ⟨hx, rfl⟩ hF
    have hM := hM.ext hx
    refine st hF (g_move hF rfl) rfl fun a hF => st hF (g_extract hF rfl rfl) rfl fun a hF => st hF (g_extract hF rfl rfl) rfl fun a hF => st hF (g_assign hF rfl) rfl fun a hF => st hF (g_assign hF rfl) rfl fun a hF => ?_
    refine wpList_nil ?_
    refine tN ?_
    refine sq ?_
    refine sq ?_
    refine wp_region_lit ?_
    refine st hF (g_move hF rfl) rfl fun a hF => st hF (g_move hF rfl) rfl fun a hF => ?_
    refine stR hF (d_call Try.call18 hF (.cons rfl (.cons rfl .nil)) (eqVectorS_0 _)) rfl ?_
    rintro _ w' a ⟨hx, rfl⟩ hF
    have hM := hM.ext hx
    refine st hF (g_not hF rfl) rfl fun a hF => st hF (g_move hF rfl) rfl fun a hF => stY hF rfl rfl rfl (g_move hF rfl) rfl fun a hF => stY hF rfl rfl rfl (g_move hF rfl) rfl fun a hF => stY hF rfl rfl rfl (g_neq hF rfl rfl) rfl fun a hF => st hF (g_pickF hF rfl rfl) rfl fun a hF => ?_
    refine wpList_nil ?_
    refine tN ?_
    refine c_kF hF rfl (by decide) ?_
    refine wp_skip ?_
    refine tN ?_
    refine sq ?_
    refine wp_region_lit ?_
    refine st hF (g_assign hF rfl) rfl fun a hF => ?_
    refine wpList_nil ?_
    refine tN ?_
    refine sq ?_
    refine wp_region_lit ?_
    refine st hF (g_move hF rfl) rfl fun a hF => st hF (g_move hF rfl) rfl fun a hF => ?_
    refine stR hF (d_call Try.call20 hF (.cons rfl (.cons rfl .nil)) (heldVectorS_0 (1) _ (by omega))) rfl ?_
    rintro _ w' a ⟨hx, rfl⟩ hF
    have hM := hM.ext hx
    refine st hF (g_assign hF rfl) rfl fun a hF => ?_
    refine wpList_nil ?_
    refine tN ?_
    refine sq ?_
    refine sq ?_
    refine wp_region_lit ?_
    refine st hF (g_move hF rfl) rfl fun a hF => st hF (g_lss hF rfl rfl) rfl fun a hF => ?_
    refine wpList_nil ?_
    refine tN ?_
    refine c_kF hF rfl h3 ?_
    refine wp_skip ?_
    refine tN ?_
    refine sq ?_
    refine sq ?_
    refine wp_region_lit ?_
    refine st hF (g_move hF rfl) rfl fun a hF => st hF (g_move hF rfl) rfl fun a hF => st hF (g_neq hF rfl rfl) rfl fun a hF => ?_
    refine wpList_nil ?_
    refine tN ?_
    refine c_kF hF rfl (by decide) ?_
    refine wp_skip ?_
    refine tN ?_
    refine sq ?_
    refine wp_region_lit ?_
    refine st hF (g_assign hF rfl) rfl fun a hF => ?_
    refine wpList_nil ?_
    refine tN ?_
    refine wp_ret ?_
    refine fin1 rfl hF.defers (res_tmp hF rfl) ⟨_, rfl, hM.below, ?_⟩
    show _ = _
    rfl

theorem law_DualBasisF (p n : Nat) (T : Nat → Nat → Nat → Nat) (f : Nat → Nat) (w : World) (hp : primeN p) (hn0 : 0 < n) (hn : n ≤ 6) (hTp : ∀ i j k, T i j k < p) (hT0 : ∀ i j k, n ≤ k → T i j k = 0) (hf : ∀ i, f i ≤ 255) (hfr : ¬ FrobN p n T f) (hc : CodeP (p : Int) (n : Int) T f 0 (vAtL [])) :
    CallsR Try.prog 6 #[.agg (algC (p : Int) (n : Int) T f)] w (fun res _ => res = .bool true) := by
  refine calls_fr [.agg (algC (p : Int) (n : Int) T f)] Try.func6 rfl Try.ntmps6 rfl fun a hF => ?_
  have hM : Mem w w [none] [] := MemX.start w 1
  change Fr 66 a [(0, .agg (algC (p : Int) (n : Int) T f))] at hF
  have hp2 := hp.two
  have hp13 := hp.le
  have hT : ∀ i j k, T i j k ≤ 255 := fun i j k => by have := hTp i j k; omega
  refine sq ?_
  refine wp_region_lit ?_
  refine stR hF (d_box 0 hM hF rfl) rfl ?_
  rintro _ w' a ⟨b1, rfl, hM, -⟩ hF
  change Mem w w' [some (b1, algC (p : Int) (n : Int) T f)] [] at hM
  refine st hF (g_assign hF rfl) rfl fun a hF => ?_
  refine wpList_nil ?_
  refine tN ?_
  refine sq ?_
  refine wp_region_lit ?_
  refine st hF (g_loadAgg ty_ag_26 hF rfl (hM.row 0 rfl) (by simp only [fnC_size, cells_size, vecC_size, tabC_size, planeC_size, mrk_size] <;> omega) (whole cells_size)) rfl fun a hF => ?_
  refine stR hF (d_call Try.call16 hF (.cons rfl .nil) (toAlgebra_ok (p : Int) (n : Int) T f _)) rfl ?_
  rintro _ w' a ⟨hx, rfl⟩ hF
  have hM := hM.ext hx
  refine stR hF (d_call Try.call28 hF (.cons rfl .nil) (DualBasisSF p n T f  _ hp hn0 hn hTp hT0 hf  hfr hc)) rfl ?_
  rintro _ w' a ⟨hx, rfl⟩ hF
  have hM := hM.ext hx
  refine st hF (g_move hF rfl) rfl fun a hF => st hF (g_extract hF rfl rfl) rfl fun a hF => st hF (g_extract hF rfl rfl) rfl fun a hF => st hF (g_assign hF rfl) rfl fun a hF => st hF (g_assign hF rfl) rfl fun a hF => ?_
  refine wpList_nil ?_
  refine tN ?_
  refine sq ?_
  refine wp_region_lit ?_
  refine st hF (g_loadAgg ty_ag_26 hF rfl (hM.row 0 rfl) (by simp only [fnC_size, cells_size, vecC_size, tabC_size, planeC_size, mrk_size] <;> omega) (whole cells_size)) rfl fun a hF => ?_
  refine stR hF (d_call Try.call16 hF (.cons rfl .nil) (toAlgebra_ok (p : Int) (n : Int) T f _)) rfl ?_
  rintro _ w' a ⟨hx, rfl⟩ hF
  have hM := hM.ext hx
  refine stR hF (d_call Try.call29 hF (.cons rfl .nil) (DualBasisIF p n T f  _ hp hn0 hn hTp hT0 hf  hfr hc)) rfl ?_
  rintro _ w' a ⟨hx, rfl⟩ hF
  have hM := hM.ext hx
  refine st hF (g_move hF rfl) rfl fun a hF => st hF (g_extract hF rfl rfl) rfl fun a hF => st hF (g_extract hF rfl rfl) rfl fun a hF => st hF (g_assign hF rfl) rfl fun a hF => st hF (g_assign hF rfl) rfl fun a hF => ?_
  refine wpList_nil ?_
  refine tN ?_
  refine sq ?_
  refine sq ?_
  refine wp_region_lit ?_
  refine st hF (g_move hF rfl) rfl fun a hF => st hF (g_move hF rfl) rfl fun a hF => ?_
  refine stR hF (d_call Try.call18 hF (.cons rfl (.cons rfl .nil)) (eqVectorS_0 _)) rfl ?_
  rintro _ w' a ⟨hx, rfl⟩ hF
  have hM := hM.ext hx
  refine st hF (g_not hF rfl) rfl fun a hF => st hF (g_move hF rfl) rfl fun a hF => stY hF rfl rfl rfl (g_move hF rfl) rfl fun a hF => stY hF rfl rfl rfl (g_move hF rfl) rfl fun a hF => stY hF rfl rfl rfl (g_neq hF rfl rfl) rfl fun a hF => st hF (g_pickF hF rfl rfl) rfl fun a hF => ?_
  refine wpList_nil ?_
  refine tN ?_
  refine c_kF hF rfl (by decide) ?_
  refine wp_skip ?_
  refine tN ?_
  refine sq ?_
  refine wp_region_lit ?_
  refine st hF (g_assign hF rfl) rfl fun a hF => ?_
  refine wpList_nil ?_
  refine tN ?_
  refine sq ?_
  refine wp_region_lit ?_
  refine st hF (g_move hF rfl) rfl fun a hF => st hF (g_move hF rfl) rfl fun a hF => ?_
  refine stR hF (d_call Try.call19 hF (.cons rfl (.cons rfl .nil)) (markVectorS_0 (1) _ (by omega))) rfl ?_
  rintro _ w' a ⟨hx, rfl⟩ hF
  have hM := hM.ext hx
  refine st hF (g_assign hF rfl) rfl fun a hF => ?_
  refine wpList_nil ?_
  refine tN ?_
  refine sq ?_
  refine wp_region_lit ?_
  refine st hF (g_assign hF rfl) rfl fun a hF => ?_
  refine wpList_nil ?_
  refine tN ?_
  refine sq ?_
  refine wp_region_lit ?_
  refine st hF (g_move hF rfl) rfl fun a hF => st hF (g_move hF rfl) rfl fun a hF => ?_
  refine stR hF (d_call Try.call20 hF (.cons rfl (.cons rfl .nil)) (heldVectorS_0 (1) _ (by omega))) rfl ?_
  rintro _ w' a ⟨hx, rfl⟩ hF
  have hM := hM.ext hx
  refine st hF (g_assign hF rfl) rfl fun a hF => ?_
  refine wpList_nil ?_
  refine tN ?_
  refine sq ?_
  refine sq ?_
  refine wp_region_lit ?_
  refine st hF (g_move hF rfl) rfl fun a hF => st hF (g_lss hF rfl rfl) rfl fun a hF => ?_
  refine wpList_nil ?_
  refine tN ?_
  refine c_cond hF rfl (fun h3 => ?_) (fun h3 => ?_)
  ·
    first | exact absurd rfl h3 | (exfalso; omega)
  ·
    refine wp_skip ?_
    refine tN ?_
    refine sq ?_
    refine sq ?_
    refine wp_region_lit ?_
    refine st hF (g_move hF rfl) rfl fun a hF => st hF (g_move hF rfl) rfl fun a hF => st hF (g_neq hF rfl rfl) rfl fun a hF => ?_
    refine wpList_nil ?_
    refine tN ?_
    refine c_kF hF rfl (by decide) ?_
    refine wp_skip ?_
    refine tN ?_
    refine sq ?_
    refine wp_region_lit ?_
    refine st hF (g_loadAgg ty_ag_26 hF rfl (hM.row 0 rfl) (by simp only [fnC_size, cells_size, vecC_size, tabC_size, planeC_size, mrk_size] <;> omega) (whole cells_size)) rfl fun a hF => ?_
    refine stR hF (d_call Try.call16 hF (.cons rfl .nil) (toAlgebra_ok (p : Int) (n : Int) T f _)) rfl ?_
    rintro _ w' a ⟨hx, rfl⟩ hF
    have hM := hM.ext hx
    refine stR hF (d_call Try.call29 hF (.cons rfl .nil) (DualBasisIF p n T f  _ hp hn0 hn hTp hT0 hf  hfr hc)) rfl ?_
    rintro _ w' a ⟨hx, rfl⟩ hF
    have hM := hM.ext hx
    refine st hF (g_move hF rfl) rfl fun a hF => st hF (g_extract hF rfl rfl) rfl fun a hF => st hF (g_extract hF rfl rfl) rfl fun a hF => st hF (g_assign hF rfl) rfl fun a hF => st hF (g_assign hF rfl) rfl fun a hF => ?_
    refine wpList_nil ?_
    refine tN ?_
    refine sq ?_
    refine sq ?_
    refine wp_region_lit ?_
    refine st hF (g_move hF rfl) rfl fun a hF => st hF (g_move hF rfl) rfl fun a hF => ?_
    refine stR hF (d_call Try.call18 hF (.cons rfl (.cons rfl .nil)) (eqVectorS_0 _)) rfl ?_
    rintro _ w' a ⟨hx, rfl⟩ hF
    have hM := hM.ext hx
    refine st hF (g_not hF rfl) rfl fun a hF => st hF (g_move hF rfl) rfl fun a hF => stY hF rfl rfl rfl (g_move hF rfl) rfl fun a hF => stY hF rfl rfl rfl (g_move hF rfl) rfl fun a hF => stY hF rfl rfl rfl (g_neq hF rfl rfl) rfl fun a hF => st hF (g_pickF hF rfl rfl) rfl fun a hF => ?_
    refine wpList_nil ?_
    refine tN ?_
    refine c_kF hF rfl (by decide) ?_
    refine wp_skip ?_
    refine tN ?_
    refine sq ?_
    refine wp_region_lit ?_
    refine st hF (g_assign hF rfl) rfl fun a hF => ?_
    refine wpList_nil ?_
    refine tN ?_
    refine sq ?_
    refine wp_region_lit ?_
    refine st hF (g_move hF rfl) rfl fun a hF => st hF (g_move hF rfl) rfl fun a hF => ?_
    refine stR hF (d_call Try.call20 hF (.cons rfl (.cons rfl .nil)) (heldVectorS_0 (1) _ (by omega))) rfl ?_
    rintro _ w' a ⟨hx, rfl⟩ hF
    have hM := hM.ext hx
    refine st hF (g_assign hF rfl) rfl fun a hF => ?_
    refine wpList_nil ?_
    refine tN ?_
    refine sq ?_
    refine sq ?_
    refine wp_region_lit ?_
    refine st hF (g_move hF rfl) rfl fun a hF => st hF (g_lss hF rfl rfl) rfl fun a hF => ?_
    refine wpList_nil ?_
    refine tN ?_
    refine c_kF hF rfl h3 ?_
    refine wp_skip ?_
    refine tN ?_
    refine sq ?_
    refine sq ?_
    refine wp_region_lit ?_
    refine st hF (g_move hF rfl) rfl fun a hF => st hF (g_move hF rfl) rfl fun a hF => st hF (g_neq hF rfl rfl) rfl fun a hF => ?_
    refine wpList_nil ?_
    refine tN ?_
    refine c_kF hF rfl (by decide) ?_
    refine wp_skip ?_
    refine tN ?_
    refine sq ?_
    refine wp_region_lit ?_
    refine st hF (g_assign hF rfl) rfl fun a hF => ?_
    refine wpList_nil ?_
    refine tN ?_
    refine wp_ret ?_
    refine fin1 rfl hF.defers (res_tmp hF rfl) ⟨_, rfl, hM.below, ?_⟩
    show _ = _
    rfl

theorem law_DualBasisY (p n : Nat) (T : Nat → Nat → Nat → Nat) (f : Nat → Nat) (w : World) (hp : primeN p) (hn0 : 0 < n) (hn : n ≤ 6) (hTp : ∀ i j k, T i j k < p) (hT0 : ∀ i j k, n ≤ k → T i j k = 0) (hf : ∀ i, f i ≤ 255) (hfr : FrobN p n T f) (G : Nat → Nat → Nat) (hG : IsCop p n (formM p n T f) G) (hc : CodeP (p : Int) (n : Int) T f 0 (vAtL [])) :
    CallsR Try.prog 6 #[.agg (algC (p : Int) (n : Int) T f)] w (fun res _ => res = .bool true) := by
  refine calls_fr [.agg (algC (p : Int) (n : Int) T f)] Try.func6 rfl Try.ntmps6 rfl fun a hF => ?_
  have hM : Mem w w [none, none, none, none] [] := MemX.start w 4
  change Fr 66 a [(0, .agg (algC (p : Int) (n : Int) T f))] at hF
  have hp2 := hp.two
  have hp13 := hp.le
  have hT : ∀ i j k, T i j k ≤ 255 := fun i j k => by have := hTp i j k; omega
  have hGp := hG.lt
  have hvf : ∀ i c, (fun i j => G j i) i c ≤ 255 := fun i c => by have := hGp c i; have := hGp i c; have e : (fun i j => G j i) i c = (fun i j => G j i) i c := rfl; first | (show G c i ≤ 255; omega) | (show G i c ≤ 255; omega) | omega
  refine sq ?_
  refine wp_region_lit ?_
  refine stR hF (d_box 0 hM hF rfl) rfl ?_
  rintro _ w' a ⟨b1, rfl, hM, -⟩ hF
  change Mem w w' [some (b1, algC (p : Int) (n : Int) T f), none, none, none] [] at hM
  refine st hF (g_assign hF rfl) rfl fun a hF => ?_
  refine wpList_nil ?_
  refine tN ?_
  refine sq ?_
  refine wp_region_lit ?_
  refine st hF (g_loadAgg ty_ag_26 hF rfl (hM.row 0 rfl) (by simp only [fnC_size, cells_size, vecC_size, tabC_size, planeC_size, mrk_size] <;> omega) (whole cells_size)) rfl fun a hF => ?_
  refine stR hF (d_call Try.call16 hF (.cons rfl .nil) (toAlgebra_ok (p : Int) (n : Int) T f _)) rfl ?_
  rintro _ w' a ⟨hx, rfl⟩ hF
  have hM := hM.ext hx
  refine stR hF (d_call Try.call28 hF (.cons rfl .nil) (DualBasisSY p n T f  _ hp hn0 hn hTp hT0 hf  hfr G hG hc)) rfl ?_
  rintro u w' a ⟨hx, ul, rfl, blW, clW, csW, hlW, hgl, hbl⟩ hF
  obtain rfl := hlW.val
  have hM := hM.fill hx 1 hbl hgl
  change Mem w w' [some (b1, algC (p : Int) (n : Int) T f), some (blW, csW), none, none] [] at hM
  refine st hF (g_move hF rfl) rfl fun a hF => st hF (g_extract hF rfl rfl) rfl fun a hF => st hF (g_extract hF rfl rfl) rfl fun a hF => st hF (g_assign hF rfl) rfl fun a hF => st hF (g_assign hF rfl) rfl fun a hF => ?_
  refine wpList_nil ?_
  refine tN ?_
  refine sq ?_
  refine wp_region_lit ?_
  refine st hF (g_loadAgg ty_ag_26 hF rfl (hM.row 0 rfl) (by simp only [fnC_size, cells_size, vecC_size, tabC_size, planeC_size, mrk_size] <;> omega) (whole cells_size)) rfl fun a hF => ?_
  refine stR hF (d_call Try.call16 hF (.cons rfl .nil) (toAlgebra_ok (p : Int) (n : Int) T f _)) rfl ?_
  rintro _ w' a ⟨hx, rfl⟩ hF
  have hM := hM.ext hx
  refine stR hF (d_call Try.call29 hF (.cons rfl .nil) (DualBasisIY p n T f  _ hp hn0 hn hTp hT0 hf  hfr G hG hc)) rfl ?_
  rintro u w' a ⟨hx, ul, rfl, blG, clG, csG, hlG, hgl, hbl⟩ hF
  obtain rfl := hlG.val
  have hM := hM.fill hx 2 hbl hgl
  change Mem w w' [some (b1, algC (p : Int) (n : Int) T f), some (blW, csW), some (blG, csG), none] [] at hM
  refine st hF (g_move hF rfl) rfl fun a hF => st hF (g_extract hF rfl rfl) rfl fun a hF => st hF (g_extract hF rfl rfl) rfl fun a hF => st hF (g_assign hF rfl) rfl fun a hF => st hF (g_assign hF rfl) rfl fun a hF => ?_
  refine wpList_nil ?_
  refine tN ?_
  refine sq ?_
  refine sq ?_
  refine wp_region_lit ?_
  refine st hF (g_move hF rfl) rfl fun a hF => st hF (g_move hF rfl) rfl fun a hF => ?_
  refine stR hF (d_call Try.call18 hF (.cons rfl (.cons rfl .nil)) (eqVectorS_ok blG clG blW clW n csG csW _ _ _ _ (fun i j => G j i) (fun i j => G j i) _ (by omega) hlG (hM.row 2 rfl) hlW (hM.row 1 rfl) hvf hvf (fun _ _ _ _ => rfl))) rfl ?_
  rintro _ w' a ⟨hx, rfl⟩ hF
  have hM := hM.ext hx
  refine st hF (g_not hF rfl) rfl fun a hF => st hF (g_move hF rfl) rfl fun a hF => stY hF rfl rfl rfl (g_move hF rfl) rfl fun a hF => stY hF rfl rfl rfl (g_move hF rfl) rfl fun a hF => stY hF rfl rfl rfl (g_neq hF rfl rfl) rfl fun a hF => st hF (g_pickF hF rfl rfl) rfl fun a hF => ?_
  refine wpList_nil ?_
  refine tN ?_
  refine c_kF hF rfl (by decide) ?_
  refine wp_skip ?_
  refine tN ?_
  refine sq ?_
  refine wp_region_lit ?_
  refine st hF (g_assign hF rfl) rfl fun a hF => ?_
  refine wpList_nil ?_
  refine tN ?_
  refine sq ?_
  refine wp_region_lit ?_
  refine st hF (g_move hF rfl) rfl fun a hF => st hF (g_move hF rfl) rfl fun a hF => ?_
  obtain ⟨Zq, xq, hmk, hZq⟩ : ∃ (Z : Nat) (xs : Nat → Value), csG = mrk Z (1) 0 xs ∧ n * 6 ≤ Z := ⟨_, _, mrk_self csG, by have := hlG.sz; have := hlG.le; omega⟩
  have hM := hM.rowc (cs' := mrk Zq (1) 0 xq) 2 rfl hmk
  refine stR hF (d_callX Try.call19 hF (.cons rfl (.cons rfl .nil)) (markVectorS_ok blG clG n (1) Zq xq _ (by omega) (by omega) hZq (hM.row 2 rfl))) rfl ?_
  rintro _ w' a ⟨hx, rfl, hbk⟩ hF
  have hM := hM.upd 2 rfl hx hbk
  change Mem w w' [some (b1, algC (p : Int) (n : Int) T f), some (blW, csW), some (blG, mrk Zq (1) (n * 6) xq), none] [] at hM
  refine st hF (g_assign hF rfl) rfl fun a hF => ?_
  refine wpList_nil ?_
  refine tN ?_
  refine sq ?_
  refine wp_region_lit ?_
  refine st hF (g_assign hF rfl) rfl fun a hF => ?_
  refine wpList_nil ?_
  refine tN ?_
  refine sq ?_
  refine wp_region_lit ?_
  refine st hF (g_move hF rfl) rfl fun a hF => st hF (g_move hF rfl) rfl fun a hF => ?_
  refine stR hF (d_callX Try.call20 hF (.cons rfl (.cons rfl .nil)) (heldVectorS_ok blG clG n (1) Zq xq _ (by omega) (by omega) hZq (hM.row 2 rfl))) rfl ?_
  rintro _ w' a ⟨hx, rfl, hbk⟩ hF
  have hM := hM.upd 2 rfl hx hbk
  change Mem w w' [some (b1, algC (p : Int) (n : Int) T f), some (blW, csW), some (blG, mrk Zq (1) (n * 6) xq), none] [] at hM
  refine st hF (g_assign hF rfl) rfl fun a hF => ?_
  refine wpList_nil ?_
  refine tN ?_
  refine sq ?_
  refine sq ?_
  refine wp_region_lit ?_
  refine st hF (g_move hF rfl) rfl fun a hF => st hF (g_lss hF rfl rfl) rfl fun a hF => ?_
  refine wpList_nil ?_
  refine tN ?_
  refine c_cond hF rfl (fun h3 => ?_) (fun h3 => ?_)
  ·
    first | exact absurd rfl h3 | (exfalso; omega)
  ·
    refine wp_skip ?_
    refine tN ?_
    refine sq ?_
    refine sq ?_
    refine wp_region_lit ?_
    refine st hF (g_move hF rfl) rfl fun a hF => st hF (g_move hF rfl) rfl fun a hF => st hF (g_neq hF rfl rfl) rfl fun a hF => ?_
    refine wpList_nil ?_
    refine tN ?_
    refine c_cond hF rfl (fun h4 => ?_) (fun h4 => ?_)
    ·
      first | exact absurd rfl h4 | (exfalso; omega)
    ·
      refine wp_skip ?_
      refine tN ?_
      refine sq ?_
      refine wp_region_lit ?_
      refine st hF (g_loadAgg ty_ag_26 hF rfl (hM.row 0 rfl) (by simp only [fnC_size, cells_size, vecC_size, tabC_size, planeC_size, mrk_size] <;> omega) (whole cells_size)) rfl fun a hF => ?_
      refine stR hF (d_call Try.call16 hF (.cons rfl .nil) (toAlgebra_ok (p : Int) (n : Int) T f _)) rfl ?_
      rintro _ w' a ⟨hx, rfl⟩ hF
      have hM := hM.ext hx
      refine stR hF (d_call Try.call29 hF (.cons rfl .nil) (DualBasisIY p n T f  _ hp hn0 hn hTp hT0 hf  hfr G hG hc)) rfl ?_
      rintro u w' a ⟨hx, ul, rfl, blH, clH, csH, hlH, hgl, hbl⟩ hF
      obtain rfl := hlH.val
      have hM := hM.fill hx 3 hbl hgl
      change Mem w w' [some (b1, algC (p : Int) (n : Int) T f), some (blW, csW), some (blG, mrk Zq (1) (n * 6) xq), some (blH, csH)] [] at hM
      refine st hF (g_move hF rfl) rfl fun a hF => st hF (g_extract hF rfl rfl) rfl fun a hF => st hF (g_extract hF rfl rfl) rfl fun a hF => st hF (g_assign hF rfl) rfl fun a hF => st hF (g_assign hF rfl) rfl fun a hF => ?_
      refine wpList_nil ?_
      refine tN ?_
      refine sq ?_
      refine sq ?_
      refine wp_region_lit ?_
      refine st hF (g_move hF rfl) rfl fun a hF => st hF (g_move hF rfl) rfl fun a hF => ?_
      refine stR hF (d_call Try.call18 hF (.cons rfl (.cons rfl .nil)) (eqVectorS_ok blH clH blW clW n csH csW _ _ _ _ (fun i j => G j i) (fun i j => G j i) _ (by omega) hlH (hM.row 3 rfl) hlW (hM.row 1 rfl) hvf hvf (fun _ _ _ _ => rfl))) rfl ?_
      rintro _ w' a ⟨hx, rfl⟩ hF
      have hM := hM.ext hx
      refine st hF (g_not hF rfl) rfl fun a hF => st hF (g_move hF rfl) rfl fun a hF => stY hF rfl rfl rfl (g_move hF rfl) rfl fun a hF => stY hF rfl rfl rfl (g_move hF rfl) rfl fun a hF => stY hF rfl rfl rfl (g_neq hF rfl rfl) rfl fun a hF => st hF (g_pickF hF rfl rfl) rfl fun a hF => ?_
      refine wpList_nil ?_
      refine tN ?_
      refine c_kF hF rfl (by decide) ?_
      refine wp_skip ?_
      refine tN ?_
      refine sq ?_
      refine wp_region_lit ?_
      refine st hF (g_assign hF rfl) rfl fun a hF => ?_
      refine wpList_nil ?_
      refine tN ?_
      refine sq ?_
      refine wp_region_lit ?_
      refine st hF (g_move hF rfl) rfl fun a hF => st hF (g_move hF rfl) rfl fun a hF => ?_
      refine stR hF (d_callX Try.call20 hF (.cons rfl (.cons rfl .nil)) (heldVectorS_ok blG clG n (1) Zq xq _ (by omega) (by omega) hZq (hM.row 2 rfl))) rfl ?_
      rintro _ w' a ⟨hx, rfl, hbk⟩ hF
      have hM := hM.upd 2 rfl hx hbk
      change Mem w w' [some (b1, algC (p : Int) (n : Int) T f), some (blW, csW), some (blG, mrk Zq (1) (n * 6) xq), some (blH, csH)] [] at hM
      refine st hF (g_assign hF rfl) rfl fun a hF => ?_
      refine wpList_nil ?_
      refine tN ?_
      refine sq ?_
      refine sq ?_
      refine wp_region_lit ?_
      refine st hF (g_move hF rfl) rfl fun a hF => st hF (g_lss hF rfl rfl) rfl fun a hF => ?_
      refine wpList_nil ?_
      refine tN ?_
      refine c_kF hF rfl h3 ?_
      refine wp_skip ?_
      refine tN ?_
      refine sq ?_
      refine sq ?_
      refine wp_region_lit ?_
      refine st hF (g_move hF rfl) rfl fun a hF => st hF (g_move hF rfl) rfl fun a hF => st hF (g_neq hF rfl rfl) rfl fun a hF => ?_
      refine wpList_nil ?_
      refine tN ?_
      refine c_kF hF rfl h4 ?_
      refine wp_skip ?_
      refine tN ?_
      refine sq ?_
      refine wp_region_lit ?_
      refine st hF (g_assign hF rfl) rfl fun a hF => ?_
      refine wpList_nil ?_
      refine tN ?_
      refine wp_ret ?_
      refine fin1 rfl hF.defers (res_tmp hF rfl) ⟨_, rfl, hM.below, ?_⟩
      show _ = _
      rfl

theorem law_DualBasis (p n : Int) (T : Nat → Nat → Nat → Nat) (f : Nat → Nat) (w : World) (hT : ∀ i j k, T i j k ≤ 255) (hf : ∀ i, f i ≤ 255) : CallsV Try.prog 6 #[.agg (algC p n T f)] w (.bool true) := by
  by_cases hc : CodeP p n T f 0 (vAtL [])
  · have hs := hc.1.1
    have hp0 := primeP_pos hs.1
    have hn := hs.2.1
    have e1 : ((p.toNat : Nat) : Int) = p := by omega
    have e2 : ((n.toNat : Nat) : Int) = n := by omega
    have has := hc.1.2.1
    obtain ⟨uu, huu⟩ := hc.1.2.2
    have hc2 : CodeP ((p.toNat : Nat) : Int) ((n.toNat : Nat) : Int) (trunc n.toNat T) f 0 (vAtL []) := by rw [e1, e2]; exact code_trunc hc
    by_cases hfr : FrobN p.toNat n.toNat (trunc n.toNat T) f
    · obtain ⟨G, hG⟩ := cop_exists (F := formM p.toNat n.toNat (trunc n.toNat T) f) (primeN_of hs.1) (by omega) (by omega) (fun i c h => formM_out h) (formM_lt (by omega)) hfr
      have h := law_DualBasisY p.toNat n.toNat (trunc n.toNat T) f  w (primeN_of hs.1) (by omega) (by omega) (trunc_lt hs) trunc_out hf  hfr G hG hc2
      rw [e1, e2, ← algC_trunc hs] at h
      exact h
    · have h := law_DualBasisF p.toNat n.toNat (trunc n.toNat T) f  w (primeN_of hs.1) (by omega) (by omega) (trunc_lt hs) trunc_out hf  hfr hc2
      rw [e1, e2, ← algC_trunc hs] at h
      exact h
  · exact law_DualBasisA p n T f w hT hf hc

end Go.Proofs.Ytggdbbjmdbkpcaa
