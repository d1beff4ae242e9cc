/- What functions of the program return, as walks over their operations; no statement of the seat is proved here. -/
import Derived.Test.YtockjnhdllcfpaaB4
import Derived.Test.YtockjnhdllcfpaaSw74
set_option linter.unusedVariables false
set_option linter.unusedSimpArgs false
namespace Go.Proofs.Ytockjnhdllcfpaa
open Go Go.RowKit Go.Sw Go.Ech
open Classical
theorem eqO_ok (b1 c1 b2 c2 m : Nat) (cs1 cs2 : Array Value) (f1 f2 : Nat → Int) (w : World) (hm : m < 10000000) (hb1 : Blk w b1 cs1) (hb2 : Blk w b2 cs2) (hx1 : (∀ i, i < m → cs1[0 + i * 1]? = some (.int .i64 (f1 i)))) (hx2 : (∀ i, i < m → cs2[0 + i * 1]? = some (.int .i64 (f2 i)))) (he : ∀ i, i < m → f1 i = f2 i) :
    CallsR Try.prog 14 #[.slice (some ⟨b1, 0, none⟩) m c1, .slice (some ⟨b2, 0, none⟩) m c2] w (fun res _ => res = .bool true) := by
  refine calls_fr [.slice (some ⟨b1, 0, none⟩) m c1, .slice (some ⟨b2, 0, none⟩) m c2] Try.func14 rfl Try.ntmps14 rfl fun a hF => ?_;have hM : Mem w w [] [(b1, cs1), (b2, cs2)] := MemX.startD w 0 _ (startD2 hb1 hb2);change Fr 26 a [(0, .slice (some ⟨b1, 0, none⟩) m c1), (1, .slice (some ⟨b2, 0, none⟩) m c2)] at hF;refine sr <| ag hF rfl rfl fun a hF => nt <| sq <| sr <| mv hF rfl rfl fun a hF => st hF (g_len ty_us_22 hF rfl) rfl fun a hF => mv hF rfl rfl fun a hF => st hF (g_len ty_us_22 hF rfl) rfl fun a hF => st hF (g_neq hF rfl rfl) rfl fun a hF => nt <| c_cond hF rfl (fun h1 => ?_) (fun h1 => ?_)
  · first | exact absurd rfl h1 | (exfalso; omega)
  refine wp_skip <| tN <| sq <| sr <| ag hF rfl rfl fun a hF => nt <| wp_block ?_;change Mem w _ [] [(b1, cs1), (b2, cs2)] at hM;refine c_loop (fun (kk : Nat) a w' => kk ≤ m ∧ (True) ∧ Fr 26 a [(0, .slice (some ⟨b1, 0, none⟩) m c1), (1, .slice (some ⟨b2, 0, none⟩) m c2), (10, .bool (decide (((m : Int) : Int) ≠ (m : Int)))), (5, .int .i64 (kk : Int))] ∧ Mem w w' [] [(b1, cs1), (b2, cs2)]) (fun kk => m - kk) 0 ?_ ?_
  · refine ⟨by omega, trivial, hF.sub _ (by repeat' constructor), ?_⟩
    exact hM
  clear hF hM;rintro gk a w' ⟨hgk, hinv1, hF, hM⟩;have hek := he gk;refine sq <| sr <| mv hF rfl rfl fun a hF => mv hF rfl rfl fun a hF => st hF (g_len ty_us_22 hF rfl) rfl fun a hF => st hF (g_lss hF rfl rfl) rfl fun a hF => nt <| c_cond hF rfl (fun h2 => ?_) (fun h2 => ?_)
  · refine wp_skip ?_
    refine tN <| sq <| wp_block <| sq <| c_par 8 [] [.val (.slice (some ⟨b1, 0, none⟩) m c1), .val (.int .i64 (gk : Int)), .val (ptr b1 (0 + (gk) * 1)), .val (.int .i64 (f1 (gk))), .val (.slice (some ⟨b2, 0, none⟩) m c2), .val (.int .i64 (gk : Int)), .val (ptr b2 (0 + (gk) * 1)), .val (.int .i64 (f2 (gk)))] hmix rfl hF rfl hM ⟨fun a w gG hF hS hd => by exact pmv hS rfl hF rfl, fun a w gG hF hS hd => by exact pmv hS rfl hF rfl, fun a w gG hF hS hd => by have hF := hF.ext1 17 (hd 0 rfl rfl); have hF := hF.ext1 18 (hd 1 rfl rfl); exact par_val hS rfl (g_indexSl (i := gk) ty_sl_22 hF rfl rfl rfl (by omega)), fun a w gG hF hS hd => by have hF := hF.ext1 19 (hd 2 rfl rfl); have hM := hS.mem rfl; exact par_val hS rfl (g_load ty_on_2 hF rfl (hM.fz 0 rfl) (hx1 (gk) (by omega))), fun a w gG hF hS hd => by exact pmv hS rfl hF rfl, fun a w gG hF hS hd => by exact pmv hS rfl hF rfl, fun a w gG hF hS hd => by have hF := hF.ext1 21 (hd 4 rfl rfl); have hF := hF.ext1 22 (hd 5 rfl rfl); exact par_val hS rfl (g_indexSl (i := gk) ty_sl_22 hF rfl rfl rfl (by omega)), fun a w gG hF hS hd => by have hF := hF.ext1 23 (hd 6 rfl rfl); have hM := hS.mem rfl; exact par_val hS rfl (g_load ty_on_2 hF rfl (hM.fz 1 rfl) (hx2 (gk) (by omega))), trivial⟩ ?_;intro a w' L hF hS hq;have hF := hF.ext1 17 (hq 0 rfl rfl);have hF := hF.ext1 18 (hq 1 rfl rfl);have hF := hF.ext1 19 (hq 2 rfl rfl);have hF := hF.ext1 20 (hq 3 rfl rfl);have hF := hF.ext1 21 (hq 4 rfl rfl);have hF := hF.ext1 22 (hq 5 rfl rfl);have hF := hF.ext1 23 (hq 6 rfl rfl);have hF := hF.ext1 24 (hq 7 rfl rfl);have hM := hS.mem rfl;change wpList Try.prog _ _ [_] _ _;refine st hF (g_neq hF rfl rfl) rfl fun a hF => nt <| c_cond hF rfl (fun h3 => ?_) (fun h3 => ?_)
    · first | exact absurd rfl h3 | (exfalso; omega)
    refine wp_skip <| iN <| tN <| wp_region_lit <| mv hF rfl rfl fun a hF => st hF (g_add hF rfl rfl (add_nat (gk) (1) (by omega))) rfl fun a hF => ag hF rfl rfl fun a hF => nt <| ⟨gk + 1, ⟨by omega, trivial, hF.sub _ (by repeat' constructor), ?_⟩, by omega⟩;exact hM
  obtain rfl : m = gk := by omega
  refine wp_exit <| tX <| tX <| ib_same <| tN <| sr <| ag hF rfl rfl fun a hF => nt <| wp_ret <| fin1 rfl hF.defers (res_tmp hF rfl) ⟨_, rfl, hM.below, ?_⟩
  show _ = _
  rfl
theorem markO_ok (b c m k Z : Nat) (xs : Nat → Value) (w : World) (hm : m < 10000000) (hk : k < 100000000) (hZ : m ≤ Z) (hb : Blk w b (mri Z k 0 xs)) :
    CallsX Try.prog [b] 17 #[.slice (some ⟨b, 0, none⟩) m c, .int .i64 (k : Int)] w (fun v w' => v = .int .i64 ((k + m : Nat) : Int) ∧ Blk w' b (mri Z k m xs)) := by
  refine calls_frX [.slice (some ⟨b, 0, none⟩) m c, .int .i64 (k : Int)] Try.func17 rfl Try.ntmps17 rfl fun a hF => ?_;have hM : MemX [b] w w [some (b, mri Z k 0 xs)] [] := MemX.startX1 0 hb;change Fr 19 a [(0, .slice (some ⟨b, 0, none⟩) m c), (1, .int .i64 (k : Int))] at hF;refine sr <| ag hF rfl rfl fun a hF => nt <| sq <| sr <| ag hF rfl rfl fun a hF => nt <| wp_block ?_;change MemX [b] w _ [some (b, mri Z k 0 xs)] [] at hM;refine c_loop (fun (kk : Nat) a w' => kk ≤ m ∧ (True) ∧ Fr 19 a [(0, .slice (some ⟨b, 0, none⟩) m c), (4, .int .i64 (0)), (5, .int .i64 (kk : Int)), (1, .int .i64 (((k + kk : Nat) : Int)))] ∧ MemX [b] w w' [some (b, mri Z k kk xs)] []) (fun kk => m - kk) 0 ?_ ?_
  · refine ⟨by omega, trivial, hF.sub _ (by repeat' constructor), ?_⟩
    exact hM
  clear hF hM;rintro gk a w' ⟨hgk, hinv1, hF, hM⟩;refine sq <| sr <| mv hF rfl rfl fun a hF => mv hF rfl rfl fun a hF => st hF (g_len ty_us_22 hF rfl) rfl fun a hF => st hF (g_lss hF rfl rfl) rfl fun a hF => nt <| c_cond hF rfl (fun h1 => ?_) (fun h1 => ?_)
  · refine wp_skip ?_
    refine tN <| sq <| wp_block <| sr <| mv hF rfl rfl fun a hF => mv hF rfl rfl fun a hF => mv hF rfl rfl fun a hF => st hF (g_indexSl (i := gk) ty_sl_22 hF rfl rfl rfl (by omega)) rfl fun a hF => stN hF (d_store 0 hM rfl ty_on_2 hF rfl rfl rfl (by first | omega | (simp only [sz0, grpC_size, numI_size, smC_size, numC_size, mri_size] <;> omega) | (simp only [Array.size_setIfInBounds]; omega) | simp)) ?_;intro _ w' a hM hF;change MemX [b] w w' [some (b, (mri Z k gk xs).setIfInBounds (0 + (gk) * 1) (.int .i64 (((k + gk : Nat) : Int))))] [] at hM;refine nt <| wp_region_lit <| mv hF rfl rfl fun a hF => st hF (g_add hF rfl rfl (add_nat (k + gk) (1) (by omega))) rfl fun a hF => ag hF rfl rfl fun a hF => wpList_nil <| iN <| tN <| wp_region_lit <| mv hF rfl rfl fun a hF => st hF (g_add hF rfl rfl (add_nat (gk) (1) (by omega))) rfl fun a hF => ag hF rfl rfl fun a hF => nt <| ⟨gk + 1, ⟨by omega, trivial, hF.sub _ (by repeat' constructor), ?_⟩, by omega⟩;exact hM.rowc 0 rfl (mri_set (by omega) (by omega))
  obtain rfl : m = gk := by omega
  refine wp_exit <| tX <| tX <| ib_same <| tN <| sr <| mv hF rfl rfl fun a hF => ag hF rfl rfl fun a hF => nt <| wp_ret <| fin1 rfl hF.defers (res_tmp hF rfl) ⟨_, rfl, hM.bel, ?_⟩;exact ⟨rfl, hM.row 0 rfl⟩
theorem heldO_ok (b c m k Z : Nat) (xs : Nat → Value) (w : World) (hm : m < 10000000) (hk : k < 100000000) (hZ : m ≤ Z) (hb : Blk w b (mri Z k m xs)) :
    CallsR Try.prog 18 #[.slice (some ⟨b, 0, none⟩) m c, .int .i64 (k : Int)] w (fun res _ => res = .int .i64 ((k + m : Nat) : Int)) := by
  refine calls_fr [.slice (some ⟨b, 0, none⟩) m c, .int .i64 (k : Int)] Try.func18 rfl Try.ntmps18 rfl fun a hF => ?_;have hM : Mem w w [] [(b, mri Z k m xs)] := MemX.startD w 0 _ (startD1 hb);change Fr 21 a [(0, .slice (some ⟨b, 0, none⟩) m c), (1, .int .i64 (k : Int))] at hF;refine sr <| ag hF rfl rfl fun a hF => nt <| sq <| sr <| ag hF rfl rfl fun a hF => nt <| wp_block ?_;change Mem w _ [] [(b, mri Z k m xs)] at hM;refine c_loop (fun (kk : Nat) a w' => kk ≤ m ∧ (True) ∧ Fr 21 a [(0, .slice (some ⟨b, 0, none⟩) m c), (5, .int .i64 (kk : Int)), (1, .int .i64 (((k + kk : Nat) : Int)))] ∧ Mem w w' [] [(b, mri Z k m xs)]) (fun kk => m - kk) 0 ?_ ?_
  · refine ⟨by omega, trivial, hF.sub _ (by repeat' constructor), ?_⟩
    exact hM
  clear hF hM;rintro gk a w' ⟨hgk, hinv1, hF, hM⟩;refine sq <| sr <| mv hF rfl rfl fun a hF => mv hF rfl rfl fun a hF => st hF (g_len ty_us_22 hF rfl) rfl fun a hF => st hF (g_lss hF rfl rfl) rfl fun a hF => nt <| c_cond hF rfl (fun h1 => ?_) (fun h1 => ?_)
  · refine wp_skip ?_
    refine tN <| sq <| wp_block <| sq <| sr <| mv hF rfl rfl fun a hF => mv hF rfl rfl fun a hF => st hF (g_indexSl (i := gk) ty_sl_22 hF rfl rfl rfl (by omega)) rfl fun a hF => st hF (g_load ty_on_2 hF rfl (hM.fz 0 rfl) (mri_get (c := gk) (by omega) (by omega) (by omega))) rfl fun a hF => mv hF rfl rfl fun a hF => st hF (g_neq hF rfl rfl) rfl fun a hF => nt <| c_cond hF rfl (fun h2 => ?_) (fun h2 => ?_)
    · first | exact absurd rfl h2 | (exfalso; omega)
    refine wp_skip <| tN <| wp_region_lit <| mv hF rfl rfl fun a hF => st hF (g_add hF rfl rfl (add_nat (k + gk) (1) (by omega))) rfl fun a hF => ag hF rfl rfl fun a hF => wpList_nil <| iN <| tN <| wp_region_lit <| mv hF rfl rfl fun a hF => st hF (g_add hF rfl rfl (add_nat (gk) (1) (by omega))) rfl fun a hF => ag hF rfl rfl fun a hF => nt <| ⟨gk + 1, ⟨by omega, trivial, hF.sub _ (by repeat' constructor), ?_⟩, by omega⟩;exact hM
  obtain rfl : m = gk := by omega
  refine wp_exit <| tX <| tX <| ib_same <| tN <| sr <| mv hF rfl rfl fun a hF => ag hF rfl rfl fun a hF => nt <| wp_ret <| fin1 rfl hF.defers (res_tmp hF rfl) ⟨_, rfl, hM.below, ?_⟩
  show _ = _
  rfl
theorem eqZ_ok (y1 y2 : Option Addr) (c1 c2 : Nat) (w : World)  :
    CallsR Try.prog 14 #[.slice y1 0 c1, .slice y2 0 c2] w (fun res _ => res = .bool true) := by
  refine calls_fr [.slice y1 0 c1, .slice y2 0 c2] Try.func14 rfl Try.ntmps14 rfl fun a hF => ?_;have hM : Mem w w [] [] := MemX.start w 0;change Fr 26 a [(0, .slice y1 0 c1), (1, .slice y2 0 c2)] at hF;refine sr <| ag hF rfl rfl fun a hF => nt <| sq <| sr <| mv hF rfl rfl fun a hF => st hF (g_lenX ty_us_22 hF rfl) rfl fun a hF => mv hF rfl rfl fun a hF => st hF (g_lenX ty_us_22 hF rfl) rfl fun a hF => st hF (g_neq hF rfl rfl) rfl fun a hF => nt <| c_kF hF rfl (by decide) <| wp_skip <| tN <| sq <| sr <| ag hF rfl rfl fun a hF => nt <| wp_block ?_;change Mem w _ [] [] at hM;refine c_loop (fun (kk : Nat) a w' => kk ≤ 0 ∧ (True) ∧ Fr 26 a [(0, .slice y1 0 c1), (1, .slice y2 0 c2), (10, .bool (decide ((0 : Int) ≠ 0))), (5, .int .i64 (kk : Int))] ∧ Mem w w' [] []) (fun kk => 0 - kk) 0 ?_ ?_
  · refine ⟨by omega, trivial, hF.sub _ (by repeat' constructor), ?_⟩
    exact hM
  clear hF hM;rintro gk a w' ⟨hgk, hinv1, hF, hM⟩;refine sq <| sr <| mv hF rfl rfl fun a hF => mv hF rfl rfl fun a hF => st hF (g_lenX ty_us_22 hF rfl) rfl fun a hF => st hF (g_lss hF rfl rfl) rfl fun a hF => nt <| c_cond hF rfl (fun h2 => ?_) (fun h2 => ?_)
  · first | (exfalso; omega) | contradiction
  obtain rfl : 0 = gk := by omega
  refine wp_exit <| tX <| tX <| ib_same <| tN <| sr <| ag hF rfl rfl fun a hF => nt <| wp_ret <| fin1 rfl hF.defers (res_tmp hF rfl) ⟨_, rfl, hM.below, ?_⟩
  show _ = _
  rfl
theorem markZ_ok (y : Option Addr) (c k : Nat) (w : World) (hk : k ≤ 10000000) :
    CallsR Try.prog 17 #[.slice y 0 c, .int .i64 (k : Int)] w (fun res _ => res = .int .i64 (k : Int)) := by
  refine calls_fr [.slice y 0 c, .int .i64 (k : Int)] Try.func17 rfl Try.ntmps17 rfl fun a hF => ?_;have hM : Mem w w [] [] := MemX.start w 0;change Fr 19 a [(0, .slice y 0 c), (1, .int .i64 (k : Int))] at hF;refine sr <| ag hF rfl rfl fun a hF => nt <| sq <| sr <| ag hF rfl rfl fun a hF => nt <| wp_block ?_;change Mem w _ [] [] at hM;refine c_loop (fun (kk : Nat) a w' => kk ≤ 0 ∧ (True) ∧ Fr 19 a [(0, .slice y 0 c), (4, .int .i64 (0)), (5, .int .i64 (kk : Int)), (1, .int .i64 (k : Int))] ∧ Mem w w' [] []) (fun kk => 0 - kk) 0 ?_ ?_
  · refine ⟨by omega, trivial, hF.sub _ (by repeat' constructor), ?_⟩
    exact hM
  clear hF hM;rintro gi a w' ⟨hgi, hinv1, hF, hM⟩;refine sq <| sr <| mv hF rfl rfl fun a hF => mv hF rfl rfl fun a hF => st hF (g_lenX ty_us_22 hF rfl) rfl fun a hF => st hF (g_lss hF rfl rfl) rfl fun a hF => nt <| c_cond hF rfl (fun h1 => ?_) (fun h1 => ?_)
  · first | (exfalso; omega) | contradiction
  obtain rfl : 0 = gi := by omega
  refine wp_exit <| tX <| tX <| ib_same <| tN <| sr <| mv hF rfl rfl fun a hF => ag hF rfl rfl fun a hF => nt <| wp_ret <| fin1 rfl hF.defers (res_tmp hF rfl) ⟨_, rfl, hM.below, ?_⟩
  show _ = _
  rfl
theorem heldZ_ok (y : Option Addr) (c k : Nat) (w : World) (hk : k ≤ 10000000) :
    CallsR Try.prog 18 #[.slice y 0 c, .int .i64 (k : Int)] w (fun res _ => res = .int .i64 (k : Int)) := by
  refine calls_fr [.slice y 0 c, .int .i64 (k : Int)] Try.func18 rfl Try.ntmps18 rfl fun a hF => ?_;have hM : Mem w w [] [] := MemX.start w 0;change Fr 21 a [(0, .slice y 0 c), (1, .int .i64 (k : Int))] at hF;refine sr <| ag hF rfl rfl fun a hF => nt <| sq <| sr <| ag hF rfl rfl fun a hF => nt <| wp_block ?_;change Mem w _ [] [] at hM;refine c_loop (fun (kk : Nat) a w' => kk ≤ 0 ∧ (True) ∧ Fr 21 a [(0, .slice y 0 c), (5, .int .i64 (kk : Int)), (1, .int .i64 (k : Int))] ∧ Mem w w' [] []) (fun kk => 0 - kk) 0 ?_ ?_
  · refine ⟨by omega, trivial, hF.sub _ (by repeat' constructor), ?_⟩
    exact hM
  clear hF hM;rintro gi a w' ⟨hgi, hinv1, hF, hM⟩;refine sq <| sr <| mv hF rfl rfl fun a hF => mv hF rfl rfl fun a hF => st hF (g_lenX ty_us_22 hF rfl) rfl fun a hF => st hF (g_lss hF rfl rfl) rfl fun a hF => nt <| c_cond hF rfl (fun h1 => ?_) (fun h1 => ?_)
  · first | (exfalso; omega) | contradiction
  obtain rfl : 0 = gi := by omega
  refine wp_exit <| tX <| tX <| ib_same <| tN <| sr <| mv hF rfl rfl fun a hF => ag hF rfl rfl fun a hF => nt <| wp_ret <| fin1 rfl hF.defers (res_tmp hF rfl) ⟨_, rfl, hM.below, ?_⟩
  show _ = _
  rfl
end Go.Proofs.Ytockjnhdllcfpaa
