/- What functions of the program return, as walks over their operations; no statement of the seat is proved here. -/
import Derived.Test.YtcheokblafncbaaJ9
import Derived.Test.YtcheokblafncbaaSw10
set_option linter.unusedVariables false
set_option linter.unusedSimpArgs false
namespace Go.Proofs.Ytcheokblafncbaa
open Go Go.RowKit Go.Sw Go.Ech
open Classical
theorem eqO_ok (b1 c1 b2 c2 m : Nat) (cs1 cs2 : Array Value) (f1 f2 : Nat → Int) (w : World) (hm : m < 10000000) (hb1 : Blk w b1 cs1) (hb2 : Blk w b2 cs2) (hx1 : (∀ i, i < m → cs1[0 + i * 1]? = some (.int .i64 (f1 i)))) (hx2 : (∀ i, i < m → cs2[0 + i * 1]? = some (.int .i64 (f2 i)))) (he : ∀ i, i < m → f1 i = f2 i) :
    CallsR Try.prog 30 #[.slice (some ⟨b1, 0, none⟩) m c1, .slice (some ⟨b2, 0, none⟩) m c2] w (fun res _ => res = .bool true) := by
  refine calls_fr [.slice (some ⟨b1, 0, none⟩) m c1, .slice (some ⟨b2, 0, none⟩) m c2] Try.func30 rfl Try.ntmps30 rfl fun a hF => ?_;have hM : Mem w w [] [(b1, cs1), (b2, cs2)] := MemX.startD w 0 _ (startD2 hb1 hb2);change Fr 26 a [(0, .slice (some ⟨b1, 0, none⟩) m c1), (1, .slice (some ⟨b2, 0, none⟩) m c2)] at hF;refine sr <| ag hF rfl rfl fun a hF => nt <| sq <| sr <| mv hF rfl rfl fun a hF => st hF (g_len ty_us_50 hF rfl) rfl fun a hF => mv hF rfl rfl fun a hF => st hF (g_len ty_us_50 hF rfl) rfl fun a hF => st hF (g_neq hF rfl rfl) rfl fun a hF => nt <| c_cond hF rfl (fun h1 => ?_) (fun h1 => ?_)
  · first | exact absurd rfl h1 | (exfalso; omega)
  refine wp_skip <| tN <| sq <| sr <| ag hF rfl rfl fun a hF => nt <| wp_block ?_;change Mem w _ [] [(b1, cs1), (b2, cs2)] at hM;refine c_loop (fun (kk : Nat) a w' => kk ≤ m ∧ (True) ∧ Fr 26 a [(0, .slice (some ⟨b1, 0, none⟩) m c1), (1, .slice (some ⟨b2, 0, none⟩) m c2), (10, .bool (decide (((m : Int) : Int) ≠ (m : Int)))), (5, .int .i64 (kk : Int))] ∧ Mem w w' [] [(b1, cs1), (b2, cs2)]) (fun kk => m - kk) 0 ?_ ?_
  · refine ⟨by omega, trivial, hF.sub _ (by repeat' constructor), ?_⟩
    exact hM
  clear hF hM;rintro gk a w' ⟨hgk, hinv1, hF, hM⟩;have hek := he gk;refine sq <| sr <| mv hF rfl rfl fun a hF => mv hF rfl rfl fun a hF => st hF (g_len ty_us_50 hF rfl) rfl fun a hF => st hF (g_lss hF rfl rfl) rfl fun a hF => nt <| c_cond hF rfl (fun h2 => ?_) (fun h2 => ?_)
  · refine wp_skip ?_
    refine tN <| sq <| wp_block <| sq <| c_par 8 [] [.val (.slice (some ⟨b1, 0, none⟩) m c1), .val (.int .i64 (gk : Int)), .val (ptr b1 (0 + (gk) * 1)), .val (.int .i64 (f1 (gk))), .val (.slice (some ⟨b2, 0, none⟩) m c2), .val (.int .i64 (gk : Int)), .val (ptr b2 (0 + (gk) * 1)), .val (.int .i64 (f2 (gk)))] hmix rfl hF rfl hM ⟨fun a w gG hF hS hd => by exact pmv hS rfl hF rfl, fun a w gG hF hS hd => by exact pmv hS rfl hF rfl, fun a w gG hF hS hd => by have hF := hF.ext1 17 (hd 0 rfl rfl); have hF := hF.ext1 18 (hd 1 rfl rfl); exact par_val hS rfl (g_indexSl (i := gk) ty_sl_50 hF rfl rfl rfl (by omega)), fun a w gG hF hS hd => by have hF := hF.ext1 19 (hd 2 rfl rfl); have hM := hS.mem rfl; exact par_val hS rfl (g_load ty_on_2 hF rfl (hM.fz 0 rfl) (hx1 (gk) (by omega))), fun a w gG hF hS hd => by exact pmv hS rfl hF rfl, fun a w gG hF hS hd => by exact pmv hS rfl hF rfl, fun a w gG hF hS hd => by have hF := hF.ext1 21 (hd 4 rfl rfl); have hF := hF.ext1 22 (hd 5 rfl rfl); exact par_val hS rfl (g_indexSl (i := gk) ty_sl_50 hF rfl rfl rfl (by omega)), fun a w gG hF hS hd => by have hF := hF.ext1 23 (hd 6 rfl rfl); have hM := hS.mem rfl; exact par_val hS rfl (g_load ty_on_2 hF rfl (hM.fz 1 rfl) (hx2 (gk) (by omega))), trivial⟩ ?_;intro a w' L hF hS hq;have hF := hF.ext1 17 (hq 0 rfl rfl);have hF := hF.ext1 18 (hq 1 rfl rfl);have hF := hF.ext1 19 (hq 2 rfl rfl);have hF := hF.ext1 20 (hq 3 rfl rfl);have hF := hF.ext1 21 (hq 4 rfl rfl);have hF := hF.ext1 22 (hq 5 rfl rfl);have hF := hF.ext1 23 (hq 6 rfl rfl);have hF := hF.ext1 24 (hq 7 rfl rfl);have hM := hS.mem rfl;change wpList Try.prog _ _ [_] _ _;refine st hF (g_neq hF rfl rfl) rfl fun a hF => nt <| c_cond hF rfl (fun h3 => ?_) (fun h3 => ?_)
    · first | exact absurd rfl h3 | (exfalso; omega)
    refine wp_skip <| iN <| tN <| wp_region_lit <| mv hF rfl rfl fun a hF => st hF (g_add hF rfl rfl (add_nat (gk) (1) (by omega))) rfl fun a hF => ag hF rfl rfl fun a hF => nt <| ⟨gk + 1, ⟨by omega, trivial, hF.sub _ (by repeat' constructor), ?_⟩, by omega⟩;exact hM
  obtain rfl : m = gk := by omega
  refine wp_exit <| tX <| tX <| ib_same <| tN <| sr <| ag hF rfl rfl fun a hF => nt <| wp_ret <| fin1 rfl hF.defers (res_tmp hF rfl) ⟨_, rfl, hM.below, ?_⟩
  show _ = _
  rfl
theorem markO_ok (b c m k Z : Nat) (xs : Nat → Value) (w : World) (hm : m < 10000000) (hk : k < 100000000) (hZ : m ≤ Z) (hb : Blk w b (mri Z k 0 xs)) :
    CallsX Try.prog [b] 31 #[.slice (some ⟨b, 0, none⟩) m c, .int .i64 (k : Int)] w (fun v w' => v = .int .i64 ((k + m : Nat) : Int) ∧ Blk w' b (mri Z k m xs)) := by
  refine calls_frX [.slice (some ⟨b, 0, none⟩) m c, .int .i64 (k : Int)] Try.func31 rfl Try.ntmps31 rfl fun a hF => ?_;have hM : MemX [b] w w [some (b, mri Z k 0 xs)] [] := MemX.startX1 0 hb;change Fr 19 a [(0, .slice (some ⟨b, 0, none⟩) m c), (1, .int .i64 (k : Int))] at hF;refine sr <| ag hF rfl rfl fun a hF => nt <| sq <| sr <| ag hF rfl rfl fun a hF => nt <| wp_block ?_;change MemX [b] w _ [some (b, mri Z k 0 xs)] [] at hM;refine c_loop (fun (kk : Nat) a w' => kk ≤ m ∧ (True) ∧ Fr 19 a [(0, .slice (some ⟨b, 0, none⟩) m c), (4, .int .i64 (0)), (5, .int .i64 (kk : Int)), (1, .int .i64 (((k + kk : Nat) : Int)))] ∧ MemX [b] w w' [some (b, mri Z k kk xs)] []) (fun kk => m - kk) 0 ?_ ?_
  · refine ⟨by omega, trivial, hF.sub _ (by repeat' constructor), ?_⟩
    exact hM
  clear hF hM;rintro gk a w' ⟨hgk, hinv1, hF, hM⟩;refine sq <| sr <| mv hF rfl rfl fun a hF => mv hF rfl rfl fun a hF => st hF (g_len ty_us_50 hF rfl) rfl fun a hF => st hF (g_lss hF rfl rfl) rfl fun a hF => nt <| c_cond hF rfl (fun h1 => ?_) (fun h1 => ?_)
  · refine wp_skip ?_
    refine tN <| sq <| wp_block <| sr <| mv hF rfl rfl fun a hF => mv hF rfl rfl fun a hF => mv hF rfl rfl fun a hF => st hF (g_indexSl (i := gk) ty_sl_50 hF rfl rfl rfl (by omega)) rfl fun a hF => stN hF (d_store 0 hM rfl ty_on_2 hF rfl rfl rfl (by first | omega | (simp only [sz0, grpC_size, numI_size, mri_size] <;> omega) | simp)) ?_;intro _ w' a hM hF;change MemX [b] w w' [some (b, (mri Z k gk xs).setIfInBounds (0 + (gk) * 1) (.int .i64 (((k + gk : Nat) : Int))))] [] at hM;refine nt <| wp_region_lit <| mv hF rfl rfl fun a hF => st hF (g_add hF rfl rfl (add_nat (k + gk) (1) (by omega))) rfl fun a hF => ag hF rfl rfl fun a hF => wpList_nil <| iN <| tN <| wp_region_lit <| mv hF rfl rfl fun a hF => st hF (g_add hF rfl rfl (add_nat (gk) (1) (by omega))) rfl fun a hF => ag hF rfl rfl fun a hF => nt <| ⟨gk + 1, ⟨by omega, trivial, hF.sub _ (by repeat' constructor), ?_⟩, by omega⟩;exact hM.rowc 0 rfl (mri_set (by omega) (by omega))
  obtain rfl : m = gk := by omega
  refine wp_exit <| tX <| tX <| ib_same <| tN <| sr <| mv hF rfl rfl fun a hF => ag hF rfl rfl fun a hF => nt <| wp_ret <| fin1 rfl hF.defers (res_tmp hF rfl) ⟨_, rfl, hM.bel, ?_⟩;exact ⟨rfl, hM.row 0 rfl⟩
theorem heldO_ok (b c m k Z : Nat) (xs : Nat → Value) (w : World) (hm : m < 10000000) (hk : k < 100000000) (hZ : m ≤ Z) (hb : Blk w b (mri Z k m xs)) :
    CallsR Try.prog 62 #[.slice (some ⟨b, 0, none⟩) m c, .int .i64 (k : Int)] w (fun res _ => res = .int .i64 ((k + m : Nat) : Int)) := by
  refine calls_fr [.slice (some ⟨b, 0, none⟩) m c, .int .i64 (k : Int)] Try.func62 rfl Try.ntmps62 rfl fun a hF => ?_;have hM : Mem w w [] [(b, mri Z k m xs)] := MemX.startD w 0 _ (startD1 hb);change Fr 21 a [(0, .slice (some ⟨b, 0, none⟩) m c), (1, .int .i64 (k : Int))] at hF;refine sr <| ag hF rfl rfl fun a hF => nt <| sq <| sr <| ag hF rfl rfl fun a hF => nt <| wp_block ?_;change Mem w _ [] [(b, mri Z k m xs)] at hM;refine c_loop (fun (kk : Nat) a w' => kk ≤ m ∧ (True) ∧ Fr 21 a [(0, .slice (some ⟨b, 0, none⟩) m c), (5, .int .i64 (kk : Int)), (1, .int .i64 (((k + kk : Nat) : Int)))] ∧ Mem w w' [] [(b, mri Z k m xs)]) (fun kk => m - kk) 0 ?_ ?_
  · refine ⟨by omega, trivial, hF.sub _ (by repeat' constructor), ?_⟩
    exact hM
  clear hF hM;rintro gk a w' ⟨hgk, hinv1, hF, hM⟩;refine sq <| sr <| mv hF rfl rfl fun a hF => mv hF rfl rfl fun a hF => st hF (g_len ty_us_50 hF rfl) rfl fun a hF => st hF (g_lss hF rfl rfl) rfl fun a hF => nt <| c_cond hF rfl (fun h1 => ?_) (fun h1 => ?_)
  · refine wp_skip ?_
    refine tN <| sq <| wp_block <| sq <| sr <| mv hF rfl rfl fun a hF => mv hF rfl rfl fun a hF => st hF (g_indexSl (i := gk) ty_sl_50 hF rfl rfl rfl (by omega)) rfl fun a hF => st hF (g_load ty_on_2 hF rfl (hM.fz 0 rfl) (mri_get (c := gk) (by omega) (by omega) (by omega))) rfl fun a hF => mv hF rfl rfl fun a hF => st hF (g_neq hF rfl rfl) rfl fun a hF => nt <| c_cond hF rfl (fun h2 => ?_) (fun h2 => ?_)
    · first | exact absurd rfl h2 | (exfalso; omega)
    refine wp_skip <| tN <| wp_region_lit <| mv hF rfl rfl fun a hF => st hF (g_add hF rfl rfl (add_nat (k + gk) (1) (by omega))) rfl fun a hF => ag hF rfl rfl fun a hF => wpList_nil <| iN <| tN <| wp_region_lit <| mv hF rfl rfl fun a hF => st hF (g_add hF rfl rfl (add_nat (gk) (1) (by omega))) rfl fun a hF => ag hF rfl rfl fun a hF => nt <| ⟨gk + 1, ⟨by omega, trivial, hF.sub _ (by repeat' constructor), ?_⟩, by omega⟩;exact hM
  obtain rfl : m = gk := by omega
  refine wp_exit <| tX <| tX <| ib_same <| tN <| sr <| mv hF rfl rfl fun a hF => ag hF rfl rfl fun a hF => nt <| wp_ret <| fin1 rfl hF.defers (res_tmp hF rfl) ⟨_, rfl, hM.below, ?_⟩
  show _ = _
  rfl
theorem eqSSR_b (m bA cA bB cB : Nat) (Ln : Nat → Nat) (csA csB : Array Value) (D0 : Froz) (βA κA βB κB : Nat → Nat) (CA CB : Nat → Array Value) (FA FB : Nat → Nat → Int) (w : World) (hm : m < 10000000) (hl : ∀ i, i < m → Ln i < 10000000) (hD0 : ∀ b cs, (b, cs) ∈ D0 → Blk w b cs) (hsA : SSR D0 (.slice (some ⟨bA, 0, none⟩) m cA) m Ln FA bA cA csA βA κA CA) (hsB : SSR D0 (.slice (some ⟨bB, 0, none⟩) m cB) m Ln FB bB cB csB βB κB CB) (he : ∀ i, i < m → ∀ c, c < Ln i → FA i c = FB i c) :
    CallsR Try.prog 24 #[.slice (some ⟨bA, 0, none⟩) m cA, .slice (some ⟨bB, 0, none⟩) m cB] w (fun res _ => res = .bool true) := by
  refine calls_fr [.slice (some ⟨bA, 0, none⟩) m cA, .slice (some ⟨bB, 0, none⟩) m cB] Try.func24 rfl Try.ntmps24 rfl fun a hF => ?_;have hM : Mem w w [] D0 := MemX.startD w 0 _ hD0;change Fr 27 a [(0, .slice (some ⟨bA, 0, none⟩) m cA), (1, .slice (some ⟨bB, 0, none⟩) m cB)] at hF;refine sr <| ag hF rfl rfl fun a hF => nt <| sq <| sr <| mv hF rfl rfl fun a hF => st hF (g_len ty_us_42 hF rfl) rfl fun a hF => mv hF rfl rfl fun a hF => st hF (g_len ty_us_42 hF rfl) rfl fun a hF => st hF (g_neq hF rfl rfl) rfl fun a hF => nt <| c_cond hF rfl (fun h1 => ?_) (fun h1 => ?_)
  · first | exact absurd rfl h1 | (exfalso; omega)
  refine wp_skip <| tN <| sq <| sr <| ag hF rfl rfl fun a hF => nt <| wp_block ?_;change Mem w _ [] D0 at hM;refine c_loop (fun (kk : Nat) a w' => kk ≤ m ∧ (True) ∧ Fr 27 a [(0, .slice (some ⟨bA, 0, none⟩) m cA), (1, .slice (some ⟨bB, 0, none⟩) m cB), (10, .bool (decide (((m : Int) : Int) ≠ (m : Int)))), (5, .int .i64 (kk : Int))] ∧ Mem w w' [] D0) (fun kk => m - kk) 0 ?_ ?_
  · refine ⟨by omega, trivial, hF.sub _ (by repeat' constructor), ?_⟩
    exact hM
  clear hF hM;rintro gk a w' ⟨hgk, hinv1, hF, hM⟩;refine sq <| sr <| mv hF rfl rfl fun a hF => mv hF rfl rfl fun a hF => st hF (g_len ty_us_42 hF rfl) rfl fun a hF => st hF (g_lss hF rfl rfl) rfl fun a hF => nt <| c_cond hF rfl (fun h2 => ?_) (fun h2 => ?_)
  · refine wp_skip ?_
    refine tN <| sq <| wp_block <| sq <| c_par 8 [] [.val (.slice (some ⟨bA, 0, none⟩) m cA), .val (.int .i64 (gk : Int)), .val (ptr bA (0 + (gk) * 1)), .val (.slice (some ⟨βA (gk), 0, none⟩) (Ln (gk)) (κA (gk))), .val (.slice (some ⟨bB, 0, none⟩) m cB), .val (.int .i64 (gk : Int)), .val (ptr bB (0 + (gk) * 1)), .val (.slice (some ⟨βB (gk), 0, none⟩) (Ln (gk)) (κB (gk)))] hmix rfl hF rfl hM ⟨fun a w gG hF hS hd => by exact pmv hS rfl hF rfl, fun a w gG hF hS hd => by exact pmv hS rfl hF rfl, fun a w gG hF hS hd => by have hF := hF.ext1 17 (hd 0 rfl rfl); have hF := hF.ext1 18 (hd 1 rfl rfl); exact par_val hS rfl (g_indexSl (i := gk) ty_sl_42 hF rfl rfl rfl (by omega)), fun a w gG hF hS hd => by have hF := hF.ext1 19 (hd 2 rfl rfl); have hM := hS.mem rfl; exact par_val hS rfl (g_load ty_on_50 hF rfl (hM.fzm hsA.out) (hsA.cell (gk) (by omega))), fun a w gG hF hS hd => by exact pmv hS rfl hF rfl, fun a w gG hF hS hd => by exact pmv hS rfl hF rfl, fun a w gG hF hS hd => by have hF := hF.ext1 21 (hd 4 rfl rfl); have hF := hF.ext1 22 (hd 5 rfl rfl); exact par_val hS rfl (g_indexSl (i := gk) ty_sl_42 hF rfl rfl rfl (by omega)), fun a w gG hF hS hd => by have hF := hF.ext1 23 (hd 6 rfl rfl); have hM := hS.mem rfl; exact par_val hS rfl (g_load ty_on_50 hF rfl (hM.fzm hsB.out) (hsB.cell (gk) (by omega))), trivial⟩ ?_;intro a w' L hF hS hq;have hF := hF.ext1 17 (hq 0 rfl rfl);have hF := hF.ext1 18 (hq 1 rfl rfl);have hF := hF.ext1 19 (hq 2 rfl rfl);have hF := hF.ext1 20 (hq 3 rfl rfl);have hF := hF.ext1 21 (hq 4 rfl rfl);have hF := hF.ext1 22 (hq 5 rfl rfl);have hF := hF.ext1 23 (hq 6 rfl rfl);have hF := hF.ext1 24 (hq 7 rfl rfl);have hM := hS.mem rfl;change wpList Try.prog _ _ [_, _] _ _;refine stR hF (d_call Try.call30 hF (.cons rfl (.cons rfl .nil)) (eqO_ok (βA gk) (κA gk) (βB gk) (κB gk) (Ln gk) (CA gk) (CB gk) (FA gk) (FB gk) _ (hl gk (by omega)) (hM.fzm (hsA.rows.mem gk (by omega))) (hM.fzm (hsB.rows.mem gk (by omega))) (hsA.num gk (by omega)) (hsB.num gk (by omega)) (he gk (by omega)))) rfl ?_;rintro _ w' a ⟨hx, rfl⟩ hF;have hM := hM.ext hx;refine st hF (g_not hF rfl) rfl fun a hF => nt <| c_Fl hF rfl <| wp_skip <| iN <| tN <| wp_region_lit <| mv hF rfl rfl fun a hF => st hF (g_add hF rfl rfl (add_nat (gk) (1) (by omega))) rfl fun a hF => ag hF rfl rfl fun a hF => nt <| ⟨gk + 1, ⟨by omega, trivial, hF.sub _ (by repeat' constructor), ?_⟩, by omega⟩;exact hM
  obtain rfl : m = gk := by omega
  refine wp_exit <| tX <| tX <| ib_same <| tN <| sr <| ag hF rfl rfl fun a hF => nt <| wp_ret <| fin1 rfl hF.defers (res_tmp hF rfl) ⟨_, rfl, hM.below, ?_⟩
  show _ = _
  rfl
theorem eqSSR_0  (w : World)  :
    CallsR Try.prog 24 #[.slice none 0 0, .slice none 0 0] w (fun res _ => res = .bool true) := by
  refine calls_fr [.slice none 0 0, .slice none 0 0] Try.func24 rfl Try.ntmps24 rfl fun a hF => ?_;have hM : Mem w w [] [] := MemX.start w 0;change Fr 27 a [(0, .slice none 0 0), (1, .slice none 0 0)] at hF;refine sr <| ag hF rfl rfl fun a hF => nt <| sq <| sr <| mv hF rfl rfl fun a hF => st hF (g_len0 ty_us_42 hF rfl) rfl fun a hF => mv hF rfl rfl fun a hF => st hF (g_len0 ty_us_42 hF rfl) rfl fun a hF => st hF (g_neq hF rfl rfl) rfl fun a hF => nt <| c_kF hF rfl (by decide) <| wp_skip <| tN <| sq <| sr <| ag hF rfl rfl fun a hF => nt <| wp_block ?_;change Mem w _ [] [] at hM;refine c_loop (fun (kk : Nat) a w' => kk ≤ 0 ∧ (True) ∧ Fr 27 a [(0, .slice none 0 0), (1, .slice none 0 0), (10, .bool (decide ((0 : Int) ≠ 0))), (5, .int .i64 (kk : Int))] ∧ Mem w w' [] []) (fun kk => 0 - kk) 0 ?_ ?_
  · refine ⟨by omega, trivial, hF.sub _ (by repeat' constructor), ?_⟩
    exact hM
  clear hF hM;rintro gk a w' ⟨hgk, hinv1, hF, hM⟩;refine sq <| sr <| mv hF rfl rfl fun a hF => mv hF rfl rfl fun a hF => st hF (g_len0 ty_us_42 hF rfl) rfl fun a hF => st hF (g_lss hF rfl rfl) rfl fun a hF => nt <| c_cond hF rfl (fun h2 => ?_) (fun h2 => ?_)
  · first | (exfalso; omega) | contradiction
  obtain rfl : 0 = gk := by omega
  refine wp_exit <| tX <| tX <| ib_same <| tN <| sr <| ag hF rfl rfl fun a hF => nt <| wp_ret <| fin1 rfl hF.defers (res_tmp hF rfl) ⟨_, rfl, hM.below, ?_⟩
  show _ = _
  rfl
theorem markSSR_ok (m b0 c0 k : Nat) (Ln : Nat → Nat) (cs0 : Array Value) (D0 : Froz) (β κ : Nat → Nat) (C : Nat → Array Value) (w : World) (hm : m < 10000000) (hk : k < 10000000) (hsm : sumTo Ln m < 10000000) (hroom : ∀ i, i < m → Ln i ≤ (C i).size) (hD0 : ∀ b cs, (b, cs) ∈ D0 → Blk w b cs) (hC0 : RowsC D0 m β C) (hb0 : (b0, cs0) ∈ D0) (hg0 : ∀ i, i < m → cs0[0 + i * 1]? = some (.slice (some ⟨β i, 0, none⟩) (Ln i) (κ i))) (hne : ∀ i, i < m → β i ≠ b0) :
    CallsX Try.prog ((List.range m).map β) 32 #[.slice (some ⟨b0, 0, none⟩) m c0, .int .i64 (k : Int)] w (fun v w' => v = .int .i64 ((k + sumTo Ln m : Nat) : Int) ∧ ∀ i, i < m → Blk w' (β i) (mkR C Ln (fun i => k + sumTo Ln i) i)) := by
  refine calls_frX [.slice (some ⟨b0, 0, none⟩) m c0, .int .i64 (k : Int)] Try.func32 rfl Try.ntmps32 rfl fun a hF => ?_;have hM : MemX ((List.range m).map β) w w [] D0 := MemX.startXA _ 0 hD0;change Fr 19 a [(0, .slice (some ⟨b0, 0, none⟩) m c0), (1, .int .i64 (k : Int))] at hF;refine sr <| ag hF rfl rfl fun a hF => nt <| sq <| sr <| ag hF rfl rfl fun a hF => nt <| wp_block ?_;change MemX ((List.range m).map β) w _ [] D0 at hM;rw [show k = k + sumTo Ln 0 from rfl] at hF;refine c_loop (fun (kk : Nat) a w' => kk ≤ m ∧ ∃ (D1 : Froz), (RowsC D1 m β (fun i => if i < kk then mkR C Ln (fun i => k + sumTo Ln i) i else C i) ∧ (b0, cs0) ∈ D1) ∧ Fr 19 a [(0, .slice (some ⟨b0, 0, none⟩) m c0), (4, .int .i64 (0)), (5, .int .i64 (kk : Int)), (1, .int .i64 (((k + sumTo Ln kk : Nat) : Int)))] ∧ MemX ((List.range m).map β) w w' [] D1) (fun kk => m - kk) 0 ?_ ?_
  · refine ⟨by omega, D0, ⟨hC0.congr (fun i hi => (if_neg (by omega)).symm), hb0⟩, hF.sub _ (by repeat' constructor), ?_⟩
    exact hM
  clear hF hM;rintro gk a w' ⟨hgk, D1, ⟨hC, hbm⟩, hF, hM⟩;have hlg : gk < m → Ln gk ≤ sumTo Ln m := fun q => le_sumTo q;refine sq <| sr <| mv hF rfl rfl fun a hF => mv hF rfl rfl fun a hF => st hF (g_len ty_us_42 hF rfl) rfl fun a hF => st hF (g_lss hF rfl rfl) rfl fun a hF => nt <| c_cond hF rfl (fun h1 => ?_) (fun h1 => ?_)
  · refine wp_skip ?_
    refine tN <| sq <| wp_block <| wp_region_lit <| mv hF rfl rfl fun a hF => mv hF rfl rfl fun a hF => st hF (g_indexSl (i := gk) ty_sl_42 hF rfl rfl rfl (by omega)) rfl fun a hF => st hF (g_load ty_on_50 hF rfl (hM.fzm hbm) (hg0 (gk) (by omega))) rfl fun a hF => mv hF rfl rfl fun a hF => ?_;have hsum : sumTo Ln gk + Ln gk ≤ sumTo Ln m := sumTo_up (f := Ln) (m := gk + 1) (by omega);refine stR hF (d_callX Try.call31 hF (.cons rfl (.cons rfl .nil)) (markO_ok (β gk) (κ gk) (Ln gk) (k + sumTo Ln gk) (C gk).size (xsf C gk) _ (by omega) (by omega) (hroom gk (by omega)) (by have := hM.fzm (hC.mem gk (by omega)); rw [if_neg (by omega), mkR_0 C (k + sumTo Ln gk) gk] at this; exact this))) rfl ?_;rintro _ w' a ⟨hx, rfl, hbk⟩ hF;have hM := hM.updC (hC.mem gk (by omega)) (.inr (List.mem_map.2 ⟨gk, by simp; omega, rfl⟩)) hx hbk;change MemX ((List.range m).map β) w w' [] (updD D1 (β gk) (mri (C gk).size (k + sumTo Ln gk) (Ln gk) (xsf C gk))) at hM;refine ag hF rfl rfl fun a hF => wpList_nil <| iN <| tN <| wp_region_lit <| mv hF rfl rfl fun a hF => st hF (g_add hF rfl rfl (add_nat (gk) (1) (by omega))) rfl fun a hF => ag hF rfl rfl fun a hF => wpList_nil <| tN ?_;rw [show k + sumTo Ln gk + Ln gk = k + sumTo Ln (gk + 1) from by simp only [sumTo]; omega] at hF;refine ⟨gk + 1, ⟨by omega, (updD D1 (β gk) (mri (C gk).size (k + sumTo Ln gk) (Ln gk) (xsf C gk))), ⟨(hC.setRow (i := gk) (by omega) _).congr (fun i hi => by
            unfold upE
            by_cases e : i = gk
            · rw [if_pos e, if_pos (by omega), e]; rfl
            · rw [if_neg e]; show (if i < gk then mkR C Ln (fun i => k + sumTo Ln i) i else C i) = _
              by_cases e2 : i < gk
              · rw [if_pos e2, if_pos (by omega)]
              · rw [if_neg e2, if_neg (by omega)]), mem_updD.2 (.inr ⟨fun e => hne gk (by omega) e.symm, hbm⟩)⟩, hF.sub _ (by repeat' constructor), ?_⟩, by omega⟩
    exact hM
  obtain rfl : m = gk := by omega
  refine wp_exit <| tX <| tX <| ib_same <| tN <| sr <| mv hF rfl rfl fun a hF => ag hF rfl rfl fun a hF => nt <| wp_ret <| fin1 rfl hF.defers (res_tmp hF rfl) ⟨_, rfl, hM.bel, ?_⟩;exact ⟨rfl, fun i hi => by have := hM.fzm (hC.mem i hi); rwa [if_pos hi] at this⟩
theorem markSSR_0 (k : Nat) (w : World) (hk : k < 10000000) :
    CallsR Try.prog 32 #[.slice none 0 0, .int .i64 (k : Int)] w (fun res _ => res = .int .i64 (k : Int)) := by
  refine calls_fr [.slice none 0 0, .int .i64 (k : Int)] Try.func32 rfl Try.ntmps32 rfl fun a hF => ?_;have hM : Mem w w [] [] := MemX.start w 0;change Fr 19 a [(0, .slice none 0 0), (1, .int .i64 (k : Int))] at hF;refine sr <| ag hF rfl rfl fun a hF => nt <| sq <| sr <| ag hF rfl rfl fun a hF => nt <| wp_block ?_;change Mem w _ [] [] at hM;refine c_loop (fun (kk : Nat) a w' => kk ≤ 0 ∧ (True) ∧ Fr 19 a [(0, .slice none 0 0), (4, .int .i64 (0)), (5, .int .i64 (kk : Int)), (1, .int .i64 (k : Int))] ∧ Mem w w' [] []) (fun kk => 0 - kk) 0 ?_ ?_
  · refine ⟨by omega, trivial, hF.sub _ (by repeat' constructor), ?_⟩
    exact hM
  clear hF hM;rintro gk a w' ⟨hgk, hinv1, hF, hM⟩;refine sq <| sr <| mv hF rfl rfl fun a hF => mv hF rfl rfl fun a hF => st hF (g_len0 ty_us_42 hF rfl) rfl fun a hF => st hF (g_lss hF rfl rfl) rfl fun a hF => nt <| c_cond hF rfl (fun h1 => ?_) (fun h1 => ?_)
  · exfalso; omega
  obtain rfl : 0 = gk := by omega
  refine wp_exit <| tX <| tX <| ib_same <| tN <| sr <| mv hF rfl rfl fun a hF => ag hF rfl rfl fun a hF => nt <| wp_ret <| fin1 rfl hF.defers (res_tmp hF rfl) ⟨_, rfl, hM.below, ?_⟩
  show _ = _
  rfl
theorem heldSSR_ok (m b0 c0 k : Nat) (Ln : Nat → Nat) (cs0 : Array Value) (D0 : Froz) (β κ : Nat → Nat) (C : Nat → Array Value) (w : World) (hm : m < 10000000) (hk : k < 10000000) (hsm : sumTo Ln m < 10000000) (hroom : ∀ i, i < m → Ln i ≤ (C i).size) (hD0 : ∀ b cs, (b, cs) ∈ D0 → Blk w b cs) (hC0 : RowsC D0 m β (mkR C Ln (fun i => k + sumTo Ln i))) (hb0 : (b0, cs0) ∈ D0) (hg0 : ∀ i, i < m → cs0[0 + i * 1]? = some (.slice (some ⟨β i, 0, none⟩) (Ln i) (κ i))) :
    CallsR Try.prog 33 #[.slice (some ⟨b0, 0, none⟩) m c0, .int .i64 (k : Int)] w (fun res _ => res = .int .i64 ((k + sumTo Ln m : Nat) : Int)) := by
  refine calls_fr [.slice (some ⟨b0, 0, none⟩) m c0, .int .i64 (k : Int)] Try.func33 rfl Try.ntmps33 rfl fun a hF => ?_;have hM : Mem w w [] D0 := MemX.startD w 0 _ hD0;change Fr 21 a [(0, .slice (some ⟨b0, 0, none⟩) m c0), (1, .int .i64 (k : Int))] at hF;refine sr <| ag hF rfl rfl fun a hF => nt <| sq <| sr <| ag hF rfl rfl fun a hF => nt <| wp_block ?_;change Mem w _ [] D0 at hM;rw [show k = k + sumTo Ln 0 from rfl] at hF;refine c_loop (fun (kk : Nat) a w' => kk ≤ m ∧ (True) ∧ Fr 21 a [(0, .slice (some ⟨b0, 0, none⟩) m c0), (5, .int .i64 (kk : Int)), (1, .int .i64 (((k + sumTo Ln kk : Nat) : Int)))] ∧ Mem w w' [] D0) (fun kk => m - kk) 0 ?_ ?_
  · refine ⟨by omega, trivial, hF.sub _ (by repeat' constructor), ?_⟩
    exact hM
  clear hF hM;rintro gk a w' ⟨hgk, hinv1, hF, hM⟩;have hlg : gk < m → sumTo Ln gk + Ln gk ≤ sumTo Ln m := fun q => sumTo_up (f := Ln) (m := gk + 1) q;refine sq <| sr <| mv hF rfl rfl fun a hF => mv hF rfl rfl fun a hF => st hF (g_len ty_us_42 hF rfl) rfl fun a hF => st hF (g_lss hF rfl rfl) rfl fun a hF => nt <| c_cond hF rfl (fun h1 => ?_) (fun h1 => ?_)
  · refine wp_skip ?_
    refine tN <| sq <| wp_block <| sr <| mv hF rfl rfl fun a hF => mv hF rfl rfl fun a hF => st hF (g_indexSl (i := gk) ty_sl_42 hF rfl rfl rfl (by omega)) rfl fun a hF => st hF (g_load ty_on_50 hF rfl (hM.fzm hb0) (hg0 (gk) (by omega))) rfl fun a hF => mv hF rfl rfl fun a hF => stR hF (d_call Try.call62 hF (.cons rfl (.cons rfl .nil)) (heldO_ok (β gk) (κ gk) (Ln gk) (k + sumTo Ln gk) (C gk).size (xsf C gk) _ (by omega) (by omega) (hroom gk (by omega)) (hM.fzm (hC0.mem gk (by omega))))) rfl ?_;rintro _ w' a ⟨hx, rfl⟩ hF;have hM := hM.ext hx;refine ag hF rfl rfl fun a hF => ns <| mv hF rfl rfl fun a hF => st hF (g_lss hF rfl rfl) rfl fun a hF => nt <| c_cond hF rfl (fun h2 => ?_) (fun h2 => ?_)
    · exfalso; omega
    refine wp_skip <| iN <| tN <| wp_region_lit <| mv hF rfl rfl fun a hF => st hF (g_add hF rfl rfl (add_nat (gk) (1) (by omega))) rfl fun a hF => ag hF rfl rfl fun a hF => wpList_nil <| tN ?_;rw [show k + sumTo Ln gk + Ln gk = k + sumTo Ln (gk + 1) from by simp only [sumTo]; omega] at hF;refine ⟨gk + 1, ⟨by omega, trivial, hF.sub _ (by repeat' constructor), ?_⟩, by omega⟩;exact hM
  obtain rfl : m = gk := by omega
  refine wp_exit <| tX <| tX <| ib_same <| tN <| sr <| mv hF rfl rfl fun a hF => ag hF rfl rfl fun a hF => nt <| wp_ret <| fin1 rfl hF.defers (res_tmp hF rfl) ⟨_, rfl, hM.below, ?_⟩
  show _ = _
  rfl
theorem heldSSR_0 (k : Nat) (w : World) (hk : k < 10000000) :
    CallsR Try.prog 33 #[.slice none 0 0, .int .i64 (k : Int)] w (fun res _ => res = .int .i64 (k : Int)) := by
  refine calls_fr [.slice none 0 0, .int .i64 (k : Int)] Try.func33 rfl Try.ntmps33 rfl fun a hF => ?_;have hM : Mem w w [] [] := MemX.start w 0;change Fr 21 a [(0, .slice none 0 0), (1, .int .i64 (k : Int))] at hF;refine sr <| ag hF rfl rfl fun a hF => nt <| sq <| sr <| ag hF rfl rfl fun a hF => nt <| wp_block ?_;change Mem w _ [] [] at hM;refine c_loop (fun (kk : Nat) a w' => kk ≤ 0 ∧ (True) ∧ Fr 21 a [(0, .slice none 0 0), (5, .int .i64 (kk : Int)), (1, .int .i64 (k : Int))] ∧ Mem w w' [] []) (fun kk => 0 - kk) 0 ?_ ?_
  · refine ⟨by omega, trivial, hF.sub _ (by repeat' constructor), ?_⟩
    exact hM
  clear hF hM;rintro gk a w' ⟨hgk, hinv1, hF, hM⟩;refine sq <| sr <| mv hF rfl rfl fun a hF => mv hF rfl rfl fun a hF => st hF (g_len0 ty_us_42 hF rfl) rfl fun a hF => st hF (g_lss hF rfl rfl) rfl fun a hF => nt <| c_cond hF rfl (fun h1 => ?_) (fun h1 => ?_)
  · exfalso; omega
  obtain rfl : 0 = gk := by omega
  refine wp_exit <| tX <| tX <| ib_same <| tN <| sr <| mv hF rfl rfl fun a hF => ag hF rfl rfl fun a hF => nt <| wp_ret <| fin1 rfl hF.defers (res_tmp hF rfl) ⟨_, rfl, hM.below, ?_⟩
  show _ = _
  rfl
end Go.Proofs.Ytcheokblafncbaa

namespace Go.Proofs.Ytcheokblafncbaa
open Go Go.RowKit Go.Sw Go.Ech
open Classical
def cb (p : Nat) (M : Nat → Nat → Nat) (f : Nat → Nat) (i j : Nat) : Nat := (f i * f j * invN (f (M i j) * f 0 % p) p) % p
theorem cb_s {p : Nat} {M : Nat → Nat → Nat} {f : Nat → Nat} {i j : Nat} : (f i * f j % p * invN (f (M i j) * f 0 % p) p) % p = cb p M f i j := by
  unfold cb; rw [Nat.mul_mod, Nat.mod_mod, ← Nat.mul_mod]
def cbI (p : Nat) (M : Nat → Nat → Nat) (f : Nat → Nat) (i j : Nat) : Int := (cb p M f i j : Int)
def LstP (p : Int) (n l : Nat) (F : Nat → Int) : Prop := NumP (n : Int) 1 (p - 1) l F
theorem mulN {x y : Nat} (hx : x < 13) (hy : y < 13) : x * y ≤ 144 := Nat.mul_le_mul (show x ≤ 12 by omega) (show y ≤ 12 by omega)
theorem mulN3 {x y z : Nat} (hx : x < 13) (hy : y < 13) (hz : z < 13) : x * y * z ≤ 1728 := Nat.mul_le_mul (mulN hx hy) (show z ≤ 12 by omega)
theorem mulN2 {x z p : Nat} (hx : x < p) (hp : p ≤ 13) (hz : z < 13) : x * z ≤ 144 := Nat.mul_le_mul (show x ≤ 12 by omega) (show z ≤ 12 by omega)

theorem invN_lt {x p : Nat} (hp : 0 < p) : invN x p < p := by
  by_cases h : ∃ c, c < p ∧ c * x % p = 1
  · have key : ∀ m c, c ≤ m → c < p → c * x % p = 1 → invN x p < p := by
      intro m
      induction m with
      | zero => intro c h1 h2 h3; obtain rfl : c = 0 := by omega
                rw [invN_some h2 (fun i hi => absurd hi (by omega)) h3]; exact h2
      | succ m ih =>
        intro c h1 h2 h3
        by_cases e : ∃ q, q < c ∧ q * x % p = 1
        · obtain ⟨q, h4, h5⟩ := e; exact ih q (by omega) (by omega) h5
        · rw [invN_some h2 (fun i hi hq => e ⟨i, hi, hq⟩) h3]; exact h2
    obtain ⟨c, h1, h2⟩ := h;exact key c c (Nat.le_refl _) h1 h2
  · rw [invN_none (fun c hc hq => h ⟨c, hc, hq⟩)]; exact hp
theorem CoboundaryIA (p : Int) (n : Int) (M : Nat → Nat → Nat) (sl : Value) (w : World) (hB : ∀ i j, M i j ≤ 255) (hc : ¬ GrpP n M) :
    CallsR Try.prog 29 #[.int .i64 (p), .agg (grpC n M), sl] w (fun res _ => res = .tuple #[.slice none 0 0, .int .i64 1]) := by
  refine calls_fr [.int .i64 (p), .agg (grpC n M), sl] Try.func29 rfl Try.ntmps29 rfl fun a hF => ?_;have hM : Mem w w [none, none, none] [] := MemX.start w 3;change Fr 79 a [(0, .int .i64 (p)), (1, .agg (grpC n M)), (2, sl)] at hF;refine sr <| stR hF (d_box 0 hM hF rfl) rfl ?_;rintro _ w' a ⟨b1, rfl, hM, -⟩ hF;change Mem w w' [some (b1, grpC n M), none, none] [] at hM;refine ag hF rfl rfl fun a hF => ag hF rfl rfl fun a hF => ns <| mv hF rfl rfl fun a hF => st hF (g_loadAgg ty_ag_27 hF rfl (hM.row 0 rfl) (by simp only [sz0, grpC_size, numI_size, mri_size] <;> omega) (whole (by simp only [sz0, grpC_size, numI_size, mri_size]))) rfl fun a hF => stR hF (d_call Try.call47 hF (.cons rfl (.cons rfl .nil)) (groupFault_A (p) n M _ hB hc)) rfl ?_;rintro _ w' a ⟨hx, rfl⟩ hF;have hM := hM.ext hx;refine ag hF rfl rfl fun a hF => nt <| sq <| sr <| mv hF rfl rfl fun a hF => st hF (g_neq hF rfl rfl) rfl fun a hF => nt <| c_kT hF rfl (by decide) <| sr <| mv hF rfl rfl fun a hF => ag hF rfl rfl fun a hF => ag hF rfl rfl fun a hF => nt <| wp_ret <| tR <| fin2 rfl hF.defers (res_tmp hF rfl) (res_tmp hF rfl) ⟨_, rfl, hM.below, ?_⟩
  show _ = _
  rfl
theorem CoboundaryIP (p : Int) (n : Nat) (M : Nat → Nat → Nat) (sl : Value) (w : World) (hn0 : 0 < n) (hn : n ≤ 6) (hB : ∀ i j, M i j ≤ 255) (hG : TabP n M) (hP : ¬ primeP p) :
    CallsR Try.prog 29 #[.int .i64 (p), .agg (grpC (n : Int) M), sl] w (fun res _ => res = .tuple #[.slice none 0 0, .int .i64 2]) := by
  refine calls_fr [.int .i64 (p), .agg (grpC (n : Int) M), sl] Try.func29 rfl Try.ntmps29 rfl fun a hF => ?_;have hM : Mem w w [none, none, none] [] := MemX.start w 3;change Fr 79 a [(0, .int .i64 (p)), (1, .agg (grpC (n : Int) M)), (2, sl)] at hF;refine sr <| stR hF (d_box 0 hM hF rfl) rfl ?_;rintro _ w' a ⟨b1, rfl, hM, -⟩ hF;change Mem w w' [some (b1, grpC (n : Int) M), none, none] [] at hM;refine ag hF rfl rfl fun a hF => ag hF rfl rfl fun a hF => ns <| mv hF rfl rfl fun a hF => st hF (g_loadAgg ty_ag_27 hF rfl (hM.row 0 rfl) (by simp only [sz0, grpC_size, numI_size, mri_size] <;> omega) (whole (by simp only [sz0, grpC_size, numI_size, mri_size]))) rfl fun a hF => stR hF (d_call Try.call47 hF (.cons rfl (.cons rfl .nil)) (groupFault_P (p) n M _ hn0 hn hB hG hP)) rfl ?_;rintro _ w' a ⟨hx, rfl⟩ hF;have hM := hM.ext hx;refine ag hF rfl rfl fun a hF => nt <| sq <| sr <| mv hF rfl rfl fun a hF => st hF (g_neq hF rfl rfl) rfl fun a hF => nt <| c_kT hF rfl (by decide) <| sr <| mv hF rfl rfl fun a hF => ag hF rfl rfl fun a hF => ag hF rfl rfl fun a hF => nt <| wp_ret <| tR <| fin2 rfl hF.defers (res_tmp hF rfl) (res_tmp hF rfl) ⟨_, rfl, hM.below, ?_⟩
  show _ = _
  rfl
theorem CoboundaryIT (p n : Nat) (M : Nat → Nat → Nat) (sl : Value) (m : Nat) (F : Nat → Int) (w : World) (hn0 : 0 < n) (hn : n ≤ 6) (hB : ∀ i j, M i j ≤ 255) (hG : TabP n M) (hP : primeP (p : Int)) (hS : ¬ LstP (p : Int) n m F) (hs : ArgSl w sl m F) (hl : m < 10000000) :
    CallsR Try.prog 29 #[.int .i64 (p : Int), .agg (grpC (n : Int) M), sl] w (fun res _ => res = .tuple #[.slice none 0 0, .int .i64 2]) := by
  refine calls_fr [.int .i64 (p : Int), .agg (grpC (n : Int) M), sl] Try.func29 rfl Try.ntmps29 rfl fun a hF => ?_;have hM : Mem w w [none, none, none] [] := MemX.start w 3;change Fr 79 a [(0, .int .i64 (p : Int)), (1, .agg (grpC (n : Int) M)), (2, sl)] at hF;have hp2 := primeP_pos2 hP;refine sr <| stR hF (d_box 0 hM hF rfl) rfl ?_;rintro _ w' a ⟨b1, rfl, hM, -⟩ hF;change Mem w w' [some (b1, grpC (n : Int) M), none, none] [] at hM;refine ag hF rfl rfl fun a hF => ag hF rfl rfl fun a hF => ns <| mv hF rfl rfl fun a hF => st hF (g_loadAgg ty_ag_27 hF rfl (hM.row 0 rfl) (by simp only [sz0, grpC_size, numI_size, mri_size] <;> omega) (whole (by simp only [sz0, grpC_size, numI_size, mri_size]))) rfl fun a hF => stR hF (d_call Try.call47 hF (.cons rfl (.cons rfl .nil)) (groupFault_V (p : Int) n M _ hn0 hn hB hG hP)) rfl ?_;rintro _ w' a ⟨hx, rfl⟩ hF;have hM := hM.ext hx;refine ag hF rfl rfl fun a hF => nt <| sq <| sr <| mv hF rfl rfl fun a hF => st hF (g_neq hF rfl rfl) rfl fun a hF => nt <| c_kF hF rfl (by decide) <| wp_skip <| tN <| sq <| sr <| mv hF rfl rfl fun a hF => st hF (g_fieldAddr ty_fo_27_0 hF rfl) rfl fun a hF => st hF (g_load ty_on_2 hF rfl (hM.row 0 rfl) (grpC_n (by omega))) rfl fun a hF => mv hF rfl rfl fun a hF => st hF (g_sub hF rfl rfl (wrap_i64 (by omega) (by omega))) rfl fun a hF => stR hF (d_call Try.call54 hF (.cons rfl (.cons rfl (.cons rfl (.cons rfl .nil)))) ((CallsR.val (hasNumbers_ok sl m F (n : Int) (1) ((p : Int) - 1) _ (hs.ext hM.below) hl) (congrArg Value.bool (decide_eq_false hS))))) rfl ?_;rintro _ w' a ⟨hx, rfl⟩ hF;have hM := hM.ext hx;refine st hF (g_not hF rfl) rfl fun a hF => nt <| c_T hF rfl <| sr <| ag hF rfl rfl fun a hF => ag hF rfl rfl fun a hF => nt <| wp_ret <| tR <| fin2 rfl hF.defers (res_tmp hF rfl) (res_tmp hF rfl) ⟨_, rfl, hM.below, ?_⟩
  show _ = _
  rfl
end Go.Proofs.Ytcheokblafncbaa
