/- What functions of the program return, as walks over their operations; no statement of the seat is proved here. -/
import Derived.Test.YtfbhngnfhpjonaaP14
import Derived.Test.YtfbhngnfhpjonaaSw26
set_option linter.unusedVariables false
set_option linter.unusedSimpArgs false
namespace Go.Proofs.Ytfbhngnfhpjonaa
open Go Go.RowKit Go.Sw Go.Ech
open Classical
theorem ty_ze_47 : zeroP Try.prog 47 = some (.agg (tenC 0 0 0 0 (.slice none 0 0))) := by kernel_rfl
theorem ty_bt_47 : ∀ (p n i o : Int) (b : Option Addr) (l c : Nat) w, (Instr.build 47 #[(0, .int .i64 p), (1, .int .i64 n), (2, .int .i64 i), (3, .int .i64 o), (4, .slice b l c)]).run Try.prog w = .ok (.agg (tenC p n i o (.slice b l c))) w := by intros; kernel_rfl
theorem ty_sz_47 : sizeP Try.prog 47 = some 5 := by kernel_rfl
theorem ty_ag_47 : aggP Try.prog 47 = some 5 := by kernel_rfl
theorem countChoices_ok (n l : Nat) (w : World) (hn : n ≤ 6) (hl : l ≤ 16) :
    CallsR Try.prog 101 #[.int .i64 (((n : Nat) : Int)), .int .i64 (((l : Nat) : Int))] w (fun res _ => res = .int .i64 ((n ^ l : Nat) : Int)) := by
  refine calls_fr [.int .i64 (((n : Nat) : Int)), .int .i64 (((l : Nat) : Int))] Try.func101 rfl Try.ntmps101 rfl fun a hF => ?_
  have hM : Mem w w [] [] := MemX.start w 0
  change Fr 14 a [(0, .int .i64 (((n : Nat) : Int))), (1, .int .i64 (((l : Nat) : Int)))] at hF
  refine sq ?_
  refine wp_region_lit ?_
  refine st hF (g_assign hF rfl) rfl fun a hF => ?_
  refine wpList_nil ?_
  refine tN ?_
  refine sq ?_
  refine wp_region_lit ?_
  refine st hF (g_assign hF rfl) rfl fun a hF => ?_
  refine wpList_nil ?_
  refine tN ?_
  refine sq ?_
  refine sq ?_
  refine wp_region_lit ?_
  refine st hF (g_move hF rfl) rfl fun a hF => st hF (g_move hF rfl) rfl fun a hF => ?_
  refine wpList_nil ?_
  refine tN ?_
  refine wp_block ?_
  change Mem w _ [] [] at hM
  refine c_loop (fun (kk : Nat) a w' => kk ≤ l ∧ (True) ∧ Fr 14 a [(0, .int .i64 (((n : Nat) : Int))), (1, .int .i64 (((l : Nat) : Int))), (4, .int .i64 (0)), (6, .int .i64 (((l : Nat) : Int))), (7, .int .i64 (((kk : Nat) : Int))), (5, .int .i64 (((n ^ kk : Nat) : Int)))] ∧ Mem w w' [] []) (fun kk => l - kk) 0 ?_ ?_
  ·
    refine ⟨by omega, trivial, hF.sub _ (by repeat' constructor), ?_⟩
    exact hM
  ·
    clear hF hM
    rintro gk a w' ⟨hgk, hinv1, hF, hM⟩
    refine sq ?_
    refine wp_region_lit ?_
    refine st hF (g_lss hF rfl rfl) rfl fun a hF => ?_
    refine wpList_nil ?_
    refine tN ?_
    refine sq ?_
    refine c_cond hF rfl (fun h1 => ?_) (fun h1 => ?_)
    ·
      refine wp_skip ?_
      refine tN ?_
      refine sq ?_
      refine wp_block ?_
      refine wp_region_lit ?_
      refine st hF (g_move hF rfl) rfl fun a hF => st hF (g_move hF rfl) rfl fun a hF => st hF (g_mul hF rfl rfl (show _ = ((n ^ (gk + 1) : Nat) : Int) from (by have hb := pow_bd hn (show gk + 1 ≤ 16 by omega); rw [Nat.pow_succ] at hb ⊢; exact mul_nat (n ^ gk) n (by omega)))) rfl fun a hF => st hF (g_assign hF rfl) rfl fun a hF => ?_
      refine wpList_nil ?_
      refine iN ?_
      refine tN ?_
      refine wp_region_lit ?_
      refine st hF (g_add hF rfl rfl (add_nat (gk) (1) (by omega))) rfl fun a hF => st hF (g_move hF rfl) rfl fun a hF => ?_
      refine wpList_nil ?_
      refine tN ?_
      refine ⟨gk + 1, ⟨by omega, trivial, hF.sub _ (by repeat' constructor), ?_⟩, by omega⟩
      exact hM
    ·
      obtain rfl : l = gk := by omega
      refine wp_exit ?_
      refine tX ?_
      refine tX ?_
      refine ib_same ?_
      refine tN ?_
      refine sq ?_
      refine wp_region_lit ?_
      refine st hF (g_move hF rfl) rfl fun a hF => st hF (g_assign hF rfl) rfl fun a hF => ?_
      refine wpList_nil ?_
      refine tN ?_
      refine wp_ret ?_
      refine fin1 rfl hF.defers (res_tmp hF rfl) ⟨_, rfl, hM.below, ?_⟩
      show _ = _
      rfl

theorem l03Power_ok (n k : Nat) (w : World) (hn0 : 0 < n) (hn : n ≤ 6) (hk : k < 1000) :
    CallsR Try.prog 83 #[.int .i64 (((n : Nat) : Int)), .int .i64 (((k : Nat) : Int))] w (fun res _ => res = .int .i64 ((pwr n k 1 : Nat) : Int)) := by
  refine calls_fr [.int .i64 (((n : Nat) : Int)), .int .i64 (((k : Nat) : Int))] Try.func83 rfl Try.ntmps83 rfl fun a hF => ?_
  have hM : Mem w w [] [] := MemX.start w 0
  change Fr 18 a [(0, .int .i64 (((n : Nat) : Int))), (1, .int .i64 (((k : Nat) : Int)))] at hF
  refine sq ?_
  refine wp_region_lit ?_
  refine st hF (g_assign hF rfl) rfl fun a hF => ?_
  refine wpList_nil ?_
  refine tN ?_
  refine sq ?_
  refine wp_region_lit ?_
  refine st hF (g_assign hF rfl) rfl fun a hF => ?_
  refine wpList_nil ?_
  refine tN ?_
  refine sq ?_
  refine wp_block ?_
  change Mem w _ [] [] at hM
  refine c_loop (fun (kk : Nat) a w' => kk ≤ k ∧ ∃ (q : Nat), (pwr n (k - kk) q = pwr n k 1 ∧ q ≤ 8000) ∧ Fr 18 a [(0, .int .i64 (((n : Nat) : Int))), (4, .int .i64 (0)), (5, .int .i64 (((q : Nat) : Int))), (1, .int .i64 (((k - kk : Nat) : Int)))] ∧ Mem w w' [] []) (fun kk => k - kk) 0 ?_ ?_
  ·
    refine ⟨by omega, 1, ⟨rfl, by omega⟩, hF.sub _ (by repeat' constructor), ?_⟩
    exact hM
  ·
    clear hF hM
    rintro gk a w' ⟨hgk, q, ⟨hq, hqb⟩, hF, hM⟩
    refine sq ?_
    refine sq ?_
    refine wp_region_lit ?_
    refine st hF (g_move hF rfl) rfl fun a hF => st hF (g_gtr hF rfl rfl) rfl fun a hF => st hF (g_move hF rfl) rfl fun a hF => ?_
    by_cases g1 : 0 < (((k - gk : Nat) : Int) : Int)
    ·
      first | rw [decide_eq_true g1] at hF | simp only [decide_eq_true g1] at hF
      refine stY hF rfl rfl rfl (g_move hF rfl) rfl fun a hF => stY hF rfl rfl rfl (g_leq hF rfl rfl) rfl fun a hF => st hF (g_pickT hF rfl rfl) rfl fun a hF => ?_
      refine wpList_nil ?_
      refine tN ?_
      refine c_cond hF rfl (fun h2 => ?_) (fun h2 => ?_)
      ·
        refine wp_skip ?_
        refine tN ?_
        refine sq ?_
        refine wp_block ?_
        refine wp_region_lit ?_
        refine st hF (g_move hF rfl) rfl fun a hF => st hF (g_move hF rfl) rfl fun a hF => st hF (g_mul hF rfl rfl (mul_nat q n (by have : q * n ≤ 1296 * 6 := Nat.mul_le_mul (by omega) hn; omega))) rfl fun a hF => st hF (g_assign hF rfl) rfl fun a hF => ?_
        refine wpList_nil ?_
        refine iN ?_
        refine tN ?_
        refine wp_region_lit ?_
        refine st hF (g_move hF rfl) rfl fun a hF => st hF (g_sub hF rfl rfl (show _ = ((k - (gk + 1) : Nat) : Int) from (show IntKind.i64.wrap (((k - gk : Nat) : Int) - 1) = ((k - (gk + 1) : Nat) : Int) from by rw [wrap_i64 (by omega) (by omega)]; omega))) rfl fun a hF => st hF (g_assign hF rfl) rfl fun a hF => ?_
        refine wpList_nil ?_
        refine tN ?_
        have hqn : q * n ≤ 1296 * 6 := Nat.mul_le_mul (by omega) hn
        refine ⟨gk + 1, ⟨by omega, q * n, ⟨by rw [← hq, pwr_step (q := q) (by omega) (by omega), Nat.sub_sub], by omega⟩, hF.sub _ (by repeat' constructor), ?_⟩, by omega⟩
        exact hM
      ·
        refine wp_exit ?_
        refine tX ?_
        refine tX ?_
        refine ib_same ?_
        refine tN ?_
        refine sq ?_
        refine wp_region_lit ?_
        refine st hF (g_move hF rfl) rfl fun a hF => st hF (g_assign hF rfl) rfl fun a hF => ?_
        refine wpList_nil ?_
        refine tN ?_
        refine wp_ret ?_
        refine fin1 rfl hF.defers (res_tmp hF rfl) ⟨_, rfl, hM.below, ?_⟩
        show _ = _
        rw [← hq, pwr_stop (by omega)]
    ·
      first | rw [decide_eq_false g1] at hF | simp only [decide_eq_false g1] at hF
      refine stS hF rfl rfl rfl rfl rfl fun a hF => stS hF rfl rfl rfl rfl rfl fun a hF => st hF (g_pickF hF rfl rfl) rfl fun a hF => ?_
      refine wpList_nil ?_
      refine tN ?_
      refine c_Fl hF rfl ?_
      refine wp_exit ?_
      refine tX ?_
      refine tX ?_
      refine ib_same ?_
      refine tN ?_
      refine sq ?_
      refine wp_region_lit ?_
      refine st hF (g_move hF rfl) rfl fun a hF => st hF (g_assign hF rfl) rfl fun a hF => ?_
      refine wpList_nil ?_
      refine tN ?_
      refine wp_ret ?_
      refine fin1 rfl hF.defers (res_tmp hF rfl) ⟨_, rfl, hM.below, ?_⟩
      show _ = _
      rw [← hq, show k - gk = 0 by omega]; rfl


theorem zeroTensor_ok (p n i o : Nat) (w : World) (hn0 : 0 < n) (hn : n ≤ 6) (hw : wl n i o) :
    CallsR Try.prog 85 #[.int .i64 (((p : Nat) : Int)), .int .i64 (((n : Nat) : Int)), .int .i64 (((i : Nat) : Int)), .int .i64 (((o : Nat) : Int))] w (fun v w' => TenOut w w' (p : Int) (n : Int) (i : Int) (o : Int) (n ^ (i + o)) (fun _ => 0) v) := by
  refine calls_fr [.int .i64 (((p : Nat) : Int)), .int .i64 (((n : Nat) : Int)), .int .i64 (((i : Nat) : Int)), .int .i64 (((o : Nat) : Int))] Try.func85 rfl Try.ntmps85 rfl fun a hF => ?_
  have hM : Mem w w [none, none] [] := MemX.start w 2
  change Fr 20 a [(0, .int .i64 (((p : Nat) : Int))), (1, .int .i64 (((n : Nat) : Int))), (2, .int .i64 (((i : Nat) : Int))), (3, .int .i64 (((o : Nat) : Int)))] at hF
  have hw3 := hw.2.2
  have hw1 := hw.1
  have hw2 := hw.2.1
  refine sq ?_
  refine wp_region_lit ?_
  refine stR hF (d_alloc 0 hM ty_ze_47) rfl ?_
  rintro _ w' a ⟨b1, rfl, hM, -⟩ hF
  change Mem w w' [some (b1, tenC 0 0 0 0 (.slice none 0 0)), none] [] at hM
  refine wpList_nil ?_
  refine tN ?_
  refine sq ?_
  refine wp_region_lit ?_
  refine st hF (g_move hF rfl) rfl fun a hF => st hF (g_move hF rfl) rfl fun a hF => st hF (g_move hF rfl) rfl fun a hF => st hF (g_move hF rfl) rfl fun a hF => st hF (g_move hF rfl) rfl fun a hF => st hF (g_move hF rfl) rfl fun a hF => st hF (g_move hF rfl) rfl fun a hF => st hF (g_add hF rfl rfl (add_nat (i) (o) (by omega))) rfl fun a hF => ?_
  refine stR hF (d_call Try.call101 hF (.cons rfl (.cons rfl .nil)) (countChoices_ok (n) (i + o) _ (by omega) (by omega))) rfl ?_
  rintro _ w' a ⟨hx, rfl⟩ hF
  have hM := hM.ext hx
  refine stR hF (d_make1 (len := (n) ^ (i + o)) 1 hM hF ty_si_45 rfl rfl rfl (by omega) (by decide)) rfl ?_
  rintro _ w' a ⟨b3, rfl, hM, -⟩ hF
  change Mem w w' [some (b1, tenC 0 0 0 0 (.slice none 0 0)), some (b3, numC ((n) ^ (i + o)) (fun _ => 0))] [] at hM
  refine st hF (g_buildP hF (build5 hF rfl rfl rfl rfl rfl) (fun w => ty_bt_47 _ _ _ _ _ _ _ w)) rfl fun a hF => ?_
  refine stN hF (d_storeAgg 0 hM rfl ty_sz_47 hF rfl rfl (tenC_one rfl) (by simp only [fnC_size, cells_size, vecC_size, tabC_size, planeC_size, mrk_size, rowI_size, cpC_size, tenC_size, smC_size, numC_size]) (by simp only [fnC_size, cells_size, vecC_size, tabC_size, planeC_size, mrk_size, rowI_size, cpC_size, tenC_size, smC_size, numC_size] <;> omega) (splice_whole _ _ rfl)) ?_
  intro _ w' a hM hF
  change Mem w w' [some (b1, tenC (((p : Nat) : Int) : Int) (((n : Nat) : Int) : Int) (((i : Nat) : Int) : Int) (((o : Nat) : Int) : Int) (.slice (some ⟨b3, 0, none⟩) ((n) ^ (i + o)) ((n) ^ (i + o)))), some (b3, numC ((n) ^ (i + o)) (fun _ => 0))] [] at hM
  refine wpList_nil ?_
  refine tN ?_
  refine wp_ret ?_
  refine fin1 rfl hF.defers (res_agg ty_ag_47 hF rfl (hM.row 0 rfl) (by simp only [fnC_size, cells_size, vecC_size, tabC_size, planeC_size, mrk_size, rowI_size, cpC_size, tenC_size, smC_size, numC_size])) ⟨_, rfl, hM.below, ?_⟩
  exact ⟨_, rfl, hM.ge 1 rfl, hM.row 1 rfl⟩

theorem l03Empty_ok (p n i o : Nat) (w : World) (hn0 : 0 < n) (hn : n ≤ 6) (hw : wl n i o) :
    CallsR Try.prog 51 #[.int .i64 (((p : Nat) : Int)), .int .i64 (((n : Nat) : Int)), .int .i64 (((i : Nat) : Int)), .int .i64 (((o : Nat) : Int))] w (fun v w' => TenOut w w' (p : Int) (n : Int) (i : Int) (o : Int) (n ^ (i + o)) (fun _ => 0) v) := by
  refine calls_fr [.int .i64 (((p : Nat) : Int)), .int .i64 (((n : Nat) : Int)), .int .i64 (((i : Nat) : Int)), .int .i64 (((o : Nat) : Int))] Try.func51 rfl Try.ntmps51 rfl fun a hF => ?_
  have hM : Mem w w [none, none] [] := MemX.start w 2
  change Fr 20 a [(0, .int .i64 (((p : Nat) : Int))), (1, .int .i64 (((n : Nat) : Int))), (2, .int .i64 (((i : Nat) : Int))), (3, .int .i64 (((o : Nat) : Int)))] at hF
  have hw3 := hw.2.2
  have hw1 := hw.1
  have hw2 := hw.2.1
  refine sq ?_
  refine wp_region_lit ?_
  refine stR hF (d_alloc 0 hM ty_ze_47) rfl ?_
  rintro _ w' a ⟨b1, rfl, hM, -⟩ hF
  change Mem w w' [some (b1, tenC 0 0 0 0 (.slice none 0 0)), none] [] at hM
  refine wpList_nil ?_
  refine tN ?_
  refine sq ?_
  refine wp_region_lit ?_
  refine st hF (g_move hF rfl) rfl fun a hF => st hF (g_move hF rfl) rfl fun a hF => st hF (g_move hF rfl) rfl fun a hF => st hF (g_move hF rfl) rfl fun a hF => st hF (g_move hF rfl) rfl fun a hF => st hF (g_move hF rfl) rfl fun a hF => st hF (g_move hF rfl) rfl fun a hF => st hF (g_add hF rfl rfl (add_nat (i) (o) (by omega))) rfl fun a hF => ?_
  refine stR hF (d_call Try.call83 hF (.cons rfl (.cons rfl .nil)) ((CallsR.val (l03Power_ok (n) (i + o) _ (by omega) (by omega) (by omega)) (congrArg (fun x : Nat => Value.int .i64 (x : Int)) (pwr_le (by omega) hw.2.2))))) rfl ?_
  rintro _ w' a ⟨hx, rfl⟩ hF
  have hM := hM.ext hx
  refine stR hF (d_make1 (len := (n) ^ (i + o)) 1 hM hF ty_si_45 rfl rfl rfl (by omega) (by decide)) rfl ?_
  rintro _ w' a ⟨b3, rfl, hM, -⟩ hF
  change Mem w w' [some (b1, tenC 0 0 0 0 (.slice none 0 0)), some (b3, numC ((n) ^ (i + o)) (fun _ => 0))] [] at hM
  refine st hF (g_buildP hF (build5 hF rfl rfl rfl rfl rfl) (fun w => ty_bt_47 _ _ _ _ _ _ _ w)) rfl fun a hF => ?_
  refine stN hF (d_storeAgg 0 hM rfl ty_sz_47 hF rfl rfl (tenC_one rfl) (by simp only [fnC_size, cells_size, vecC_size, tabC_size, planeC_size, mrk_size, rowI_size, cpC_size, tenC_size, smC_size, numC_size]) (by simp only [fnC_size, cells_size, vecC_size, tabC_size, planeC_size, mrk_size, rowI_size, cpC_size, tenC_size, smC_size, numC_size] <;> omega) (splice_whole _ _ rfl)) ?_
  intro _ w' a hM hF
  change Mem w w' [some (b1, tenC (((p : Nat) : Int) : Int) (((n : Nat) : Int) : Int) (((i : Nat) : Int) : Int) (((o : Nat) : Int) : Int) (.slice (some ⟨b3, 0, none⟩) ((n) ^ (i + o)) ((n) ^ (i + o)))), some (b3, numC ((n) ^ (i + o)) (fun _ => 0))] [] at hM
  refine wpList_nil ?_
  refine tN ?_
  refine wp_ret ?_
  refine fin1 rfl hF.defers (res_agg ty_ag_47 hF rfl (hM.row 0 rfl) (by simp only [fnC_size, cells_size, vecC_size, tabC_size, planeC_size, mrk_size, rowI_size, cpC_size, tenC_size, smC_size, numC_size])) ⟨_, rfl, hM.below, ?_⟩
  exact ⟨_, rfl, hM.ge 1 rfl, hM.row 1 rfl⟩

end Go.Proofs.Ytfbhngnfhpjonaa

namespace Go.Proofs.Ytfbhngnfhpjonaa
open Go Go.RowKit Go.Sw Go.Ech
open Classical
theorem ty_sz_2 : sizeP Try.prog 2 = some 1 := by kernel_rfl
theorem ty_fo_101_1 : fieldOff Try.prog 101 1 = some 1 := by kernel_rfl
theorem ty_fo_101_0 : fieldOff Try.prog 101 0 = some 0 := by kernel_rfl
theorem partOf_ok (b o l c q z : Nat) (w : World) (hz : 0 < z) (hc : q * z + z ≤ c) (hc2 : c < 1000000000) :
    CallsR Try.prog 86 #[.slice (some ⟨b, o, none⟩) (l) (c), .int .i64 (((q : Nat) : Int)), .int .i64 (((z : Nat) : Int))] w (fun res _ => res = .slice (some ⟨b, o + q * z * 1, none⟩) z z) := by
  refine calls_fr [.slice (some ⟨b, o, none⟩) (l) (c), .int .i64 (((q : Nat) : Int)), .int .i64 (((z : Nat) : Int))] Try.func86 rfl Try.ntmps86 rfl fun a hF => ?_
  have hM : Mem w w [] [] := MemX.start w 0
  change Fr 20 a [(0, .slice (some ⟨b, o, none⟩) (l) (c)), (1, .int .i64 (((q : Nat) : Int))), (2, .int .i64 (((z : Nat) : Int)))] at hF
  refine sq ?_
  refine wp_region_lit ?_
  refine st hF (g_assign hF rfl) rfl fun a hF => ?_
  refine wpList_nil ?_
  refine tN ?_
  refine sq ?_
  refine wp_region_lit ?_
  refine st hF (g_move hF rfl) rfl fun a hF => st hF (g_move hF rfl) rfl fun a hF => st hF (g_mul hF rfl rfl (mul_nat (q) (z) (by omega))) rfl fun a hF => st hF (g_assign hF rfl) rfl fun a hF => ?_
  refine wpList_nil ?_
  refine tN ?_
  refine sq ?_
  refine wp_region_lit ?_
  refine st hF (g_move hF rfl) rfl fun a hF => st hF (g_move hF rfl) rfl fun a hF => st hF (g_add hF rfl rfl (add_nat ((q) * (z)) (z) (by omega))) rfl fun a hF => st hF (g_assign hF rfl) rfl fun a hF => ?_
  refine wpList_nil ?_
  refine tN ?_
  refine sq ?_
  refine wp_region_lit ?_
  refine st hF (g_move hF rfl) rfl fun a hF => st hF (g_move hF rfl) rfl fun a hF => st hF (g_move hF rfl) rfl fun a hF => st hF (g_move hF rfl) rfl fun a hF => st hF (g_slice3 (lo := (q) * (z)) (hi := (q) * (z) + z) (mx := (q) * (z) + z) (L := z) (C := z) ty_us_45 ty_sz_2 hF rfl rfl rfl rfl rfl rfl rfl (by omega) (by omega) (by omega) (by omega) (by omega)) rfl fun a hF => st hF (g_assign hF rfl) rfl fun a hF => ?_
  refine wpList_nil ?_
  refine tN ?_
  refine wp_ret ?_
  refine fin1 rfl hF.defers (res_tmp hF rfl) ⟨_, rfl, hM.below, ?_⟩
  show _ = _
  rfl


theorem addSumsB_ok (p b o z m b2 o2 c2 r x : Nat) (cs2 : Array Value) (f h : Nat → Nat) (w : World) (hp : 0 < p) (hp2 : p < 100) (hx : x ≤ 255) (hf : ∀ c, f c ≤ 255) (hh : ∀ c, h c ≤ 255) (hr : r ≤ z) (hz : o + z ≤ m) (hm : m < 1000000) (hb : Blk w b (numC m f)) (hb2 : Blk w b2 cs2) (hne : b2 ≠ b) (hg2 : ∀ i, i < r → cs2[o2 + i * 1]? = some (.int .u8 ((h i : Nat) : Int))) :
    CallsX Try.prog [b] 87 #[.agg (smC (p : Int) (.slice (some ⟨b, o, none⟩) z z)), .slice (some ⟨b2, o2, none⟩) (r) (c2), .int .i64 (((x : Nat) : Int))] w (fun v w' => v = .tuple #[] ∧ Blk w' b (numC m (fun c => if o ≤ c ∧ c < o + r then (f c + x * h (c - o)) % p else f c))) := by
  refine calls_frX [.agg (smC (p : Int) (.slice (some ⟨b, o, none⟩) z z)), .slice (some ⟨b2, o2, none⟩) (r) (c2), .int .i64 (((x : Nat) : Int))] Try.func87 rfl Try.ntmps87 rfl fun a hF => ?_
  have hM : MemX [b] w w [some (b, numC m f), none] [(b2, cs2)] := MemX.startX1D 1 hb (startXD1 hb2 hne)
  change Fr 33 a [(0, .agg (smC (p : Int) (.slice (some ⟨b, o, none⟩) z z))), (1, .slice (some ⟨b2, o2, none⟩) (r) (c2)), (2, .int .i64 (((x : Nat) : Int)))] at hF
  refine sq ?_
  refine wp_region_lit ?_
  refine stR hF (d_box 1 hM hF rfl) rfl ?_
  rintro _ w' a ⟨b1, rfl, hM, -⟩ hF
  change MemX [b] w w' [some (b, numC m f), some (b1, smC (p : Int) (.slice (some ⟨b, o, none⟩) z z))] [(b2, cs2)] at hM
  refine wpList_nil ?_
  refine tN ?_
  refine sq ?_
  refine wp_region_lit ?_
  refine st hF (g_move hF rfl) rfl fun a hF => st hF (g_len ty_us_62 hF rfl) rfl fun a hF => st hF (g_move hF rfl) rfl fun a hF => ?_
  refine wpList_nil ?_
  refine tN ?_
  refine wp_block ?_
  change MemX [b] w _ [some (b, numC m f), some (b1, smC (p : Int) (.slice (some ⟨b, o, none⟩) z z))] [(b2, cs2)] at hM
  refine c_loop (fun (kk : Nat) a w' => kk ≤ r ∧ (True) ∧ Fr 33 a [(0, .agg (smC (p : Int) (.slice (some ⟨b, o, none⟩) z z))), (1, .slice (some ⟨b2, o2, none⟩) (r) (c2)), (2, .int .i64 (((x : Nat) : Int))), (3, ptr b1 (0)), (8, .slice (some ⟨b2, o2, none⟩) (r) (c2)), (9, .int .i64 (((r : Nat) : Int))), (10, .int .i64 (((kk : Nat) : Int)))] ∧ MemX [b] w w' [some (b, numC m (fun c => if o ≤ c ∧ c < o + kk then (f c + x * h (c - o)) % p else f c)), some (b1, smC (p : Int) (.slice (some ⟨b, o, none⟩) z z))] [(b2, cs2)]) (fun kk => r - kk) 0 ?_ ?_
  ·
    refine ⟨by omega, trivial, hF.sub _ (by repeat' constructor), ?_⟩
    exact hM.rowc 0 rfl (numC_congr fun c hc => by rw [if_neg (by omega)])
  ·
    clear hF hM
    rintro gk a w' ⟨hgk, hinv1, hF, hM⟩
    have hfk := hf (o + gk)
    have hhk := hh gk
    have hxh : x * h gk ≤ 255 * 255 := Nat.mul_le_mul hx (hh gk)
    have hml := Nat.mod_lt (f (o + gk) + x * h gk) hp
    refine sq ?_
    refine wp_region_lit ?_
    refine st hF (g_lss hF rfl rfl) rfl fun a hF => ?_
    refine wpList_nil ?_
    refine tN ?_
    refine sq ?_
    refine c_cond hF rfl (fun h2 => ?_) (fun h2 => ?_)
    ·
      refine wp_skip ?_
      refine tN ?_
      refine sq ?_
      refine wp_block ?_
      refine sq ?_
      refine wp_region_lit ?_
      refine st hF (g_move hF rfl) rfl fun a hF => st hF (g_indexSl (i := gk) ty_sl_62 hF rfl rfl rfl (by omega)) rfl fun a hF => st hF (g_load ty_on_5 hF rfl (hM.fz 0 rfl) (hg2 (gk) (by omega))) rfl fun a hF => st hF (g_assign hF rfl) rfl fun a hF => st hF (g_assign hF rfl) rfl fun a hF => ?_
      refine wpList_nil ?_
      refine tN ?_
      refine c_par 16 [] [.val (ptr b1 (0 + 1)), .val (.slice (some ⟨b, o, none⟩) (z) (z)), .val (.int .i64 (((gk : Nat) : Int))), .val (ptr b1 (0 + 1)), .val (.slice (some ⟨b, o, none⟩) (z) (z)), .val (.int .i64 (((gk : Nat) : Int))), .val (ptr b (o + (gk) * 1)), .val (.int .i64 (((f (o + gk) : Nat) : Int))), .val (.int .i64 (((x : Nat) : Int))), .val (.int .u8 (((h (gk) : Nat) : Int))), .val (.int .i64 (((h (gk) : Nat) : Int))), .val (.int .i64 ((((x) * (h (gk)) : Nat) : Int))), .val (.int .i64 (((f (o + gk) + (x) * (h (gk)) : Nat) : Int))), .val (ptr b1 (0 + 0)), .val (.int .i64 (((p : Nat) : Int))), .val (.int .i64 ((((f (o + gk) + (x) * (h (gk))) % (p) : Nat) : Int)))] hmix rfl hF rfl hM ⟨fun a w gG hF hS hd => by exact par_val hS rfl (g_fieldAddr ty_fo_101_1 hF rfl), fun a w gG hF hS hd => by have hF := hF.ext1 15 (hd 0 rfl rfl); have hM := hS.mem rfl; exact par_val hS rfl (g_load ty_on_45 hF rfl (hM.row 1 rfl) (smC_1 (by omega))), fun a w gG hF hS hd => by exact par_val hS rfl (g_move hF rfl), fun a w gG hF hS hd => by exact par_val hS rfl (g_fieldAddr ty_fo_101_1 hF rfl), fun a w gG hF hS hd => by have hF := hF.ext1 18 (hd 3 rfl rfl); have hM := hS.mem rfl; exact par_val hS rfl (g_load ty_on_45 hF rfl (hM.row 1 rfl) (smC_1 (by omega))), fun a w gG hF hS hd => by exact par_val hS rfl (g_move hF rfl), fun a w gG hF hS hd => by have hF := hF.ext1 19 (hd 4 rfl rfl); have hF := hF.ext1 20 (hd 5 rfl rfl); exact par_val hS rfl (g_indexSl (i := gk) ty_sl_45 hF rfl rfl rfl (by omega)), fun a w gG hF hS hd => by have hF := hF.ext1 21 (hd 6 rfl rfl); have hM := hS.mem rfl; exact par_val hS rfl (g_load ty_on_2 hF rfl (hM.row 0 rfl) (by rw [numC_get (k := o + gk) (by omega) (by omega), if_neg (by omega)])), fun a w gG hF hS hd => by exact par_val hS rfl (g_move hF rfl), fun a w gG hF hS hd => by exact par_val hS rfl (g_move hF rfl), fun a w gG hF hS hd => by have hF := hF.ext1 24 (hd 9 rfl rfl); exact par_val hS rfl (g_conv ty_un_2 ty_ud_5 hF rfl (wrap_i64 (by omega) (by omega))), fun a w gG hF hS hd => by have hF := hF.ext1 23 (hd 8 rfl rfl); have hF := hF.ext1 25 (hd 10 rfl rfl); exact par_val hS rfl (g_mul hF rfl rfl (mul_nat x (h gk) (by omega))), fun a w gG hF hS hd => by have hF := hF.ext1 22 (hd 7 rfl rfl); have hF := hF.ext1 26 (hd 11 rfl rfl); exact par_val hS rfl (g_add hF rfl rfl (add_nat (f (o + gk)) ((x) * (h (gk))) (by omega))), fun a w gG hF hS hd => by exact par_val hS rfl (g_fieldAddr ty_fo_101_0 hF rfl), fun a w gG hF hS hd => by have hF := hF.ext1 28 (hd 13 rfl rfl); have hM := hS.mem rfl; exact par_val hS rfl (g_load ty_on_2 hF rfl (hM.row 1 rfl) (smC_0 (by omega))), fun a w gG hF hS hd => by have hF := hF.ext1 27 (hd 12 rfl rfl); have hF := hF.ext1 29 (hd 14 rfl rfl); exact par_val hS rfl (g_rem hF rfl rfl (by omega) (rem_nat (f (o + gk) + (x) * (h (gk))) (p))), trivial⟩ ?_
      intro a w' L hF hS hq
      have hF := hF.ext1 15 (hq 0 rfl rfl)
      have hF := hF.ext1 16 (hq 1 rfl rfl)
      have hF := hF.ext1 17 (hq 2 rfl rfl)
      have hF := hF.ext1 18 (hq 3 rfl rfl)
      have hF := hF.ext1 19 (hq 4 rfl rfl)
      have hF := hF.ext1 20 (hq 5 rfl rfl)
      have hF := hF.ext1 21 (hq 6 rfl rfl)
      have hF := hF.ext1 22 (hq 7 rfl rfl)
      have hF := hF.ext1 23 (hq 8 rfl rfl)
      have hF := hF.ext1 24 (hq 9 rfl rfl)
      have hF := hF.ext1 25 (hq 10 rfl rfl)
      have hF := hF.ext1 26 (hq 11 rfl rfl)
      have hF := hF.ext1 27 (hq 12 rfl rfl)
      have hF := hF.ext1 28 (hq 13 rfl rfl)
      have hF := hF.ext1 29 (hq 14 rfl rfl)
      have hF := hF.ext1 30 (hq 15 rfl rfl)
      have hM := hS.mem rfl
      change wpList Try.prog _ _ [_, _] _ _
      refine st hF (g_indexSl (i := gk) ty_sl_45 hF rfl rfl rfl (by omega)) rfl fun a hF => ?_
      refine stN hF (d_store 0 hM rfl ty_on_2 hF rfl rfl rfl (by first | omega | (simp only [fnC_size, cells_size, vecC_size, tabC_size, planeC_size, mrk_size, rowI_size, cpC_size, tenC_size, smC_size, numC_size] <;> omega))) ?_
      intro _ w' a hM hF
      rw [show (numC m (fun c => if o ≤ c ∧ c < o + gk then (f c + x * h (c - o)) % p else f c)).setIfInBounds (o + (gk) * 1) (.int .i64 ((((f (o + gk) + (x) * (h (gk))) % (p) : Nat) : Int))) = numC m (fun c => if c = o + (gk) then (f (o + gk) + (x) * (h (gk))) % (p) else (fun c => if o ≤ c ∧ c < o + gk then (f c + x * h (c - o)) % p else f c) c) from numC_set (k := o + (gk)) (by omega) (fun c _ => rfl)] at hM
      change MemX [b] w w' [some (b, numC m (fun c => if c = o + (gk) then (f (o + gk) + (x) * (h (gk))) % (p) else (fun c => if o ≤ c ∧ c < o + gk then (f c + x * h (c - o)) % p else f c) c)), some (b1, smC (p : Int) (.slice (some ⟨b, o, none⟩) z z))] [(b2, cs2)] at hM
      refine wpList_nil ?_
      refine iN ?_
      refine tN ?_
      refine wp_region_lit ?_
      refine st hF (g_add hF rfl rfl (add_nat (gk) (1) (by omega))) rfl fun a hF => st hF (g_move hF rfl) rfl fun a hF => ?_
      refine wpList_nil ?_
      refine tN ?_
      refine ⟨gk + 1, ⟨by omega, trivial, hF.sub _ (by repeat' constructor), ?_⟩, by omega⟩
      refine hM.rowc 0 rfl (numC_congr fun c hc => ?_)
      by_cases e1 : c = o + gk
      · subst e1; rw [if_pos rfl, if_pos (by omega), show o + gk - o = gk by omega]
      · rw [if_neg e1]
        dsimp only
        by_cases e2 : o ≤ c ∧ c < o + gk
        · rw [if_pos e2, if_pos (by omega)]
        · rw [if_neg e2, if_neg (by omega)]
    ·
      obtain rfl : r = gk := by omega
      refine wp_exit ?_
      refine tX ?_
      refine tX ?_
      refine ib_same ?_
      refine fin0n rfl hF.defers  ⟨_, rfl, hM.bel, ?_⟩
      exact ⟨rfl, hM.row 0 rfl⟩

end Go.Proofs.Ytfbhngnfhpjonaa
