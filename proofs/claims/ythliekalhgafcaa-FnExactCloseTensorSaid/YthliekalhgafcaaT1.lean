/- What functions of the program return, as walks over their operations; no statement of the seat is proved here. -/
import Derived.Test.YthliekalhgafcaaTF
import Derived.Test.YthliekalhgafcaaG12
import Derived.Test.YthliekalhgafcaaSw14
import Derived.Test.YthliekalhgafcaaEch2
import Derived.Test.YthliekalhgafcaaSw15
import Derived.Test.YthliekalhgafcaaEch3
import Derived.Test.YthliekalhgafcaaSw17
import Derived.Test.YthliekalhgafcaaSw18
import Derived.Test.YthliekalhgafcaaSw19
import Derived.Test.YthliekalhgafcaaSw20
import Derived.Test.YthliekalhgafcaaSw23
import Derived.Test.YthliekalhgafcaaSw24
import Derived.Test.YthliekalhgafcaaSw26
set_option linter.unusedVariables false
set_option linter.unusedSimpArgs false
namespace Go.Proofs.Ythliekalhgafcaa
open Go Go.RowKit Go.Sw Go.Ech
open Classical
theorem ty_ze_27 : zeroP Try.prog 27 = some (.agg (tenC 0 0 0 0 (.slice none 0 0))) := by kernel_rfl
theorem ty_bt_27 : ∀ (p n i o : Int) (b : Option Addr) (l c : Nat) w, (Instr.build 27 #[(0, .int .i64 p), (1, .int .i64 n), (2, .int .i64 i), (3, .int .i64 o), (4, .slice b l c)]).run Try.prog w = .ok (.agg (tenC p n i o (.slice b l c))) w := by intros; kernel_rfl
theorem ty_sz_27 : sizeP Try.prog 27 = some 5 := by kernel_rfl
theorem ty_ag_27 : aggP Try.prog 27 = some 5 := by kernel_rfl
theorem countChoices_ok (n l : Nat) (w : World) (hn : n ≤ 6) (hl : l ≤ 16) :
    CallsR Try.prog 44 #[.int .i64 (((n : Nat) : Int)), .int .i64 (((l : Nat) : Int))] w (fun res _ => res = .int .i64 ((n ^ l : Nat) : Int)) := by
  refine calls_fr [.int .i64 (((n : Nat) : Int)), .int .i64 (((l : Nat) : Int))] Try.func44 rfl Try.ntmps44 rfl fun a hF => ?_
  have hM : Mem w w [] [] := MemX.start w 0
  change Fr 14 a [(0, .int .i64 (((n : Nat) : Int))), (1, .int .i64 (((l : Nat) : Int)))] at hF
  refine sq ?_
  refine wp_region_lit ?_
  refine st hF (g_assign hF rfl) rfl fun a hF => ?_
  refine wpList_nil ?_
  refine tN ?_
  refine sq ?_
  refine wp_region_lit ?_
  refine st hF (g_assign hF rfl) rfl fun a hF => ?_
  refine wpList_nil ?_
  refine tN ?_
  refine sq ?_
  refine sq ?_
  refine wp_region_lit ?_
  refine st hF (g_move hF rfl) rfl fun a hF => st hF (g_move hF rfl) rfl fun a hF => ?_
  refine wpList_nil ?_
  refine tN ?_
  refine wp_block ?_
  change Mem w _ [] [] at hM
  refine c_loop (fun (kk : Nat) a w' => kk ≤ l ∧ (True) ∧ Fr 14 a [(0, .int .i64 (((n : Nat) : Int))), (1, .int .i64 (((l : Nat) : Int))), (4, .int .i64 (0)), (6, .int .i64 (((l : Nat) : Int))), (7, .int .i64 (((kk : Nat) : Int))), (5, .int .i64 (((n ^ kk : Nat) : Int)))] ∧ Mem w w' [] []) (fun kk => l - kk) 0 ?_ ?_
  ·
    refine ⟨by omega, trivial, hF.sub _ (by repeat' constructor), ?_⟩
    exact hM
  ·
    clear hF hM
    rintro gk a w' ⟨hgk, hinv1, hF, hM⟩
    refine sq ?_
    refine wp_region_lit ?_
    refine st hF (g_lss hF rfl rfl) rfl fun a hF => ?_
    refine wpList_nil ?_
    refine tN ?_
    refine sq ?_
    refine c_cond hF rfl (fun h1 => ?_) (fun h1 => ?_)
    ·
      refine wp_skip ?_
      refine tN ?_
      refine sq ?_
      refine wp_block ?_
      refine wp_region_lit ?_
      refine st hF (g_move hF rfl) rfl fun a hF => st hF (g_move hF rfl) rfl fun a hF => st hF (g_mul hF rfl rfl (show _ = ((n ^ (gk + 1) : Nat) : Int) from (by have hb := pow_bd hn (show gk + 1 ≤ 16 by omega); rw [Nat.pow_succ] at hb ⊢; exact mul_nat (n ^ gk) n (by omega)))) rfl fun a hF => st hF (g_assign hF rfl) rfl fun a hF => ?_
      refine wpList_nil ?_
      refine iN ?_
      refine tN ?_
      refine wp_region_lit ?_
      refine st hF (g_add hF rfl rfl (add_nat (gk) (1) (by omega))) rfl fun a hF => st hF (g_move hF rfl) rfl fun a hF => ?_
      refine wpList_nil ?_
      refine tN ?_
      refine ⟨gk + 1, ⟨by omega, trivial, hF.sub _ (by repeat' constructor), ?_⟩, by omega⟩
      exact hM
    ·
      obtain rfl : l = gk := by omega
      refine wp_exit ?_
      refine tX ?_
      refine tX ?_
      refine ib_same ?_
      refine tN ?_
      refine sq ?_
      refine wp_region_lit ?_
      refine st hF (g_move hF rfl) rfl fun a hF => st hF (g_assign hF rfl) rfl fun a hF => ?_
      refine wpList_nil ?_
      refine tN ?_
      refine wp_ret ?_
      refine fin1 rfl hF.defers (res_tmp hF rfl) ⟨_, rfl, hM.below, ?_⟩
      show _ = _
      rfl

theorem l03Power_ok (n k : Nat) (w : World) (hn0 : 0 < n) (hn : n ≤ 6) (hk : k < 1000) :
    CallsR Try.prog 68 #[.int .i64 (((n : Nat) : Int)), .int .i64 (((k : Nat) : Int))] w (fun res _ => res = .int .i64 ((pwr n k 1 : Nat) : Int)) := by
  refine calls_fr [.int .i64 (((n : Nat) : Int)), .int .i64 (((k : Nat) : Int))] Try.func68 rfl Try.ntmps68 rfl fun a hF => ?_
  have hM : Mem w w [] [] := MemX.start w 0
  change Fr 18 a [(0, .int .i64 (((n : Nat) : Int))), (1, .int .i64 (((k : Nat) : Int)))] at hF
  refine sq ?_
  refine wp_region_lit ?_
  refine st hF (g_assign hF rfl) rfl fun a hF => ?_
  refine wpList_nil ?_
  refine tN ?_
  refine sq ?_
  refine wp_region_lit ?_
  refine st hF (g_assign hF rfl) rfl fun a hF => ?_
  refine wpList_nil ?_
  refine tN ?_
  refine sq ?_
  refine wp_block ?_
  change Mem w _ [] [] at hM
  refine c_loop (fun (kk : Nat) a w' => kk ≤ k ∧ ∃ (q : Nat), (pwr n (k - kk) q = pwr n k 1 ∧ q ≤ 8000) ∧ Fr 18 a [(0, .int .i64 (((n : Nat) : Int))), (4, .int .i64 (0)), (5, .int .i64 (((q : Nat) : Int))), (1, .int .i64 (((k - kk : Nat) : Int)))] ∧ Mem w w' [] []) (fun kk => k - kk) 0 ?_ ?_
  ·
    refine ⟨by omega, 1, ⟨rfl, by omega⟩, hF.sub _ (by repeat' constructor), ?_⟩
    exact hM
  ·
    clear hF hM
    rintro gk a w' ⟨hgk, q, ⟨hq, hqb⟩, hF, hM⟩
    refine sq ?_
    refine sq ?_
    refine wp_region_lit ?_
    refine st hF (g_move hF rfl) rfl fun a hF => st hF (g_gtr hF rfl rfl) rfl fun a hF => st hF (g_move hF rfl) rfl fun a hF => ?_
    by_cases g1 : 0 < (((k - gk : Nat) : Int) : Int)
    ·
      first | rw [decide_eq_true g1] at hF | simp only [decide_eq_true g1] at hF
      refine stY hF rfl rfl rfl (g_move hF rfl) rfl fun a hF => stY hF rfl rfl rfl (g_leq hF rfl rfl) rfl fun a hF => st hF (g_pickT hF rfl rfl) rfl fun a hF => ?_
      refine wpList_nil ?_
      refine tN ?_
      refine c_cond hF rfl (fun h2 => ?_) (fun h2 => ?_)
      ·
        refine wp_skip ?_
        refine tN ?_
        refine sq ?_
        refine wp_block ?_
        refine wp_region_lit ?_
        refine st hF (g_move hF rfl) rfl fun a hF => st hF (g_move hF rfl) rfl fun a hF => st hF (g_mul hF rfl rfl (mul_nat q n (by have : q * n ≤ 1296 * 6 := Nat.mul_le_mul (by omega) hn; omega))) rfl fun a hF => st hF (g_assign hF rfl) rfl fun a hF => ?_
        refine wpList_nil ?_
        refine iN ?_
        refine tN ?_
        refine wp_region_lit ?_
        refine st hF (g_move hF rfl) rfl fun a hF => st hF (g_sub hF rfl rfl (show _ = ((k - (gk + 1) : Nat) : Int) from (show IntKind.i64.wrap (((k - gk : Nat) : Int) - 1) = ((k - (gk + 1) : Nat) : Int) from by rw [wrap_i64 (by omega) (by omega)]; omega))) rfl fun a hF => st hF (g_assign hF rfl) rfl fun a hF => ?_
        refine wpList_nil ?_
        refine tN ?_
        have hqn : q * n ≤ 1296 * 6 := Nat.mul_le_mul (by omega) hn
        refine ⟨gk + 1, ⟨by omega, q * n, ⟨by rw [← hq, pwr_step (q := q) (by omega) (by omega), Nat.sub_sub], by omega⟩, hF.sub _ (by repeat' constructor), ?_⟩, by omega⟩
        exact hM
      ·
        refine wp_exit ?_
        refine tX ?_
        refine tX ?_
        refine ib_same ?_
        refine tN ?_
        refine sq ?_
        refine wp_region_lit ?_
        refine st hF (g_move hF rfl) rfl fun a hF => st hF (g_assign hF rfl) rfl fun a hF => ?_
        refine wpList_nil ?_
        refine tN ?_
        refine wp_ret ?_
        refine fin1 rfl hF.defers (res_tmp hF rfl) ⟨_, rfl, hM.below, ?_⟩
        show _ = _
        rw [← hq, pwr_stop (by omega)]
    ·
      first | rw [decide_eq_false g1] at hF | simp only [decide_eq_false g1] at hF
      refine stS hF rfl rfl rfl rfl rfl fun a hF => stS hF rfl rfl rfl rfl rfl fun a hF => st hF (g_pickF hF rfl rfl) rfl fun a hF => ?_
      refine wpList_nil ?_
      refine tN ?_
      refine c_Fl hF rfl ?_
      refine wp_exit ?_
      refine tX ?_
      refine tX ?_
      refine ib_same ?_
      refine tN ?_
      refine sq ?_
      refine wp_region_lit ?_
      refine st hF (g_move hF rfl) rfl fun a hF => st hF (g_assign hF rfl) rfl fun a hF => ?_
      refine wpList_nil ?_
      refine tN ?_
      refine wp_ret ?_
      refine fin1 rfl hF.defers (res_tmp hF rfl) ⟨_, rfl, hM.below, ?_⟩
      show _ = _
      rw [← hq, show k - gk = 0 by omega]; rfl

theorem isWithinLimits_ok (n i o : Nat) (w : World) (hn : n ≤ 6) :
    CallsR Try.prog 43 #[.int .i64 (((n : Nat) : Int)), .int .i64 (((i : Nat) : Int)), .int .i64 (((o : Nat) : Int))] w (fun res _ => res = .bool (decide (wl n i o))) := by
  refine calls_fr [.int .i64 (((n : Nat) : Int)), .int .i64 (((i : Nat) : Int)), .int .i64 (((o : Nat) : Int))] Try.func43 rfl Try.ntmps43 rfl fun a hF => ?_
  have hM : Mem w w [] [] := MemX.start w 0
  change Fr 21 a [(0, .int .i64 (((n : Nat) : Int))), (1, .int .i64 (((i : Nat) : Int))), (2, .int .i64 (((o : Nat) : Int)))] at hF
  refine sq ?_
  refine wp_region_lit ?_
  refine st hF (g_assign hF rfl) rfl fun a hF => ?_
  refine wpList_nil ?_
  refine tN ?_
  refine sq ?_
  refine wp_region_lit ?_
  refine st hF (g_move hF rfl) rfl fun a hF => st hF (g_leq hF rfl rfl) rfl fun a hF => st hF (g_move hF rfl) rfl fun a hF => ?_
  by_cases g1 : (((i : Nat) : Int) : Int) ≤ 8
  ·
    first | rw [decide_eq_true g1] at hF | simp only [decide_eq_true g1] at hF
    refine stY hF rfl rfl rfl (g_move hF rfl) rfl fun a hF => stY hF rfl rfl rfl (g_leq hF rfl rfl) rfl fun a hF => st hF (g_pickT hF rfl rfl) rfl fun a hF => st hF (g_move hF rfl) rfl fun a hF => ?_
    by_cases g2 : (((o : Nat) : Int) : Int) ≤ 8
    ·
      first | rw [decide_eq_true g2] at hF | simp only [decide_eq_true g2] at hF
      refine stY hF rfl rfl rfl (g_move hF rfl) rfl fun a hF => stY hF rfl rfl rfl (g_move hF rfl) rfl fun a hF => stY hF rfl rfl rfl (g_move hF rfl) rfl fun a hF => stY hF rfl rfl rfl (g_add hF rfl rfl (add_nat (i) (o) (by omega))) rfl fun a hF => ?_
      refine stYR hF rfl rfl rfl (d_call Try.call44 hF (.cons rfl (.cons rfl .nil)) (countChoices_ok (n) (i + o) _ (by omega) (by omega))) rfl ?_
      rintro _ w' a ⟨hx, rfl⟩ hF
      have hM := hM.ext hx
      refine stY hF rfl rfl rfl (g_leq hF rfl rfl) rfl fun a hF => st hF (g_pickT hF rfl rfl) rfl fun a hF => st hF (g_assign hF rfl) rfl fun a hF => ?_
      refine wpList_nil ?_
      refine tN ?_
      refine wp_ret ?_
      refine fin1 rfl hF.defers (res_tmp hF rfl) ⟨_, rfl, hM.below, ?_⟩
      show _ = _
      exact congrArg Value.bool (decide_eq_decide.2 ⟨fun h => ⟨by omega, by omega, by omega⟩, fun h => by have := h.2.2; omega⟩)
    ·
      first | rw [decide_eq_false g2] at hF | simp only [decide_eq_false g2] at hF
      refine stS hF rfl rfl rfl rfl rfl fun a hF => stS hF rfl rfl rfl rfl rfl fun a hF => stS hF rfl rfl rfl rfl rfl fun a hF => stS hF rfl rfl rfl rfl rfl fun a hF => stS hF rfl rfl rfl rfl rfl fun a hF => stS hF rfl rfl rfl rfl rfl fun a hF => st hF (g_pickF hF rfl rfl) rfl fun a hF => st hF (g_assign hF rfl) rfl fun a hF => ?_
      refine wpList_nil ?_
      refine tN ?_
      refine wp_ret ?_
      refine fin1 rfl hF.defers (res_tmp hF rfl) ⟨_, rfl, hM.below, ?_⟩
      show _ = _
      exact bool_f (fun h => by unfold wl at h; omega)
  ·
    first | rw [decide_eq_false g1] at hF | simp only [decide_eq_false g1] at hF
    refine stS hF rfl rfl rfl rfl rfl fun a hF => stS hF rfl rfl rfl rfl rfl fun a hF => st hF (g_pickF hF rfl rfl) rfl fun a hF => st hF (g_move hF rfl) rfl fun a hF => stS hF rfl rfl rfl rfl rfl fun a hF => stS hF rfl rfl rfl rfl rfl fun a hF => stS hF rfl rfl rfl rfl rfl fun a hF => stS hF rfl rfl rfl rfl rfl fun a hF => stS hF rfl rfl rfl rfl rfl fun a hF => stS hF rfl rfl rfl rfl rfl fun a hF => st hF (g_pickF hF rfl rfl) rfl fun a hF => st hF (g_assign hF rfl) rfl fun a hF => ?_
    refine wpList_nil ?_
    refine tN ?_
    refine wp_ret ?_
    refine fin1 rfl hF.defers (res_tmp hF rfl) ⟨_, rfl, hM.below, ?_⟩
    show _ = _
    exact bool_f (fun h => by unfold wl at h; omega)

theorem zeroTensor_ok (p n i o : Nat) (w : World) (hn0 : 0 < n) (hn : n ≤ 6) (hw : wl n i o) :
    CallsR Try.prog 49 #[.int .i64 (((p : Nat) : Int)), .int .i64 (((n : Nat) : Int)), .int .i64 (((i : Nat) : Int)), .int .i64 (((o : Nat) : Int))] w (fun v w' => TenOut w w' (p : Int) (n : Int) (i : Int) (o : Int) (n ^ (i + o)) (fun _ => 0) v) := by
  refine calls_fr [.int .i64 (((p : Nat) : Int)), .int .i64 (((n : Nat) : Int)), .int .i64 (((i : Nat) : Int)), .int .i64 (((o : Nat) : Int))] Try.func49 rfl Try.ntmps49 rfl fun a hF => ?_
  have hM : Mem w w [none, none] [] := MemX.start w 2
  change Fr 20 a [(0, .int .i64 (((p : Nat) : Int))), (1, .int .i64 (((n : Nat) : Int))), (2, .int .i64 (((i : Nat) : Int))), (3, .int .i64 (((o : Nat) : Int)))] at hF
  have hw3 := hw.2.2
  have hw1 := hw.1
  have hw2 := hw.2.1
  refine sq ?_
  refine wp_region_lit ?_
  refine stR hF (d_alloc 0 hM ty_ze_27) rfl ?_
  rintro _ w' a ⟨b1, rfl, hM, -⟩ hF
  change Mem w w' [some (b1, tenC 0 0 0 0 (.slice none 0 0)), none] [] at hM
  refine wpList_nil ?_
  refine tN ?_
  refine sq ?_
  refine wp_region_lit ?_
  refine st hF (g_move hF rfl) rfl fun a hF => st hF (g_move hF rfl) rfl fun a hF => st hF (g_move hF rfl) rfl fun a hF => st hF (g_move hF rfl) rfl fun a hF => st hF (g_move hF rfl) rfl fun a hF => st hF (g_move hF rfl) rfl fun a hF => st hF (g_move hF rfl) rfl fun a hF => st hF (g_add hF rfl rfl (add_nat (i) (o) (by omega))) rfl fun a hF => ?_
  refine stR hF (d_call Try.call44 hF (.cons rfl (.cons rfl .nil)) (countChoices_ok (n) (i + o) _ (by omega) (by omega))) rfl ?_
  rintro _ w' a ⟨hx, rfl⟩ hF
  have hM := hM.ext hx
  refine stR hF (d_make1 (len := (n) ^ (i + o)) 1 hM hF ty_si_22 rfl rfl rfl (by omega) (by decide)) rfl ?_
  rintro _ w' a ⟨b3, rfl, hM, -⟩ hF
  change Mem w w' [some (b1, tenC 0 0 0 0 (.slice none 0 0)), some (b3, numC ((n) ^ (i + o)) (fun _ => 0))] [] at hM
  refine st hF (g_buildP hF (build5 hF rfl rfl rfl rfl rfl) (fun w => ty_bt_27 _ _ _ _ _ _ _ w)) rfl fun a hF => ?_
  refine stN hF (d_storeAgg 0 hM rfl ty_sz_27 hF rfl rfl (tenC_one rfl) (by simp only [fnC_size, cells_size, vecC_size, tabC_size, planeC_size, tenC_size, smC_size, numC_size]) (by simp only [fnC_size, cells_size, vecC_size, tabC_size, planeC_size, tenC_size, smC_size, numC_size] <;> omega) (splice_whole _ _ rfl)) ?_
  intro _ w' a hM hF
  change Mem w w' [some (b1, tenC (((p : Nat) : Int) : Int) (((n : Nat) : Int) : Int) (((i : Nat) : Int) : Int) (((o : Nat) : Int) : Int) (.slice (some ⟨b3, 0, none⟩) ((n) ^ (i + o)) ((n) ^ (i + o)))), some (b3, numC ((n) ^ (i + o)) (fun _ => 0))] [] at hM
  refine wpList_nil ?_
  refine tN ?_
  refine wp_ret ?_
  refine fin1 rfl hF.defers (res_agg ty_ag_27 hF rfl (hM.row 0 rfl) (by simp only [fnC_size, cells_size, vecC_size, tabC_size, planeC_size, tenC_size, smC_size, numC_size])) ⟨_, rfl, hM.below, ?_⟩
  exact ⟨_, rfl, hM.ge 1 rfl, hM.row 1 rfl⟩

theorem l03Empty_ok (p n i o : Nat) (w : World) (hn0 : 0 < n) (hn : n ≤ 6) (hw : wl n i o) :
    CallsR Try.prog 54 #[.int .i64 (((p : Nat) : Int)), .int .i64 (((n : Nat) : Int)), .int .i64 (((i : Nat) : Int)), .int .i64 (((o : Nat) : Int))] w (fun v w' => TenOut w w' (p : Int) (n : Int) (i : Int) (o : Int) (n ^ (i + o)) (fun _ => 0) v) := by
  refine calls_fr [.int .i64 (((p : Nat) : Int)), .int .i64 (((n : Nat) : Int)), .int .i64 (((i : Nat) : Int)), .int .i64 (((o : Nat) : Int))] Try.func54 rfl Try.ntmps54 rfl fun a hF => ?_
  have hM : Mem w w [none, none] [] := MemX.start w 2
  change Fr 20 a [(0, .int .i64 (((p : Nat) : Int))), (1, .int .i64 (((n : Nat) : Int))), (2, .int .i64 (((i : Nat) : Int))), (3, .int .i64 (((o : Nat) : Int)))] at hF
  have hw3 := hw.2.2
  have hw1 := hw.1
  have hw2 := hw.2.1
  refine sq ?_
  refine wp_region_lit ?_
  refine stR hF (d_alloc 0 hM ty_ze_27) rfl ?_
  rintro _ w' a ⟨b1, rfl, hM, -⟩ hF
  change Mem w w' [some (b1, tenC 0 0 0 0 (.slice none 0 0)), none] [] at hM
  refine wpList_nil ?_
  refine tN ?_
  refine sq ?_
  refine wp_region_lit ?_
  refine st hF (g_move hF rfl) rfl fun a hF => st hF (g_move hF rfl) rfl fun a hF => st hF (g_move hF rfl) rfl fun a hF => st hF (g_move hF rfl) rfl fun a hF => st hF (g_move hF rfl) rfl fun a hF => st hF (g_move hF rfl) rfl fun a hF => st hF (g_move hF rfl) rfl fun a hF => st hF (g_add hF rfl rfl (add_nat (i) (o) (by omega))) rfl fun a hF => ?_
  refine stR hF (d_call Try.call68 hF (.cons rfl (.cons rfl .nil)) ((CallsR.val (l03Power_ok (n) (i + o) _ (by omega) (by omega) (by omega)) (congrArg (fun x : Nat => Value.int .i64 (x : Int)) (pwr_le (by omega) hw.2.2))))) rfl ?_
  rintro _ w' a ⟨hx, rfl⟩ hF
  have hM := hM.ext hx
  refine stR hF (d_make1 (len := (n) ^ (i + o)) 1 hM hF ty_si_22 rfl rfl rfl (by omega) (by decide)) rfl ?_
  rintro _ w' a ⟨b3, rfl, hM, -⟩ hF
  change Mem w w' [some (b1, tenC 0 0 0 0 (.slice none 0 0)), some (b3, numC ((n) ^ (i + o)) (fun _ => 0))] [] at hM
  refine st hF (g_buildP hF (build5 hF rfl rfl rfl rfl rfl) (fun w => ty_bt_27 _ _ _ _ _ _ _ w)) rfl fun a hF => ?_
  refine stN hF (d_storeAgg 0 hM rfl ty_sz_27 hF rfl rfl (tenC_one rfl) (by simp only [fnC_size, cells_size, vecC_size, tabC_size, planeC_size, tenC_size, smC_size, numC_size]) (by simp only [fnC_size, cells_size, vecC_size, tabC_size, planeC_size, tenC_size, smC_size, numC_size] <;> omega) (splice_whole _ _ rfl)) ?_
  intro _ w' a hM hF
  change Mem w w' [some (b1, tenC (((p : Nat) : Int) : Int) (((n : Nat) : Int) : Int) (((i : Nat) : Int) : Int) (((o : Nat) : Int) : Int) (.slice (some ⟨b3, 0, none⟩) ((n) ^ (i + o)) ((n) ^ (i + o)))), some (b3, numC ((n) ^ (i + o)) (fun _ => 0))] [] at hM
  refine wpList_nil ?_
  refine tN ?_
  refine wp_ret ?_
  refine fin1 rfl hF.defers (res_agg ty_ag_27 hF rfl (hM.row 0 rfl) (by simp only [fnC_size, cells_size, vecC_size, tabC_size, planeC_size, tenC_size, smC_size, numC_size])) ⟨_, rfl, hM.below, ?_⟩
  exact ⟨_, rfl, hM.ge 1 rfl, hM.row 1 rfl⟩

end Go.Proofs.Ythliekalhgafcaa
