/- What functions of the program return, as walks over their operations; no statement of the seat is proved here. -/
import Derived.Test.YtmgdigbkocligaaDoorX2
import Derived.Test.YtmgdigbkocligaaDoorSw10
import Derived.Test.YtmgdigbkocligaaDoorSw74
set_option linter.unusedVariables false
set_option linter.unusedSimpArgs false
namespace Go.Proofs.YtmgdigbkocligaaDoor
open Go Go.RowKit Go.Sw Go.Ech
open Classical
theorem hr_b {s : ByteArray} {i : Nat} (hi : i ≤ 9) : hr s i < 24000000000 := by
  have h := hr_le s i;have : (10 : Nat) ^ i ≤ 10 ^ 9 := Nat.pow_le_pow_right (by omega) hi
  omega
theorem l01Number_Y (s : ByteArray) (w : World) (hr9 : nrP s) (hz : s.size < 10000000) :
    CallsR Tryd.prog 16 #[.string (s)] w (fun res _ => res = .int .i64 (hr s s.size : Int)) := by
  refine calls_fr [.string (s)] Tryd.func16 rfl Tryd.ntmps16 rfl fun a hF => ?_;have hM : Mem w w [] [] := MemX.start w 0;change Fr 48 a [(0, .string (s))] at hF;have hzz := byt_lt (s := s) (i := 0);obtain ⟨hz1, hz2, hz3, hz4⟩ := hr9;refine sr <| ag hF rfl rfl fun a hF => nt <| sq <| sr <| mv hF rfl rfl fun a hF => st hF (g_lenS ty_ut_9 hF rfl) rfl fun a hF => st hF (g_eql hF rfl rfl) rfl fun a hF => mv hF rfl rfl fun a hF => ?_
  by_cases g1 : ((s.size : Int) : Int) = 0
  · first | rw [decide_eq_true g1] at hF | simp only [decide_eq_true g1] at hF
    refine stS hF rfl rfl rfl rfl rfl fun a hF => stS hF rfl rfl rfl rfl rfl fun a hF => stS hF rfl rfl rfl rfl rfl fun a hF => st hF (g_pickT hF rfl rfl) rfl fun a hF => mv hF rfl rfl fun a hF => stS hF rfl rfl rfl rfl rfl fun a hF => stS hF rfl rfl rfl rfl rfl fun a hF => stS hF rfl rfl rfl rfl rfl fun a hF => stS hF rfl rfl rfl rfl rfl fun a hF => stU hF rfl rfl rfl rfl fun a hF => stU hF rfl rfl rfl rfl fun a hF => stU hF rfl rfl rfl rfl fun a hF => stS hF rfl rfl rfl rfl rfl fun a hF => st hF (g_pickT hF rfl rfl) rfl fun a hF => nt <| c_T hF rfl <| sr <| ag hF rfl rfl fun a hF => nt <| wp_ret <| tR <| fin1 rfl hF.defers (res_tmp hF rfl) ⟨_, rfl, hM.below, ?_⟩
    show _ = _
    first | rfl | (exfalso; omega)
  first | rw [decide_eq_false g1] at hF | simp only [decide_eq_false g1] at hF
  refine stY hF rfl rfl rfl (g_move hF rfl) rfl fun a hF => stY hF rfl rfl rfl (g_lenS ty_ut_9 hF rfl) rfl fun a hF => stY hF rfl rfl rfl (g_gtr hF rfl rfl) rfl fun a hF => st hF (g_pickF hF rfl rfl) rfl fun a hF => mv hF rfl rfl fun a hF => ?_
  by_cases g3 : 9 < ((s.size : Int) : Int)
  · first | rw [decide_eq_true g3] at hF | simp only [decide_eq_true g3] at hF
    refine stS hF rfl rfl rfl rfl rfl fun a hF => stS hF rfl rfl rfl rfl rfl fun a hF => stS hF rfl rfl rfl rfl rfl fun a hF => stS hF rfl rfl rfl rfl rfl fun a hF => stU hF rfl rfl rfl rfl fun a hF => stU hF rfl rfl rfl rfl fun a hF => stU hF rfl rfl rfl rfl fun a hF => stS hF rfl rfl rfl rfl rfl fun a hF => st hF (g_pickT hF rfl rfl) rfl fun a hF => nt <| c_T hF rfl <| sr <| ag hF rfl rfl fun a hF => nt <| wp_ret <| tR <| fin1 rfl hF.defers (res_tmp hF rfl) ⟨_, rfl, hM.below, ?_⟩
    show _ = _
    first | rfl | (exfalso; omega)
  first | rw [decide_eq_false g3] at hF | simp only [decide_eq_false g3] at hF
  refine stY hF rfl rfl rfl (g_move hF rfl) rfl fun a hF => stY hF rfl rfl rfl (g_lenS ty_ut_9 hF rfl) rfl fun a hF => stY hF rfl rfl rfl (g_gtr hF rfl rfl) rfl fun a hF => stY hF rfl rfl rfl (g_move hF rfl) rfl fun a hF => ?_
  by_cases g5 : 1 < ((s.size : Int) : Int)
  · first | rw [decide_eq_true g5] at hF | simp only [decide_eq_true g5] at hF
    refine stY hF rfl rfl rfl (g_move hF rfl) rfl fun a hF => stY hF rfl rfl rfl (g_indexS (i := 0) ty_ut_9 hF rfl rfl rfl (by omega)) rfl fun a hF => stY hF rfl rfl rfl (g_eql hF rfl rfl) rfl fun a hF => stY hF rfl rfl rfl (g_pickT hF rfl rfl) rfl fun a hF => st hF (g_pickF hF rfl rfl) rfl fun a hF => nt <| c_cond hF rfl (fun h6 => ?_) (fun h6 => ?_)
    · first | (exfalso; omega) | exact absurd rfl h6
    refine wp_skip <| tN <| sr <| ag hF rfl rfl fun a hF => nt <| sq <| sr <| ag hF rfl rfl fun a hF => nt <| wp_block ?_;change Mem w _ [] [] at hM;refine c_loop (fun (kk : Nat) a w' => kk ≤ s.size ∧ (True) ∧ Fr 48 a [(0, .string (s)), (22, .bool (decide (((byt s (0) : Int) : Int) = 48))), (4, .int .i64 (kk : Int)), (3, .int .i64 ((hr s kk : Int)))] ∧ Mem w w' [] []) (fun kk => s.size - kk) 0 ?_ ?_
    · refine ⟨by omega, trivial, hF.sub _ (by repeat' constructor), ?_⟩
      exact hM
    clear hF hM;rintro gi a w' ⟨hgi, hinv1, hF, hM⟩;have hb9 := hr_b (s := s) (i := gi);have hb8 := hr_b (s := s) (i := gi + 1);have hl8 := byt_lt (s := s) (i := gi);have hd9 := hz4 gi;refine sq <| sr <| mv hF rfl rfl fun a hF => mv hF rfl rfl fun a hF => st hF (g_lenS ty_ut_9 hF rfl) rfl fun a hF => st hF (g_lss hF rfl rfl) rfl fun a hF => nt <| c_cond hF rfl (fun h7 => ?_) (fun h7 => ?_)
    · refine wp_skip ?_
      refine tN <| sq <| wp_block <| sq <| sr <| mv hF rfl rfl fun a hF => mv hF rfl rfl fun a hF => st hF (g_indexS (i := gi) ty_ut_9 hF rfl rfl rfl (by omega)) rfl fun a hF => st hF (g_lss hF rfl rfl) rfl fun a hF => mv hF rfl rfl fun a hF => ?_
      by_cases g8 : ((byt s (gi) : Int) : Int) < 48
      · first | rw [decide_eq_true g8] at hF | simp only [decide_eq_true g8] at hF
        refine stS hF rfl rfl rfl rfl rfl fun a hF => stS hF rfl rfl rfl rfl rfl fun a hF => stS hF rfl rfl rfl rfl rfl fun a hF => stS hF rfl rfl rfl rfl rfl fun a hF => st hF (g_pickT hF rfl rfl) rfl fun a hF => nt <| c_T hF rfl <| sr <| ag hF rfl rfl fun a hF => nt <| wp_ret <| tR <| iR <| tR <| tR <| iR <| tR <| fin1 rfl hF.defers (res_tmp hF rfl) ⟨_, rfl, hM.below, ?_⟩
        show _ = _
        first | rfl | (exfalso; omega)
      first | rw [decide_eq_false g8] at hF | simp only [decide_eq_false g8] at hF
      refine stY hF rfl rfl rfl (g_move hF rfl) rfl fun a hF => stY hF rfl rfl rfl (g_move hF rfl) rfl fun a hF => stY hF rfl rfl rfl (g_indexS (i := gi) ty_ut_9 hF rfl rfl rfl (by omega)) rfl fun a hF => stY hF rfl rfl rfl (g_gtr hF rfl rfl) rfl fun a hF => st hF (g_pickF hF rfl rfl) rfl fun a hF => nt <| c_cond hF rfl (fun h10 => ?_) (fun h10 => ?_)
      · first | (exfalso; omega) | exact absurd rfl h10
      refine wp_skip <| tN <| wp_region_lit <| mv hF rfl rfl fun a hF => st hF (g_mul hF rfl rfl (mul_nat (hr s gi) 10 (by omega))) rfl fun a hF => mv hF rfl rfl fun a hF => mv hF rfl rfl fun a hF => st hF (g_indexS (i := gi) ty_ut_9 hF rfl rfl rfl (by omega)) rfl fun a hF => st hF (g_sub hF rfl rfl (show _ = ((byt s gi - 48 : Nat) : Int) from (by rw [wrap_u8 (by omega) (by omega)]; omega))) rfl fun a hF => st hF (g_conv ty_un_2 ty_ud_5 hF rfl (wrap_i64 (by omega) (by omega))) rfl fun a hF => st hF (g_add hF rfl rfl (add_nat ((hr s gi) * (10)) (byt s gi - 48) (by omega))) rfl fun a hF => ag hF rfl rfl fun a hF => wpList_nil <| iN <| tN <| wp_region_lit <| mv hF rfl rfl fun a hF => st hF (g_add hF rfl rfl (add_nat (gi) (1) (by omega))) rfl fun a hF => ag hF rfl rfl fun a hF => wpList_nil <| tN ?_;have hrs : hr s gi * 10 + (byt s gi - 48) = hr s (gi + 1) := rfl;rw [hrs] at hF;refine ⟨gi + 1, ⟨by omega, trivial, hF.sub _ (by repeat' constructor), ?_⟩, by omega⟩;exact hM
    obtain rfl : s.size = gi := by omega
    refine wp_exit <| tX <| tX <| ib_same <| tN <| sr <| mv hF rfl rfl fun a hF => ag hF rfl rfl fun a hF => nt <| wp_ret <| fin1 rfl hF.defers (res_tmp hF rfl) ⟨_, rfl, hM.below, ?_⟩
    show _ = _
    first | rfl | (exfalso; omega)
  first | rw [decide_eq_false g5] at hF | simp only [decide_eq_false g5] at hF
  refine stS hF rfl rfl rfl rfl rfl fun a hF => stS hF rfl rfl rfl rfl rfl fun a hF => stS hF rfl rfl rfl rfl rfl fun a hF => stY hF rfl rfl rfl (g_pickF hF rfl rfl) rfl fun a hF => st hF (g_pickF hF rfl rfl) rfl fun a hF => nt <| c_Fl hF rfl <| wp_skip <| tN <| sr <| ag hF rfl rfl fun a hF => nt <| sq <| sr <| ag hF rfl rfl fun a hF => nt <| wp_block ?_;change Mem w _ [] [] at hM;refine c_loop (fun (kk : Nat) a w' => kk ≤ s.size ∧ (True) ∧ Fr 48 a [(0, .string (s)), (22, .bool (false)), (4, .int .i64 (kk : Int)), (3, .int .i64 ((hr s kk : Int)))] ∧ Mem w w' [] []) (fun kk => s.size - kk) 0 ?_ ?_
  · refine ⟨by omega, trivial, hF.sub _ (by repeat' constructor), ?_⟩
    exact hM
  clear hF hM;rintro gi a w' ⟨hgi, hinv2, hF, hM⟩;have hb9 := hr_b (s := s) (i := gi);have hb8 := hr_b (s := s) (i := gi + 1);have hl8 := byt_lt (s := s) (i := gi);have hd9 := hz4 gi;refine sq <| sr <| mv hF rfl rfl fun a hF => mv hF rfl rfl fun a hF => st hF (g_lenS ty_ut_9 hF rfl) rfl fun a hF => st hF (g_lss hF rfl rfl) rfl fun a hF => nt <| c_cond hF rfl (fun h12 => ?_) (fun h12 => ?_)
  · refine wp_skip ?_
    refine tN <| sq <| wp_block <| sq <| sr <| mv hF rfl rfl fun a hF => mv hF rfl rfl fun a hF => st hF (g_indexS (i := gi) ty_ut_9 hF rfl rfl rfl (by omega)) rfl fun a hF => st hF (g_lss hF rfl rfl) rfl fun a hF => mv hF rfl rfl fun a hF => ?_
    by_cases g13 : ((byt s (gi) : Int) : Int) < 48
    · first | rw [decide_eq_true g13] at hF | simp only [decide_eq_true g13] at hF
      refine stS hF rfl rfl rfl rfl rfl fun a hF => stS hF rfl rfl rfl rfl rfl fun a hF => stS hF rfl rfl rfl rfl rfl fun a hF => stS hF rfl rfl rfl rfl rfl fun a hF => st hF (g_pickT hF rfl rfl) rfl fun a hF => nt <| c_T hF rfl <| sr <| ag hF rfl rfl fun a hF => nt <| wp_ret <| tR <| iR <| tR <| tR <| iR <| tR <| fin1 rfl hF.defers (res_tmp hF rfl) ⟨_, rfl, hM.below, ?_⟩
      show _ = _
      first | rfl | (exfalso; omega)
    first | rw [decide_eq_false g13] at hF | simp only [decide_eq_false g13] at hF
    refine stY hF rfl rfl rfl (g_move hF rfl) rfl fun a hF => stY hF rfl rfl rfl (g_move hF rfl) rfl fun a hF => stY hF rfl rfl rfl (g_indexS (i := gi) ty_ut_9 hF rfl rfl rfl (by omega)) rfl fun a hF => stY hF rfl rfl rfl (g_gtr hF rfl rfl) rfl fun a hF => st hF (g_pickF hF rfl rfl) rfl fun a hF => nt <| c_cond hF rfl (fun h15 => ?_) (fun h15 => ?_)
    · first | (exfalso; omega) | exact absurd rfl h15
    refine wp_skip <| tN <| wp_region_lit <| mv hF rfl rfl fun a hF => st hF (g_mul hF rfl rfl (mul_nat (hr s gi) 10 (by omega))) rfl fun a hF => mv hF rfl rfl fun a hF => mv hF rfl rfl fun a hF => st hF (g_indexS (i := gi) ty_ut_9 hF rfl rfl rfl (by omega)) rfl fun a hF => st hF (g_sub hF rfl rfl (show _ = ((byt s gi - 48 : Nat) : Int) from (by rw [wrap_u8 (by omega) (by omega)]; omega))) rfl fun a hF => st hF (g_conv ty_un_2 ty_ud_5 hF rfl (wrap_i64 (by omega) (by omega))) rfl fun a hF => st hF (g_add hF rfl rfl (add_nat ((hr s gi) * (10)) (byt s gi - 48) (by omega))) rfl fun a hF => ag hF rfl rfl fun a hF => wpList_nil <| iN <| tN <| wp_region_lit <| mv hF rfl rfl fun a hF => st hF (g_add hF rfl rfl (add_nat (gi) (1) (by omega))) rfl fun a hF => ag hF rfl rfl fun a hF => wpList_nil <| tN ?_;have hrs : hr s gi * 10 + (byt s gi - 48) = hr s (gi + 1) := rfl;rw [hrs] at hF;refine ⟨gi + 1, ⟨by omega, trivial, hF.sub _ (by repeat' constructor), ?_⟩, by omega⟩;exact hM
  obtain rfl : s.size = gi := by omega
  refine wp_exit <| tX <| tX <| ib_same <| tN <| sr <| mv hF rfl rfl fun a hF => ag hF rfl rfl fun a hF => nt <| wp_ret <| fin1 rfl hF.defers (res_tmp hF rfl) ⟨_, rfl, hM.below, ?_⟩
  show _ = _
  first | rfl | (exfalso; omega)
theorem l01Number_N (s : ByteArray) (w : World) (hr9 : ¬ nrP s) (hz : s.size < 10000000) :
    CallsR Tryd.prog 16 #[.string (s)] w (fun res _ => res = .int .i64 (-1)) := by
  refine calls_fr [.string (s)] Tryd.func16 rfl Tryd.ntmps16 rfl fun a hF => ?_;have hM : Mem w w [] [] := MemX.start w 0;change Fr 48 a [(0, .string (s))] at hF;have hzz := byt_lt (s := s) (i := 0);refine sr <| ag hF rfl rfl fun a hF => nt <| sq <| sr <| mv hF rfl rfl fun a hF => st hF (g_lenS ty_ut_9 hF rfl) rfl fun a hF => st hF (g_eql hF rfl rfl) rfl fun a hF => mv hF rfl rfl fun a hF => ?_
  by_cases g1 : ((s.size : Int) : Int) = 0
  · first | rw [decide_eq_true g1] at hF | simp only [decide_eq_true g1] at hF
    refine stS hF rfl rfl rfl rfl rfl fun a hF => stS hF rfl rfl rfl rfl rfl fun a hF => stS hF rfl rfl rfl rfl rfl fun a hF => st hF (g_pickT hF rfl rfl) rfl fun a hF => mv hF rfl rfl fun a hF => stS hF rfl rfl rfl rfl rfl fun a hF => stS hF rfl rfl rfl rfl rfl fun a hF => stS hF rfl rfl rfl rfl rfl fun a hF => stS hF rfl rfl rfl rfl rfl fun a hF => stU hF rfl rfl rfl rfl fun a hF => stU hF rfl rfl rfl rfl fun a hF => stU hF rfl rfl rfl rfl fun a hF => stS hF rfl rfl rfl rfl rfl fun a hF => st hF (g_pickT hF rfl rfl) rfl fun a hF => nt <| c_T hF rfl <| sr <| ag hF rfl rfl fun a hF => nt <| wp_ret <| tR <| fin1 rfl hF.defers (res_tmp hF rfl) ⟨_, rfl, hM.below, ?_⟩
    show _ = _
    rfl
  first | rw [decide_eq_false g1] at hF | simp only [decide_eq_false g1] at hF
  refine stY hF rfl rfl rfl (g_move hF rfl) rfl fun a hF => stY hF rfl rfl rfl (g_lenS ty_ut_9 hF rfl) rfl fun a hF => stY hF rfl rfl rfl (g_gtr hF rfl rfl) rfl fun a hF => st hF (g_pickF hF rfl rfl) rfl fun a hF => mv hF rfl rfl fun a hF => ?_
  by_cases g3 : 9 < ((s.size : Int) : Int)
  · first | rw [decide_eq_true g3] at hF | simp only [decide_eq_true g3] at hF
    refine stS hF rfl rfl rfl rfl rfl fun a hF => stS hF rfl rfl rfl rfl rfl fun a hF => stS hF rfl rfl rfl rfl rfl fun a hF => stS hF rfl rfl rfl rfl rfl fun a hF => stU hF rfl rfl rfl rfl fun a hF => stU hF rfl rfl rfl rfl fun a hF => stU hF rfl rfl rfl rfl fun a hF => stS hF rfl rfl rfl rfl rfl fun a hF => st hF (g_pickT hF rfl rfl) rfl fun a hF => nt <| c_T hF rfl <| sr <| ag hF rfl rfl fun a hF => nt <| wp_ret <| tR <| fin1 rfl hF.defers (res_tmp hF rfl) ⟨_, rfl, hM.below, ?_⟩
    show _ = _
    rfl
  first | rw [decide_eq_false g3] at hF | simp only [decide_eq_false g3] at hF
  refine stY hF rfl rfl rfl (g_move hF rfl) rfl fun a hF => stY hF rfl rfl rfl (g_lenS ty_ut_9 hF rfl) rfl fun a hF => stY hF rfl rfl rfl (g_gtr hF rfl rfl) rfl fun a hF => stY hF rfl rfl rfl (g_move hF rfl) rfl fun a hF => ?_
  by_cases g5 : 1 < ((s.size : Int) : Int)
  · first | rw [decide_eq_true g5] at hF | simp only [decide_eq_true g5] at hF
    refine stY hF rfl rfl rfl (g_move hF rfl) rfl fun a hF => stY hF rfl rfl rfl (g_indexS (i := 0) ty_ut_9 hF rfl rfl rfl (by omega)) rfl fun a hF => stY hF rfl rfl rfl (g_eql hF rfl rfl) rfl fun a hF => stY hF rfl rfl rfl (g_pickT hF rfl rfl) rfl fun a hF => st hF (g_pickF hF rfl rfl) rfl fun a hF => nt <| c_cond hF rfl (fun h6 => ?_) (fun h6 => ?_)
    · refine sq ?_
      refine wp_region_lit <| ag hF rfl rfl fun a hF => nt <| wp_ret <| tR <| fin1 rfl hF.defers (res_tmp hF rfl) ⟨_, rfl, hM.below, ?_⟩
      show _ = _
      rfl
    refine wp_skip <| tN <| sr <| ag hF rfl rfl fun a hF => nt <| sq <| sr <| ag hF rfl rfl fun a hF => nt <| wp_block ?_;change Mem w _ [] [] at hM;refine c_loop (fun (kk : Nat) a w' => kk ≤ s.size ∧ (∀ i, i < kk → 48 ≤ byt s i ∧ byt s i ≤ 57) ∧ Fr 48 a [(0, .string (s)), (22, .bool (decide (((byt s (0) : Int) : Int) = 48))), (4, .int .i64 (kk : Int)), (3, .int .i64 ((hr s kk : Int)))] ∧ Mem w w' [] []) (fun kk => s.size - kk) 0 ?_ ?_
    · refine ⟨by omega, fun i hi => absurd hi (by omega), hF.sub _ (by repeat' constructor), ?_⟩
      exact hM
    clear hF hM;rintro gi a w' ⟨hgi, hinv1, hF, hM⟩;have hb9 := hr_b (s := s) (i := gi);have hb8 := hr_b (s := s) (i := gi + 1);have hl8 := byt_lt (s := s) (i := gi);refine sq <| sr <| mv hF rfl rfl fun a hF => mv hF rfl rfl fun a hF => st hF (g_lenS ty_ut_9 hF rfl) rfl fun a hF => st hF (g_lss hF rfl rfl) rfl fun a hF => nt <| c_cond hF rfl (fun h7 => ?_) (fun h7 => ?_)
    · refine wp_skip ?_
      refine tN <| sq <| wp_block <| sq <| sr <| mv hF rfl rfl fun a hF => mv hF rfl rfl fun a hF => st hF (g_indexS (i := gi) ty_ut_9 hF rfl rfl rfl (by omega)) rfl fun a hF => st hF (g_lss hF rfl rfl) rfl fun a hF => mv hF rfl rfl fun a hF => ?_
      by_cases g8 : ((byt s (gi) : Int) : Int) < 48
      · first | rw [decide_eq_true g8] at hF | simp only [decide_eq_true g8] at hF
        refine stS hF rfl rfl rfl rfl rfl fun a hF => stS hF rfl rfl rfl rfl rfl fun a hF => stS hF rfl rfl rfl rfl rfl fun a hF => stS hF rfl rfl rfl rfl rfl fun a hF => st hF (g_pickT hF rfl rfl) rfl fun a hF => nt <| c_T hF rfl <| sr <| ag hF rfl rfl fun a hF => nt <| wp_ret <| tR <| iR <| tR <| tR <| iR <| tR <| fin1 rfl hF.defers (res_tmp hF rfl) ⟨_, rfl, hM.below, ?_⟩
        show _ = _
        rfl
      first | rw [decide_eq_false g8] at hF | simp only [decide_eq_false g8] at hF
      refine stY hF rfl rfl rfl (g_move hF rfl) rfl fun a hF => stY hF rfl rfl rfl (g_move hF rfl) rfl fun a hF => stY hF rfl rfl rfl (g_indexS (i := gi) ty_ut_9 hF rfl rfl rfl (by omega)) rfl fun a hF => stY hF rfl rfl rfl (g_gtr hF rfl rfl) rfl fun a hF => st hF (g_pickF hF rfl rfl) rfl fun a hF => nt <| c_cond hF rfl (fun h10 => ?_) (fun h10 => ?_)
      · refine sq ?_
        refine wp_region_lit <| ag hF rfl rfl fun a hF => nt <| wp_ret <| tR <| iR <| tR <| tR <| iR <| tR <| fin1 rfl hF.defers (res_tmp hF rfl) ⟨_, rfl, hM.below, ?_⟩
        show _ = _
        rfl
      refine wp_skip <| tN <| wp_region_lit <| mv hF rfl rfl fun a hF => st hF (g_mul hF rfl rfl (mul_nat (hr s gi) 10 (by omega))) rfl fun a hF => mv hF rfl rfl fun a hF => mv hF rfl rfl fun a hF => st hF (g_indexS (i := gi) ty_ut_9 hF rfl rfl rfl (by omega)) rfl fun a hF => st hF (g_sub hF rfl rfl (show _ = ((byt s gi - 48 : Nat) : Int) from (by rw [wrap_u8 (by omega) (by omega)]; omega))) rfl fun a hF => st hF (g_conv ty_un_2 ty_ud_5 hF rfl (wrap_i64 (by omega) (by omega))) rfl fun a hF => st hF (g_add hF rfl rfl (add_nat ((hr s gi) * (10)) (byt s gi - 48) (by omega))) rfl fun a hF => ag hF rfl rfl fun a hF => wpList_nil <| iN <| tN <| wp_region_lit <| mv hF rfl rfl fun a hF => st hF (g_add hF rfl rfl (add_nat (gi) (1) (by omega))) rfl fun a hF => ag hF rfl rfl fun a hF => wpList_nil <| tN ?_;have hrs : hr s gi * 10 + (byt s gi - 48) = hr s (gi + 1) := rfl;rw [hrs] at hF;refine ⟨gi + 1, ⟨by omega, (fun i hi => by by_cases e : i = gi; (rw [e]; omega); (exact hinv1 i (by omega))), hF.sub _ (by repeat' constructor), ?_⟩, by omega⟩;exact hM
    obtain rfl : s.size = gi := by omega
    exact absurd ⟨by omega, by omega, fun q => by omega, hinv1⟩ hr9
  first | rw [decide_eq_false g5] at hF | simp only [decide_eq_false g5] at hF
  refine stS hF rfl rfl rfl rfl rfl fun a hF => stS hF rfl rfl rfl rfl rfl fun a hF => stS hF rfl rfl rfl rfl rfl fun a hF => stY hF rfl rfl rfl (g_pickF hF rfl rfl) rfl fun a hF => st hF (g_pickF hF rfl rfl) rfl fun a hF => nt <| c_Fl hF rfl <| wp_skip <| tN <| sr <| ag hF rfl rfl fun a hF => nt <| sq <| sr <| ag hF rfl rfl fun a hF => nt <| wp_block ?_;change Mem w _ [] [] at hM;refine c_loop (fun (kk : Nat) a w' => kk ≤ s.size ∧ (∀ i, i < kk → 48 ≤ byt s i ∧ byt s i ≤ 57) ∧ Fr 48 a [(0, .string (s)), (22, .bool (false)), (4, .int .i64 (kk : Int)), (3, .int .i64 ((hr s kk : Int)))] ∧ Mem w w' [] []) (fun kk => s.size - kk) 0 ?_ ?_
  · refine ⟨by omega, fun i hi => absurd hi (by omega), hF.sub _ (by repeat' constructor), ?_⟩
    exact hM
  clear hF hM;rintro gi a w' ⟨hgi, hinv2, hF, hM⟩;have hb9 := hr_b (s := s) (i := gi);have hb8 := hr_b (s := s) (i := gi + 1);have hl8 := byt_lt (s := s) (i := gi);refine sq <| sr <| mv hF rfl rfl fun a hF => mv hF rfl rfl fun a hF => st hF (g_lenS ty_ut_9 hF rfl) rfl fun a hF => st hF (g_lss hF rfl rfl) rfl fun a hF => nt <| c_cond hF rfl (fun h12 => ?_) (fun h12 => ?_)
  · refine wp_skip ?_
    refine tN <| sq <| wp_block <| sq <| sr <| mv hF rfl rfl fun a hF => mv hF rfl rfl fun a hF => st hF (g_indexS (i := gi) ty_ut_9 hF rfl rfl rfl (by omega)) rfl fun a hF => st hF (g_lss hF rfl rfl) rfl fun a hF => mv hF rfl rfl fun a hF => ?_
    by_cases g13 : ((byt s (gi) : Int) : Int) < 48
    · first | rw [decide_eq_true g13] at hF | simp only [decide_eq_true g13] at hF
      refine stS hF rfl rfl rfl rfl rfl fun a hF => stS hF rfl rfl rfl rfl rfl fun a hF => stS hF rfl rfl rfl rfl rfl fun a hF => stS hF rfl rfl rfl rfl rfl fun a hF => st hF (g_pickT hF rfl rfl) rfl fun a hF => nt <| c_T hF rfl <| sr <| ag hF rfl rfl fun a hF => nt <| wp_ret <| tR <| iR <| tR <| tR <| iR <| tR <| fin1 rfl hF.defers (res_tmp hF rfl) ⟨_, rfl, hM.below, ?_⟩
      show _ = _
      rfl
    first | rw [decide_eq_false g13] at hF | simp only [decide_eq_false g13] at hF
    refine stY hF rfl rfl rfl (g_move hF rfl) rfl fun a hF => stY hF rfl rfl rfl (g_move hF rfl) rfl fun a hF => stY hF rfl rfl rfl (g_indexS (i := gi) ty_ut_9 hF rfl rfl rfl (by omega)) rfl fun a hF => stY hF rfl rfl rfl (g_gtr hF rfl rfl) rfl fun a hF => st hF (g_pickF hF rfl rfl) rfl fun a hF => nt <| c_cond hF rfl (fun h15 => ?_) (fun h15 => ?_)
    · refine sq ?_
      refine wp_region_lit <| ag hF rfl rfl fun a hF => nt <| wp_ret <| tR <| iR <| tR <| tR <| iR <| tR <| fin1 rfl hF.defers (res_tmp hF rfl) ⟨_, rfl, hM.below, ?_⟩
      show _ = _
      rfl
    refine wp_skip <| tN <| wp_region_lit <| mv hF rfl rfl fun a hF => st hF (g_mul hF rfl rfl (mul_nat (hr s gi) 10 (by omega))) rfl fun a hF => mv hF rfl rfl fun a hF => mv hF rfl rfl fun a hF => st hF (g_indexS (i := gi) ty_ut_9 hF rfl rfl rfl (by omega)) rfl fun a hF => st hF (g_sub hF rfl rfl (show _ = ((byt s gi - 48 : Nat) : Int) from (by rw [wrap_u8 (by omega) (by omega)]; omega))) rfl fun a hF => st hF (g_conv ty_un_2 ty_ud_5 hF rfl (wrap_i64 (by omega) (by omega))) rfl fun a hF => st hF (g_add hF rfl rfl (add_nat ((hr s gi) * (10)) (byt s gi - 48) (by omega))) rfl fun a hF => ag hF rfl rfl fun a hF => wpList_nil <| iN <| tN <| wp_region_lit <| mv hF rfl rfl fun a hF => st hF (g_add hF rfl rfl (add_nat (gi) (1) (by omega))) rfl fun a hF => ag hF rfl rfl fun a hF => wpList_nil <| tN ?_;have hrs : hr s gi * 10 + (byt s gi - 48) = hr s (gi + 1) := rfl;rw [hrs] at hF;refine ⟨gi + 1, ⟨by omega, (fun i hi => by by_cases e : i = gi; (rw [e]; omega); (exact hinv2 i (by omega))), hF.sub _ (by repeat' constructor), ?_⟩, by omega⟩;exact hM
  obtain rfl : s.size = gi := by omega
  exact absurd ⟨by omega, by omega, fun q => by omega, hinv2⟩ hr9
end Go.Proofs.YtmgdigbkocligaaDoor

namespace Go.Proofs.YtmgdigbkocligaaDoor
open Go Go.RowKit Go.Sw Go.Ech
open Classical
theorem nns {a b : ByteArray} (h : ¬ (a.toList ≠ b.toList)) : a = b := str_eq (Decidable.not_not.1 h)
theorem tabs_up {w w' : World} (h : Tabs Tryd.prog w 0) (hx : Ext w w') : Tabs Tryd.prog w' 0 := h.ext (g1 := 1) (g2 := 2) (g3 := 3) (by kernel_rfl) (by kernel_rfl) (by kernel_rfl) hx
theorem pi_ok (s : ByteArray) (v : Int) (w : World) (hz : s.size < 10000000) (h : Go.Lib.parseIntB 64 s.data.toList = .ok v) : CallsR Tryd.prog 22 #[.string s, .int .i64 ((10 : Nat) : Int), .int .i64 ((64 : Nat) : Int)] w (fun u _ => u = .tuple #[.int .i64 v, .nilIface]) :=
  (Tryd.strconv_ParseInt_10_at64_ok s (by omega) v h w).mono fun e w' ⟨h1, h2⟩ => ⟨_, h1, by
    rcases h2 with h2 | ⟨t, h2⟩
    · rw [h2]; exact Ext.refl _
    · rw [h2]; exact ext_bytes _ _ _, rfl⟩
theorem pi_bad (s : ByteArray) (w : World) (hz : s.size < 10000000) (hT : Tabs Tryd.prog w 0) (h : ∀ v, Go.Lib.parseIntB 64 s.data.toList ≠ .ok v) : CallsR Tryd.prog 22 #[.string s, .int .i64 ((10 : Nat) : Int), .int .i64 ((64 : Nat) : Int)] w (fun u _ => ∃ z N, u = .tuple #[.int .i64 z, .iface 80 N]) := by
  cases e : Go.Lib.parseIntB 64 s.data.toList
  · rename_i v; exact absurd e (h v)
  · obtain ⟨tp, p, hs⟩ := hT.syn
    exact (Tryd.strconv_ParseInt_10_at64_syntax_var s (by omega) e tp p w hs).mono fun e w' ⟨N, h1, h2, h3, h4⟩ => ⟨_, h1, h4, _, _, rfl⟩
  · obtain ⟨tp, p, hs⟩ := hT.rng
    exact (Tryd.strconv_ParseInt_10_at64_range_var s (by omega) e tp p w hs).mono fun e w' ⟨N, h1, h2, h3, h4⟩ => ⟨_, h1, h4, _, _, rfl⟩
theorem fm_ok (v : Int) (w : World) (hT : Tabs Tryd.prog w 0) (h0 : -9223372036854775808 ≤ v) (h1 : v ≤ 9223372036854775807) : CallsR Tryd.prog 23 #[.int .i64 v, .int .i64 ((10 : Nat) : Int)] w (fun r _ => r = .string ⟨(Go.Lib.itoa v).toArray⟩) :=
  (Tryd.strconv_FormatInt_10 v h0 h1 w hT.pow).mono fun e w' ⟨h1, h2⟩ => ⟨_, h1, by
    obtain ⟨k, os, h2⟩ := h2
    rw [h2]; exact (ext_drewN _ _).trans (ext_grow _ _), rfl⟩

theorem readNumber_O (s : ByteArray) (v9 : Int) (w : World) (hz : s.size < 10000000) (hTb : Tabs Tryd.prog w 0) (hv9 : Go.Lib.parseIntB 64 s.data.toList = .ok v9) :
    CallsR Tryd.prog 9 #[.string (s)] w (fun u w' => ∃ z b, u = .tuple #[.int .i64 z, .bool b] ∧ rdQ s z b) := by
  refine calls_fr [.string (s)] Tryd.func9 rfl Tryd.ntmps9 rfl fun a hF => ?_;have hM : Mem w w [] [] := MemX.start w 0;change Fr 20 a [(0, .string (s))] at hF;refine sr <| ag hF rfl rfl fun a hF => ag hF rfl rfl fun a hF => ns <| mv hF rfl rfl fun a hF => stR hF (d_call Tryd.call22 hF (.cons rfl (.cons rfl (.cons rfl .nil))) (pi_ok _ v9 _ (by omega) hv9)) rfl ?_;rintro _ w' a ⟨hx, rfl⟩ hF;have hM := hM.ext hx;refine mv hF rfl rfl fun a hF => st hF (g_extract hF rfl rfl) rfl fun a hF => st hF (g_extract hF rfl rfl) rfl fun a hF => ag hF rfl rfl fun a hF => ag hF rfl rfl fun a hF => nt <| sq <| sr <| mv hF rfl rfl fun a hF => st hF (g_neqNilN Tryd.underlying49 hF rfl) rfl fun a hF => mv hF rfl rfl fun a hF => stY hF rfl rfl rfl (g_move hF rfl) rfl fun a hF => stYR hF rfl rfl rfl (d_call Tryd.call23 hF (.cons rfl (.cons rfl .nil)) (fm_ok (v9) _ (tabs_up hTb (MemX.ext0 hM)) (parse_rng hv9).1 (parse_rng hv9).2)) rfl ?_;rintro _ w' a ⟨hx, rfl⟩ hF;have hM := hM.ext hx;refine stY hF rfl rfl rfl (g_move hF rfl) rfl fun a hF => stY hF rfl rfl rfl (g_neqS hF rfl rfl) rfl fun a hF => st hF (g_pickF hF rfl rfl) rfl fun a hF => nt <| c_cond hF rfl (fun h1 => ?_) (fun h1 => ?_)
  · refine sq ?_
    refine wp_region_lit <| ag hF rfl rfl fun a hF => ag hF rfl rfl fun a hF => nt <| wp_ret <| tR <| fin2 rfl hF.defers (res_tmp hF rfl) (res_tmp hF rfl) ⟨_, rfl, hM.below, ?_⟩
    first | exact ⟨_, _, rfl, rdQ_same hv9 (nns (by assumption))⟩ | exact ⟨_, _, rfl, rdQ_other hv9 (neq_str.1 (by assumption))⟩
  refine wp_skip <| tN <| sr <| mv hF rfl rfl fun a hF => ag hF rfl rfl fun a hF => ag hF rfl rfl fun a hF => nt <| wp_ret <| fin2 rfl hF.defers (res_tmp hF rfl) (res_tmp hF rfl) ⟨_, rfl, hM.below, ?_⟩
  first | exact ⟨_, _, rfl, rdQ_same hv9 (nns (by assumption))⟩ | exact ⟨_, _, rfl, rdQ_other hv9 (neq_str.1 (by assumption))⟩
theorem readNumber_B (s : ByteArray) (w : World) (hz : s.size < 10000000) (hTb : Tabs Tryd.prog w 0) (hv9 : ∀ v, Go.Lib.parseIntB 64 s.data.toList ≠ .ok v) :
    CallsR Tryd.prog 9 #[.string (s)] w (fun u w' => ∃ z b, u = .tuple #[.int .i64 z, .bool b] ∧ rdQ s z b) := by
  refine calls_fr [.string (s)] Tryd.func9 rfl Tryd.ntmps9 rfl fun a hF => ?_;have hM : Mem w w [] [] := MemX.start w 0;change Fr 20 a [(0, .string (s))] at hF;refine sr <| ag hF rfl rfl fun a hF => ag hF rfl rfl fun a hF => ns <| mv hF rfl rfl fun a hF => stR hF (d_call Tryd.call22 hF (.cons rfl (.cons rfl (.cons rfl .nil))) (pi_bad _ _ (by omega) (tabs_up hTb (MemX.ext0 hM)) hv9)) rfl ?_;rintro _ w' a ⟨hx, z9, N9, rfl⟩ hF;have hM := hM.ext hx;refine mv hF rfl rfl fun a hF => st hF (g_extract hF rfl rfl) rfl fun a hF => st hF (g_extract hF rfl rfl) rfl fun a hF => ag hF rfl rfl fun a hF => ag hF rfl rfl fun a hF => nt <| sq <| sr <| mv hF rfl rfl fun a hF => st hF (g_neqNilI Tryd.underlying49 hF rfl) rfl fun a hF => mv hF rfl rfl fun a hF => stS hF rfl rfl rfl rfl rfl fun a hF => stS hF rfl rfl rfl rfl rfl fun a hF => stS hF rfl rfl rfl rfl rfl fun a hF => stS hF rfl rfl rfl rfl rfl fun a hF => st hF (g_pickT hF rfl rfl) rfl fun a hF => nt <| c_T hF rfl <| sr <| ag hF rfl rfl fun a hF => ag hF rfl rfl fun a hF => nt <| wp_ret <| tR <| fin2 rfl hF.defers (res_tmp hF rfl) (res_tmp hF rfl) ⟨_, rfl, hM.below, ?_⟩;exact ⟨_, _, rfl, rdQ_bad hv9⟩
theorem readNumber_ok (s : ByteArray) (w : World) (hz : s.size < 10000000) (hTb : Tabs Tryd.prog w 0) : CallsR Tryd.prog 9 #[.string s] w (fun u w' => ∃ z b, u = .tuple #[.int .i64 z, .bool b] ∧ rdQ s z b) := by
  cases e : Go.Lib.parseIntB 64 s.data.toList
  · rename_i v; exact readNumber_O s v w hz hTb e
  · exact readNumber_B s w hz hTb (by intro v q; rw [e] at q; cases q)
  · exact readNumber_B s w hz hTb (by intro v q; rw [e] at q; cases q)
end Go.Proofs.YtmgdigbkocligaaDoor

namespace Go.Proofs.YtmgdigbkocligaaDoor
open Go Go.RowKit Go.Sw Go.Ech
open Classical
theorem ty_bs0_34 : ∀ w, (Instr.buildSlice 34 0 #[]).run Tryd.prog w = .ok (.slice (some ⟨w.heap.size, 0, none⟩) 0 0) (w.alloc (.cells #[] 9)) := by intros; kernel_rfl
theorem ty_bst_34 : ∀ (t : ByteArray) (w : World), (Instr.buildSlice 34 1 #[(0, .string t)]).run Tryd.prog w = .ok (.slice (some ⟨w.heap.size, 0, none⟩) 1 1) (w.alloc (.cells #[.string t] 9)) := by intros; kernel_rfl
theorem ty_si_34 : slI Tryd.prog 34 = some (9, some (.string ByteArray.empty), 1, 16) := by kernel_rfl
theorem segF_snoc0 {s : ByteArray} {c b : Nat} {u : Value} {e : Option (Nat × Array Value)} (hB : b = s.size ∨ (b < s.size ∧ byt s b = c)) (h : Sl 1 u e (cnt s c b + 1) (fun i => if i < cnt s c b * 1 then segF s c i else (fun _ => Value.string (s.extract (sta s c b) b)) (i - cnt s c b * 1))) : Sl 1 u e (cnt s c b + 1) (segF s c) :=
  h.congr fun i hi => by
    by_cases hlt : i < cnt s c b
    · rw [if_pos (by omega)]
    · rw [if_neg (by omega), show i = cnt s c b by omega]
      unfold segF; rw [seg_b hB]
theorem segF_snoc {s : ByteArray} {c b st k : Nat} {u : Value} {e : Option (Nat × Array Value)} (hB : b = s.size ∨ (b < s.size ∧ byt s b = c)) (h1 : st = sta s c b) (h2 : k = cnt s c b) (h : Sl 1 u e (k + 1) (fun i => if i < k * 1 then segF s c i else (fun _ => Value.string (s.extract st b)) (i - k * 1))) : Sl 1 u e (k + 1) (segF s c) := by
  subst h1; subst h2; exact segF_snoc0 hB h
theorem l01Split_ok (s : ByteArray) (c : Nat) (w : World) (hz : s.size < 10000000) (hc : c < 256) :
    CallsR Tryd.prog 15 #[.string (s), .int .u8 (c : Int)] w (fun u w' => OwnSl 1 w (nSg s c) (segF s c) u w') := by
  refine calls_fr [.string (s), .int .u8 (c : Int)] Tryd.func15 rfl Tryd.ntmps15 rfl fun a hF => ?_;have hM : Mem w w [none, none, none] [] := MemX.start w 3;change Fr 35 a [(0, .string (s)), (1, .int .u8 (c : Int))] at hF;have hc9 := cnt_le (s := s) (c := c) s.size;have hs9 := sta_le (s := s) (c := c) s.size;refine sr <| ag hF rfl rfl fun a hF => ns <| stR hF (d_buildC 0 hM hF rfl ty_bs0_34) rfl ?_;rintro _ w' a ⟨b1, rfl, hM, -⟩ hF;refine ag hF rfl rfl fun a hF => ns <| ag hF rfl rfl fun a hF => nt <| sq <| sr <| ag hF rfl rfl fun a hF => nt <| wp_block ?_;change Mem w _ [some (b1, #[]), none, none] [] at hM;refine c_loop (fun (kk : Nat) a w' => kk ≤ s.size ∧ ∃ (st_ : Nat), ∃ (k_ : Nat), (st_ = sta s c kk ∧ k_ = cnt s c kk) ∧ ∃ (u5_1 : Value) (e5_1 : Option (Nat × Array Value)), Sl 1 u5_1 e5_1 (k_) (segF s c) ∧ Fr 35 a [(0, .string (s)), (1, .int .u8 (c : Int)), (4, .slice none 0 0), (7, .int .i64 (kk : Int)), (6, .int .i64 (st_ : Int)), (5, u5_1)] ∧ Mem w w' [e5_1, none, none] []) (fun kk => s.size - kk) 0 ?_ ?_
  · refine ⟨by omega, 0, 0, ⟨rfl, rfl⟩, (.slice (some ⟨b1, 0, none⟩) 0 0), (some (b1, #[])), (Sl.empty 1 _ _), hF.sub _ (by repeat' constructor), ?_⟩
    exact hM
  clear hF hM;rintro gi a w' ⟨hgi, st_, k_, ⟨hst, hk1⟩, u5_1, e5_1, hsl, hF, hM⟩;have hs1 := sta_le (s := s) (c := c) gi;have hc1 := cnt_le (s := s) (c := c) gi;refine sq <| sr <| mv hF rfl rfl fun a hF => mv hF rfl rfl fun a hF => st hF (g_lenS ty_ut_9 hF rfl) rfl fun a hF => st hF (g_lss hF rfl rfl) rfl fun a hF => nt <| c_cond hF rfl (fun h2 => ?_) (fun h2 => ?_)
  · refine wp_skip ?_
    refine tN <| sq <| wp_block <| sr <| mv hF rfl rfl fun a hF => mv hF rfl rfl fun a hF => st hF (g_indexS (i := gi) ty_ut_9 hF rfl rfl rfl (by omega)) rfl fun a hF => mv hF rfl rfl fun a hF => st hF (g_eql hF rfl rfl) rfl fun a hF => nt <| c_cond hF rfl (fun h3 => ?_) (fun h3 => ?_)
    · have hyb : byt s gi = c := by omega
      have hbb : gi = s.size ∨ (gi < s.size ∧ byt s gi = c) := .inr ⟨by omega, hyb⟩;refine sr <| mv hF rfl rfl fun a hF => mv hF rfl rfl fun a hF => mv hF rfl rfl fun a hF => mv hF rfl rfl fun a hF => st hF (g_sliceS (i := st_) (j := gi) ty_ut_9 hF rfl rfl rfl rfl rfl (by omega) (by omega)) rfl fun a hF => stR hF (d_buildC 1 hM hF (build1 hF rfl) (ty_bst_34 _)) rfl ?_;rintro _ w' a ⟨b4, rfl, hM, -⟩ hF;change Mem w w' [e5_1, some (b4, #[.string ((s.extract (st_) (gi)))]), none] [] at hM;refine stR hF (d_append (k := 0) (N := k_) (m := 1) (f := segF s c) (g := fun _ => .string ((s.extract (st_) (gi)))) ty_si_34 rfl (by decide) hM rfl hF rfl rfl hsl (fun i hi => by rw [show i = 0 by omega]; exact (hM.row 1 rfl).cell 0) (fun _ _ => rfl) (by decide) (by unfold maxLen; omega) (by omega)) rfl ?_;rintro u5 w' a ⟨e6, hM, hsl5⟩ hF;have hsl5 := segF_snoc hbb hst hk1 hsl5;change Mem w w' [e6, some (b4, #[.string ((s.extract (st_) (gi)))]), none] [] at hM;refine ag hF rfl rfl fun a hF => nt <| wp_region_lit <| mv hF rfl rfl fun a hF => st hF (g_add hF rfl rfl (add_nat (gi) (1) (by omega))) rfl fun a hF => ag hF rfl rfl fun a hF => wpList_nil <| iN <| tN <| wp_region_lit <| mv hF rfl rfl fun a hF => st hF (g_add hF rfl rfl (add_nat (gi) (1) (by omega))) rfl fun a hF => ag hF rfl rfl fun a hF => wpList_nil <| tN ?_;have hM := hM.drop 1;refine ⟨gi + 1, ⟨by omega, gi + 1, k_ + 1, ⟨(sta_yes hyb).symm, by rw [cnt_yes hyb, hk1]⟩, (u5), (e6), hsl5, hF.sub _ (by repeat' constructor), ?_⟩, by omega⟩;exact hM
    have hnb : ¬ byt s gi = c := by omega
    refine wp_skip <| iN <| tN <| wp_region_lit <| mv hF rfl rfl fun a hF => st hF (g_add hF rfl rfl (add_nat (gi) (1) (by omega))) rfl fun a hF => ag hF rfl rfl fun a hF => nt <| ⟨gi + 1, ⟨by omega, st_, k_, ⟨by rw [sta_no hnb]; exact hst, by rw [cnt_no hnb]; exact hk1⟩, (u5_1), (e5_1), hsl, hF.sub _ (by repeat' constructor), ?_⟩, by omega⟩;exact hM
  obtain rfl : s.size = gi := by omega
  have hbb : s.size = s.size ∨ (s.size < s.size ∧ byt s s.size = c) := .inl rfl;refine wp_exit <| tX <| tX <| ib_same <| tN <| sr <| mv hF rfl rfl fun a hF => mv hF rfl rfl fun a hF => mv hF rfl rfl fun a hF => st hF (g_sliceSLo (i := st_) ty_ut_9 hF rfl rfl rfl (by omega)) rfl fun a hF => stR hF (d_buildC 2 hM hF (build1 hF rfl) (ty_bst_34 _)) rfl ?_;rintro _ w' a ⟨b7, rfl, hM, -⟩ hF;change Mem w w' [e5_1, none, some (b7, #[.string ((s.extract (st_) s.size))])] [] at hM;refine stR hF (d_append (k := 0) (N := k_) (m := 1) (f := segF s c) (g := fun _ => .string ((s.extract (st_) s.size))) ty_si_34 rfl (by decide) hM rfl hF rfl rfl hsl (fun i hi => by rw [show i = 0 by omega]; exact (hM.row 2 rfl).cell 0) (fun _ _ => rfl) (by decide) (by unfold maxLen; omega) (by omega)) rfl ?_;rintro u8 w' a ⟨e9, hM, hsl5⟩ hF;have hsl5 := segF_snoc hbb hst hk1 hsl5;change Mem w w' [e9, none, some (b7, #[.string ((s.extract (st_) s.size))])] [] at hM;refine ag hF rfl rfl fun a hF => nt <| wp_ret <| fin1 rfl hF.defers (res_tmp hF rfl) ⟨_, rfl, hM.below, ?_⟩;rw [show nSg s c = k_ + 1 by unfold nSg; rw [hk1]];exact OwnSl.pos hM (k := 0) rfl hsl5 (by omega)
end Go.Proofs.YtmgdigbkocligaaDoor

namespace Go.Proofs.YtmgdigbkocligaaDoor
open Go Go.RowKit Go.Sw Go.Ech
open Classical
theorem split58 (s : ByteArray) (w : World) (hz : s.size < 10000000) (hT : Tabs Tryd.prog w 0) : CallsR Tryd.prog 8 #[.string s, .string (⟨#[58]⟩ : ByteArray)] w (OwnSl 1 w (nSg s 58) (segF s 58)) := by
  obtain ⟨m, hm⟩ := hT.m;exact (Tryd.strings_Split s ⟨#[58]⟩ m w (by omega) hm (by decide)).mono fun e w' ⟨h1, h2⟩ => by
    have h := ownSl_split (c := 58) hz rfl h2;exact ⟨_, h1, h.1, h.2⟩
theorem split44 (s : ByteArray) (w : World) (hz : s.size < 10000000) (hT : Tabs Tryd.prog w 0) : CallsR Tryd.prog 8 #[.string s, .string (⟨#[44]⟩ : ByteArray)] w (OwnSl 1 w (nSg s 44) (segF s 44)) := by
  obtain ⟨m, hm⟩ := hT.m;exact (Tryd.strings_Split s ⟨#[44]⟩ m w (by omega) hm (by decide)).mono fun e w' ⟨h1, h2⟩ => by
    have h := ownSl_split (c := 44) hz rfl h2;exact ⟨_, h1, h.1, h.2⟩
instance {p n : Nat} {s : ByteArray} : Decidable (rdP p n s) := by unfold rdP; infer_instance
def tvF (p n : Nat) (s : ByteArray) (c : Nat) : Nat := if rdP p n s then rdV n s c else 0
theorem tvF_le {p n : Nat} {s : ByteArray} : ∀ c, tvF p n s c ≤ 255 := fun c => by
  unfold tvF; split
  · exact rdV_le c
  · omega
theorem tvF_yes {p n : Nat} {s : ByteArray} (h : rdP p n s) (c : Nat) : tvF p n s c = rdV n s c := if_pos h

theorem readVector_any (p n : Nat) (T : Nat → Nat → Nat → Nat) (f : Nat → Nat) (s : ByteArray) (w : World) (hp0 : 0 < p) (hp13 : p ≤ 13) (hn0 : 0 < n) (hn : n ≤ 6) (hz : s.size < 10000000) : CallsV Tryd.prog 11 #[.agg (algC (p : Int) (n : Int) T f), .string s] w (.tuple #[.agg (vecC (tvF p n s)), .bool (decide (rdP p n s))]) := by
  by_cases h : rdP p n s
  · exact CallsR.val (readVector_Y p n T f s w hp0 hp13 hn0 hn hz h) (by rw [decide_eq_true h, show tvF p n s = rdV n s from funext (tvF_yes h)])
  · exact CallsR.val (readVector_N p n T f s w hp0 hp13 hn0 hn hz h) (by rw [decide_eq_false h, show tvF p n s = (fun _ => 0) from funext fun c => if_neg h])
theorem l01ReadVector_any (p n : Nat) (T : Nat → Nat → Nat → Nat) (f : Nat → Nat) (s : ByteArray) (w : World) (hp0 : 0 < p) (hp13 : p ≤ 13) (hn0 : 0 < n) (hn : n ≤ 6) (hz : s.size < 10000000) : CallsV Tryd.prog 19 #[.agg (algC (p : Int) (n : Int) T f), .string s] w (.tuple #[.agg (vecC (tvF p n s)), .bool (decide (rdP p n s))]) := by
  by_cases h : rdP p n s
  · exact CallsR.val (l01ReadVector_Y p n T f s w hp0 hp13 hn0 hn hz h) (by rw [decide_eq_true h, show tvF p n s = rdV n s from funext (tvF_yes h)])
  · exact CallsR.val (l01ReadVector_N p n T f s w hp0 hp13 hn0 hn hz h) (by rw [decide_eq_false h, show tvF p n s = (fun _ => 0) from funext fun c => if_neg h])
end Go.Proofs.YtmgdigbkocligaaDoor

namespace Go.Proofs.YtmgdigbkocligaaDoor
open Go Go.RowKit Go.Sw Go.Ech
open Classical
theorem l01Number_ok (s : ByteArray) (w : World) (hz : s.size < 10000000) : CallsV Tryd.prog 16 #[.string s] w (.int .i64 (vN s)) := by
  by_cases h : nrP s
  · exact CallsR.val (l01Number_Y s w h hz) (by rw [vN_yes h])
  · exact CallsR.val (l01Number_N s w h hz) (by rw [vN_no h])
def tbl (p n : Nat) (t : ByteArray) (g i j c : Nat) : Nat := if i * n + j < g ∧ i < n ∧ j < n then tvF p n (seg t 44 (i * n + j)) c else 0
theorem tbl_le {p n : Nat} {t : ByteArray} {g i j c : Nat} : tbl p n t g i j c ≤ 255 := by
  unfold tbl; split
  · exact tvF_le c
  · omega
theorem tbl_0 {p n : Nat} {t : ByteArray} {i j c : Nat} : tbl p n t 0 i j c = 0 := by unfold tbl; rw [if_neg (by omega)]
theorem dm_at {n g i j : Nat} (hj : j < n) : i * n + j = g ↔ i = g / n ∧ j = g % n := by
  constructor
  · intro h
    subst h;rw [show (i * n + j) / n = i by rw [Nat.mul_comm, Nat.mul_add_div (by omega), Nat.div_eq_of_lt hj]; rfl, show (i * n + j) % n = j by rw [Nat.mul_comm, Nat.mul_add_mod]; exact Nat.mod_eq_of_lt hj];exact ⟨rfl, rfl⟩
  · rintro ⟨rfl, rfl⟩; rw [Nat.mul_comm]; exact Nat.div_add_mod g n
theorem tbl_put {p n g : Nat} {t : ByteArray} {i j c : Nat} (hn : 0 < n) (hg : g < n * n) : (if i = g / n ∧ j = g % n then tvF p n (seg t 44 g) c else tbl p n t g i j c) = tbl p n t (g + 1) i j c := by
  have hq : g / n < n := Nat.div_lt_of_lt_mul hg;have hr : g % n < n := Nat.mod_lt _ hn
  by_cases e : i = g / n ∧ j = g % n
  · have hs := (dm_at (g := g) (by omega : j < n)).2 e
    rw [if_pos e]; unfold tbl;rw [if_pos ⟨by omega, by omega, by omega⟩, hs]
  · rw [if_neg e]; unfold tbl
    by_cases hj : j < n
    · have hs : ¬ i * n + j = g := fun q => e ((dm_at hj).1 q)
      have e2 : (i * n + j < g ∧ i < n ∧ j < n) = (i * n + j < g + 1 ∧ i < n ∧ j < n) := by apply propext; omega
      simp only [e2]
    · rw [if_neg (fun q => hj q.2.2), if_neg (fun q => hj q.2.2)]
theorem dm_lt {n g : Nat} (hn0 : 0 < n) (hn : n ≤ 6) (hg : g < n * n) : g / n < 6 ∧ g % n < 6 := by
  have hq : g / n < n := Nat.div_lt_of_lt_mul hg;have hr : g % n < n := Nat.mod_lt _ hn0
  omega
theorem sq_le {n : Nat} (hn : n ≤ 6) : n * n ≤ 36 := Nat.mul_le_mul hn hn

end Go.Proofs.YtmgdigbkocligaaDoor
