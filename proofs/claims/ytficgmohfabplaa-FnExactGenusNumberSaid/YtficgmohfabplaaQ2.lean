/- What functions of the program return, as walks over their operations; no statement of the seat is proved here. -/
import Derived.Test.YtficgmohfabplaaQ1
set_option linter.unusedVariables false
set_option linter.unusedSimpArgs false
namespace Go.Proofs.Ytficgmohfabplaa
open Go Go.RowKit Go.Sw Go.Ech
open Classical
theorem l01CodeL_ok (p n : Int) (T : Nat → Nat → Nat → Nat) (f : Nat → Nat) (b c m : Nat) (V : Nat → Nat → Nat) (w : World) (hT : ∀ i j k, T i j k ≤ 255) (hf : ∀ i, f i ≤ 255) (hV : ∀ i c, V i c ≤ 255) (hm : m < 2000000) (hb : Blk w b (vecsC m V)) :
    CallsR Try.prog 30 #[.agg (algC p n T f), .slice (some ⟨b, 0, none⟩) (m) (c)] w (fun res _ => res = .int .i64 (if CodeP p n T f m V then 0 else 1)) := by
  refine calls_fr [.agg (algC p n T f), .slice (some ⟨b, 0, none⟩) (m) (c)] Try.func30 rfl Try.ntmps30 rfl fun a hF => ?_
  have hM : Mem w w [none] [(b, vecsC m V)] := MemX.startD w 1 _ (startD1 hb)
  change Fr 22 a [(0, .agg (algC p n T f)), (1, .slice (some ⟨b, 0, none⟩) (m) (c))] at hF
  refine sq ?_
  refine wp_region_lit ?_
  refine stR hF (d_box 0 hM hF rfl) rfl ?_
  rintro _ w' a ⟨b1, rfl, hM, -⟩ hF
  change Mem w w' [some (b1, algC p n T f)] [(b, vecsC m V)] at hM
  refine st hF (g_assign hF rfl) rfl fun a hF => ?_
  refine wpList_nil ?_
  refine tN ?_
  refine sq ?_
  refine sq ?_
  refine wp_region_lit ?_
  refine st hF (g_loadAgg ty_ag_31 hF rfl (hM.row 0 rfl) (by simp only [fnC_size, cells_size, vecC_size, tabC_size, planeC_size] <;> omega) (whole cells_size)) rfl fun a hF => ?_
  refine stR hF (d_call Try.call47 hF (.cons rfl .nil) (l01Algebra_ok p n T f _ (fun _ _ _ => hT _ _ _) (fun _ => hf _))) rfl ?_
  rintro _ w' a ⟨hx, rfl⟩ hF
  have hM := hM.ext hx
  refine st hF (g_notP hF rfl) rfl fun a hF => ?_
  refine wpList_nil ?_
  refine tN ?_
  refine c_cond hF rfl (fun h2 => ?_) (fun h2 => ?_)
  ·
    refine sq ?_
    refine wp_region_lit ?_
    refine st hF (g_assign hF rfl) rfl fun a hF => ?_
    refine wpList_nil ?_
    refine tN ?_
    refine wp_ret ?_
    refine tR ?_
    refine fin1 rfl hF.defers (res_tmp hF rfl) ⟨_, rfl, hM.below, ?_⟩
    show _ = _
    rw [if_neg (fun hq => (by assumption : ¬ AlgP _ _ _ _) hq.1)]
  ·
    refine wp_skip ?_
    refine tN ?_
    refine sq ?_
    refine sq ?_
    refine wp_region_lit ?_
    refine st hF (g_assign hF rfl) rfl fun a hF => ?_
    refine wpList_nil ?_
    refine tN ?_
    refine wp_block ?_
    change Mem w _ [some (b1, algC p n T f)] [(b, vecsC m V)] at hM
    refine c_loop (fun (kk : Nat) a w' => kk ≤ m ∧ (∀ i, i < kk → okV p n (V i)) ∧ Fr 22 a [(0, .agg (algC p n T f)), (1, .slice (some ⟨b, 0, none⟩) (m) (c)), (2, ptr b1 (0)), (6, .agg (algC p n T f)), (7, .bool (decide (AlgP p n T f))), (8, .bool (decide (¬ (AlgP p n T f)))), (5, .int .i64 (((kk : Nat) : Int)))] ∧ Mem w w' [some (b1, algC p n T f)] [(b, vecsC m V)]) (fun kk => m - kk) 0 ?_ ?_
    ·
      refine ⟨by omega, fun i hi => absurd hi (by omega), hF.sub _ (by repeat' constructor), ?_⟩
      exact hM
    ·
      clear hF hM
      rintro gi a w' ⟨hgi, hinv1, hF, hM⟩
      have hv : ∀ c, V gi c ≤ 255 := hV gi
      refine sq ?_
      refine sq ?_
      refine wp_region_lit ?_
      refine st hF (g_move hF rfl) rfl fun a hF => st hF (g_move hF rfl) rfl fun a hF => st hF (g_len ty_us_46 hF rfl) rfl fun a hF => st hF (g_lss hF rfl rfl) rfl fun a hF => ?_
      refine wpList_nil ?_
      refine tN ?_
      refine c_cond hF rfl (fun h3 => ?_) (fun h3 => ?_)
      ·
        refine wp_skip ?_
        refine tN ?_
        refine sq ?_
        refine wp_block ?_
        refine sq ?_
        refine c_par 5 [] [.val (.agg (algC p n T f)), .val (.slice (some ⟨b, 0, none⟩) (m) (c)), .val (.int .i64 (((gi : Nat) : Int))), .val (ptr b (0 + (gi) * 6)), .val (.agg (vecC (V (gi))))] hmix rfl hF rfl hM ⟨fun a w gG hF hS hd => by have hM := hS.mem rfl; exact par_val hS rfl (g_loadAgg ty_ag_31 hF rfl (hM.row 0 rfl) (by simp only [fnC_size, cells_size, vecC_size, tabC_size, planeC_size] <;> omega) (whole cells_size)), fun a w gG hF hS hd => by exact par_val hS rfl (g_move hF rfl), fun a w gG hF hS hd => by exact par_val hS rfl (g_move hF rfl), fun a w gG hF hS hd => by have hF := hF.ext1 16 (hd 1 rfl rfl); have hF := hF.ext1 17 (hd 2 rfl rfl); exact par_val hS rfl (g_indexSl (i := gi) ty_sl_46 hF rfl rfl rfl (by omega)), fun a w gG hF hS hd => by have hF := hF.ext1 18 (hd 3 rfl rfl); have hM := hS.mem rfl; exact par_val hS rfl (g_loadAgg ty_ag_27 hF rfl (hM.fz 0 rfl) (by rw [vecsC_size]; omega) (vecsC_row (gi) (by omega) (by omega) (by omega))), trivial⟩ ?_
        intro a w' L hF hS hq
        have hF := hF.ext1 15 (hq 0 rfl rfl)
        have hF := hF.ext1 16 (hq 1 rfl rfl)
        have hF := hF.ext1 17 (hq 2 rfl rfl)
        have hF := hF.ext1 18 (hq 3 rfl rfl)
        have hF := hF.ext1 19 (hq 4 rfl rfl)
        have hM := hS.mem rfl
        change wpList Try.prog _ _ [_, _] _ _
        refine stR hF (d_call Try.call48 hF (.cons rfl (.cons rfl .nil)) (l01Vector_ok p n T f (V (gi)) _ (fun _ => by first | exact hv _ | exact hu _ | exact hT _ _ _ | exact hf _ | omega | (split <;> omega) | (dsimp only; split <;> omega) | assumption))) rfl ?_
        rintro _ w' a ⟨hx, rfl⟩ hF
        have hM := hM.ext hx
        refine st hF (g_notP hF rfl) rfl fun a hF => ?_
        refine wpList_nil ?_
        refine tN ?_
        refine c_cond hF rfl (fun h4 => ?_) (fun h4 => ?_)
        ·
          refine sq ?_
          refine wp_region_lit ?_
          refine st hF (g_assign hF rfl) rfl fun a hF => ?_
          refine wpList_nil ?_
          refine tN ?_
          refine wp_ret ?_
          refine iR ?_
          refine tR ?_
          refine tR ?_
          refine iR ?_
          refine tR ?_
          refine fin1 rfl hF.defers (res_tmp hF rfl) ⟨_, rfl, hM.below, ?_⟩
          show _ = _
          rw [if_neg (fun hq => (by assumption : ¬ okV _ _ _) (hq.2 gi (by omega)))]
        ·
          refine wp_skip ?_
          refine iN ?_
          refine tN ?_
          refine wp_region_lit ?_
          refine st hF (g_move hF rfl) rfl fun a hF => st hF (g_add hF rfl rfl (add_nat (gi) (1) (by omega))) rfl fun a hF => st hF (g_assign hF rfl) rfl fun a hF => ?_
          refine wpList_nil ?_
          refine tN ?_
          refine ⟨gi + 1, ⟨by omega, allS hinv1 (Decidable.not_not.1 (by assumption)), hF.sub _ (by repeat' constructor), ?_⟩, by omega⟩
          exact hM
      ·
        obtain rfl : m = gi := by omega
        refine wp_exit ?_
        refine tX ?_
        refine tX ?_
        refine ib_same ?_
        refine tN ?_
        refine sq ?_
        refine wp_region_lit ?_
        refine st hF (g_assign hF rfl) rfl fun a hF => ?_
        refine wpList_nil ?_
        refine tN ?_
        refine wp_ret ?_
        refine fin1 rfl hF.defers (res_tmp hF rfl) ⟨_, rfl, hM.below, ?_⟩
        show _ = _
        rw [if_pos ⟨Decidable.not_not.1 (by assumption), hinv1⟩]

theorem areVectorsL_ok (p n : Int) (T : Nat → Nat → Nat → Nat) (f : Nat → Nat) (b c m : Nat) (V : Nat → Nat → Nat) (w : World) (hT : ∀ i j k, T i j k ≤ 255) (hf : ∀ i, f i ≤ 255) (hV : ∀ i c, V i c ≤ 255) (hm : m < 2000000) (hb : Blk w b (vecsC m V)) :
    CallsR Try.prog 35 #[.agg (algC p n T f), .slice (some ⟨b, 0, none⟩) (m) (c)] w (fun res _ => res = .bool (decide (CodeP p n T f m V))) := by
  refine calls_fr [.agg (algC p n T f), .slice (some ⟨b, 0, none⟩) (m) (c)] Try.func35 rfl Try.ntmps35 rfl fun a hF => ?_
  have hM : Mem w w [none, none] [(b, vecsC m V)] := MemX.startD w 2 _ (startD1 hb)
  change Fr 20 a [(0, .agg (algC p n T f)), (1, .slice (some ⟨b, 0, none⟩) (m) (c))] at hF
  refine sq ?_
  refine wp_region_lit ?_
  refine stR hF (d_box 0 hM hF rfl) rfl ?_
  rintro _ w' a ⟨b1, rfl, hM, -⟩ hF
  change Mem w w' [some (b1, algC p n T f), none] [(b, vecsC m V)] at hM
  refine st hF (g_assign hF rfl) rfl fun a hF => ?_
  refine wpList_nil ?_
  refine tN ?_
  refine sq ?_
  refine sq ?_
  refine wp_region_lit ?_
  refine st hF (g_move hF rfl) rfl fun a hF => st hF (g_len ty_us_46 hF rfl) rfl fun a hF => st hF (g_move hF rfl) rfl fun a hF => ?_
  refine wpList_nil ?_
  refine tN ?_
  refine wp_block ?_
  change Mem w _ [some (b1, algC p n T f), none] [(b, vecsC m V)] at hM
  refine c_loop (fun (kk : Nat) a w' => kk ≤ m ∧ (∀ i, i < kk → okV p n (V i)) ∧ Fr 20 a [(0, .agg (algC p n T f)), (1, .slice (some ⟨b, 0, none⟩) (m) (c)), (2, ptr b1 (0)), (7, .slice (some ⟨b, 0, none⟩) (m) (c)), (8, .int .i64 (((m : Nat) : Int))), (9, .int .i64 (((kk : Nat) : Int)))] ∧ Mem w w' [some (b1, algC p n T f), none] [(b, vecsC m V)]) (fun kk => m - kk) 0 ?_ ?_
  ·
    refine ⟨by omega, fun i hi => absurd hi (by omega), hF.sub _ (by repeat' constructor), ?_⟩
    exact hM
  ·
    clear hF hM
    rintro gi a w' ⟨hgi, hinv1, hF, hM⟩
    have hv : ∀ c, V gi c ≤ 255 := hV gi
    refine sq ?_
    refine wp_region_lit ?_
    refine st hF (g_lss hF rfl rfl) rfl fun a hF => ?_
    refine wpList_nil ?_
    refine tN ?_
    refine sq ?_
    refine c_cond hF rfl (fun h2 => ?_) (fun h2 => ?_)
    ·
      refine wp_skip ?_
      refine tN ?_
      refine sq ?_
      refine wp_block ?_
      refine sq ?_
      refine wp_region_lit ?_
      refine st hF (g_indexSl (i := gi) ty_sl_46 hF rfl rfl rfl (by omega)) rfl fun a hF => st hF (g_loadAgg ty_ag_27 hF rfl (hM.fz 0 rfl) (by rw [vecsC_size]; omega) (vecsC_row (gi) (by omega) (by omega) (by omega))) rfl fun a hF => ?_
      refine stR hF (d_alloc 1 hM ty_ze_27) rfl ?_
      rintro _ w' a ⟨b3, rfl, hM, -⟩ hF
      change Mem w w' [some (b1, algC p n T f), some (b3, fnC 6 (fun _ => .int .u8 (0)))] [(b, vecsC m V)] at hM
      refine stN hF (d_storeAgg 1 hM rfl ty_sz_27 hF rfl rfl (by first | exact vecC_one | exact cells_one | (refine fnC_one fun _ _ => ?_; first | rfl | (split <;> rfl))) (by simp only [fnC_size, cells_size, vecC_size, tabC_size, planeC_size]) (by simp only [fnC_size, cells_size, vecC_size, tabC_size, planeC_size] <;> omega) (splice_whole _ _ (by simp only [fnC_size, cells_size, vecC_size, tabC_size, planeC_size]))) ?_
      intro _ w' a hM hF
      change Mem w w' [some (b1, algC p n T f), some (b3, vecC (V (gi)))] [(b, vecsC m V)] at hM
      refine wpList_nil ?_
      refine tN ?_
      refine sq ?_
      refine wp_region_lit ?_
      refine st hF (g_loadAgg ty_ag_31 hF rfl (hM.row 0 rfl) (by simp only [fnC_size, cells_size, vecC_size, tabC_size, planeC_size] <;> omega) (whole cells_size)) rfl fun a hF => st hF (g_loadAgg ty_ag_27 hF rfl (hM.row 1 rfl) (by simp only [fnC_size, cells_size, vecC_size, tabC_size, planeC_size] <;> omega) (whole (by simp only [fnC_size, cells_size, vecC_size, tabC_size, planeC_size]))) rfl fun a hF => ?_
      refine stR hF (d_call Try.call51 hF (.cons rfl (.cons rfl .nil)) (isVector_ok p n T f ((V (gi))) _ (fun _ => by first | exact hv _ | exact hu _ | exact hT _ _ _ | exact hf _ | omega | (split <;> omega) | (dsimp only; split <;> omega) | assumption))) rfl ?_
      rintro _ w' a ⟨hx, rfl⟩ hF
      have hM := hM.ext hx
      refine st hF (g_notP hF rfl) rfl fun a hF => ?_
      refine wpList_nil ?_
      refine tN ?_
      refine c_cond hF rfl (fun h4 => ?_) (fun h4 => ?_)
      ·
        refine sq ?_
        refine wp_region_lit ?_
        refine st hF (g_assign hF rfl) rfl fun a hF => ?_
        refine wpList_nil ?_
        refine tN ?_
        refine wp_ret ?_
        refine iR ?_
        refine tR ?_
        refine tR ?_
        refine iR ?_
        refine tR ?_
        refine fin1 rfl hF.defers (res_tmp hF rfl) ⟨_, rfl, hM.below, ?_⟩
        show _ = _
        exact bool_f (fun hq => (by assumption : ¬ okV _ _ _) (hq.2 gi (by omega)))
      ·
        refine wp_skip ?_
        refine iN ?_
        refine tN ?_
        refine wp_region_lit ?_
        refine st hF (g_add hF rfl rfl (add_nat (gi) (1) (by omega))) rfl fun a hF => st hF (g_move hF rfl) rfl fun a hF => ?_
        refine wpList_nil ?_
        refine tN ?_
        have hM := hM.drop 1
        refine ⟨gi + 1, ⟨by omega, allS hinv1 (Decidable.not_not.1 (by assumption)), hF.sub _ (by repeat' constructor), ?_⟩, by omega⟩
        exact hM
    ·
      obtain rfl : m = gi := by omega
      refine wp_exit ?_
      refine tX ?_
      refine tX ?_
      refine ib_same ?_
      refine tN ?_
      refine sq ?_
      refine wp_region_lit ?_
      refine st hF (g_loadAgg ty_ag_31 hF rfl (hM.row 0 rfl) (by simp only [fnC_size, cells_size, vecC_size, tabC_size, planeC_size] <;> omega) (whole cells_size)) rfl fun a hF => ?_
      refine stR hF (d_call Try.call52 hF (.cons rfl .nil) (IsAlgebraI_ok p n T f _ (fun _ _ _ => hT _ _ _) (fun _ => hf _))) rfl ?_
      rintro _ w' a ⟨hx, rfl⟩ hF
      have hM := hM.ext hx
      refine st hF (g_assign hF rfl) rfl fun a hF => ?_
      refine wpList_nil ?_
      refine tN ?_
      refine wp_ret ?_
      refine fin1 rfl hF.defers (res_tmp hF rfl) ⟨_, rfl, hM.below, ?_⟩
      show _ = _
      exact congrArg Value.bool (decide_eq_decide.2 ⟨fun h => ⟨h, hinv1⟩, fun h => h.1⟩)

theorem l02Number_A (p n : Int) (T : Nat → Nat → Nat → Nat) (f : Nat → Nat) (b c m : Nat) (V : Nat → Nat → Nat) (x : Int) (w : World) (hT : ∀ i j k, T i j k ≤ 255) (hf : ∀ i, f i ≤ 255) (hV : ∀ i c, V i c ≤ 255) (hm : m < 2000000) (hb : Blk w b (vecsC m V)) (hc : ¬ CodeP p n T f m V) :
    CallsR Try.prog 39 #[.agg (algC p n T f), .int .i64 (x), .slice (some ⟨b, 0, none⟩) (m) (c)] w (fun res _ => res = .tuple #[.int .i64 0, .int .i64 1]) := by
  refine calls_fr [.agg (algC p n T f), .int .i64 (x), .slice (some ⟨b, 0, none⟩) (m) (c)] Try.func39 rfl Try.ntmps39 rfl fun a hF => ?_
  have hM : Mem w w [none, none] [(b, vecsC m V)] := MemX.startD w 2 _ (startD1 hb)
  change Fr 52 a [(0, .agg (algC p n T f)), (1, .int .i64 (x)), (2, .slice (some ⟨b, 0, none⟩) (m) (c))] at hF
  refine sq ?_
  refine wp_region_lit ?_
  refine stR hF (d_box 0 hM hF rfl) rfl ?_
  rintro _ w' a ⟨b1, rfl, hM, -⟩ hF
  change Mem w w' [some (b1, algC p n T f), none] [(b, vecsC m V)] at hM
  refine st hF (g_assign hF rfl) rfl fun a hF => st hF (g_assign hF rfl) rfl fun a hF => ?_
  refine wpList_nil ?_
  refine tN ?_
  refine sq ?_
  refine wp_block ?_
  refine sq ?_
  refine wp_region_lit ?_
  refine st hF (g_loadAgg ty_ag_31 hF rfl (hM.row 0 rfl) (by simp only [fnC_size, cells_size, vecC_size, tabC_size, planeC_size] <;> omega) (whole cells_size)) rfl fun a hF => st hF (g_move hF rfl) rfl fun a hF => ?_
  refine stR hF (d_call Try.call30 hF (.cons rfl (.cons rfl .nil)) ((CallsR.val (l01CodeL_ok p n T f b c m V _ (fun _ _ _ => hT _ _ _) (fun _ => hf _) hV hm (hM.fz 0 rfl)) (congrArg (Value.int .i64) (if_neg hc))))) rfl ?_
  rintro _ w' a ⟨hx, rfl⟩ hF
  have hM := hM.ext hx
  refine st hF (g_neq hF rfl rfl) rfl fun a hF => st hF (g_assign hF rfl) rfl fun a hF => ?_
  refine wpList_nil ?_
  refine tN ?_
  refine c_kT hF rfl (by decide) ?_
  refine sq ?_
  refine wp_region_lit ?_
  refine st hF (g_assign hF rfl) rfl fun a hF => st hF (g_assign hF rfl) rfl fun a hF => ?_
  refine wpList_nil ?_
  refine tN ?_
  refine wp_ret ?_
  refine iR ?_
  refine tR ?_
  refine fin2 rfl hF.defers (res_tmp hF rfl) (res_tmp hF rfl) ⟨_, rfl, hM.below, ?_⟩
  show _ = _
  rfl

theorem LegNumberI_A (p n : Int) (T : Nat → Nat → Nat → Nat) (f : Nat → Nat) (b c m : Nat) (V : Nat → Nat → Nat) (x : Int) (w : World) (hT : ∀ i j k, T i j k ≤ 255) (hf : ∀ i, f i ≤ 255) (hV : ∀ i c, V i c ≤ 255) (hm : m < 2000000) (hb : Blk w b (vecsC m V)) (hc : ¬ CodeP p n T f m V) :
    CallsR Try.prog 23 #[.agg (algC p n T f), .int .i64 (x), .slice (some ⟨b, 0, none⟩) (m) (c)] w (fun res _ => res = .tuple #[.int .i64 0, .int .i64 1]) := by
  refine calls_fr [.agg (algC p n T f), .int .i64 (x), .slice (some ⟨b, 0, none⟩) (m) (c)] Try.func23 rfl Try.ntmps23 rfl fun a hF => ?_
  have hM : Mem w w [none, none, none] [(b, vecsC m V)] := MemX.startD w 3 _ (startD1 hb)
  change Fr 53 a [(0, .agg (algC p n T f)), (1, .int .i64 (x)), (2, .slice (some ⟨b, 0, none⟩) (m) (c))] at hF
  refine sq ?_
  refine wp_region_lit ?_
  refine stR hF (d_box 0 hM hF rfl) rfl ?_
  rintro _ w' a ⟨b1, rfl, hM, -⟩ hF
  change Mem w w' [some (b1, algC p n T f), none, none] [(b, vecsC m V)] at hM
  refine st hF (g_assign hF rfl) rfl fun a hF => st hF (g_assign hF rfl) rfl fun a hF => ?_
  refine wpList_nil ?_
  refine tN ?_
  refine sq ?_
  refine sq ?_
  refine wp_region_lit ?_
  refine st hF (g_loadAgg ty_ag_31 hF rfl (hM.row 0 rfl) (by simp only [fnC_size, cells_size, vecC_size, tabC_size, planeC_size] <;> omega) (whole cells_size)) rfl fun a hF => st hF (g_move hF rfl) rfl fun a hF => ?_
  refine stR hF (d_call Try.call35 hF (.cons rfl (.cons rfl .nil)) ((CallsR.val (areVectorsL_ok p n T f b c m V _ (fun _ _ _ => hT _ _ _) (fun _ => hf _) hV hm (hM.fz 0 rfl)) (congrArg Value.bool (decide_eq_false hc))))) rfl ?_
  rintro _ w' a ⟨hx, rfl⟩ hF
  have hM := hM.ext hx
  refine st hF (g_not hF rfl) rfl fun a hF => ?_
  refine wpList_nil ?_
  refine tN ?_
  refine c_T hF rfl ?_
  refine sq ?_
  refine wp_region_lit ?_
  refine st hF (g_assign hF rfl) rfl fun a hF => st hF (g_assign hF rfl) rfl fun a hF => ?_
  refine wpList_nil ?_
  refine tN ?_
  refine wp_ret ?_
  refine tR ?_
  refine fin2 rfl hF.defers (res_tmp hF rfl) (res_tmp hF rfl) ⟨_, rfl, hM.below, ?_⟩
  show _ = _
  rfl

theorem LegNumberI0_A (p n : Int) (T : Nat → Nat → Nat → Nat) (f : Nat → Nat) (x : Int) (w : World) (hT : ∀ i j k, T i j k ≤ 255) (hf : ∀ i, f i ≤ 255) (hc : ¬ CodeP p n T f 0 (vAtL [])) :
    CallsR Try.prog 23 #[.agg (algC p n T f), .int .i64 (x), .slice none 0 0] w (fun res _ => res = .tuple #[.int .i64 0, .int .i64 1]) := by
  refine calls_fr [.agg (algC p n T f), .int .i64 (x), .slice none 0 0] Try.func23 rfl Try.ntmps23 rfl fun a hF => ?_
  have hM : Mem w w [none, none, none] [] := MemX.start w 3
  change Fr 53 a [(0, .agg (algC p n T f)), (1, .int .i64 (x)), (2, .slice none 0 0)] at hF
  refine sq ?_
  refine wp_region_lit ?_
  refine stR hF (d_box 0 hM hF rfl) rfl ?_
  rintro _ w' a ⟨b1, rfl, hM, -⟩ hF
  change Mem w w' [some (b1, algC p n T f), none, none] [] at hM
  refine st hF (g_assign hF rfl) rfl fun a hF => st hF (g_assign hF rfl) rfl fun a hF => ?_
  refine wpList_nil ?_
  refine tN ?_
  refine sq ?_
  refine sq ?_
  refine wp_region_lit ?_
  refine st hF (g_loadAgg ty_ag_31 hF rfl (hM.row 0 rfl) (by simp only [fnC_size, cells_size, vecC_size, tabC_size, planeC_size] <;> omega) (whole cells_size)) rfl fun a hF => st hF (g_move hF rfl) rfl fun a hF => ?_
  refine stR hF (d_call Try.call35 hF (.cons rfl (.cons rfl .nil)) ((CallsR.val (areVectors_0 p n T f (vAtL []) _ (fun _ _ _ => hT _ _ _) (fun _ => hf _)) (congrArg Value.bool (decide_eq_false hc))))) rfl ?_
  rintro _ w' a ⟨hx, rfl⟩ hF
  have hM := hM.ext hx
  refine st hF (g_not hF rfl) rfl fun a hF => ?_
  refine wpList_nil ?_
  refine tN ?_
  refine c_T hF rfl ?_
  refine sq ?_
  refine wp_region_lit ?_
  refine st hF (g_assign hF rfl) rfl fun a hF => st hF (g_assign hF rfl) rfl fun a hF => ?_
  refine wpList_nil ?_
  refine tN ?_
  refine wp_ret ?_
  refine tR ?_
  refine fin2 rfl hF.defers (res_tmp hF rfl) (res_tmp hF rfl) ⟨_, rfl, hM.below, ?_⟩
  show _ = _
  rfl

theorem l02Number_R (p n : Nat) (T : Nat → Nat → Nat → Nat) (f : Nat → Nat) (b c m : Nat) (V : Nat → Nat → Nat) (x : Int) (w : World) (hp : primeN p) (hn0 : 0 < n) (hn : n ≤ 6) (hTp : ∀ i j k, T i j k < p) (hT0 : ∀ i j k, n ≤ k → T i j k = 0) (hf : ∀ i, f i ≤ 255) (hV : ∀ i c, V i c ≤ 255) (hm : m < 2000000) (hb : Blk w b (vecsC m V)) (hk : ¬ (0 ≤ x ∧ x ≤ 30 ∧ m ≤ 6)) (hc : CodeP (p : Int) (n : Int) T f m V) :
    CallsR Try.prog 39 #[.agg (algC (p : Int) (n : Int) T f), .int .i64 (x), .slice (some ⟨b, 0, none⟩) (m) (c)] w (fun res _ => res = .tuple #[.int .i64 0, .int .i64 2]) := by
  refine calls_fr [.agg (algC (p : Int) (n : Int) T f), .int .i64 (x), .slice (some ⟨b, 0, none⟩) (m) (c)] Try.func39 rfl Try.ntmps39 rfl fun a hF => ?_
  have hM : Mem w w [none, none] [(b, vecsC m V)] := MemX.startD w 2 _ (startD1 hb)
  change Fr 52 a [(0, .agg (algC (p : Int) (n : Int) T f)), (1, .int .i64 (x)), (2, .slice (some ⟨b, 0, none⟩) (m) (c))] at hF
  have hp2 := hp.two
  have hp13 := hp.le
  have hT : ∀ i j k, T i j k ≤ 255 := fun i j k => by have := hTp i j k; omega
  refine sq ?_
  refine wp_region_lit ?_
  refine stR hF (d_box 0 hM hF rfl) rfl ?_
  rintro _ w' a ⟨b1, rfl, hM, -⟩ hF
  change Mem w w' [some (b1, algC (p : Int) (n : Int) T f), none] [(b, vecsC m V)] at hM
  refine st hF (g_assign hF rfl) rfl fun a hF => st hF (g_assign hF rfl) rfl fun a hF => ?_
  refine wpList_nil ?_
  refine tN ?_
  refine sq ?_
  refine wp_block ?_
  refine sq ?_
  refine wp_region_lit ?_
  refine st hF (g_loadAgg ty_ag_31 hF rfl (hM.row 0 rfl) (by simp only [fnC_size, cells_size, vecC_size, tabC_size, planeC_size] <;> omega) (whole cells_size)) rfl fun a hF => st hF (g_move hF rfl) rfl fun a hF => ?_
  refine stR hF (d_call Try.call30 hF (.cons rfl (.cons rfl .nil)) ((CallsR.val (l01CodeL_ok (p : Int) (n : Int) T f b c m V _ (fun _ _ _ => hT _ _ _) (fun _ => hf _) hV hm (hM.fz 0 rfl)) (congrArg (Value.int .i64) (if_pos hc))))) rfl ?_
  rintro _ w' a ⟨hx, rfl⟩ hF
  have hM := hM.ext hx
  refine st hF (g_neq hF rfl rfl) rfl fun a hF => st hF (g_assign hF rfl) rfl fun a hF => ?_
  refine wpList_nil ?_
  refine tN ?_
  refine c_kF hF rfl (by decide) ?_
  refine sq ?_
  refine wp_region_lit ?_
  refine st hF (g_move hF rfl) rfl fun a hF => ?_
  refine stR hF (d_call Try.call31 hF (.cons rfl (.cons rfl (.cons rfl .nil))) (l01In_ok (x) (0) (30) _)) rfl ?_
  rintro _ w' a ⟨hx, rfl⟩ hF
  have hM := hM.ext hx
  refine st hF (g_notP hF rfl) rfl fun a hF => st hF (g_move hF rfl) rfl fun a hF => ?_
  by_cases g3 : ¬ ((0 : Int) ≤ x ∧ x ≤ 30)
  ·
    first | rw [decide_eq_true g3] at hF | simp only [decide_eq_true g3] at hF
    refine stS hF rfl rfl rfl rfl rfl fun a hF => stS hF rfl rfl rfl rfl rfl fun a hF => stS hF rfl rfl rfl rfl rfl fun a hF => st hF (g_pickT hF rfl rfl) rfl fun a hF => st hF (g_assign hF rfl) rfl fun a hF => ?_
    refine wpList_nil ?_
    refine tN ?_
    refine c_T hF rfl ?_
    refine sq ?_
    refine wp_region_lit ?_
    refine st hF (g_assign hF rfl) rfl fun a hF => st hF (g_assign hF rfl) rfl fun a hF => ?_
    refine wpList_nil ?_
    refine tN ?_
    refine wp_ret ?_
    refine iR ?_
    refine tR ?_
    refine fin2 rfl hF.defers (res_tmp hF rfl) (res_tmp hF rfl) ⟨_, rfl, hM.below, ?_⟩
    show _ = _
    rfl
  ·
    first | rw [decide_eq_false g3] at hF | simp only [decide_eq_false g3] at hF
    refine stY hF rfl rfl rfl (g_move hF rfl) rfl fun a hF => stY hF rfl rfl rfl (g_len ty_us_46 hF rfl) rfl fun a hF => stY hF rfl rfl rfl (g_gtr hF rfl rfl) rfl fun a hF => st hF (g_pickF hF rfl rfl) rfl fun a hF => st hF (g_assign hF rfl) rfl fun a hF => ?_
    refine wpList_nil ?_
    refine tN ?_
    refine c_cond hF rfl (fun h5 => ?_) (fun h5 => ?_)
    ·
      refine sq ?_
      refine wp_region_lit ?_
      refine st hF (g_assign hF rfl) rfl fun a hF => st hF (g_assign hF rfl) rfl fun a hF => ?_
      refine wpList_nil ?_
      refine tN ?_
      refine wp_ret ?_
      refine iR ?_
      refine tR ?_
      refine fin2 rfl hF.defers (res_tmp hF rfl) (res_tmp hF rfl) ⟨_, rfl, hM.below, ?_⟩
      show _ = _
      rfl
    ·
      exfalso; omega

theorem LegNumberI_R (p n : Nat) (T : Nat → Nat → Nat → Nat) (f : Nat → Nat) (b c m : Nat) (V : Nat → Nat → Nat) (x : Int) (w : World) (hp : primeN p) (hn0 : 0 < n) (hn : n ≤ 6) (hTp : ∀ i j k, T i j k < p) (hT0 : ∀ i j k, n ≤ k → T i j k = 0) (hf : ∀ i, f i ≤ 255) (hV : ∀ i c, V i c ≤ 255) (hm : m < 2000000) (hb : Blk w b (vecsC m V)) (hk : ¬ (0 ≤ x ∧ x ≤ 30 ∧ m ≤ 6)) (hc : CodeP (p : Int) (n : Int) T f m V) :
    CallsR Try.prog 23 #[.agg (algC (p : Int) (n : Int) T f), .int .i64 (x), .slice (some ⟨b, 0, none⟩) (m) (c)] w (fun res _ => res = .tuple #[.int .i64 0, .int .i64 2]) := by
  refine calls_fr [.agg (algC (p : Int) (n : Int) T f), .int .i64 (x), .slice (some ⟨b, 0, none⟩) (m) (c)] Try.func23 rfl Try.ntmps23 rfl fun a hF => ?_
  have hM : Mem w w [none, none, none] [(b, vecsC m V)] := MemX.startD w 3 _ (startD1 hb)
  change Fr 53 a [(0, .agg (algC (p : Int) (n : Int) T f)), (1, .int .i64 (x)), (2, .slice (some ⟨b, 0, none⟩) (m) (c))] at hF
  have hp2 := hp.two
  have hp13 := hp.le
  have hT : ∀ i j k, T i j k ≤ 255 := fun i j k => by have := hTp i j k; omega
  refine sq ?_
  refine wp_region_lit ?_
  refine stR hF (d_box 0 hM hF rfl) rfl ?_
  rintro _ w' a ⟨b1, rfl, hM, -⟩ hF
  change Mem w w' [some (b1, algC (p : Int) (n : Int) T f), none, none] [(b, vecsC m V)] at hM
  refine st hF (g_assign hF rfl) rfl fun a hF => st hF (g_assign hF rfl) rfl fun a hF => ?_
  refine wpList_nil ?_
  refine tN ?_
  refine sq ?_
  refine sq ?_
  refine wp_region_lit ?_
  refine st hF (g_loadAgg ty_ag_31 hF rfl (hM.row 0 rfl) (by simp only [fnC_size, cells_size, vecC_size, tabC_size, planeC_size] <;> omega) (whole cells_size)) rfl fun a hF => st hF (g_move hF rfl) rfl fun a hF => ?_
  refine stR hF (d_call Try.call35 hF (.cons rfl (.cons rfl .nil)) ((CallsR.val (areVectorsL_ok (p : Int) (n : Int) T f b c m V _ (fun _ _ _ => hT _ _ _) (fun _ => hf _) hV hm (hM.fz 0 rfl)) (congrArg Value.bool (decide_eq_true hc))))) rfl ?_
  rintro _ w' a ⟨hx, rfl⟩ hF
  have hM := hM.ext hx
  refine st hF (g_not hF rfl) rfl fun a hF => ?_
  refine wpList_nil ?_
  refine tN ?_
  refine c_Fl hF rfl ?_
  refine wp_skip ?_
  refine tN ?_
  refine sq ?_
  refine sq ?_
  refine wp_region_lit ?_
  refine st hF (g_move hF rfl) rfl fun a hF => st hF (g_lss hF rfl rfl) rfl fun a hF => st hF (g_move hF rfl) rfl fun a hF => ?_
  by_cases g3 : (x : Int) < 0
  ·
    first | rw [decide_eq_true g3] at hF | simp only [decide_eq_true g3] at hF
    refine stS hF rfl rfl rfl rfl rfl fun a hF => stS hF rfl rfl rfl rfl rfl fun a hF => st hF (g_pickT hF rfl rfl) rfl fun a hF => st hF (g_move hF rfl) rfl fun a hF => stS hF rfl rfl rfl rfl rfl fun a hF => stS hF rfl rfl rfl rfl rfl fun a hF => stS hF rfl rfl rfl rfl rfl fun a hF => st hF (g_pickT hF rfl rfl) rfl fun a hF => ?_
    refine wpList_nil ?_
    refine tN ?_
    refine c_T hF rfl ?_
    refine sq ?_
    refine wp_region_lit ?_
    refine st hF (g_assign hF rfl) rfl fun a hF => st hF (g_assign hF rfl) rfl fun a hF => ?_
    refine wpList_nil ?_
    refine tN ?_
    refine wp_ret ?_
    refine tR ?_
    refine fin2 rfl hF.defers (res_tmp hF rfl) (res_tmp hF rfl) ⟨_, rfl, hM.below, ?_⟩
    show _ = _
    rfl
  ·
    first | rw [decide_eq_false g3] at hF | simp only [decide_eq_false g3] at hF
    refine stY hF rfl rfl rfl (g_move hF rfl) rfl fun a hF => stY hF rfl rfl rfl (g_gtr hF rfl rfl) rfl fun a hF => st hF (g_pickF hF rfl rfl) rfl fun a hF => st hF (g_move hF rfl) rfl fun a hF => ?_
    by_cases g5 : 30 < (x : Int)
    ·
      first | rw [decide_eq_true g5] at hF | simp only [decide_eq_true g5] at hF
      refine stS hF rfl rfl rfl rfl rfl fun a hF => stS hF rfl rfl rfl rfl rfl fun a hF => stS hF rfl rfl rfl rfl rfl fun a hF => st hF (g_pickT hF rfl rfl) rfl fun a hF => ?_
      refine wpList_nil ?_
      refine tN ?_
      refine c_T hF rfl ?_
      refine sq ?_
      refine wp_region_lit ?_
      refine st hF (g_assign hF rfl) rfl fun a hF => st hF (g_assign hF rfl) rfl fun a hF => ?_
      refine wpList_nil ?_
      refine tN ?_
      refine wp_ret ?_
      refine tR ?_
      refine fin2 rfl hF.defers (res_tmp hF rfl) (res_tmp hF rfl) ⟨_, rfl, hM.below, ?_⟩
      show _ = _
      rfl
    ·
      first | rw [decide_eq_false g5] at hF | simp only [decide_eq_false g5] at hF
      refine stY hF rfl rfl rfl (g_move hF rfl) rfl fun a hF => stY hF rfl rfl rfl (g_len ty_us_46 hF rfl) rfl fun a hF => stY hF rfl rfl rfl (g_gtr hF rfl rfl) rfl fun a hF => st hF (g_pickF hF rfl rfl) rfl fun a hF => ?_
      refine wpList_nil ?_
      refine tN ?_
      refine c_cond hF rfl (fun h7 => ?_) (fun h7 => ?_)
      ·
        refine sq ?_
        refine wp_region_lit ?_
        refine st hF (g_assign hF rfl) rfl fun a hF => st hF (g_assign hF rfl) rfl fun a hF => ?_
        refine wpList_nil ?_
        refine tN ?_
        refine wp_ret ?_
        refine tR ?_
        refine fin2 rfl hF.defers (res_tmp hF rfl) (res_tmp hF rfl) ⟨_, rfl, hM.below, ?_⟩
        show _ = _
        rfl
      ·
        exfalso; omega

theorem LegNumberI0_R (p n : Nat) (T : Nat → Nat → Nat → Nat) (f : Nat → Nat) (x : Int) (w : World) (hp : primeN p) (hn0 : 0 < n) (hn : n ≤ 6) (hTp : ∀ i j k, T i j k < p) (hT0 : ∀ i j k, n ≤ k → T i j k = 0) (hf : ∀ i, f i ≤ 255) (hk : ¬ (0 ≤ x ∧ x ≤ 30 ∧ 0 ≤ 6)) (hc : CodeP (p : Int) (n : Int) T f 0 (vAtL [])) :
    CallsR Try.prog 23 #[.agg (algC (p : Int) (n : Int) T f), .int .i64 (x), .slice none 0 0] w (fun res _ => res = .tuple #[.int .i64 0, .int .i64 2]) := by
  refine calls_fr [.agg (algC (p : Int) (n : Int) T f), .int .i64 (x), .slice none 0 0] Try.func23 rfl Try.ntmps23 rfl fun a hF => ?_
  have hM : Mem w w [none, none, none] [] := MemX.start w 3
  change Fr 53 a [(0, .agg (algC (p : Int) (n : Int) T f)), (1, .int .i64 (x)), (2, .slice none 0 0)] at hF
  have hp2 := hp.two
  have hp13 := hp.le
  have hT : ∀ i j k, T i j k ≤ 255 := fun i j k => by have := hTp i j k; omega
  refine sq ?_
  refine wp_region_lit ?_
  refine stR hF (d_box 0 hM hF rfl) rfl ?_
  rintro _ w' a ⟨b1, rfl, hM, -⟩ hF
  change Mem w w' [some (b1, algC (p : Int) (n : Int) T f), none, none] [] at hM
  refine st hF (g_assign hF rfl) rfl fun a hF => st hF (g_assign hF rfl) rfl fun a hF => ?_
  refine wpList_nil ?_
  refine tN ?_
  refine sq ?_
  refine sq ?_
  refine wp_region_lit ?_
  refine st hF (g_loadAgg ty_ag_31 hF rfl (hM.row 0 rfl) (by simp only [fnC_size, cells_size, vecC_size, tabC_size, planeC_size] <;> omega) (whole cells_size)) rfl fun a hF => st hF (g_move hF rfl) rfl fun a hF => ?_
  refine stR hF (d_call Try.call35 hF (.cons rfl (.cons rfl .nil)) ((CallsR.val (areVectors_0 (p : Int) (n : Int) T f (vAtL []) _ (fun _ _ _ => hT _ _ _) (fun _ => hf _)) (congrArg Value.bool (decide_eq_true hc))))) rfl ?_
  rintro _ w' a ⟨hx, rfl⟩ hF
  have hM := hM.ext hx
  refine st hF (g_not hF rfl) rfl fun a hF => ?_
  refine wpList_nil ?_
  refine tN ?_
  refine c_Fl hF rfl ?_
  refine wp_skip ?_
  refine tN ?_
  refine sq ?_
  refine sq ?_
  refine wp_region_lit ?_
  refine st hF (g_move hF rfl) rfl fun a hF => st hF (g_lss hF rfl rfl) rfl fun a hF => st hF (g_move hF rfl) rfl fun a hF => ?_
  by_cases g3 : (x : Int) < 0
  ·
    first | rw [decide_eq_true g3] at hF | simp only [decide_eq_true g3] at hF
    refine stS hF rfl rfl rfl rfl rfl fun a hF => stS hF rfl rfl rfl rfl rfl fun a hF => st hF (g_pickT hF rfl rfl) rfl fun a hF => st hF (g_move hF rfl) rfl fun a hF => stS hF rfl rfl rfl rfl rfl fun a hF => stS hF rfl rfl rfl rfl rfl fun a hF => stS hF rfl rfl rfl rfl rfl fun a hF => st hF (g_pickT hF rfl rfl) rfl fun a hF => ?_
    refine wpList_nil ?_
    refine tN ?_
    refine c_T hF rfl ?_
    refine sq ?_
    refine wp_region_lit ?_
    refine st hF (g_assign hF rfl) rfl fun a hF => st hF (g_assign hF rfl) rfl fun a hF => ?_
    refine wpList_nil ?_
    refine tN ?_
    refine wp_ret ?_
    refine tR ?_
    refine fin2 rfl hF.defers (res_tmp hF rfl) (res_tmp hF rfl) ⟨_, rfl, hM.below, ?_⟩
    show _ = _
    rfl
  ·
    first | rw [decide_eq_false g3] at hF | simp only [decide_eq_false g3] at hF
    refine stY hF rfl rfl rfl (g_move hF rfl) rfl fun a hF => stY hF rfl rfl rfl (g_gtr hF rfl rfl) rfl fun a hF => st hF (g_pickF hF rfl rfl) rfl fun a hF => st hF (g_move hF rfl) rfl fun a hF => ?_
    by_cases g5 : 30 < (x : Int)
    ·
      first | rw [decide_eq_true g5] at hF | simp only [decide_eq_true g5] at hF
      refine stS hF rfl rfl rfl rfl rfl fun a hF => stS hF rfl rfl rfl rfl rfl fun a hF => stS hF rfl rfl rfl rfl rfl fun a hF => st hF (g_pickT hF rfl rfl) rfl fun a hF => ?_
      refine wpList_nil ?_
      refine tN ?_
      refine c_T hF rfl ?_
      refine sq ?_
      refine wp_region_lit ?_
      refine st hF (g_assign hF rfl) rfl fun a hF => st hF (g_assign hF rfl) rfl fun a hF => ?_
      refine wpList_nil ?_
      refine tN ?_
      refine wp_ret ?_
      refine tR ?_
      refine fin2 rfl hF.defers (res_tmp hF rfl) (res_tmp hF rfl) ⟨_, rfl, hM.below, ?_⟩
      show _ = _
      rfl
    ·
      first | rw [decide_eq_false g5] at hF | simp only [decide_eq_false g5] at hF
      refine stY hF rfl rfl rfl (g_move hF rfl) rfl fun a hF => stY hF rfl rfl rfl (g_len0 ty_us_46 hF rfl) rfl fun a hF => stY hF rfl rfl rfl (g_gtr hF rfl rfl) rfl fun a hF => st hF (g_pickF hF rfl rfl) rfl fun a hF => ?_
      refine wpList_nil ?_
      refine tN ?_
      refine c_cond hF rfl (fun h7 => ?_) (fun h7 => ?_)
      ·
        refine sq ?_
        refine wp_region_lit ?_
        refine st hF (g_assign hF rfl) rfl fun a hF => st hF (g_assign hF rfl) rfl fun a hF => ?_
        refine wpList_nil ?_
        refine tN ?_
        refine wp_ret ?_
        refine tR ?_
        refine fin2 rfl hF.defers (res_tmp hF rfl) (res_tmp hF rfl) ⟨_, rfl, hM.below, ?_⟩
        show _ = _
        rfl
      ·
        exfalso; omega

theorem l02Number_F (p n : Nat) (T : Nat → Nat → Nat → Nat) (f : Nat → Nat) (b c m : Nat) (V : Nat → Nat → Nat) (x : Nat) (w : World) (hp : primeN p) (hn0 : 0 < n) (hn : n ≤ 6) (hTp : ∀ i j k, T i j k < p) (hT0 : ∀ i j k, n ≤ k → T i j k = 0) (hf : ∀ i, f i ≤ 255) (hV : ∀ i c, V i c ≤ 255) (hm : m < 2000000) (hb : Blk w b (vecsC m V)) (hk : x ≤ 30 ∧ m ≤ 6) (hfr : ¬ FrobN p n T f) (hc : CodeP (p : Int) (n : Int) T f m V) :
    CallsR Try.prog 39 #[.agg (algC (p : Int) (n : Int) T f), .int .i64 (((x : Nat) : Int)), .slice (some ⟨b, 0, none⟩) (m) (c)] w (fun res _ => res = .tuple #[.int .i64 0, .int .i64 5]) := by
  refine calls_fr [.agg (algC (p : Int) (n : Int) T f), .int .i64 (((x : Nat) : Int)), .slice (some ⟨b, 0, none⟩) (m) (c)] Try.func39 rfl Try.ntmps39 rfl fun a hF => ?_
  have hM : Mem w w [none, none] [(b, vecsC m V)] := MemX.startD w 2 _ (startD1 hb)
  change Fr 52 a [(0, .agg (algC (p : Int) (n : Int) T f)), (1, .int .i64 (((x : Nat) : Int))), (2, .slice (some ⟨b, 0, none⟩) (m) (c))] at hF
  have hp2 := hp.two
  have hp13 := hp.le
  have hT : ∀ i j k, T i j k ≤ 255 := fun i j k => by have := hTp i j k; omega
  refine sq ?_
  refine wp_region_lit ?_
  refine stR hF (d_box 0 hM hF rfl) rfl ?_
  rintro _ w' a ⟨b1, rfl, hM, -⟩ hF
  change Mem w w' [some (b1, algC (p : Int) (n : Int) T f), none] [(b, vecsC m V)] at hM
  refine st hF (g_assign hF rfl) rfl fun a hF => st hF (g_assign hF rfl) rfl fun a hF => ?_
  refine wpList_nil ?_
  refine tN ?_
  refine sq ?_
  refine wp_block ?_
  refine sq ?_
  refine wp_region_lit ?_
  refine st hF (g_loadAgg ty_ag_31 hF rfl (hM.row 0 rfl) (by simp only [fnC_size, cells_size, vecC_size, tabC_size, planeC_size] <;> omega) (whole cells_size)) rfl fun a hF => st hF (g_move hF rfl) rfl fun a hF => ?_
  refine stR hF (d_call Try.call30 hF (.cons rfl (.cons rfl .nil)) ((CallsR.val (l01CodeL_ok (p : Int) (n : Int) T f b c m V _ (fun _ _ _ => hT _ _ _) (fun _ => hf _) hV hm (hM.fz 0 rfl)) (congrArg (Value.int .i64) (if_pos hc))))) rfl ?_
  rintro _ w' a ⟨hx, rfl⟩ hF
  have hM := hM.ext hx
  refine st hF (g_neq hF rfl rfl) rfl fun a hF => st hF (g_assign hF rfl) rfl fun a hF => ?_
  refine wpList_nil ?_
  refine tN ?_
  refine c_kF hF rfl (by decide) ?_
  refine sq ?_
  refine wp_region_lit ?_
  refine st hF (g_move hF rfl) rfl fun a hF => ?_
  refine stR hF (d_call Try.call31 hF (.cons rfl (.cons rfl (.cons rfl .nil))) (l01In_ok (((x : Nat) : Int)) (0) (30) _)) rfl ?_
  rintro _ w' a ⟨hx, rfl⟩ hF
  have hM := hM.ext hx
  refine st hF (g_notP hF rfl) rfl fun a hF => st hF (g_move hF rfl) rfl fun a hF => ?_
  by_cases g3 : ¬ ((0 : Int) ≤ ((x : Nat) : Int) ∧ ((x : Nat) : Int) ≤ 30)
  ·
    first | rw [decide_eq_true g3] at hF | simp only [decide_eq_true g3] at hF
    exfalso; omega
  ·
    first | rw [decide_eq_false g3] at hF | simp only [decide_eq_false g3] at hF
    refine stY hF rfl rfl rfl (g_move hF rfl) rfl fun a hF => stY hF rfl rfl rfl (g_len ty_us_46 hF rfl) rfl fun a hF => stY hF rfl rfl rfl (g_gtr hF rfl rfl) rfl fun a hF => st hF (g_pickF hF rfl rfl) rfl fun a hF => st hF (g_assign hF rfl) rfl fun a hF => ?_
    refine wpList_nil ?_
    refine tN ?_
    refine c_cond hF rfl (fun h4 => ?_) (fun h4 => ?_)
    ·
      first | (exfalso; omega) | exact absurd hfr (by assumption) | exact absurd hcom (by assumption)
    ·
      refine sq ?_
      refine wp_region_lit ?_
      refine st hF (g_loadAgg ty_ag_31 hF rfl (hM.row 0 rfl) (by simp only [fnC_size, cells_size, vecC_size, tabC_size, planeC_size] <;> omega) (whole cells_size)) rfl fun a hF => ?_
      refine stR hF (d_call Try.call55 hF (.cons rfl .nil) ((CallsR.val (l01Frobenius_ok p n T f _ hp hn0 hn (fun _ _ _ => hT _ _ _) (fun _ => hf _)) (congrArg Value.bool (decide_eq_false hfr))))) rfl ?_
      rintro _ w' a ⟨hx, rfl⟩ hF
      have hM := hM.ext hx
      refine st hF (g_not hF rfl) rfl fun a hF => st hF (g_move hF rfl) rfl fun a hF => stS hF rfl rfl rfl rfl rfl fun a hF => stS hF rfl rfl rfl rfl rfl fun a hF => stS hF rfl rfl rfl rfl rfl fun a hF => st hF (g_pickT hF rfl rfl) rfl fun a hF => st hF (g_assign hF rfl) rfl fun a hF => ?_
      refine wpList_nil ?_
      refine tN ?_
      refine c_T hF rfl ?_
      refine sq ?_
      refine wp_region_lit ?_
      refine st hF (g_assign hF rfl) rfl fun a hF => st hF (g_assign hF rfl) rfl fun a hF => ?_
      refine wpList_nil ?_
      refine tN ?_
      refine wp_ret ?_
      refine iR ?_
      refine tR ?_
      refine fin2 rfl hF.defers (res_tmp hF rfl) (res_tmp hF rfl) ⟨_, rfl, hM.below, ?_⟩
      show _ = _
      rfl

theorem LegNumberI_F (p n : Nat) (T : Nat → Nat → Nat → Nat) (f : Nat → Nat) (b c m : Nat) (V : Nat → Nat → Nat) (x : Nat) (w : World) (hp : primeN p) (hn0 : 0 < n) (hn : n ≤ 6) (hTp : ∀ i j k, T i j k < p) (hT0 : ∀ i j k, n ≤ k → T i j k = 0) (hf : ∀ i, f i ≤ 255) (hV : ∀ i c, V i c ≤ 255) (hm : m < 2000000) (hb : Blk w b (vecsC m V)) (hk : x ≤ 30 ∧ m ≤ 6) (hfr : ¬ FrobN p n T f) (hc : CodeP (p : Int) (n : Int) T f m V) :
    CallsR Try.prog 23 #[.agg (algC (p : Int) (n : Int) T f), .int .i64 (((x : Nat) : Int)), .slice (some ⟨b, 0, none⟩) (m) (c)] w (fun res _ => res = .tuple #[.int .i64 0, .int .i64 5]) := by
  refine calls_fr [.agg (algC (p : Int) (n : Int) T f), .int .i64 (((x : Nat) : Int)), .slice (some ⟨b, 0, none⟩) (m) (c)] Try.func23 rfl Try.ntmps23 rfl fun a hF => ?_
  have hM : Mem w w [none, none, none] [(b, vecsC m V)] := MemX.startD w 3 _ (startD1 hb)
  change Fr 53 a [(0, .agg (algC (p : Int) (n : Int) T f)), (1, .int .i64 (((x : Nat) : Int))), (2, .slice (some ⟨b, 0, none⟩) (m) (c))] at hF
  have hp2 := hp.two
  have hp13 := hp.le
  have hT : ∀ i j k, T i j k ≤ 255 := fun i j k => by have := hTp i j k; omega
  refine sq ?_
  refine wp_region_lit ?_
  refine stR hF (d_box 0 hM hF rfl) rfl ?_
  rintro _ w' a ⟨b1, rfl, hM, -⟩ hF
  change Mem w w' [some (b1, algC (p : Int) (n : Int) T f), none, none] [(b, vecsC m V)] at hM
  refine st hF (g_assign hF rfl) rfl fun a hF => st hF (g_assign hF rfl) rfl fun a hF => ?_
  refine wpList_nil ?_
  refine tN ?_
  refine sq ?_
  refine sq ?_
  refine wp_region_lit ?_
  refine st hF (g_loadAgg ty_ag_31 hF rfl (hM.row 0 rfl) (by simp only [fnC_size, cells_size, vecC_size, tabC_size, planeC_size] <;> omega) (whole cells_size)) rfl fun a hF => st hF (g_move hF rfl) rfl fun a hF => ?_
  refine stR hF (d_call Try.call35 hF (.cons rfl (.cons rfl .nil)) ((CallsR.val (areVectorsL_ok (p : Int) (n : Int) T f b c m V _ (fun _ _ _ => hT _ _ _) (fun _ => hf _) hV hm (hM.fz 0 rfl)) (congrArg Value.bool (decide_eq_true hc))))) rfl ?_
  rintro _ w' a ⟨hx, rfl⟩ hF
  have hM := hM.ext hx
  refine st hF (g_not hF rfl) rfl fun a hF => ?_
  refine wpList_nil ?_
  refine tN ?_
  refine c_Fl hF rfl ?_
  refine wp_skip ?_
  refine tN ?_
  refine sq ?_
  refine sq ?_
  refine wp_region_lit ?_
  refine st hF (g_move hF rfl) rfl fun a hF => st hF (g_lss hF rfl rfl) rfl fun a hF => st hF (g_move hF rfl) rfl fun a hF => ?_
  by_cases g3 : (((x : Nat) : Int) : Int) < 0
  ·
    first | rw [decide_eq_true g3] at hF | simp only [decide_eq_true g3] at hF
    exfalso; omega
  ·
    first | rw [decide_eq_false g3] at hF | simp only [decide_eq_false g3] at hF
    refine stY hF rfl rfl rfl (g_move hF rfl) rfl fun a hF => stY hF rfl rfl rfl (g_gtr hF rfl rfl) rfl fun a hF => st hF (g_pickF hF rfl rfl) rfl fun a hF => st hF (g_move hF rfl) rfl fun a hF => ?_
    by_cases g4 : 30 < (((x : Nat) : Int) : Int)
    ·
      first | rw [decide_eq_true g4] at hF | simp only [decide_eq_true g4] at hF
      exfalso; omega
    ·
      first | rw [decide_eq_false g4] at hF | simp only [decide_eq_false g4] at hF
      refine stY hF rfl rfl rfl (g_move hF rfl) rfl fun a hF => stY hF rfl rfl rfl (g_len ty_us_46 hF rfl) rfl fun a hF => stY hF rfl rfl rfl (g_gtr hF rfl rfl) rfl fun a hF => st hF (g_pickF hF rfl rfl) rfl fun a hF => ?_
      refine wpList_nil ?_
      refine tN ?_
      refine c_cond hF rfl (fun h5 => ?_) (fun h5 => ?_)
      ·
        first | (exfalso; omega) | exact absurd hfr (by assumption) | exact absurd hcom (by assumption)
      ·
        refine wp_skip ?_
        refine tN ?_
        refine sq ?_
        refine sq ?_
        refine wp_region_lit ?_
        refine st hF (g_loadAgg ty_ag_31 hF rfl (hM.row 0 rfl) (by simp only [fnC_size, cells_size, vecC_size, tabC_size, planeC_size] <;> omega) (whole cells_size)) rfl fun a hF => ?_
        refine stR hF (d_call Try.call40 hF (.cons rfl .nil) ((CallsR.val (hasFullForm_ok p n T f _ hp hn0 hn (fun _ _ _ => hT _ _ _) (fun _ => hf _)) (congrArg Value.bool (decide_eq_false hfr))))) rfl ?_
        rintro _ w' a ⟨hx, rfl⟩ hF
        have hM := hM.ext hx
        refine st hF (g_not hF rfl) rfl fun a hF => st hF (g_move hF rfl) rfl fun a hF => stS hF rfl rfl rfl rfl rfl fun a hF => stS hF rfl rfl rfl rfl rfl fun a hF => stS hF rfl rfl rfl rfl rfl fun a hF => st hF (g_pickT hF rfl rfl) rfl fun a hF => ?_
        refine wpList_nil ?_
        refine tN ?_
        refine c_T hF rfl ?_
        refine sq ?_
        refine wp_region_lit ?_
        refine st hF (g_assign hF rfl) rfl fun a hF => st hF (g_assign hF rfl) rfl fun a hF => ?_
        refine wpList_nil ?_
        refine tN ?_
        refine wp_ret ?_
        refine tR ?_
        refine fin2 rfl hF.defers (res_tmp hF rfl) (res_tmp hF rfl) ⟨_, rfl, hM.below, ?_⟩
        show _ = _
        rfl

theorem LegNumberI0_F (p n : Nat) (T : Nat → Nat → Nat → Nat) (f : Nat → Nat) (x : Nat) (w : World) (hp : primeN p) (hn0 : 0 < n) (hn : n ≤ 6) (hTp : ∀ i j k, T i j k < p) (hT0 : ∀ i j k, n ≤ k → T i j k = 0) (hf : ∀ i, f i ≤ 255) (hk : x ≤ 30 ∧ 0 ≤ 6) (hfr : ¬ FrobN p n T f) (hc : CodeP (p : Int) (n : Int) T f 0 (vAtL [])) :
    CallsR Try.prog 23 #[.agg (algC (p : Int) (n : Int) T f), .int .i64 (((x : Nat) : Int)), .slice none 0 0] w (fun res _ => res = .tuple #[.int .i64 0, .int .i64 5]) := by
  refine calls_fr [.agg (algC (p : Int) (n : Int) T f), .int .i64 (((x : Nat) : Int)), .slice none 0 0] Try.func23 rfl Try.ntmps23 rfl fun a hF => ?_
  have hM : Mem w w [none, none, none] [] := MemX.start w 3
  change Fr 53 a [(0, .agg (algC (p : Int) (n : Int) T f)), (1, .int .i64 (((x : Nat) : Int))), (2, .slice none 0 0)] at hF
  have hp2 := hp.two
  have hp13 := hp.le
  have hT : ∀ i j k, T i j k ≤ 255 := fun i j k => by have := hTp i j k; omega
  refine sq ?_
  refine wp_region_lit ?_
  refine stR hF (d_box 0 hM hF rfl) rfl ?_
  rintro _ w' a ⟨b1, rfl, hM, -⟩ hF
  change Mem w w' [some (b1, algC (p : Int) (n : Int) T f), none, none] [] at hM
  refine st hF (g_assign hF rfl) rfl fun a hF => st hF (g_assign hF rfl) rfl fun a hF => ?_
  refine wpList_nil ?_
  refine tN ?_
  refine sq ?_
  refine sq ?_
  refine wp_region_lit ?_
  refine st hF (g_loadAgg ty_ag_31 hF rfl (hM.row 0 rfl) (by simp only [fnC_size, cells_size, vecC_size, tabC_size, planeC_size] <;> omega) (whole cells_size)) rfl fun a hF => st hF (g_move hF rfl) rfl fun a hF => ?_
  refine stR hF (d_call Try.call35 hF (.cons rfl (.cons rfl .nil)) ((CallsR.val (areVectors_0 (p : Int) (n : Int) T f (vAtL []) _ (fun _ _ _ => hT _ _ _) (fun _ => hf _)) (congrArg Value.bool (decide_eq_true hc))))) rfl ?_
  rintro _ w' a ⟨hx, rfl⟩ hF
  have hM := hM.ext hx
  refine st hF (g_not hF rfl) rfl fun a hF => ?_
  refine wpList_nil ?_
  refine tN ?_
  refine c_Fl hF rfl ?_
  refine wp_skip ?_
  refine tN ?_
  refine sq ?_
  refine sq ?_
  refine wp_region_lit ?_
  refine st hF (g_move hF rfl) rfl fun a hF => st hF (g_lss hF rfl rfl) rfl fun a hF => st hF (g_move hF rfl) rfl fun a hF => ?_
  by_cases g3 : (((x : Nat) : Int) : Int) < 0
  ·
    first | rw [decide_eq_true g3] at hF | simp only [decide_eq_true g3] at hF
    exfalso; omega
  ·
    first | rw [decide_eq_false g3] at hF | simp only [decide_eq_false g3] at hF
    refine stY hF rfl rfl rfl (g_move hF rfl) rfl fun a hF => stY hF rfl rfl rfl (g_gtr hF rfl rfl) rfl fun a hF => st hF (g_pickF hF rfl rfl) rfl fun a hF => st hF (g_move hF rfl) rfl fun a hF => ?_
    by_cases g4 : 30 < (((x : Nat) : Int) : Int)
    ·
      first | rw [decide_eq_true g4] at hF | simp only [decide_eq_true g4] at hF
      exfalso; omega
    ·
      first | rw [decide_eq_false g4] at hF | simp only [decide_eq_false g4] at hF
      refine stY hF rfl rfl rfl (g_move hF rfl) rfl fun a hF => stY hF rfl rfl rfl (g_len0 ty_us_46 hF rfl) rfl fun a hF => stY hF rfl rfl rfl (g_gtr hF rfl rfl) rfl fun a hF => st hF (g_pickF hF rfl rfl) rfl fun a hF => ?_
      refine wpList_nil ?_
      refine tN ?_
      refine c_cond hF rfl (fun h5 => ?_) (fun h5 => ?_)
      ·
        first | (exfalso; omega) | exact absurd hfr (by assumption) | exact absurd hcom (by assumption)
      ·
        refine wp_skip ?_
        refine tN ?_
        refine sq ?_
        refine sq ?_
        refine wp_region_lit ?_
        refine st hF (g_loadAgg ty_ag_31 hF rfl (hM.row 0 rfl) (by simp only [fnC_size, cells_size, vecC_size, tabC_size, planeC_size] <;> omega) (whole cells_size)) rfl fun a hF => ?_
        refine stR hF (d_call Try.call40 hF (.cons rfl .nil) ((CallsR.val (hasFullForm_ok p n T f _ hp hn0 hn (fun _ _ _ => hT _ _ _) (fun _ => hf _)) (congrArg Value.bool (decide_eq_false hfr))))) rfl ?_
        rintro _ w' a ⟨hx, rfl⟩ hF
        have hM := hM.ext hx
        refine st hF (g_not hF rfl) rfl fun a hF => st hF (g_move hF rfl) rfl fun a hF => stS hF rfl rfl rfl rfl rfl fun a hF => stS hF rfl rfl rfl rfl rfl fun a hF => stS hF rfl rfl rfl rfl rfl fun a hF => st hF (g_pickT hF rfl rfl) rfl fun a hF => ?_
        refine wpList_nil ?_
        refine tN ?_
        refine c_T hF rfl ?_
        refine sq ?_
        refine wp_region_lit ?_
        refine st hF (g_assign hF rfl) rfl fun a hF => st hF (g_assign hF rfl) rfl fun a hF => ?_
        refine wpList_nil ?_
        refine tN ?_
        refine wp_ret ?_
        refine tR ?_
        refine fin2 rfl hF.defers (res_tmp hF rfl) (res_tmp hF rfl) ⟨_, rfl, hM.below, ?_⟩
        show _ = _
        rfl

theorem l02Number_N (p n : Nat) (T : Nat → Nat → Nat → Nat) (f : Nat → Nat) (b c m : Nat) (V : Nat → Nat → Nat) (x : Nat) (w : World) (hp : primeN p) (hn0 : 0 < n) (hn : n ≤ 6) (hTp : ∀ i j k, T i j k < p) (hT0 : ∀ i j k, n ≤ k → T i j k = 0) (hf : ∀ i, f i ≤ 255) (hV : ∀ i c, V i c ≤ 255) (hm : m < 2000000) (hb : Blk w b (vecsC m V)) (hk : x ≤ 30 ∧ m ≤ 6) (hfr : FrobN p n T f) (hcom : ¬ comP T) (hc : CodeP (p : Int) (n : Int) T f m V) :
    CallsR Try.prog 39 #[.agg (algC (p : Int) (n : Int) T f), .int .i64 (((x : Nat) : Int)), .slice (some ⟨b, 0, none⟩) (m) (c)] w (fun res _ => res = .tuple #[.int .i64 0, .int .i64 5]) := by
  refine calls_fr [.agg (algC (p : Int) (n : Int) T f), .int .i64 (((x : Nat) : Int)), .slice (some ⟨b, 0, none⟩) (m) (c)] Try.func39 rfl Try.ntmps39 rfl fun a hF => ?_
  have hM : Mem w w [none, none] [(b, vecsC m V)] := MemX.startD w 2 _ (startD1 hb)
  change Fr 52 a [(0, .agg (algC (p : Int) (n : Int) T f)), (1, .int .i64 (((x : Nat) : Int))), (2, .slice (some ⟨b, 0, none⟩) (m) (c))] at hF
  have hp2 := hp.two
  have hp13 := hp.le
  have hT : ∀ i j k, T i j k ≤ 255 := fun i j k => by have := hTp i j k; omega
  refine sq ?_
  refine wp_region_lit ?_
  refine stR hF (d_box 0 hM hF rfl) rfl ?_
  rintro _ w' a ⟨b1, rfl, hM, -⟩ hF
  change Mem w w' [some (b1, algC (p : Int) (n : Int) T f), none] [(b, vecsC m V)] at hM
  refine st hF (g_assign hF rfl) rfl fun a hF => st hF (g_assign hF rfl) rfl fun a hF => ?_
  refine wpList_nil ?_
  refine tN ?_
  refine sq ?_
  refine wp_block ?_
  refine sq ?_
  refine wp_region_lit ?_
  refine st hF (g_loadAgg ty_ag_31 hF rfl (hM.row 0 rfl) (by simp only [fnC_size, cells_size, vecC_size, tabC_size, planeC_size] <;> omega) (whole cells_size)) rfl fun a hF => st hF (g_move hF rfl) rfl fun a hF => ?_
  refine stR hF (d_call Try.call30 hF (.cons rfl (.cons rfl .nil)) ((CallsR.val (l01CodeL_ok (p : Int) (n : Int) T f b c m V _ (fun _ _ _ => hT _ _ _) (fun _ => hf _) hV hm (hM.fz 0 rfl)) (congrArg (Value.int .i64) (if_pos hc))))) rfl ?_
  rintro _ w' a ⟨hx, rfl⟩ hF
  have hM := hM.ext hx
  refine st hF (g_neq hF rfl rfl) rfl fun a hF => st hF (g_assign hF rfl) rfl fun a hF => ?_
  refine wpList_nil ?_
  refine tN ?_
  refine c_kF hF rfl (by decide) ?_
  refine sq ?_
  refine wp_region_lit ?_
  refine st hF (g_move hF rfl) rfl fun a hF => ?_
  refine stR hF (d_call Try.call31 hF (.cons rfl (.cons rfl (.cons rfl .nil))) (l01In_ok (((x : Nat) : Int)) (0) (30) _)) rfl ?_
  rintro _ w' a ⟨hx, rfl⟩ hF
  have hM := hM.ext hx
  refine st hF (g_notP hF rfl) rfl fun a hF => st hF (g_move hF rfl) rfl fun a hF => ?_
  by_cases g3 : ¬ ((0 : Int) ≤ ((x : Nat) : Int) ∧ ((x : Nat) : Int) ≤ 30)
  ·
    first | rw [decide_eq_true g3] at hF | simp only [decide_eq_true g3] at hF
    exfalso; omega
  ·
    first | rw [decide_eq_false g3] at hF | simp only [decide_eq_false g3] at hF
    refine stY hF rfl rfl rfl (g_move hF rfl) rfl fun a hF => stY hF rfl rfl rfl (g_len ty_us_46 hF rfl) rfl fun a hF => stY hF rfl rfl rfl (g_gtr hF rfl rfl) rfl fun a hF => st hF (g_pickF hF rfl rfl) rfl fun a hF => st hF (g_assign hF rfl) rfl fun a hF => ?_
    refine wpList_nil ?_
    refine tN ?_
    refine c_cond hF rfl (fun h4 => ?_) (fun h4 => ?_)
    ·
      first | (exfalso; omega) | exact absurd hfr (by assumption) | exact absurd hcom (by assumption)
    ·
      refine sq ?_
      refine wp_region_lit ?_
      refine st hF (g_loadAgg ty_ag_31 hF rfl (hM.row 0 rfl) (by simp only [fnC_size, cells_size, vecC_size, tabC_size, planeC_size] <;> omega) (whole cells_size)) rfl fun a hF => ?_
      refine stR hF (d_call Try.call55 hF (.cons rfl .nil) ((CallsR.val (l01Frobenius_ok p n T f _ hp hn0 hn (fun _ _ _ => hT _ _ _) (fun _ => hf _)) (congrArg Value.bool (decide_eq_true hfr))))) rfl ?_
      rintro _ w' a ⟨hx, rfl⟩ hF
      have hM := hM.ext hx
      refine st hF (g_not hF rfl) rfl fun a hF => st hF (g_move hF rfl) rfl fun a hF => stY hF rfl rfl rfl (g_loadAgg ty_ag_31 hF rfl (hM.row 0 rfl) (by simp only [fnC_size, cells_size, vecC_size, tabC_size, planeC_size] <;> omega) (whole cells_size)) rfl fun a hF => ?_
      refine stYR hF rfl rfl rfl (d_call Try.call56 hF (.cons rfl .nil) ((CallsR.val (l01Commutative_ok (p : Int) (n : Int) T f _) (congrArg Value.bool (decide_eq_false hcom))))) rfl ?_
      rintro _ w' a ⟨hx, rfl⟩ hF
      have hM := hM.ext hx
      refine stY hF rfl rfl rfl (g_not hF rfl) rfl fun a hF => st hF (g_pickF hF rfl rfl) rfl fun a hF => st hF (g_assign hF rfl) rfl fun a hF => ?_
      refine wpList_nil ?_
      refine tN ?_
      refine c_T hF rfl ?_
      refine sq ?_
      refine wp_region_lit ?_
      refine st hF (g_assign hF rfl) rfl fun a hF => st hF (g_assign hF rfl) rfl fun a hF => ?_
      refine wpList_nil ?_
      refine tN ?_
      refine wp_ret ?_
      refine iR ?_
      refine tR ?_
      refine fin2 rfl hF.defers (res_tmp hF rfl) (res_tmp hF rfl) ⟨_, rfl, hM.below, ?_⟩
      show _ = _
      rfl

theorem LegNumberI_N (p n : Nat) (T : Nat → Nat → Nat → Nat) (f : Nat → Nat) (b c m : Nat) (V : Nat → Nat → Nat) (x : Nat) (w : World) (hp : primeN p) (hn0 : 0 < n) (hn : n ≤ 6) (hTp : ∀ i j k, T i j k < p) (hT0 : ∀ i j k, n ≤ k → T i j k = 0) (hf : ∀ i, f i ≤ 255) (hV : ∀ i c, V i c ≤ 255) (hm : m < 2000000) (hb : Blk w b (vecsC m V)) (hk : x ≤ 30 ∧ m ≤ 6) (hfr : FrobN p n T f) (hcom : ¬ comP T) (hc : CodeP (p : Int) (n : Int) T f m V) :
    CallsR Try.prog 23 #[.agg (algC (p : Int) (n : Int) T f), .int .i64 (((x : Nat) : Int)), .slice (some ⟨b, 0, none⟩) (m) (c)] w (fun res _ => res = .tuple #[.int .i64 0, .int .i64 5]) := by
  refine calls_fr [.agg (algC (p : Int) (n : Int) T f), .int .i64 (((x : Nat) : Int)), .slice (some ⟨b, 0, none⟩) (m) (c)] Try.func23 rfl Try.ntmps23 rfl fun a hF => ?_
  have hM : Mem w w [none, none, none] [(b, vecsC m V)] := MemX.startD w 3 _ (startD1 hb)
  change Fr 53 a [(0, .agg (algC (p : Int) (n : Int) T f)), (1, .int .i64 (((x : Nat) : Int))), (2, .slice (some ⟨b, 0, none⟩) (m) (c))] at hF
  have hp2 := hp.two
  have hp13 := hp.le
  have hT : ∀ i j k, T i j k ≤ 255 := fun i j k => by have := hTp i j k; omega
  refine sq ?_
  refine wp_region_lit ?_
  refine stR hF (d_box 0 hM hF rfl) rfl ?_
  rintro _ w' a ⟨b1, rfl, hM, -⟩ hF
  change Mem w w' [some (b1, algC (p : Int) (n : Int) T f), none, none] [(b, vecsC m V)] at hM
  refine st hF (g_assign hF rfl) rfl fun a hF => st hF (g_assign hF rfl) rfl fun a hF => ?_
  refine wpList_nil ?_
  refine tN ?_
  refine sq ?_
  refine sq ?_
  refine wp_region_lit ?_
  refine st hF (g_loadAgg ty_ag_31 hF rfl (hM.row 0 rfl) (by simp only [fnC_size, cells_size, vecC_size, tabC_size, planeC_size] <;> omega) (whole cells_size)) rfl fun a hF => st hF (g_move hF rfl) rfl fun a hF => ?_
  refine stR hF (d_call Try.call35 hF (.cons rfl (.cons rfl .nil)) ((CallsR.val (areVectorsL_ok (p : Int) (n : Int) T f b c m V _ (fun _ _ _ => hT _ _ _) (fun _ => hf _) hV hm (hM.fz 0 rfl)) (congrArg Value.bool (decide_eq_true hc))))) rfl ?_
  rintro _ w' a ⟨hx, rfl⟩ hF
  have hM := hM.ext hx
  refine st hF (g_not hF rfl) rfl fun a hF => ?_
  refine wpList_nil ?_
  refine tN ?_
  refine c_Fl hF rfl ?_
  refine wp_skip ?_
  refine tN ?_
  refine sq ?_
  refine sq ?_
  refine wp_region_lit ?_
  refine st hF (g_move hF rfl) rfl fun a hF => st hF (g_lss hF rfl rfl) rfl fun a hF => st hF (g_move hF rfl) rfl fun a hF => ?_
  by_cases g3 : (((x : Nat) : Int) : Int) < 0
  ·
    first | rw [decide_eq_true g3] at hF | simp only [decide_eq_true g3] at hF
    exfalso; omega
  ·
    first | rw [decide_eq_false g3] at hF | simp only [decide_eq_false g3] at hF
    refine stY hF rfl rfl rfl (g_move hF rfl) rfl fun a hF => stY hF rfl rfl rfl (g_gtr hF rfl rfl) rfl fun a hF => st hF (g_pickF hF rfl rfl) rfl fun a hF => st hF (g_move hF rfl) rfl fun a hF => ?_
    by_cases g4 : 30 < (((x : Nat) : Int) : Int)
    ·
      first | rw [decide_eq_true g4] at hF | simp only [decide_eq_true g4] at hF
      exfalso; omega
    ·
      first | rw [decide_eq_false g4] at hF | simp only [decide_eq_false g4] at hF
      refine stY hF rfl rfl rfl (g_move hF rfl) rfl fun a hF => stY hF rfl rfl rfl (g_len ty_us_46 hF rfl) rfl fun a hF => stY hF rfl rfl rfl (g_gtr hF rfl rfl) rfl fun a hF => st hF (g_pickF hF rfl rfl) rfl fun a hF => ?_
      refine wpList_nil ?_
      refine tN ?_
      refine c_cond hF rfl (fun h5 => ?_) (fun h5 => ?_)
      ·
        first | (exfalso; omega) | exact absurd hfr (by assumption) | exact absurd hcom (by assumption)
      ·
        refine wp_skip ?_
        refine tN ?_
        refine sq ?_
        refine sq ?_
        refine wp_region_lit ?_
        refine st hF (g_loadAgg ty_ag_31 hF rfl (hM.row 0 rfl) (by simp only [fnC_size, cells_size, vecC_size, tabC_size, planeC_size] <;> omega) (whole cells_size)) rfl fun a hF => ?_
        refine stR hF (d_call Try.call40 hF (.cons rfl .nil) ((CallsR.val (hasFullForm_ok p n T f _ hp hn0 hn (fun _ _ _ => hT _ _ _) (fun _ => hf _)) (congrArg Value.bool (decide_eq_true hfr))))) rfl ?_
        rintro _ w' a ⟨hx, rfl⟩ hF
        have hM := hM.ext hx
        refine st hF (g_not hF rfl) rfl fun a hF => st hF (g_move hF rfl) rfl fun a hF => stY hF rfl rfl rfl (g_loadAgg ty_ag_31 hF rfl (hM.row 0 rfl) (by simp only [fnC_size, cells_size, vecC_size, tabC_size, planeC_size] <;> omega) (whole cells_size)) rfl fun a hF => ?_
        refine stYR hF rfl rfl rfl (d_call Try.call41 hF (.cons rfl .nil) ((CallsR.val (isOwnOpposite_ok p n T f _ (by omega) (by omega) (fun _ _ _ => hT _ _ _) (fun _ => hf _)) (congrArg Value.bool (decide_eq_false (fun h => hcom (comP_iff.1 h))))))) rfl ?_
        rintro _ w' a ⟨hx, rfl⟩ hF
        have hM := hM.ext hx
        refine stY hF rfl rfl rfl (g_not hF rfl) rfl fun a hF => st hF (g_pickF hF rfl rfl) rfl fun a hF => ?_
        refine wpList_nil ?_
        refine tN ?_
        refine c_T hF rfl ?_
        refine sq ?_
        refine wp_region_lit ?_
        refine st hF (g_assign hF rfl) rfl fun a hF => st hF (g_assign hF rfl) rfl fun a hF => ?_
        refine wpList_nil ?_
        refine tN ?_
        refine wp_ret ?_
        refine tR ?_
        refine fin2 rfl hF.defers (res_tmp hF rfl) (res_tmp hF rfl) ⟨_, rfl, hM.below, ?_⟩
        show _ = _
        rfl

theorem LegNumberI0_N (p n : Nat) (T : Nat → Nat → Nat → Nat) (f : Nat → Nat) (x : Nat) (w : World) (hp : primeN p) (hn0 : 0 < n) (hn : n ≤ 6) (hTp : ∀ i j k, T i j k < p) (hT0 : ∀ i j k, n ≤ k → T i j k = 0) (hf : ∀ i, f i ≤ 255) (hk : x ≤ 30 ∧ 0 ≤ 6) (hfr : FrobN p n T f) (hcom : ¬ comP T) (hc : CodeP (p : Int) (n : Int) T f 0 (vAtL [])) :
    CallsR Try.prog 23 #[.agg (algC (p : Int) (n : Int) T f), .int .i64 (((x : Nat) : Int)), .slice none 0 0] w (fun res _ => res = .tuple #[.int .i64 0, .int .i64 5]) := by
  refine calls_fr [.agg (algC (p : Int) (n : Int) T f), .int .i64 (((x : Nat) : Int)), .slice none 0 0] Try.func23 rfl Try.ntmps23 rfl fun a hF => ?_
  have hM : Mem w w [none, none, none] [] := MemX.start w 3
  change Fr 53 a [(0, .agg (algC (p : Int) (n : Int) T f)), (1, .int .i64 (((x : Nat) : Int))), (2, .slice none 0 0)] at hF
  have hp2 := hp.two
  have hp13 := hp.le
  have hT : ∀ i j k, T i j k ≤ 255 := fun i j k => by have := hTp i j k; omega
  refine sq ?_
  refine wp_region_lit ?_
  refine stR hF (d_box 0 hM hF rfl) rfl ?_
  rintro _ w' a ⟨b1, rfl, hM, -⟩ hF
  change Mem w w' [some (b1, algC (p : Int) (n : Int) T f), none, none] [] at hM
  refine st hF (g_assign hF rfl) rfl fun a hF => st hF (g_assign hF rfl) rfl fun a hF => ?_
  refine wpList_nil ?_
  refine tN ?_
  refine sq ?_
  refine sq ?_
  refine wp_region_lit ?_
  refine st hF (g_loadAgg ty_ag_31 hF rfl (hM.row 0 rfl) (by simp only [fnC_size, cells_size, vecC_size, tabC_size, planeC_size] <;> omega) (whole cells_size)) rfl fun a hF => st hF (g_move hF rfl) rfl fun a hF => ?_
  refine stR hF (d_call Try.call35 hF (.cons rfl (.cons rfl .nil)) ((CallsR.val (areVectors_0 (p : Int) (n : Int) T f (vAtL []) _ (fun _ _ _ => hT _ _ _) (fun _ => hf _)) (congrArg Value.bool (decide_eq_true hc))))) rfl ?_
  rintro _ w' a ⟨hx, rfl⟩ hF
  have hM := hM.ext hx
  refine st hF (g_not hF rfl) rfl fun a hF => ?_
  refine wpList_nil ?_
  refine tN ?_
  refine c_Fl hF rfl ?_
  refine wp_skip ?_
  refine tN ?_
  refine sq ?_
  refine sq ?_
  refine wp_region_lit ?_
  refine st hF (g_move hF rfl) rfl fun a hF => st hF (g_lss hF rfl rfl) rfl fun a hF => st hF (g_move hF rfl) rfl fun a hF => ?_
  by_cases g3 : (((x : Nat) : Int) : Int) < 0
  ·
    first | rw [decide_eq_true g3] at hF | simp only [decide_eq_true g3] at hF
    exfalso; omega
  ·
    first | rw [decide_eq_false g3] at hF | simp only [decide_eq_false g3] at hF
    refine stY hF rfl rfl rfl (g_move hF rfl) rfl fun a hF => stY hF rfl rfl rfl (g_gtr hF rfl rfl) rfl fun a hF => st hF (g_pickF hF rfl rfl) rfl fun a hF => st hF (g_move hF rfl) rfl fun a hF => ?_
    by_cases g4 : 30 < (((x : Nat) : Int) : Int)
    ·
      first | rw [decide_eq_true g4] at hF | simp only [decide_eq_true g4] at hF
      exfalso; omega
    ·
      first | rw [decide_eq_false g4] at hF | simp only [decide_eq_false g4] at hF
      refine stY hF rfl rfl rfl (g_move hF rfl) rfl fun a hF => stY hF rfl rfl rfl (g_len0 ty_us_46 hF rfl) rfl fun a hF => stY hF rfl rfl rfl (g_gtr hF rfl rfl) rfl fun a hF => st hF (g_pickF hF rfl rfl) rfl fun a hF => ?_
      refine wpList_nil ?_
      refine tN ?_
      refine c_cond hF rfl (fun h5 => ?_) (fun h5 => ?_)
      ·
        first | (exfalso; omega) | exact absurd hfr (by assumption) | exact absurd hcom (by assumption)
      ·
        refine wp_skip ?_
        refine tN ?_
        refine sq ?_
        refine sq ?_
        refine wp_region_lit ?_
        refine st hF (g_loadAgg ty_ag_31 hF rfl (hM.row 0 rfl) (by simp only [fnC_size, cells_size, vecC_size, tabC_size, planeC_size] <;> omega) (whole cells_size)) rfl fun a hF => ?_
        refine stR hF (d_call Try.call40 hF (.cons rfl .nil) ((CallsR.val (hasFullForm_ok p n T f _ hp hn0 hn (fun _ _ _ => hT _ _ _) (fun _ => hf _)) (congrArg Value.bool (decide_eq_true hfr))))) rfl ?_
        rintro _ w' a ⟨hx, rfl⟩ hF
        have hM := hM.ext hx
        refine st hF (g_not hF rfl) rfl fun a hF => st hF (g_move hF rfl) rfl fun a hF => stY hF rfl rfl rfl (g_loadAgg ty_ag_31 hF rfl (hM.row 0 rfl) (by simp only [fnC_size, cells_size, vecC_size, tabC_size, planeC_size] <;> omega) (whole cells_size)) rfl fun a hF => ?_
        refine stYR hF rfl rfl rfl (d_call Try.call41 hF (.cons rfl .nil) ((CallsR.val (isOwnOpposite_ok p n T f _ (by omega) (by omega) (fun _ _ _ => hT _ _ _) (fun _ => hf _)) (congrArg Value.bool (decide_eq_false (fun h => hcom (comP_iff.1 h))))))) rfl ?_
        rintro _ w' a ⟨hx, rfl⟩ hF
        have hM := hM.ext hx
        refine stY hF rfl rfl rfl (g_not hF rfl) rfl fun a hF => st hF (g_pickF hF rfl rfl) rfl fun a hF => ?_
        refine wpList_nil ?_
        refine tN ?_
        refine c_T hF rfl ?_
        refine sq ?_
        refine wp_region_lit ?_
        refine st hF (g_assign hF rfl) rfl fun a hF => st hF (g_assign hF rfl) rfl fun a hF => ?_
        refine wpList_nil ?_
        refine tN ?_
        refine wp_ret ?_
        refine tR ?_
        refine fin2 rfl hF.defers (res_tmp hF rfl) (res_tmp hF rfl) ⟨_, rfl, hM.below, ?_⟩
        show _ = _
        rfl

theorem l02Number_Y (p n : Nat) (T : Nat → Nat → Nat → Nat) (f : Nat → Nat) (b c m : Nat) (V : Nat → Nat → Nat) (x : Nat) (w : World) (hp : primeN p) (hn0 : 0 < n) (hn : n ≤ 6) (hTp : ∀ i j k, T i j k < p) (hT0 : ∀ i j k, n ≤ k → T i j k = 0) (hf : ∀ i, f i ≤ 255) (hV : ∀ i c, V i c ≤ 255) (hm : m < 2000000) (hb : Blk w b (vecsC m V)) (hk : x ≤ 30 ∧ m ≤ 6) (hfr : FrobN p n T f) (hcom : comP T) (G : Nat → Nat → Nat) (hG : IsCop p n (formM p n T f) G) (uu : Nat → Nat) (huu : UnitI p n T uu) (hc : CodeP (p : Int) (n : Int) T f m V) :
    CallsR Try.prog 39 #[.agg (algC (p : Int) (n : Int) T f), .int .i64 (((x : Nat) : Int)), .slice (some ⟨b, 0, none⟩) (m) (c)] w (fun res _ => res = .tuple #[.int .i64 ((sumTo (fun i => ((foldW (timesV p n T) (powW (timesV p n T) uu (hdl p n T G n 0) x) V m)) i * f i) 6 % p : Nat) : Int), .int .i64 0]) := by
  refine calls_fr [.agg (algC (p : Int) (n : Int) T f), .int .i64 (((x : Nat) : Int)), .slice (some ⟨b, 0, none⟩) (m) (c)] Try.func39 rfl Try.ntmps39 rfl fun a hF => ?_
  have hM : Mem w w [none, none] [(b, vecsC m V)] := MemX.startD w 2 _ (startD1 hb)
  change Fr 52 a [(0, .agg (algC (p : Int) (n : Int) T f)), (1, .int .i64 (((x : Nat) : Int))), (2, .slice (some ⟨b, 0, none⟩) (m) (c))] at hF
  have hp2 := hp.two
  have hp13 := hp.le
  have hT : ∀ i j k, T i j k ≤ 255 := fun i j k => by have := hTp i j k; omega
  have hGp := hG.lt
  have hG5 : ∀ i c, G i c ≤ 255 := fun i c => by have := hGp i c; omega
  have hhd : ∀ c, hdl p n T G n 0 c ≤ 255 := fun c => by have := hdl_lt (p := p) (n := n) (T := T) (G := G) (k := n) (l := 0) (c := c) (by omega); omega
  have hvp : ∀ k c, powW (timesV p n T) uu (hdl p n T G n 0) k c ≤ 255 := powW_le (fun c => by have := huu.small c; omega) (fun x c => timesV_le (by omega) (by omega) x _ c)
  have hvt := hvp x
  have hvs : ∀ c, hdl p n T G n 0 c ≤ 255 := hhd
  have hwp : ∀ k c, (foldW (timesV p n T) (powW (timesV p n T) uu (hdl p n T G n 0) x) V k) c ≤ 255 := foldW_le (hvp x) (fun a b c => timesV_le (by omega) (by omega) a b c)
  refine sq ?_
  refine wp_region_lit ?_
  refine stR hF (d_box 0 hM hF rfl) rfl ?_
  rintro _ w' a ⟨b1, rfl, hM, -⟩ hF
  change Mem w w' [some (b1, algC (p : Int) (n : Int) T f), none] [(b, vecsC m V)] at hM
  refine st hF (g_assign hF rfl) rfl fun a hF => st hF (g_assign hF rfl) rfl fun a hF => ?_
  refine wpList_nil ?_
  refine tN ?_
  refine sq ?_
  refine wp_block ?_
  refine sq ?_
  refine wp_region_lit ?_
  refine st hF (g_loadAgg ty_ag_31 hF rfl (hM.row 0 rfl) (by simp only [fnC_size, cells_size, vecC_size, tabC_size, planeC_size] <;> omega) (whole cells_size)) rfl fun a hF => st hF (g_move hF rfl) rfl fun a hF => ?_
  refine stR hF (d_call Try.call30 hF (.cons rfl (.cons rfl .nil)) ((CallsR.val (l01CodeL_ok (p : Int) (n : Int) T f b c m V _ (fun _ _ _ => hT _ _ _) (fun _ => hf _) hV hm (hM.fz 0 rfl)) (congrArg (Value.int .i64) (if_pos hc))))) rfl ?_
  rintro _ w' a ⟨hx, rfl⟩ hF
  have hM := hM.ext hx
  refine st hF (g_neq hF rfl rfl) rfl fun a hF => st hF (g_assign hF rfl) rfl fun a hF => ?_
  refine wpList_nil ?_
  refine tN ?_
  refine c_kF hF rfl (by decide) ?_
  refine sq ?_
  refine wp_region_lit ?_
  refine st hF (g_move hF rfl) rfl fun a hF => ?_
  refine stR hF (d_call Try.call31 hF (.cons rfl (.cons rfl (.cons rfl .nil))) (l01In_ok (((x : Nat) : Int)) (0) (30) _)) rfl ?_
  rintro _ w' a ⟨hx, rfl⟩ hF
  have hM := hM.ext hx
  refine st hF (g_notP hF rfl) rfl fun a hF => st hF (g_move hF rfl) rfl fun a hF => ?_
  by_cases g3 : ¬ ((0 : Int) ≤ ((x : Nat) : Int) ∧ ((x : Nat) : Int) ≤ 30)
  ·
    first | rw [decide_eq_true g3] at hF | simp only [decide_eq_true g3] at hF
    exfalso; omega
  ·
    first | rw [decide_eq_false g3] at hF | simp only [decide_eq_false g3] at hF
    refine stY hF rfl rfl rfl (g_move hF rfl) rfl fun a hF => stY hF rfl rfl rfl (g_len ty_us_46 hF rfl) rfl fun a hF => stY hF rfl rfl rfl (g_gtr hF rfl rfl) rfl fun a hF => st hF (g_pickF hF rfl rfl) rfl fun a hF => st hF (g_assign hF rfl) rfl fun a hF => ?_
    refine wpList_nil ?_
    refine tN ?_
    refine c_cond hF rfl (fun h4 => ?_) (fun h4 => ?_)
    ·
      first | (exfalso; omega) | exact absurd hfr (by assumption) | exact absurd hcom (by assumption)
    ·
      refine sq ?_
      refine wp_region_lit ?_
      refine st hF (g_loadAgg ty_ag_31 hF rfl (hM.row 0 rfl) (by simp only [fnC_size, cells_size, vecC_size, tabC_size, planeC_size] <;> omega) (whole cells_size)) rfl fun a hF => ?_
      refine stR hF (d_call Try.call55 hF (.cons rfl .nil) ((CallsR.val (l01Frobenius_ok p n T f _ hp hn0 hn (fun _ _ _ => hT _ _ _) (fun _ => hf _)) (congrArg Value.bool (decide_eq_true hfr))))) rfl ?_
      rintro _ w' a ⟨hx, rfl⟩ hF
      have hM := hM.ext hx
      refine st hF (g_not hF rfl) rfl fun a hF => st hF (g_move hF rfl) rfl fun a hF => stY hF rfl rfl rfl (g_loadAgg ty_ag_31 hF rfl (hM.row 0 rfl) (by simp only [fnC_size, cells_size, vecC_size, tabC_size, planeC_size] <;> omega) (whole cells_size)) rfl fun a hF => ?_
      refine stYR hF rfl rfl rfl (d_call Try.call56 hF (.cons rfl .nil) ((CallsR.val (l01Commutative_ok (p : Int) (n : Int) T f _) (congrArg Value.bool (decide_eq_true hcom))))) rfl ?_
      rintro _ w' a ⟨hx, rfl⟩ hF
      have hM := hM.ext hx
      refine stY hF rfl rfl rfl (g_not hF rfl) rfl fun a hF => st hF (g_pickF hF rfl rfl) rfl fun a hF => st hF (g_assign hF rfl) rfl fun a hF => ?_
      refine wpList_nil ?_
      refine tN ?_
      refine c_Fl hF rfl ?_
      refine wp_skip ?_
      refine iN ?_
      refine tN ?_
      refine sq ?_
      refine wp_region_lit ?_
      refine st hF (g_loadAgg ty_ag_31 hF rfl (hM.row 0 rfl) (by simp only [fnC_size, cells_size, vecC_size, tabC_size, planeC_size] <;> omega) (whole cells_size)) rfl fun a hF => st hF (g_move hF rfl) rfl fun a hF => ?_
      refine stR hF (d_call Try.call57 hF (.cons rfl (.cons rfl .nil)) (l02Power_ok p n T f G (x) _ hp hn0 hn hTp hT0 hf hfr hG uu huu (by omega))) rfl ?_
      rintro _ w' a ⟨hx, rfl⟩ hF
      have hM := hM.ext hx
      refine stR hF (d_alloc 1 hM ty_ze_27) rfl ?_
      rintro _ w' a ⟨b6, rfl, hM, -⟩ hF
      change Mem w w' [some (b1, algC (p : Int) (n : Int) T f), some (b6, fnC 6 (fun _ => .int .u8 (0)))] [(b, vecsC m V)] at hM
      refine stN hF (d_storeAgg 1 hM rfl ty_sz_27 hF rfl rfl (by first | exact vecC_one | exact cells_one | (refine fnC_one fun _ _ => ?_; first | rfl | (split <;> rfl))) (by simp only [fnC_size, cells_size, vecC_size, tabC_size, planeC_size]) (by simp only [fnC_size, cells_size, vecC_size, tabC_size, planeC_size] <;> omega) (splice_whole _ _ (by simp only [fnC_size, cells_size, vecC_size, tabC_size, planeC_size]))) ?_
      intro _ w' a hM hF
      change Mem w w' [some (b1, algC (p : Int) (n : Int) T f), some (b6, vecC (powW (timesV p n T) uu (hdl p n T G n 0) x))] [(b, vecsC m V)] at hM
      refine wpList_nil ?_
      refine tN ?_
      refine sq ?_
      refine sq ?_
      refine wp_region_lit ?_
      refine st hF (g_assign hF rfl) rfl fun a hF => ?_
      refine wpList_nil ?_
      refine tN ?_
      refine wp_block ?_
      change Mem w _ [some (b1, algC (p : Int) (n : Int) T f), some (b6, vecC (powW (timesV p n T) uu (hdl p n T G n 0) x))] [(b, vecsC m V)] at hM
      refine c_loop (fun (kk : Nat) a w' => kk ≤ m ∧ (True) ∧ Fr 52 a [(0, .agg (algC (p : Int) (n : Int) T f)), (1, .int .i64 (((x : Nat) : Int))), (2, .slice (some ⟨b, 0, none⟩) (m) (c)), (3, ptr b1 (0)), (6, .int .i64 (0)), (7, .int .i64 (0)), (11, .agg (algC (p : Int) (n : Int) T f)), (12, .slice (some ⟨b, 0, none⟩) (m) (c)), (13, .int .i64 (0)), (14, .bool (decide ((0 : Int) ≠ 0))), (10, .bool (decide ((0 : Int) ≠ 0))), (16, .int .i64 (((x : Nat) : Int))), (17, .bool (decide ((0 : Int) ≤ ((x : Nat) : Int) ∧ ((x : Nat) : Int) ≤ 30))), (18, .bool (false)), (19, .bool (false)), (20, .slice (some ⟨b, 0, none⟩) (m) (c)), (21, .int .i64 (((m : Nat) : Int))), (22, .bool (decide (6 < (((m : Nat) : Int) : Int)))), (23, .bool (decide (6 < (((m : Nat) : Int) : Int)))), (15, .bool (decide (6 < (((m : Nat) : Int) : Int)))), (25, .agg (algC (p : Int) (n : Int) T f)), (26, .bool (true)), (27, .bool (false)), (28, .bool (false)), (29, .agg (algC (p : Int) (n : Int) T f)), (30, .bool (true)), (31, .bool (false)), (32, .bool (false)), (24, .bool (false)), (33, .agg (algC (p : Int) (n : Int) T f)), (34, .int .i64 (((x : Nat) : Int))), (35, .agg (vecC (powW (timesV p n T) uu (hdl p n T G n 0) x))), (8, ptr b6 (0)), (9, .int .i64 (((kk : Nat) : Int)))] ∧ Mem w w' [some (b1, algC (p : Int) (n : Int) T f), some (b6, vecC (foldW (timesV p n T) (powW (timesV p n T) uu (hdl p n T G n 0) x) V kk))] [(b, vecsC m V)]) (fun kk => m - kk) 0 ?_ ?_
      ·
        refine ⟨by omega, trivial, hF.sub _ (by repeat' constructor), ?_⟩
        exact hM
      ·
        clear hF hM
        rintro gi a w' ⟨hgi, hinv1, hF, hM⟩
        have hv : ∀ c, V gi c ≤ 255 := hV gi
        have hvt := hwp gi
        refine sq ?_
        refine sq ?_
        refine wp_region_lit ?_
        refine st hF (g_move hF rfl) rfl fun a hF => st hF (g_move hF rfl) rfl fun a hF => st hF (g_len ty_us_46 hF rfl) rfl fun a hF => st hF (g_lss hF rfl rfl) rfl fun a hF => ?_
        refine wpList_nil ?_
        refine tN ?_
        refine c_cond hF rfl (fun h7 => ?_) (fun h7 => ?_)
        ·
          refine wp_skip ?_
          refine tN ?_
          refine sq ?_
          refine wp_block ?_
          refine c_par 6 [] [.val (.agg (algC (p : Int) (n : Int) T f)), .val (.agg (vecC (foldW (timesV p n T) (powW (timesV p n T) uu (hdl p n T G n 0) x) V gi))), .val (.slice (some ⟨b, 0, none⟩) (m) (c)), .val (.int .i64 (((gi : Nat) : Int))), .val (ptr b (0 + (gi) * 6)), .val (.agg (vecC (V (gi))))] hmix rfl hF rfl hM ⟨fun a w gG hF hS hd => by have hM := hS.mem rfl; exact par_val hS rfl (g_loadAgg ty_ag_31 hF rfl (hM.row 0 rfl) (by simp only [fnC_size, cells_size, vecC_size, tabC_size, planeC_size] <;> omega) (whole cells_size)), fun a w gG hF hS hd => by have hM := hS.mem rfl; exact par_val hS rfl (g_loadAgg ty_ag_27 hF rfl (hM.row 1 rfl) (by simp only [fnC_size, cells_size, vecC_size, tabC_size, planeC_size] <;> omega) (whole (by simp only [fnC_size, cells_size, vecC_size, tabC_size, planeC_size]))), fun a w gG hF hS hd => by exact par_val hS rfl (g_move hF rfl), fun a w gG hF hS hd => by exact par_val hS rfl (g_move hF rfl), fun a w gG hF hS hd => by have hF := hF.ext1 44 (hd 2 rfl rfl); have hF := hF.ext1 45 (hd 3 rfl rfl); exact par_val hS rfl (g_indexSl (i := gi) ty_sl_46 hF rfl rfl rfl (by omega)), fun a w gG hF hS hd => by have hF := hF.ext1 46 (hd 4 rfl rfl); have hM := hS.mem rfl; exact par_val hS rfl (g_loadAgg ty_ag_27 hF rfl (hM.fz 0 rfl) (by rw [vecsC_size]; omega) (vecsC_row (gi) (by omega) (by omega) (by omega))), trivial⟩ ?_
          intro a w' L hF hS hq
          have hF := hF.ext1 42 (hq 0 rfl rfl)
          have hF := hF.ext1 43 (hq 1 rfl rfl)
          have hF := hF.ext1 44 (hq 2 rfl rfl)
          have hF := hF.ext1 45 (hq 3 rfl rfl)
          have hF := hF.ext1 46 (hq 4 rfl rfl)
          have hF := hF.ext1 47 (hq 5 rfl rfl)
          have hM := hS.mem rfl
          change wpList Try.prog _ _ [_, _] _ _
          refine stR hF (d_call Try.call33 hF (.cons rfl (.cons rfl (.cons rfl .nil))) ((CallsR.val (l01Times_ok p n T f ((foldW (timesV p n T) (powW (timesV p n T) uu (hdl p n T G n 0) x) V gi)) ((V (gi))) _ (by omega) (by omega) (by omega) (fun _ _ _ => hT _ _ _) (fun _ => by first | exact hv _ | exact hvt _ | exact hvs _ | exact hu _ | exact hT _ _ _ | exact hf _ | omega | (split <;> omega) | (dsimp only; split <;> omega) | assumption) (fun _ => by first | exact hv _ | exact hvt _ | exact hvs _ | exact hu _ | exact hT _ _ _ | exact hf _ | omega | (split <;> omega) | (dsimp only; split <;> omega) | assumption)) (congrArg (fun v => Value.agg (vecC v)) (times_eq hT0 ((foldW (timesV p n T) (powW (timesV p n T) uu (hdl p n T G n 0) x) V gi)) ((V (gi)))).symm)))) rfl ?_
          rintro _ w' a ⟨hx, rfl⟩ hF
          have hM := hM.ext hx
          refine stN hF (d_storeAgg 1 hM rfl ty_sz_27 hF rfl rfl (by first | exact vecC_one | exact cells_one | (refine fnC_one fun _ _ => ?_; first | rfl | (split <;> rfl))) (by simp only [fnC_size, cells_size, vecC_size, tabC_size, planeC_size]) (by simp only [fnC_size, cells_size, vecC_size, tabC_size, planeC_size] <;> omega) (splice_whole _ _ (by simp only [fnC_size, cells_size, vecC_size, tabC_size, planeC_size]))) ?_
          intro _ w' a hM hF
          change Mem w w' [some (b1, algC (p : Int) (n : Int) T f), some (b6, vecC (timesV p n T ((foldW (timesV p n T) (powW (timesV p n T) uu (hdl p n T G n 0) x) V gi)) ((V (gi)))))] [(b, vecsC m V)] at hM
          refine wpList_nil ?_
          refine iN ?_
          refine tN ?_
          refine wp_region_lit ?_
          refine st hF (g_move hF rfl) rfl fun a hF => st hF (g_add hF rfl rfl (add_nat (gi) (1) (by omega))) rfl fun a hF => st hF (g_assign hF rfl) rfl fun a hF => ?_
          refine wpList_nil ?_
          refine tN ?_
          refine ⟨gi + 1, ⟨by omega, trivial, hF.sub _ (by repeat' constructor), ?_⟩, by omega⟩
          exact hM
        ·
          obtain rfl : m = gi := by omega
          refine wp_exit ?_
          refine tX ?_
          refine tX ?_
          refine ib_same ?_
          refine tN ?_
          refine sq ?_
          refine wp_region_lit ?_
          refine st hF (g_loadAgg ty_ag_31 hF rfl (hM.row 0 rfl) (by simp only [fnC_size, cells_size, vecC_size, tabC_size, planeC_size] <;> omega) (whole cells_size)) rfl fun a hF => st hF (g_loadAgg ty_ag_27 hF rfl (hM.row 1 rfl) (by simp only [fnC_size, cells_size, vecC_size, tabC_size, planeC_size] <;> omega) (whole (by simp only [fnC_size, cells_size, vecC_size, tabC_size, planeC_size]))) rfl fun a hF => ?_
          refine stR hF (d_call Try.call58 hF (.cons rfl (.cons rfl .nil)) ((CallsR.val (l01Form_ok p n T f ((foldW (timesV p n T) (powW (timesV p n T) uu (hdl p n T G n 0) x) V m)) _ (by omega) (fun _ => by first | exact hv _ | exact hvt _ | exact hvs _ | exact hu _ | exact hT _ _ _ | exact hf _ | omega | (split <;> omega) | (dsimp only; split <;> omega) | assumption) (fun _ => by first | exact hv _ | exact hvt _ | exact hvs _ | exact hu _ | exact hT _ _ _ | exact hf _ | omega | (split <;> omega) | (dsimp only; split <;> omega) | assumption)) (congrArg (fun q : Nat => Value.int .i64 (q : Int)) (form_comm (p := p) (f := f) (v := (foldW (timesV p n T) (powW (timesV p n T) uu (hdl p n T G n 0) x) V m))))))) rfl ?_
          rintro _ w' a ⟨hx, rfl⟩ hF
          have hM := hM.ext hx
          refine st hF (g_assign hF rfl) rfl fun a hF => st hF (g_assign hF rfl) rfl fun a hF => ?_
          refine wpList_nil ?_
          refine tN ?_
          refine wp_ret ?_
          refine fin2 rfl hF.defers (res_tmp hF rfl) (res_tmp hF rfl) ⟨_, rfl, hM.below, ?_⟩
          show _ = _
          rfl

theorem LegNumberI_Y (p n : Nat) (T : Nat → Nat → Nat → Nat) (f : Nat → Nat) (b c m : Nat) (V : Nat → Nat → Nat) (x : Nat) (w : World) (hp : primeN p) (hn0 : 0 < n) (hn : n ≤ 6) (hTp : ∀ i j k, T i j k < p) (hT0 : ∀ i j k, n ≤ k → T i j k = 0) (hf : ∀ i, f i ≤ 255) (hV : ∀ i c, V i c ≤ 255) (hm : m < 2000000) (hb : Blk w b (vecsC m V)) (hk : x ≤ 30 ∧ m ≤ 6) (hfr : FrobN p n T f) (hcom : comP T) (G : Nat → Nat → Nat) (hG : IsCop p n (formM p n T f) G) (uu : Nat → Nat) (huu : UnitI p n T uu) (hc : CodeP (p : Int) (n : Int) T f m V) :
    CallsR Try.prog 23 #[.agg (algC (p : Int) (n : Int) T f), .int .i64 (((x : Nat) : Int)), .slice (some ⟨b, 0, none⟩) (m) (c)] w (fun res _ => res = .tuple #[.int .i64 ((sumTo (fun i => ((foldW (timesV p n T) (powW (timesV p n T) uu (hdl p n T G n 0) x) V m)) i * f i) 6 % p : Nat) : Int), .int .i64 0]) := by
  refine calls_fr [.agg (algC (p : Int) (n : Int) T f), .int .i64 (((x : Nat) : Int)), .slice (some ⟨b, 0, none⟩) (m) (c)] Try.func23 rfl Try.ntmps23 rfl fun a hF => ?_
  have hM : Mem w w [none, none, none] [(b, vecsC m V)] := MemX.startD w 3 _ (startD1 hb)
  change Fr 53 a [(0, .agg (algC (p : Int) (n : Int) T f)), (1, .int .i64 (((x : Nat) : Int))), (2, .slice (some ⟨b, 0, none⟩) (m) (c))] at hF
  have hp2 := hp.two
  have hp13 := hp.le
  have hT : ∀ i j k, T i j k ≤ 255 := fun i j k => by have := hTp i j k; omega
  have hGp := hG.lt
  have hG5 : ∀ i c, G i c ≤ 255 := fun i c => by have := hGp i c; omega
  have hhd : ∀ c, hdl p n T G n 0 c ≤ 255 := fun c => by have := hdl_lt (p := p) (n := n) (T := T) (G := G) (k := n) (l := 0) (c := c) (by omega); omega
  have hvp : ∀ k c, powW (timesV p n T) uu (hdl p n T G n 0) k c ≤ 255 := powW_le (fun c => by have := huu.small c; omega) (fun x c => timesV_le (by omega) (by omega) x _ c)
  have hvt := hvp x
  have hvs : ∀ c, hdl p n T G n 0 c ≤ 255 := hhd
  have hwp : ∀ k c, (foldW (timesV p n T) (powW (timesV p n T) uu (hdl p n T G n 0) x) V k) c ≤ 255 := foldW_le (hvp x) (fun a b c => timesV_le (by omega) (by omega) a b c)
  refine sq ?_
  refine wp_region_lit ?_
  refine stR hF (d_box 0 hM hF rfl) rfl ?_
  rintro _ w' a ⟨b1, rfl, hM, -⟩ hF
  change Mem w w' [some (b1, algC (p : Int) (n : Int) T f), none, none] [(b, vecsC m V)] at hM
  refine st hF (g_assign hF rfl) rfl fun a hF => st hF (g_assign hF rfl) rfl fun a hF => ?_
  refine wpList_nil ?_
  refine tN ?_
  refine sq ?_
  refine sq ?_
  refine wp_region_lit ?_
  refine st hF (g_loadAgg ty_ag_31 hF rfl (hM.row 0 rfl) (by simp only [fnC_size, cells_size, vecC_size, tabC_size, planeC_size] <;> omega) (whole cells_size)) rfl fun a hF => st hF (g_move hF rfl) rfl fun a hF => ?_
  refine stR hF (d_call Try.call35 hF (.cons rfl (.cons rfl .nil)) ((CallsR.val (areVectorsL_ok (p : Int) (n : Int) T f b c m V _ (fun _ _ _ => hT _ _ _) (fun _ => hf _) hV hm (hM.fz 0 rfl)) (congrArg Value.bool (decide_eq_true hc))))) rfl ?_
  rintro _ w' a ⟨hx, rfl⟩ hF
  have hM := hM.ext hx
  refine st hF (g_not hF rfl) rfl fun a hF => ?_
  refine wpList_nil ?_
  refine tN ?_
  refine c_Fl hF rfl ?_
  refine wp_skip ?_
  refine tN ?_
  refine sq ?_
  refine sq ?_
  refine wp_region_lit ?_
  refine st hF (g_move hF rfl) rfl fun a hF => st hF (g_lss hF rfl rfl) rfl fun a hF => st hF (g_move hF rfl) rfl fun a hF => ?_
  by_cases g3 : (((x : Nat) : Int) : Int) < 0
  ·
    first | rw [decide_eq_true g3] at hF | simp only [decide_eq_true g3] at hF
    exfalso; omega
  ·
    first | rw [decide_eq_false g3] at hF | simp only [decide_eq_false g3] at hF
    refine stY hF rfl rfl rfl (g_move hF rfl) rfl fun a hF => stY hF rfl rfl rfl (g_gtr hF rfl rfl) rfl fun a hF => st hF (g_pickF hF rfl rfl) rfl fun a hF => st hF (g_move hF rfl) rfl fun a hF => ?_
    by_cases g4 : 30 < (((x : Nat) : Int) : Int)
    ·
      first | rw [decide_eq_true g4] at hF | simp only [decide_eq_true g4] at hF
      exfalso; omega
    ·
      first | rw [decide_eq_false g4] at hF | simp only [decide_eq_false g4] at hF
      refine stY hF rfl rfl rfl (g_move hF rfl) rfl fun a hF => stY hF rfl rfl rfl (g_len ty_us_46 hF rfl) rfl fun a hF => stY hF rfl rfl rfl (g_gtr hF rfl rfl) rfl fun a hF => st hF (g_pickF hF rfl rfl) rfl fun a hF => ?_
      refine wpList_nil ?_
      refine tN ?_
      refine c_cond hF rfl (fun h5 => ?_) (fun h5 => ?_)
      ·
        first | (exfalso; omega) | exact absurd hfr (by assumption) | exact absurd hcom (by assumption)
      ·
        refine wp_skip ?_
        refine tN ?_
        refine sq ?_
        refine sq ?_
        refine wp_region_lit ?_
        refine st hF (g_loadAgg ty_ag_31 hF rfl (hM.row 0 rfl) (by simp only [fnC_size, cells_size, vecC_size, tabC_size, planeC_size] <;> omega) (whole cells_size)) rfl fun a hF => ?_
        refine stR hF (d_call Try.call40 hF (.cons rfl .nil) ((CallsR.val (hasFullForm_ok p n T f _ hp hn0 hn (fun _ _ _ => hT _ _ _) (fun _ => hf _)) (congrArg Value.bool (decide_eq_true hfr))))) rfl ?_
        rintro _ w' a ⟨hx, rfl⟩ hF
        have hM := hM.ext hx
        refine st hF (g_not hF rfl) rfl fun a hF => st hF (g_move hF rfl) rfl fun a hF => stY hF rfl rfl rfl (g_loadAgg ty_ag_31 hF rfl (hM.row 0 rfl) (by simp only [fnC_size, cells_size, vecC_size, tabC_size, planeC_size] <;> omega) (whole cells_size)) rfl fun a hF => ?_
        refine stYR hF rfl rfl rfl (d_call Try.call41 hF (.cons rfl .nil) ((CallsR.val (isOwnOpposite_ok p n T f _ (by omega) (by omega) (fun _ _ _ => hT _ _ _) (fun _ => hf _)) (congrArg Value.bool (decide_eq_true (comP_iff.2 hcom)))))) rfl ?_
        rintro _ w' a ⟨hx, rfl⟩ hF
        have hM := hM.ext hx
        refine stY hF rfl rfl rfl (g_not hF rfl) rfl fun a hF => st hF (g_pickF hF rfl rfl) rfl fun a hF => ?_
        refine wpList_nil ?_
        refine tN ?_
        refine c_Fl hF rfl ?_
        refine wp_skip ?_
        refine tN ?_
        refine sq ?_
        refine c_par 6 [1] [.val (.agg (algC (p : Int) (n : Int) T f)), .val (.agg (algC (p : Int) (n : Int) T f)), .val (.agg (vecC (hdl p n T G n 0))), .val (.int .i64 (((x : Nat) : Int))), .val (.agg (vecC (powW (timesV p n T) uu ((hdl p n T G n 0)) (x)))), .own 1 (fnC 6 (fun _ => .int .u8 (0))) (fun b => ptr b 0)] hmix rfl hF rfl hM ⟨fun a w gG hF hS hd => by have hM := hS.mem rfl; exact par_val hS rfl (g_loadAgg ty_ag_31 hF rfl (hM.row 0 rfl) (by simp only [fnC_size, cells_size, vecC_size, tabC_size, planeC_size] <;> omega) (whole cells_size)), fun a w gG hF hS hd => by have hM := hS.mem rfl; exact par_val hS rfl (g_loadAgg ty_ag_31 hF rfl (hM.row 0 rfl) (by simp only [fnC_size, cells_size, vecC_size, tabC_size, planeC_size] <;> omega) (whole cells_size)), fun a w gG hF hS hd => by have hF := hF.ext1 35 (hd 1 rfl rfl); exact par_call (by repeat constructor) hS rfl (d_call Try.call42 hF (.cons rfl .nil) (handle_ok p n T f G _ hp hn0 hn hTp hT0 hf hfr hG)), fun a w gG hF hS hd => by exact par_val hS rfl (g_move hF rfl), fun a w gG hF hS hd => by have hF := hF.ext1 34 (hd 0 rfl rfl); have hF := hF.ext1 36 (hd 2 rfl rfl); have hF := hF.ext1 37 (hd 3 rfl rfl); exact par_call (by repeat constructor) hS rfl (d_call Try.call36 hF (.cons rfl (.cons rfl (.cons rfl .nil))) (power_ok p n T f ((hdl p n T G n 0)) (x) _ hp hn0 hn hTp uu huu (fun _ => by first | exact hv _ | exact hvt _ | exact hvs _ | exact hu _ | exact hT _ _ _ | exact hf _ | omega | (split <;> omega) | (dsimp only; split <;> omega) | assumption) (by omega) (unit_timesV hT0 huu (fun c _ => hdl_lt (by omega)) (fun c h _ => hdl_out hT0 h)))), fun a w gG hF hS hd => by exact par_own (by repeat constructor) hS rfl rfl rfl rfl (d_alloc 1 hS.1 ty_ze_27), trivial⟩ ?_
        intro a w' L hF hS hq
        have hF := hF.ext1 34 (hq 0 rfl rfl)
        have hF := hF.ext1 35 (hq 1 rfl rfl)
        have hF := hF.ext1 36 (hq 2 rfl rfl)
        have hF := hF.ext1 37 (hq 3 rfl rfl)
        have hF := hF.ext1 38 (hq 4 rfl rfl)
        obtain ⟨hM, hL⟩ := hS
        obtain ⟨b7, hptr, hkk⟩ := hq 5 rfl rfl
        have hF := hF.ext1 8 hptr
        have hL := hL.take hkk
        obtain rfl := hL.eq
        change Mem w w' [some (b1, algC (p : Int) (n : Int) T f), some (b7, fnC 6 (fun _ => .int .u8 (0))), none] [(b, vecsC m V)] at hM
        change wpList Try.prog _ _ [_] _ _
        refine stN hF (d_storeAgg 1 hM rfl ty_sz_27 hF rfl rfl (by first | exact vecC_one | exact cells_one | (refine fnC_one fun _ _ => ?_; first | rfl | (split <;> rfl))) (by simp only [fnC_size, cells_size, vecC_size, tabC_size, planeC_size]) (by simp only [fnC_size, cells_size, vecC_size, tabC_size, planeC_size] <;> omega) (splice_whole _ _ (by simp only [fnC_size, cells_size, vecC_size, tabC_size, planeC_size]))) ?_
        intro _ w' a hM hF
        change Mem w w' [some (b1, algC (p : Int) (n : Int) T f), some (b7, vecC (powW (timesV p n T) uu ((hdl p n T G n 0)) (x))), none] [(b, vecsC m V)] at hM
        refine wpList_nil ?_
        refine tN ?_
        refine sq ?_
        refine sq ?_
        refine wp_region_lit ?_
        refine st hF (g_move hF rfl) rfl fun a hF => st hF (g_len ty_us_46 hF rfl) rfl fun a hF => st hF (g_move hF rfl) rfl fun a hF => ?_
        refine wpList_nil ?_
        refine tN ?_
        refine wp_block ?_
        change Mem w _ [some (b1, algC (p : Int) (n : Int) T f), some (b7, vecC (powW (timesV p n T) uu ((hdl p n T G n 0)) (x))), none] [(b, vecsC m V)] at hM
        refine c_loop (fun (kk : Nat) a w' => kk ≤ m ∧ (True) ∧ Fr 53 a [(8, ptr b7 (0)), (38, .agg (vecC (powW (timesV p n T) uu ((hdl p n T G n 0)) (x)))), (37, .int .i64 (((x : Nat) : Int))), (36, .agg (vecC (hdl p n T G n 0))), (35, .agg (algC (p : Int) (n : Int) T f)), (34, .agg (algC (p : Int) (n : Int) T f)), (0, .agg (algC (p : Int) (n : Int) T f)), (1, .int .i64 (((x : Nat) : Int))), (2, .slice (some ⟨b, 0, none⟩) (m) (c)), (3, ptr b1 (0)), (6, .int .i64 (0)), (7, .int .i64 (0)), (11, .agg (algC (p : Int) (n : Int) T f)), (12, .slice (some ⟨b, 0, none⟩) (m) (c)), (13, .bool (true)), (14, .bool (false)), (15, .int .i64 (((x : Nat) : Int))), (16, .bool (false)), (17, .bool (false)), (18, .int .i64 (((x : Nat) : Int))), (19, .bool (false)), (20, .bool (false)), (21, .bool (false)), (22, .slice (some ⟨b, 0, none⟩) (m) (c)), (23, .int .i64 (((m : Nat) : Int))), (24, .bool (decide (6 < (((m : Nat) : Int) : Int)))), (25, .bool (decide (6 < (((m : Nat) : Int) : Int)))), (26, .agg (algC (p : Int) (n : Int) T f)), (27, .bool (true)), (28, .bool (false)), (29, .bool (false)), (30, .agg (algC (p : Int) (n : Int) T f)), (31, .bool (true)), (32, .bool (false)), (33, .bool (false)), (39, .slice (some ⟨b, 0, none⟩) (m) (c)), (40, .int .i64 (((m : Nat) : Int))), (41, .int .i64 (((kk : Nat) : Int)))] ∧ Mem w w' [some (b1, algC (p : Int) (n : Int) T f), some (b7, vecC (foldW (timesV p n T) (powW (timesV p n T) uu (hdl p n T G n 0) x) V kk)), none] [(b, vecsC m V)]) (fun kk => m - kk) 0 ?_ ?_
        ·
          refine ⟨by omega, trivial, hF.sub _ (by repeat' constructor), ?_⟩
          exact hM
        ·
          clear hF hM
          rintro gi a w' ⟨hgi, hinv1, hF, hM⟩
          have hv : ∀ c, V gi c ≤ 255 := hV gi
          have hvt := hwp gi
          refine sq ?_
          refine wp_region_lit ?_
          refine st hF (g_lss hF rfl rfl) rfl fun a hF => ?_
          refine wpList_nil ?_
          refine tN ?_
          refine sq ?_
          refine c_cond hF rfl (fun h8 => ?_) (fun h8 => ?_)
          ·
            refine wp_skip ?_
            refine tN ?_
            refine sq ?_
            refine wp_block ?_
            refine sq ?_
            refine wp_region_lit ?_
            refine st hF (g_indexSl (i := gi) ty_sl_46 hF rfl rfl rfl (by omega)) rfl fun a hF => st hF (g_loadAgg ty_ag_27 hF rfl (hM.fz 0 rfl) (by rw [vecsC_size]; omega) (vecsC_row (gi) (by omega) (by omega) (by omega))) rfl fun a hF => ?_
            refine stR hF (d_alloc 2 hM ty_ze_27) rfl ?_
            rintro _ w' a ⟨b9, rfl, hM, -⟩ hF
            change Mem w w' [some (b1, algC (p : Int) (n : Int) T f), some (b7, vecC (foldW (timesV p n T) (powW (timesV p n T) uu (hdl p n T G n 0) x) V gi)), some (b9, fnC 6 (fun _ => .int .u8 (0)))] [(b, vecsC m V)] at hM
            refine stN hF (d_storeAgg 2 hM rfl ty_sz_27 hF rfl rfl (by first | exact vecC_one | exact cells_one | (refine fnC_one fun _ _ => ?_; first | rfl | (split <;> rfl))) (by simp only [fnC_size, cells_size, vecC_size, tabC_size, planeC_size]) (by simp only [fnC_size, cells_size, vecC_size, tabC_size, planeC_size] <;> omega) (splice_whole _ _ (by simp only [fnC_size, cells_size, vecC_size, tabC_size, planeC_size]))) ?_
            intro _ w' a hM hF
            change Mem w w' [some (b1, algC (p : Int) (n : Int) T f), some (b7, vecC (foldW (timesV p n T) (powW (timesV p n T) uu (hdl p n T G n 0) x) V gi)), some (b9, vecC (V (gi)))] [(b, vecsC m V)] at hM
            refine wpList_nil ?_
            refine tN ?_
            refine wp_region_lit ?_
            refine st hF (g_loadAgg ty_ag_31 hF rfl (hM.row 0 rfl) (by simp only [fnC_size, cells_size, vecC_size, tabC_size, planeC_size] <;> omega) (whole cells_size)) rfl fun a hF => st hF (g_loadAgg ty_ag_27 hF rfl (hM.row 1 rfl) (by simp only [fnC_size, cells_size, vecC_size, tabC_size, planeC_size] <;> omega) (whole (by simp only [fnC_size, cells_size, vecC_size, tabC_size, planeC_size]))) rfl fun a hF => st hF (g_loadAgg ty_ag_27 hF rfl (hM.row 2 rfl) (by simp only [fnC_size, cells_size, vecC_size, tabC_size, planeC_size] <;> omega) (whole (by simp only [fnC_size, cells_size, vecC_size, tabC_size, planeC_size]))) rfl fun a hF => ?_
            refine stR hF (d_call Try.call37 hF (.cons rfl (.cons rfl (.cons rfl .nil))) (product_ok p n T f ((foldW (timesV p n T) (powW (timesV p n T) uu (hdl p n T G n 0) x) V gi)) ((V (gi))) _ (by omega) (by omega) (by omega) (fun _ _ _ => hT _ _ _) (fun _ => by first | exact hv _ | exact hvt _ | exact hvs _ | exact hu _ | exact hT _ _ _ | exact hf _ | omega | (split <;> omega) | (dsimp only; split <;> omega) | assumption) (fun _ => by first | exact hv _ | exact hvt _ | exact hvs _ | exact hu _ | exact hT _ _ _ | exact hf _ | omega | (split <;> omega) | (dsimp only; split <;> omega) | assumption))) rfl ?_
            rintro _ w' a ⟨hx, rfl⟩ hF
            have hM := hM.ext hx
            refine stN hF (d_storeAgg 1 hM rfl ty_sz_27 hF rfl rfl (by first | exact vecC_one | exact cells_one | (refine fnC_one fun _ _ => ?_; first | rfl | (split <;> rfl))) (by simp only [fnC_size, cells_size, vecC_size, tabC_size, planeC_size]) (by simp only [fnC_size, cells_size, vecC_size, tabC_size, planeC_size] <;> omega) (splice_whole _ _ (by simp only [fnC_size, cells_size, vecC_size, tabC_size, planeC_size]))) ?_
            intro _ w' a hM hF
            change Mem w w' [some (b1, algC (p : Int) (n : Int) T f), some (b7, vecC (timesV p n T ((foldW (timesV p n T) (powW (timesV p n T) uu (hdl p n T G n 0) x) V gi)) ((V (gi))))), some (b9, vecC (V (gi)))] [(b, vecsC m V)] at hM
            refine wpList_nil ?_
            refine iN ?_
            refine tN ?_
            refine wp_region_lit ?_
            refine st hF (g_add hF rfl rfl (add_nat (gi) (1) (by omega))) rfl fun a hF => st hF (g_move hF rfl) rfl fun a hF => ?_
            refine wpList_nil ?_
            refine tN ?_
            have hM := hM.drop 2
            refine ⟨gi + 1, ⟨by omega, trivial, hF.sub _ (by repeat' constructor), ?_⟩, by omega⟩
            exact hM
          ·
            obtain rfl : m = gi := by omega
            refine wp_exit ?_
            refine tX ?_
            refine tX ?_
            refine ib_same ?_
            refine tN ?_
            refine sq ?_
            refine wp_region_lit ?_
            refine st hF (g_loadAgg ty_ag_31 hF rfl (hM.row 0 rfl) (by simp only [fnC_size, cells_size, vecC_size, tabC_size, planeC_size] <;> omega) (whole cells_size)) rfl fun a hF => st hF (g_loadAgg ty_ag_27 hF rfl (hM.row 1 rfl) (by simp only [fnC_size, cells_size, vecC_size, tabC_size, planeC_size] <;> omega) (whole (by simp only [fnC_size, cells_size, vecC_size, tabC_size, planeC_size]))) rfl fun a hF => ?_
            refine stR hF (d_call Try.call43 hF (.cons rfl (.cons rfl .nil)) (form_ok p n T f ((foldW (timesV p n T) (powW (timesV p n T) uu (hdl p n T G n 0) x) V m)) _ (by omega) (fun _ => by first | exact hv _ | exact hvt _ | exact hvs _ | exact hu _ | exact hT _ _ _ | exact hf _ | omega | (split <;> omega) | (dsimp only; split <;> omega) | assumption) (fun _ => by first | exact hv _ | exact hvt _ | exact hvs _ | exact hu _ | exact hT _ _ _ | exact hf _ | omega | (split <;> omega) | (dsimp only; split <;> omega) | assumption))) rfl ?_
            rintro _ w' a ⟨hx, rfl⟩ hF
            have hM := hM.ext hx
            refine st hF (g_assign hF rfl) rfl fun a hF => st hF (g_assign hF rfl) rfl fun a hF => ?_
            refine wpList_nil ?_
            refine tN ?_
            refine wp_ret ?_
            refine fin2 rfl hF.defers (res_tmp hF rfl) (res_tmp hF rfl) ⟨_, rfl, hM.below, ?_⟩
            show _ = _
            rfl

theorem LegNumberI0_Y (p n : Nat) (T : Nat → Nat → Nat → Nat) (f : Nat → Nat) (x : Nat) (w : World) (hp : primeN p) (hn0 : 0 < n) (hn : n ≤ 6) (hTp : ∀ i j k, T i j k < p) (hT0 : ∀ i j k, n ≤ k → T i j k = 0) (hf : ∀ i, f i ≤ 255) (hk : x ≤ 30 ∧ 0 ≤ 6) (hfr : FrobN p n T f) (hcom : comP T) (G : Nat → Nat → Nat) (hG : IsCop p n (formM p n T f) G) (uu : Nat → Nat) (huu : UnitI p n T uu) (hc : CodeP (p : Int) (n : Int) T f 0 (vAtL [])) :
    CallsR Try.prog 23 #[.agg (algC (p : Int) (n : Int) T f), .int .i64 (((x : Nat) : Int)), .slice none 0 0] w (fun res _ => res = .tuple #[.int .i64 ((sumTo (fun i => ((foldW (timesV p n T) (powW (timesV p n T) uu (hdl p n T G n 0) x) (vAtL []) 0)) i * f i) 6 % p : Nat) : Int), .int .i64 0]) := by
  refine calls_fr [.agg (algC (p : Int) (n : Int) T f), .int .i64 (((x : Nat) : Int)), .slice none 0 0] Try.func23 rfl Try.ntmps23 rfl fun a hF => ?_
  have hM : Mem w w [none, none, none] [] := MemX.start w 3
  change Fr 53 a [(0, .agg (algC (p : Int) (n : Int) T f)), (1, .int .i64 (((x : Nat) : Int))), (2, .slice none 0 0)] at hF
  have hp2 := hp.two
  have hp13 := hp.le
  have hT : ∀ i j k, T i j k ≤ 255 := fun i j k => by have := hTp i j k; omega
  have hGp := hG.lt
  have hG5 : ∀ i c, G i c ≤ 255 := fun i c => by have := hGp i c; omega
  have hhd : ∀ c, hdl p n T G n 0 c ≤ 255 := fun c => by have := hdl_lt (p := p) (n := n) (T := T) (G := G) (k := n) (l := 0) (c := c) (by omega); omega
  have hvp : ∀ k c, powW (timesV p n T) uu (hdl p n T G n 0) k c ≤ 255 := powW_le (fun c => by have := huu.small c; omega) (fun x c => timesV_le (by omega) (by omega) x _ c)
  have hvt := hvp x
  have hvs : ∀ c, hdl p n T G n 0 c ≤ 255 := hhd
  have hwp : ∀ k c, (foldW (timesV p n T) (powW (timesV p n T) uu (hdl p n T G n 0) x) (vAtL []) k) c ≤ 255 := foldW_le (hvp x) (fun a b c => timesV_le (by omega) (by omega) a b c)
  refine sq ?_
  refine wp_region_lit ?_
  refine stR hF (d_box 0 hM hF rfl) rfl ?_
  rintro _ w' a ⟨b1, rfl, hM, -⟩ hF
  change Mem w w' [some (b1, algC (p : Int) (n : Int) T f), none, none] [] at hM
  refine st hF (g_assign hF rfl) rfl fun a hF => st hF (g_assign hF rfl) rfl fun a hF => ?_
  refine wpList_nil ?_
  refine tN ?_
  refine sq ?_
  refine sq ?_
  refine wp_region_lit ?_
  refine st hF (g_loadAgg ty_ag_31 hF rfl (hM.row 0 rfl) (by simp only [fnC_size, cells_size, vecC_size, tabC_size, planeC_size] <;> omega) (whole cells_size)) rfl fun a hF => st hF (g_move hF rfl) rfl fun a hF => ?_
  refine stR hF (d_call Try.call35 hF (.cons rfl (.cons rfl .nil)) ((CallsR.val (areVectors_0 (p : Int) (n : Int) T f (vAtL []) _ (fun _ _ _ => hT _ _ _) (fun _ => hf _)) (congrArg Value.bool (decide_eq_true hc))))) rfl ?_
  rintro _ w' a ⟨hx, rfl⟩ hF
  have hM := hM.ext hx
  refine st hF (g_not hF rfl) rfl fun a hF => ?_
  refine wpList_nil ?_
  refine tN ?_
  refine c_Fl hF rfl ?_
  refine wp_skip ?_
  refine tN ?_
  refine sq ?_
  refine sq ?_
  refine wp_region_lit ?_
  refine st hF (g_move hF rfl) rfl fun a hF => st hF (g_lss hF rfl rfl) rfl fun a hF => st hF (g_move hF rfl) rfl fun a hF => ?_
  by_cases g3 : (((x : Nat) : Int) : Int) < 0
  ·
    first | rw [decide_eq_true g3] at hF | simp only [decide_eq_true g3] at hF
    exfalso; omega
  ·
    first | rw [decide_eq_false g3] at hF | simp only [decide_eq_false g3] at hF
    refine stY hF rfl rfl rfl (g_move hF rfl) rfl fun a hF => stY hF rfl rfl rfl (g_gtr hF rfl rfl) rfl fun a hF => st hF (g_pickF hF rfl rfl) rfl fun a hF => st hF (g_move hF rfl) rfl fun a hF => ?_
    by_cases g4 : 30 < (((x : Nat) : Int) : Int)
    ·
      first | rw [decide_eq_true g4] at hF | simp only [decide_eq_true g4] at hF
      exfalso; omega
    ·
      first | rw [decide_eq_false g4] at hF | simp only [decide_eq_false g4] at hF
      refine stY hF rfl rfl rfl (g_move hF rfl) rfl fun a hF => stY hF rfl rfl rfl (g_len0 ty_us_46 hF rfl) rfl fun a hF => stY hF rfl rfl rfl (g_gtr hF rfl rfl) rfl fun a hF => st hF (g_pickF hF rfl rfl) rfl fun a hF => ?_
      refine wpList_nil ?_
      refine tN ?_
      refine c_cond hF rfl (fun h5 => ?_) (fun h5 => ?_)
      ·
        first | (exfalso; omega) | exact absurd hfr (by assumption) | exact absurd hcom (by assumption)
      ·
        refine wp_skip ?_
        refine tN ?_
        refine sq ?_
        refine sq ?_
        refine wp_region_lit ?_
        refine st hF (g_loadAgg ty_ag_31 hF rfl (hM.row 0 rfl) (by simp only [fnC_size, cells_size, vecC_size, tabC_size, planeC_size] <;> omega) (whole cells_size)) rfl fun a hF => ?_
        refine stR hF (d_call Try.call40 hF (.cons rfl .nil) ((CallsR.val (hasFullForm_ok p n T f _ hp hn0 hn (fun _ _ _ => hT _ _ _) (fun _ => hf _)) (congrArg Value.bool (decide_eq_true hfr))))) rfl ?_
        rintro _ w' a ⟨hx, rfl⟩ hF
        have hM := hM.ext hx
        refine st hF (g_not hF rfl) rfl fun a hF => st hF (g_move hF rfl) rfl fun a hF => stY hF rfl rfl rfl (g_loadAgg ty_ag_31 hF rfl (hM.row 0 rfl) (by simp only [fnC_size, cells_size, vecC_size, tabC_size, planeC_size] <;> omega) (whole cells_size)) rfl fun a hF => ?_
        refine stYR hF rfl rfl rfl (d_call Try.call41 hF (.cons rfl .nil) ((CallsR.val (isOwnOpposite_ok p n T f _ (by omega) (by omega) (fun _ _ _ => hT _ _ _) (fun _ => hf _)) (congrArg Value.bool (decide_eq_true (comP_iff.2 hcom)))))) rfl ?_
        rintro _ w' a ⟨hx, rfl⟩ hF
        have hM := hM.ext hx
        refine stY hF rfl rfl rfl (g_not hF rfl) rfl fun a hF => st hF (g_pickF hF rfl rfl) rfl fun a hF => ?_
        refine wpList_nil ?_
        refine tN ?_
        refine c_Fl hF rfl ?_
        refine wp_skip ?_
        refine tN ?_
        refine sq ?_
        refine c_par 6 [1] [.val (.agg (algC (p : Int) (n : Int) T f)), .val (.agg (algC (p : Int) (n : Int) T f)), .val (.agg (vecC (hdl p n T G n 0))), .val (.int .i64 (((x : Nat) : Int))), .val (.agg (vecC (powW (timesV p n T) uu ((hdl p n T G n 0)) (x)))), .own 1 (fnC 6 (fun _ => .int .u8 (0))) (fun b => ptr b 0)] hmix rfl hF rfl hM ⟨fun a w gG hF hS hd => by have hM := hS.mem rfl; exact par_val hS rfl (g_loadAgg ty_ag_31 hF rfl (hM.row 0 rfl) (by simp only [fnC_size, cells_size, vecC_size, tabC_size, planeC_size] <;> omega) (whole cells_size)), fun a w gG hF hS hd => by have hM := hS.mem rfl; exact par_val hS rfl (g_loadAgg ty_ag_31 hF rfl (hM.row 0 rfl) (by simp only [fnC_size, cells_size, vecC_size, tabC_size, planeC_size] <;> omega) (whole cells_size)), fun a w gG hF hS hd => by have hF := hF.ext1 35 (hd 1 rfl rfl); exact par_call (by repeat constructor) hS rfl (d_call Try.call42 hF (.cons rfl .nil) (handle_ok p n T f G _ hp hn0 hn hTp hT0 hf hfr hG)), fun a w gG hF hS hd => by exact par_val hS rfl (g_move hF rfl), fun a w gG hF hS hd => by have hF := hF.ext1 34 (hd 0 rfl rfl); have hF := hF.ext1 36 (hd 2 rfl rfl); have hF := hF.ext1 37 (hd 3 rfl rfl); exact par_call (by repeat constructor) hS rfl (d_call Try.call36 hF (.cons rfl (.cons rfl (.cons rfl .nil))) (power_ok p n T f ((hdl p n T G n 0)) (x) _ hp hn0 hn hTp uu huu (fun _ => by first | exact hv _ | exact hvt _ | exact hvs _ | exact hu _ | exact hT _ _ _ | exact hf _ | omega | (split <;> omega) | (dsimp only; split <;> omega) | assumption) (by omega) (unit_timesV hT0 huu (fun c _ => hdl_lt (by omega)) (fun c h _ => hdl_out hT0 h)))), fun a w gG hF hS hd => by exact par_own (by repeat constructor) hS rfl rfl rfl rfl (d_alloc 1 hS.1 ty_ze_27), trivial⟩ ?_
        intro a w' L hF hS hq
        have hF := hF.ext1 34 (hq 0 rfl rfl)
        have hF := hF.ext1 35 (hq 1 rfl rfl)
        have hF := hF.ext1 36 (hq 2 rfl rfl)
        have hF := hF.ext1 37 (hq 3 rfl rfl)
        have hF := hF.ext1 38 (hq 4 rfl rfl)
        obtain ⟨hM, hL⟩ := hS
        obtain ⟨b7, hptr, hkk⟩ := hq 5 rfl rfl
        have hF := hF.ext1 8 hptr
        have hL := hL.take hkk
        obtain rfl := hL.eq
        change Mem w w' [some (b1, algC (p : Int) (n : Int) T f), some (b7, fnC 6 (fun _ => .int .u8 (0))), none] [] at hM
        change wpList Try.prog _ _ [_] _ _
        refine stN hF (d_storeAgg 1 hM rfl ty_sz_27 hF rfl rfl (by first | exact vecC_one | exact cells_one | (refine fnC_one fun _ _ => ?_; first | rfl | (split <;> rfl))) (by simp only [fnC_size, cells_size, vecC_size, tabC_size, planeC_size]) (by simp only [fnC_size, cells_size, vecC_size, tabC_size, planeC_size] <;> omega) (splice_whole _ _ (by simp only [fnC_size, cells_size, vecC_size, tabC_size, planeC_size]))) ?_
        intro _ w' a hM hF
        change Mem w w' [some (b1, algC (p : Int) (n : Int) T f), some (b7, vecC (powW (timesV p n T) uu ((hdl p n T G n 0)) (x))), none] [] at hM
        refine wpList_nil ?_
        refine tN ?_
        refine sq ?_
        refine sq ?_
        refine wp_region_lit ?_
        refine st hF (g_move hF rfl) rfl fun a hF => st hF (g_len0 ty_us_46 hF rfl) rfl fun a hF => st hF (g_move hF rfl) rfl fun a hF => ?_
        refine wpList_nil ?_
        refine tN ?_
        refine wp_block ?_
        change Mem w _ [some (b1, algC (p : Int) (n : Int) T f), some (b7, vecC (powW (timesV p n T) uu ((hdl p n T G n 0)) (x))), none] [] at hM
        refine c_loop (fun (kk : Nat) a w' => kk ≤ 0 ∧ (True) ∧ Fr 53 a [(8, ptr b7 (0)), (38, .agg (vecC (powW (timesV p n T) uu ((hdl p n T G n 0)) (x)))), (37, .int .i64 (((x : Nat) : Int))), (36, .agg (vecC (hdl p n T G n 0))), (35, .agg (algC (p : Int) (n : Int) T f)), (34, .agg (algC (p : Int) (n : Int) T f)), (0, .agg (algC (p : Int) (n : Int) T f)), (1, .int .i64 (((x : Nat) : Int))), (2, .slice none 0 0), (3, ptr b1 (0)), (6, .int .i64 (0)), (7, .int .i64 (0)), (11, .agg (algC (p : Int) (n : Int) T f)), (12, .slice none 0 0), (13, .bool (true)), (14, .bool (false)), (15, .int .i64 (((x : Nat) : Int))), (16, .bool (false)), (17, .bool (false)), (18, .int .i64 (((x : Nat) : Int))), (19, .bool (false)), (20, .bool (false)), (21, .bool (false)), (22, .slice none 0 0), (23, .int .i64 (0)), (24, .bool (decide (6 < (0 : Int)))), (25, .bool (decide (6 < (0 : Int)))), (26, .agg (algC (p : Int) (n : Int) T f)), (27, .bool (true)), (28, .bool (false)), (29, .bool (false)), (30, .agg (algC (p : Int) (n : Int) T f)), (31, .bool (true)), (32, .bool (false)), (33, .bool (false)), (39, .slice none 0 0), (40, .int .i64 (0)), (41, .int .i64 (((kk : Nat) : Int)))] ∧ Mem w w' [some (b1, algC (p : Int) (n : Int) T f), some (b7, vecC (foldW (timesV p n T) (powW (timesV p n T) uu (hdl p n T G n 0) x) (vAtL []) kk)), none] []) (fun kk => 0 - kk) 0 ?_ ?_
        ·
          refine ⟨by omega, trivial, hF.sub _ (by repeat' constructor), ?_⟩
          exact hM
        ·
          clear hF hM
          rintro gi a w' ⟨hgi, hinv1, hF, hM⟩
          have hvt := hwp gi
          refine sq ?_
          refine wp_region_lit ?_
          refine st hF (g_lss hF rfl rfl) rfl fun a hF => ?_
          refine wpList_nil ?_
          refine tN ?_
          refine sq ?_
          refine c_cond hF rfl (fun h8 => ?_) (fun h8 => ?_)
          ·
            exfalso; omega
          ·
            obtain rfl : 0 = gi := by omega
            refine wp_exit ?_
            refine tX ?_
            refine tX ?_
            refine ib_same ?_
            refine tN ?_
            refine sq ?_
            refine wp_region_lit ?_
            refine st hF (g_loadAgg ty_ag_31 hF rfl (hM.row 0 rfl) (by simp only [fnC_size, cells_size, vecC_size, tabC_size, planeC_size] <;> omega) (whole cells_size)) rfl fun a hF => st hF (g_loadAgg ty_ag_27 hF rfl (hM.row 1 rfl) (by simp only [fnC_size, cells_size, vecC_size, tabC_size, planeC_size] <;> omega) (whole (by simp only [fnC_size, cells_size, vecC_size, tabC_size, planeC_size]))) rfl fun a hF => ?_
            refine stR hF (d_call Try.call43 hF (.cons rfl (.cons rfl .nil)) (form_ok p n T f ((foldW (timesV p n T) (powW (timesV p n T) uu (hdl p n T G n 0) x) (vAtL []) 0)) _ (by omega) (fun _ => by first | exact hv _ | exact hvt _ | exact hvs _ | exact hu _ | exact hT _ _ _ | exact hf _ | omega | (split <;> omega) | (dsimp only; split <;> omega) | assumption) (fun _ => by first | exact hv _ | exact hvt _ | exact hvs _ | exact hu _ | exact hT _ _ _ | exact hf _ | omega | (split <;> omega) | (dsimp only; split <;> omega) | assumption))) rfl ?_
            rintro _ w' a ⟨hx, rfl⟩ hF
            have hM := hM.ext hx
            refine st hF (g_assign hF rfl) rfl fun a hF => st hF (g_assign hF rfl) rfl fun a hF => ?_
            refine wpList_nil ?_
            refine tN ?_
            refine wp_ret ?_
            refine fin2 rfl hF.defers (res_tmp hF rfl) (res_tmp hF rfl) ⟨_, rfl, hM.below, ?_⟩
            show _ = _
            rfl

end Go.Proofs.Ytficgmohfabplaa
