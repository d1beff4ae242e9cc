/- What functions of the program return, as walks over their operations; no statement of the seat is proved here. -/
import Derived.Test.YtbeodbfbfbefkaaDoorZ15
set_option linter.unusedVariables false
set_option linter.unusedSimpArgs false
namespace Go.Proofs.YtbeodbfbfbefkaaDoor
open Go Go.RowKit Go.Sw Go.Ech
open Classical
theorem ty_ub_4 : Tryd.prog.underlying 4 = some .bool := by kernel_rfl
theorem isPrimClosure_ok (p n : Nat) (T : Nat → Nat → Nat → Nat) (f : Nat → Nat) (v : Nat → Nat) (bv : Nat) (w : World) (hp : primeN p) (hn0 : 0 < n) (hn : n ≤ 6) (hTp : ∀ i j k, T i j k < p) (hT0 : ∀ i j k, n ≤ k → T i j k = 0) (hf : ∀ i, f i ≤ 255) (uu : Nat → Nat) (huu : UnitI p n T uu) (haI : AssI p n T) (hkI : ComI n T) (hv : ∀ i, v i ≤ 255) (hbv : Blk w bv (vecC v)) :
    CallsR Tryd.prog 28 #[.agg (algC (p : Int) (n : Int) T f), ptr bv (0)] w (fun u w' => ∃ rF VF, IsKer p n (spE p n T uu p 1) n rF VF ∧ u = .bool (decide (∃ i, i < (prL p n T uu (padN n VF) rF).length ∧ eqV 6 ((srt (gz (prL p n T uu (padN n VF) rF)) (prL p n T uu (padN n VF) rF).length) i) v))) := by
  refine calls_fr [.agg (algC (p : Int) (n : Int) T f), ptr bv (0)] Tryd.func28 rfl Tryd.ntmps28 rfl fun a hF => ?_
  have hM : Mem w w [none] [(bv, vecC v)] := MemX.startD w 1 _ (startD1 hbv)
  change Fr 7 a [(0, .agg (algC (p : Int) (n : Int) T f)), (1, ptr bv (0))] at hF
  have hp2 := hp.two
  have hp13 := hp.le
  have hT : ∀ i j k, T i j k ≤ 255 := fun i j k => by have := hTp i j k; omega
  refine sq (wp_region_lit ?_)
  refine stR hF (d_box 0 hM hF rfl) rfl ?_
  rintro _ w' a ⟨b1, rfl, hM, -⟩ hF
  change Mem w w' [some (b1, algC (p : Int) (n : Int) T f)] [(bv, vecC v)] at hM
  refine st hF (g_assign hF rfl) rfl fun a hF => ?_
  refine wpList_nil (tN (sq (wp_region_lit ?_)))
  refine st hF (g_loadAgg ty_ag_32 hF rfl (hM.row 0 rfl) (by simp only [fnC_size, cells_size, vecC_size, tabC_size, planeC_size, dgC_size, numC_sz, ldB_size, rowV_size, mrk_size] <;> omega) (whole cells_size)) rfl fun a hF => st hF (g_loadAgg ty_ag_30 hF rfl (hM.fz 0 rfl) (by unfold vecC; rw [fnC_size]; decide) fnC6_vecK) rfl fun a hF => ?_
  refine stR hF (d_call Tryd.call29 hF (.cons rfl (.cons rfl .nil)) (isPrimitive_ok p n T f v _ hp hn0 hn hTp hT0 hf uu huu haI hkI hv)) rfl ?_
  rintro _ w' a ⟨hx, rF, VF, hIK, rfl⟩ hF
  have hM := hM.ext hx
  refine st hF (g_assign hF rfl) rfl fun a hF => ?_
  refine wpList_nil (tN (wp_ret ?_))
  refine fin1 rfl hF.defers (res_tmp hF rfl) ⟨_, rfl, hM.below, ?_⟩
  exact ⟨rF, VF, hIK, rfl⟩

theorem doorBV_A (p n : Int) (T : Nat → Nat → Nat → Nat) (f : Nat → Nat) (v : Nat → Nat) (bl : Nat) (wf : Value) (w : World) (hT : ∀ i j k, T i j k ≤ 255) (hf : ∀ i, f i ≤ 255) (hv : ∀ i, v i ≤ 255) (hc : ¬ CodeP p n T f 1 (vAtL [v])) (hbl : Blk w bl (vecsC 1 (vAtL [v]))) :
    CallsR Tryd.prog 27 #[.agg (algC p n T f), wf, .slice (some ⟨bl, 0, none⟩) (1) (1)] w (fun res _ => res = .tuple #[.bool false, .int .i64 1]) := by
  refine calls_frD [.agg (algC p n T f), wf, .slice (some ⟨bl, 0, none⟩) (1) (1)] Tryd.func27 rfl Tryd.ntmps27 rfl fun a hF => ?_
  have hM : Mem w w [none, none] [(bl, (vecsC 1 (vAtL [v])))] := MemX.startD w 2 _ (startD1 hbl)
  change Fr 21 a [(0, .agg (algC p n T f)), (1, wf), (2, .slice (some ⟨bl, 0, none⟩) (1) (1))] at hF
  have hVb : ∀ i c, vAtL [v] i c ≤ 255 := vAtL_le (fun x hx => by simp at hx; subst hx; assumption)
  refine sq (wp_region_lit ?_)
  refine stR hF (d_box 0 hM hF rfl) rfl ?_
  rintro _ w' a ⟨b1, rfl, hM, -⟩ hF
  change Mem w w' [some (b1, algC p n T f), none] [(bl, (vecsC 1 (vAtL [v])))] at hM
  refine st hF (g_assign hF rfl) rfl fun a hF => ?_
  refine stR hF (d_alloc 1 hM ty_ze_2) rfl ?_
  rintro _ w' a ⟨b2, rfl, hM, -⟩ hF
  change Mem w w' [some (b1, algC p n T f), some (b2, #[.int .i64 (0)])] [(bl, (vecsC 1 (vAtL [v])))] at hM
  refine wpList_nil (tN (sq (wp_region_lit ?_)))
  refine st hF (g_makeFunc hF rfl) rfl fun a hF => ?_
  refine st_defer hF rfl fun a hF => ?_
  refine wpList_nil (tN (sq (sq ?_)))
  refine wp_regionD ?_
  refine st hF (g_loadAgg ty_ag_32 hF rfl (hM.row 0 rfl) (by simp only [fnC_size, cells_size, vecC_size, tabC_size, planeC_size, dgC_size, numC_sz, ldB_size, rowV_size, mrk_size] <;> omega) (whole cells_size)) rfl fun a hF => st hF (g_move hF rfl) rfl fun a hF => ?_
  refine stR hF (d_call Tryd.call44 hF (.cons rfl (.cons rfl .nil)) ((CallsR.val (areVectors_ok p n T f bl 1 1 (vAtL [v]) _ (fun _ _ _ => hT _ _ _) (fun _ => hf _) hVb (by omega) (hM.fz 0 rfl)) (congrArg Value.bool (decide_eq_false hc))))) rfl ?_
  rintro _ w' a ⟨hx, rfl⟩ hF
  have hM := hM.ext hx
  refine st hF (g_not hF rfl) rfl fun a hF => ?_
  refine wpList_nil (tN ?_)
  refine c_TD hF rfl ?_
  refine sq ?_
  refine wp_regionD ?_
  refine st hF (g_move hF rfl) rfl fun a hF => st hF (g_assign hF rfl) rfl fun a hF => ?_
  refine stN hF (d_store 1 hM rfl ty_on_2 hF rfl rfl rfl (by first | omega | (simp only [fnC_size, cells_size, vecC_size, tabC_size, planeC_size, dgC_size, numC_sz, ldB_size, rowV_size, mrk_size] <;> omega) | simp)) ?_
  intro _ w' a hM hF
  change Mem w w' [some (b1, algC p n T f), some (b2, #[.int .i64 (1)])] [(bl, (vecsC 1 (vAtL [v])))] at hM
  refine wpList_nil (tN (wp_ret (tR ?_)))
  refine door_end (f := 51) (b := b2) (by intro hq; cases hq) Tryd.call51 hF (clo_idle51 b2 _ _ (hM.row 1 rfl)) fun w3 hx3 hb3 => ?_
  have hM := hM.upd 1 rfl hx3 hb3
  refine ⟨_, fin2D rfl (res_tmp hF rfl) (res_one ty_on_2 hF rfl (hM.row 1 rfl) rfl), _, rfl, hM.below, ?_⟩
  rfl

theorem doorBV_N (p n : Nat) (T : Nat → Nat → Nat → Nat) (f : Nat → Nat) (v : Nat → Nat) (bl : Nat) (ev : Value) (wf : Value) (w : World) (hp : primeN p) (hn0 : 0 < n) (hn : n ≤ 6) (hTp : ∀ i j k, T i j k < p) (hT0 : ∀ i j k, n ≤ k → T i j k = 0) (hf : ∀ i, f i ≤ 255) (hv : ∀ i, v i ≤ 255) (hc : CodeP (p : Int) (n : Int) T f 1 (vAtL [v])) (hcom : ¬ comP T) (hg : Blk w 0 #[.iface 141 ev]) (hbl : Blk w bl (vecsC 1 (vAtL [v]))) :
    CallsR Tryd.prog 27 #[.agg (algC (p : Int) (n : Int) T f), wf, .slice (some ⟨bl, 0, none⟩) (1) (1)] w (fun res _ => res = .tuple #[.bool false, .int .i64 5]) := by
  refine calls_frD [.agg (algC (p : Int) (n : Int) T f), wf, .slice (some ⟨bl, 0, none⟩) (1) (1)] Tryd.func27 rfl Tryd.ntmps27 rfl fun a hF => ?_
  have hM : Mem w w [none, none] [(0, #[.iface 141 ev]), (bl, (vecsC 1 (vAtL [v])))] := MemX.startD w 2 _ (startD2 hg hbl)
  change Fr 21 a [(0, .agg (algC (p : Int) (n : Int) T f)), (1, wf), (2, .slice (some ⟨bl, 0, none⟩) (1) (1))] at hF
  have hp2 := hp.two
  have hp13 := hp.le
  have hT : ∀ i j k, T i j k ≤ 255 := fun i j k => by have := hTp i j k; omega
  have hp2 := hp.two
  have hVb : ∀ i c, vAtL [v] i c ≤ 255 := vAtL_le (fun x hx => by simp at hx; subst hx; assumption)
  refine sq (wp_region_lit ?_)
  refine stR hF (d_box 0 hM hF rfl) rfl ?_
  rintro _ w' a ⟨b1, rfl, hM, -⟩ hF
  change Mem w w' [some (b1, algC (p : Int) (n : Int) T f), none] [(0, #[.iface 141 ev]), (bl, (vecsC 1 (vAtL [v])))] at hM
  refine st hF (g_assign hF rfl) rfl fun a hF => ?_
  refine stR hF (d_alloc 1 hM ty_ze_2) rfl ?_
  rintro _ w' a ⟨b2, rfl, hM, -⟩ hF
  change Mem w w' [some (b1, algC (p : Int) (n : Int) T f), some (b2, #[.int .i64 (0)])] [(0, #[.iface 141 ev]), (bl, (vecsC 1 (vAtL [v])))] at hM
  refine wpList_nil (tN (sq (wp_region_lit ?_)))
  refine st hF (g_makeFunc hF rfl) rfl fun a hF => ?_
  refine st_defer hF rfl fun a hF => ?_
  refine wpList_nil (tN (sq (sq ?_)))
  refine wp_regionD ?_
  refine st hF (g_loadAgg ty_ag_32 hF rfl (hM.row 0 rfl) (by simp only [fnC_size, cells_size, vecC_size, tabC_size, planeC_size, dgC_size, numC_sz, ldB_size, rowV_size, mrk_size] <;> omega) (whole cells_size)) rfl fun a hF => st hF (g_move hF rfl) rfl fun a hF => ?_
  refine stR hF (d_call Tryd.call44 hF (.cons rfl (.cons rfl .nil)) ((CallsR.val (areVectors_ok (p : Int) (n : Int) T f bl 1 1 (vAtL [v]) _ (fun _ _ _ => hT _ _ _) (fun _ => hf _) hVb (by omega) (hM.fz 1 rfl)) (congrArg Value.bool (decide_eq_true hc))))) rfl ?_
  rintro _ w' a ⟨hx, rfl⟩ hF
  have hM := hM.ext hx
  refine st hF (g_not hF rfl) rfl fun a hF => ?_
  refine wpList_nil (tN ?_)
  refine c_FlD hF rfl ?_
  refine wp_skip (tN (sq (sq ?_)))
  refine wp_regionD ?_
  refine st hF (g_loadAgg ty_ag_32 hF rfl (hM.row 0 rfl) (by simp only [fnC_size, cells_size, vecC_size, tabC_size, planeC_size, dgC_size, numC_sz, ldB_size, rowV_size, mrk_size] <;> omega) (whole cells_size)) rfl fun a hF => ?_
  refine stR hF (d_call Tryd.call45 hF (.cons rfl .nil) ((CallsR.val (isOwnOpposite_ok p n T f _ (by omega) (by omega) (fun _ _ _ => hT _ _ _) (fun _ => hf _)) (congrArg Value.bool (decide_eq_false (fun h => hcom (comP_iff.1 h))))))) rfl ?_
  rintro _ w' a ⟨hx, rfl⟩ hF
  have hM := hM.ext hx
  refine st hF (g_not hF rfl) rfl fun a hF => ?_
  refine wpList_nil (tN ?_)
  refine c_TD hF rfl ?_
  refine wp_regionD ?_
  refine st hF (g_load ty_on_61 hF rfl (hM.fz 0 rfl) rfl) rfl fun a hF => ?_
  refine st_panic hF rfl ?_
  refine tP ?_
  refine door_end (f := 51) (b := b2) (by intro hq; cases hq) Tryd.call51 hF (clo_panic51 b2 _ _ _ (hM.row 1 rfl)) fun w3 hx3 hb3 => ?_
  have hM := hM.upd 1 rfl hx3 hb3
  refine ⟨_, fin2D rfl (res_tmp hF rfl) (res_one ty_on_2 hF rfl (hM.row 1 rfl) rfl), _, rfl, hM.below, ?_⟩
  rfl

theorem doorIsP_Y (p n : Nat) (T : Nat → Nat → Nat → Nat) (f : Nat → Nat) (v : Nat → Nat) (bl : Nat) (bv : Nat) (w : World) (hp : primeN p) (hn0 : 0 < n) (hn : n ≤ 6) (hTp : ∀ i j k, T i j k < p) (hT0 : ∀ i j k, n ≤ k → T i j k = 0) (hf : ∀ i, f i ≤ 255) (hv : ∀ i, v i ≤ 255) (hc : CodeP (p : Int) (n : Int) T f 1 (vAtL [v])) (hcom : comP T) (uu : Nat → Nat) (huu : UnitI p n T uu) (haI : AssI p n T) (hkI : ComI n T) (hbl : Blk w bl (vecsC 1 (vAtL [v]))) (hbv : Blk w bv (vecC v)) :
    CallsR Tryd.prog 27 #[.agg (algC (p : Int) (n : Int) T f), .func (.func 28) #[] #[ptr bv 0], .slice (some ⟨bl, 0, none⟩) (1) (1)] w (fun u w' => ∃ rF VF, IsKer p n (spE p n T uu p 1) n rF VF ∧ u = .tuple #[.bool (decide (∃ i, i < (prL p n T uu (padN n VF) rF).length ∧ eqV 6 ((srt (gz (prL p n T uu (padN n VF) rF)) (prL p n T uu (padN n VF) rF).length) i) v)), .int .i64 0]) := by
  refine calls_frD [.agg (algC (p : Int) (n : Int) T f), .func (.func 28) #[] #[ptr bv 0], .slice (some ⟨bl, 0, none⟩) (1) (1)] Tryd.func27 rfl Tryd.ntmps27 rfl fun a hF => ?_
  have hM : Mem w w [none, none] [(bl, (vecsC 1 (vAtL [v]))), (bv, vecC v)] := MemX.startD w 2 _ (startD2 hbl hbv)
  change Fr 21 a [(0, .agg (algC (p : Int) (n : Int) T f)), (1, .func (.func 28) #[] #[ptr bv 0]), (2, .slice (some ⟨bl, 0, none⟩) (1) (1))] at hF
  have hp2 := hp.two
  have hp13 := hp.le
  have hT : ∀ i j k, T i j k ≤ 255 := fun i j k => by have := hTp i j k; omega
  have hp2 := hp.two
  have hVb : ∀ i c, vAtL [v] i c ≤ 255 := vAtL_le (fun x hx => by simp at hx; subst hx; assumption)
  refine sq (wp_region_lit ?_)
  refine stR hF (d_box 0 hM hF rfl) rfl ?_
  rintro _ w' a ⟨b1, rfl, hM, -⟩ hF
  change Mem w w' [some (b1, algC (p : Int) (n : Int) T f), none] [(bl, (vecsC 1 (vAtL [v]))), (bv, vecC v)] at hM
  refine st hF (g_assign hF rfl) rfl fun a hF => ?_
  refine stR hF (d_alloc 1 hM ty_ze_2) rfl ?_
  rintro _ w' a ⟨b2, rfl, hM, -⟩ hF
  change Mem w w' [some (b1, algC (p : Int) (n : Int) T f), some (b2, #[.int .i64 (0)])] [(bl, (vecsC 1 (vAtL [v]))), (bv, vecC v)] at hM
  refine wpList_nil (tN (sq (wp_region_lit ?_)))
  refine st hF (g_makeFunc hF rfl) rfl fun a hF => ?_
  refine st_defer hF rfl fun a hF => ?_
  refine wpList_nil (tN (sq (sq ?_)))
  refine wp_regionD ?_
  refine st hF (g_loadAgg ty_ag_32 hF rfl (hM.row 0 rfl) (by simp only [fnC_size, cells_size, vecC_size, tabC_size, planeC_size, dgC_size, numC_sz, ldB_size, rowV_size, mrk_size] <;> omega) (whole cells_size)) rfl fun a hF => st hF (g_move hF rfl) rfl fun a hF => ?_
  refine stR hF (d_call Tryd.call44 hF (.cons rfl (.cons rfl .nil)) ((CallsR.val (areVectors_ok (p : Int) (n : Int) T f bl 1 1 (vAtL [v]) _ (fun _ _ _ => hT _ _ _) (fun _ => hf _) hVb (by omega) (hM.fz 0 rfl)) (congrArg Value.bool (decide_eq_true hc))))) rfl ?_
  rintro _ w' a ⟨hx, rfl⟩ hF
  have hM := hM.ext hx
  refine st hF (g_not hF rfl) rfl fun a hF => ?_
  refine wpList_nil (tN ?_)
  refine c_FlD hF rfl ?_
  refine wp_skip (tN (sq (sq ?_)))
  refine wp_regionD ?_
  refine st hF (g_loadAgg ty_ag_32 hF rfl (hM.row 0 rfl) (by simp only [fnC_size, cells_size, vecC_size, tabC_size, planeC_size, dgC_size, numC_sz, ldB_size, rowV_size, mrk_size] <;> omega) (whole cells_size)) rfl fun a hF => ?_
  refine stR hF (d_call Tryd.call45 hF (.cons rfl .nil) ((CallsR.val (isOwnOpposite_ok p n T f _ (by omega) (by omega) (fun _ _ _ => hT _ _ _) (fun _ => hf _)) (congrArg Value.bool (decide_eq_true (comP_iff.2 hcom)))))) rfl ?_
  rintro _ w' a ⟨hx, rfl⟩ hF
  have hM := hM.ext hx
  refine st hF (g_not hF rfl) rfl fun a hF => ?_
  refine wpList_nil (tN ?_)
  refine c_FlD hF rfl ?_
  refine wp_skip (tN (sq ?_))
  refine wp_regionD ?_
  refine st hF (g_move hF rfl) rfl fun a hF => st hF (g_loadAgg ty_ag_32 hF rfl (hM.row 0 rfl) (by simp only [fnC_size, cells_size, vecC_size, tabC_size, planeC_size, dgC_size, numC_sz, ldB_size, rowV_size, mrk_size] <;> omega) (whole cells_size)) rfl fun a hF => ?_
  refine stR hF (d_callV Tryd.call28 hF (cap := [ptr bv 0]) rfl (.cons rfl .nil) (isPrimClosure_ok p n T f v bv _ hp hn0 hn hTp hT0 hf uu huu haI hkI hv (hM.fz 1 rfl))) rfl ?_
  rintro _ w' a ⟨hx, rF, VF, hIK, rfl⟩ hF
  have hM := hM.ext hx
  refine st hF (g_assign hF rfl) rfl fun a hF => ?_
  refine stN hF (d_store 1 hM rfl ty_on_2 hF rfl rfl rfl (by first | omega | (simp only [fnC_size, cells_size, vecC_size, tabC_size, planeC_size, dgC_size, numC_sz, ldB_size, rowV_size, mrk_size] <;> omega) | simp)) ?_
  intro _ w' a hM hF
  change Mem w w' [some (b1, algC (p : Int) (n : Int) T f), some (b2, #[.int .i64 (0)])] [(bl, (vecsC 1 (vAtL [v]))), (bv, vecC v)] at hM
  refine wpList_nil (tN (wp_ret ?_))
  refine door_end (f := 51) (b := b2) (by intro hq; cases hq) Tryd.call51 hF (clo_idle51 b2 _ _ (hM.row 1 rfl)) fun w3 hx3 hb3 => ?_
  have hM := hM.upd 1 rfl hx3 hb3
  refine ⟨_, fin2D rfl (res_tmp hF rfl) (res_one ty_on_2 hF rfl (hM.row 1 rfl) rfl), _, rfl, hM.below, ?_⟩
  exact ⟨rF, VF, hIK, rfl⟩

theorem l05CodeV_A (p n : Int) (T : Nat → Nat → Nat → Nat) (f : Nat → Nat) (v : Nat → Nat) (bl : Nat) (w : World) (hT : ∀ i j k, T i j k ≤ 255) (hf : ∀ i, f i ≤ 255) (hv : ∀ i, v i ≤ 255) (hc : ¬ CodeP p n T f 1 (vAtL [v])) (hbl : Blk w bl (vecsC 1 (vAtL [v]))) :
    CallsR Tryd.prog 20 #[.agg (algC p n T f), .slice (some ⟨bl, 0, none⟩) (1) (1)] w (fun res _ => res = .int .i64 1) := by
  refine calls_fr [.agg (algC p n T f), .slice (some ⟨bl, 0, none⟩) (1) (1)] Tryd.func20 rfl Tryd.ntmps20 rfl fun a hF => ?_
  have hM : Mem w w [none] [(bl, (vecsC 1 (vAtL [v])))] := MemX.startD w 1 _ (startD1 hbl)
  change Fr 15 a [(0, .agg (algC p n T f)), (1, .slice (some ⟨bl, 0, none⟩) (1) (1))] at hF
  have hVb : ∀ i c, vAtL [v] i c ≤ 255 := vAtL_le (fun x hx => by simp at hx; subst hx; assumption)
  refine sq (wp_region_lit ?_)
  refine stR hF (d_box 0 hM hF rfl) rfl ?_
  rintro _ w' a ⟨b1, rfl, hM, -⟩ hF
  change Mem w w' [some (b1, algC p n T f)] [(bl, (vecsC 1 (vAtL [v])))] at hM
  refine st hF (g_assign hF rfl) rfl fun a hF => ?_
  refine wpList_nil (tN (sq (sq (wp_region_lit ?_))))
  refine st hF (g_loadAgg ty_ag_32 hF rfl (hM.row 0 rfl) (by simp only [fnC_size, cells_size, vecC_size, tabC_size, planeC_size, dgC_size, numC_sz, ldB_size, rowV_size, mrk_size] <;> omega) (whole cells_size)) rfl fun a hF => st hF (g_move hF rfl) rfl fun a hF => ?_
  refine stR hF (d_call Tryd.call34 hF (.cons rfl (.cons rfl .nil)) ((CallsR.val (l01Code_ok p n T f bl 1 1 (vAtL [v]) _ (fun _ _ _ => hT _ _ _) (fun _ => hf _) hVb (by omega) (hM.fz 0 rfl)) (congrArg (Value.int .i64) (if_neg hc))))) rfl ?_
  rintro _ w' a ⟨hx, rfl⟩ hF
  have hM := hM.ext hx
  refine st hF (g_assign hF rfl) rfl fun a hF => ?_
  refine wpList_nil (tN (sq (wp_region_lit ?_)))
  refine st hF (g_move hF rfl) rfl fun a hF => st hF (g_neq hF rfl rfl) rfl fun a hF => ?_
  refine wpList_nil (tN ?_)
  refine c_kT hF rfl (by decide) ?_
  refine sq (wp_region_lit ?_)
  refine st hF (g_move hF rfl) rfl fun a hF => st hF (g_assign hF rfl) rfl fun a hF => ?_
  refine wpList_nil (tN (wp_ret (tR ?_)))
  refine fin1 rfl hF.defers (res_tmp hF rfl) ⟨_, rfl, hM.below, ?_⟩
  show _ = _
  rfl

theorem l05CodeV_N (p n : Nat) (T : Nat → Nat → Nat → Nat) (f : Nat → Nat) (v : Nat → Nat) (bl : Nat) (w : World) (hp : primeN p) (hn0 : 0 < n) (hn : n ≤ 6) (hTp : ∀ i j k, T i j k < p) (hT0 : ∀ i j k, n ≤ k → T i j k = 0) (hf : ∀ i, f i ≤ 255) (hv : ∀ i, v i ≤ 255) (hc : CodeP (p : Int) (n : Int) T f 1 (vAtL [v])) (hcom : ¬ comP T) (hbl : Blk w bl (vecsC 1 (vAtL [v]))) :
    CallsR Tryd.prog 20 #[.agg (algC (p : Int) (n : Int) T f), .slice (some ⟨bl, 0, none⟩) (1) (1)] w (fun res _ => res = .int .i64 5) := by
  refine calls_fr [.agg (algC (p : Int) (n : Int) T f), .slice (some ⟨bl, 0, none⟩) (1) (1)] Tryd.func20 rfl Tryd.ntmps20 rfl fun a hF => ?_
  have hM : Mem w w [none] [(bl, (vecsC 1 (vAtL [v])))] := MemX.startD w 1 _ (startD1 hbl)
  change Fr 15 a [(0, .agg (algC (p : Int) (n : Int) T f)), (1, .slice (some ⟨bl, 0, none⟩) (1) (1))] at hF
  have hp2 := hp.two
  have hp13 := hp.le
  have hT : ∀ i j k, T i j k ≤ 255 := fun i j k => by have := hTp i j k; omega
  have hVb : ∀ i c, vAtL [v] i c ≤ 255 := vAtL_le (fun x hx => by simp at hx; subst hx; assumption)
  refine sq (wp_region_lit ?_)
  refine stR hF (d_box 0 hM hF rfl) rfl ?_
  rintro _ w' a ⟨b1, rfl, hM, -⟩ hF
  change Mem w w' [some (b1, algC (p : Int) (n : Int) T f)] [(bl, (vecsC 1 (vAtL [v])))] at hM
  refine st hF (g_assign hF rfl) rfl fun a hF => ?_
  refine wpList_nil (tN (sq (sq (wp_region_lit ?_))))
  refine st hF (g_loadAgg ty_ag_32 hF rfl (hM.row 0 rfl) (by simp only [fnC_size, cells_size, vecC_size, tabC_size, planeC_size, dgC_size, numC_sz, ldB_size, rowV_size, mrk_size] <;> omega) (whole cells_size)) rfl fun a hF => st hF (g_move hF rfl) rfl fun a hF => ?_
  refine stR hF (d_call Tryd.call34 hF (.cons rfl (.cons rfl .nil)) ((CallsR.val (l01Code_ok (p : Int) (n : Int) T f bl 1 1 (vAtL [v]) _ (fun _ _ _ => hT _ _ _) (fun _ => hf _) hVb (by omega) (hM.fz 0 rfl)) (congrArg (Value.int .i64) (if_pos hc))))) rfl ?_
  rintro _ w' a ⟨hx, rfl⟩ hF
  have hM := hM.ext hx
  refine st hF (g_assign hF rfl) rfl fun a hF => ?_
  refine wpList_nil (tN (sq (wp_region_lit ?_)))
  refine st hF (g_move hF rfl) rfl fun a hF => st hF (g_neq hF rfl rfl) rfl fun a hF => ?_
  refine wpList_nil (tN ?_)
  refine c_kF hF rfl (by decide) ?_
  refine wp_skip (tN (sq (sq (wp_region_lit ?_))))
  refine st hF (g_loadAgg ty_ag_32 hF rfl (hM.row 0 rfl) (by simp only [fnC_size, cells_size, vecC_size, tabC_size, planeC_size, dgC_size, numC_sz, ldB_size, rowV_size, mrk_size] <;> omega) (whole cells_size)) rfl fun a hF => ?_
  refine stR hF (d_call Tryd.call35 hF (.cons rfl .nil) ((CallsR.val (l01Commutative_ok (p : Int) (n : Int) T f _) (congrArg Value.bool (decide_eq_false hcom))))) rfl ?_
  rintro _ w' a ⟨hx, rfl⟩ hF
  have hM := hM.ext hx
  refine st hF (g_not hF rfl) rfl fun a hF => ?_
  refine wpList_nil (tN ?_)
  refine c_T hF rfl ?_
  refine sq (wp_region_lit ?_)
  refine st hF (g_assign hF rfl) rfl fun a hF => ?_
  refine wpList_nil (tN (wp_ret (tR ?_)))
  refine fin1 rfl hF.defers (res_tmp hF rfl) ⟨_, rfl, hM.below, ?_⟩
  show _ = _
  rfl

theorem l05CodeV_Y (p n : Nat) (T : Nat → Nat → Nat → Nat) (f : Nat → Nat) (v : Nat → Nat) (bl : Nat) (w : World) (hp : primeN p) (hn0 : 0 < n) (hn : n ≤ 6) (hTp : ∀ i j k, T i j k < p) (hT0 : ∀ i j k, n ≤ k → T i j k = 0) (hf : ∀ i, f i ≤ 255) (hv : ∀ i, v i ≤ 255) (hc : CodeP (p : Int) (n : Int) T f 1 (vAtL [v])) (hcom : comP T) (hbl : Blk w bl (vecsC 1 (vAtL [v]))) :
    CallsR Tryd.prog 20 #[.agg (algC (p : Int) (n : Int) T f), .slice (some ⟨bl, 0, none⟩) (1) (1)] w (fun res _ => res = .int .i64 0) := by
  refine calls_fr [.agg (algC (p : Int) (n : Int) T f), .slice (some ⟨bl, 0, none⟩) (1) (1)] Tryd.func20 rfl Tryd.ntmps20 rfl fun a hF => ?_
  have hM : Mem w w [none] [(bl, (vecsC 1 (vAtL [v])))] := MemX.startD w 1 _ (startD1 hbl)
  change Fr 15 a [(0, .agg (algC (p : Int) (n : Int) T f)), (1, .slice (some ⟨bl, 0, none⟩) (1) (1))] at hF
  have hp2 := hp.two
  have hp13 := hp.le
  have hT : ∀ i j k, T i j k ≤ 255 := fun i j k => by have := hTp i j k; omega
  have hVb : ∀ i c, vAtL [v] i c ≤ 255 := vAtL_le (fun x hx => by simp at hx; subst hx; assumption)
  refine sq (wp_region_lit ?_)
  refine stR hF (d_box 0 hM hF rfl) rfl ?_
  rintro _ w' a ⟨b1, rfl, hM, -⟩ hF
  change Mem w w' [some (b1, algC (p : Int) (n : Int) T f)] [(bl, (vecsC 1 (vAtL [v])))] at hM
  refine st hF (g_assign hF rfl) rfl fun a hF => ?_
  refine wpList_nil (tN (sq (sq (wp_region_lit ?_))))
  refine st hF (g_loadAgg ty_ag_32 hF rfl (hM.row 0 rfl) (by simp only [fnC_size, cells_size, vecC_size, tabC_size, planeC_size, dgC_size, numC_sz, ldB_size, rowV_size, mrk_size] <;> omega) (whole cells_size)) rfl fun a hF => st hF (g_move hF rfl) rfl fun a hF => ?_
  refine stR hF (d_call Tryd.call34 hF (.cons rfl (.cons rfl .nil)) ((CallsR.val (l01Code_ok (p : Int) (n : Int) T f bl 1 1 (vAtL [v]) _ (fun _ _ _ => hT _ _ _) (fun _ => hf _) hVb (by omega) (hM.fz 0 rfl)) (congrArg (Value.int .i64) (if_pos hc))))) rfl ?_
  rintro _ w' a ⟨hx, rfl⟩ hF
  have hM := hM.ext hx
  refine st hF (g_assign hF rfl) rfl fun a hF => ?_
  refine wpList_nil (tN (sq (wp_region_lit ?_)))
  refine st hF (g_move hF rfl) rfl fun a hF => st hF (g_neq hF rfl rfl) rfl fun a hF => ?_
  refine wpList_nil (tN ?_)
  refine c_kF hF rfl (by decide) ?_
  refine wp_skip (tN (sq (sq (wp_region_lit ?_))))
  refine st hF (g_loadAgg ty_ag_32 hF rfl (hM.row 0 rfl) (by simp only [fnC_size, cells_size, vecC_size, tabC_size, planeC_size, dgC_size, numC_sz, ldB_size, rowV_size, mrk_size] <;> omega) (whole cells_size)) rfl fun a hF => ?_
  refine stR hF (d_call Tryd.call35 hF (.cons rfl .nil) ((CallsR.val (l01Commutative_ok (p : Int) (n : Int) T f _) (congrArg Value.bool (decide_eq_true hcom))))) rfl ?_
  rintro _ w' a ⟨hx, rfl⟩ hF
  have hM := hM.ext hx
  refine st hF (g_not hF rfl) rfl fun a hF => ?_
  refine wpList_nil (tN ?_)
  refine c_Fl hF rfl ?_
  refine wp_skip (tN (sq (wp_region_lit ?_)))
  refine st hF (g_assign hF rfl) rfl fun a hF => ?_
  refine wpList_nil (tN (wp_ret ?_))
  refine fin1 rfl hF.defers (res_tmp hF rfl) ⟨_, rfl, hM.below, ?_⟩
  show _ = _
  rfl

theorem IsPrimitiveI_A (p n : Int) (T : Nat → Nat → Nat → Nat) (f : Nat → Nat) (v : Nat → Nat) (w : World) (hT : ∀ i j k, T i j k ≤ 255) (hf : ∀ i, f i ≤ 255) (hv : ∀ i, v i ≤ 255) (hc : ¬ CodeP p n T f 1 (vAtL [v])) :
    CallsR Tryd.prog 15 #[.agg (algC p n T f), .agg (vecC v)] w (fun res _ => res = .tuple #[.bool false, .int .i64 1]) := by
  refine calls_fr [.agg (algC p n T f), .agg (vecC v)] Tryd.func15 rfl Tryd.ntmps15 rfl fun a hF => ?_
  have hM : Mem w w [none, none, none] [] := MemX.start w 3
  change Fr 13 a [(0, .agg (algC p n T f)), (1, .agg (vecC v))] at hF
  refine sq (wp_region_lit ?_)
  refine stR hF (d_box 0 hM hF rfl) rfl ?_
  rintro _ w' a ⟨b1, rfl, hM, -⟩ hF
  change Mem w w' [some (b1, algC p n T f), none, none] [] at hM
  refine stR hF (d_box 1 hM hF rfl) rfl ?_
  rintro _ w' a ⟨b2, rfl, hM, -⟩ hF
  change Mem w w' [some (b1, algC p n T f), some (b2, vecC v), none] [] at hM
  refine st hF (g_assign hF rfl) rfl fun a hF => st hF (g_assign hF rfl) rfl fun a hF => ?_
  refine wpList_nil (tN (sq (wp_region_lit ?_)))
  refine st hF (g_loadAgg ty_ag_32 hF rfl (hM.row 0 rfl) (by simp only [fnC_size, cells_size, vecC_size, tabC_size, planeC_size, dgC_size, numC_sz, ldB_size, rowV_size, mrk_size] <;> omega) (whole cells_size)) rfl fun a hF => st hF (g_makeFunc hF rfl) rfl fun a hF => st hF (g_loadAgg ty_ag_30 hF rfl (hM.row 1 rfl) (by simp only [fnC_size, cells_size, vecC_size, tabC_size, planeC_size, dgC_size, numC_sz, ldB_size, rowV_size, mrk_size] <;> omega) (whole (by simp only [fnC_size, cells_size, vecC_size, tabC_size, planeC_size, dgC_size, numC_sz, ldB_size, rowV_size, mrk_size]))) rfl fun a hF => ?_
  refine stR hF (d_buildC (vs := [(0, .agg (vecC v))]) 2 hM hF (build1 hF rfl) (fun w => ty_bsg_27_1 v w)) rfl ?_
  rintro _ w' a ⟨b3, rfl, hM, -⟩ hF
  change Mem w w' [some (b1, algC p n T f), some (b2, vecC v), some (b3, vecsC 1 (vAtL [v]))] [] at hM
  refine stR hF (d_call Tryd.call27 hF (.cons rfl (.cons rfl (.cons rfl .nil))) (doorBV_A p n T f v b3 (.func (.func 28) #[] #[ptr b2 (0)]) _ hT hf hv hc (hM.row 2 rfl))) rfl ?_
  rintro _ w' a ⟨hx, rfl⟩ hF
  have hM := hM.ext hx
  refine st hF (g_extract hF rfl rfl) rfl fun a hF => st hF (g_extract hF rfl rfl) rfl fun a hF => st hF (g_assign hF rfl) rfl fun a hF => st hF (g_assign hF rfl) rfl fun a hF => ?_
  refine wpList_nil (tN (wp_ret ?_))
  refine fin2 rfl hF.defers (res_tmp hF rfl) (res_tmp hF rfl) ⟨_, rfl, hM.below, ?_⟩
  show _ = _
  rfl

theorem IsPrimitiveS_A (p n : Int) (T : Nat → Nat → Nat → Nat) (f : Nat → Nat) (v : Nat → Nat) (w : World) (hT : ∀ i j k, T i j k ≤ 255) (hf : ∀ i, f i ≤ 255) (hv : ∀ i, v i ≤ 255) (hc : ¬ CodeP p n T f 1 (vAtL [v])) :
    CallsR Tryd.prog 13 #[.agg (algC p n T f), .agg (vecC v)] w (fun res _ => res = .tuple #[.bool false, .int .i64 1]) := by
  refine calls_fr [.agg (algC p n T f), .agg (vecC v)] Tryd.func13 rfl Tryd.ntmps13 rfl fun a hF => ?_
  have hM : Mem w w [none, none, none] [] := MemX.start w 3
  change Fr 17 a [(0, .agg (algC p n T f)), (1, .agg (vecC v))] at hF
  refine sq (wp_region_lit ?_)
  refine stR hF (d_box 0 hM hF rfl) rfl ?_
  rintro _ w' a ⟨b1, rfl, hM, -⟩ hF
  change Mem w w' [some (b1, algC p n T f), none, none] [] at hM
  refine stR hF (d_box 1 hM hF rfl) rfl ?_
  rintro _ w' a ⟨b2, rfl, hM, -⟩ hF
  change Mem w w' [some (b1, algC p n T f), some (b2, vecC v), none] [] at hM
  refine st hF (g_assign hF rfl) rfl fun a hF => st hF (g_assign hF rfl) rfl fun a hF => ?_
  refine wpList_nil (tN (sq (sq (wp_region_lit ?_))))
  refine st hF (g_loadAgg ty_ag_32 hF rfl (hM.row 0 rfl) (by simp only [fnC_size, cells_size, vecC_size, tabC_size, planeC_size, dgC_size, numC_sz, ldB_size, rowV_size, mrk_size] <;> omega) (whole cells_size)) rfl fun a hF => st hF (g_loadAgg ty_ag_30 hF rfl (hM.row 1 rfl) (by simp only [fnC_size, cells_size, vecC_size, tabC_size, planeC_size, dgC_size, numC_sz, ldB_size, rowV_size, mrk_size] <;> omega) (whole (by simp only [fnC_size, cells_size, vecC_size, tabC_size, planeC_size, dgC_size, numC_sz, ldB_size, rowV_size, mrk_size]))) rfl fun a hF => ?_
  refine stR hF (d_buildC (vs := [(0, .agg (vecC v))]) 2 hM hF (build1 hF rfl) (fun w => ty_bsg_27_1 v w)) rfl ?_
  rintro _ w' a ⟨b3, rfl, hM, -⟩ hF
  change Mem w w' [some (b1, algC p n T f), some (b2, vecC v), some (b3, vecsC 1 (vAtL [v]))] [] at hM
  refine stR hF (d_call Tryd.call20 hF (.cons rfl (.cons rfl .nil)) (l05CodeV_A p n T f v b3 _ hT hf hv hc (hM.row 2 rfl))) rfl ?_
  rintro _ w' a ⟨hx, rfl⟩ hF
  have hM := hM.ext hx
  refine st hF (g_assign hF rfl) rfl fun a hF => ?_
  refine wpList_nil (tN (sq (wp_region_lit ?_)))
  refine st hF (g_move hF rfl) rfl fun a hF => st hF (g_neq hF rfl rfl) rfl fun a hF => ?_
  refine wpList_nil (tN ?_)
  refine c_kT hF rfl (by decide) ?_
  refine sq (wp_region_lit ?_)
  refine st hF (g_move hF rfl) rfl fun a hF => st hF (g_assign hF rfl) rfl fun a hF => st hF (g_assign hF rfl) rfl fun a hF => ?_
  refine wpList_nil (tN (wp_ret (tR ?_)))
  refine fin2 rfl hF.defers (res_tmp hF rfl) (res_tmp hF rfl) ⟨_, rfl, hM.below, ?_⟩
  show _ = _
  rfl

theorem IsPrimitiveI_N (p n : Nat) (T : Nat → Nat → Nat → Nat) (f : Nat → Nat) (v : Nat → Nat) (ev : Value) (w : World) (hp : primeN p) (hn0 : 0 < n) (hn : n ≤ 6) (hTp : ∀ i j k, T i j k < p) (hT0 : ∀ i j k, n ≤ k → T i j k = 0) (hf : ∀ i, f i ≤ 255) (hv : ∀ i, v i ≤ 255) (hc : CodeP (p : Int) (n : Int) T f 1 (vAtL [v])) (hcom : ¬ comP T) (hg : Blk w 0 #[.iface 141 ev]) :
    CallsR Tryd.prog 15 #[.agg (algC (p : Int) (n : Int) T f), .agg (vecC v)] w (fun res _ => res = .tuple #[.bool false, .int .i64 5]) := by
  refine calls_fr [.agg (algC (p : Int) (n : Int) T f), .agg (vecC v)] Tryd.func15 rfl Tryd.ntmps15 rfl fun a hF => ?_
  have hM : Mem w w [none, none, none] [(0, #[.iface 141 ev])] := MemX.startD w 3 _ (startD1 hg)
  change Fr 13 a [(0, .agg (algC (p : Int) (n : Int) T f)), (1, .agg (vecC v))] at hF
  have hp2 := hp.two
  have hp13 := hp.le
  have hT : ∀ i j k, T i j k ≤ 255 := fun i j k => by have := hTp i j k; omega
  refine sq (wp_region_lit ?_)
  refine stR hF (d_box 0 hM hF rfl) rfl ?_
  rintro _ w' a ⟨b1, rfl, hM, -⟩ hF
  change Mem w w' [some (b1, algC (p : Int) (n : Int) T f), none, none] [(0, #[.iface 141 ev])] at hM
  refine stR hF (d_box 1 hM hF rfl) rfl ?_
  rintro _ w' a ⟨b2, rfl, hM, -⟩ hF
  change Mem w w' [some (b1, algC (p : Int) (n : Int) T f), some (b2, vecC v), none] [(0, #[.iface 141 ev])] at hM
  refine st hF (g_assign hF rfl) rfl fun a hF => st hF (g_assign hF rfl) rfl fun a hF => ?_
  refine wpList_nil (tN (sq (wp_region_lit ?_)))
  refine st hF (g_loadAgg ty_ag_32 hF rfl (hM.row 0 rfl) (by simp only [fnC_size, cells_size, vecC_size, tabC_size, planeC_size, dgC_size, numC_sz, ldB_size, rowV_size, mrk_size] <;> omega) (whole cells_size)) rfl fun a hF => st hF (g_makeFunc hF rfl) rfl fun a hF => st hF (g_loadAgg ty_ag_30 hF rfl (hM.row 1 rfl) (by simp only [fnC_size, cells_size, vecC_size, tabC_size, planeC_size, dgC_size, numC_sz, ldB_size, rowV_size, mrk_size] <;> omega) (whole (by simp only [fnC_size, cells_size, vecC_size, tabC_size, planeC_size, dgC_size, numC_sz, ldB_size, rowV_size, mrk_size]))) rfl fun a hF => ?_
  refine stR hF (d_buildC (vs := [(0, .agg (vecC v))]) 2 hM hF (build1 hF rfl) (fun w => ty_bsg_27_1 v w)) rfl ?_
  rintro _ w' a ⟨b3, rfl, hM, -⟩ hF
  change Mem w w' [some (b1, algC (p : Int) (n : Int) T f), some (b2, vecC v), some (b3, vecsC 1 (vAtL [v]))] [(0, #[.iface 141 ev])] at hM
  refine stR hF (d_call Tryd.call27 hF (.cons rfl (.cons rfl (.cons rfl .nil))) (doorBV_N p n T f v b3 ev (.func (.func 28) #[] #[ptr b2 (0)]) _ hp hn0 hn hTp hT0 hf hv hc hcom (hM.fz 0 rfl) (hM.row 2 rfl))) rfl ?_
  rintro _ w' a ⟨hx, rfl⟩ hF
  have hM := hM.ext hx
  refine st hF (g_extract hF rfl rfl) rfl fun a hF => st hF (g_extract hF rfl rfl) rfl fun a hF => st hF (g_assign hF rfl) rfl fun a hF => st hF (g_assign hF rfl) rfl fun a hF => ?_
  refine wpList_nil (tN (wp_ret ?_))
  refine fin2 rfl hF.defers (res_tmp hF rfl) (res_tmp hF rfl) ⟨_, rfl, hM.below, ?_⟩
  show _ = _
  rfl

theorem IsPrimitiveS_N (p n : Nat) (T : Nat → Nat → Nat → Nat) (f : Nat → Nat) (v : Nat → Nat) (w : World) (hp : primeN p) (hn0 : 0 < n) (hn : n ≤ 6) (hTp : ∀ i j k, T i j k < p) (hT0 : ∀ i j k, n ≤ k → T i j k = 0) (hf : ∀ i, f i ≤ 255) (hv : ∀ i, v i ≤ 255) (hc : CodeP (p : Int) (n : Int) T f 1 (vAtL [v])) (hcom : ¬ comP T) :
    CallsR Tryd.prog 13 #[.agg (algC (p : Int) (n : Int) T f), .agg (vecC v)] w (fun res _ => res = .tuple #[.bool false, .int .i64 5]) := by
  refine calls_fr [.agg (algC (p : Int) (n : Int) T f), .agg (vecC v)] Tryd.func13 rfl Tryd.ntmps13 rfl fun a hF => ?_
  have hM : Mem w w [none, none, none] [] := MemX.start w 3
  change Fr 17 a [(0, .agg (algC (p : Int) (n : Int) T f)), (1, .agg (vecC v))] at hF
  have hp2 := hp.two
  have hp13 := hp.le
  have hT : ∀ i j k, T i j k ≤ 255 := fun i j k => by have := hTp i j k; omega
  refine sq (wp_region_lit ?_)
  refine stR hF (d_box 0 hM hF rfl) rfl ?_
  rintro _ w' a ⟨b1, rfl, hM, -⟩ hF
  change Mem w w' [some (b1, algC (p : Int) (n : Int) T f), none, none] [] at hM
  refine stR hF (d_box 1 hM hF rfl) rfl ?_
  rintro _ w' a ⟨b2, rfl, hM, -⟩ hF
  change Mem w w' [some (b1, algC (p : Int) (n : Int) T f), some (b2, vecC v), none] [] at hM
  refine st hF (g_assign hF rfl) rfl fun a hF => st hF (g_assign hF rfl) rfl fun a hF => ?_
  refine wpList_nil (tN (sq (sq (wp_region_lit ?_))))
  refine st hF (g_loadAgg ty_ag_32 hF rfl (hM.row 0 rfl) (by simp only [fnC_size, cells_size, vecC_size, tabC_size, planeC_size, dgC_size, numC_sz, ldB_size, rowV_size, mrk_size] <;> omega) (whole cells_size)) rfl fun a hF => st hF (g_loadAgg ty_ag_30 hF rfl (hM.row 1 rfl) (by simp only [fnC_size, cells_size, vecC_size, tabC_size, planeC_size, dgC_size, numC_sz, ldB_size, rowV_size, mrk_size] <;> omega) (whole (by simp only [fnC_size, cells_size, vecC_size, tabC_size, planeC_size, dgC_size, numC_sz, ldB_size, rowV_size, mrk_size]))) rfl fun a hF => ?_
  refine stR hF (d_buildC (vs := [(0, .agg (vecC v))]) 2 hM hF (build1 hF rfl) (fun w => ty_bsg_27_1 v w)) rfl ?_
  rintro _ w' a ⟨b3, rfl, hM, -⟩ hF
  change Mem w w' [some (b1, algC (p : Int) (n : Int) T f), some (b2, vecC v), some (b3, vecsC 1 (vAtL [v]))] [] at hM
  refine stR hF (d_call Tryd.call20 hF (.cons rfl (.cons rfl .nil)) (l05CodeV_N p n T f v b3 _ hp hn0 hn hTp hT0 hf hv hc hcom (hM.row 2 rfl))) rfl ?_
  rintro _ w' a ⟨hx, rfl⟩ hF
  have hM := hM.ext hx
  refine st hF (g_assign hF rfl) rfl fun a hF => ?_
  refine wpList_nil (tN (sq (wp_region_lit ?_)))
  refine st hF (g_move hF rfl) rfl fun a hF => st hF (g_neq hF rfl rfl) rfl fun a hF => ?_
  refine wpList_nil (tN ?_)
  refine c_kT hF rfl (by decide) ?_
  refine sq (wp_region_lit ?_)
  refine st hF (g_move hF rfl) rfl fun a hF => st hF (g_assign hF rfl) rfl fun a hF => st hF (g_assign hF rfl) rfl fun a hF => ?_
  refine wpList_nil (tN (wp_ret (tR ?_)))
  refine fin2 rfl hF.defers (res_tmp hF rfl) (res_tmp hF rfl) ⟨_, rfl, hM.below, ?_⟩
  show _ = _
  rfl

theorem IsPrimitiveI_Y (p n : Nat) (T : Nat → Nat → Nat → Nat) (f : Nat → Nat) (v : Nat → Nat) (w : World) (hp : primeN p) (hn0 : 0 < n) (hn : n ≤ 6) (hTp : ∀ i j k, T i j k < p) (hT0 : ∀ i j k, n ≤ k → T i j k = 0) (hf : ∀ i, f i ≤ 255) (hv : ∀ i, v i ≤ 255) (hc : CodeP (p : Int) (n : Int) T f 1 (vAtL [v])) (hcom : comP T) (uu : Nat → Nat) (huu : UnitI p n T uu) (haI : AssI p n T) (hkI : ComI n T) :
    CallsR Tryd.prog 15 #[.agg (algC (p : Int) (n : Int) T f), .agg (vecC v)] w (fun u w' => ∃ rF VF, IsKer p n (spE p n T uu p 1) n rF VF ∧ u = .tuple #[.bool (decide (∃ i, i < (prL p n T uu (padN n VF) rF).length ∧ eqV 6 ((srt (gz (prL p n T uu (padN n VF) rF)) (prL p n T uu (padN n VF) rF).length) i) v)), .int .i64 0]) := by
  refine calls_fr [.agg (algC (p : Int) (n : Int) T f), .agg (vecC v)] Tryd.func15 rfl Tryd.ntmps15 rfl fun a hF => ?_
  have hM : Mem w w [none, none, none] [] := MemX.start w 3
  change Fr 13 a [(0, .agg (algC (p : Int) (n : Int) T f)), (1, .agg (vecC v))] at hF
  have hp2 := hp.two
  have hp13 := hp.le
  have hT : ∀ i j k, T i j k ≤ 255 := fun i j k => by have := hTp i j k; omega
  refine sq (wp_region_lit ?_)
  refine stR hF (d_box 0 hM hF rfl) rfl ?_
  rintro _ w' a ⟨b1, rfl, hM, -⟩ hF
  change Mem w w' [some (b1, algC (p : Int) (n : Int) T f), none, none] [] at hM
  refine stR hF (d_box 1 hM hF rfl) rfl ?_
  rintro _ w' a ⟨b2, rfl, hM, -⟩ hF
  change Mem w w' [some (b1, algC (p : Int) (n : Int) T f), some (b2, vecC v), none] [] at hM
  refine st hF (g_assign hF rfl) rfl fun a hF => st hF (g_assign hF rfl) rfl fun a hF => ?_
  refine wpList_nil (tN (sq (wp_region_lit ?_)))
  refine st hF (g_loadAgg ty_ag_32 hF rfl (hM.row 0 rfl) (by simp only [fnC_size, cells_size, vecC_size, tabC_size, planeC_size, dgC_size, numC_sz, ldB_size, rowV_size, mrk_size] <;> omega) (whole cells_size)) rfl fun a hF => st hF (g_makeFunc hF rfl) rfl fun a hF => st hF (g_loadAgg ty_ag_30 hF rfl (hM.row 1 rfl) (by simp only [fnC_size, cells_size, vecC_size, tabC_size, planeC_size, dgC_size, numC_sz, ldB_size, rowV_size, mrk_size] <;> omega) (whole (by simp only [fnC_size, cells_size, vecC_size, tabC_size, planeC_size, dgC_size, numC_sz, ldB_size, rowV_size, mrk_size]))) rfl fun a hF => ?_
  refine stR hF (d_buildC (vs := [(0, .agg (vecC v))]) 2 hM hF (build1 hF rfl) (fun w => ty_bsg_27_1 v w)) rfl ?_
  rintro _ w' a ⟨b3, rfl, hM, -⟩ hF
  change Mem w w' [some (b1, algC (p : Int) (n : Int) T f), some (b2, vecC v), some (b3, vecsC 1 (vAtL [v]))] [] at hM
  refine stR hF (d_call Tryd.call27 hF (.cons rfl (.cons rfl (.cons rfl .nil))) (doorIsP_Y p n T f v b3 b2 _ hp hn0 hn hTp hT0 hf hv hc hcom uu huu haI hkI (hM.row 2 rfl) (hM.row 1 rfl))) rfl ?_
  rintro _ w' a ⟨hx, rF, VF, hIK, rfl⟩ hF
  have hM := hM.ext hx
  refine st hF (g_extract hF rfl rfl) rfl fun a hF => st hF (g_extract hF rfl rfl) rfl fun a hF => st hF (g_assign hF rfl) rfl fun a hF => st hF (g_assign hF rfl) rfl fun a hF => ?_
  refine wpList_nil (tN (wp_ret ?_))
  refine fin2 rfl hF.defers (res_tmp hF rfl) (res_tmp hF rfl) ⟨_, rfl, hM.below, ?_⟩
  exact ⟨rF, VF, hIK, rfl⟩

theorem IsPrimitiveS_Y (p n : Nat) (T : Nat → Nat → Nat → Nat) (f : Nat → Nat) (v : Nat → Nat) (w : World) (hp : primeN p) (hn0 : 0 < n) (hn : n ≤ 6) (hTp : ∀ i j k, T i j k < p) (hT0 : ∀ i j k, n ≤ k → T i j k = 0) (hf : ∀ i, f i ≤ 255) (hv : ∀ i, v i ≤ 255) (hc : CodeP (p : Int) (n : Int) T f 1 (vAtL [v])) (hcom : comP T) (uu : Nat → Nat) (huu : UnitI p n T uu) (haI : AssI p n T) (hkI : ComI n T) :
    CallsR Tryd.prog 13 #[.agg (algC (p : Int) (n : Int) T f), .agg (vecC v)] w (fun u w' => ∃ rF VF, IsKer p n (spE p n T uu p 1) n rF VF ∧ u = .tuple #[.bool (decide (∃ i, i < (prL p n T uu (padN n VF) rF).length ∧ eqV 6 ((srt (gz (prL p n T uu (padN n VF) rF)) (prL p n T uu (padN n VF) rF).length) i) v)), .int .i64 0]) := by
  refine calls_fr [.agg (algC (p : Int) (n : Int) T f), .agg (vecC v)] Tryd.func13 rfl Tryd.ntmps13 rfl fun a hF => ?_
  have hM : Mem w w [none, none, none] [] := MemX.start w 3
  change Fr 17 a [(0, .agg (algC (p : Int) (n : Int) T f)), (1, .agg (vecC v))] at hF
  have hp2 := hp.two
  have hp13 := hp.le
  have hT : ∀ i j k, T i j k ≤ 255 := fun i j k => by have := hTp i j k; omega
  refine sq (wp_region_lit ?_)
  refine stR hF (d_box 0 hM hF rfl) rfl ?_
  rintro _ w' a ⟨b1, rfl, hM, -⟩ hF
  change Mem w w' [some (b1, algC (p : Int) (n : Int) T f), none, none] [] at hM
  refine stR hF (d_box 1 hM hF rfl) rfl ?_
  rintro _ w' a ⟨b2, rfl, hM, -⟩ hF
  change Mem w w' [some (b1, algC (p : Int) (n : Int) T f), some (b2, vecC v), none] [] at hM
  refine st hF (g_assign hF rfl) rfl fun a hF => st hF (g_assign hF rfl) rfl fun a hF => ?_
  refine wpList_nil (tN (sq (sq (wp_region_lit ?_))))
  refine st hF (g_loadAgg ty_ag_32 hF rfl (hM.row 0 rfl) (by simp only [fnC_size, cells_size, vecC_size, tabC_size, planeC_size, dgC_size, numC_sz, ldB_size, rowV_size, mrk_size] <;> omega) (whole cells_size)) rfl fun a hF => st hF (g_loadAgg ty_ag_30 hF rfl (hM.row 1 rfl) (by simp only [fnC_size, cells_size, vecC_size, tabC_size, planeC_size, dgC_size, numC_sz, ldB_size, rowV_size, mrk_size] <;> omega) (whole (by simp only [fnC_size, cells_size, vecC_size, tabC_size, planeC_size, dgC_size, numC_sz, ldB_size, rowV_size, mrk_size]))) rfl fun a hF => ?_
  refine stR hF (d_buildC (vs := [(0, .agg (vecC v))]) 2 hM hF (build1 hF rfl) (fun w => ty_bsg_27_1 v w)) rfl ?_
  rintro _ w' a ⟨b3, rfl, hM, -⟩ hF
  change Mem w w' [some (b1, algC (p : Int) (n : Int) T f), some (b2, vecC v), some (b3, vecsC 1 (vAtL [v]))] [] at hM
  refine stR hF (d_call Tryd.call20 hF (.cons rfl (.cons rfl .nil)) (l05CodeV_Y p n T f v b3 _ hp hn0 hn hTp hT0 hf hv hc hcom (hM.row 2 rfl))) rfl ?_
  rintro _ w' a ⟨hx, rfl⟩ hF
  have hM := hM.ext hx
  refine st hF (g_assign hF rfl) rfl fun a hF => ?_
  refine wpList_nil (tN (sq (wp_region_lit ?_)))
  refine st hF (g_move hF rfl) rfl fun a hF => st hF (g_neq hF rfl rfl) rfl fun a hF => ?_
  refine wpList_nil (tN ?_)
  refine c_kF hF rfl (by decide) ?_
  refine wp_skip (tN (sq (wp_region_lit ?_)))
  refine st hF (g_loadAgg ty_ag_32 hF rfl (hM.row 0 rfl) (by simp only [fnC_size, cells_size, vecC_size, tabC_size, planeC_size, dgC_size, numC_sz, ldB_size, rowV_size, mrk_size] <;> omega) (whole cells_size)) rfl fun a hF => st hF (g_loadAgg ty_ag_30 hF rfl (hM.row 1 rfl) (by simp only [fnC_size, cells_size, vecC_size, tabC_size, planeC_size, dgC_size, numC_sz, ldB_size, rowV_size, mrk_size] <;> omega) (whole (by simp only [fnC_size, cells_size, vecC_size, tabC_size, planeC_size, dgC_size, numC_sz, ldB_size, rowV_size, mrk_size]))) rfl fun a hF => ?_
  refine stR hF (d_call Tryd.call26 hF (.cons rfl (.cons rfl .nil)) (l05Is_ok p n T f v _ hp hn0 hn hTp hT0 hf uu huu haI hkI hv)) rfl ?_
  rintro _ w' a ⟨hx, rF, VF, hIK, rfl⟩ hF
  have hM := hM.ext hx
  refine st hF (g_assign hF rfl) rfl fun a hF => st hF (g_assign hF rfl) rfl fun a hF => ?_
  refine wpList_nil (tN (wp_ret ?_))
  refine fin2 rfl hF.defers (res_tmp hF rfl) (res_tmp hF rfl) ⟨_, rfl, hM.below, ?_⟩
  exact ⟨rF, VF, hIK, rfl⟩

theorem IsPrimitiveI_W (p n : Nat) (T : Nat → Nat → Nat → Nat) (f : Nat → Nat) (v : Nat → Nat) (r0 : Nat) (W0 : Nat → Nat → Nat) (w : World) (hp : primeN p) (hn0 : 0 < n) (hn : n ≤ 6) (hTp : ∀ i j k, T i j k < p) (hT0 : ∀ i j k, n ≤ k → T i j k = 0) (hf : ∀ i, f i ≤ 255) (hv : ∀ i, v i ≤ 255) (hc : CodeP (p : Int) (n : Int) T f 1 (vAtL [v])) (hcom : comP T) (uu : Nat → Nat) (huu : UnitI p n T uu) (haI : AssI p n T) (hkI : ComI n T) (hK0 : IsKer p n (spE p n T uu p 1) n r0 W0) : CallsR Tryd.prog 15 #[.agg (algC (p : Int) (n : Int) T f), .agg (vecC v)] w (fun u w' => u = .tuple #[.bool (decide (∃ i, i < (prL p n T uu W0 r0).length ∧ eqV 6 ((srt (gz (prL p n T uu W0 r0)) (prL p n T uu W0 r0).length) i) v)), .int .i64 0]) :=
  (IsPrimitiveI_Y p n T f v w hp hn0 hn hTp hT0 hf hv hc hcom uu huu haI hkI).mono fun u w' _ h2 => by
    obtain ⟨r, V, hIK, e⟩ := h2
    rw [prL_same hp.two hK0 hIK] at e
    exact e

theorem IsPrimitiveS_W (p n : Nat) (T : Nat → Nat → Nat → Nat) (f : Nat → Nat) (v : Nat → Nat) (r0 : Nat) (W0 : Nat → Nat → Nat) (w : World) (hp : primeN p) (hn0 : 0 < n) (hn : n ≤ 6) (hTp : ∀ i j k, T i j k < p) (hT0 : ∀ i j k, n ≤ k → T i j k = 0) (hf : ∀ i, f i ≤ 255) (hv : ∀ i, v i ≤ 255) (hc : CodeP (p : Int) (n : Int) T f 1 (vAtL [v])) (hcom : comP T) (uu : Nat → Nat) (huu : UnitI p n T uu) (haI : AssI p n T) (hkI : ComI n T) (hK0 : IsKer p n (spE p n T uu p 1) n r0 W0) : CallsR Tryd.prog 13 #[.agg (algC (p : Int) (n : Int) T f), .agg (vecC v)] w (fun u w' => u = .tuple #[.bool (decide (∃ i, i < (prL p n T uu W0 r0).length ∧ eqV 6 ((srt (gz (prL p n T uu W0 r0)) (prL p n T uu W0 r0).length) i) v)), .int .i64 0]) :=
  (IsPrimitiveS_Y p n T f v w hp hn0 hn hTp hT0 hf hv hc hcom uu huu haI hkI).mono fun u w' _ h2 => by
    obtain ⟨r, V, hIK, e⟩ := h2
    rw [prL_same hp.two hK0 hIK] at e
    exact e

theorem law_IsPrimitiveA (p n : Int) (T : Nat → Nat → Nat → Nat) (f : Nat → Nat) (v : Nat → Nat) (w : World) (hT : ∀ i j k, T i j k ≤ 255) (hf : ∀ i, f i ≤ 255) (hv : ∀ i, v i ≤ 255) (hc : ¬ CodeP p n T f 1 (vAtL [v])) :
    CallsR Tryd.prog 4 #[.agg (algC p n T f), .agg (vecC v)] w (fun res _ => res = .bool true) := by
  refine calls_fr [.agg (algC p n T f), .agg (vecC v)] Tryd.func4 rfl Tryd.ntmps4 rfl fun a hF => ?_
  have hM : Mem w w [none, none] [] := MemX.start w 2
  change Fr 33 a [(0, .agg (algC p n T f)), (1, .agg (vecC v))] at hF
  refine sq (wp_region_lit ?_)
  refine stR hF (d_box 0 hM hF rfl) rfl ?_
  rintro _ w' a ⟨b1, rfl, hM, -⟩ hF
  change Mem w w' [some (b1, algC p n T f), none] [] at hM
  refine stR hF (d_box 1 hM hF rfl) rfl ?_
  rintro _ w' a ⟨b2, rfl, hM, -⟩ hF
  change Mem w w' [some (b1, algC p n T f), some (b2, vecC v)] [] at hM
  refine st hF (g_assign hF rfl) rfl fun a hF => ?_
  refine wpList_nil (tN (sq ?_))
  refine c_par 9 [] [.val (.agg (algC p n T f)), .val (.agg (algC p n T f)), .val (.agg (vecC v)), .val (.agg (vecC v)), .val (.tuple #[.bool (false), .int .i64 (1)]), .val (.tuple #[.bool (false), .int .i64 (1)]), .val (.bool (false)), .val (.int .i64 (1)), .val (.bool (false))] hmix rfl hF rfl hM ⟨fun a w gG hF hS hd => by have hM := hS.mem rfl; exact par_val hS rfl (g_loadAgg ty_ag_26 hF rfl (hM.row 0 rfl) (by simp only [fnC_size, cells_size, vecC_size, tabC_size, planeC_size, dgC_size, numC_sz, ldB_size, rowV_size, mrk_size] <;> omega) (whole cells_size)), fun a w gG hF hS hd => by have hF := hF.ext1 10 (hd 0 rfl rfl); exact par_call (by repeat constructor) hS rfl (d_call Tryd.call8 hF (.cons rfl .nil) (toAlgebra_ok p n T f _)), fun a w gG hF hS hd => by have hM := hS.mem rfl; exact par_val hS rfl (g_loadAgg ty_ag_22 hF rfl (hM.row 1 rfl) (by simp only [fnC_size, cells_size, vecC_size, tabC_size, planeC_size, dgC_size, numC_sz, ldB_size, rowV_size, mrk_size] <;> omega) (whole (by simp only [fnC_size, cells_size, vecC_size, tabC_size, planeC_size, dgC_size, numC_sz, ldB_size, rowV_size, mrk_size]))), fun a w gG hF hS hd => by have hF := hF.ext1 12 (hd 2 rfl rfl); exact par_call (by repeat constructor) hS rfl (d_call Tryd.call14 hF (.cons rfl .nil) (toVector_ok v _)), fun a w gG hF hS hd => by have hF := hF.ext1 11 (hd 1 rfl rfl); have hF := hF.ext1 13 (hd 3 rfl rfl); exact par_call (by repeat constructor) hS rfl (d_call Tryd.call13 hF (.cons rfl (.cons rfl .nil)) (IsPrimitiveS_A p n T f v _ hT hf hv hc)), fun a w gG hF hS hd => by have hF := hF.ext1 14 (hd 4 rfl rfl); exact par_val hS rfl (g_move hF rfl), fun a w gG hF hS hd => by have hF := hF.ext1 9 (hd 5 rfl rfl); exact par_val hS rfl (g_extract hF rfl rfl), fun a w gG hF hS hd => by have hF := hF.ext1 9 (hd 5 rfl rfl); exact par_val hS rfl (g_extract hF rfl rfl), fun a w gG hF hS hd => by have hF := hF.ext1 15 (hd 6 rfl rfl); exact par_val hS rfl (g_assign hF rfl), trivial⟩ ?_
  intro a w' L hF hS hq
  have hF := hF.ext1 10 (hq 0 rfl rfl)
  have hF := hF.ext1 11 (hq 1 rfl rfl)
  have hF := hF.ext1 12 (hq 2 rfl rfl)
  have hF := hF.ext1 13 (hq 3 rfl rfl)
  have hF := hF.ext1 14 (hq 4 rfl rfl)
  have hF := hF.ext1 9 (hq 5 rfl rfl)
  have hF := hF.ext1 15 (hq 6 rfl rfl)
  have hF := hF.ext1 16 (hq 7 rfl rfl)
  have hF := hF.ext1 5 (hq 8 rfl rfl)
  have hM := hS.mem rfl
  change wpList Tryd.prog _ _ [_] _ _
  refine st hF (g_assign hF rfl) rfl fun a hF => ?_
  refine wpList_nil (tN (sq ?_))
  refine c_par 9 [] [.val (.agg (algC p n T f)), .val (.agg (algC p n T f)), .val (.agg (vecC v)), .val (.agg (vecC v)), .val (.tuple #[.bool (false), .int .i64 (1)]), .val (.tuple #[.bool (false), .int .i64 (1)]), .val (.bool (false)), .val (.int .i64 (1)), .val (.bool (false))] hmix rfl hF rfl hM ⟨fun a w gG hF hS hd => by have hM := hS.mem rfl; exact par_val hS rfl (g_loadAgg ty_ag_26 hF rfl (hM.row 0 rfl) (by simp only [fnC_size, cells_size, vecC_size, tabC_size, planeC_size, dgC_size, numC_sz, ldB_size, rowV_size, mrk_size] <;> omega) (whole cells_size)), fun a w gG hF hS hd => by have hF := hF.ext1 18 (hd 0 rfl rfl); exact par_call (by repeat constructor) hS rfl (d_call Tryd.call8 hF (.cons rfl .nil) (toAlgebra_ok p n T f _)), fun a w gG hF hS hd => by have hM := hS.mem rfl; exact par_val hS rfl (g_loadAgg ty_ag_22 hF rfl (hM.row 1 rfl) (by simp only [fnC_size, cells_size, vecC_size, tabC_size, planeC_size, dgC_size, numC_sz, ldB_size, rowV_size, mrk_size] <;> omega) (whole (by simp only [fnC_size, cells_size, vecC_size, tabC_size, planeC_size, dgC_size, numC_sz, ldB_size, rowV_size, mrk_size]))), fun a w gG hF hS hd => by have hF := hF.ext1 20 (hd 2 rfl rfl); exact par_call (by repeat constructor) hS rfl (d_call Tryd.call14 hF (.cons rfl .nil) (toVector_ok v _)), fun a w gG hF hS hd => by have hF := hF.ext1 19 (hd 1 rfl rfl); have hF := hF.ext1 21 (hd 3 rfl rfl); exact par_call (by repeat constructor) hS rfl (d_call Tryd.call15 hF (.cons rfl (.cons rfl .nil)) (IsPrimitiveI_A p n T f v _ hT hf hv hc)), fun a w gG hF hS hd => by have hF := hF.ext1 22 (hd 4 rfl rfl); exact par_val hS rfl (g_move hF rfl), fun a w gG hF hS hd => by have hF := hF.ext1 17 (hd 5 rfl rfl); exact par_val hS rfl (g_extract hF rfl rfl), fun a w gG hF hS hd => by have hF := hF.ext1 17 (hd 5 rfl rfl); exact par_val hS rfl (g_extract hF rfl rfl), fun a w gG hF hS hd => by have hF := hF.ext1 23 (hd 6 rfl rfl); exact par_val hS rfl (g_assign hF rfl), trivial⟩ ?_
  intro a w' L hF hS hq
  have hF := hF.ext1 18 (hq 0 rfl rfl)
  have hF := hF.ext1 19 (hq 1 rfl rfl)
  have hF := hF.ext1 20 (hq 2 rfl rfl)
  have hF := hF.ext1 21 (hq 3 rfl rfl)
  have hF := hF.ext1 22 (hq 4 rfl rfl)
  have hF := hF.ext1 17 (hq 5 rfl rfl)
  have hF := hF.ext1 23 (hq 6 rfl rfl)
  have hF := hF.ext1 24 (hq 7 rfl rfl)
  have hF := hF.ext1 7 (hq 8 rfl rfl)
  have hM := hS.mem rfl
  change wpList Tryd.prog _ _ [_] _ _
  refine st hF (g_assign hF rfl) rfl fun a hF => ?_
  refine wpList_nil (tN (sq (sq (wp_region_lit ?_))))
  refine st hF (g_move hF rfl) rfl fun a hF => st hF (g_move hF rfl) rfl fun a hF => st hF (g_neqBo ty_ub_4 hF rfl rfl) rfl fun a hF => st hF (g_move hF rfl) rfl fun a hF => ?_
  by_cases g3 : (false : Bool) ≠ (false : Bool)
  ·
   first | rw [decide_eq_true g3] at hF | simp only [decide_eq_true g3] at hF
   first | exact absurd rfl g3 | (exfalso; omega)
  ·
   first | rw [decide_eq_false g3] at hF | simp only [decide_eq_false g3] at hF
   refine stY hF rfl rfl rfl (g_move hF rfl) rfl fun a hF => stY hF rfl rfl rfl (g_move hF rfl) rfl fun a hF => stY hF rfl rfl rfl (g_neq hF rfl rfl) rfl fun a hF => st hF (g_pickF hF rfl rfl) rfl fun a hF => ?_
   refine wpList_nil (tN ?_)
   refine c_kF hF rfl (by decide) ?_
   refine wp_skip (tN (sq (wp_region_lit ?_)))
   refine st hF (g_assign hF rfl) rfl fun a hF => ?_
   refine wpList_nil (tN (wp_ret ?_))
   refine fin1 rfl hF.defers (res_tmp hF rfl) ⟨_, rfl, hM.below, ?_⟩
   show _ = _
   rfl

theorem law_IsPrimitiveN (p n : Nat) (T : Nat → Nat → Nat → Nat) (f : Nat → Nat) (v : Nat → Nat) (ev : Value) (w : World) (hp : primeN p) (hn0 : 0 < n) (hn : n ≤ 6) (hTp : ∀ i j k, T i j k < p) (hT0 : ∀ i j k, n ≤ k → T i j k = 0) (hf : ∀ i, f i ≤ 255) (hv : ∀ i, v i ≤ 255) (hc : CodeP (p : Int) (n : Int) T f 1 (vAtL [v])) (hcom : ¬ comP T) (hg : Blk w 0 #[.iface 141 ev]) :
    CallsR Tryd.prog 4 #[.agg (algC (p : Int) (n : Int) T f), .agg (vecC v)] w (fun res _ => res = .bool true) := by
  refine calls_fr [.agg (algC (p : Int) (n : Int) T f), .agg (vecC v)] Tryd.func4 rfl Tryd.ntmps4 rfl fun a hF => ?_
  have hM : Mem w w [none, none] [(0, #[.iface 141 ev])] := MemX.startD w 2 _ (startD1 hg)
  change Fr 33 a [(0, .agg (algC (p : Int) (n : Int) T f)), (1, .agg (vecC v))] at hF
  have hp2 := hp.two
  have hp13 := hp.le
  have hT : ∀ i j k, T i j k ≤ 255 := fun i j k => by have := hTp i j k; omega
  refine sq (wp_region_lit ?_)
  refine stR hF (d_box 0 hM hF rfl) rfl ?_
  rintro _ w' a ⟨b1, rfl, hM, -⟩ hF
  change Mem w w' [some (b1, algC (p : Int) (n : Int) T f), none] [(0, #[.iface 141 ev])] at hM
  refine stR hF (d_box 1 hM hF rfl) rfl ?_
  rintro _ w' a ⟨b2, rfl, hM, -⟩ hF
  change Mem w w' [some (b1, algC (p : Int) (n : Int) T f), some (b2, vecC v)] [(0, #[.iface 141 ev])] at hM
  refine st hF (g_assign hF rfl) rfl fun a hF => ?_
  refine wpList_nil (tN (sq ?_))
  refine c_par 9 [] [.val (.agg (algC (p : Int) (n : Int) T f)), .val (.agg (algC (p : Int) (n : Int) T f)), .val (.agg (vecC v)), .val (.agg (vecC v)), .val (.tuple #[.bool (false), .int .i64 (5)]), .val (.tuple #[.bool (false), .int .i64 (5)]), .val (.bool (false)), .val (.int .i64 (5)), .val (.bool (false))] hmix rfl hF rfl hM ⟨fun a w gG hF hS hd => by have hM := hS.mem rfl; exact par_val hS rfl (g_loadAgg ty_ag_26 hF rfl (hM.row 0 rfl) (by simp only [fnC_size, cells_size, vecC_size, tabC_size, planeC_size, dgC_size, numC_sz, ldB_size, rowV_size, mrk_size] <;> omega) (whole cells_size)), fun a w gG hF hS hd => by have hF := hF.ext1 10 (hd 0 rfl rfl); exact par_call (by repeat constructor) hS rfl (d_call Tryd.call8 hF (.cons rfl .nil) (toAlgebra_ok (p : Int) (n : Int) T f _)), fun a w gG hF hS hd => by have hM := hS.mem rfl; exact par_val hS rfl (g_loadAgg ty_ag_22 hF rfl (hM.row 1 rfl) (by simp only [fnC_size, cells_size, vecC_size, tabC_size, planeC_size, dgC_size, numC_sz, ldB_size, rowV_size, mrk_size] <;> omega) (whole (by simp only [fnC_size, cells_size, vecC_size, tabC_size, planeC_size, dgC_size, numC_sz, ldB_size, rowV_size, mrk_size]))), fun a w gG hF hS hd => by have hF := hF.ext1 12 (hd 2 rfl rfl); exact par_call (by repeat constructor) hS rfl (d_call Tryd.call14 hF (.cons rfl .nil) (toVector_ok v _)), fun a w gG hF hS hd => by have hF := hF.ext1 11 (hd 1 rfl rfl); have hF := hF.ext1 13 (hd 3 rfl rfl); exact par_call (by repeat constructor) hS rfl (d_call Tryd.call13 hF (.cons rfl (.cons rfl .nil)) (IsPrimitiveS_N p n T f v _ hp hn0 hn hTp hT0 hf hv hc hcom)), fun a w gG hF hS hd => by have hF := hF.ext1 14 (hd 4 rfl rfl); exact par_val hS rfl (g_move hF rfl), fun a w gG hF hS hd => by have hF := hF.ext1 9 (hd 5 rfl rfl); exact par_val hS rfl (g_extract hF rfl rfl), fun a w gG hF hS hd => by have hF := hF.ext1 9 (hd 5 rfl rfl); exact par_val hS rfl (g_extract hF rfl rfl), fun a w gG hF hS hd => by have hF := hF.ext1 15 (hd 6 rfl rfl); exact par_val hS rfl (g_assign hF rfl), trivial⟩ ?_
  intro a w' L hF hS hq
  have hF := hF.ext1 10 (hq 0 rfl rfl)
  have hF := hF.ext1 11 (hq 1 rfl rfl)
  have hF := hF.ext1 12 (hq 2 rfl rfl)
  have hF := hF.ext1 13 (hq 3 rfl rfl)
  have hF := hF.ext1 14 (hq 4 rfl rfl)
  have hF := hF.ext1 9 (hq 5 rfl rfl)
  have hF := hF.ext1 15 (hq 6 rfl rfl)
  have hF := hF.ext1 16 (hq 7 rfl rfl)
  have hF := hF.ext1 5 (hq 8 rfl rfl)
  have hM := hS.mem rfl
  change wpList Tryd.prog _ _ [_] _ _
  refine st hF (g_assign hF rfl) rfl fun a hF => ?_
  refine wpList_nil (tN (sq ?_))
  refine c_par 9 [] [.val (.agg (algC (p : Int) (n : Int) T f)), .val (.agg (algC (p : Int) (n : Int) T f)), .val (.agg (vecC v)), .val (.agg (vecC v)), .val (.tuple #[.bool (false), .int .i64 (5)]), .val (.tuple #[.bool (false), .int .i64 (5)]), .val (.bool (false)), .val (.int .i64 (5)), .val (.bool (false))] hmix rfl hF rfl hM ⟨fun a w gG hF hS hd => by have hM := hS.mem rfl; exact par_val hS rfl (g_loadAgg ty_ag_26 hF rfl (hM.row 0 rfl) (by simp only [fnC_size, cells_size, vecC_size, tabC_size, planeC_size, dgC_size, numC_sz, ldB_size, rowV_size, mrk_size] <;> omega) (whole cells_size)), fun a w gG hF hS hd => by have hF := hF.ext1 18 (hd 0 rfl rfl); exact par_call (by repeat constructor) hS rfl (d_call Tryd.call8 hF (.cons rfl .nil) (toAlgebra_ok (p : Int) (n : Int) T f _)), fun a w gG hF hS hd => by have hM := hS.mem rfl; exact par_val hS rfl (g_loadAgg ty_ag_22 hF rfl (hM.row 1 rfl) (by simp only [fnC_size, cells_size, vecC_size, tabC_size, planeC_size, dgC_size, numC_sz, ldB_size, rowV_size, mrk_size] <;> omega) (whole (by simp only [fnC_size, cells_size, vecC_size, tabC_size, planeC_size, dgC_size, numC_sz, ldB_size, rowV_size, mrk_size]))), fun a w gG hF hS hd => by have hF := hF.ext1 20 (hd 2 rfl rfl); exact par_call (by repeat constructor) hS rfl (d_call Tryd.call14 hF (.cons rfl .nil) (toVector_ok v _)), fun a w gG hF hS hd => by have hF := hF.ext1 19 (hd 1 rfl rfl); have hF := hF.ext1 21 (hd 3 rfl rfl); have hM := hS.mem rfl; exact par_call (by repeat constructor) hS rfl (d_call Tryd.call15 hF (.cons rfl (.cons rfl .nil)) (IsPrimitiveI_N p n T f v ev _ hp hn0 hn hTp hT0 hf hv hc hcom (hM.fz 0 rfl))), fun a w gG hF hS hd => by have hF := hF.ext1 22 (hd 4 rfl rfl); exact par_val hS rfl (g_move hF rfl), fun a w gG hF hS hd => by have hF := hF.ext1 17 (hd 5 rfl rfl); exact par_val hS rfl (g_extract hF rfl rfl), fun a w gG hF hS hd => by have hF := hF.ext1 17 (hd 5 rfl rfl); exact par_val hS rfl (g_extract hF rfl rfl), fun a w gG hF hS hd => by have hF := hF.ext1 23 (hd 6 rfl rfl); exact par_val hS rfl (g_assign hF rfl), trivial⟩ ?_
  intro a w' L hF hS hq
  have hF := hF.ext1 18 (hq 0 rfl rfl)
  have hF := hF.ext1 19 (hq 1 rfl rfl)
  have hF := hF.ext1 20 (hq 2 rfl rfl)
  have hF := hF.ext1 21 (hq 3 rfl rfl)
  have hF := hF.ext1 22 (hq 4 rfl rfl)
  have hF := hF.ext1 17 (hq 5 rfl rfl)
  have hF := hF.ext1 23 (hq 6 rfl rfl)
  have hF := hF.ext1 24 (hq 7 rfl rfl)
  have hF := hF.ext1 7 (hq 8 rfl rfl)
  have hM := hS.mem rfl
  change wpList Tryd.prog _ _ [_] _ _
  refine st hF (g_assign hF rfl) rfl fun a hF => ?_
  refine wpList_nil (tN (sq (sq (wp_region_lit ?_))))
  refine st hF (g_move hF rfl) rfl fun a hF => st hF (g_move hF rfl) rfl fun a hF => st hF (g_neqBo ty_ub_4 hF rfl rfl) rfl fun a hF => st hF (g_move hF rfl) rfl fun a hF => ?_
  by_cases g3 : (false : Bool) ≠ (false : Bool)
  ·
   first | rw [decide_eq_true g3] at hF | simp only [decide_eq_true g3] at hF
   first | exact absurd rfl g3 | (exfalso; omega)
  ·
   first | rw [decide_eq_false g3] at hF | simp only [decide_eq_false g3] at hF
   refine stY hF rfl rfl rfl (g_move hF rfl) rfl fun a hF => stY hF rfl rfl rfl (g_move hF rfl) rfl fun a hF => stY hF rfl rfl rfl (g_neq hF rfl rfl) rfl fun a hF => st hF (g_pickF hF rfl rfl) rfl fun a hF => ?_
   refine wpList_nil (tN ?_)
   refine c_kF hF rfl (by decide) ?_
   refine wp_skip (tN (sq (wp_region_lit ?_)))
   refine st hF (g_assign hF rfl) rfl fun a hF => ?_
   refine wpList_nil (tN (wp_ret ?_))
   refine fin1 rfl hF.defers (res_tmp hF rfl) ⟨_, rfl, hM.below, ?_⟩
   show _ = _
   rfl

theorem law_IsPrimitiveY (p n : Nat) (T : Nat → Nat → Nat → Nat) (f : Nat → Nat) (v : Nat → Nat) (r0 : Nat) (W0 : Nat → Nat → Nat) (q9 : Bool) (w : World) (hp : primeN p) (hn0 : 0 < n) (hn : n ≤ 6) (hTp : ∀ i j k, T i j k < p) (hT0 : ∀ i j k, n ≤ k → T i j k = 0) (hf : ∀ i, f i ≤ 255) (hv : ∀ i, v i ≤ 255) (hc : CodeP (p : Int) (n : Int) T f 1 (vAtL [v])) (hcom : comP T) (uu : Nat → Nat) (huu : UnitI p n T uu) (haI : AssI p n T) (hkI : ComI n T) (hK0 : IsKer p n (spE p n T uu p 1) n r0 W0) (hq9 : q9 = decide (∃ i, i < (prL p n T uu W0 r0).length ∧ eqV 6 ((srt (gz (prL p n T uu W0 r0)) (prL p n T uu W0 r0).length) i) v)) :
    CallsR Tryd.prog 4 #[.agg (algC (p : Int) (n : Int) T f), .agg (vecC v)] w (fun res _ => res = .bool true) := by
  refine calls_fr [.agg (algC (p : Int) (n : Int) T f), .agg (vecC v)] Tryd.func4 rfl Tryd.ntmps4 rfl fun a hF => ?_
  have hM : Mem w w [none, none] [] := MemX.start w 2
  change Fr 33 a [(0, .agg (algC (p : Int) (n : Int) T f)), (1, .agg (vecC v))] at hF
  have hp2 := hp.two
  have hp13 := hp.le
  have hT : ∀ i j k, T i j k ≤ 255 := fun i j k => by have := hTp i j k; omega
  refine sq (wp_region_lit ?_)
  refine stR hF (d_box 0 hM hF rfl) rfl ?_
  rintro _ w' a ⟨b1, rfl, hM, -⟩ hF
  change Mem w w' [some (b1, algC (p : Int) (n : Int) T f), none] [] at hM
  refine stR hF (d_box 1 hM hF rfl) rfl ?_
  rintro _ w' a ⟨b2, rfl, hM, -⟩ hF
  change Mem w w' [some (b1, algC (p : Int) (n : Int) T f), some (b2, vecC v)] [] at hM
  refine st hF (g_assign hF rfl) rfl fun a hF => ?_
  refine wpList_nil (tN (sq ?_))
  refine c_par 9 [] [.val (.agg (algC (p : Int) (n : Int) T f)), .val (.agg (algC (p : Int) (n : Int) T f)), .val (.agg (vecC v)), .val (.agg (vecC v)), .val (.tuple #[.bool (q9), .int .i64 (0)]), .val (.tuple #[.bool (q9), .int .i64 (0)]), .val (.bool (q9)), .val (.int .i64 (0)), .val (.bool (q9))] hmix rfl hF rfl hM ⟨fun a w gG hF hS hd => by have hM := hS.mem rfl; exact par_val hS rfl (g_loadAgg ty_ag_26 hF rfl (hM.row 0 rfl) (by simp only [fnC_size, cells_size, vecC_size, tabC_size, planeC_size, dgC_size, numC_sz, ldB_size, rowV_size, mrk_size] <;> omega) (whole cells_size)), fun a w gG hF hS hd => by have hF := hF.ext1 10 (hd 0 rfl rfl); exact par_call (by repeat constructor) hS rfl (d_call Tryd.call8 hF (.cons rfl .nil) (toAlgebra_ok (p : Int) (n : Int) T f _)), fun a w gG hF hS hd => by have hM := hS.mem rfl; exact par_val hS rfl (g_loadAgg ty_ag_22 hF rfl (hM.row 1 rfl) (by simp only [fnC_size, cells_size, vecC_size, tabC_size, planeC_size, dgC_size, numC_sz, ldB_size, rowV_size, mrk_size] <;> omega) (whole (by simp only [fnC_size, cells_size, vecC_size, tabC_size, planeC_size, dgC_size, numC_sz, ldB_size, rowV_size, mrk_size]))), fun a w gG hF hS hd => by have hF := hF.ext1 12 (hd 2 rfl rfl); exact par_call (by repeat constructor) hS rfl (d_call Tryd.call14 hF (.cons rfl .nil) (toVector_ok v _)), fun a w gG hF hS hd => by have hF := hF.ext1 11 (hd 1 rfl rfl); have hF := hF.ext1 13 (hd 3 rfl rfl); exact par_call (by repeat constructor) hS rfl (d_call Tryd.call13 hF (.cons rfl (.cons rfl .nil)) ((CallsR.val (IsPrimitiveS_W p n T f v r0 W0 _ hp hn0 hn hTp hT0 hf hv hc hcom uu huu haI hkI hK0) (by rw [← hq9])))), fun a w gG hF hS hd => by have hF := hF.ext1 14 (hd 4 rfl rfl); exact par_val hS rfl (g_move hF rfl), fun a w gG hF hS hd => by have hF := hF.ext1 9 (hd 5 rfl rfl); exact par_val hS rfl (g_extract hF rfl rfl), fun a w gG hF hS hd => by have hF := hF.ext1 9 (hd 5 rfl rfl); exact par_val hS rfl (g_extract hF rfl rfl), fun a w gG hF hS hd => by have hF := hF.ext1 15 (hd 6 rfl rfl); exact par_val hS rfl (g_assign hF rfl), trivial⟩ ?_
  intro a w' L hF hS hq
  have hF := hF.ext1 10 (hq 0 rfl rfl)
  have hF := hF.ext1 11 (hq 1 rfl rfl)
  have hF := hF.ext1 12 (hq 2 rfl rfl)
  have hF := hF.ext1 13 (hq 3 rfl rfl)
  have hF := hF.ext1 14 (hq 4 rfl rfl)
  have hF := hF.ext1 9 (hq 5 rfl rfl)
  have hF := hF.ext1 15 (hq 6 rfl rfl)
  have hF := hF.ext1 16 (hq 7 rfl rfl)
  have hF := hF.ext1 5 (hq 8 rfl rfl)
  have hM := hS.mem rfl
  change wpList Tryd.prog _ _ [_] _ _
  refine st hF (g_assign hF rfl) rfl fun a hF => ?_
  refine wpList_nil (tN (sq ?_))
  refine c_par 9 [] [.val (.agg (algC (p : Int) (n : Int) T f)), .val (.agg (algC (p : Int) (n : Int) T f)), .val (.agg (vecC v)), .val (.agg (vecC v)), .val (.tuple #[.bool (q9), .int .i64 (0)]), .val (.tuple #[.bool (q9), .int .i64 (0)]), .val (.bool (q9)), .val (.int .i64 (0)), .val (.bool (q9))] hmix rfl hF rfl hM ⟨fun a w gG hF hS hd => by have hM := hS.mem rfl; exact par_val hS rfl (g_loadAgg ty_ag_26 hF rfl (hM.row 0 rfl) (by simp only [fnC_size, cells_size, vecC_size, tabC_size, planeC_size, dgC_size, numC_sz, ldB_size, rowV_size, mrk_size] <;> omega) (whole cells_size)), fun a w gG hF hS hd => by have hF := hF.ext1 18 (hd 0 rfl rfl); exact par_call (by repeat constructor) hS rfl (d_call Tryd.call8 hF (.cons rfl .nil) (toAlgebra_ok (p : Int) (n : Int) T f _)), fun a w gG hF hS hd => by have hM := hS.mem rfl; exact par_val hS rfl (g_loadAgg ty_ag_22 hF rfl (hM.row 1 rfl) (by simp only [fnC_size, cells_size, vecC_size, tabC_size, planeC_size, dgC_size, numC_sz, ldB_size, rowV_size, mrk_size] <;> omega) (whole (by simp only [fnC_size, cells_size, vecC_size, tabC_size, planeC_size, dgC_size, numC_sz, ldB_size, rowV_size, mrk_size]))), fun a w gG hF hS hd => by have hF := hF.ext1 20 (hd 2 rfl rfl); exact par_call (by repeat constructor) hS rfl (d_call Tryd.call14 hF (.cons rfl .nil) (toVector_ok v _)), fun a w gG hF hS hd => by have hF := hF.ext1 19 (hd 1 rfl rfl); have hF := hF.ext1 21 (hd 3 rfl rfl); exact par_call (by repeat constructor) hS rfl (d_call Tryd.call15 hF (.cons rfl (.cons rfl .nil)) ((CallsR.val (IsPrimitiveI_W p n T f v r0 W0 _ hp hn0 hn hTp hT0 hf hv hc hcom uu huu haI hkI hK0) (by rw [← hq9])))), fun a w gG hF hS hd => by have hF := hF.ext1 22 (hd 4 rfl rfl); exact par_val hS rfl (g_move hF rfl), fun a w gG hF hS hd => by have hF := hF.ext1 17 (hd 5 rfl rfl); exact par_val hS rfl (g_extract hF rfl rfl), fun a w gG hF hS hd => by have hF := hF.ext1 17 (hd 5 rfl rfl); exact par_val hS rfl (g_extract hF rfl rfl), fun a w gG hF hS hd => by have hF := hF.ext1 23 (hd 6 rfl rfl); exact par_val hS rfl (g_assign hF rfl), trivial⟩ ?_
  intro a w' L hF hS hq
  have hF := hF.ext1 18 (hq 0 rfl rfl)
  have hF := hF.ext1 19 (hq 1 rfl rfl)
  have hF := hF.ext1 20 (hq 2 rfl rfl)
  have hF := hF.ext1 21 (hq 3 rfl rfl)
  have hF := hF.ext1 22 (hq 4 rfl rfl)
  have hF := hF.ext1 17 (hq 5 rfl rfl)
  have hF := hF.ext1 23 (hq 6 rfl rfl)
  have hF := hF.ext1 24 (hq 7 rfl rfl)
  have hF := hF.ext1 7 (hq 8 rfl rfl)
  have hM := hS.mem rfl
  change wpList Tryd.prog _ _ [_] _ _
  refine st hF (g_assign hF rfl) rfl fun a hF => ?_
  refine wpList_nil (tN (sq (sq (wp_region_lit ?_))))
  refine st hF (g_move hF rfl) rfl fun a hF => st hF (g_move hF rfl) rfl fun a hF => st hF (g_neqBo ty_ub_4 hF rfl rfl) rfl fun a hF => st hF (g_move hF rfl) rfl fun a hF => ?_
  by_cases g3 : (q9 : Bool) ≠ (q9 : Bool)
  ·
   first | rw [decide_eq_true g3] at hF | simp only [decide_eq_true g3] at hF
   first | exact absurd rfl g3 | (exfalso; omega)
  ·
   first | rw [decide_eq_false g3] at hF | simp only [decide_eq_false g3] at hF
   refine stY hF rfl rfl rfl (g_move hF rfl) rfl fun a hF => stY hF rfl rfl rfl (g_move hF rfl) rfl fun a hF => stY hF rfl rfl rfl (g_neq hF rfl rfl) rfl fun a hF => st hF (g_pickF hF rfl rfl) rfl fun a hF => ?_
   refine wpList_nil (tN ?_)
   refine c_kF hF rfl (by decide) ?_
   refine wp_skip (tN (sq (wp_region_lit ?_)))
   refine st hF (g_assign hF rfl) rfl fun a hF => ?_
   refine wpList_nil (tN (wp_ret ?_))
   refine fin1 rfl hF.defers (res_tmp hF rfl) ⟨_, rfl, hM.below, ?_⟩
   show _ = _
   rfl

theorem law_IsPrimitive (p n : Int) (T : Nat → Nat → Nat → Nat) (f : Nat → Nat) (v : Nat → Nat) (ev : Value) (w : World) (hT : ∀ i j k, T i j k ≤ 255) (hf : ∀ i, f i ≤ 255) (hv : ∀ i, v i ≤ 255) (hg : Blk w 0 #[.iface 141 ev]) : CallsV Tryd.prog 4 #[.agg (algC p n T f), .agg (vecC v)] w (.bool true) := by
  by_cases hc : CodeP p n T f 1 (vAtL [v])
  · have hs0 := hc.1.1
    have hp0 := primeP_pos hs0.1
    have hn := hs0.2.1
    have e1 : ((p.toNat : Nat) : Int) = p := by omega
    have e2 : ((n.toNat : Nat) : Int) = n := by omega
    have hc2 : CodeP ((p.toNat : Nat) : Int) ((n.toNat : Nat) : Int) (trunc n.toNat T) f 1 (vAtL [v]) := by rw [e1, e2]; exact code_trunc hc
    obtain ⟨uu, huu⟩ := hc.1.2.2
    have hpp := primeN_of hs0.1
    by_cases hcom : comP (trunc n.toNat T)
    · have hpm := hpp.two
      have haI := AssI_of (p := p.toNat) (n := n.toNat) (T := (trunc n.toNat T)) (by omega) hc.1.2.1
      have hkI := ComI_of (n := n.toNat) (T := (trunc n.toNat T)) (by omega) hcom
      obtain ⟨r0, W0, hK0⟩ := isKer_exists (n := n.toNat) (m := n.toNat) (M := spE p.toNat n.toNat (trunc n.toNat T) uu p.toNat 1) hpp (fun i c => spE_lt (by omega) i c)
      have h := law_IsPrimitiveY p.toNat n.toNat (trunc n.toNat T) f v r0 W0 _ w hpp (by omega) (by omega) (trunc_lt hs0) trunc_out hf hv hc2 hcom uu huu haI hkI hK0 rfl
      rw [e1, e2, ← algC_trunc hs0] at h
      exact h
    · have h := law_IsPrimitiveN p.toNat n.toNat (trunc n.toNat T) f v ev w hpp (by omega) (by omega) (trunc_lt hs0) trunc_out hf hv hc2 hcom hg
      rw [e1, e2, ← algC_trunc hs0] at h
      exact h
  · exact law_IsPrimitiveA p n T f v w hT hf hv hc

end Go.Proofs.YtbeodbfbfbefkaaDoor
