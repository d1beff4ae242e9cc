/- What functions of the program return, as walks over their operations; no statement of the seat is proved here. -/
import Derived.Test.YtbeodbfbfbefkaaDoorZ10
import Derived.Test.YtbeodbfbfbefkaaDoorEch7
set_option linter.unusedVariables false
set_option linter.unusedSimpArgs false
namespace Go.Proofs.YtbeodbfbfbefkaaDoor
open Go Go.RowKit Go.Sw Go.Ech
open Classical
theorem doorPri_Y (p n : Nat) (T : Nat → Nat → Nat → Nat) (f : Nat → Nat) (w : World) (hp : primeN p) (hn0 : 0 < n) (hn : n ≤ 6) (hTp : ∀ i j k, T i j k < p) (hT0 : ∀ i j k, n ≤ k → T i j k = 0) (hf : ∀ i, f i ≤ 255) (hc : CodeP (p : Int) (n : Int) T f 0 (vAtL [])) (hcom : comP T) (uu : Nat → Nat) (huu : UnitI p n T uu) (haI : AssI p n T) (hkI : ComI n T) :
    CallsR Tryd.prog 23 #[.agg (algC (p : Int) (n : Int) T f), .func (.func 24) #[] #[], .slice none 0 0] w (fun v w' => ∃ rF VF u, IsKer p n (spE p n T uu p 1) n rF VF ∧ OwnSl 6 w (prL p n T uu (padN n VF) rF).length (fun c => .int .u8 (((srt (gz (prL p n T uu (padN n VF) rF)) (prL p n T uu (padN n VF) rF).length) (c / 6) (c % 6) : Nat) : Int)) u w' ∧ v = .tuple #[u, .int .i64 0]) := by
  refine calls_frD [.agg (algC (p : Int) (n : Int) T f), .func (.func 24) #[] #[], .slice none 0 0] Tryd.func23 rfl Tryd.ntmps23 rfl fun a hF => ?_
  have hM : Mem w w [none, none, none] [] := MemX.start w 3
  change Fr 21 a [(0, .agg (algC (p : Int) (n : Int) T f)), (1, .func (.func 24) #[] #[]), (2, .slice none 0 0)] at hF
  have hp2 := hp.two
  have hp13 := hp.le
  have hT : ∀ i j k, T i j k ≤ 255 := fun i j k => by have := hTp i j k; omega
  have hp2 := hp.two
  refine sq (wp_region_lit ?_)
  refine stR hF (d_box 0 hM hF rfl) rfl ?_
  rintro _ w' a ⟨b1, rfl, hM, -⟩ hF
  change Mem w w' [some (b1, algC (p : Int) (n : Int) T f), none, none] [] at hM
  refine st hF (g_assign hF rfl) rfl fun a hF => ?_
  refine stR hF (d_alloc 1 hM ty_ze_2) rfl ?_
  rintro _ w' a ⟨b2, rfl, hM, -⟩ hF
  change Mem w w' [some (b1, algC (p : Int) (n : Int) T f), some (b2, #[.int .i64 (0)]), none] [] at hM
  refine wpList_nil (tN (sq (wp_region_lit ?_)))
  refine st hF (g_makeFunc hF rfl) rfl fun a hF => ?_
  refine st_defer hF rfl fun a hF => ?_
  refine wpList_nil (tN (sq (sq ?_)))
  refine wp_regionD ?_
  refine st hF (g_loadAgg ty_ag_32 hF rfl (hM.row 0 rfl) (by simp only [fnC_size, cells_size, vecC_size, tabC_size, planeC_size, dgC_size, numC_sz, ldB_size, rowV_size] <;> omega) (whole cells_size)) rfl fun a hF => st hF (g_move hF rfl) rfl fun a hF => ?_
  refine stR hF (d_call Tryd.call44 hF (.cons rfl (.cons rfl .nil)) ((CallsR.val (areVectors_0 (p : Int) (n : Int) T f (vAtL []) _ (fun _ _ _ => hT _ _ _) (fun _ => hf _)) (congrArg Value.bool (decide_eq_true hc))))) rfl ?_
  rintro _ w' a ⟨hx, rfl⟩ hF
  have hM := hM.ext hx
  refine st hF (g_not hF rfl) rfl fun a hF => ?_
  refine wpList_nil (tN ?_)
  refine c_FlD hF rfl ?_
  refine wp_skip (tN (sq (sq ?_)))
  refine wp_regionD ?_
  refine st hF (g_loadAgg ty_ag_32 hF rfl (hM.row 0 rfl) (by simp only [fnC_size, cells_size, vecC_size, tabC_size, planeC_size, dgC_size, numC_sz, ldB_size, rowV_size] <;> omega) (whole cells_size)) rfl fun a hF => ?_
  refine stR hF (d_call Tryd.call45 hF (.cons rfl .nil) ((CallsR.val (isOwnOpposite_ok p n T f _ (by omega) (by omega) (fun _ _ _ => hT _ _ _) (fun _ => hf _)) (congrArg Value.bool (decide_eq_true (comP_iff.2 hcom)))))) rfl ?_
  rintro _ w' a ⟨hx, rfl⟩ hF
  have hM := hM.ext hx
  refine st hF (g_not hF rfl) rfl fun a hF => ?_
  refine wpList_nil (tN ?_)
  refine c_FlD hF rfl ?_
  refine wp_skip (tN (sq ?_))
  refine wp_regionD ?_
  refine st hF (g_move hF rfl) rfl fun a hF => st hF (g_loadAgg ty_ag_32 hF rfl (hM.row 0 rfl) (by simp only [fnC_size, cells_size, vecC_size, tabC_size, planeC_size, dgC_size, numC_sz, ldB_size, rowV_size] <;> omega) (whole cells_size)) rfl fun a hF => ?_
  refine stR hF (d_callV Tryd.call24 hF (cap := []) rfl (.cons rfl .nil) (primitiveIdempotents_ok p n T f _ hp hn0 hn hTp hT0 hf uu huu haI hkI)) rfl ?_
  rintro u w' a ⟨hx, rF, VF, hIK, b9, cap9, cs9, hs9, hge9, hb9⟩ hF
  obtain rfl := hs9.val
  have hM := hM.fill hx 2 hb9 hge9
  change Mem w w' [some (b1, algC (p : Int) (n : Int) T f), some (b2, #[.int .i64 (0)]), some (b9, cs9)] [] at hM
  refine st hF (g_assign hF rfl) rfl fun a hF => ?_
  refine stN hF (d_store 1 hM rfl ty_on_2 hF rfl rfl rfl (by first | omega | (simp only [fnC_size, cells_size, vecC_size, tabC_size, planeC_size, dgC_size, numC_sz, ldB_size, rowV_size] <;> omega) | simp)) ?_
  intro _ w' a hM hF
  change Mem w w' [some (b1, algC (p : Int) (n : Int) T f), some (b2, #[.int .i64 (0)]), some (b9, cs9)] [] at hM
  refine wpList_nil (tN (wp_ret ?_))
  refine door_end (f := 43) (b := b2) (by intro hq; cases hq) Tryd.call43 hF (clo_idle43 b2 _ _ (hM.row 1 rfl)) fun w3 hx3 hb3 => ?_
  have hM := hM.upd 1 rfl hx3 hb3
  refine ⟨_, fin2D rfl (res_tmp hF rfl) (res_one ty_on_2 hF rfl (hM.row 1 rfl) rfl), _, rfl, hM.below, ?_⟩
  exact ⟨rF, VF, _, hIK, ⟨_, _, _, hs9, hM.ge 2 rfl, hM.row 2 rfl⟩, rfl⟩

theorem l05Code_A (p n : Int) (T : Nat → Nat → Nat → Nat) (f : Nat → Nat) (w : World) (hT : ∀ i j k, T i j k ≤ 255) (hf : ∀ i, f i ≤ 255) (hc : ¬ CodeP p n T f 0 (vAtL [])) :
    CallsR Tryd.prog 20 #[.agg (algC p n T f), .slice none 0 0] w (fun res _ => res = .int .i64 1) := by
  refine calls_fr [.agg (algC p n T f), .slice none 0 0] Tryd.func20 rfl Tryd.ntmps20 rfl fun a hF => ?_
  have hM : Mem w w [none] [] := MemX.start w 1
  change Fr 15 a [(0, .agg (algC p n T f)), (1, .slice none 0 0)] at hF
  refine sq (wp_region_lit ?_)
  refine stR hF (d_box 0 hM hF rfl) rfl ?_
  rintro _ w' a ⟨b1, rfl, hM, -⟩ hF
  change Mem w w' [some (b1, algC p n T f)] [] at hM
  refine st hF (g_assign hF rfl) rfl fun a hF => ?_
  refine wpList_nil (tN (sq (sq (wp_region_lit ?_))))
  refine st hF (g_loadAgg ty_ag_32 hF rfl (hM.row 0 rfl) (by simp only [fnC_size, cells_size, vecC_size, tabC_size, planeC_size, dgC_size, numC_sz, ldB_size, rowV_size] <;> omega) (whole cells_size)) rfl fun a hF => st hF (g_move hF rfl) rfl fun a hF => ?_
  refine stR hF (d_call Tryd.call34 hF (.cons rfl (.cons rfl .nil)) ((CallsR.val (l01Code_0 p n T f (vAtL []) _ (fun _ _ _ => hT _ _ _) (fun _ => hf _)) (congrArg (Value.int .i64) (if_neg hc))))) rfl ?_
  rintro _ w' a ⟨hx, rfl⟩ hF
  have hM := hM.ext hx
  refine st hF (g_assign hF rfl) rfl fun a hF => ?_
  refine wpList_nil (tN (sq (wp_region_lit ?_)))
  refine st hF (g_move hF rfl) rfl fun a hF => st hF (g_neq hF rfl rfl) rfl fun a hF => ?_
  refine wpList_nil (tN ?_)
  refine c_kT hF rfl (by decide) ?_
  refine sq (wp_region_lit ?_)
  refine st hF (g_move hF rfl) rfl fun a hF => st hF (g_assign hF rfl) rfl fun a hF => ?_
  refine wpList_nil (tN (wp_ret (tR ?_)))
  refine fin1 rfl hF.defers (res_tmp hF rfl) ⟨_, rfl, hM.below, ?_⟩
  show _ = _
  rfl

theorem l05Code_N (p n : Nat) (T : Nat → Nat → Nat → Nat) (f : Nat → Nat) (w : World) (hp : primeN p) (hn0 : 0 < n) (hn : n ≤ 6) (hTp : ∀ i j k, T i j k < p) (hT0 : ∀ i j k, n ≤ k → T i j k = 0) (hf : ∀ i, f i ≤ 255) (hc : CodeP (p : Int) (n : Int) T f 0 (vAtL [])) (hcom : ¬ comP T) :
    CallsR Tryd.prog 20 #[.agg (algC (p : Int) (n : Int) T f), .slice none 0 0] w (fun res _ => res = .int .i64 5) := by
  refine calls_fr [.agg (algC (p : Int) (n : Int) T f), .slice none 0 0] Tryd.func20 rfl Tryd.ntmps20 rfl fun a hF => ?_
  have hM : Mem w w [none] [] := MemX.start w 1
  change Fr 15 a [(0, .agg (algC (p : Int) (n : Int) T f)), (1, .slice none 0 0)] at hF
  have hp2 := hp.two
  have hp13 := hp.le
  have hT : ∀ i j k, T i j k ≤ 255 := fun i j k => by have := hTp i j k; omega
  refine sq (wp_region_lit ?_)
  refine stR hF (d_box 0 hM hF rfl) rfl ?_
  rintro _ w' a ⟨b1, rfl, hM, -⟩ hF
  change Mem w w' [some (b1, algC (p : Int) (n : Int) T f)] [] at hM
  refine st hF (g_assign hF rfl) rfl fun a hF => ?_
  refine wpList_nil (tN (sq (sq (wp_region_lit ?_))))
  refine st hF (g_loadAgg ty_ag_32 hF rfl (hM.row 0 rfl) (by simp only [fnC_size, cells_size, vecC_size, tabC_size, planeC_size, dgC_size, numC_sz, ldB_size, rowV_size] <;> omega) (whole cells_size)) rfl fun a hF => st hF (g_move hF rfl) rfl fun a hF => ?_
  refine stR hF (d_call Tryd.call34 hF (.cons rfl (.cons rfl .nil)) ((CallsR.val (l01Code_0 (p : Int) (n : Int) T f (vAtL []) _ (fun _ _ _ => hT _ _ _) (fun _ => hf _)) (congrArg (Value.int .i64) (if_pos hc))))) rfl ?_
  rintro _ w' a ⟨hx, rfl⟩ hF
  have hM := hM.ext hx
  refine st hF (g_assign hF rfl) rfl fun a hF => ?_
  refine wpList_nil (tN (sq (wp_region_lit ?_)))
  refine st hF (g_move hF rfl) rfl fun a hF => st hF (g_neq hF rfl rfl) rfl fun a hF => ?_
  refine wpList_nil (tN ?_)
  refine c_kF hF rfl (by decide) ?_
  refine wp_skip (tN (sq (sq (wp_region_lit ?_))))
  refine st hF (g_loadAgg ty_ag_32 hF rfl (hM.row 0 rfl) (by simp only [fnC_size, cells_size, vecC_size, tabC_size, planeC_size, dgC_size, numC_sz, ldB_size, rowV_size] <;> omega) (whole cells_size)) rfl fun a hF => ?_
  refine stR hF (d_call Tryd.call35 hF (.cons rfl .nil) ((CallsR.val (l01Commutative_ok (p : Int) (n : Int) T f _) (congrArg Value.bool (decide_eq_false hcom))))) rfl ?_
  rintro _ w' a ⟨hx, rfl⟩ hF
  have hM := hM.ext hx
  refine st hF (g_not hF rfl) rfl fun a hF => ?_
  refine wpList_nil (tN ?_)
  refine c_T hF rfl ?_
  refine sq (wp_region_lit ?_)
  refine st hF (g_assign hF rfl) rfl fun a hF => ?_
  refine wpList_nil (tN (wp_ret (tR ?_)))
  refine fin1 rfl hF.defers (res_tmp hF rfl) ⟨_, rfl, hM.below, ?_⟩
  show _ = _
  rfl

theorem l05Code_Y (p n : Nat) (T : Nat → Nat → Nat → Nat) (f : Nat → Nat) (w : World) (hp : primeN p) (hn0 : 0 < n) (hn : n ≤ 6) (hTp : ∀ i j k, T i j k < p) (hT0 : ∀ i j k, n ≤ k → T i j k = 0) (hf : ∀ i, f i ≤ 255) (hc : CodeP (p : Int) (n : Int) T f 0 (vAtL [])) (hcom : comP T) :
    CallsR Tryd.prog 20 #[.agg (algC (p : Int) (n : Int) T f), .slice none 0 0] w (fun res _ => res = .int .i64 0) := by
  refine calls_fr [.agg (algC (p : Int) (n : Int) T f), .slice none 0 0] Tryd.func20 rfl Tryd.ntmps20 rfl fun a hF => ?_
  have hM : Mem w w [none] [] := MemX.start w 1
  change Fr 15 a [(0, .agg (algC (p : Int) (n : Int) T f)), (1, .slice none 0 0)] at hF
  have hp2 := hp.two
  have hp13 := hp.le
  have hT : ∀ i j k, T i j k ≤ 255 := fun i j k => by have := hTp i j k; omega
  refine sq (wp_region_lit ?_)
  refine stR hF (d_box 0 hM hF rfl) rfl ?_
  rintro _ w' a ⟨b1, rfl, hM, -⟩ hF
  change Mem w w' [some (b1, algC (p : Int) (n : Int) T f)] [] at hM
  refine st hF (g_assign hF rfl) rfl fun a hF => ?_
  refine wpList_nil (tN (sq (sq (wp_region_lit ?_))))
  refine st hF (g_loadAgg ty_ag_32 hF rfl (hM.row 0 rfl) (by simp only [fnC_size, cells_size, vecC_size, tabC_size, planeC_size, dgC_size, numC_sz, ldB_size, rowV_size] <;> omega) (whole cells_size)) rfl fun a hF => st hF (g_move hF rfl) rfl fun a hF => ?_
  refine stR hF (d_call Tryd.call34 hF (.cons rfl (.cons rfl .nil)) ((CallsR.val (l01Code_0 (p : Int) (n : Int) T f (vAtL []) _ (fun _ _ _ => hT _ _ _) (fun _ => hf _)) (congrArg (Value.int .i64) (if_pos hc))))) rfl ?_
  rintro _ w' a ⟨hx, rfl⟩ hF
  have hM := hM.ext hx
  refine st hF (g_assign hF rfl) rfl fun a hF => ?_
  refine wpList_nil (tN (sq (wp_region_lit ?_)))
  refine st hF (g_move hF rfl) rfl fun a hF => st hF (g_neq hF rfl rfl) rfl fun a hF => ?_
  refine wpList_nil (tN ?_)
  refine c_kF hF rfl (by decide) ?_
  refine wp_skip (tN (sq (sq (wp_region_lit ?_))))
  refine st hF (g_loadAgg ty_ag_32 hF rfl (hM.row 0 rfl) (by simp only [fnC_size, cells_size, vecC_size, tabC_size, planeC_size, dgC_size, numC_sz, ldB_size, rowV_size] <;> omega) (whole cells_size)) rfl fun a hF => ?_
  refine stR hF (d_call Tryd.call35 hF (.cons rfl .nil) ((CallsR.val (l01Commutative_ok (p : Int) (n : Int) T f _) (congrArg Value.bool (decide_eq_true hcom))))) rfl ?_
  rintro _ w' a ⟨hx, rfl⟩ hF
  have hM := hM.ext hx
  refine st hF (g_not hF rfl) rfl fun a hF => ?_
  refine wpList_nil (tN ?_)
  refine c_Fl hF rfl ?_
  refine wp_skip (tN (sq (wp_region_lit ?_)))
  refine st hF (g_assign hF rfl) rfl fun a hF => ?_
  refine wpList_nil (tN (wp_ret ?_))
  refine fin1 rfl hF.defers (res_tmp hF rfl) ⟨_, rfl, hM.below, ?_⟩
  show _ = _
  rfl

theorem PrimitiveIdempotentsI_A (p n : Int) (T : Nat → Nat → Nat → Nat) (f : Nat → Nat) (w : World) (hT : ∀ i j k, T i j k ≤ 255) (hf : ∀ i, f i ≤ 255) (hc : ¬ CodeP p n T f 0 (vAtL [])) :
    CallsR Tryd.prog 9 #[.agg (algC p n T f)] w (fun res _ => res = .tuple #[.slice none 0 0, .int .i64 1]) := by
  refine calls_fr [.agg (algC p n T f)] Tryd.func9 rfl Tryd.ntmps9 rfl fun a hF => ?_
  have hM : Mem w w [none, none] [] := MemX.start w 2
  change Fr 8 a [(0, .agg (algC p n T f))] at hF
  refine sq (wp_region_lit ?_)
  refine stR hF (d_box 0 hM hF rfl) rfl ?_
  rintro _ w' a ⟨b1, rfl, hM, -⟩ hF
  change Mem w w' [some (b1, algC p n T f), none] [] at hM
  refine st hF (g_assign hF rfl) rfl fun a hF => st hF (g_assign hF rfl) rfl fun a hF => ?_
  refine wpList_nil (tN (sq (wp_region_lit ?_)))
  refine st hF (g_loadAgg ty_ag_32 hF rfl (hM.row 0 rfl) (by simp only [fnC_size, cells_size, vecC_size, tabC_size, planeC_size, dgC_size, numC_sz, ldB_size, rowV_size] <;> omega) (whole cells_size)) rfl fun a hF => ?_
  refine stR hF (d_call Tryd.call23 hF (.cons rfl (.cons rfl (.cons rfl .nil))) (doorV_A p n T f (.func (.func 24) #[] #[]) _ hT hf hc)) rfl ?_
  rintro _ w' a ⟨hx, rfl⟩ hF
  have hM := hM.ext hx
  refine st hF (g_extract hF rfl rfl) rfl fun a hF => st hF (g_extract hF rfl rfl) rfl fun a hF => st hF (g_assign hF rfl) rfl fun a hF => st hF (g_assign hF rfl) rfl fun a hF => ?_
  refine wpList_nil (tN (wp_ret ?_))
  refine fin2 rfl hF.defers (res_tmp hF rfl) (res_tmp hF rfl) ⟨_, rfl, hM.below, ?_⟩
  show _ = _
  rfl

theorem PrimitiveIdempotentsS_A (p n : Int) (T : Nat → Nat → Nat → Nat) (f : Nat → Nat) (w : World) (hT : ∀ i j k, T i j k ≤ 255) (hf : ∀ i, f i ≤ 255) (hc : ¬ CodeP p n T f 0 (vAtL [])) :
    CallsR Tryd.prog 7 #[.agg (algC p n T f)] w (fun res _ => res = .tuple #[.slice none 0 0, .int .i64 1]) := by
  refine calls_fr [.agg (algC p n T f)] Tryd.func7 rfl Tryd.ntmps7 rfl fun a hF => ?_
  have hM : Mem w w [none, none] [] := MemX.start w 2
  change Fr 12 a [(0, .agg (algC p n T f))] at hF
  refine sq (wp_region_lit ?_)
  refine stR hF (d_box 0 hM hF rfl) rfl ?_
  rintro _ w' a ⟨b1, rfl, hM, -⟩ hF
  change Mem w w' [some (b1, algC p n T f), none] [] at hM
  refine st hF (g_assign hF rfl) rfl fun a hF => st hF (g_assign hF rfl) rfl fun a hF => ?_
  refine wpList_nil (tN (sq (sq (wp_region_lit ?_))))
  refine st hF (g_loadAgg ty_ag_32 hF rfl (hM.row 0 rfl) (by simp only [fnC_size, cells_size, vecC_size, tabC_size, planeC_size, dgC_size, numC_sz, ldB_size, rowV_size] <;> omega) (whole cells_size)) rfl fun a hF => ?_
  refine stR hF (d_call Tryd.call20 hF (.cons rfl (.cons rfl .nil)) (l05Code_A p n T f _ hT hf hc)) rfl ?_
  rintro _ w' a ⟨hx, rfl⟩ hF
  have hM := hM.ext hx
  refine st hF (g_assign hF rfl) rfl fun a hF => ?_
  refine wpList_nil (tN (sq (wp_region_lit ?_)))
  refine st hF (g_move hF rfl) rfl fun a hF => st hF (g_neq hF rfl rfl) rfl fun a hF => ?_
  refine wpList_nil (tN ?_)
  refine c_kT hF rfl (by decide) ?_
  refine sq (wp_region_lit ?_)
  refine st hF (g_move hF rfl) rfl fun a hF => st hF (g_assign hF rfl) rfl fun a hF => st hF (g_assign hF rfl) rfl fun a hF => ?_
  refine wpList_nil (tN (wp_ret (tR ?_)))
  refine fin2 rfl hF.defers (res_tmp hF rfl) (res_tmp hF rfl) ⟨_, rfl, hM.below, ?_⟩
  show _ = _
  rfl

theorem PrimitiveIdempotentsI_N (p n : Nat) (T : Nat → Nat → Nat → Nat) (f : Nat → Nat) (ev : Value) (w : World) (hp : primeN p) (hn0 : 0 < n) (hn : n ≤ 6) (hTp : ∀ i j k, T i j k < p) (hT0 : ∀ i j k, n ≤ k → T i j k = 0) (hf : ∀ i, f i ≤ 255) (hc : CodeP (p : Int) (n : Int) T f 0 (vAtL [])) (hcom : ¬ comP T) (hg : Blk w 0 #[.iface 141 ev]) :
    CallsR Tryd.prog 9 #[.agg (algC (p : Int) (n : Int) T f)] w (fun res _ => res = .tuple #[.slice none 0 0, .int .i64 5]) := by
  refine calls_fr [.agg (algC (p : Int) (n : Int) T f)] Tryd.func9 rfl Tryd.ntmps9 rfl fun a hF => ?_
  have hM : Mem w w [none, none] [(0, #[.iface 141 ev])] := MemX.startD w 2 _ (startD1 hg)
  change Fr 8 a [(0, .agg (algC (p : Int) (n : Int) T f))] at hF
  have hp2 := hp.two
  have hp13 := hp.le
  have hT : ∀ i j k, T i j k ≤ 255 := fun i j k => by have := hTp i j k; omega
  refine sq (wp_region_lit ?_)
  refine stR hF (d_box 0 hM hF rfl) rfl ?_
  rintro _ w' a ⟨b1, rfl, hM, -⟩ hF
  change Mem w w' [some (b1, algC (p : Int) (n : Int) T f), none] [(0, #[.iface 141 ev])] at hM
  refine st hF (g_assign hF rfl) rfl fun a hF => st hF (g_assign hF rfl) rfl fun a hF => ?_
  refine wpList_nil (tN (sq (wp_region_lit ?_)))
  refine st hF (g_loadAgg ty_ag_32 hF rfl (hM.row 0 rfl) (by simp only [fnC_size, cells_size, vecC_size, tabC_size, planeC_size, dgC_size, numC_sz, ldB_size, rowV_size] <;> omega) (whole cells_size)) rfl fun a hF => ?_
  refine stR hF (d_call Tryd.call23 hF (.cons rfl (.cons rfl (.cons rfl .nil))) (doorV_N p n T f ev (.func (.func 24) #[] #[]) _ hp hn0 hn hTp hT0 hf hc hcom (hM.fz 0 rfl))) rfl ?_
  rintro _ w' a ⟨hx, rfl⟩ hF
  have hM := hM.ext hx
  refine st hF (g_extract hF rfl rfl) rfl fun a hF => st hF (g_extract hF rfl rfl) rfl fun a hF => st hF (g_assign hF rfl) rfl fun a hF => st hF (g_assign hF rfl) rfl fun a hF => ?_
  refine wpList_nil (tN (wp_ret ?_))
  refine fin2 rfl hF.defers (res_tmp hF rfl) (res_tmp hF rfl) ⟨_, rfl, hM.below, ?_⟩
  show _ = _
  rfl

theorem PrimitiveIdempotentsS_N (p n : Nat) (T : Nat → Nat → Nat → Nat) (f : Nat → Nat) (w : World) (hp : primeN p) (hn0 : 0 < n) (hn : n ≤ 6) (hTp : ∀ i j k, T i j k < p) (hT0 : ∀ i j k, n ≤ k → T i j k = 0) (hf : ∀ i, f i ≤ 255) (hc : CodeP (p : Int) (n : Int) T f 0 (vAtL [])) (hcom : ¬ comP T) :
    CallsR Tryd.prog 7 #[.agg (algC (p : Int) (n : Int) T f)] w (fun res _ => res = .tuple #[.slice none 0 0, .int .i64 5]) := by
  refine calls_fr [.agg (algC (p : Int) (n : Int) T f)] Tryd.func7 rfl Tryd.ntmps7 rfl fun a hF => ?_
  have hM : Mem w w [none, none] [] := MemX.start w 2
  change Fr 12 a [(0, .agg (algC (p : Int) (n : Int) T f))] at hF
  have hp2 := hp.two
  have hp13 := hp.le
  have hT : ∀ i j k, T i j k ≤ 255 := fun i j k => by have := hTp i j k; omega
  refine sq (wp_region_lit ?_)
  refine stR hF (d_box 0 hM hF rfl) rfl ?_
  rintro _ w' a ⟨b1, rfl, hM, -⟩ hF
  change Mem w w' [some (b1, algC (p : Int) (n : Int) T f), none] [] at hM
  refine st hF (g_assign hF rfl) rfl fun a hF => st hF (g_assign hF rfl) rfl fun a hF => ?_
  refine wpList_nil (tN (sq (sq (wp_region_lit ?_))))
  refine st hF (g_loadAgg ty_ag_32 hF rfl (hM.row 0 rfl) (by simp only [fnC_size, cells_size, vecC_size, tabC_size, planeC_size, dgC_size, numC_sz, ldB_size, rowV_size] <;> omega) (whole cells_size)) rfl fun a hF => ?_
  refine stR hF (d_call Tryd.call20 hF (.cons rfl (.cons rfl .nil)) (l05Code_N p n T f _ hp hn0 hn hTp hT0 hf hc hcom)) rfl ?_
  rintro _ w' a ⟨hx, rfl⟩ hF
  have hM := hM.ext hx
  refine st hF (g_assign hF rfl) rfl fun a hF => ?_
  refine wpList_nil (tN (sq (wp_region_lit ?_)))
  refine st hF (g_move hF rfl) rfl fun a hF => st hF (g_neq hF rfl rfl) rfl fun a hF => ?_
  refine wpList_nil (tN ?_)
  refine c_kT hF rfl (by decide) ?_
  refine sq (wp_region_lit ?_)
  refine st hF (g_move hF rfl) rfl fun a hF => st hF (g_assign hF rfl) rfl fun a hF => st hF (g_assign hF rfl) rfl fun a hF => ?_
  refine wpList_nil (tN (wp_ret (tR ?_)))
  refine fin2 rfl hF.defers (res_tmp hF rfl) (res_tmp hF rfl) ⟨_, rfl, hM.below, ?_⟩
  show _ = _
  rfl

theorem PrimitiveIdempotentsI_Y (p n : Nat) (T : Nat → Nat → Nat → Nat) (f : Nat → Nat) (w : World) (hp : primeN p) (hn0 : 0 < n) (hn : n ≤ 6) (hTp : ∀ i j k, T i j k < p) (hT0 : ∀ i j k, n ≤ k → T i j k = 0) (hf : ∀ i, f i ≤ 255) (hc : CodeP (p : Int) (n : Int) T f 0 (vAtL [])) (hcom : comP T) (uu : Nat → Nat) (huu : UnitI p n T uu) (haI : AssI p n T) (hkI : ComI n T) :
    CallsR Tryd.prog 9 #[.agg (algC (p : Int) (n : Int) T f)] w (fun v w' => ∃ rF VF u, IsKer p n (spE p n T uu p 1) n rF VF ∧ OwnSl 6 w (prL p n T uu (padN n VF) rF).length (fun c => .int .u8 (((srt (gz (prL p n T uu (padN n VF) rF)) (prL p n T uu (padN n VF) rF).length) (c / 6) (c % 6) : Nat) : Int)) u w' ∧ v = .tuple #[u, .int .i64 0]) := by
  refine calls_fr [.agg (algC (p : Int) (n : Int) T f)] Tryd.func9 rfl Tryd.ntmps9 rfl fun a hF => ?_
  have hM : Mem w w [none, none] [] := MemX.start w 2
  change Fr 8 a [(0, .agg (algC (p : Int) (n : Int) T f))] at hF
  have hp2 := hp.two
  have hp13 := hp.le
  have hT : ∀ i j k, T i j k ≤ 255 := fun i j k => by have := hTp i j k; omega
  refine sq (wp_region_lit ?_)
  refine stR hF (d_box 0 hM hF rfl) rfl ?_
  rintro _ w' a ⟨b1, rfl, hM, -⟩ hF
  change Mem w w' [some (b1, algC (p : Int) (n : Int) T f), none] [] at hM
  refine st hF (g_assign hF rfl) rfl fun a hF => st hF (g_assign hF rfl) rfl fun a hF => ?_
  refine wpList_nil (tN (sq (wp_region_lit ?_)))
  refine st hF (g_loadAgg ty_ag_32 hF rfl (hM.row 0 rfl) (by simp only [fnC_size, cells_size, vecC_size, tabC_size, planeC_size, dgC_size, numC_sz, ldB_size, rowV_size] <;> omega) (whole cells_size)) rfl fun a hF => ?_
  refine stR hF (d_call Tryd.call23 hF (.cons rfl (.cons rfl (.cons rfl .nil))) (doorPri_Y p n T f _ hp hn0 hn hTp hT0 hf hc hcom uu huu haI hkI)) rfl ?_
  rintro _ w' a ⟨hx, rF, VF, u, hIK, ⟨b9, cap9, cs9, hs9, hge9, hb9⟩, rfl⟩ hF
  obtain rfl := hs9.val
  have hM := hM.fill hx 1 hb9 hge9
  change Mem w w' [some (b1, algC (p : Int) (n : Int) T f), some (b9, cs9)] [] at hM
  refine st hF (g_extract hF rfl rfl) rfl fun a hF => st hF (g_extract hF rfl rfl) rfl fun a hF => st hF (g_assign hF rfl) rfl fun a hF => st hF (g_assign hF rfl) rfl fun a hF => ?_
  refine wpList_nil (tN (wp_ret ?_))
  refine fin2 rfl hF.defers (res_tmp hF rfl) (res_tmp hF rfl) ⟨_, rfl, hM.below, ?_⟩
  exact ⟨rF, VF, _, hIK, ⟨_, _, _, hs9, hM.ge 1 rfl, hM.row 1 rfl⟩, rfl⟩

theorem PrimitiveIdempotentsS_Y (p n : Nat) (T : Nat → Nat → Nat → Nat) (f : Nat → Nat) (w : World) (hp : primeN p) (hn0 : 0 < n) (hn : n ≤ 6) (hTp : ∀ i j k, T i j k < p) (hT0 : ∀ i j k, n ≤ k → T i j k = 0) (hf : ∀ i, f i ≤ 255) (hc : CodeP (p : Int) (n : Int) T f 0 (vAtL [])) (hcom : comP T) (uu : Nat → Nat) (huu : UnitI p n T uu) (haI : AssI p n T) (hkI : ComI n T) :
    CallsR Tryd.prog 7 #[.agg (algC (p : Int) (n : Int) T f)] w (fun v w' => ∃ rF VF u, IsKer p n (spE p n T uu p 1) n rF VF ∧ OwnSl 6 w (prL p n T uu (padN n VF) rF).length (fun c => .int .u8 (((srt (gz (prL p n T uu (padN n VF) rF)) (prL p n T uu (padN n VF) rF).length) (c / 6) (c % 6) : Nat) : Int)) u w' ∧ v = .tuple #[u, .int .i64 0]) := by
  refine calls_fr [.agg (algC (p : Int) (n : Int) T f)] Tryd.func7 rfl Tryd.ntmps7 rfl fun a hF => ?_
  have hM : Mem w w [none, none] [] := MemX.start w 2
  change Fr 12 a [(0, .agg (algC (p : Int) (n : Int) T f))] at hF
  have hp2 := hp.two
  have hp13 := hp.le
  have hT : ∀ i j k, T i j k ≤ 255 := fun i j k => by have := hTp i j k; omega
  refine sq (wp_region_lit ?_)
  refine stR hF (d_box 0 hM hF rfl) rfl ?_
  rintro _ w' a ⟨b1, rfl, hM, -⟩ hF
  change Mem w w' [some (b1, algC (p : Int) (n : Int) T f), none] [] at hM
  refine st hF (g_assign hF rfl) rfl fun a hF => st hF (g_assign hF rfl) rfl fun a hF => ?_
  refine wpList_nil (tN (sq (sq (wp_region_lit ?_))))
  refine st hF (g_loadAgg ty_ag_32 hF rfl (hM.row 0 rfl) (by simp only [fnC_size, cells_size, vecC_size, tabC_size, planeC_size, dgC_size, numC_sz, ldB_size, rowV_size] <;> omega) (whole cells_size)) rfl fun a hF => ?_
  refine stR hF (d_call Tryd.call20 hF (.cons rfl (.cons rfl .nil)) (l05Code_Y p n T f _ hp hn0 hn hTp hT0 hf hc hcom)) rfl ?_
  rintro _ w' a ⟨hx, rfl⟩ hF
  have hM := hM.ext hx
  refine st hF (g_assign hF rfl) rfl fun a hF => ?_
  refine wpList_nil (tN (sq (wp_region_lit ?_)))
  refine st hF (g_move hF rfl) rfl fun a hF => st hF (g_neq hF rfl rfl) rfl fun a hF => ?_
  refine wpList_nil (tN ?_)
  refine c_kF hF rfl (by decide) ?_
  refine wp_skip (tN (sq (wp_region_lit ?_)))
  refine st hF (g_loadAgg ty_ag_32 hF rfl (hM.row 0 rfl) (by simp only [fnC_size, cells_size, vecC_size, tabC_size, planeC_size, dgC_size, numC_sz, ldB_size, rowV_size] <;> omega) (whole cells_size)) rfl fun a hF => ?_
  refine stR hF (d_call Tryd.call21 hF (.cons rfl .nil) (l05Primitive_ok p n T f _ hp hn0 hn hTp hT0 hf uu huu haI hkI)) rfl ?_
  rintro u w' a ⟨hx, rF, VF, hIK, b9, cap9, cs9, hs9, hge9, hb9⟩ hF
  obtain rfl := hs9.val
  have hM := hM.fill hx 1 hb9 hge9
  change Mem w w' [some (b1, algC (p : Int) (n : Int) T f), some (b9, cs9)] [] at hM
  refine st hF (g_assign hF rfl) rfl fun a hF => st hF (g_assign hF rfl) rfl fun a hF => ?_
  refine wpList_nil (tN (wp_ret ?_))
  refine fin2 rfl hF.defers (res_tmp hF rfl) (res_tmp hF rfl) ⟨_, rfl, hM.below, ?_⟩
  exact ⟨rF, VF, _, hIK, ⟨_, _, _, hs9, hM.ge 1 rfl, hM.row 1 rfl⟩, rfl⟩

theorem prL_same {p n r r0 : Nat} {T : Nat → Nat → Nat → Nat} {uu : Nat → Nat} {VF W0 : Nat → Nat → Nat} (hp : 2 ≤ p) (h0 : IsKer p n (spE p n T uu p 1) n r0 W0) (h : IsKer p n (spE p n T uu p 1) n r VF) : prL p n T uu (padN n VF) r = prL p n T uu W0 r0 := by
  obtain ⟨rfl, e⟩ := IsKer.unique hp h0 h
  rw [prL_pad]
  exact prL_cong r0 fun i hi c hc => (e i hi c hc).symm

theorem PrimitiveIdempotentsI_W (p n : Nat) (T : Nat → Nat → Nat → Nat) (f : Nat → Nat) (R0 : Nat) (W : Nat → Nat → Nat) (r0 : Nat) (W0 : Nat → Nat → Nat) (w : World) (hp : primeN p) (hn0 : 0 < n) (hn : n ≤ 6) (hTp : ∀ i j k, T i j k < p) (hT0 : ∀ i j k, n ≤ k → T i j k = 0) (hf : ∀ i, f i ≤ 255) (hc : CodeP (p : Int) (n : Int) T f 0 (vAtL [])) (hcom : comP T) (uu : Nat → Nat) (huu : UnitI p n T uu) (haI : AssI p n T) (hkI : ComI n T) (hK0 : IsKer p n (spE p n T uu p 1) n r0 W0) (hR0 : R0 = (prL p n T uu W0 r0).length) (hW0 : W = srt (gz (prL p n T uu W0 r0)) (prL p n T uu W0 r0).length) : CallsR Tryd.prog 9 #[.agg (algC (p : Int) (n : Int) T f)] w (fun v w' => ∃ u, v = .tuple #[u, .int .i64 0] ∧ OwnSl 6 w R0 (fun c => .int .u8 ((W (c / 6) (c % 6) : Nat) : Int)) u w') :=
  (PrimitiveIdempotentsI_Y p n T f w hp hn0 hn hTp hT0 hf hc hcom uu huu haI hkI).mono fun v w' _ h2 => by
    obtain ⟨r, V, u, hIK, hown, e⟩ := h2
    rw [prL_same hp.two hK0 hIK] at hown
    subst hR0; subst hW0
    exact ⟨u, e, hown⟩

theorem PrimitiveIdempotentsS_W (p n : Nat) (T : Nat → Nat → Nat → Nat) (f : Nat → Nat) (R0 : Nat) (W : Nat → Nat → Nat) (r0 : Nat) (W0 : Nat → Nat → Nat) (w : World) (hp : primeN p) (hn0 : 0 < n) (hn : n ≤ 6) (hTp : ∀ i j k, T i j k < p) (hT0 : ∀ i j k, n ≤ k → T i j k = 0) (hf : ∀ i, f i ≤ 255) (hc : CodeP (p : Int) (n : Int) T f 0 (vAtL [])) (hcom : comP T) (uu : Nat → Nat) (huu : UnitI p n T uu) (haI : AssI p n T) (hkI : ComI n T) (hK0 : IsKer p n (spE p n T uu p 1) n r0 W0) (hR0 : R0 = (prL p n T uu W0 r0).length) (hW0 : W = srt (gz (prL p n T uu W0 r0)) (prL p n T uu W0 r0).length) : CallsR Tryd.prog 7 #[.agg (algC (p : Int) (n : Int) T f)] w (fun v w' => ∃ u, v = .tuple #[u, .int .i64 0] ∧ OwnSl 6 w R0 (fun c => .int .u8 ((W (c / 6) (c % 6) : Nat) : Int)) u w') :=
  (PrimitiveIdempotentsS_Y p n T f w hp hn0 hn hTp hT0 hf hc hcom uu huu haI hkI).mono fun v w' _ h2 => by
    obtain ⟨r, V, u, hIK, hown, e⟩ := h2
    rw [prL_same hp.two hK0 hIK] at hown
    subst hR0; subst hW0
    exact ⟨u, e, hown⟩

end Go.Proofs.YtbeodbfbfbefkaaDoor
