/- What functions of the program return, as walks over their operations; no statement of the seat is proved here. -/
import Derived.Test.YtbeodbfbfbefkaaDoorZ12
import Derived.Test.YtbeodbfbfbefkaaDoorSw10
set_option linter.unusedVariables false
set_option linter.unusedSimpArgs false
namespace Go.Proofs.YtbeodbfbfbefkaaDoor
open Go Go.RowKit Go.Sw Go.Ech
open Classical
theorem ta_nil55 : ∀ w, Sem.run Tryd.prog (Instr.typeAssert Value.nilIface 20 61 true) w = .ok (.tuple #[.nilIface, .bool false]) w := by intros; kernel_rfl
theorem ta_err55 : ∀ v w, Sem.run Tryd.prog (Instr.typeAssert (.iface 141 v) 20 61 true) w = .ok (.tuple #[.iface 141 v, .bool true]) w := by intros; kernel_rfl
theorem on_two55 : oneP Tryd.prog 2 = true := by kernel_rfl
theorem clo_idle55 (b : Nat) (w : World) (c : Value) (hb : Blk w b #[c]) : Clo Tryd.prog 55 b .returning w c := by
  refine callsD_of_wpS Tryd.func55 rfl fun c₀ cs hu => ?_
  apply wpS_seq
  apply wpS_region
  simp [wpOpsS, go_sem, recoverD, hu, Tryd.ntmps55, Exit.thenS, ta_nil55, Oper.upon]
  apply wpS_seq
  apply wpS_region
  simp [wpOpsS, go_sem, Exit.thenS]
  refine wpS_cond (t := false) (by simp [Act.eval, Array.replicate]) ?_
  simp only [Bool.false_eq_true, if_false]
  refine wpS_of_wp (wp_skip ?_)
  have : ({ c₀ with mode := .returning } : Frame) = c₀ := by cases c₀; simp_all
  refine ⟨rfl, .returning, by rw [this], .tuple #[], ?_, ⟨_, rfl⟩, rfl, ExtX.refl _ _, hb⟩
  simp [results, Tryd.results55]
theorem clo_panic55 (b : Nat) (w : World) (c v : Value) (hb : Blk w b #[c]) : Clo Tryd.prog 55 b (.panicking [{ v := .iface 141 v, recovered := false }]) w (.int .i64 5) := by
  refine callsD_of_wpS Tryd.func55 rfl fun c₀ cs hu => ?_
  apply wpS_seq
  apply wpS_region
  simp [wpOpsS, go_sem, recoverD, hu, Tryd.ntmps55, Exit.thenS, ta_err55, Oper.upon]
  apply wpS_seq
  apply wpS_region
  simp [wpOpsS, go_sem, Exit.thenS]
  refine wpS_cond (t := true) (by simp [Act.eval, Array.replicate]) ?_
  simp only [if_true]
  refine wpS_of_wp ?_
  refine wp_region_lit ?_
  have hM : MemX [b] w w [some (b, #[c])] [] := MemX.startX1 0 hb
  refine at_lit (F := [(0, ptr b 0)]) ?_ (by simp [okA, Array.getD_eq_getD_getElem?])
  intro a hF
  refine stN hF (d_store 0 hM rfl on_two55 hF rfl rfl rfl (by simp)) ?_
  intro _ w' a hM hF
  refine wpList_nil ?_
  refine ⟨hF.defers, .panicking [{ v := .iface 141 v, recovered := true }], rfl, .tuple #[], ?_, ⟨_, rfl⟩, rfl, hM.bel, hM.row 0 rfl⟩
  simp [results, Tryd.results55]

theorem countClosure_ok (p n : Nat) (T : Nat → Nat → Nat → Nat) (f : Nat → Nat) (w : World) (hp : primeN p) (hn0 : 0 < n) (hn : n ≤ 6) (hTp : ∀ i j k, T i j k < p) (hT0 : ∀ i j k, n ≤ k → T i j k = 0) (hf : ∀ i, f i ≤ 255) (uu : Nat → Nat) (huu : UnitI p n T uu) (haI : AssI p n T) (hkI : ComI n T) :
    CallsR Tryd.prog 33 #[.agg (algC (p : Int) (n : Int) T f)] w (fun v w' => ∃ rF VF, IsKer p n (spE p n T uu p 1) n rF VF ∧ v = .int .i64 ((pw2 (prL p n T uu (padN n VF) rF).length : Nat) : Int)) := by
  refine calls_fr [.agg (algC (p : Int) (n : Int) T f)] Tryd.func33 rfl Tryd.ntmps33 rfl fun a hF => ?_
  have hM : Mem w w [none, none] [] := MemX.start w 2
  change Fr 7 a [(0, .agg (algC (p : Int) (n : Int) T f))] at hF
  have hp2 := hp.two
  have hp13 := hp.le
  have hT : ∀ i j k, T i j k ≤ 255 := fun i j k => by have := hTp i j k; omega
  refine sq (wp_region_lit ?_)
  refine stR hF (d_box 0 hM hF rfl) rfl ?_
  rintro _ w' a ⟨b1, rfl, hM, -⟩ hF
  change Mem w w' [some (b1, algC (p : Int) (n : Int) T f), none] [] at hM
  refine st hF (g_assign hF rfl) rfl fun a hF => ?_
  refine wpList_nil (tN (sq (wp_region_lit ?_)))
  refine st hF (g_loadAgg ty_ag_32 hF rfl (hM.row 0 rfl) (by simp only [fnC_size, cells_size, vecC_size, tabC_size, planeC_size, dgC_size, numC_sz, ldB_size, rowV_size, mrk_size] <;> omega) (whole cells_size)) rfl fun a hF => ?_
  refine stR hF (d_call Tryd.call24 hF (.cons rfl .nil) (primitiveIdempotents_ok p n T f _ hp hn0 hn hTp hT0 hf uu huu haI hkI)) rfl ?_
  rintro u w' a ⟨hx, rF, VF, hIK, b9, cap9, cs9, hs9, hge9, hb9⟩ hF
  obtain rfl := hs9.val
  have hM := hM.fill hx 1 hb9 hge9
  change Mem w w' [some (b1, algC (p : Int) (n : Int) T f), some (b9, cs9)] [] at hM
  have hAl : (prL p n T uu (padN n VF) rF).length ≤ n := (prL_invP hp hn0 hn haI hkI hT0 huu hIK rF (Nat.le_refl _)).count hp hn hkI
  refine st hF (g_len ty_us_27 hF rfl) rfl fun a hF => st hF (g_shl1 hF rfl rfl (by omega)) rfl fun a hF => st hF (g_assign hF rfl) rfl fun a hF => ?_
  refine wpList_nil (tN (wp_ret ?_))
  refine fin1 rfl hF.defers (res_tmp hF rfl) ⟨_, rfl, hM.below, ?_⟩
  exact ⟨rF, VF, hIK, rfl⟩

theorem doorI_A (p n : Int) (T : Nat → Nat → Nat → Nat) (f : Nat → Nat) (wf : Value) (w : World) (hT : ∀ i j k, T i j k ≤ 255) (hf : ∀ i, f i ≤ 255) (hc : ¬ CodeP p n T f 0 (vAtL [])) :
    CallsR Tryd.prog 32 #[.agg (algC p n T f), wf, .slice none 0 0] w (fun res _ => res = .tuple #[.int .i64 0, .int .i64 1]) := by
  refine calls_frD [.agg (algC p n T f), wf, .slice none 0 0] Tryd.func32 rfl Tryd.ntmps32 rfl fun a hF => ?_
  have hM : Mem w w [none, none] [] := MemX.start w 2
  change Fr 21 a [(0, .agg (algC p n T f)), (1, wf), (2, .slice none 0 0)] at hF
  refine sq (wp_region_lit ?_)
  refine stR hF (d_box 0 hM hF rfl) rfl ?_
  rintro _ w' a ⟨b1, rfl, hM, -⟩ hF
  change Mem w w' [some (b1, algC p n T f), none] [] at hM
  refine st hF (g_assign hF rfl) rfl fun a hF => ?_
  refine stR hF (d_alloc 1 hM ty_ze_2) rfl ?_
  rintro _ w' a ⟨b2, rfl, hM, -⟩ hF
  change Mem w w' [some (b1, algC p n T f), some (b2, #[.int .i64 (0)])] [] at hM
  refine wpList_nil (tN (sq (wp_region_lit ?_)))
  refine st hF (g_makeFunc hF rfl) rfl fun a hF => ?_
  refine st_defer hF rfl fun a hF => ?_
  refine wpList_nil (tN (sq (sq ?_)))
  refine wp_regionD ?_
  refine st hF (g_loadAgg ty_ag_32 hF rfl (hM.row 0 rfl) (by simp only [fnC_size, cells_size, vecC_size, tabC_size, planeC_size, dgC_size, numC_sz, ldB_size, rowV_size, mrk_size] <;> omega) (whole cells_size)) rfl fun a hF => st hF (g_move hF rfl) rfl fun a hF => ?_
  refine stR hF (d_call Tryd.call44 hF (.cons rfl (.cons rfl .nil)) ((CallsR.val (areVectors_0 p n T f (vAtL []) _ (fun _ _ _ => hT _ _ _) (fun _ => hf _)) (congrArg Value.bool (decide_eq_false hc))))) rfl ?_
  rintro _ w' a ⟨hx, rfl⟩ hF
  have hM := hM.ext hx
  refine st hF (g_not hF rfl) rfl fun a hF => ?_
  refine wpList_nil (tN ?_)
  refine c_TD hF rfl ?_
  refine sq ?_
  refine wp_regionD ?_
  refine st hF (g_move hF rfl) rfl fun a hF => st hF (g_assign hF rfl) rfl fun a hF => ?_
  refine stN hF (d_store 1 hM rfl ty_on_2 hF rfl rfl rfl (by first | omega | (simp only [fnC_size, cells_size, vecC_size, tabC_size, planeC_size, dgC_size, numC_sz, ldB_size, rowV_size, mrk_size] <;> omega) | simp)) ?_
  intro _ w' a hM hF
  change Mem w w' [some (b1, algC p n T f), some (b2, #[.int .i64 (1)])] [] at hM
  refine wpList_nil (tN (wp_ret (tR ?_)))
  refine door_end (f := 55) (b := b2) (by intro hq; cases hq) Tryd.call55 hF (clo_idle55 b2 _ _ (hM.row 1 rfl)) fun w3 hx3 hb3 => ?_
  have hM := hM.upd 1 rfl hx3 hb3
  refine ⟨_, fin2D rfl (res_tmp hF rfl) (res_one ty_on_2 hF rfl (hM.row 1 rfl) rfl), _, rfl, hM.below, ?_⟩
  rfl

theorem doorI_N (p n : Nat) (T : Nat → Nat → Nat → Nat) (f : Nat → Nat) (ev : Value) (wf : Value) (w : World) (hp : primeN p) (hn0 : 0 < n) (hn : n ≤ 6) (hTp : ∀ i j k, T i j k < p) (hT0 : ∀ i j k, n ≤ k → T i j k = 0) (hf : ∀ i, f i ≤ 255) (hc : CodeP (p : Int) (n : Int) T f 0 (vAtL [])) (hcom : ¬ comP T) (hg : Blk w 0 #[.iface 141 ev]) :
    CallsR Tryd.prog 32 #[.agg (algC (p : Int) (n : Int) T f), wf, .slice none 0 0] w (fun res _ => res = .tuple #[.int .i64 0, .int .i64 5]) := by
  refine calls_frD [.agg (algC (p : Int) (n : Int) T f), wf, .slice none 0 0] Tryd.func32 rfl Tryd.ntmps32 rfl fun a hF => ?_
  have hM : Mem w w [none, none] [(0, #[.iface 141 ev])] := MemX.startD w 2 _ (startD1 hg)
  change Fr 21 a [(0, .agg (algC (p : Int) (n : Int) T f)), (1, wf), (2, .slice none 0 0)] at hF
  have hp2 := hp.two
  have hp13 := hp.le
  have hT : ∀ i j k, T i j k ≤ 255 := fun i j k => by have := hTp i j k; omega
  have hp2 := hp.two
  refine sq (wp_region_lit ?_)
  refine stR hF (d_box 0 hM hF rfl) rfl ?_
  rintro _ w' a ⟨b1, rfl, hM, -⟩ hF
  change Mem w w' [some (b1, algC (p : Int) (n : Int) T f), none] [(0, #[.iface 141 ev])] at hM
  refine st hF (g_assign hF rfl) rfl fun a hF => ?_
  refine stR hF (d_alloc 1 hM ty_ze_2) rfl ?_
  rintro _ w' a ⟨b2, rfl, hM, -⟩ hF
  change Mem w w' [some (b1, algC (p : Int) (n : Int) T f), some (b2, #[.int .i64 (0)])] [(0, #[.iface 141 ev])] at hM
  refine wpList_nil (tN (sq (wp_region_lit ?_)))
  refine st hF (g_makeFunc hF rfl) rfl fun a hF => ?_
  refine st_defer hF rfl fun a hF => ?_
  refine wpList_nil (tN (sq (sq ?_)))
  refine wp_regionD ?_
  refine st hF (g_loadAgg ty_ag_32 hF rfl (hM.row 0 rfl) (by simp only [fnC_size, cells_size, vecC_size, tabC_size, planeC_size, dgC_size, numC_sz, ldB_size, rowV_size, mrk_size] <;> omega) (whole cells_size)) rfl fun a hF => st hF (g_move hF rfl) rfl fun a hF => ?_
  refine stR hF (d_call Tryd.call44 hF (.cons rfl (.cons rfl .nil)) ((CallsR.val (areVectors_0 (p : Int) (n : Int) T f (vAtL []) _ (fun _ _ _ => hT _ _ _) (fun _ => hf _)) (congrArg Value.bool (decide_eq_true hc))))) rfl ?_
  rintro _ w' a ⟨hx, rfl⟩ hF
  have hM := hM.ext hx
  refine st hF (g_not hF rfl) rfl fun a hF => ?_
  refine wpList_nil (tN ?_)
  refine c_FlD hF rfl ?_
  refine wp_skip (tN (sq (sq ?_)))
  refine wp_regionD ?_
  refine st hF (g_loadAgg ty_ag_32 hF rfl (hM.row 0 rfl) (by simp only [fnC_size, cells_size, vecC_size, tabC_size, planeC_size, dgC_size, numC_sz, ldB_size, rowV_size, mrk_size] <;> omega) (whole cells_size)) rfl fun a hF => ?_
  refine stR hF (d_call Tryd.call45 hF (.cons rfl .nil) ((CallsR.val (isOwnOpposite_ok p n T f _ (by omega) (by omega) (fun _ _ _ => hT _ _ _) (fun _ => hf _)) (congrArg Value.bool (decide_eq_false (fun h => hcom (comP_iff.1 h))))))) rfl ?_
  rintro _ w' a ⟨hx, rfl⟩ hF
  have hM := hM.ext hx
  refine st hF (g_not hF rfl) rfl fun a hF => ?_
  refine wpList_nil (tN ?_)
  refine c_TD hF rfl ?_
  refine wp_regionD ?_
  refine st hF (g_load ty_on_61 hF rfl (hM.fz 0 rfl) rfl) rfl fun a hF => ?_
  refine st_panic hF rfl ?_
  refine tP ?_
  refine door_end (f := 55) (b := b2) (by intro hq; cases hq) Tryd.call55 hF (clo_panic55 b2 _ _ _ (hM.row 1 rfl)) fun w3 hx3 hb3 => ?_
  have hM := hM.upd 1 rfl hx3 hb3
  refine ⟨_, fin2D rfl (res_tmp hF rfl) (res_one ty_on_2 hF rfl (hM.row 1 rfl) rfl), _, rfl, hM.below, ?_⟩
  rfl

theorem doorCnt_Y (p n : Nat) (T : Nat → Nat → Nat → Nat) (f : Nat → Nat) (w : World) (hp : primeN p) (hn0 : 0 < n) (hn : n ≤ 6) (hTp : ∀ i j k, T i j k < p) (hT0 : ∀ i j k, n ≤ k → T i j k = 0) (hf : ∀ i, f i ≤ 255) (hc : CodeP (p : Int) (n : Int) T f 0 (vAtL [])) (hcom : comP T) (uu : Nat → Nat) (huu : UnitI p n T uu) (haI : AssI p n T) (hkI : ComI n T) :
    CallsR Tryd.prog 32 #[.agg (algC (p : Int) (n : Int) T f), .func (.func 33) #[] #[], .slice none 0 0] w (fun v w' => ∃ rF VF, IsKer p n (spE p n T uu p 1) n rF VF ∧ v = .tuple #[.int .i64 ((pw2 (prL p n T uu (padN n VF) rF).length : Nat) : Int), .int .i64 0]) := by
  refine calls_frD [.agg (algC (p : Int) (n : Int) T f), .func (.func 33) #[] #[], .slice none 0 0] Tryd.func32 rfl Tryd.ntmps32 rfl fun a hF => ?_
  have hM : Mem w w [none, none] [] := MemX.start w 2
  change Fr 21 a [(0, .agg (algC (p : Int) (n : Int) T f)), (1, .func (.func 33) #[] #[]), (2, .slice none 0 0)] at hF
  have hp2 := hp.two
  have hp13 := hp.le
  have hT : ∀ i j k, T i j k ≤ 255 := fun i j k => by have := hTp i j k; omega
  have hp2 := hp.two
  refine sq (wp_region_lit ?_)
  refine stR hF (d_box 0 hM hF rfl) rfl ?_
  rintro _ w' a ⟨b1, rfl, hM, -⟩ hF
  change Mem w w' [some (b1, algC (p : Int) (n : Int) T f), none] [] at hM
  refine st hF (g_assign hF rfl) rfl fun a hF => ?_
  refine stR hF (d_alloc 1 hM ty_ze_2) rfl ?_
  rintro _ w' a ⟨b2, rfl, hM, -⟩ hF
  change Mem w w' [some (b1, algC (p : Int) (n : Int) T f), some (b2, #[.int .i64 (0)])] [] at hM
  refine wpList_nil (tN (sq (wp_region_lit ?_)))
  refine st hF (g_makeFunc hF rfl) rfl fun a hF => ?_
  refine st_defer hF rfl fun a hF => ?_
  refine wpList_nil (tN (sq (sq ?_)))
  refine wp_regionD ?_
  refine st hF (g_loadAgg ty_ag_32 hF rfl (hM.row 0 rfl) (by simp only [fnC_size, cells_size, vecC_size, tabC_size, planeC_size, dgC_size, numC_sz, ldB_size, rowV_size, mrk_size] <;> omega) (whole cells_size)) rfl fun a hF => st hF (g_move hF rfl) rfl fun a hF => ?_
  refine stR hF (d_call Tryd.call44 hF (.cons rfl (.cons rfl .nil)) ((CallsR.val (areVectors_0 (p : Int) (n : Int) T f (vAtL []) _ (fun _ _ _ => hT _ _ _) (fun _ => hf _)) (congrArg Value.bool (decide_eq_true hc))))) rfl ?_
  rintro _ w' a ⟨hx, rfl⟩ hF
  have hM := hM.ext hx
  refine st hF (g_not hF rfl) rfl fun a hF => ?_
  refine wpList_nil (tN ?_)
  refine c_FlD hF rfl ?_
  refine wp_skip (tN (sq (sq ?_)))
  refine wp_regionD ?_
  refine st hF (g_loadAgg ty_ag_32 hF rfl (hM.row 0 rfl) (by simp only [fnC_size, cells_size, vecC_size, tabC_size, planeC_size, dgC_size, numC_sz, ldB_size, rowV_size, mrk_size] <;> omega) (whole cells_size)) rfl fun a hF => ?_
  refine stR hF (d_call Tryd.call45 hF (.cons rfl .nil) ((CallsR.val (isOwnOpposite_ok p n T f _ (by omega) (by omega) (fun _ _ _ => hT _ _ _) (fun _ => hf _)) (congrArg Value.bool (decide_eq_true (comP_iff.2 hcom)))))) rfl ?_
  rintro _ w' a ⟨hx, rfl⟩ hF
  have hM := hM.ext hx
  refine st hF (g_not hF rfl) rfl fun a hF => ?_
  refine wpList_nil (tN ?_)
  refine c_FlD hF rfl ?_
  refine wp_skip (tN (sq ?_))
  refine wp_regionD ?_
  refine st hF (g_move hF rfl) rfl fun a hF => st hF (g_loadAgg ty_ag_32 hF rfl (hM.row 0 rfl) (by simp only [fnC_size, cells_size, vecC_size, tabC_size, planeC_size, dgC_size, numC_sz, ldB_size, rowV_size, mrk_size] <;> omega) (whole cells_size)) rfl fun a hF => ?_
  refine stR hF (d_callV Tryd.call33 hF (cap := []) rfl (.cons rfl .nil) (countClosure_ok p n T f _ hp hn0 hn hTp hT0 hf uu huu haI hkI)) rfl ?_
  rintro _ w' a ⟨hx, rF, VF, hIK, rfl⟩ hF
  have hM := hM.ext hx
  refine st hF (g_assign hF rfl) rfl fun a hF => ?_
  refine stN hF (d_store 1 hM rfl ty_on_2 hF rfl rfl rfl (by first | omega | (simp only [fnC_size, cells_size, vecC_size, tabC_size, planeC_size, dgC_size, numC_sz, ldB_size, rowV_size, mrk_size] <;> omega) | simp)) ?_
  intro _ w' a hM hF
  change Mem w w' [some (b1, algC (p : Int) (n : Int) T f), some (b2, #[.int .i64 (0)])] [] at hM
  refine wpList_nil (tN (wp_ret ?_))
  refine door_end (f := 55) (b := b2) (by intro hq; cases hq) Tryd.call55 hF (clo_idle55 b2 _ _ (hM.row 1 rfl)) fun w3 hx3 hb3 => ?_
  have hM := hM.upd 1 rfl hx3 hb3
  refine ⟨_, fin2D rfl (res_tmp hF rfl) (res_one ty_on_2 hF rfl (hM.row 1 rfl) rfl), _, rfl, hM.below, ?_⟩
  exact ⟨rF, VF, hIK, rfl⟩

theorem CountIdempotentsI_A (p n : Int) (T : Nat → Nat → Nat → Nat) (f : Nat → Nat) (w : World) (hT : ∀ i j k, T i j k ≤ 255) (hf : ∀ i, f i ≤ 255) (hc : ¬ CodeP p n T f 0 (vAtL [])) :
    CallsR Tryd.prog 19 #[.agg (algC p n T f)] w (fun res _ => res = .tuple #[.int .i64 0, .int .i64 1]) := by
  refine calls_fr [.agg (algC p n T f)] Tryd.func19 rfl Tryd.ntmps19 rfl fun a hF => ?_
  have hM : Mem w w [none] [] := MemX.start w 1
  change Fr 8 a [(0, .agg (algC p n T f))] at hF
  refine sq (wp_region_lit ?_)
  refine stR hF (d_box 0 hM hF rfl) rfl ?_
  rintro _ w' a ⟨b1, rfl, hM, -⟩ hF
  change Mem w w' [some (b1, algC p n T f)] [] at hM
  refine st hF (g_assign hF rfl) rfl fun a hF => st hF (g_assign hF rfl) rfl fun a hF => ?_
  refine wpList_nil (tN (sq (wp_region_lit ?_)))
  refine st hF (g_loadAgg ty_ag_32 hF rfl (hM.row 0 rfl) (by simp only [fnC_size, cells_size, vecC_size, tabC_size, planeC_size, dgC_size, numC_sz, ldB_size, rowV_size, mrk_size] <;> omega) (whole cells_size)) rfl fun a hF => ?_
  refine stR hF (d_call Tryd.call32 hF (.cons rfl (.cons rfl (.cons rfl .nil))) (doorI_A p n T f (.func (.func 33) #[] #[]) _ hT hf hc)) rfl ?_
  rintro _ w' a ⟨hx, rfl⟩ hF
  have hM := hM.ext hx
  refine st hF (g_extract hF rfl rfl) rfl fun a hF => st hF (g_extract hF rfl rfl) rfl fun a hF => st hF (g_assign hF rfl) rfl fun a hF => st hF (g_assign hF rfl) rfl fun a hF => ?_
  refine wpList_nil (tN (wp_ret ?_))
  refine fin2 rfl hF.defers (res_tmp hF rfl) (res_tmp hF rfl) ⟨_, rfl, hM.below, ?_⟩
  show _ = _
  rfl

theorem CountIdempotentsS_A (p n : Int) (T : Nat → Nat → Nat → Nat) (f : Nat → Nat) (w : World) (hT : ∀ i j k, T i j k ≤ 255) (hf : ∀ i, f i ≤ 255) (hc : ¬ CodeP p n T f 0 (vAtL [])) :
    CallsR Tryd.prog 18 #[.agg (algC p n T f)] w (fun res _ => res = .tuple #[.int .i64 0, .int .i64 1]) := by
  refine calls_fr [.agg (algC p n T f)] Tryd.func18 rfl Tryd.ntmps18 rfl fun a hF => ?_
  have hM : Mem w w [none, none] [] := MemX.start w 2
  change Fr 22 a [(0, .agg (algC p n T f))] at hF
  refine sq (wp_region_lit ?_)
  refine stR hF (d_box 0 hM hF rfl) rfl ?_
  rintro _ w' a ⟨b1, rfl, hM, -⟩ hF
  change Mem w w' [some (b1, algC p n T f), none] [] at hM
  refine st hF (g_assign hF rfl) rfl fun a hF => st hF (g_assign hF rfl) rfl fun a hF => ?_
  refine wpList_nil (tN (sq (sq (wp_region_lit ?_))))
  refine st hF (g_loadAgg ty_ag_32 hF rfl (hM.row 0 rfl) (by simp only [fnC_size, cells_size, vecC_size, tabC_size, planeC_size, dgC_size, numC_sz, ldB_size, rowV_size, mrk_size] <;> omega) (whole cells_size)) rfl fun a hF => ?_
  refine stR hF (d_call Tryd.call20 hF (.cons rfl (.cons rfl .nil)) (l05Code_A p n T f _ hT hf hc)) rfl ?_
  rintro _ w' a ⟨hx, rfl⟩ hF
  have hM := hM.ext hx
  refine st hF (g_assign hF rfl) rfl fun a hF => ?_
  refine wpList_nil (tN (sq (wp_region_lit ?_)))
  refine st hF (g_move hF rfl) rfl fun a hF => st hF (g_neq hF rfl rfl) rfl fun a hF => ?_
  refine wpList_nil (tN ?_)
  refine c_kT hF rfl (by decide) ?_
  refine sq (wp_region_lit ?_)
  refine st hF (g_move hF rfl) rfl fun a hF => st hF (g_assign hF rfl) rfl fun a hF => st hF (g_assign hF rfl) rfl fun a hF => ?_
  refine wpList_nil (tN (wp_ret (tR ?_)))
  refine fin2 rfl hF.defers (res_tmp hF rfl) (res_tmp hF rfl) ⟨_, rfl, hM.below, ?_⟩
  show _ = _
  rfl

theorem CountIdempotentsI_N (p n : Nat) (T : Nat → Nat → Nat → Nat) (f : Nat → Nat) (ev : Value) (w : World) (hp : primeN p) (hn0 : 0 < n) (hn : n ≤ 6) (hTp : ∀ i j k, T i j k < p) (hT0 : ∀ i j k, n ≤ k → T i j k = 0) (hf : ∀ i, f i ≤ 255) (hc : CodeP (p : Int) (n : Int) T f 0 (vAtL [])) (hcom : ¬ comP T) (hg : Blk w 0 #[.iface 141 ev]) :
    CallsR Tryd.prog 19 #[.agg (algC (p : Int) (n : Int) T f)] w (fun res _ => res = .tuple #[.int .i64 0, .int .i64 5]) := by
  refine calls_fr [.agg (algC (p : Int) (n : Int) T f)] Tryd.func19 rfl Tryd.ntmps19 rfl fun a hF => ?_
  have hM : Mem w w [none] [(0, #[.iface 141 ev])] := MemX.startD w 1 _ (startD1 hg)
  change Fr 8 a [(0, .agg (algC (p : Int) (n : Int) T f))] at hF
  have hp2 := hp.two
  have hp13 := hp.le
  have hT : ∀ i j k, T i j k ≤ 255 := fun i j k => by have := hTp i j k; omega
  refine sq (wp_region_lit ?_)
  refine stR hF (d_box 0 hM hF rfl) rfl ?_
  rintro _ w' a ⟨b1, rfl, hM, -⟩ hF
  change Mem w w' [some (b1, algC (p : Int) (n : Int) T f)] [(0, #[.iface 141 ev])] at hM
  refine st hF (g_assign hF rfl) rfl fun a hF => st hF (g_assign hF rfl) rfl fun a hF => ?_
  refine wpList_nil (tN (sq (wp_region_lit ?_)))
  refine st hF (g_loadAgg ty_ag_32 hF rfl (hM.row 0 rfl) (by simp only [fnC_size, cells_size, vecC_size, tabC_size, planeC_size, dgC_size, numC_sz, ldB_size, rowV_size, mrk_size] <;> omega) (whole cells_size)) rfl fun a hF => ?_
  refine stR hF (d_call Tryd.call32 hF (.cons rfl (.cons rfl (.cons rfl .nil))) (doorI_N p n T f ev (.func (.func 33) #[] #[]) _ hp hn0 hn hTp hT0 hf hc hcom (hM.fz 0 rfl))) rfl ?_
  rintro _ w' a ⟨hx, rfl⟩ hF
  have hM := hM.ext hx
  refine st hF (g_extract hF rfl rfl) rfl fun a hF => st hF (g_extract hF rfl rfl) rfl fun a hF => st hF (g_assign hF rfl) rfl fun a hF => st hF (g_assign hF rfl) rfl fun a hF => ?_
  refine wpList_nil (tN (wp_ret ?_))
  refine fin2 rfl hF.defers (res_tmp hF rfl) (res_tmp hF rfl) ⟨_, rfl, hM.below, ?_⟩
  show _ = _
  rfl

theorem CountIdempotentsS_N (p n : Nat) (T : Nat → Nat → Nat → Nat) (f : Nat → Nat) (w : World) (hp : primeN p) (hn0 : 0 < n) (hn : n ≤ 6) (hTp : ∀ i j k, T i j k < p) (hT0 : ∀ i j k, n ≤ k → T i j k = 0) (hf : ∀ i, f i ≤ 255) (hc : CodeP (p : Int) (n : Int) T f 0 (vAtL [])) (hcom : ¬ comP T) :
    CallsR Tryd.prog 18 #[.agg (algC (p : Int) (n : Int) T f)] w (fun res _ => res = .tuple #[.int .i64 0, .int .i64 5]) := by
  refine calls_fr [.agg (algC (p : Int) (n : Int) T f)] Tryd.func18 rfl Tryd.ntmps18 rfl fun a hF => ?_
  have hM : Mem w w [none, none] [] := MemX.start w 2
  change Fr 22 a [(0, .agg (algC (p : Int) (n : Int) T f))] at hF
  have hp2 := hp.two
  have hp13 := hp.le
  have hT : ∀ i j k, T i j k ≤ 255 := fun i j k => by have := hTp i j k; omega
  refine sq (wp_region_lit ?_)
  refine stR hF (d_box 0 hM hF rfl) rfl ?_
  rintro _ w' a ⟨b1, rfl, hM, -⟩ hF
  change Mem w w' [some (b1, algC (p : Int) (n : Int) T f), none] [] at hM
  refine st hF (g_assign hF rfl) rfl fun a hF => st hF (g_assign hF rfl) rfl fun a hF => ?_
  refine wpList_nil (tN (sq (sq (wp_region_lit ?_))))
  refine st hF (g_loadAgg ty_ag_32 hF rfl (hM.row 0 rfl) (by simp only [fnC_size, cells_size, vecC_size, tabC_size, planeC_size, dgC_size, numC_sz, ldB_size, rowV_size, mrk_size] <;> omega) (whole cells_size)) rfl fun a hF => ?_
  refine stR hF (d_call Tryd.call20 hF (.cons rfl (.cons rfl .nil)) (l05Code_N p n T f _ hp hn0 hn hTp hT0 hf hc hcom)) rfl ?_
  rintro _ w' a ⟨hx, rfl⟩ hF
  have hM := hM.ext hx
  refine st hF (g_assign hF rfl) rfl fun a hF => ?_
  refine wpList_nil (tN (sq (wp_region_lit ?_)))
  refine st hF (g_move hF rfl) rfl fun a hF => st hF (g_neq hF rfl rfl) rfl fun a hF => ?_
  refine wpList_nil (tN ?_)
  refine c_kT hF rfl (by decide) ?_
  refine sq (wp_region_lit ?_)
  refine st hF (g_move hF rfl) rfl fun a hF => st hF (g_assign hF rfl) rfl fun a hF => st hF (g_assign hF rfl) rfl fun a hF => ?_
  refine wpList_nil (tN (wp_ret (tR ?_)))
  refine fin2 rfl hF.defers (res_tmp hF rfl) (res_tmp hF rfl) ⟨_, rfl, hM.below, ?_⟩
  show _ = _
  rfl

theorem CountIdempotentsI_Y (p n : Nat) (T : Nat → Nat → Nat → Nat) (f : Nat → Nat) (w : World) (hp : primeN p) (hn0 : 0 < n) (hn : n ≤ 6) (hTp : ∀ i j k, T i j k < p) (hT0 : ∀ i j k, n ≤ k → T i j k = 0) (hf : ∀ i, f i ≤ 255) (hc : CodeP (p : Int) (n : Int) T f 0 (vAtL [])) (hcom : comP T) (uu : Nat → Nat) (huu : UnitI p n T uu) (haI : AssI p n T) (hkI : ComI n T) :
    CallsR Tryd.prog 19 #[.agg (algC (p : Int) (n : Int) T f)] w (fun v w' => ∃ rF VF, IsKer p n (spE p n T uu p 1) n rF VF ∧ v = .tuple #[.int .i64 ((pw2 (prL p n T uu (padN n VF) rF).length : Nat) : Int), .int .i64 0]) := by
  refine calls_fr [.agg (algC (p : Int) (n : Int) T f)] Tryd.func19 rfl Tryd.ntmps19 rfl fun a hF => ?_
  have hM : Mem w w [none] [] := MemX.start w 1
  change Fr 8 a [(0, .agg (algC (p : Int) (n : Int) T f))] at hF
  have hp2 := hp.two
  have hp13 := hp.le
  have hT : ∀ i j k, T i j k ≤ 255 := fun i j k => by have := hTp i j k; omega
  refine sq (wp_region_lit ?_)
  refine stR hF (d_box 0 hM hF rfl) rfl ?_
  rintro _ w' a ⟨b1, rfl, hM, -⟩ hF
  change Mem w w' [some (b1, algC (p : Int) (n : Int) T f)] [] at hM
  refine st hF (g_assign hF rfl) rfl fun a hF => st hF (g_assign hF rfl) rfl fun a hF => ?_
  refine wpList_nil (tN (sq (wp_region_lit ?_)))
  refine st hF (g_loadAgg ty_ag_32 hF rfl (hM.row 0 rfl) (by simp only [fnC_size, cells_size, vecC_size, tabC_size, planeC_size, dgC_size, numC_sz, ldB_size, rowV_size, mrk_size] <;> omega) (whole cells_size)) rfl fun a hF => ?_
  refine stR hF (d_call Tryd.call32 hF (.cons rfl (.cons rfl (.cons rfl .nil))) (doorCnt_Y p n T f _ hp hn0 hn hTp hT0 hf hc hcom uu huu haI hkI)) rfl ?_
  rintro _ w' a ⟨hx, rF, VF, hIK, rfl⟩ hF
  have hM := hM.ext hx
  refine st hF (g_extract hF rfl rfl) rfl fun a hF => st hF (g_extract hF rfl rfl) rfl fun a hF => st hF (g_assign hF rfl) rfl fun a hF => st hF (g_assign hF rfl) rfl fun a hF => ?_
  refine wpList_nil (tN (wp_ret ?_))
  refine fin2 rfl hF.defers (res_tmp hF rfl) (res_tmp hF rfl) ⟨_, rfl, hM.below, ?_⟩
  exact ⟨rF, VF, hIK, rfl⟩

theorem CountIdempotentsS_Y (p n : Nat) (T : Nat → Nat → Nat → Nat) (f : Nat → Nat) (w : World) (hp : primeN p) (hn0 : 0 < n) (hn : n ≤ 6) (hTp : ∀ i j k, T i j k < p) (hT0 : ∀ i j k, n ≤ k → T i j k = 0) (hf : ∀ i, f i ≤ 255) (hc : CodeP (p : Int) (n : Int) T f 0 (vAtL [])) (hcom : comP T) (uu : Nat → Nat) (huu : UnitI p n T uu) (haI : AssI p n T) (hkI : ComI n T) :
    CallsR Tryd.prog 18 #[.agg (algC (p : Int) (n : Int) T f)] w (fun v w' => ∃ rF VF, IsKer p n (spE p n T uu p 1) n rF VF ∧ v = .tuple #[.int .i64 ((pw2 (prL p n T uu (padN n VF) rF).length : Nat) : Int), .int .i64 0]) := by
  refine calls_fr [.agg (algC (p : Int) (n : Int) T f)] Tryd.func18 rfl Tryd.ntmps18 rfl fun a hF => ?_
  have hM : Mem w w [none, none] [] := MemX.start w 2
  change Fr 22 a [(0, .agg (algC (p : Int) (n : Int) T f))] at hF
  have hp2 := hp.two
  have hp13 := hp.le
  have hT : ∀ i j k, T i j k ≤ 255 := fun i j k => by have := hTp i j k; omega
  refine sq (wp_region_lit ?_)
  refine stR hF (d_box 0 hM hF rfl) rfl ?_
  rintro _ w' a ⟨b1, rfl, hM, -⟩ hF
  change Mem w w' [some (b1, algC (p : Int) (n : Int) T f), none] [] at hM
  refine st hF (g_assign hF rfl) rfl fun a hF => st hF (g_assign hF rfl) rfl fun a hF => ?_
  refine wpList_nil (tN (sq (sq (wp_region_lit ?_))))
  refine st hF (g_loadAgg ty_ag_32 hF rfl (hM.row 0 rfl) (by simp only [fnC_size, cells_size, vecC_size, tabC_size, planeC_size, dgC_size, numC_sz, ldB_size, rowV_size, mrk_size] <;> omega) (whole cells_size)) rfl fun a hF => ?_
  refine stR hF (d_call Tryd.call20 hF (.cons rfl (.cons rfl .nil)) (l05Code_Y p n T f _ hp hn0 hn hTp hT0 hf hc hcom)) rfl ?_
  rintro _ w' a ⟨hx, rfl⟩ hF
  have hM := hM.ext hx
  refine st hF (g_assign hF rfl) rfl fun a hF => ?_
  refine wpList_nil (tN (sq (wp_region_lit ?_)))
  refine st hF (g_move hF rfl) rfl fun a hF => st hF (g_neq hF rfl rfl) rfl fun a hF => ?_
  refine wpList_nil (tN ?_)
  refine c_kF hF rfl (by decide) ?_
  refine wp_skip (tN (sq (wp_region_lit ?_)))
  refine st hF (g_assign hF rfl) rfl fun a hF => ?_
  refine wpList_nil (tN (sq (sq (wp_region_lit ?_))))
  refine st hF (g_loadAgg ty_ag_32 hF rfl (hM.row 0 rfl) (by simp only [fnC_size, cells_size, vecC_size, tabC_size, planeC_size, dgC_size, numC_sz, ldB_size, rowV_size, mrk_size] <;> omega) (whole cells_size)) rfl fun a hF => ?_
  refine stR hF (d_call Tryd.call21 hF (.cons rfl .nil) (l05Primitive_ok p n T f _ hp hn0 hn hTp hT0 hf uu huu haI hkI)) rfl ?_
  rintro u w' a ⟨hx, rF, VF, hIK, b9, cap9, cs9, hs9, hge9, hb9⟩ hF
  obtain rfl := hs9.val
  have hM := hM.fill hx 1 hb9 hge9
  change Mem w w' [some (b1, algC (p : Int) (n : Int) T f), some (b9, cs9)] [] at hM
  have hAl : (prL p n T uu (padN n VF) rF).length ≤ n := (prL_invP hp hn0 hn haI hkI hT0 huu hIK rF (Nat.le_refl _)).count hp hn hkI
  refine st hF (g_len ty_us_27 hF rfl) rfl fun a hF => st hF (g_assign hF rfl) rfl fun a hF => ?_
  refine wpList_nil (tN (wp_block ?_))
  change Mem w _ [some (b1, algC (p : Int) (n : Int) T f), some (b9, cs9)] [] at hM
  refine c_loop (fun (kk : Nat) a w' => kk ≤ (prL p n T uu (padN n VF) rF).length ∧ (True) ∧ Fr 22 a [(0, .agg (algC (p : Int) (n : Int) T f)), (1, ptr b1 (0)), (2, .int .i64 (0)), (3, .int .i64 (0)), (7, .agg (algC (p : Int) (n : Int) T f)), (8, .int .i64 (0)), (4, .int .i64 (0)), (9, .int .i64 (0)), (10, .bool (decide ((0 : Int) ≠ 0))), (12, .agg (algC (p : Int) (n : Int) T f)), (13, .slice (some ⟨b9, 0, none⟩) ((prL p n T uu (padN n VF) rF).length) (cap9)), (14, .int .i64 ((((prL p n T uu (padN n VF) rF).length : Nat) : Int))), (5, .int .i64 (((pw2 kk : Nat) : Int))), (6, .int .i64 ((((prL p n T uu (padN n VF) rF).length - kk : Nat) : Int)))] ∧ Mem w w' [some (b1, algC (p : Int) (n : Int) T f), some (b9, cs9)] []) (fun kk => (prL p n T uu (padN n VF) rF).length - kk) 0 ?_ ?_
  ·
   refine ⟨by omega, trivial, hF.sub _ (by repeat' constructor), ?_⟩
   exact hM
  ·
   clear hF hM
   rintro gi a w' ⟨hgi, hinv1, hF, hM⟩
   have hpw := pw2_le (k := gi) (by omega)
   refine sq (sq (wp_region_lit ?_))
   refine st hF (g_move hF rfl) rfl fun a hF => st hF (g_gtr hF rfl rfl) rfl fun a hF => ?_
   refine wpList_nil (tN ?_)
   refine c_cond hF rfl (fun h3 => ?_) (fun h3 => ?_)
   ·
    refine wp_skip (tN (sq (wp_block (wp_region_lit ?_))))
    refine st hF (g_move hF rfl) rfl fun a hF => st hF (g_mul hF rfl rfl (show _ = ((pw2 (gi + 1) : Nat) : Int) from (pw2_step (by omega)))) rfl fun a hF => st hF (g_assign hF rfl) rfl fun a hF => ?_
    refine wpList_nil (iN (tN (wp_region_lit ?_)))
    refine st hF (g_move hF rfl) rfl fun a hF => st hF (g_sub hF rfl rfl (show _ = (((prL p n T uu (padN n VF) rF).length - (gi + 1) : Nat) : Int) from (by rw [wrap_i64] <;> omega))) rfl fun a hF => st hF (g_assign hF rfl) rfl fun a hF => ?_
    refine wpList_nil (tN ?_)
    refine ⟨gi + 1, ⟨by omega, trivial, hF.sub _ (by repeat' constructor), ?_⟩, by omega⟩
    exact hM
   ·
    obtain rfl : (prL p n T uu (padN n VF) rF).length = gi := by omega
    refine wp_exit (tX (tX ?_))
    refine ib_same ?_
    refine tN (sq (wp_region_lit ?_))
    refine st hF (g_move hF rfl) rfl fun a hF => st hF (g_assign hF rfl) rfl fun a hF => st hF (g_assign hF rfl) rfl fun a hF => ?_
    refine wpList_nil (tN (wp_ret ?_))
    refine fin2 rfl hF.defers (res_tmp hF rfl) (res_tmp hF rfl) ⟨_, rfl, hM.below, ?_⟩
    exact ⟨rF, VF, hIK, rfl⟩

theorem CountIdempotentsI_W (p n : Nat) (T : Nat → Nat → Nat → Nat) (f : Nat → Nat) (r0 : Nat) (W0 : Nat → Nat → Nat) (w : World) (hp : primeN p) (hn0 : 0 < n) (hn : n ≤ 6) (hTp : ∀ i j k, T i j k < p) (hT0 : ∀ i j k, n ≤ k → T i j k = 0) (hf : ∀ i, f i ≤ 255) (hc : CodeP (p : Int) (n : Int) T f 0 (vAtL [])) (hcom : comP T) (uu : Nat → Nat) (huu : UnitI p n T uu) (haI : AssI p n T) (hkI : ComI n T) (hK0 : IsKer p n (spE p n T uu p 1) n r0 W0) : CallsR Tryd.prog 19 #[.agg (algC (p : Int) (n : Int) T f)] w (fun v w' => v = .tuple #[.int .i64 ((pw2 (prL p n T uu W0 r0).length : Nat) : Int), .int .i64 0]) :=
  (CountIdempotentsI_Y p n T f w hp hn0 hn hTp hT0 hf hc hcom uu huu haI hkI).mono fun v w' _ h2 => by
    obtain ⟨r, V, hIK, e⟩ := h2
    rw [prL_same hp.two hK0 hIK] at e
    exact e

theorem CountIdempotentsS_W (p n : Nat) (T : Nat → Nat → Nat → Nat) (f : Nat → Nat) (r0 : Nat) (W0 : Nat → Nat → Nat) (w : World) (hp : primeN p) (hn0 : 0 < n) (hn : n ≤ 6) (hTp : ∀ i j k, T i j k < p) (hT0 : ∀ i j k, n ≤ k → T i j k = 0) (hf : ∀ i, f i ≤ 255) (hc : CodeP (p : Int) (n : Int) T f 0 (vAtL [])) (hcom : comP T) (uu : Nat → Nat) (huu : UnitI p n T uu) (haI : AssI p n T) (hkI : ComI n T) (hK0 : IsKer p n (spE p n T uu p 1) n r0 W0) : CallsR Tryd.prog 18 #[.agg (algC (p : Int) (n : Int) T f)] w (fun v w' => v = .tuple #[.int .i64 ((pw2 (prL p n T uu W0 r0).length : Nat) : Int), .int .i64 0]) :=
  (CountIdempotentsS_Y p n T f w hp hn0 hn hTp hT0 hf hc hcom uu huu haI hkI).mono fun v w' _ h2 => by
    obtain ⟨r, V, hIK, e⟩ := h2
    rw [prL_same hp.two hK0 hIK] at e
    exact e

theorem law_CountIdempotentsA (p n : Int) (T : Nat → Nat → Nat → Nat) (f : Nat → Nat) (w : World) (hT : ∀ i j k, T i j k ≤ 255) (hf : ∀ i, f i ≤ 255) (hc : ¬ CodeP p n T f 0 (vAtL [])) :
    CallsR Tryd.prog 6 #[.agg (algC p n T f)] w (fun res _ => res = .bool true) := by
  refine calls_fr [.agg (algC p n T f)] Tryd.func6 rfl Tryd.ntmps6 rfl fun a hF => ?_
  have hM : Mem w w [none] [] := MemX.start w 1
  change Fr 27 a [(0, .agg (algC p n T f))] at hF
  refine sq (wp_region_lit ?_)
  refine stR hF (d_box 0 hM hF rfl) rfl ?_
  rintro _ w' a ⟨b1, rfl, hM, -⟩ hF
  change Mem w w' [some (b1, algC p n T f)] [] at hM
  refine st hF (g_assign hF rfl) rfl fun a hF => ?_
  refine wpList_nil (tN (sq (wp_region_lit ?_)))
  refine st hF (g_loadAgg ty_ag_26 hF rfl (hM.row 0 rfl) (by simp only [fnC_size, cells_size, vecC_size, tabC_size, planeC_size, dgC_size, numC_sz, ldB_size, rowV_size, mrk_size] <;> omega) (whole cells_size)) rfl fun a hF => ?_
  refine stR hF (d_call Tryd.call8 hF (.cons rfl .nil) (toAlgebra_ok p n T f _)) rfl ?_
  rintro _ w' a ⟨hx, rfl⟩ hF
  have hM := hM.ext hx
  refine stR hF (d_call Tryd.call18 hF (.cons rfl .nil) (CountIdempotentsS_A p n T f _ hT hf hc)) rfl ?_
  rintro _ w' a ⟨hx, rfl⟩ hF
  have hM := hM.ext hx
  refine st hF (g_move hF rfl) rfl fun a hF => st hF (g_extract hF rfl rfl) rfl fun a hF => st hF (g_extract hF rfl rfl) rfl fun a hF => st hF (g_assign hF rfl) rfl fun a hF => st hF (g_assign hF rfl) rfl fun a hF => ?_
  refine wpList_nil (tN (sq (wp_region_lit ?_)))
  refine st hF (g_loadAgg ty_ag_26 hF rfl (hM.row 0 rfl) (by simp only [fnC_size, cells_size, vecC_size, tabC_size, planeC_size, dgC_size, numC_sz, ldB_size, rowV_size, mrk_size] <;> omega) (whole cells_size)) rfl fun a hF => ?_
  refine stR hF (d_call Tryd.call8 hF (.cons rfl .nil) (toAlgebra_ok p n T f _)) rfl ?_
  rintro _ w' a ⟨hx, rfl⟩ hF
  have hM := hM.ext hx
  refine stR hF (d_call Tryd.call19 hF (.cons rfl .nil) (CountIdempotentsI_A p n T f _ hT hf hc)) rfl ?_
  rintro _ w' a ⟨hx, rfl⟩ hF
  have hM := hM.ext hx
  refine st hF (g_move hF rfl) rfl fun a hF => st hF (g_extract hF rfl rfl) rfl fun a hF => st hF (g_extract hF rfl rfl) rfl fun a hF => st hF (g_assign hF rfl) rfl fun a hF => st hF (g_assign hF rfl) rfl fun a hF => ?_
  refine wpList_nil (tN (sq (sq (wp_region_lit ?_))))
  refine st hF (g_move hF rfl) rfl fun a hF => st hF (g_move hF rfl) rfl fun a hF => st hF (g_neq hF rfl rfl) rfl fun a hF => st hF (g_move hF rfl) rfl fun a hF => ?_
  rw [show decide ((0 : Int) ≠ 0) = false from by decide] at hF
  refine stY hF rfl rfl rfl (g_move hF rfl) rfl fun a hF => stY hF rfl rfl rfl (g_move hF rfl) rfl fun a hF => stY hF rfl rfl rfl (g_neq hF rfl rfl) rfl fun a hF => st hF (g_pickF hF rfl rfl) rfl fun a hF => ?_
  refine wpList_nil (tN ?_)
  refine c_kF hF rfl (by decide) ?_
  refine wp_skip (tN (sq (wp_region_lit ?_)))
  refine st hF (g_assign hF rfl) rfl fun a hF => ?_
  refine wpList_nil (tN (wp_ret ?_))
  refine fin1 rfl hF.defers (res_tmp hF rfl) ⟨_, rfl, hM.below, ?_⟩
  show _ = _
  rfl

theorem law_CountIdempotentsN (p n : Nat) (T : Nat → Nat → Nat → Nat) (f : Nat → Nat) (ev : Value) (w : World) (hp : primeN p) (hn0 : 0 < n) (hn : n ≤ 6) (hTp : ∀ i j k, T i j k < p) (hT0 : ∀ i j k, n ≤ k → T i j k = 0) (hf : ∀ i, f i ≤ 255) (hc : CodeP (p : Int) (n : Int) T f 0 (vAtL [])) (hcom : ¬ comP T) (hg : Blk w 0 #[.iface 141 ev]) :
    CallsR Tryd.prog 6 #[.agg (algC (p : Int) (n : Int) T f)] w (fun res _ => res = .bool true) := by
  refine calls_fr [.agg (algC (p : Int) (n : Int) T f)] Tryd.func6 rfl Tryd.ntmps6 rfl fun a hF => ?_
  have hM : Mem w w [none] [(0, #[.iface 141 ev])] := MemX.startD w 1 _ (startD1 hg)
  change Fr 27 a [(0, .agg (algC (p : Int) (n : Int) T f))] at hF
  have hp2 := hp.two
  have hp13 := hp.le
  have hT : ∀ i j k, T i j k ≤ 255 := fun i j k => by have := hTp i j k; omega
  refine sq (wp_region_lit ?_)
  refine stR hF (d_box 0 hM hF rfl) rfl ?_
  rintro _ w' a ⟨b1, rfl, hM, -⟩ hF
  change Mem w w' [some (b1, algC (p : Int) (n : Int) T f)] [(0, #[.iface 141 ev])] at hM
  refine st hF (g_assign hF rfl) rfl fun a hF => ?_
  refine wpList_nil (tN (sq (wp_region_lit ?_)))
  refine st hF (g_loadAgg ty_ag_26 hF rfl (hM.row 0 rfl) (by simp only [fnC_size, cells_size, vecC_size, tabC_size, planeC_size, dgC_size, numC_sz, ldB_size, rowV_size, mrk_size] <;> omega) (whole cells_size)) rfl fun a hF => ?_
  refine stR hF (d_call Tryd.call8 hF (.cons rfl .nil) (toAlgebra_ok (p : Int) (n : Int) T f _)) rfl ?_
  rintro _ w' a ⟨hx, rfl⟩ hF
  have hM := hM.ext hx
  refine stR hF (d_call Tryd.call18 hF (.cons rfl .nil) (CountIdempotentsS_N p n T f _ hp hn0 hn hTp hT0 hf hc hcom)) rfl ?_
  rintro _ w' a ⟨hx, rfl⟩ hF
  have hM := hM.ext hx
  refine st hF (g_move hF rfl) rfl fun a hF => st hF (g_extract hF rfl rfl) rfl fun a hF => st hF (g_extract hF rfl rfl) rfl fun a hF => st hF (g_assign hF rfl) rfl fun a hF => st hF (g_assign hF rfl) rfl fun a hF => ?_
  refine wpList_nil (tN (sq (wp_region_lit ?_)))
  refine st hF (g_loadAgg ty_ag_26 hF rfl (hM.row 0 rfl) (by simp only [fnC_size, cells_size, vecC_size, tabC_size, planeC_size, dgC_size, numC_sz, ldB_size, rowV_size, mrk_size] <;> omega) (whole cells_size)) rfl fun a hF => ?_
  refine stR hF (d_call Tryd.call8 hF (.cons rfl .nil) (toAlgebra_ok (p : Int) (n : Int) T f _)) rfl ?_
  rintro _ w' a ⟨hx, rfl⟩ hF
  have hM := hM.ext hx
  refine stR hF (d_call Tryd.call19 hF (.cons rfl .nil) (CountIdempotentsI_N p n T f ev _ hp hn0 hn hTp hT0 hf hc hcom (hM.fz 0 rfl))) rfl ?_
  rintro _ w' a ⟨hx, rfl⟩ hF
  have hM := hM.ext hx
  refine st hF (g_move hF rfl) rfl fun a hF => st hF (g_extract hF rfl rfl) rfl fun a hF => st hF (g_extract hF rfl rfl) rfl fun a hF => st hF (g_assign hF rfl) rfl fun a hF => st hF (g_assign hF rfl) rfl fun a hF => ?_
  refine wpList_nil (tN (sq (sq (wp_region_lit ?_))))
  refine st hF (g_move hF rfl) rfl fun a hF => st hF (g_move hF rfl) rfl fun a hF => st hF (g_neq hF rfl rfl) rfl fun a hF => st hF (g_move hF rfl) rfl fun a hF => ?_
  rw [show decide ((0 : Int) ≠ 0) = false from by decide] at hF
  refine stY hF rfl rfl rfl (g_move hF rfl) rfl fun a hF => stY hF rfl rfl rfl (g_move hF rfl) rfl fun a hF => stY hF rfl rfl rfl (g_neq hF rfl rfl) rfl fun a hF => st hF (g_pickF hF rfl rfl) rfl fun a hF => ?_
  refine wpList_nil (tN ?_)
  refine c_kF hF rfl (by decide) ?_
  refine wp_skip (tN (sq (wp_region_lit ?_)))
  refine st hF (g_assign hF rfl) rfl fun a hF => ?_
  refine wpList_nil (tN (wp_ret ?_))
  refine fin1 rfl hF.defers (res_tmp hF rfl) ⟨_, rfl, hM.below, ?_⟩
  show _ = _
  rfl

theorem law_CountIdempotentsY (p n : Nat) (T : Nat → Nat → Nat → Nat) (f : Nat → Nat) (r0 : Nat) (W0 : Nat → Nat → Nat) (w : World) (hp : primeN p) (hn0 : 0 < n) (hn : n ≤ 6) (hTp : ∀ i j k, T i j k < p) (hT0 : ∀ i j k, n ≤ k → T i j k = 0) (hf : ∀ i, f i ≤ 255) (hc : CodeP (p : Int) (n : Int) T f 0 (vAtL [])) (hcom : comP T) (uu : Nat → Nat) (huu : UnitI p n T uu) (haI : AssI p n T) (hkI : ComI n T) (hK0 : IsKer p n (spE p n T uu p 1) n r0 W0) :
    CallsR Tryd.prog 6 #[.agg (algC (p : Int) (n : Int) T f)] w (fun res _ => res = .bool true) := by
  refine calls_fr [.agg (algC (p : Int) (n : Int) T f)] Tryd.func6 rfl Tryd.ntmps6 rfl fun a hF => ?_
  have hM : Mem w w [none] [] := MemX.start w 1
  change Fr 27 a [(0, .agg (algC (p : Int) (n : Int) T f))] at hF
  have hp2 := hp.two
  have hp13 := hp.le
  have hT : ∀ i j k, T i j k ≤ 255 := fun i j k => by have := hTp i j k; omega
  refine sq (wp_region_lit ?_)
  refine stR hF (d_box 0 hM hF rfl) rfl ?_
  rintro _ w' a ⟨b1, rfl, hM, -⟩ hF
  change Mem w w' [some (b1, algC (p : Int) (n : Int) T f)] [] at hM
  refine st hF (g_assign hF rfl) rfl fun a hF => ?_
  refine wpList_nil (tN (sq (wp_region_lit ?_)))
  refine st hF (g_loadAgg ty_ag_26 hF rfl (hM.row 0 rfl) (by simp only [fnC_size, cells_size, vecC_size, tabC_size, planeC_size, dgC_size, numC_sz, ldB_size, rowV_size, mrk_size] <;> omega) (whole cells_size)) rfl fun a hF => ?_
  refine stR hF (d_call Tryd.call8 hF (.cons rfl .nil) (toAlgebra_ok (p : Int) (n : Int) T f _)) rfl ?_
  rintro _ w' a ⟨hx, rfl⟩ hF
  have hM := hM.ext hx
  refine stR hF (d_call Tryd.call18 hF (.cons rfl .nil) (CountIdempotentsS_W p n T f r0 W0 _ hp hn0 hn hTp hT0 hf hc hcom uu huu haI hkI hK0)) rfl ?_
  rintro _ w' a ⟨hx, rfl⟩ hF
  have hM := hM.ext hx
  refine st hF (g_move hF rfl) rfl fun a hF => st hF (g_extract hF rfl rfl) rfl fun a hF => st hF (g_extract hF rfl rfl) rfl fun a hF => st hF (g_assign hF rfl) rfl fun a hF => st hF (g_assign hF rfl) rfl fun a hF => ?_
  refine wpList_nil (tN (sq (wp_region_lit ?_)))
  refine st hF (g_loadAgg ty_ag_26 hF rfl (hM.row 0 rfl) (by simp only [fnC_size, cells_size, vecC_size, tabC_size, planeC_size, dgC_size, numC_sz, ldB_size, rowV_size, mrk_size] <;> omega) (whole cells_size)) rfl fun a hF => ?_
  refine stR hF (d_call Tryd.call8 hF (.cons rfl .nil) (toAlgebra_ok (p : Int) (n : Int) T f _)) rfl ?_
  rintro _ w' a ⟨hx, rfl⟩ hF
  have hM := hM.ext hx
  refine stR hF (d_call Tryd.call19 hF (.cons rfl .nil) (CountIdempotentsI_W p n T f r0 W0 _ hp hn0 hn hTp hT0 hf hc hcom uu huu haI hkI hK0)) rfl ?_
  rintro _ w' a ⟨hx, rfl⟩ hF
  have hM := hM.ext hx
  refine st hF (g_move hF rfl) rfl fun a hF => st hF (g_extract hF rfl rfl) rfl fun a hF => st hF (g_extract hF rfl rfl) rfl fun a hF => st hF (g_assign hF rfl) rfl fun a hF => st hF (g_assign hF rfl) rfl fun a hF => ?_
  refine wpList_nil (tN (sq (sq (wp_region_lit ?_))))
  refine st hF (g_move hF rfl) rfl fun a hF => st hF (g_move hF rfl) rfl fun a hF => st hF (g_neq hF rfl rfl) rfl fun a hF => st hF (g_move hF rfl) rfl fun a hF => ?_
  by_cases g2 : (((pw2 (prL p n T uu W0 r0).length : Nat) : Int) : Int) ≠ ((pw2 (prL p n T uu W0 r0).length : Nat) : Int)
  ·
   first | rw [decide_eq_true g2] at hF | simp only [decide_eq_true g2] at hF
   first | exact absurd rfl g2 | (exfalso; omega)
  ·
   first | rw [decide_eq_false g2] at hF | simp only [decide_eq_false g2] at hF
   refine stY hF rfl rfl rfl (g_move hF rfl) rfl fun a hF => stY hF rfl rfl rfl (g_move hF rfl) rfl fun a hF => stY hF rfl rfl rfl (g_neq hF rfl rfl) rfl fun a hF => st hF (g_pickF hF rfl rfl) rfl fun a hF => ?_
   refine wpList_nil (tN ?_)
   refine c_kF hF rfl (by decide) ?_
   refine wp_skip (tN (sq (wp_region_lit ?_)))
   refine st hF (g_assign hF rfl) rfl fun a hF => ?_
   refine wpList_nil (tN (wp_ret ?_))
   refine fin1 rfl hF.defers (res_tmp hF rfl) ⟨_, rfl, hM.below, ?_⟩
   show _ = _
   rfl

theorem law_CountIdempotents (p n : Int) (T : Nat → Nat → Nat → Nat) (f : Nat → Nat) (ev : Value) (w : World) (hT : ∀ i j k, T i j k ≤ 255) (hf : ∀ i, f i ≤ 255) (hg : Blk w 0 #[.iface 141 ev]) : CallsV Tryd.prog 6 #[.agg (algC p n T f)] w (.bool true) := by
  by_cases hc : CodeP p n T f 0 (vAtL [])
  · have hs0 := hc.1.1
    have hp0 := primeP_pos hs0.1
    have hn := hs0.2.1
    have e1 : ((p.toNat : Nat) : Int) = p := by omega
    have e2 : ((n.toNat : Nat) : Int) = n := by omega
    have hc2 : CodeP ((p.toNat : Nat) : Int) ((n.toNat : Nat) : Int) (trunc n.toNat T) f 0 (vAtL []) := by rw [e1, e2]; exact code_trunc hc
    obtain ⟨uu, huu⟩ := hc.1.2.2
    have hpp := primeN_of hs0.1
    by_cases hcom : comP (trunc n.toNat T)
    · have hpm := hpp.two
      have haI := AssI_of (p := p.toNat) (n := n.toNat) (T := (trunc n.toNat T)) (by omega) hc.1.2.1
      have hkI := ComI_of (n := n.toNat) (T := (trunc n.toNat T)) (by omega) hcom
      obtain ⟨r0, W0, hK0⟩ := isKer_exists (n := n.toNat) (m := n.toNat) (M := spE p.toNat n.toNat (trunc n.toNat T) uu p.toNat 1) hpp (fun i c => spE_lt (by omega) i c)
      have h := law_CountIdempotentsY p.toNat n.toNat (trunc n.toNat T) f r0 W0 w hpp (by omega) (by omega) (trunc_lt hs0) trunc_out hf hc2 hcom uu huu haI hkI hK0
      rw [e1, e2, ← algC_trunc hs0] at h
      exact h
    · have h := law_CountIdempotentsN p.toNat n.toNat (trunc n.toNat T) f ev w hpp (by omega) (by omega) (trunc_lt hs0) trunc_out hf hc2 hcom hg
      rw [e1, e2, ← algC_trunc hs0] at h
      exact h
  · exact law_CountIdempotentsA p n T f w hT hf hc

end Go.Proofs.YtbeodbfbfbefkaaDoor
