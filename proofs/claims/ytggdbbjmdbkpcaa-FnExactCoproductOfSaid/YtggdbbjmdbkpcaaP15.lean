/- What functions of the program return, as walks over their operations; no statement of the seat is proved here. -/
import Derived.Test.YtggdbbjmdbkpcaaTF
import Derived.Test.YtggdbbjmdbkpcaaP14
import Derived.Test.YtggdbbjmdbkpcaaSw36
set_option linter.unusedVariables false
set_option linter.unusedSimpArgs false
namespace Go.Proofs.Ytggdbbjmdbkpcaa
open Go Go.RowKit Go.Sw Go.Ech
open Classical
theorem CoproductOfSA (p n : Int) (T : Nat → Nat → Nat → Nat) (f : Nat → Nat) (v : Nat → Nat) (w : World) (hT : ∀ i j k, T i j k ≤ 255) (hf : ∀ i, f i ≤ 255) (hv : ∀ i, v i ≤ 255) (hc : ¬ CodeP p n T f 1 (vAtL [v])) :
    CallsR Try.prog 30 #[.agg (algC p n T f), .agg (vecC v)] w (fun res _ => res = .tuple #[.slice none 0 0, .int .i64 1]) := by
  refine calls_fr [.agg (algC p n T f), .agg (vecC v)] Try.func30 rfl Try.ntmps30 rfl fun a hF => ?_
  have hM : Mem w w [none, none, none] [] := MemX.start w 3
  change Fr 17 a [(0, .agg (algC p n T f)), (1, .agg (vecC v))] at hF
  have hVb : ∀ i c, vAtL [v] i c ≤ 255 := vAtL_le (fun x hx => by simp at hx; subst hx <;> assumption)
  refine sq ?_
  refine wp_region_lit ?_
  refine stR hF (d_box 0 hM hF rfl) rfl ?_
  rintro _ w' a ⟨b1, rfl, hM, -⟩ hF
  change Mem w w' [some (b1, algC p n T f), none, none] [] at hM
  refine stR hF (d_box 1 hM hF rfl) rfl ?_
  rintro _ w' a ⟨b2, rfl, hM, -⟩ hF
  change Mem w w' [some (b1, algC p n T f), some (b2, vecC v), none] [] at hM
  refine st hF (g_assign hF rfl) rfl fun a hF => st hF (g_assign hF rfl) rfl fun a hF => ?_
  refine wpList_nil ?_
  refine tN ?_
  refine sq ?_
  refine sq ?_
  refine wp_region_lit ?_
  refine st hF (g_loadAgg ty_ag_32 hF rfl (hM.row 0 rfl) (by simp only [fnC_size, cells_size, vecC_size, tabC_size, planeC_size, mrk_size, rowI_size, cpC_size] <;> omega) (whole cells_size)) rfl fun a hF => st hF (g_loadAgg ty_ag_30 hF rfl (hM.row 1 rfl) (by simp only [fnC_size, cells_size, vecC_size, tabC_size, planeC_size, mrk_size, rowI_size, cpC_size] <;> omega) (whole (by simp only [fnC_size, cells_size, vecC_size, tabC_size, planeC_size, mrk_size, rowI_size, cpC_size]))) rfl fun a hF => ?_
  refine stR hF (d_buildC (vs := [(0, .agg (vecC v))]) 2 hM hF (build1 hF rfl) (fun w => ty_bsg_27_1 v w)) rfl ?_
  rintro _ w' a ⟨b3, rfl, hM, -⟩ hF
  change Mem w w' [some (b1, algC p n T f), some (b2, vecC v), some (b3, vecsC 1 (vAtL [v]))] [] at hM
  refine stR hF (d_call Try.call70 hF (.cons rfl (.cons rfl .nil)) (l02Code_okA p n T f b3 1 1 (vAtL [v]) _ (fun _ _ _ => hT _ _ _) (fun _ => hf _) hVb (by omega) (hM.row 2 rfl) hc)) rfl ?_
  rintro _ w' a ⟨hx, rfl⟩ hF
  have hM := hM.ext hx
  refine st hF (g_assign hF rfl) rfl fun a hF => ?_
  refine wpList_nil ?_
  refine tN ?_
  refine sq ?_
  refine wp_region_lit ?_
  refine st hF (g_move hF rfl) rfl fun a hF => st hF (g_neq hF rfl rfl) rfl fun a hF => ?_
  refine wpList_nil ?_
  refine tN ?_
  refine c_kT hF rfl (by decide) ?_
  refine sq ?_
  refine wp_region_lit ?_
  refine st hF (g_move hF rfl) rfl fun a hF => st hF (g_assign hF rfl) rfl fun a hF => st hF (g_assign hF rfl) rfl fun a hF => ?_
  refine wpList_nil ?_
  refine tN ?_
  refine wp_ret ?_
  refine tR ?_
  refine fin2 rfl hF.defers (res_tmp hF rfl) (res_tmp hF rfl) ⟨_, rfl, hM.below, ?_⟩
  show _ = _
  rfl

theorem CoproductOfSF (p n : Nat) (T : Nat → Nat → Nat → Nat) (f : Nat → Nat) (v : Nat → Nat) (w : World) (hp : primeN p) (hn0 : 0 < n) (hn : n ≤ 6) (hTp : ∀ i j k, T i j k < p) (hT0 : ∀ i j k, n ≤ k → T i j k = 0) (hf : ∀ i, f i ≤ 255) (hv : ∀ i, v i ≤ 255) (hfr : ¬ FrobN p n T f) (hc : CodeP (p : Int) (n : Int) T f 1 (vAtL [v])) :
    CallsR Try.prog 30 #[.agg (algC (p : Int) (n : Int) T f), .agg (vecC v)] w (fun res _ => res = .tuple #[.slice none 0 0, .int .i64 5]) := by
  refine calls_fr [.agg (algC (p : Int) (n : Int) T f), .agg (vecC v)] Try.func30 rfl Try.ntmps30 rfl fun a hF => ?_
  have hM : Mem w w [none, none, none] [] := MemX.start w 3
  change Fr 17 a [(0, .agg (algC (p : Int) (n : Int) T f)), (1, .agg (vecC v))] at hF
  have hp2 := hp.two
  have hp13 := hp.le
  have hT : ∀ i j k, T i j k ≤ 255 := fun i j k => by have := hTp i j k; omega
  have hVb : ∀ i c, vAtL [v] i c ≤ 255 := vAtL_le (fun x hx => by simp at hx; subst hx <;> assumption)
  refine sq ?_
  refine wp_region_lit ?_
  refine stR hF (d_box 0 hM hF rfl) rfl ?_
  rintro _ w' a ⟨b1, rfl, hM, -⟩ hF
  change Mem w w' [some (b1, algC (p : Int) (n : Int) T f), none, none] [] at hM
  refine stR hF (d_box 1 hM hF rfl) rfl ?_
  rintro _ w' a ⟨b2, rfl, hM, -⟩ hF
  change Mem w w' [some (b1, algC (p : Int) (n : Int) T f), some (b2, vecC v), none] [] at hM
  refine st hF (g_assign hF rfl) rfl fun a hF => st hF (g_assign hF rfl) rfl fun a hF => ?_
  refine wpList_nil ?_
  refine tN ?_
  refine sq ?_
  refine sq ?_
  refine wp_region_lit ?_
  refine st hF (g_loadAgg ty_ag_32 hF rfl (hM.row 0 rfl) (by simp only [fnC_size, cells_size, vecC_size, tabC_size, planeC_size, mrk_size, rowI_size, cpC_size] <;> omega) (whole cells_size)) rfl fun a hF => st hF (g_loadAgg ty_ag_30 hF rfl (hM.row 1 rfl) (by simp only [fnC_size, cells_size, vecC_size, tabC_size, planeC_size, mrk_size, rowI_size, cpC_size] <;> omega) (whole (by simp only [fnC_size, cells_size, vecC_size, tabC_size, planeC_size, mrk_size, rowI_size, cpC_size]))) rfl fun a hF => ?_
  refine stR hF (d_buildC (vs := [(0, .agg (vecC v))]) 2 hM hF (build1 hF rfl) (fun w => ty_bsg_27_1 v w)) rfl ?_
  rintro _ w' a ⟨b3, rfl, hM, -⟩ hF
  change Mem w w' [some (b1, algC (p : Int) (n : Int) T f), some (b2, vecC v), some (b3, vecsC 1 (vAtL [v]))] [] at hM
  refine stR hF (d_call Try.call70 hF (.cons rfl (.cons rfl .nil)) (l02Code_okF p n T f b3 1 1 (vAtL [v]) _ hp hn0 hn hTp hf hVb (by omega) (hM.row 2 rfl) hfr hc)) rfl ?_
  rintro _ w' a ⟨hx, rfl⟩ hF
  have hM := hM.ext hx
  refine st hF (g_assign hF rfl) rfl fun a hF => ?_
  refine wpList_nil ?_
  refine tN ?_
  refine sq ?_
  refine wp_region_lit ?_
  refine st hF (g_move hF rfl) rfl fun a hF => st hF (g_neq hF rfl rfl) rfl fun a hF => ?_
  refine wpList_nil ?_
  refine tN ?_
  refine c_kT hF rfl (by decide) ?_
  refine sq ?_
  refine wp_region_lit ?_
  refine st hF (g_move hF rfl) rfl fun a hF => st hF (g_assign hF rfl) rfl fun a hF => st hF (g_assign hF rfl) rfl fun a hF => ?_
  refine wpList_nil ?_
  refine tN ?_
  refine wp_ret ?_
  refine tR ?_
  refine fin2 rfl hF.defers (res_tmp hF rfl) (res_tmp hF rfl) ⟨_, rfl, hM.below, ?_⟩
  show _ = _
  rfl

theorem CoproductOfSY (p n : Nat) (T : Nat → Nat → Nat → Nat) (f : Nat → Nat) (v : Nat → Nat) (w : World) (hp : primeN p) (hn0 : 0 < n) (hn : n ≤ 6) (hTp : ∀ i j k, T i j k < p) (hT0 : ∀ i j k, n ≤ k → T i j k = 0) (hf : ∀ i, f i ≤ 255) (hv : ∀ i, v i ≤ 255) (hfr : FrobN p n T f) (G : Nat → Nat → Nat) (hG : IsCop p n (formM p n T f) G) (has : asS p n T) (hc : CodeP (p : Int) (n : Int) T f 1 (vAtL [v])) :
    CallsR Try.prog 30 #[.agg (algC (p : Int) (n : Int) T f), .agg (vecC v)] w (fun u w' => ∃ l, u = .tuple #[l, .int .i64 0] ∧ TabOut w w' n n (fun i c => .int .i64 (((cpS p n T G v n) i c : Nat) : Int)) l) := by
  refine calls_fr [.agg (algC (p : Int) (n : Int) T f), .agg (vecC v)] Try.func30 rfl Try.ntmps30 rfl fun a hF => ?_
  have hM : Mem w w [none, none, none] [] := MemX.start w 3
  change Fr 17 a [(0, .agg (algC (p : Int) (n : Int) T f)), (1, .agg (vecC v))] at hF
  have hp2 := hp.two
  have hp13 := hp.le
  have hT : ∀ i j k, T i j k ≤ 255 := fun i j k => by have := hTp i j k; omega
  have hVb : ∀ i c, vAtL [v] i c ≤ 255 := vAtL_le (fun x hx => by simp at hx; subst hx <;> assumption)
  have hGp := hG.lt
  have hvf : ∀ i c, (cpI p n T G v) i c ≤ 255 := fun i c => timesV_le (by omega) (by omega) _ _ c
  refine sq ?_
  refine wp_region_lit ?_
  refine stR hF (d_box 0 hM hF rfl) rfl ?_
  rintro _ w' a ⟨b1, rfl, hM, -⟩ hF
  change Mem w w' [some (b1, algC (p : Int) (n : Int) T f), none, none] [] at hM
  refine stR hF (d_box 1 hM hF rfl) rfl ?_
  rintro _ w' a ⟨b2, rfl, hM, -⟩ hF
  change Mem w w' [some (b1, algC (p : Int) (n : Int) T f), some (b2, vecC v), none] [] at hM
  refine st hF (g_assign hF rfl) rfl fun a hF => st hF (g_assign hF rfl) rfl fun a hF => ?_
  refine wpList_nil ?_
  refine tN ?_
  refine sq ?_
  refine sq ?_
  refine wp_region_lit ?_
  refine st hF (g_loadAgg ty_ag_32 hF rfl (hM.row 0 rfl) (by simp only [fnC_size, cells_size, vecC_size, tabC_size, planeC_size, mrk_size, rowI_size, cpC_size] <;> omega) (whole cells_size)) rfl fun a hF => st hF (g_loadAgg ty_ag_30 hF rfl (hM.row 1 rfl) (by simp only [fnC_size, cells_size, vecC_size, tabC_size, planeC_size, mrk_size, rowI_size, cpC_size] <;> omega) (whole (by simp only [fnC_size, cells_size, vecC_size, tabC_size, planeC_size, mrk_size, rowI_size, cpC_size]))) rfl fun a hF => ?_
  refine stR hF (d_buildC (vs := [(0, .agg (vecC v))]) 2 hM hF (build1 hF rfl) (fun w => ty_bsg_27_1 v w)) rfl ?_
  rintro _ w' a ⟨b3, rfl, hM, -⟩ hF
  change Mem w w' [some (b1, algC (p : Int) (n : Int) T f), some (b2, vecC v), some (b3, vecsC 1 (vAtL [v]))] [] at hM
  refine stR hF (d_call Try.call70 hF (.cons rfl (.cons rfl .nil)) (l02Code_okY p n T f b3 1 1 (vAtL [v]) _ hp hn0 hn hTp hf hVb (by omega) (hM.row 2 rfl) hfr hc)) rfl ?_
  rintro _ w' a ⟨hx, rfl⟩ hF
  have hM := hM.ext hx
  refine st hF (g_assign hF rfl) rfl fun a hF => ?_
  refine wpList_nil ?_
  refine tN ?_
  refine sq ?_
  refine wp_region_lit ?_
  refine st hF (g_move hF rfl) rfl fun a hF => st hF (g_neq hF rfl rfl) rfl fun a hF => ?_
  refine wpList_nil ?_
  refine tN ?_
  refine c_kF hF rfl (by decide) ?_
  refine wp_skip ?_
  refine tN ?_
  refine sq ?_
  refine wp_region_lit ?_
  refine st hF (g_loadAgg ty_ag_32 hF rfl (hM.row 0 rfl) (by simp only [fnC_size, cells_size, vecC_size, tabC_size, planeC_size, mrk_size, rowI_size, cpC_size] <;> omega) (whole cells_size)) rfl fun a hF => st hF (g_loadAgg ty_ag_30 hF rfl (hM.row 1 rfl) (by simp only [fnC_size, cells_size, vecC_size, tabC_size, planeC_size, mrk_size, rowI_size, cpC_size] <;> omega) (whole (by simp only [fnC_size, cells_size, vecC_size, tabC_size, planeC_size, mrk_size, rowI_size, cpC_size]))) rfl fun a hF => ?_
  refine stR hF (d_call Try.call75 hF (.cons rfl (.cons rfl .nil)) (l02Coproduct_ok p n T f G v _ hp hn0 hn hTp hT0 hf hv hfr hG)) rfl ?_
  rintro u w' a ⟨hx, hr⟩ hF
  have hr := hr.base hM.below.size
  have hM := hM.ext hx
  refine st hF (g_assign hF rfl) rfl fun a hF => st hF (g_assign hF rfl) rfl fun a hF => ?_
  refine wpList_nil ?_
  refine tN ?_
  refine wp_ret ?_
  refine fin2 rfl hF.defers (res_tmp hF rfl) (res_tmp hF rfl) ⟨_, rfl, hM.below, ?_⟩
  exact ⟨_, rfl, hr⟩

theorem CoproductOfIA (p n : Int) (T : Nat → Nat → Nat → Nat) (f : Nat → Nat) (v : Nat → Nat) (w : World) (hT : ∀ i j k, T i j k ≤ 255) (hf : ∀ i, f i ≤ 255) (hv : ∀ i, v i ≤ 255) (hc : ¬ CodeP p n T f 1 (vAtL [v])) :
    CallsR Try.prog 32 #[.agg (algC p n T f), .agg (vecC v)] w (fun res _ => res = .tuple #[.slice none 0 0, .int .i64 1]) := by
  refine calls_fr [.agg (algC p n T f), .agg (vecC v)] Try.func32 rfl Try.ntmps32 rfl fun a hF => ?_
  have hM : Mem w w [none, none, none] [] := MemX.start w 3
  change Fr 19 a [(0, .agg (algC p n T f)), (1, .agg (vecC v))] at hF
  have hVb : ∀ i c, vAtL [v] i c ≤ 255 := vAtL_le (fun x hx => by simp at hx; subst hx <;> assumption)
  refine sq ?_
  refine wp_region_lit ?_
  refine stR hF (d_box 0 hM hF rfl) rfl ?_
  rintro _ w' a ⟨b1, rfl, hM, -⟩ hF
  change Mem w w' [some (b1, algC p n T f), none, none] [] at hM
  refine stR hF (d_box 1 hM hF rfl) rfl ?_
  rintro _ w' a ⟨b2, rfl, hM, -⟩ hF
  change Mem w w' [some (b1, algC p n T f), some (b2, vecC v), none] [] at hM
  refine st hF (g_assign hF rfl) rfl fun a hF => st hF (g_assign hF rfl) rfl fun a hF => ?_
  refine wpList_nil ?_
  refine tN ?_
  refine sq ?_
  refine wp_region_lit ?_
  refine st hF (g_loadAgg ty_ag_32 hF rfl (hM.row 0 rfl) (by simp only [fnC_size, cells_size, vecC_size, tabC_size, planeC_size, mrk_size, rowI_size, cpC_size] <;> omega) (whole cells_size)) rfl fun a hF => st hF (g_loadAgg ty_ag_30 hF rfl (hM.row 1 rfl) (by simp only [fnC_size, cells_size, vecC_size, tabC_size, planeC_size, mrk_size, rowI_size, cpC_size] <;> omega) (whole (by simp only [fnC_size, cells_size, vecC_size, tabC_size, planeC_size, mrk_size, rowI_size, cpC_size]))) rfl fun a hF => ?_
  refine stR hF (d_buildC (vs := [(0, .agg (vecC v))]) 2 hM hF (build1 hF rfl) (fun w => ty_bsg_27_1 v w)) rfl ?_
  rintro _ w' a ⟨b3, rfl, hM, -⟩ hF
  change Mem w w' [some (b1, algC p n T f), some (b2, vecC v), some (b3, vecsC 1 (vAtL [v]))] [] at hM
  refine stR hF (d_call Try.call72 hF (.cons rfl (.cons rfl .nil)) (frobeniusFault_okA p n T f b3 1 1 (vAtL [v]) _ (fun _ _ _ => hT _ _ _) (fun _ => hf _) hVb (by omega) (hM.row 2 rfl) hc)) rfl ?_
  rintro _ w' a ⟨hx, rfl⟩ hF
  have hM := hM.ext hx
  refine st hF (g_assign hF rfl) rfl fun a hF => ?_
  refine wpList_nil ?_
  refine tN ?_
  refine sq ?_
  refine sq ?_
  refine wp_region_lit ?_
  refine st hF (g_move hF rfl) rfl fun a hF => st hF (g_neq hF rfl rfl) rfl fun a hF => ?_
  refine wpList_nil ?_
  refine tN ?_
  refine c_kT hF rfl (by decide) ?_
  refine sq ?_
  refine wp_region_lit ?_
  refine st hF (g_move hF rfl) rfl fun a hF => st hF (g_assign hF rfl) rfl fun a hF => st hF (g_assign hF rfl) rfl fun a hF => ?_
  refine wpList_nil ?_
  refine tN ?_
  refine wp_ret ?_
  refine tR ?_
  refine fin2 rfl hF.defers (res_tmp hF rfl) (res_tmp hF rfl) ⟨_, rfl, hM.below, ?_⟩
  show _ = _
  rfl

theorem CoproductOfIF (p n : Nat) (T : Nat → Nat → Nat → Nat) (f : Nat → Nat) (v : Nat → Nat) (w : World) (hp : primeN p) (hn0 : 0 < n) (hn : n ≤ 6) (hTp : ∀ i j k, T i j k < p) (hT0 : ∀ i j k, n ≤ k → T i j k = 0) (hf : ∀ i, f i ≤ 255) (hv : ∀ i, v i ≤ 255) (hfr : ¬ FrobN p n T f) (hc : CodeP (p : Int) (n : Int) T f 1 (vAtL [v])) :
    CallsR Try.prog 32 #[.agg (algC (p : Int) (n : Int) T f), .agg (vecC v)] w (fun res _ => res = .tuple #[.slice none 0 0, .int .i64 5]) := by
  refine calls_fr [.agg (algC (p : Int) (n : Int) T f), .agg (vecC v)] Try.func32 rfl Try.ntmps32 rfl fun a hF => ?_
  have hM : Mem w w [none, none, none] [] := MemX.start w 3
  change Fr 19 a [(0, .agg (algC (p : Int) (n : Int) T f)), (1, .agg (vecC v))] at hF
  have hp2 := hp.two
  have hp13 := hp.le
  have hT : ∀ i j k, T i j k ≤ 255 := fun i j k => by have := hTp i j k; omega
  have hVb : ∀ i c, vAtL [v] i c ≤ 255 := vAtL_le (fun x hx => by simp at hx; subst hx <;> assumption)
  refine sq ?_
  refine wp_region_lit ?_
  refine stR hF (d_box 0 hM hF rfl) rfl ?_
  rintro _ w' a ⟨b1, rfl, hM, -⟩ hF
  change Mem w w' [some (b1, algC (p : Int) (n : Int) T f), none, none] [] at hM
  refine stR hF (d_box 1 hM hF rfl) rfl ?_
  rintro _ w' a ⟨b2, rfl, hM, -⟩ hF
  change Mem w w' [some (b1, algC (p : Int) (n : Int) T f), some (b2, vecC v), none] [] at hM
  refine st hF (g_assign hF rfl) rfl fun a hF => st hF (g_assign hF rfl) rfl fun a hF => ?_
  refine wpList_nil ?_
  refine tN ?_
  refine sq ?_
  refine wp_region_lit ?_
  refine st hF (g_loadAgg ty_ag_32 hF rfl (hM.row 0 rfl) (by simp only [fnC_size, cells_size, vecC_size, tabC_size, planeC_size, mrk_size, rowI_size, cpC_size] <;> omega) (whole cells_size)) rfl fun a hF => st hF (g_loadAgg ty_ag_30 hF rfl (hM.row 1 rfl) (by simp only [fnC_size, cells_size, vecC_size, tabC_size, planeC_size, mrk_size, rowI_size, cpC_size] <;> omega) (whole (by simp only [fnC_size, cells_size, vecC_size, tabC_size, planeC_size, mrk_size, rowI_size, cpC_size]))) rfl fun a hF => ?_
  refine stR hF (d_buildC (vs := [(0, .agg (vecC v))]) 2 hM hF (build1 hF rfl) (fun w => ty_bsg_27_1 v w)) rfl ?_
  rintro _ w' a ⟨b3, rfl, hM, -⟩ hF
  change Mem w w' [some (b1, algC (p : Int) (n : Int) T f), some (b2, vecC v), some (b3, vecsC 1 (vAtL [v]))] [] at hM
  refine stR hF (d_call Try.call72 hF (.cons rfl (.cons rfl .nil)) (frobeniusFault_okF p n T f b3 1 1 (vAtL [v]) _ hp hn0 hn hTp hf hVb (by omega) (hM.row 2 rfl) hfr hc)) rfl ?_
  rintro _ w' a ⟨hx, rfl⟩ hF
  have hM := hM.ext hx
  refine st hF (g_assign hF rfl) rfl fun a hF => ?_
  refine wpList_nil ?_
  refine tN ?_
  refine sq ?_
  refine sq ?_
  refine wp_region_lit ?_
  refine st hF (g_move hF rfl) rfl fun a hF => st hF (g_neq hF rfl rfl) rfl fun a hF => ?_
  refine wpList_nil ?_
  refine tN ?_
  refine c_kT hF rfl (by decide) ?_
  refine sq ?_
  refine wp_region_lit ?_
  refine st hF (g_move hF rfl) rfl fun a hF => st hF (g_assign hF rfl) rfl fun a hF => st hF (g_assign hF rfl) rfl fun a hF => ?_
  refine wpList_nil ?_
  refine tN ?_
  refine wp_ret ?_
  refine tR ?_
  refine fin2 rfl hF.defers (res_tmp hF rfl) (res_tmp hF rfl) ⟨_, rfl, hM.below, ?_⟩
  show _ = _
  rfl

theorem CoproductOfIY (p n : Nat) (T : Nat → Nat → Nat → Nat) (f : Nat → Nat) (v : Nat → Nat) (w : World) (hp : primeN p) (hn0 : 0 < n) (hn : n ≤ 6) (hTp : ∀ i j k, T i j k < p) (hT0 : ∀ i j k, n ≤ k → T i j k = 0) (hf : ∀ i, f i ≤ 255) (hv : ∀ i, v i ≤ 255) (hfr : FrobN p n T f) (G : Nat → Nat → Nat) (hG : IsCop p n (formM p n T f) G) (has : asS p n T) (hc : CodeP (p : Int) (n : Int) T f 1 (vAtL [v])) :
    CallsR Try.prog 32 #[.agg (algC (p : Int) (n : Int) T f), .agg (vecC v)] w (fun u w' => ∃ l, u = .tuple #[l, .int .i64 0] ∧ TabI w w' n (cpI p n T G v) l) := by
  refine calls_fr [.agg (algC (p : Int) (n : Int) T f), .agg (vecC v)] Try.func32 rfl Try.ntmps32 rfl fun a hF => ?_
  have hM : Mem w w [none, none, none] [] := MemX.start w 3
  change Fr 19 a [(0, .agg (algC (p : Int) (n : Int) T f)), (1, .agg (vecC v))] at hF
  have hp2 := hp.two
  have hp13 := hp.le
  have hT : ∀ i j k, T i j k ≤ 255 := fun i j k => by have := hTp i j k; omega
  have hVb : ∀ i c, vAtL [v] i c ≤ 255 := vAtL_le (fun x hx => by simp at hx; subst hx <;> assumption)
  have hGp := hG.lt
  have hvf : ∀ i c, (cpI p n T G v) i c ≤ 255 := fun i c => timesV_le (by omega) (by omega) _ _ c
  refine sq ?_
  refine wp_region_lit ?_
  refine stR hF (d_box 0 hM hF rfl) rfl ?_
  rintro _ w' a ⟨b1, rfl, hM, -⟩ hF
  change Mem w w' [some (b1, algC (p : Int) (n : Int) T f), none, none] [] at hM
  refine stR hF (d_box 1 hM hF rfl) rfl ?_
  rintro _ w' a ⟨b2, rfl, hM, -⟩ hF
  change Mem w w' [some (b1, algC (p : Int) (n : Int) T f), some (b2, vecC v), none] [] at hM
  refine st hF (g_assign hF rfl) rfl fun a hF => st hF (g_assign hF rfl) rfl fun a hF => ?_
  refine wpList_nil ?_
  refine tN ?_
  refine sq ?_
  refine wp_region_lit ?_
  refine st hF (g_loadAgg ty_ag_32 hF rfl (hM.row 0 rfl) (by simp only [fnC_size, cells_size, vecC_size, tabC_size, planeC_size, mrk_size, rowI_size, cpC_size] <;> omega) (whole cells_size)) rfl fun a hF => st hF (g_loadAgg ty_ag_30 hF rfl (hM.row 1 rfl) (by simp only [fnC_size, cells_size, vecC_size, tabC_size, planeC_size, mrk_size, rowI_size, cpC_size] <;> omega) (whole (by simp only [fnC_size, cells_size, vecC_size, tabC_size, planeC_size, mrk_size, rowI_size, cpC_size]))) rfl fun a hF => ?_
  refine stR hF (d_buildC (vs := [(0, .agg (vecC v))]) 2 hM hF (build1 hF rfl) (fun w => ty_bsg_27_1 v w)) rfl ?_
  rintro _ w' a ⟨b3, rfl, hM, -⟩ hF
  change Mem w w' [some (b1, algC (p : Int) (n : Int) T f), some (b2, vecC v), some (b3, vecsC 1 (vAtL [v]))] [] at hM
  refine stR hF (d_call Try.call72 hF (.cons rfl (.cons rfl .nil)) (frobeniusFault_okY p n T f b3 1 1 (vAtL [v]) _ hp hn0 hn hTp hf hVb (by omega) (hM.row 2 rfl) hfr hc)) rfl ?_
  rintro _ w' a ⟨hx, rfl⟩ hF
  have hM := hM.ext hx
  refine st hF (g_assign hF rfl) rfl fun a hF => ?_
  refine wpList_nil ?_
  refine tN ?_
  refine sq ?_
  refine sq ?_
  refine wp_region_lit ?_
  refine st hF (g_move hF rfl) rfl fun a hF => st hF (g_neq hF rfl rfl) rfl fun a hF => ?_
  refine wpList_nil ?_
  refine tN ?_
  refine c_kF hF rfl (by decide) ?_
  refine wp_skip ?_
  refine tN ?_
  refine sq ?_
  refine c_par 4 [] [.val (.agg (algC (p : Int) (n : Int) T f)), .val (.agg (algC (p : Int) (n : Int) T f)), .val (.agg (vecC v)), .rel (FreshV w [some (b1, algC (p : Int) (n : Int) T f), some (b2, vecC v), some (b3, vecsC 1 (vAtL [v]))] n (fun c => .int .u8 (((cpI p n T G v) (c / 6) (c % 6) : Nat) : Int)))] hmix rfl hF rfl hM ⟨fun a w g hF hS hd => by have hM := hS.mem rfl; exact par_val hS rfl (g_loadAgg ty_ag_32 hF rfl (hM.row 0 rfl) (by simp only [fnC_size, cells_size, vecC_size, tabC_size, planeC_size, mrk_size, rowI_size, cpC_size] <;> omega) (whole cells_size)), fun a w g hF hS hd => by have hM := hS.mem rfl; exact par_val hS rfl (g_loadAgg ty_ag_32 hF rfl (hM.row 0 rfl) (by simp only [fnC_size, cells_size, vecC_size, tabC_size, planeC_size, mrk_size, rowI_size, cpC_size] <;> omega) (whole cells_size)), fun a w g hF hS hd => by have hM := hS.mem rfl; exact par_val hS rfl (g_loadAgg ty_ag_30 hF rfl (hM.row 1 rfl) (by simp only [fnC_size, cells_size, vecC_size, tabC_size, planeC_size, mrk_size, rowI_size, cpC_size] <;> omega) (whole (by simp only [fnC_size, cells_size, vecC_size, tabC_size, planeC_size, mrk_size, rowI_size, cpC_size]))), fun a w g hF hS hd => by have hF := hF.ext1 15 (hd 1 rfl rfl); have hF := hF.ext1 16 (hd 2 rfl rfl); have hM := hS.mem rfl; exact par_rel (by exact ⟨fun _ _ _ h hx => h.last hx, trivial⟩) hS rfl (d_call Try.call76 hF (.cons rfl (.cons rfl .nil)) (coproduct_ok p n T f G v _ hp hn0 hn hTp hT0 hf hv hfr hG)) (fun _ _ hr => OwnSl.freshV hM hr), trivial⟩ ?_
  intro a w' L hF hS hq
  have hM := hS.mem rfl
  have hF := hF.ext1 14 (hq 0 rfl rfl)
  have hF := hF.ext1 15 (hq 1 rfl rfl)
  have hF := hF.ext1 16 (hq 2 rfl rfl)
  obtain ⟨bV, cV, csV, hsV, hgV, hM⟩ := hM.addV (hq 3 rfl rfl : FreshV w [some (b1, algC (p : Int) (n : Int) T f), some (b2, vecC v), some (b3, vecsC 1 (vAtL [v]))] n (fun c => .int .u8 (((cpI p n T G v) (c / 6) (c % 6) : Nat) : Int)) _ _)
  have hF := hF.ext1 17 hsV.val
  change Mem w w' [some (b1, algC (p : Int) (n : Int) T f), some (b2, vecC v), some (b3, vecsC 1 (vAtL [v]))] ((bV, csV) :: []) at hM
  change wpList Try.prog _ _ [_, _, _] _ _
  refine stR hF (d_call Try.call67 hF (.cons rfl (.cons rfl .nil)) (tableOf_ok p n T f bV cV csV _ _ (cpI p n T G v) _ hn0 hn hvf hsV (hM.fzm (List.mem_cons_self ..)))) rfl ?_
  rintro u w' a ⟨hx, hr⟩ hF
  have hr := hr.base hM.below.size
  have hM := hM.ext hx
  refine st hF (g_assign hF rfl) rfl fun a hF => st hF (g_assign hF rfl) rfl fun a hF => ?_
  refine wpList_nil ?_
  refine tN ?_
  refine wp_ret ?_
  refine fin2 rfl hF.defers (res_tmp hF rfl) (res_tmp hF rfl) ⟨_, rfl, hM.below, ?_⟩
  exact ⟨_, rfl, hr⟩

theorem law_CoproductOfA (p n : Int) (T : Nat → Nat → Nat → Nat) (f : Nat → Nat) (v : Nat → Nat) (w : World) (hT : ∀ i j k, T i j k ≤ 255) (hf : ∀ i, f i ≤ 255) (hv : ∀ i, v i ≤ 255) (hc : ¬ CodeP p n T f 1 (vAtL [v])) :
    CallsR Try.prog 7 #[.agg (algC p n T f), .agg (vecC v)] w (fun res _ => res = .bool true) := by
  refine calls_fr [.agg (algC p n T f), .agg (vecC v)] Try.func7 rfl Try.ntmps7 rfl fun a hF => ?_
  have hM : Mem w w [none, none] [] := MemX.start w 2
  change Fr 74 a [(0, .agg (algC p n T f)), (1, .agg (vecC v))] at hF
  refine sq ?_
  refine wp_region_lit ?_
  refine stR hF (d_box 0 hM hF rfl) rfl ?_
  rintro _ w' a ⟨b1, rfl, hM, -⟩ hF
  change Mem w w' [some (b1, algC p n T f), none] [] at hM
  refine stR hF (d_box 1 hM hF rfl) rfl ?_
  rintro _ w' a ⟨b2, rfl, hM, -⟩ hF
  change Mem w w' [some (b1, algC p n T f), some (b2, vecC v)] [] at hM
  refine st hF (g_assign hF rfl) rfl fun a hF => ?_
  refine wpList_nil ?_
  refine tN ?_
  refine sq ?_
  refine c_par 9 [] [.val (.agg (algC p n T f)), .val (.agg (algC p n T f)), .val (.agg (vecC v)), .val (.agg (vecC v)), .val (.tuple #[.slice none 0 0, .int .i64 (1)]), .val (.tuple #[.slice none 0 0, .int .i64 (1)]), .val (.slice none 0 0), .val (.int .i64 (1)), .val (.slice none 0 0)] hmix rfl hF rfl hM ⟨fun a w gG hF hS hd => by have hM := hS.mem rfl; exact par_val hS rfl (g_loadAgg ty_ag_26 hF rfl (hM.row 0 rfl) (by simp only [fnC_size, cells_size, vecC_size, tabC_size, planeC_size, mrk_size, rowI_size, cpC_size] <;> omega) (whole cells_size)), fun a w gG hF hS hd => by have hF := hF.ext1 14 (hd 0 rfl rfl); exact par_call (by repeat constructor) hS rfl (d_call Try.call16 hF (.cons rfl .nil) (toAlgebra_ok p n T f _)), fun a w gG hF hS hd => by have hM := hS.mem rfl; exact par_val hS rfl (g_loadAgg ty_ag_22 hF rfl (hM.row 1 rfl) (by simp only [fnC_size, cells_size, vecC_size, tabC_size, planeC_size, mrk_size, rowI_size, cpC_size] <;> omega) (whole (by simp only [fnC_size, cells_size, vecC_size, tabC_size, planeC_size, mrk_size, rowI_size, cpC_size]))), fun a w gG hF hS hd => by have hF := hF.ext1 16 (hd 2 rfl rfl); exact par_call (by repeat constructor) hS rfl (d_call Try.call31 hF (.cons rfl .nil) (toVector_ok v _)), fun a w gG hF hS hd => by have hF := hF.ext1 15 (hd 1 rfl rfl); have hF := hF.ext1 17 (hd 3 rfl rfl); exact par_call (by repeat constructor) hS rfl (d_call Try.call30 hF (.cons rfl (.cons rfl .nil)) (CoproductOfSA p n T f v _ hT hf hv hc)), fun a w gG hF hS hd => by have hF := hF.ext1 18 (hd 4 rfl rfl); exact par_val hS rfl (g_move hF rfl), fun a w gG hF hS hd => by have hF := hF.ext1 13 (hd 5 rfl rfl); exact par_val hS rfl (g_extract hF rfl rfl), fun a w gG hF hS hd => by have hF := hF.ext1 13 (hd 5 rfl rfl); exact par_val hS rfl (g_extract hF rfl rfl), fun a w gG hF hS hd => by have hF := hF.ext1 19 (hd 6 rfl rfl); exact par_val hS rfl (g_assign hF rfl), trivial⟩ ?_
  intro a w' L hF hS hq
  have hF := hF.ext1 14 (hq 0 rfl rfl)
  have hF := hF.ext1 15 (hq 1 rfl rfl)
  have hF := hF.ext1 16 (hq 2 rfl rfl)
  have hF := hF.ext1 17 (hq 3 rfl rfl)
  have hF := hF.ext1 18 (hq 4 rfl rfl)
  have hF := hF.ext1 13 (hq 5 rfl rfl)
  have hF := hF.ext1 19 (hq 6 rfl rfl)
  have hF := hF.ext1 20 (hq 7 rfl rfl)
  have hF := hF.ext1 5 (hq 8 rfl rfl)
  have hM := hS.mem rfl
  change wpList Try.prog _ _ [_] _ _
  refine st hF (g_assign hF rfl) rfl fun a hF => ?_
  refine wpList_nil ?_
  refine tN ?_
  refine sq ?_
  refine c_par 9 [] [.val (.agg (algC p n T f)), .val (.agg (algC p n T f)), .val (.agg (vecC v)), .val (.agg (vecC v)), .val (.tuple #[.slice none 0 0, .int .i64 (1)]), .val (.tuple #[.slice none 0 0, .int .i64 (1)]), .val (.slice none 0 0), .val (.int .i64 (1)), .val (.slice none 0 0)] hmix rfl hF rfl hM ⟨fun a w gG hF hS hd => by have hM := hS.mem rfl; exact par_val hS rfl (g_loadAgg ty_ag_26 hF rfl (hM.row 0 rfl) (by simp only [fnC_size, cells_size, vecC_size, tabC_size, planeC_size, mrk_size, rowI_size, cpC_size] <;> omega) (whole cells_size)), fun a w gG hF hS hd => by have hF := hF.ext1 22 (hd 0 rfl rfl); exact par_call (by repeat constructor) hS rfl (d_call Try.call16 hF (.cons rfl .nil) (toAlgebra_ok p n T f _)), fun a w gG hF hS hd => by have hM := hS.mem rfl; exact par_val hS rfl (g_loadAgg ty_ag_22 hF rfl (hM.row 1 rfl) (by simp only [fnC_size, cells_size, vecC_size, tabC_size, planeC_size, mrk_size, rowI_size, cpC_size] <;> omega) (whole (by simp only [fnC_size, cells_size, vecC_size, tabC_size, planeC_size, mrk_size, rowI_size, cpC_size]))), fun a w gG hF hS hd => by have hF := hF.ext1 24 (hd 2 rfl rfl); exact par_call (by repeat constructor) hS rfl (d_call Try.call31 hF (.cons rfl .nil) (toVector_ok v _)), fun a w gG hF hS hd => by have hF := hF.ext1 23 (hd 1 rfl rfl); have hF := hF.ext1 25 (hd 3 rfl rfl); exact par_call (by repeat constructor) hS rfl (d_call Try.call32 hF (.cons rfl (.cons rfl .nil)) (CoproductOfIA p n T f v _ hT hf hv hc)), fun a w gG hF hS hd => by have hF := hF.ext1 26 (hd 4 rfl rfl); exact par_val hS rfl (g_move hF rfl), fun a w gG hF hS hd => by have hF := hF.ext1 21 (hd 5 rfl rfl); exact par_val hS rfl (g_extract hF rfl rfl), fun a w gG hF hS hd => by have hF := hF.ext1 21 (hd 5 rfl rfl); exact par_val hS rfl (g_extract hF rfl rfl), fun a w gG hF hS hd => by have hF := hF.ext1 27 (hd 6 rfl rfl); exact par_val hS rfl (g_assign hF rfl), trivial⟩ ?_
  intro a w' L hF hS hq
  have hF := hF.ext1 22 (hq 0 rfl rfl)
  have hF := hF.ext1 23 (hq 1 rfl rfl)
  have hF := hF.ext1 24 (hq 2 rfl rfl)
  have hF := hF.ext1 25 (hq 3 rfl rfl)
  have hF := hF.ext1 26 (hq 4 rfl rfl)
  have hF := hF.ext1 21 (hq 5 rfl rfl)
  have hF := hF.ext1 27 (hq 6 rfl rfl)
  have hF := hF.ext1 28 (hq 7 rfl rfl)
  have hF := hF.ext1 7 (hq 8 rfl rfl)
  have hM := hS.mem rfl
  change wpList Try.prog _ _ [_] _ _
  refine st hF (g_assign hF rfl) rfl fun a hF => ?_
  refine wpList_nil ?_
  refine tN ?_
  refine sq ?_
  refine sq ?_
  refine wp_region_lit ?_
  refine st hF (g_move hF rfl) rfl fun a hF => st hF (g_move hF rfl) rfl fun a hF => ?_
  refine stR hF (d_call Try.call23 hF (.cons rfl (.cons rfl .nil)) (eqISS_0 _)) rfl ?_
  rintro _ w' a ⟨hx, rfl⟩ hF
  have hM := hM.ext hx
  refine st hF (g_not hF rfl) rfl fun a hF => st hF (g_move hF rfl) rfl fun a hF => stY hF rfl rfl rfl (g_move hF rfl) rfl fun a hF => stY hF rfl rfl rfl (g_move hF rfl) rfl fun a hF => stY hF rfl rfl rfl (g_neq hF rfl rfl) rfl fun a hF => st hF (g_pickF hF rfl rfl) rfl fun a hF => ?_
  refine wpList_nil ?_
  refine tN ?_
  refine c_kF hF rfl (by decide) ?_
  refine wp_skip ?_
  refine tN ?_
  refine sq ?_
  refine wp_region_lit ?_
  refine st hF (g_assign hF rfl) rfl fun a hF => ?_
  refine wpList_nil ?_
  refine tN ?_
  refine sq ?_
  refine wp_region_lit ?_
  refine st hF (g_move hF rfl) rfl fun a hF => st hF (g_move hF rfl) rfl fun a hF => ?_
  refine stR hF (d_call Try.call24 hF (.cons rfl (.cons rfl .nil)) (markISS_0 (1) _ (by omega))) rfl ?_
  rintro _ w' a ⟨hx, rfl⟩ hF
  have hM := hM.ext hx
  refine st hF (g_assign hF rfl) rfl fun a hF => ?_
  refine wpList_nil ?_
  refine tN ?_
  refine sq ?_
  refine wp_region_lit ?_
  refine st hF (g_assign hF rfl) rfl fun a hF => ?_
  refine wpList_nil ?_
  refine tN ?_
  refine sq ?_
  refine wp_region_lit ?_
  refine st hF (g_move hF rfl) rfl fun a hF => st hF (g_move hF rfl) rfl fun a hF => ?_
  refine stR hF (d_call Try.call25 hF (.cons rfl (.cons rfl .nil)) (heldISS_0 (1) _ (by omega))) rfl ?_
  rintro _ w' a ⟨hx, rfl⟩ hF
  have hM := hM.ext hx
  refine st hF (g_assign hF rfl) rfl fun a hF => ?_
  refine wpList_nil ?_
  refine tN ?_
  refine sq ?_
  refine sq ?_
  refine wp_region_lit ?_
  refine st hF (g_move hF rfl) rfl fun a hF => st hF (g_lss hF rfl rfl) rfl fun a hF => ?_
  refine wpList_nil ?_
  refine tN ?_
  refine c_cond hF rfl (fun h4 => ?_) (fun h4 => ?_)
  ·
    first | exact absurd rfl h4 | (exfalso; omega)
  ·
    refine wp_skip ?_
    refine tN ?_
    refine sq ?_
    refine sq ?_
    refine wp_region_lit ?_
    refine st hF (g_move hF rfl) rfl fun a hF => st hF (g_move hF rfl) rfl fun a hF => st hF (g_neq hF rfl rfl) rfl fun a hF => ?_
    refine wpList_nil ?_
    refine tN ?_
    refine c_kF hF rfl (by decide) ?_
    refine wp_skip ?_
    refine tN ?_
    refine sq ?_
    refine c_par 9 [] [.val (.agg (algC p n T f)), .val (.agg (algC p n T f)), .val (.agg (vecC v)), .val (.agg (vecC v)), .val (.tuple #[.slice none 0 0, .int .i64 (1)]), .val (.tuple #[.slice none 0 0, .int .i64 (1)]), .val (.slice none 0 0), .val (.int .i64 (1)), .val (.slice none 0 0)] hmix rfl hF rfl hM ⟨fun a w gG hF hS hd => by have hM := hS.mem rfl; exact par_val hS rfl (g_loadAgg ty_ag_26 hF rfl (hM.row 0 rfl) (by simp only [fnC_size, cells_size, vecC_size, tabC_size, planeC_size, mrk_size, rowI_size, cpC_size] <;> omega) (whole cells_size)), fun a w gG hF hS hd => by have hF := hF.ext1 50 (hd 0 rfl rfl); exact par_call (by repeat constructor) hS rfl (d_call Try.call16 hF (.cons rfl .nil) (toAlgebra_ok p n T f _)), fun a w gG hF hS hd => by have hM := hS.mem rfl; exact par_val hS rfl (g_loadAgg ty_ag_22 hF rfl (hM.row 1 rfl) (by simp only [fnC_size, cells_size, vecC_size, tabC_size, planeC_size, mrk_size, rowI_size, cpC_size] <;> omega) (whole (by simp only [fnC_size, cells_size, vecC_size, tabC_size, planeC_size, mrk_size, rowI_size, cpC_size]))), fun a w gG hF hS hd => by have hF := hF.ext1 52 (hd 2 rfl rfl); exact par_call (by repeat constructor) hS rfl (d_call Try.call31 hF (.cons rfl .nil) (toVector_ok v _)), fun a w gG hF hS hd => by have hF := hF.ext1 51 (hd 1 rfl rfl); have hF := hF.ext1 53 (hd 3 rfl rfl); exact par_call (by repeat constructor) hS rfl (d_call Try.call32 hF (.cons rfl (.cons rfl .nil)) (CoproductOfIA p n T f v _ hT hf hv hc)), fun a w gG hF hS hd => by have hF := hF.ext1 54 (hd 4 rfl rfl); exact par_val hS rfl (g_move hF rfl), fun a w gG hF hS hd => by have hF := hF.ext1 49 (hd 5 rfl rfl); exact par_val hS rfl (g_extract hF rfl rfl), fun a w gG hF hS hd => by have hF := hF.ext1 49 (hd 5 rfl rfl); exact par_val hS rfl (g_extract hF rfl rfl), fun a w gG hF hS hd => by have hF := hF.ext1 55 (hd 6 rfl rfl); exact par_val hS rfl (g_assign hF rfl), trivial⟩ ?_
    intro a w' L hF hS hq
    have hF := hF.ext1 50 (hq 0 rfl rfl)
    have hF := hF.ext1 51 (hq 1 rfl rfl)
    have hF := hF.ext1 52 (hq 2 rfl rfl)
    have hF := hF.ext1 53 (hq 3 rfl rfl)
    have hF := hF.ext1 54 (hq 4 rfl rfl)
    have hF := hF.ext1 49 (hq 5 rfl rfl)
    have hF := hF.ext1 55 (hq 6 rfl rfl)
    have hF := hF.ext1 56 (hq 7 rfl rfl)
    have hF := hF.ext1 11 (hq 8 rfl rfl)
    have hM := hS.mem rfl
    change wpList Try.prog _ _ [_] _ _
    refine st hF (g_assign hF rfl) rfl fun a hF => ?_
    refine wpList_nil ?_
    refine tN ?_
    refine sq ?_
    refine sq ?_
    refine wp_region_lit ?_
    refine st hF (g_move hF rfl) rfl fun a hF => st hF (g_move hF rfl) rfl fun a hF => ?_
    refine stR hF (d_call Try.call23 hF (.cons rfl (.cons rfl .nil)) (eqISS_0 _)) rfl ?_
    rintro _ w' a ⟨hx, rfl⟩ hF
    have hM := hM.ext hx
    refine st hF (g_not hF rfl) rfl fun a hF => st hF (g_move hF rfl) rfl fun a hF => stY hF rfl rfl rfl (g_move hF rfl) rfl fun a hF => stY hF rfl rfl rfl (g_move hF rfl) rfl fun a hF => stY hF rfl rfl rfl (g_neq hF rfl rfl) rfl fun a hF => st hF (g_pickF hF rfl rfl) rfl fun a hF => ?_
    refine wpList_nil ?_
    refine tN ?_
    refine c_kF hF rfl (by decide) ?_
    refine wp_skip ?_
    refine tN ?_
    refine sq ?_
    refine wp_region_lit ?_
    refine st hF (g_assign hF rfl) rfl fun a hF => ?_
    refine wpList_nil ?_
    refine tN ?_
    refine sq ?_
    refine wp_region_lit ?_
    refine st hF (g_move hF rfl) rfl fun a hF => st hF (g_move hF rfl) rfl fun a hF => ?_
    refine stR hF (d_call Try.call25 hF (.cons rfl (.cons rfl .nil)) (heldISS_0 (1) _ (by omega))) rfl ?_
    rintro _ w' a ⟨hx, rfl⟩ hF
    have hM := hM.ext hx
    refine st hF (g_assign hF rfl) rfl fun a hF => ?_
    refine wpList_nil ?_
    refine tN ?_
    refine sq ?_
    refine sq ?_
    refine wp_region_lit ?_
    refine st hF (g_move hF rfl) rfl fun a hF => st hF (g_lss hF rfl rfl) rfl fun a hF => ?_
    refine wpList_nil ?_
    refine tN ?_
    refine c_kF hF rfl h4 ?_
    refine wp_skip ?_
    refine tN ?_
    refine sq ?_
    refine sq ?_
    refine wp_region_lit ?_
    refine st hF (g_move hF rfl) rfl fun a hF => st hF (g_move hF rfl) rfl fun a hF => st hF (g_neq hF rfl rfl) rfl fun a hF => ?_
    refine wpList_nil ?_
    refine tN ?_
    refine c_kF hF rfl (by decide) ?_
    refine wp_skip ?_
    refine tN ?_
    refine sq ?_
    refine wp_region_lit ?_
    refine st hF (g_assign hF rfl) rfl fun a hF => ?_
    refine wpList_nil ?_
    refine tN ?_
    refine wp_ret ?_
    refine fin1 rfl hF.defers (res_tmp hF rfl) ⟨_, rfl, hM.below, ?_⟩
    show _ = _
    rfl

theorem law_CoproductOfF (p n : Nat) (T : Nat → Nat → Nat → Nat) (f : Nat → Nat) (v : Nat → Nat) (w : World) (hp : primeN p) (hn0 : 0 < n) (hn : n ≤ 6) (hTp : ∀ i j k, T i j k < p) (hT0 : ∀ i j k, n ≤ k → T i j k = 0) (hf : ∀ i, f i ≤ 255) (hv : ∀ i, v i ≤ 255) (hfr : ¬ FrobN p n T f) (hc : CodeP (p : Int) (n : Int) T f 1 (vAtL [v])) :
    CallsR Try.prog 7 #[.agg (algC (p : Int) (n : Int) T f), .agg (vecC v)] w (fun res _ => res = .bool true) := by
  refine calls_fr [.agg (algC (p : Int) (n : Int) T f), .agg (vecC v)] Try.func7 rfl Try.ntmps7 rfl fun a hF => ?_
  have hM : Mem w w [none, none] [] := MemX.start w 2
  change Fr 74 a [(0, .agg (algC (p : Int) (n : Int) T f)), (1, .agg (vecC v))] at hF
  have hp2 := hp.two
  have hp13 := hp.le
  have hT : ∀ i j k, T i j k ≤ 255 := fun i j k => by have := hTp i j k; omega
  refine sq ?_
  refine wp_region_lit ?_
  refine stR hF (d_box 0 hM hF rfl) rfl ?_
  rintro _ w' a ⟨b1, rfl, hM, -⟩ hF
  change Mem w w' [some (b1, algC (p : Int) (n : Int) T f), none] [] at hM
  refine stR hF (d_box 1 hM hF rfl) rfl ?_
  rintro _ w' a ⟨b2, rfl, hM, -⟩ hF
  change Mem w w' [some (b1, algC (p : Int) (n : Int) T f), some (b2, vecC v)] [] at hM
  refine st hF (g_assign hF rfl) rfl fun a hF => ?_
  refine wpList_nil ?_
  refine tN ?_
  refine sq ?_
  refine c_par 9 [] [.val (.agg (algC (p : Int) (n : Int) T f)), .val (.agg (algC (p : Int) (n : Int) T f)), .val (.agg (vecC v)), .val (.agg (vecC v)), .val (.tuple #[.slice none 0 0, .int .i64 (5)]), .val (.tuple #[.slice none 0 0, .int .i64 (5)]), .val (.slice none 0 0), .val (.int .i64 (5)), .val (.slice none 0 0)] hmix rfl hF rfl hM ⟨fun a w gG hF hS hd => by have hM := hS.mem rfl; exact par_val hS rfl (g_loadAgg ty_ag_26 hF rfl (hM.row 0 rfl) (by simp only [fnC_size, cells_size, vecC_size, tabC_size, planeC_size, mrk_size, rowI_size, cpC_size] <;> omega) (whole cells_size)), fun a w gG hF hS hd => by have hF := hF.ext1 14 (hd 0 rfl rfl); exact par_call (by repeat constructor) hS rfl (d_call Try.call16 hF (.cons rfl .nil) (toAlgebra_ok (p : Int) (n : Int) T f _)), fun a w gG hF hS hd => by have hM := hS.mem rfl; exact par_val hS rfl (g_loadAgg ty_ag_22 hF rfl (hM.row 1 rfl) (by simp only [fnC_size, cells_size, vecC_size, tabC_size, planeC_size, mrk_size, rowI_size, cpC_size] <;> omega) (whole (by simp only [fnC_size, cells_size, vecC_size, tabC_size, planeC_size, mrk_size, rowI_size, cpC_size]))), fun a w gG hF hS hd => by have hF := hF.ext1 16 (hd 2 rfl rfl); exact par_call (by repeat constructor) hS rfl (d_call Try.call31 hF (.cons rfl .nil) (toVector_ok v _)), fun a w gG hF hS hd => by have hF := hF.ext1 15 (hd 1 rfl rfl); have hF := hF.ext1 17 (hd 3 rfl rfl); exact par_call (by repeat constructor) hS rfl (d_call Try.call30 hF (.cons rfl (.cons rfl .nil)) (CoproductOfSF p n T f v _ hp hn0 hn hTp hT0 hf hv hfr hc)), fun a w gG hF hS hd => by have hF := hF.ext1 18 (hd 4 rfl rfl); exact par_val hS rfl (g_move hF rfl), fun a w gG hF hS hd => by have hF := hF.ext1 13 (hd 5 rfl rfl); exact par_val hS rfl (g_extract hF rfl rfl), fun a w gG hF hS hd => by have hF := hF.ext1 13 (hd 5 rfl rfl); exact par_val hS rfl (g_extract hF rfl rfl), fun a w gG hF hS hd => by have hF := hF.ext1 19 (hd 6 rfl rfl); exact par_val hS rfl (g_assign hF rfl), trivial⟩ ?_
  intro a w' L hF hS hq
  have hF := hF.ext1 14 (hq 0 rfl rfl)
  have hF := hF.ext1 15 (hq 1 rfl rfl)
  have hF := hF.ext1 16 (hq 2 rfl rfl)
  have hF := hF.ext1 17 (hq 3 rfl rfl)
  have hF := hF.ext1 18 (hq 4 rfl rfl)
  have hF := hF.ext1 13 (hq 5 rfl rfl)
  have hF := hF.ext1 19 (hq 6 rfl rfl)
  have hF := hF.ext1 20 (hq 7 rfl rfl)
  have hF := hF.ext1 5 (hq 8 rfl rfl)
  have hM := hS.mem rfl
  change wpList Try.prog _ _ [_] _ _
  refine st hF (g_assign hF rfl) rfl fun a hF => ?_
  refine wpList_nil ?_
  refine tN ?_
  refine sq ?_
  refine c_par 9 [] [.val (.agg (algC (p : Int) (n : Int) T f)), .val (.agg (algC (p : Int) (n : Int) T f)), .val (.agg (vecC v)), .val (.agg (vecC v)), .val (.tuple #[.slice none 0 0, .int .i64 (5)]), .val (.tuple #[.slice none 0 0, .int .i64 (5)]), .val (.slice none 0 0), .val (.int .i64 (5)), .val (.slice none 0 0)] hmix rfl hF rfl hM ⟨fun a w gG hF hS hd => by have hM := hS.mem rfl; exact par_val hS rfl (g_loadAgg ty_ag_26 hF rfl (hM.row 0 rfl) (by simp only [fnC_size, cells_size, vecC_size, tabC_size, planeC_size, mrk_size, rowI_size, cpC_size] <;> omega) (whole cells_size)), fun a w gG hF hS hd => by have hF := hF.ext1 22 (hd 0 rfl rfl); exact par_call (by repeat constructor) hS rfl (d_call Try.call16 hF (.cons rfl .nil) (toAlgebra_ok (p : Int) (n : Int) T f _)), fun a w gG hF hS hd => by have hM := hS.mem rfl; exact par_val hS rfl (g_loadAgg ty_ag_22 hF rfl (hM.row 1 rfl) (by simp only [fnC_size, cells_size, vecC_size, tabC_size, planeC_size, mrk_size, rowI_size, cpC_size] <;> omega) (whole (by simp only [fnC_size, cells_size, vecC_size, tabC_size, planeC_size, mrk_size, rowI_size, cpC_size]))), fun a w gG hF hS hd => by have hF := hF.ext1 24 (hd 2 rfl rfl); exact par_call (by repeat constructor) hS rfl (d_call Try.call31 hF (.cons rfl .nil) (toVector_ok v _)), fun a w gG hF hS hd => by have hF := hF.ext1 23 (hd 1 rfl rfl); have hF := hF.ext1 25 (hd 3 rfl rfl); exact par_call (by repeat constructor) hS rfl (d_call Try.call32 hF (.cons rfl (.cons rfl .nil)) (CoproductOfIF p n T f v _ hp hn0 hn hTp hT0 hf hv hfr hc)), fun a w gG hF hS hd => by have hF := hF.ext1 26 (hd 4 rfl rfl); exact par_val hS rfl (g_move hF rfl), fun a w gG hF hS hd => by have hF := hF.ext1 21 (hd 5 rfl rfl); exact par_val hS rfl (g_extract hF rfl rfl), fun a w gG hF hS hd => by have hF := hF.ext1 21 (hd 5 rfl rfl); exact par_val hS rfl (g_extract hF rfl rfl), fun a w gG hF hS hd => by have hF := hF.ext1 27 (hd 6 rfl rfl); exact par_val hS rfl (g_assign hF rfl), trivial⟩ ?_
  intro a w' L hF hS hq
  have hF := hF.ext1 22 (hq 0 rfl rfl)
  have hF := hF.ext1 23 (hq 1 rfl rfl)
  have hF := hF.ext1 24 (hq 2 rfl rfl)
  have hF := hF.ext1 25 (hq 3 rfl rfl)
  have hF := hF.ext1 26 (hq 4 rfl rfl)
  have hF := hF.ext1 21 (hq 5 rfl rfl)
  have hF := hF.ext1 27 (hq 6 rfl rfl)
  have hF := hF.ext1 28 (hq 7 rfl rfl)
  have hF := hF.ext1 7 (hq 8 rfl rfl)
  have hM := hS.mem rfl
  change wpList Try.prog _ _ [_] _ _
  refine st hF (g_assign hF rfl) rfl fun a hF => ?_
  refine wpList_nil ?_
  refine tN ?_
  refine sq ?_
  refine sq ?_
  refine wp_region_lit ?_
  refine st hF (g_move hF rfl) rfl fun a hF => st hF (g_move hF rfl) rfl fun a hF => ?_
  refine stR hF (d_call Try.call23 hF (.cons rfl (.cons rfl .nil)) (eqISS_0 _)) rfl ?_
  rintro _ w' a ⟨hx, rfl⟩ hF
  have hM := hM.ext hx
  refine st hF (g_not hF rfl) rfl fun a hF => st hF (g_move hF rfl) rfl fun a hF => stY hF rfl rfl rfl (g_move hF rfl) rfl fun a hF => stY hF rfl rfl rfl (g_move hF rfl) rfl fun a hF => stY hF rfl rfl rfl (g_neq hF rfl rfl) rfl fun a hF => st hF (g_pickF hF rfl rfl) rfl fun a hF => ?_
  refine wpList_nil ?_
  refine tN ?_
  refine c_kF hF rfl (by decide) ?_
  refine wp_skip ?_
  refine tN ?_
  refine sq ?_
  refine wp_region_lit ?_
  refine st hF (g_assign hF rfl) rfl fun a hF => ?_
  refine wpList_nil ?_
  refine tN ?_
  refine sq ?_
  refine wp_region_lit ?_
  refine st hF (g_move hF rfl) rfl fun a hF => st hF (g_move hF rfl) rfl fun a hF => ?_
  refine stR hF (d_call Try.call24 hF (.cons rfl (.cons rfl .nil)) (markISS_0 (1) _ (by omega))) rfl ?_
  rintro _ w' a ⟨hx, rfl⟩ hF
  have hM := hM.ext hx
  refine st hF (g_assign hF rfl) rfl fun a hF => ?_
  refine wpList_nil ?_
  refine tN ?_
  refine sq ?_
  refine wp_region_lit ?_
  refine st hF (g_assign hF rfl) rfl fun a hF => ?_
  refine wpList_nil ?_
  refine tN ?_
  refine sq ?_
  refine wp_region_lit ?_
  refine st hF (g_move hF rfl) rfl fun a hF => st hF (g_move hF rfl) rfl fun a hF => ?_
  refine stR hF (d_call Try.call25 hF (.cons rfl (.cons rfl .nil)) (heldISS_0 (1) _ (by omega))) rfl ?_
  rintro _ w' a ⟨hx, rfl⟩ hF
  have hM := hM.ext hx
  refine st hF (g_assign hF rfl) rfl fun a hF => ?_
  refine wpList_nil ?_
  refine tN ?_
  refine sq ?_
  refine sq ?_
  refine wp_region_lit ?_
  refine st hF (g_move hF rfl) rfl fun a hF => st hF (g_lss hF rfl rfl) rfl fun a hF => ?_
  refine wpList_nil ?_
  refine tN ?_
  refine c_cond hF rfl (fun h4 => ?_) (fun h4 => ?_)
  ·
    first | exact absurd rfl h4 | (exfalso; omega)
  ·
    refine wp_skip ?_
    refine tN ?_
    refine sq ?_
    refine sq ?_
    refine wp_region_lit ?_
    refine st hF (g_move hF rfl) rfl fun a hF => st hF (g_move hF rfl) rfl fun a hF => st hF (g_neq hF rfl rfl) rfl fun a hF => ?_
    refine wpList_nil ?_
    refine tN ?_
    refine c_kF hF rfl (by decide) ?_
    refine wp_skip ?_
    refine tN ?_
    refine sq ?_
    refine c_par 9 [] [.val (.agg (algC (p : Int) (n : Int) T f)), .val (.agg (algC (p : Int) (n : Int) T f)), .val (.agg (vecC v)), .val (.agg (vecC v)), .val (.tuple #[.slice none 0 0, .int .i64 (5)]), .val (.tuple #[.slice none 0 0, .int .i64 (5)]), .val (.slice none 0 0), .val (.int .i64 (5)), .val (.slice none 0 0)] hmix rfl hF rfl hM ⟨fun a w gG hF hS hd => by have hM := hS.mem rfl; exact par_val hS rfl (g_loadAgg ty_ag_26 hF rfl (hM.row 0 rfl) (by simp only [fnC_size, cells_size, vecC_size, tabC_size, planeC_size, mrk_size, rowI_size, cpC_size] <;> omega) (whole cells_size)), fun a w gG hF hS hd => by have hF := hF.ext1 50 (hd 0 rfl rfl); exact par_call (by repeat constructor) hS rfl (d_call Try.call16 hF (.cons rfl .nil) (toAlgebra_ok (p : Int) (n : Int) T f _)), fun a w gG hF hS hd => by have hM := hS.mem rfl; exact par_val hS rfl (g_loadAgg ty_ag_22 hF rfl (hM.row 1 rfl) (by simp only [fnC_size, cells_size, vecC_size, tabC_size, planeC_size, mrk_size, rowI_size, cpC_size] <;> omega) (whole (by simp only [fnC_size, cells_size, vecC_size, tabC_size, planeC_size, mrk_size, rowI_size, cpC_size]))), fun a w gG hF hS hd => by have hF := hF.ext1 52 (hd 2 rfl rfl); exact par_call (by repeat constructor) hS rfl (d_call Try.call31 hF (.cons rfl .nil) (toVector_ok v _)), fun a w gG hF hS hd => by have hF := hF.ext1 51 (hd 1 rfl rfl); have hF := hF.ext1 53 (hd 3 rfl rfl); exact par_call (by repeat constructor) hS rfl (d_call Try.call32 hF (.cons rfl (.cons rfl .nil)) (CoproductOfIF p n T f v _ hp hn0 hn hTp hT0 hf hv hfr hc)), fun a w gG hF hS hd => by have hF := hF.ext1 54 (hd 4 rfl rfl); exact par_val hS rfl (g_move hF rfl), fun a w gG hF hS hd => by have hF := hF.ext1 49 (hd 5 rfl rfl); exact par_val hS rfl (g_extract hF rfl rfl), fun a w gG hF hS hd => by have hF := hF.ext1 49 (hd 5 rfl rfl); exact par_val hS rfl (g_extract hF rfl rfl), fun a w gG hF hS hd => by have hF := hF.ext1 55 (hd 6 rfl rfl); exact par_val hS rfl (g_assign hF rfl), trivial⟩ ?_
    intro a w' L hF hS hq
    have hF := hF.ext1 50 (hq 0 rfl rfl)
    have hF := hF.ext1 51 (hq 1 rfl rfl)
    have hF := hF.ext1 52 (hq 2 rfl rfl)
    have hF := hF.ext1 53 (hq 3 rfl rfl)
    have hF := hF.ext1 54 (hq 4 rfl rfl)
    have hF := hF.ext1 49 (hq 5 rfl rfl)
    have hF := hF.ext1 55 (hq 6 rfl rfl)
    have hF := hF.ext1 56 (hq 7 rfl rfl)
    have hF := hF.ext1 11 (hq 8 rfl rfl)
    have hM := hS.mem rfl
    change wpList Try.prog _ _ [_] _ _
    refine st hF (g_assign hF rfl) rfl fun a hF => ?_
    refine wpList_nil ?_
    refine tN ?_
    refine sq ?_
    refine sq ?_
    refine wp_region_lit ?_
    refine st hF (g_move hF rfl) rfl fun a hF => st hF (g_move hF rfl) rfl fun a hF => ?_
    refine stR hF (d_call Try.call23 hF (.cons rfl (.cons rfl .nil)) (eqISS_0 _)) rfl ?_
    rintro _ w' a ⟨hx, rfl⟩ hF
    have hM := hM.ext hx
    refine st hF (g_not hF rfl) rfl fun a hF => st hF (g_move hF rfl) rfl fun a hF => stY hF rfl rfl rfl (g_move hF rfl) rfl fun a hF => stY hF rfl rfl rfl (g_move hF rfl) rfl fun a hF => stY hF rfl rfl rfl (g_neq hF rfl rfl) rfl fun a hF => st hF (g_pickF hF rfl rfl) rfl fun a hF => ?_
    refine wpList_nil ?_
    refine tN ?_
    refine c_kF hF rfl (by decide) ?_
    refine wp_skip ?_
    refine tN ?_
    refine sq ?_
    refine wp_region_lit ?_
    refine st hF (g_assign hF rfl) rfl fun a hF => ?_
    refine wpList_nil ?_
    refine tN ?_
    refine sq ?_
    refine wp_region_lit ?_
    refine st hF (g_move hF rfl) rfl fun a hF => st hF (g_move hF rfl) rfl fun a hF => ?_
    refine stR hF (d_call Try.call25 hF (.cons rfl (.cons rfl .nil)) (heldISS_0 (1) _ (by omega))) rfl ?_
    rintro _ w' a ⟨hx, rfl⟩ hF
    have hM := hM.ext hx
    refine st hF (g_assign hF rfl) rfl fun a hF => ?_
    refine wpList_nil ?_
    refine tN ?_
    refine sq ?_
    refine sq ?_
    refine wp_region_lit ?_
    refine st hF (g_move hF rfl) rfl fun a hF => st hF (g_lss hF rfl rfl) rfl fun a hF => ?_
    refine wpList_nil ?_
    refine tN ?_
    refine c_kF hF rfl h4 ?_
    refine wp_skip ?_
    refine tN ?_
    refine sq ?_
    refine sq ?_
    refine wp_region_lit ?_
    refine st hF (g_move hF rfl) rfl fun a hF => st hF (g_move hF rfl) rfl fun a hF => st hF (g_neq hF rfl rfl) rfl fun a hF => ?_
    refine wpList_nil ?_
    refine tN ?_
    refine c_kF hF rfl (by decide) ?_
    refine wp_skip ?_
    refine tN ?_
    refine sq ?_
    refine wp_region_lit ?_
    refine st hF (g_assign hF rfl) rfl fun a hF => ?_
    refine wpList_nil ?_
    refine tN ?_
    refine wp_ret ?_
    refine fin1 rfl hF.defers (res_tmp hF rfl) ⟨_, rfl, hM.below, ?_⟩
    show _ = _
    rfl

theorem law_CoproductOfY (p n : Nat) (T : Nat → Nat → Nat → Nat) (f : Nat → Nat) (v : Nat → Nat) (w : World) (hp : primeN p) (hn0 : 0 < n) (hn : n ≤ 6) (hTp : ∀ i j k, T i j k < p) (hT0 : ∀ i j k, n ≤ k → T i j k = 0) (hf : ∀ i, f i ≤ 255) (hv : ∀ i, v i ≤ 255) (hfr : FrobN p n T f) (G : Nat → Nat → Nat) (hG : IsCop p n (formM p n T f) G) (has : asS p n T) (hc : CodeP (p : Int) (n : Int) T f 1 (vAtL [v])) :
    CallsR Try.prog 7 #[.agg (algC (p : Int) (n : Int) T f), .agg (vecC v)] w (fun res _ => res = .bool true) := by
  refine calls_fr [.agg (algC (p : Int) (n : Int) T f), .agg (vecC v)] Try.func7 rfl Try.ntmps7 rfl fun a hF => ?_
  have hM : Mem w w [none, none] [] := MemX.start w 2
  change Fr 74 a [(0, .agg (algC (p : Int) (n : Int) T f)), (1, .agg (vecC v))] at hF
  have hp2 := hp.two
  have hp13 := hp.le
  have hT : ∀ i j k, T i j k ≤ 255 := fun i j k => by have := hTp i j k; omega
  have hnn := Nat.mul_le_mul hn hn
  refine sq ?_
  refine wp_region_lit ?_
  refine stR hF (d_box 0 hM hF rfl) rfl ?_
  rintro _ w' a ⟨b1, rfl, hM, -⟩ hF
  change Mem w w' [some (b1, algC (p : Int) (n : Int) T f), none] [] at hM
  refine stR hF (d_box 1 hM hF rfl) rfl ?_
  rintro _ w' a ⟨b2, rfl, hM, -⟩ hF
  change Mem w w' [some (b1, algC (p : Int) (n : Int) T f), some (b2, vecC v)] [] at hM
  refine st hF (g_assign hF rfl) rfl fun a hF => ?_
  refine wpList_nil ?_
  refine tN ?_
  refine sq ?_
  refine c_par 10 [] [.val (.agg (algC (p : Int) (n : Int) T f)), .val (.agg (algC (p : Int) (n : Int) T f)), .val (.agg (vecC v)), .val (.agg (vecC v)), .rel (TupR (RowsFr w [some (b1, algC (p : Int) (n : Int) T f), some (b2, vecC v)] n n (fun i c => .int .i64 (((cpS p n T G v n) i c : Nat) : Int)))), .rel (TupR (RowsFr w [some (b1, algC (p : Int) (n : Int) T f), some (b2, vecC v)] n n (fun i c => .int .i64 (((cpS p n T G v n) i c : Nat) : Int)))), .rel (RowsFr w [some (b1, algC (p : Int) (n : Int) T f), some (b2, vecC v)] n n (fun i c => .int .i64 (((cpS p n T G v n) i c : Nat) : Int))), .val (.int .i64 (0)), .rel (RowsFr w [some (b1, algC (p : Int) (n : Int) T f), some (b2, vecC v)] n n (fun i c => .int .i64 (((cpS p n T G v n) i c : Nat) : Int))), .val (.int .i64 (0))] hmix rfl hF rfl hM ⟨fun a w g hF hS hd => by have hM := hS.mem rfl; exact par_val hS rfl (g_loadAgg ty_ag_26 hF rfl (hM.row 0 rfl) (by simp only [fnC_size, cells_size, vecC_size, tabC_size, planeC_size, mrk_size, rowI_size, cpC_size] <;> omega) (whole cells_size)), fun a w g hF hS hd => by have hF := hF.ext1 14 (hd 0 rfl rfl); have hM := hS.mem rfl; exact par_call (by exact ⟨fun _ _ _ h hx => h.elim fun l hl => ⟨l, hl.1, hl.2.last hx⟩, fun _ _ _ h hx => h.elim fun l hl => ⟨l, hl.1, hl.2.last hx⟩, fun _ _ _ h hx => h.last hx, fun _ _ _ h hx => h.last hx, trivial⟩) hS rfl (d_call Try.call16 hF (.cons rfl .nil) (toAlgebra_ok (p : Int) (n : Int) T f _)), fun a w g hF hS hd => by have hM := hS.mem rfl; exact par_val hS rfl (g_loadAgg ty_ag_22 hF rfl (hM.row 1 rfl) (by simp only [fnC_size, cells_size, vecC_size, tabC_size, planeC_size, mrk_size, rowI_size, cpC_size] <;> omega) (whole (by simp only [fnC_size, cells_size, vecC_size, tabC_size, planeC_size, mrk_size, rowI_size, cpC_size]))), fun a w g hF hS hd => by have hF := hF.ext1 16 (hd 2 rfl rfl); have hM := hS.mem rfl; exact par_call (by exact ⟨fun _ _ _ h hx => h.elim fun l hl => ⟨l, hl.1, hl.2.last hx⟩, fun _ _ _ h hx => h.elim fun l hl => ⟨l, hl.1, hl.2.last hx⟩, fun _ _ _ h hx => h.last hx, fun _ _ _ h hx => h.last hx, trivial⟩) hS rfl (d_call Try.call31 hF (.cons rfl .nil) (toVector_ok v _)), fun a w g hF hS hd => by have hF := hF.ext1 15 (hd 1 rfl rfl); have hF := hF.ext1 17 (hd 3 rfl rfl); have hM := hS.mem rfl; exact par_rel (by exact ⟨fun _ _ _ h hx => h.elim fun l hl => ⟨l, hl.1, hl.2.last hx⟩, fun _ _ _ h hx => h.elim fun l hl => ⟨l, hl.1, hl.2.last hx⟩, fun _ _ _ h hx => h.last hx, fun _ _ _ h hx => h.last hx, trivial⟩) hS rfl (d_call Try.call30 hF (.cons rfl (.cons rfl .nil)) (CoproductOfSY p n T f v _ hp hn0 hn hTp hT0 hf hv hfr G hG has hc)) (fun _ _ h => h.elim fun l hl => ⟨l, hl.1, TabOut.freshR hM hl.2⟩), fun a w g hF hS hd => by obtain ⟨l, e, hl⟩ := (hd 4 rfl rfl : TupR _ _ _); have hF := hF.ext1 18 e; exact par_relG hS rfl (g_move hF rfl) ⟨l, rfl, hl⟩, fun a w g hF hS hd => by obtain ⟨l, e, hl⟩ := (hd 5 rfl rfl : TupR _ _ _); have hF := hF.ext1 13 e; exact par_relG hS rfl (g_extract hF rfl rfl) hl, fun a w g hF hS hd => by obtain ⟨l, e, hl⟩ := (hd 5 rfl rfl : TupR _ _ _); have hF := hF.ext1 13 e; exact par_val hS rfl (g_extract hF rfl rfl), fun a w g hF hS hd => by obtain ⟨D9, β9, κ9, C9, b9, cap9, cs9, k1, k2, k3, k4⟩ := (hd 6 rfl rfl : RowsFr _ _ _ _ _ _ _); have e7 := k3.val; rw [e7] at k3; have hF := hF.ext1 19 e7; exact par_relG hS rfl (g_assign hF rfl) ⟨D9, β9, κ9, C9, b9, cap9, cs9, k1, k2, k3, k4⟩, fun a w g hF hS hd => by have hF := hF.ext1 20 (hd 7 rfl rfl); exact par_val hS rfl (g_assign hF rfl), trivial⟩ ?_
  intro a w' L hF hS hq
  have hM := hS.mem rfl
  have hF := hF.ext1 6 (hq 9 rfl rfl)
  have hr := (hq 8 rfl rfl : RowsFr w [some (b1, algC (p : Int) (n : Int) T f), some (b2, vecC v)] n n (fun i c => .int .i64 (((cpS p n T G v n) i c : Nat) : Int)) _ _)
  obtain ⟨u9, hu9⟩ : ∃ u, u = a.tmps.getD 5 undef := ⟨_, rfl⟩
  have hF := hF.ext1 5 hu9.symm
  change (RowsFr w [some (b1, algC (p : Int) (n : Int) T f), some (b2, vecC v)] n n (fun i c => .int .i64 (((cpS p n T G v n) i c : Nat) : Int))) (a.tmps.getD 5 undef) w' at hr
  rw [← hu9] at hr
  clear hu9
  obtain ⟨DW, βW, κW, CW, bW, cW, csW, hRW, hsW, hmW, -, -, hM⟩ := hM.addR hr
  obtain rfl := hsW.val
  change Mem w w' [some (b1, algC (p : Int) (n : Int) T f), some (b2, vecC v)] (DW ++ []) at hM
  change wpList Try.prog _ _ [] _ _
  refine wpList_nil ?_
  refine tN ?_
  refine sq ?_
  refine c_par 10 [] [.val (.agg (algC (p : Int) (n : Int) T f)), .val (.agg (algC (p : Int) (n : Int) T f)), .val (.agg (vecC v)), .val (.agg (vecC v)), .rel (TupR (TabIF w [some (b1, algC (p : Int) (n : Int) T f), some (b2, vecC v)] (DW ++ []) n (cpI p n T G v))), .rel (TupR (TabIF w [some (b1, algC (p : Int) (n : Int) T f), some (b2, vecC v)] (DW ++ []) n (cpI p n T G v))), .rel (TabIF w [some (b1, algC (p : Int) (n : Int) T f), some (b2, vecC v)] (DW ++ []) n (cpI p n T G v)), .val (.int .i64 (0)), .rel (TabIF w [some (b1, algC (p : Int) (n : Int) T f), some (b2, vecC v)] (DW ++ []) n (cpI p n T G v)), .val (.int .i64 (0))] hmix rfl hF rfl hM ⟨fun a w g hF hS hd => by have hM := hS.mem rfl; exact par_val hS rfl (g_loadAgg ty_ag_26 hF rfl (hM.row 0 rfl) (by simp only [fnC_size, cells_size, vecC_size, tabC_size, planeC_size, mrk_size, rowI_size, cpC_size] <;> omega) (whole cells_size)), fun a w g hF hS hd => by have hF := hF.ext1 22 (hd 0 rfl rfl); have hM := hS.mem rfl; exact par_call (by exact ⟨fun _ _ _ h hx => h.elim fun l hl => ⟨l, hl.1, hl.2.last hx⟩, fun _ _ _ h hx => h.elim fun l hl => ⟨l, hl.1, hl.2.last hx⟩, fun _ _ _ h hx => h.last hx, fun _ _ _ h hx => h.last hx, trivial⟩) hS rfl (d_call Try.call16 hF (.cons rfl .nil) (toAlgebra_ok (p : Int) (n : Int) T f _)), fun a w g hF hS hd => by have hM := hS.mem rfl; exact par_val hS rfl (g_loadAgg ty_ag_22 hF rfl (hM.row 1 rfl) (by simp only [fnC_size, cells_size, vecC_size, tabC_size, planeC_size, mrk_size, rowI_size, cpC_size] <;> omega) (whole (by simp only [fnC_size, cells_size, vecC_size, tabC_size, planeC_size, mrk_size, rowI_size, cpC_size]))), fun a w g hF hS hd => by have hF := hF.ext1 24 (hd 2 rfl rfl); have hM := hS.mem rfl; exact par_call (by exact ⟨fun _ _ _ h hx => h.elim fun l hl => ⟨l, hl.1, hl.2.last hx⟩, fun _ _ _ h hx => h.elim fun l hl => ⟨l, hl.1, hl.2.last hx⟩, fun _ _ _ h hx => h.last hx, fun _ _ _ h hx => h.last hx, trivial⟩) hS rfl (d_call Try.call31 hF (.cons rfl .nil) (toVector_ok v _)), fun a w g hF hS hd => by have hF := hF.ext1 23 (hd 1 rfl rfl); have hF := hF.ext1 25 (hd 3 rfl rfl); have hM := hS.mem rfl; exact par_rel (by exact ⟨fun _ _ _ h hx => h.elim fun l hl => ⟨l, hl.1, hl.2.last hx⟩, fun _ _ _ h hx => h.elim fun l hl => ⟨l, hl.1, hl.2.last hx⟩, fun _ _ _ h hx => h.last hx, fun _ _ _ h hx => h.last hx, trivial⟩) hS rfl (d_call Try.call32 hF (.cons rfl (.cons rfl .nil)) (CoproductOfIY p n T f v _ hp hn0 hn hTp hT0 hf hv hfr G hG has hc)) (fun _ _ h => h.elim fun l hl => ⟨l, hl.1, TabI.freshI hM hl.2⟩), fun a w g hF hS hd => by obtain ⟨l, e, hl⟩ := (hd 4 rfl rfl : TupR _ _ _); have hF := hF.ext1 26 e; exact par_relG hS rfl (g_move hF rfl) ⟨l, rfl, hl⟩, fun a w g hF hS hd => by obtain ⟨l, e, hl⟩ := (hd 5 rfl rfl : TupR _ _ _); have hF := hF.ext1 21 e; exact par_relG hS rfl (g_extract hF rfl rfl) hl, fun a w g hF hS hd => by obtain ⟨l, e, hl⟩ := (hd 5 rfl rfl : TupR _ _ _); have hF := hF.ext1 21 e; exact par_val hS rfl (g_extract hF rfl rfl), fun a w g hF hS hd => by obtain ⟨D9, β9, b9, cs9, k1, k2, k3, k4⟩ := (hd 6 rfl rfl : TabIF _ _ _ _ _ _ _); have hF := hF.ext1 27 k3; exact par_relG hS rfl (g_assign hF rfl) ⟨D9, β9, b9, cs9, k1, k2, rfl, k4⟩, fun a w g hF hS hd => by have hF := hF.ext1 28 (hd 7 rfl rfl); exact par_val hS rfl (g_assign hF rfl), trivial⟩ ?_
  intro a w' L hF hS hq
  have hM := hS.mem rfl
  have hF := hF.ext1 8 (hq 9 rfl rfl)
  have hr := (hq 8 rfl rfl : TabIF w [some (b1, algC (p : Int) (n : Int) T f), some (b2, vecC v)] (DW ++ []) n (cpI p n T G v) _ _)
  obtain ⟨u9, hu9⟩ : ∃ u, u = a.tmps.getD 7 undef := ⟨_, rfl⟩
  have hF := hF.ext1 7 hu9.symm
  change (TabIF w [some (b1, algC (p : Int) (n : Int) T f), some (b2, vecC v)] (DW ++ []) n (cpI p n T G v)) (a.tmps.getD 7 undef) w' at hr
  rw [← hu9] at hr
  clear hu9
  obtain ⟨DG, βG, bG, csG, hCG, rfl, hgG, hmG, hneG, hgeG, hsepG, hM⟩ := hM.addTabF hr
  have hR0 := hRW
  have hm0 := hmW
  have hRW := hRW.more (fun x hx => List.mem_append_right DG hx)
  have hmW := List.mem_append_right DG hmW
  have hCG := hCG.more (fun x hx => List.mem_append_left ((DW ++ [])) hx)
  have hmG := List.mem_append_left ((DW ++ [])) hmG
  change Mem w w' [some (b1, algC (p : Int) (n : Int) T f), some (b2, vecC v)] (DG ++ (DW ++ [])) at hM
  change wpList Try.prog _ _ [] _ _
  refine wpList_nil ?_
  refine tN ?_
  refine sq ?_
  refine sq ?_
  refine wp_region_lit ?_
  refine st hF (g_move hF rfl) rfl fun a hF => st hF (g_move hF rfl) rfl fun a hF => ?_
  refine stR hF (d_call Try.call23 hF (.cons rfl (.cons rfl .nil)) (eqISS_ok n bG n bW cW csG csW (DG ++ (DW ++ [])) βG (fun _ => n) βW κW (fun i => rowI n ((cpI p n T G v) i)) CW (cpI p n T G v) (cpS p n T G v n) _ (by omega) (fun _ _ hm => hM.fzm hm) (hCG.rowsD (by omega)) hmG hgG hRW hmW hsW.get1 (fun i hi c hc => cp_eq hp hn hT0 (AssI_of hn has) hfr hG hi hc))) rfl ?_
  rintro _ w' a ⟨hx, rfl⟩ hF
  have hM := hM.ext hx
  refine st hF (g_not hF rfl) rfl fun a hF => st hF (g_move hF rfl) rfl fun a hF => stY hF rfl rfl rfl (g_move hF rfl) rfl fun a hF => stY hF rfl rfl rfl (g_move hF rfl) rfl fun a hF => stY hF rfl rfl rfl (g_neq hF rfl rfl) rfl fun a hF => st hF (g_pickF hF rfl rfl) rfl fun a hF => ?_
  refine wpList_nil ?_
  refine tN ?_
  refine c_kF hF rfl (by decide) ?_
  refine wp_skip ?_
  refine tN ?_
  refine sq ?_
  refine wp_region_lit ?_
  refine st hF (g_assign hF rfl) rfl fun a hF => ?_
  refine wpList_nil ?_
  refine tN ?_
  refine sq ?_
  refine wp_region_lit ?_
  refine st hF (g_move hF rfl) rfl fun a hF => st hF (g_move hF rfl) rfl fun a hF => ?_
  refine stR hF (d_callX Try.call24 hF (.cons rfl (.cons rfl .nil)) (markISS_ok n bG (1) csG (DG ++ (DW ++ [])) βG (cpI p n T G v) _ (by omega) (by omega) (fun _ _ hm => hM.fzm hm) hCG hmG hgG hneG)) rfl ?_
  rintro _ w' a ⟨hx, rfl, hbk⟩ hF
  obtain ⟨DM, hM, hDM, hCM⟩ := hM.marked hCG hgeG hx hbk
  have hmG := hDM _ hmG (fun i hi e => hneG i hi e.symm)
  have hmW := hDM _ hmW (fun i hi => hsepG i hi _ hm0)
  have hRW : RowsD DM n n βW κW CW (fun i c => .int .i64 (((cpS p n T G v n) i c : Nat) : Int)) := ⟨fun i hi => hDM _ (hRW.mem i hi) (fun j hj => hsepG j hj _ (hR0.mem i hi)), hRW.sl⟩
  have hCG := hCM
  change Mem w w' [some (b1, algC (p : Int) (n : Int) T f), some (b2, vecC v)] DM at hM
  refine st hF (g_assign hF rfl) rfl fun a hF => ?_
  refine wpList_nil ?_
  refine tN ?_
  refine sq ?_
  refine wp_region_lit ?_
  refine st hF (g_assign hF rfl) rfl fun a hF => ?_
  refine wpList_nil ?_
  refine tN ?_
  refine sq ?_
  refine wp_region_lit ?_
  refine st hF (g_move hF rfl) rfl fun a hF => st hF (g_move hF rfl) rfl fun a hF => ?_
  refine stR hF (d_call Try.call25 hF (.cons rfl (.cons rfl .nil)) (heldISS_ok n bG (1) csG DM βG _ (by omega) (by omega) (fun _ _ hm => hM.fzm hm) hCG hmG hgG)) rfl ?_
  rintro _ w' a ⟨hx, rfl⟩ hF
  have hM := hM.ext hx
  refine st hF (g_assign hF rfl) rfl fun a hF => ?_
  refine wpList_nil ?_
  refine tN ?_
  refine sq ?_
  refine sq ?_
  refine wp_region_lit ?_
  refine st hF (g_move hF rfl) rfl fun a hF => st hF (g_lss hF rfl rfl) rfl fun a hF => ?_
  refine wpList_nil ?_
  refine tN ?_
  refine c_cond hF rfl (fun h4 => ?_) (fun h4 => ?_)
  ·
    first | exact absurd rfl h4 | (exfalso; omega)
  ·
    refine wp_skip ?_
    refine tN ?_
    refine sq ?_
    refine sq ?_
    refine wp_region_lit ?_
    refine st hF (g_move hF rfl) rfl fun a hF => st hF (g_move hF rfl) rfl fun a hF => st hF (g_neq hF rfl rfl) rfl fun a hF => ?_
    refine wpList_nil ?_
    refine tN ?_
    refine c_cond hF rfl (fun h5 => ?_) (fun h5 => ?_)
    ·
      first | exact absurd rfl h5 | (exfalso; omega)
    ·
      refine wp_skip ?_
      refine tN ?_
      refine sq ?_
      refine c_par 10 [] [.val (.agg (algC (p : Int) (n : Int) T f)), .val (.agg (algC (p : Int) (n : Int) T f)), .val (.agg (vecC v)), .val (.agg (vecC v)), .rel (TupR (TabIF w [some (b1, algC (p : Int) (n : Int) T f), some (b2, vecC v)] DM n (cpI p n T G v))), .rel (TupR (TabIF w [some (b1, algC (p : Int) (n : Int) T f), some (b2, vecC v)] DM n (cpI p n T G v))), .rel (TabIF w [some (b1, algC (p : Int) (n : Int) T f), some (b2, vecC v)] DM n (cpI p n T G v)), .val (.int .i64 (0)), .rel (TabIF w [some (b1, algC (p : Int) (n : Int) T f), some (b2, vecC v)] DM n (cpI p n T G v)), .val (.int .i64 (0))] hmix rfl hF rfl hM ⟨fun a w g hF hS hd => by have hM := hS.mem rfl; exact par_val hS rfl (g_loadAgg ty_ag_26 hF rfl (hM.row 0 rfl) (by simp only [fnC_size, cells_size, vecC_size, tabC_size, planeC_size, mrk_size, rowI_size, cpC_size] <;> omega) (whole cells_size)), fun a w g hF hS hd => by have hF := hF.ext1 50 (hd 0 rfl rfl); have hM := hS.mem rfl; exact par_call (by exact ⟨fun _ _ _ h hx => h.elim fun l hl => ⟨l, hl.1, hl.2.last hx⟩, fun _ _ _ h hx => h.elim fun l hl => ⟨l, hl.1, hl.2.last hx⟩, fun _ _ _ h hx => h.last hx, fun _ _ _ h hx => h.last hx, trivial⟩) hS rfl (d_call Try.call16 hF (.cons rfl .nil) (toAlgebra_ok (p : Int) (n : Int) T f _)), fun a w g hF hS hd => by have hM := hS.mem rfl; exact par_val hS rfl (g_loadAgg ty_ag_22 hF rfl (hM.row 1 rfl) (by simp only [fnC_size, cells_size, vecC_size, tabC_size, planeC_size, mrk_size, rowI_size, cpC_size] <;> omega) (whole (by simp only [fnC_size, cells_size, vecC_size, tabC_size, planeC_size, mrk_size, rowI_size, cpC_size]))), fun a w g hF hS hd => by have hF := hF.ext1 52 (hd 2 rfl rfl); have hM := hS.mem rfl; exact par_call (by exact ⟨fun _ _ _ h hx => h.elim fun l hl => ⟨l, hl.1, hl.2.last hx⟩, fun _ _ _ h hx => h.elim fun l hl => ⟨l, hl.1, hl.2.last hx⟩, fun _ _ _ h hx => h.last hx, fun _ _ _ h hx => h.last hx, trivial⟩) hS rfl (d_call Try.call31 hF (.cons rfl .nil) (toVector_ok v _)), fun a w g hF hS hd => by have hF := hF.ext1 51 (hd 1 rfl rfl); have hF := hF.ext1 53 (hd 3 rfl rfl); have hM := hS.mem rfl; exact par_rel (by exact ⟨fun _ _ _ h hx => h.elim fun l hl => ⟨l, hl.1, hl.2.last hx⟩, fun _ _ _ h hx => h.elim fun l hl => ⟨l, hl.1, hl.2.last hx⟩, fun _ _ _ h hx => h.last hx, fun _ _ _ h hx => h.last hx, trivial⟩) hS rfl (d_call Try.call32 hF (.cons rfl (.cons rfl .nil)) (CoproductOfIY p n T f v _ hp hn0 hn hTp hT0 hf hv hfr G hG has hc)) (fun _ _ h => h.elim fun l hl => ⟨l, hl.1, TabI.freshI hM hl.2⟩), fun a w g hF hS hd => by obtain ⟨l, e, hl⟩ := (hd 4 rfl rfl : TupR _ _ _); have hF := hF.ext1 54 e; exact par_relG hS rfl (g_move hF rfl) ⟨l, rfl, hl⟩, fun a w g hF hS hd => by obtain ⟨l, e, hl⟩ := (hd 5 rfl rfl : TupR _ _ _); have hF := hF.ext1 49 e; exact par_relG hS rfl (g_extract hF rfl rfl) hl, fun a w g hF hS hd => by obtain ⟨l, e, hl⟩ := (hd 5 rfl rfl : TupR _ _ _); have hF := hF.ext1 49 e; exact par_val hS rfl (g_extract hF rfl rfl), fun a w g hF hS hd => by obtain ⟨D9, β9, b9, cs9, k1, k2, k3, k4⟩ := (hd 6 rfl rfl : TabIF _ _ _ _ _ _ _); have hF := hF.ext1 55 k3; exact par_relG hS rfl (g_assign hF rfl) ⟨D9, β9, b9, cs9, k1, k2, rfl, k4⟩, fun a w g hF hS hd => by have hF := hF.ext1 56 (hd 7 rfl rfl); exact par_val hS rfl (g_assign hF rfl), trivial⟩ ?_
      intro a w' L hF hS hq
      have hM := hS.mem rfl
      have hF := hF.ext1 12 (hq 9 rfl rfl)
      have hr := (hq 8 rfl rfl : TabIF w [some (b1, algC (p : Int) (n : Int) T f), some (b2, vecC v)] DM n (cpI p n T G v) _ _)
      obtain ⟨u9, hu9⟩ : ∃ u, u = a.tmps.getD 11 undef := ⟨_, rfl⟩
      have hF := hF.ext1 11 hu9.symm
      change (TabIF w [some (b1, algC (p : Int) (n : Int) T f), some (b2, vecC v)] DM n (cpI p n T G v)) (a.tmps.getD 11 undef) w' at hr
      rw [← hu9] at hr
      clear hu9
      obtain ⟨DH, βH, bH, csH, hCH, rfl, hgH, hmH, hneH, hgeH, hsepH, hM⟩ := hM.addTabF hr
      have hRW := hRW.more (fun x hx => List.mem_append_right DH hx)
      have hmW := List.mem_append_right DH hmW
      have hCG := hCG.more (fun x hx => List.mem_append_right DH hx)
      have hmG := List.mem_append_right DH hmG
      have hCH := hCH.more (fun x hx => List.mem_append_left (DM) hx)
      have hmH := List.mem_append_left (DM) hmH
      change Mem w w' [some (b1, algC (p : Int) (n : Int) T f), some (b2, vecC v)] (DH ++ DM) at hM
      change wpList Try.prog _ _ [] _ _
      refine wpList_nil ?_
      refine tN ?_
      refine sq ?_
      refine sq ?_
      refine wp_region_lit ?_
      refine st hF (g_move hF rfl) rfl fun a hF => st hF (g_move hF rfl) rfl fun a hF => ?_
      refine stR hF (d_call Try.call23 hF (.cons rfl (.cons rfl .nil)) (eqISS_ok n bH n bW cW csH csW (DH ++ DM) βH (fun _ => n) βW κW (fun i => rowI n ((cpI p n T G v) i)) CW (cpI p n T G v) (cpS p n T G v n) _ (by omega) (fun _ _ hm => hM.fzm hm) (hCH.rowsD (by omega)) hmH hgH hRW hmW hsW.get1 (fun i hi c hc => cp_eq hp hn hT0 (AssI_of hn has) hfr hG hi hc))) rfl ?_
      rintro _ w' a ⟨hx, rfl⟩ hF
      have hM := hM.ext hx
      refine st hF (g_not hF rfl) rfl fun a hF => st hF (g_move hF rfl) rfl fun a hF => stY hF rfl rfl rfl (g_move hF rfl) rfl fun a hF => stY hF rfl rfl rfl (g_move hF rfl) rfl fun a hF => stY hF rfl rfl rfl (g_neq hF rfl rfl) rfl fun a hF => st hF (g_pickF hF rfl rfl) rfl fun a hF => ?_
      refine wpList_nil ?_
      refine tN ?_
      refine c_kF hF rfl (by decide) ?_
      refine wp_skip ?_
      refine tN ?_
      refine sq ?_
      refine wp_region_lit ?_
      refine st hF (g_assign hF rfl) rfl fun a hF => ?_
      refine wpList_nil ?_
      refine tN ?_
      refine sq ?_
      refine wp_region_lit ?_
      refine st hF (g_move hF rfl) rfl fun a hF => st hF (g_move hF rfl) rfl fun a hF => ?_
      refine stR hF (d_call Try.call25 hF (.cons rfl (.cons rfl .nil)) (heldISS_ok n bG (1) csG (DH ++ DM) βG _ (by omega) (by omega) (fun _ _ hm => hM.fzm hm) hCG hmG hgG)) rfl ?_
      rintro _ w' a ⟨hx, rfl⟩ hF
      have hM := hM.ext hx
      refine st hF (g_assign hF rfl) rfl fun a hF => ?_
      refine wpList_nil ?_
      refine tN ?_
      refine sq ?_
      refine sq ?_
      refine wp_region_lit ?_
      refine st hF (g_move hF rfl) rfl fun a hF => st hF (g_lss hF rfl rfl) rfl fun a hF => ?_
      refine wpList_nil ?_
      refine tN ?_
      refine c_kF hF rfl h4 ?_
      refine wp_skip ?_
      refine tN ?_
      refine sq ?_
      refine sq ?_
      refine wp_region_lit ?_
      refine st hF (g_move hF rfl) rfl fun a hF => st hF (g_move hF rfl) rfl fun a hF => st hF (g_neq hF rfl rfl) rfl fun a hF => ?_
      refine wpList_nil ?_
      refine tN ?_
      refine c_kF hF rfl h5 ?_
      refine wp_skip ?_
      refine tN ?_
      refine sq ?_
      refine wp_region_lit ?_
      refine st hF (g_assign hF rfl) rfl fun a hF => ?_
      refine wpList_nil ?_
      refine tN ?_
      refine wp_ret ?_
      refine fin1 rfl hF.defers (res_tmp hF rfl) ⟨_, rfl, hM.below, ?_⟩
      show _ = _
      rfl

theorem law_CoproductOf (p n : Int) (T : Nat → Nat → Nat → Nat) (f : Nat → Nat) (v : Nat → Nat) (w : World) (hT : ∀ i j k, T i j k ≤ 255) (hf : ∀ i, f i ≤ 255) (hv : ∀ i, v i ≤ 255) : CallsV Try.prog 7 #[.agg (algC p n T f), .agg (vecC v)] w (.bool true) := by
  by_cases hc : CodeP p n T f 1 (vAtL [v])
  · have hs := hc.1.1
    have hp0 := primeP_pos hs.1
    have hn := hs.2.1
    have e1 : ((p.toNat : Nat) : Int) = p := by omega
    have e2 : ((n.toNat : Nat) : Int) = n := by omega
    have has := hc.1.2.1
    obtain ⟨uu, huu⟩ := hc.1.2.2
    have hc2 : CodeP ((p.toNat : Nat) : Int) ((n.toNat : Nat) : Int) (trunc n.toNat T) f 1 (vAtL [v]) := by rw [e1, e2]; exact code_trunc hc
    by_cases hfr : FrobN p.toNat n.toNat (trunc n.toNat T) f
    · obtain ⟨G, hG⟩ := cop_exists (F := formM p.toNat n.toNat (trunc n.toNat T) f) (primeN_of hs.1) (by omega) (by omega) (fun i c h => formM_out h) (formM_lt (by omega)) hfr
      have h := law_CoproductOfY p.toNat n.toNat (trunc n.toNat T) f v w (primeN_of hs.1) (by omega) (by omega) (trunc_lt hs) trunc_out hf hv hfr G hG has hc2
      rw [e1, e2, ← algC_trunc hs] at h
      exact h
    · have h := law_CoproductOfF p.toNat n.toNat (trunc n.toNat T) f v w (primeN_of hs.1) (by omega) (by omega) (trunc_lt hs) trunc_out hf hv hfr hc2
      rw [e1, e2, ← algC_trunc hs] at h
      exact h
  · exact law_CoproductOfA p n T f v w hT hf hv hc

end Go.Proofs.Ytggdbbjmdbkpcaa
