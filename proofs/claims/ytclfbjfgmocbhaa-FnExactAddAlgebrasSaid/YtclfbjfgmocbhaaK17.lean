/- What functions of the program return, as walks over their operations; no statement of the seat is proved here. -/
import Derived.Test.YtclfbjfgmocbhaaK15
set_option linter.unusedVariables false
set_option linter.unusedSimpArgs false
namespace Go.Proofs.Ytclfbjfgmocbhaa
open Go Go.RowKit Go.Sw Go.Ech
open Classical
theorem ty_bsg_27_1 : ∀ (v0 : Nat → Nat) (w : World), (Instr.buildSlice 27 1 #[(0, .agg (vecC v0))]).run Try.prog w = .ok (.slice (some ⟨w.heap.size, 0, none⟩) 1 1) (w.alloc (.cells (vecsC 1 (vAtL [v0])) 30)) := by intros; kernel_rfl
theorem ty_ag_26 : aggP Try.prog 26 = some 224 := by kernel_rfl
theorem ty_ub_4 : Try.prog.underlying 4 = some .bool := by kernel_rfl
theorem IsInvertibleSA (p n : Int) (T : Nat → Nat → Nat → Nat) (f : Nat → Nat) (v : Nat → Nat) (w : World) (hT : ∀ i j k, T i j k ≤ 255) (hf : ∀ i, f i ≤ 255) (hv : ∀ i, v i ≤ 255) (hc : ¬ CodeP p n T f 1 (vAtL [v])) :
    CallsR Try.prog 52 #[.agg (algC p n T f), .agg (vecC v)] w (fun res _ => res = .tuple #[.bool false, .int .i64 1]) := by
  refine calls_fr [.agg (algC p n T f), .agg (vecC v)] Try.func52 rfl Try.ntmps52 rfl fun a hF => ?_
  have hM : Mem w w [none, none, none, none] [] := MemX.start w 4
  change Fr 23 a [(0, .agg (algC p n T f)), (1, .agg (vecC v))] at hF
  have hVb : ∀ i c, vAtL [v] i c ≤ 255 := vAtL_le (fun x hx => by simp at hx; subst hx <;> assumption)
  refine sq ?_
  refine wp_region_lit ?_
  refine stR hF (d_box 0 hM hF rfl) rfl ?_
  rintro _ w' a ⟨b1, rfl, hM, -⟩ hF
  change Mem w w' [some (b1, algC p n T f), none, none, none] [] at hM
  refine stR hF (d_box 1 hM hF rfl) rfl ?_
  rintro _ w' a ⟨b2, rfl, hM, -⟩ hF
  change Mem w w' [some (b1, algC p n T f), some (b2, vecC v), none, none] [] at hM
  refine st hF (g_assign hF rfl) rfl fun a hF => st hF (g_assign hF rfl) rfl fun a hF => ?_
  refine wpList_nil ?_
  refine tN ?_
  refine sq ?_
  refine sq ?_
  refine wp_region_lit ?_
  refine st hF (g_loadAgg ty_ag_32 hF rfl (hM.row 0 rfl) (by simp only [fnC_size, cells_size, vecC_size, tabC_size, planeC_size] <;> omega) (whole cells_size)) rfl fun a hF => st hF (g_loadAgg ty_ag_30 hF rfl (hM.row 1 rfl) (by simp only [fnC_size, cells_size, vecC_size, tabC_size, planeC_size] <;> omega) (whole (by simp only [fnC_size, cells_size, vecC_size, tabC_size, planeC_size]))) rfl fun a hF => ?_
  refine stR hF (d_buildC (vs := [(0, .agg (vecC v))]) 2 hM hF (build1 hF rfl) (fun w => ty_bsg_27_1 v w)) rfl ?_
  rintro _ w' a ⟨b3, rfl, hM, -⟩ hF
  change Mem w w' [some (b1, algC p n T f), some (b2, vecC v), some (b3, vecsC 1 (vAtL [v])), none] [] at hM
  refine stR hF (d_call Try.call54 hF (.cons rfl (.cons rfl .nil)) ((CallsR.val (l01Code_ok p n T f b3 1 1 (vAtL [v]) _ (fun _ _ _ => hT _ _ _) (fun _ => hf _) hVb (by omega) (hM.row 2 rfl)) (congrArg (Value.int .i64) (if_neg hc))))) rfl ?_
  rintro _ w' a ⟨hx, rfl⟩ hF
  have hM := hM.ext hx
  refine st hF (g_assign hF rfl) rfl fun a hF => ?_
  refine wpList_nil ?_
  refine tN ?_
  refine sq ?_
  refine wp_region_lit ?_
  refine st hF (g_move hF rfl) rfl fun a hF => st hF (g_neq hF rfl rfl) rfl fun a hF => ?_
  refine wpList_nil ?_
  refine tN ?_
  refine c_kT hF rfl (by decide) ?_
  refine sq ?_
  refine wp_region_lit ?_
  refine st hF (g_move hF rfl) rfl fun a hF => st hF (g_assign hF rfl) rfl fun a hF => st hF (g_assign hF rfl) rfl fun a hF => ?_
  refine wpList_nil ?_
  refine tN ?_
  refine wp_ret ?_
  refine tR ?_
  refine fin2 rfl hF.defers (res_tmp hF rfl) (res_tmp hF rfl) ⟨_, rfl, hM.below, ?_⟩
  show _ = _
  rfl

theorem IsInvertibleSY (p n : Nat) (T : Nat → Nat → Nat → Nat) (f : Nat → Nat) (v : Nat → Nat) (w : World) (hp : primeN p) (hn0 : 0 < n) (hn : n ≤ 6) (hTp : ∀ i j k, T i j k < p) (hT0 : ∀ i j k, n ≤ k → T i j k = 0) (hf : ∀ i, f i ≤ 255) (hv : ∀ i, v i ≤ 255) (uu : Nat → Nat) (huu : UnitI p n T uu) (has : asS p n T) (iv : Nat → Nat) (hiv : InvI p n T uu v iv) (hc : CodeP (p : Int) (n : Int) T f 1 (vAtL [v])) :
    CallsR Try.prog 52 #[.agg (algC (p : Int) (n : Int) T f), .agg (vecC v)] w (fun res _ => res = .tuple #[.bool true, .int .i64 0]) := by
  refine calls_fr [.agg (algC (p : Int) (n : Int) T f), .agg (vecC v)] Try.func52 rfl Try.ntmps52 rfl fun a hF => ?_
  have hM : Mem w w [none, none, none, none] [] := MemX.start w 4
  change Fr 23 a [(0, .agg (algC (p : Int) (n : Int) T f)), (1, .agg (vecC v))] at hF
  have hp2 := hp.two
  have hp13 := hp.le
  have hT : ∀ i j k, T i j k ≤ 255 := fun i j k => by have := hTp i j k; omega
  have hVb : ∀ i c, vAtL [v] i c ≤ 255 := vAtL_le (fun x hx => by simp at hx; subst hx <;> assumption)
  have hiv5 : ∀ c, iv c ≤ 255 := fun c => by have := hiv.small c; omega
  refine sq ?_
  refine wp_region_lit ?_
  refine stR hF (d_box 0 hM hF rfl) rfl ?_
  rintro _ w' a ⟨b1, rfl, hM, -⟩ hF
  change Mem w w' [some (b1, algC (p : Int) (n : Int) T f), none, none, none] [] at hM
  refine stR hF (d_box 1 hM hF rfl) rfl ?_
  rintro _ w' a ⟨b2, rfl, hM, -⟩ hF
  change Mem w w' [some (b1, algC (p : Int) (n : Int) T f), some (b2, vecC v), none, none] [] at hM
  refine st hF (g_assign hF rfl) rfl fun a hF => st hF (g_assign hF rfl) rfl fun a hF => ?_
  refine wpList_nil ?_
  refine tN ?_
  refine sq ?_
  refine sq ?_
  refine wp_region_lit ?_
  refine st hF (g_loadAgg ty_ag_32 hF rfl (hM.row 0 rfl) (by simp only [fnC_size, cells_size, vecC_size, tabC_size, planeC_size] <;> omega) (whole cells_size)) rfl fun a hF => st hF (g_loadAgg ty_ag_30 hF rfl (hM.row 1 rfl) (by simp only [fnC_size, cells_size, vecC_size, tabC_size, planeC_size] <;> omega) (whole (by simp only [fnC_size, cells_size, vecC_size, tabC_size, planeC_size]))) rfl fun a hF => ?_
  refine stR hF (d_buildC (vs := [(0, .agg (vecC v))]) 2 hM hF (build1 hF rfl) (fun w => ty_bsg_27_1 v w)) rfl ?_
  rintro _ w' a ⟨b3, rfl, hM, -⟩ hF
  change Mem w w' [some (b1, algC (p : Int) (n : Int) T f), some (b2, vecC v), some (b3, vecsC 1 (vAtL [v])), none] [] at hM
  refine stR hF (d_call Try.call54 hF (.cons rfl (.cons rfl .nil)) ((CallsR.val (l01Code_ok (p : Int) (n : Int) T f b3 1 1 (vAtL [v]) _ (fun _ _ _ => hT _ _ _) (fun _ => hf _) hVb (by omega) (hM.row 2 rfl)) (congrArg (Value.int .i64) (if_pos hc))))) rfl ?_
  rintro _ w' a ⟨hx, rfl⟩ hF
  have hM := hM.ext hx
  refine st hF (g_assign hF rfl) rfl fun a hF => ?_
  refine wpList_nil ?_
  refine tN ?_
  refine sq ?_
  refine wp_region_lit ?_
  refine st hF (g_move hF rfl) rfl fun a hF => st hF (g_neq hF rfl rfl) rfl fun a hF => ?_
  refine wpList_nil ?_
  refine tN ?_
  refine c_kF hF rfl (by decide) ?_
  refine wp_skip ?_
  refine tN ?_
  refine sq ?_
  refine wp_region_lit ?_
  refine st hF (g_loadAgg ty_ag_32 hF rfl (hM.row 0 rfl) (by simp only [fnC_size, cells_size, vecC_size, tabC_size, planeC_size] <;> omega) (whole cells_size)) rfl fun a hF => st hF (g_loadAgg ty_ag_30 hF rfl (hM.row 1 rfl) (by simp only [fnC_size, cells_size, vecC_size, tabC_size, planeC_size] <;> omega) (whole (by simp only [fnC_size, cells_size, vecC_size, tabC_size, planeC_size]))) rfl fun a hF => ?_
  refine stR hF (d_call Try.call84 hF (.cons rfl (.cons rfl .nil)) (l02Inverse_ok p n T f (v) _ hp hn0 hn hTp hT0 hv uu huu has)) rfl ?_
  rintro _ w' a ⟨hx, x, b, rfl, hI⟩ hF
  have hM := hM.ext hx
  obtain ⟨rfl, rfl⟩ : b = true ∧ x = iv := by
    rcases hI with ⟨e, h⟩ | ⟨_, h⟩
    · exact ⟨e, InvI.unique (AssI_of hn has) huu hiv h⟩
    · exact absurd hiv (h _)
  ·
    refine st hF (g_move hF rfl) rfl fun a hF => st hF (g_extract hF rfl rfl) rfl fun a hF => st hF (g_extract hF rfl rfl) rfl fun a hF => ?_
    refine stR hF (d_alloc 3 hM ty_ze_30) rfl ?_
    rintro _ w' a ⟨b5, rfl, hM, -⟩ hF
    change Mem w w' [some (b1, algC (p : Int) (n : Int) T f), some (b2, vecC v), some (b3, vecsC 1 (vAtL [v])), some (b5, fnC 6 (fun _ => .int .u8 (0)))] [] at hM
    refine stN hF (d_storeAgg 3 hM rfl ty_sz_30 hF rfl rfl (by first | exact vecC_one | exact cells_one | (refine fnC_one fun _ _ => ?_; first | rfl | (split <;> rfl))) (by simp only [fnC_size, cells_size, vecC_size, tabC_size, planeC_size]) (by simp only [fnC_size, cells_size, vecC_size, tabC_size, planeC_size] <;> omega) (splice_whole _ _ (by simp only [fnC_size, cells_size, vecC_size, tabC_size, planeC_size]))) ?_
    intro _ w' a hM hF
    change Mem w w' [some (b1, algC (p : Int) (n : Int) T f), some (b2, vecC v), some (b3, vecsC 1 (vAtL [v])), some (b5, vecC x)] [] at hM
    refine st hF (g_assign hF rfl) rfl fun a hF => ?_
    refine wpList_nil ?_
    refine tN ?_
    refine sq ?_
    refine wp_region_lit ?_
    refine st hF (g_move hF rfl) rfl fun a hF => st hF (g_assign hF rfl) rfl fun a hF => st hF (g_assign hF rfl) rfl fun a hF => ?_
    refine wpList_nil ?_
    refine tN ?_
    refine wp_ret ?_
    refine fin2 rfl hF.defers (res_tmp hF rfl) (res_tmp hF rfl) ⟨_, rfl, hM.below, ?_⟩
    show _ = _
    rfl

theorem IsInvertibleSN (p n : Nat) (T : Nat → Nat → Nat → Nat) (f : Nat → Nat) (v : Nat → Nat) (w : World) (hp : primeN p) (hn0 : 0 < n) (hn : n ≤ 6) (hTp : ∀ i j k, T i j k < p) (hT0 : ∀ i j k, n ≤ k → T i j k = 0) (hf : ∀ i, f i ≤ 255) (hv : ∀ i, v i ≤ 255) (uu : Nat → Nat) (huu : UnitI p n T uu) (has : asS p n T) (hno : ∀ q, ¬ InvI p n T uu v q) (hc : CodeP (p : Int) (n : Int) T f 1 (vAtL [v])) :
    CallsR Try.prog 52 #[.agg (algC (p : Int) (n : Int) T f), .agg (vecC v)] w (fun res _ => res = .tuple #[.bool false, .int .i64 0]) := by
  refine calls_fr [.agg (algC (p : Int) (n : Int) T f), .agg (vecC v)] Try.func52 rfl Try.ntmps52 rfl fun a hF => ?_
  have hM : Mem w w [none, none, none, none] [] := MemX.start w 4
  change Fr 23 a [(0, .agg (algC (p : Int) (n : Int) T f)), (1, .agg (vecC v))] at hF
  have hp2 := hp.two
  have hp13 := hp.le
  have hT : ∀ i j k, T i j k ≤ 255 := fun i j k => by have := hTp i j k; omega
  have hVb : ∀ i c, vAtL [v] i c ≤ 255 := vAtL_le (fun x hx => by simp at hx; subst hx <;> assumption)
  refine sq ?_
  refine wp_region_lit ?_
  refine stR hF (d_box 0 hM hF rfl) rfl ?_
  rintro _ w' a ⟨b1, rfl, hM, -⟩ hF
  change Mem w w' [some (b1, algC (p : Int) (n : Int) T f), none, none, none] [] at hM
  refine stR hF (d_box 1 hM hF rfl) rfl ?_
  rintro _ w' a ⟨b2, rfl, hM, -⟩ hF
  change Mem w w' [some (b1, algC (p : Int) (n : Int) T f), some (b2, vecC v), none, none] [] at hM
  refine st hF (g_assign hF rfl) rfl fun a hF => st hF (g_assign hF rfl) rfl fun a hF => ?_
  refine wpList_nil ?_
  refine tN ?_
  refine sq ?_
  refine sq ?_
  refine wp_region_lit ?_
  refine st hF (g_loadAgg ty_ag_32 hF rfl (hM.row 0 rfl) (by simp only [fnC_size, cells_size, vecC_size, tabC_size, planeC_size] <;> omega) (whole cells_size)) rfl fun a hF => st hF (g_loadAgg ty_ag_30 hF rfl (hM.row 1 rfl) (by simp only [fnC_size, cells_size, vecC_size, tabC_size, planeC_size] <;> omega) (whole (by simp only [fnC_size, cells_size, vecC_size, tabC_size, planeC_size]))) rfl fun a hF => ?_
  refine stR hF (d_buildC (vs := [(0, .agg (vecC v))]) 2 hM hF (build1 hF rfl) (fun w => ty_bsg_27_1 v w)) rfl ?_
  rintro _ w' a ⟨b3, rfl, hM, -⟩ hF
  change Mem w w' [some (b1, algC (p : Int) (n : Int) T f), some (b2, vecC v), some (b3, vecsC 1 (vAtL [v])), none] [] at hM
  refine stR hF (d_call Try.call54 hF (.cons rfl (.cons rfl .nil)) ((CallsR.val (l01Code_ok (p : Int) (n : Int) T f b3 1 1 (vAtL [v]) _ (fun _ _ _ => hT _ _ _) (fun _ => hf _) hVb (by omega) (hM.row 2 rfl)) (congrArg (Value.int .i64) (if_pos hc))))) rfl ?_
  rintro _ w' a ⟨hx, rfl⟩ hF
  have hM := hM.ext hx
  refine st hF (g_assign hF rfl) rfl fun a hF => ?_
  refine wpList_nil ?_
  refine tN ?_
  refine sq ?_
  refine wp_region_lit ?_
  refine st hF (g_move hF rfl) rfl fun a hF => st hF (g_neq hF rfl rfl) rfl fun a hF => ?_
  refine wpList_nil ?_
  refine tN ?_
  refine c_kF hF rfl (by decide) ?_
  refine wp_skip ?_
  refine tN ?_
  refine sq ?_
  refine wp_region_lit ?_
  refine st hF (g_loadAgg ty_ag_32 hF rfl (hM.row 0 rfl) (by simp only [fnC_size, cells_size, vecC_size, tabC_size, planeC_size] <;> omega) (whole cells_size)) rfl fun a hF => st hF (g_loadAgg ty_ag_30 hF rfl (hM.row 1 rfl) (by simp only [fnC_size, cells_size, vecC_size, tabC_size, planeC_size] <;> omega) (whole (by simp only [fnC_size, cells_size, vecC_size, tabC_size, planeC_size]))) rfl fun a hF => ?_
  refine stR hF (d_call Try.call84 hF (.cons rfl (.cons rfl .nil)) (l02Inverse_ok p n T f (v) _ hp hn0 hn hTp hT0 hv uu huu has)) rfl ?_
  rintro _ w' a ⟨hx, x, b, rfl, hI⟩ hF
  have hM := hM.ext hx
  obtain rfl : b = false := by
    rcases hI with ⟨_, h⟩ | ⟨e, _⟩
    · exact absurd h (hno _)
    · exact e
  ·
    refine st hF (g_move hF rfl) rfl fun a hF => st hF (g_extract hF rfl rfl) rfl fun a hF => st hF (g_extract hF rfl rfl) rfl fun a hF => ?_
    refine stR hF (d_alloc 3 hM ty_ze_30) rfl ?_
    rintro _ w' a ⟨b5, rfl, hM, -⟩ hF
    change Mem w w' [some (b1, algC (p : Int) (n : Int) T f), some (b2, vecC v), some (b3, vecsC 1 (vAtL [v])), some (b5, fnC 6 (fun _ => .int .u8 (0)))] [] at hM
    refine stN hF (d_storeAgg 3 hM rfl ty_sz_30 hF rfl rfl (by first | exact vecC_one | exact cells_one | (refine fnC_one fun _ _ => ?_; first | rfl | (split <;> rfl))) (by simp only [fnC_size, cells_size, vecC_size, tabC_size, planeC_size]) (by simp only [fnC_size, cells_size, vecC_size, tabC_size, planeC_size] <;> omega) (splice_whole _ _ (by simp only [fnC_size, cells_size, vecC_size, tabC_size, planeC_size]))) ?_
    intro _ w' a hM hF
    change Mem w w' [some (b1, algC (p : Int) (n : Int) T f), some (b2, vecC v), some (b3, vecsC 1 (vAtL [v])), some (b5, vecC x)] [] at hM
    refine st hF (g_assign hF rfl) rfl fun a hF => ?_
    refine wpList_nil ?_
    refine tN ?_
    refine sq ?_
    refine wp_region_lit ?_
    refine st hF (g_move hF rfl) rfl fun a hF => st hF (g_assign hF rfl) rfl fun a hF => st hF (g_assign hF rfl) rfl fun a hF => ?_
    refine wpList_nil ?_
    refine tN ?_
    refine wp_ret ?_
    refine fin2 rfl hF.defers (res_tmp hF rfl) (res_tmp hF rfl) ⟨_, rfl, hM.below, ?_⟩
    show _ = _
    rfl

theorem IsInvertibleIA (p n : Int) (T : Nat → Nat → Nat → Nat) (f : Nat → Nat) (v : Nat → Nat) (w : World) (hT : ∀ i j k, T i j k ≤ 255) (hf : ∀ i, f i ≤ 255) (hv : ∀ i, v i ≤ 255) (hc : ¬ CodeP p n T f 1 (vAtL [v])) :
    CallsR Try.prog 53 #[.agg (algC p n T f), .agg (vecC v)] w (fun res _ => res = .tuple #[.bool false, .int .i64 1]) := by
  refine calls_fr [.agg (algC p n T f), .agg (vecC v)] Try.func53 rfl Try.ntmps53 rfl fun a hF => ?_
  have hM : Mem w w [none, none, none, none] [] := MemX.start w 4
  change Fr 20 a [(0, .agg (algC p n T f)), (1, .agg (vecC v))] at hF
  have hVb : ∀ i c, vAtL [v] i c ≤ 255 := vAtL_le (fun x hx => by simp at hx; subst hx <;> assumption)
  refine sq ?_
  refine wp_region_lit ?_
  refine stR hF (d_box 0 hM hF rfl) rfl ?_
  rintro _ w' a ⟨b1, rfl, hM, -⟩ hF
  change Mem w w' [some (b1, algC p n T f), none, none, none] [] at hM
  refine stR hF (d_box 1 hM hF rfl) rfl ?_
  rintro _ w' a ⟨b2, rfl, hM, -⟩ hF
  change Mem w w' [some (b1, algC p n T f), some (b2, vecC v), none, none] [] at hM
  refine st hF (g_assign hF rfl) rfl fun a hF => st hF (g_assign hF rfl) rfl fun a hF => ?_
  refine wpList_nil ?_
  refine tN ?_
  refine sq ?_
  refine sq ?_
  refine wp_region_lit ?_
  refine st hF (g_loadAgg ty_ag_32 hF rfl (hM.row 0 rfl) (by simp only [fnC_size, cells_size, vecC_size, tabC_size, planeC_size] <;> omega) (whole cells_size)) rfl fun a hF => st hF (g_loadAgg ty_ag_30 hF rfl (hM.row 1 rfl) (by simp only [fnC_size, cells_size, vecC_size, tabC_size, planeC_size] <;> omega) (whole (by simp only [fnC_size, cells_size, vecC_size, tabC_size, planeC_size]))) rfl fun a hF => ?_
  refine stR hF (d_buildC (vs := [(0, .agg (vecC v))]) 2 hM hF (build1 hF rfl) (fun w => ty_bsg_27_1 v w)) rfl ?_
  rintro _ w' a ⟨b3, rfl, hM, -⟩ hF
  change Mem w w' [some (b1, algC p n T f), some (b2, vecC v), some (b3, vecsC 1 (vAtL [v])), none] [] at hM
  refine stR hF (d_call Try.call92 hF (.cons rfl (.cons rfl .nil)) ((CallsR.val (areVectors_ok p n T f b3 1 1 (vAtL [v]) _ (fun _ _ _ => hT _ _ _) (fun _ => hf _) hVb (by omega) (hM.row 2 rfl)) (congrArg Value.bool (decide_eq_false hc))))) rfl ?_
  rintro _ w' a ⟨hx, rfl⟩ hF
  have hM := hM.ext hx
  refine st hF (g_not hF rfl) rfl fun a hF => ?_
  refine wpList_nil ?_
  refine tN ?_
  refine c_T hF rfl ?_
  refine sq ?_
  refine wp_region_lit ?_
  refine st hF (g_assign hF rfl) rfl fun a hF => st hF (g_assign hF rfl) rfl fun a hF => ?_
  refine wpList_nil ?_
  refine tN ?_
  refine wp_ret ?_
  refine tR ?_
  refine fin2 rfl hF.defers (res_tmp hF rfl) (res_tmp hF rfl) ⟨_, rfl, hM.below, ?_⟩
  show _ = _
  rfl

theorem IsInvertibleIY (p n : Nat) (T : Nat → Nat → Nat → Nat) (f : Nat → Nat) (v : Nat → Nat) (w : World) (hp : primeN p) (hn0 : 0 < n) (hn : n ≤ 6) (hTp : ∀ i j k, T i j k < p) (hT0 : ∀ i j k, n ≤ k → T i j k = 0) (hf : ∀ i, f i ≤ 255) (hv : ∀ i, v i ≤ 255) (uu : Nat → Nat) (huu : UnitI p n T uu) (has : asS p n T) (iv : Nat → Nat) (hiv : InvI p n T uu v iv) (hc : CodeP (p : Int) (n : Int) T f 1 (vAtL [v])) :
    CallsR Try.prog 53 #[.agg (algC (p : Int) (n : Int) T f), .agg (vecC v)] w (fun res _ => res = .tuple #[.bool true, .int .i64 0]) := by
  refine calls_fr [.agg (algC (p : Int) (n : Int) T f), .agg (vecC v)] Try.func53 rfl Try.ntmps53 rfl fun a hF => ?_
  have hM : Mem w w [none, none, none, none] [] := MemX.start w 4
  change Fr 20 a [(0, .agg (algC (p : Int) (n : Int) T f)), (1, .agg (vecC v))] at hF
  have hp2 := hp.two
  have hp13 := hp.le
  have hT : ∀ i j k, T i j k ≤ 255 := fun i j k => by have := hTp i j k; omega
  have hVb : ∀ i c, vAtL [v] i c ≤ 255 := vAtL_le (fun x hx => by simp at hx; subst hx <;> assumption)
  have hiv5 : ∀ c, iv c ≤ 255 := fun c => by have := hiv.small c; omega
  refine sq ?_
  refine wp_region_lit ?_
  refine stR hF (d_box 0 hM hF rfl) rfl ?_
  rintro _ w' a ⟨b1, rfl, hM, -⟩ hF
  change Mem w w' [some (b1, algC (p : Int) (n : Int) T f), none, none, none] [] at hM
  refine stR hF (d_box 1 hM hF rfl) rfl ?_
  rintro _ w' a ⟨b2, rfl, hM, -⟩ hF
  change Mem w w' [some (b1, algC (p : Int) (n : Int) T f), some (b2, vecC v), none, none] [] at hM
  refine st hF (g_assign hF rfl) rfl fun a hF => st hF (g_assign hF rfl) rfl fun a hF => ?_
  refine wpList_nil ?_
  refine tN ?_
  refine sq ?_
  refine sq ?_
  refine wp_region_lit ?_
  refine st hF (g_loadAgg ty_ag_32 hF rfl (hM.row 0 rfl) (by simp only [fnC_size, cells_size, vecC_size, tabC_size, planeC_size] <;> omega) (whole cells_size)) rfl fun a hF => st hF (g_loadAgg ty_ag_30 hF rfl (hM.row 1 rfl) (by simp only [fnC_size, cells_size, vecC_size, tabC_size, planeC_size] <;> omega) (whole (by simp only [fnC_size, cells_size, vecC_size, tabC_size, planeC_size]))) rfl fun a hF => ?_
  refine stR hF (d_buildC (vs := [(0, .agg (vecC v))]) 2 hM hF (build1 hF rfl) (fun w => ty_bsg_27_1 v w)) rfl ?_
  rintro _ w' a ⟨b3, rfl, hM, -⟩ hF
  change Mem w w' [some (b1, algC (p : Int) (n : Int) T f), some (b2, vecC v), some (b3, vecsC 1 (vAtL [v])), none] [] at hM
  refine stR hF (d_call Try.call92 hF (.cons rfl (.cons rfl .nil)) ((CallsR.val (areVectors_ok (p : Int) (n : Int) T f b3 1 1 (vAtL [v]) _ (fun _ _ _ => hT _ _ _) (fun _ => hf _) hVb (by omega) (hM.row 2 rfl)) (congrArg Value.bool (decide_eq_true hc))))) rfl ?_
  rintro _ w' a ⟨hx, rfl⟩ hF
  have hM := hM.ext hx
  refine st hF (g_not hF rfl) rfl fun a hF => ?_
  refine wpList_nil ?_
  refine tN ?_
  refine c_Fl hF rfl ?_
  refine wp_skip ?_
  refine tN ?_
  refine sq ?_
  refine wp_region_lit ?_
  refine st hF (g_loadAgg ty_ag_32 hF rfl (hM.row 0 rfl) (by simp only [fnC_size, cells_size, vecC_size, tabC_size, planeC_size] <;> omega) (whole cells_size)) rfl fun a hF => st hF (g_loadAgg ty_ag_30 hF rfl (hM.row 1 rfl) (by simp only [fnC_size, cells_size, vecC_size, tabC_size, planeC_size] <;> omega) (whole (by simp only [fnC_size, cells_size, vecC_size, tabC_size, planeC_size]))) rfl fun a hF => ?_
  refine stR hF (d_call Try.call86 hF (.cons rfl (.cons rfl .nil)) (findInverse_ok p n T f (v) _ hp hn0 hn hTp hT0 hv uu huu)) rfl ?_
  rintro _ w' a ⟨hx, x, b, rfl, hI⟩ hF
  have hM := hM.ext hx
  obtain ⟨rfl, rfl⟩ : b = true ∧ x = iv := by
    rcases hI with ⟨e, h⟩ | ⟨_, h⟩
    · exact ⟨e, InvI.unique (AssI_of hn has) huu hiv h⟩
    · exact absurd hiv (h _)
  ·
    refine st hF (g_move hF rfl) rfl fun a hF => st hF (g_extract hF rfl rfl) rfl fun a hF => st hF (g_extract hF rfl rfl) rfl fun a hF => ?_
    refine stR hF (d_alloc 3 hM ty_ze_30) rfl ?_
    rintro _ w' a ⟨b5, rfl, hM, -⟩ hF
    change Mem w w' [some (b1, algC (p : Int) (n : Int) T f), some (b2, vecC v), some (b3, vecsC 1 (vAtL [v])), some (b5, fnC 6 (fun _ => .int .u8 (0)))] [] at hM
    refine stN hF (d_storeAgg 3 hM rfl ty_sz_30 hF rfl rfl (by first | exact vecC_one | exact cells_one | (refine fnC_one fun _ _ => ?_; first | rfl | (split <;> rfl))) (by simp only [fnC_size, cells_size, vecC_size, tabC_size, planeC_size]) (by simp only [fnC_size, cells_size, vecC_size, tabC_size, planeC_size] <;> omega) (splice_whole _ _ (by simp only [fnC_size, cells_size, vecC_size, tabC_size, planeC_size]))) ?_
    intro _ w' a hM hF
    change Mem w w' [some (b1, algC (p : Int) (n : Int) T f), some (b2, vecC v), some (b3, vecsC 1 (vAtL [v])), some (b5, vecC x)] [] at hM
    refine st hF (g_assign hF rfl) rfl fun a hF => ?_
    refine wpList_nil ?_
    refine tN ?_
    refine sq ?_
    refine wp_region_lit ?_
    refine st hF (g_move hF rfl) rfl fun a hF => st hF (g_assign hF rfl) rfl fun a hF => st hF (g_assign hF rfl) rfl fun a hF => ?_
    refine wpList_nil ?_
    refine tN ?_
    refine wp_ret ?_
    refine fin2 rfl hF.defers (res_tmp hF rfl) (res_tmp hF rfl) ⟨_, rfl, hM.below, ?_⟩
    show _ = _
    rfl

theorem IsInvertibleIN (p n : Nat) (T : Nat → Nat → Nat → Nat) (f : Nat → Nat) (v : Nat → Nat) (w : World) (hp : primeN p) (hn0 : 0 < n) (hn : n ≤ 6) (hTp : ∀ i j k, T i j k < p) (hT0 : ∀ i j k, n ≤ k → T i j k = 0) (hf : ∀ i, f i ≤ 255) (hv : ∀ i, v i ≤ 255) (uu : Nat → Nat) (huu : UnitI p n T uu) (has : asS p n T) (hno : ∀ q, ¬ InvI p n T uu v q) (hc : CodeP (p : Int) (n : Int) T f 1 (vAtL [v])) :
    CallsR Try.prog 53 #[.agg (algC (p : Int) (n : Int) T f), .agg (vecC v)] w (fun res _ => res = .tuple #[.bool false, .int .i64 0]) := by
  refine calls_fr [.agg (algC (p : Int) (n : Int) T f), .agg (vecC v)] Try.func53 rfl Try.ntmps53 rfl fun a hF => ?_
  have hM : Mem w w [none, none, none, none] [] := MemX.start w 4
  change Fr 20 a [(0, .agg (algC (p : Int) (n : Int) T f)), (1, .agg (vecC v))] at hF
  have hp2 := hp.two
  have hp13 := hp.le
  have hT : ∀ i j k, T i j k ≤ 255 := fun i j k => by have := hTp i j k; omega
  have hVb : ∀ i c, vAtL [v] i c ≤ 255 := vAtL_le (fun x hx => by simp at hx; subst hx <;> assumption)
  refine sq ?_
  refine wp_region_lit ?_
  refine stR hF (d_box 0 hM hF rfl) rfl ?_
  rintro _ w' a ⟨b1, rfl, hM, -⟩ hF
  change Mem w w' [some (b1, algC (p : Int) (n : Int) T f), none, none, none] [] at hM
  refine stR hF (d_box 1 hM hF rfl) rfl ?_
  rintro _ w' a ⟨b2, rfl, hM, -⟩ hF
  change Mem w w' [some (b1, algC (p : Int) (n : Int) T f), some (b2, vecC v), none, none] [] at hM
  refine st hF (g_assign hF rfl) rfl fun a hF => st hF (g_assign hF rfl) rfl fun a hF => ?_
  refine wpList_nil ?_
  refine tN ?_
  refine sq ?_
  refine sq ?_
  refine wp_region_lit ?_
  refine st hF (g_loadAgg ty_ag_32 hF rfl (hM.row 0 rfl) (by simp only [fnC_size, cells_size, vecC_size, tabC_size, planeC_size] <;> omega) (whole cells_size)) rfl fun a hF => st hF (g_loadAgg ty_ag_30 hF rfl (hM.row 1 rfl) (by simp only [fnC_size, cells_size, vecC_size, tabC_size, planeC_size] <;> omega) (whole (by simp only [fnC_size, cells_size, vecC_size, tabC_size, planeC_size]))) rfl fun a hF => ?_
  refine stR hF (d_buildC (vs := [(0, .agg (vecC v))]) 2 hM hF (build1 hF rfl) (fun w => ty_bsg_27_1 v w)) rfl ?_
  rintro _ w' a ⟨b3, rfl, hM, -⟩ hF
  change Mem w w' [some (b1, algC (p : Int) (n : Int) T f), some (b2, vecC v), some (b3, vecsC 1 (vAtL [v])), none] [] at hM
  refine stR hF (d_call Try.call92 hF (.cons rfl (.cons rfl .nil)) ((CallsR.val (areVectors_ok (p : Int) (n : Int) T f b3 1 1 (vAtL [v]) _ (fun _ _ _ => hT _ _ _) (fun _ => hf _) hVb (by omega) (hM.row 2 rfl)) (congrArg Value.bool (decide_eq_true hc))))) rfl ?_
  rintro _ w' a ⟨hx, rfl⟩ hF
  have hM := hM.ext hx
  refine st hF (g_not hF rfl) rfl fun a hF => ?_
  refine wpList_nil ?_
  refine tN ?_
  refine c_Fl hF rfl ?_
  refine wp_skip ?_
  refine tN ?_
  refine sq ?_
  refine wp_region_lit ?_
  refine st hF (g_loadAgg ty_ag_32 hF rfl (hM.row 0 rfl) (by simp only [fnC_size, cells_size, vecC_size, tabC_size, planeC_size] <;> omega) (whole cells_size)) rfl fun a hF => st hF (g_loadAgg ty_ag_30 hF rfl (hM.row 1 rfl) (by simp only [fnC_size, cells_size, vecC_size, tabC_size, planeC_size] <;> omega) (whole (by simp only [fnC_size, cells_size, vecC_size, tabC_size, planeC_size]))) rfl fun a hF => ?_
  refine stR hF (d_call Try.call86 hF (.cons rfl (.cons rfl .nil)) (findInverse_ok p n T f (v) _ hp hn0 hn hTp hT0 hv uu huu)) rfl ?_
  rintro _ w' a ⟨hx, x, b, rfl, hI⟩ hF
  have hM := hM.ext hx
  obtain rfl : b = false := by
    rcases hI with ⟨_, h⟩ | ⟨e, _⟩
    · exact absurd h (hno _)
    · exact e
  ·
    refine st hF (g_move hF rfl) rfl fun a hF => st hF (g_extract hF rfl rfl) rfl fun a hF => st hF (g_extract hF rfl rfl) rfl fun a hF => ?_
    refine stR hF (d_alloc 3 hM ty_ze_30) rfl ?_
    rintro _ w' a ⟨b5, rfl, hM, -⟩ hF
    change Mem w w' [some (b1, algC (p : Int) (n : Int) T f), some (b2, vecC v), some (b3, vecsC 1 (vAtL [v])), some (b5, fnC 6 (fun _ => .int .u8 (0)))] [] at hM
    refine stN hF (d_storeAgg 3 hM rfl ty_sz_30 hF rfl rfl (by first | exact vecC_one | exact cells_one | (refine fnC_one fun _ _ => ?_; first | rfl | (split <;> rfl))) (by simp only [fnC_size, cells_size, vecC_size, tabC_size, planeC_size]) (by simp only [fnC_size, cells_size, vecC_size, tabC_size, planeC_size] <;> omega) (splice_whole _ _ (by simp only [fnC_size, cells_size, vecC_size, tabC_size, planeC_size]))) ?_
    intro _ w' a hM hF
    change Mem w w' [some (b1, algC (p : Int) (n : Int) T f), some (b2, vecC v), some (b3, vecsC 1 (vAtL [v])), some (b5, vecC x)] [] at hM
    refine st hF (g_assign hF rfl) rfl fun a hF => ?_
    refine wpList_nil ?_
    refine tN ?_
    refine sq ?_
    refine wp_region_lit ?_
    refine st hF (g_move hF rfl) rfl fun a hF => st hF (g_assign hF rfl) rfl fun a hF => st hF (g_assign hF rfl) rfl fun a hF => ?_
    refine wpList_nil ?_
    refine tN ?_
    refine wp_ret ?_
    refine fin2 rfl hF.defers (res_tmp hF rfl) (res_tmp hF rfl) ⟨_, rfl, hM.below, ?_⟩
    show _ = _
    rfl

theorem law_IsInvertibleA (p n : Int) (T : Nat → Nat → Nat → Nat) (f : Nat → Nat) (v : Nat → Nat) (w : World) (hT : ∀ i j k, T i j k ≤ 255) (hf : ∀ i, f i ≤ 255) (hv : ∀ i, v i ≤ 255) (hc : ¬ CodeP p n T f 1 (vAtL [v])) :
    CallsR Try.prog 15 #[.agg (algC p n T f), .agg (vecC v)] w (fun res _ => res = .bool true) := by
  refine calls_fr [.agg (algC p n T f), .agg (vecC v)] Try.func15 rfl Try.ntmps15 rfl fun a hF => ?_
  have hM : Mem w w [none, none] [] := MemX.start w 2
  change Fr 33 a [(0, .agg (algC p n T f)), (1, .agg (vecC v))] at hF
  have eqlaw : eqV 6 (fun _ => 0) (fun _ => 0) := fun _ _ => rfl
  refine sq ?_
  refine wp_region_lit ?_
  refine stR hF (d_box 0 hM hF rfl) rfl ?_
  rintro _ w' a ⟨b1, rfl, hM, -⟩ hF
  change Mem w w' [some (b1, algC p n T f), none] [] at hM
  refine stR hF (d_box 1 hM hF rfl) rfl ?_
  rintro _ w' a ⟨b2, rfl, hM, -⟩ hF
  change Mem w w' [some (b1, algC p n T f), some (b2, vecC v)] [] at hM
  refine st hF (g_assign hF rfl) rfl fun a hF => ?_
  refine wpList_nil ?_
  refine tN ?_
  refine sq ?_
  refine c_par 9 [] [.val (.agg (algC p n T f)), .val (.agg (algC p n T f)), .val (.agg (vecC v)), .val (.agg (vecC v)), .val (.tuple #[.bool (false), .int .i64 (1)]), .val (.tuple #[.bool (false), .int .i64 (1)]), .val (.bool (false)), .val (.int .i64 (1)), .val (.bool (false))] hmix rfl hF rfl hM ⟨fun a w g hF hS hd => by have hM := hS.mem rfl; exact par_val hS rfl (g_loadAgg ty_ag_26 hF rfl (hM.row 0 rfl) (by simp only [fnC_size, cells_size, vecC_size, tabC_size, planeC_size] <;> omega) (whole cells_size)), fun a w g hF hS hd => by have hF := hF.ext1 10 (hd 0 rfl rfl); exact par_call (by repeat constructor) hS rfl (d_call Try.call17 hF (.cons rfl .nil) (toAlgebra_ok p n T f _)), fun a w g hF hS hd => by have hM := hS.mem rfl; exact par_val hS rfl (g_loadAgg ty_ag_22 hF rfl (hM.row 1 rfl) (by simp only [fnC_size, cells_size, vecC_size, tabC_size, planeC_size] <;> omega) (whole (by simp only [fnC_size, cells_size, vecC_size, tabC_size, planeC_size]))), fun a w g hF hS hd => by have hF := hF.ext1 12 (hd 2 rfl rfl); exact par_call (by repeat constructor) hS rfl (d_call Try.call37 hF (.cons rfl .nil) (toVector_ok v _)), fun a w g hF hS hd => by have hF := hF.ext1 11 (hd 1 rfl rfl); have hF := hF.ext1 13 (hd 3 rfl rfl); exact par_call (by repeat constructor) hS rfl (d_call Try.call52 hF (.cons rfl (.cons rfl .nil)) (IsInvertibleSA p n T f v _ hT hf hv hc)), fun a w g hF hS hd => by have hF := hF.ext1 14 (hd 4 rfl rfl); exact par_val hS rfl (g_move hF rfl), fun a w g hF hS hd => by have hF := hF.ext1 9 (hd 5 rfl rfl); exact par_val hS rfl (g_extract hF rfl rfl), fun a w g hF hS hd => by have hF := hF.ext1 9 (hd 5 rfl rfl); exact par_val hS rfl (g_extract hF rfl rfl), fun a w g hF hS hd => by have hF := hF.ext1 15 (hd 6 rfl rfl); exact par_val hS rfl (g_assign hF rfl), trivial⟩ ?_
  intro a w' L hF hS hq
  have hF := hF.ext1 10 (hq 0 rfl rfl)
  have hF := hF.ext1 11 (hq 1 rfl rfl)
  have hF := hF.ext1 12 (hq 2 rfl rfl)
  have hF := hF.ext1 13 (hq 3 rfl rfl)
  have hF := hF.ext1 14 (hq 4 rfl rfl)
  have hF := hF.ext1 9 (hq 5 rfl rfl)
  have hF := hF.ext1 15 (hq 6 rfl rfl)
  have hF := hF.ext1 16 (hq 7 rfl rfl)
  have hF := hF.ext1 5 (hq 8 rfl rfl)
  have hM := hS.mem rfl
  change wpList Try.prog _ _ [_] _ _
  refine st hF (g_assign hF rfl) rfl fun a hF => ?_
  refine wpList_nil ?_
  refine tN ?_
  refine sq ?_
  refine c_par 9 [] [.val (.agg (algC p n T f)), .val (.agg (algC p n T f)), .val (.agg (vecC v)), .val (.agg (vecC v)), .val (.tuple #[.bool (false), .int .i64 (1)]), .val (.tuple #[.bool (false), .int .i64 (1)]), .val (.bool (false)), .val (.int .i64 (1)), .val (.bool (false))] hmix rfl hF rfl hM ⟨fun a w g hF hS hd => by have hM := hS.mem rfl; exact par_val hS rfl (g_loadAgg ty_ag_26 hF rfl (hM.row 0 rfl) (by simp only [fnC_size, cells_size, vecC_size, tabC_size, planeC_size] <;> omega) (whole cells_size)), fun a w g hF hS hd => by have hF := hF.ext1 18 (hd 0 rfl rfl); exact par_call (by repeat constructor) hS rfl (d_call Try.call17 hF (.cons rfl .nil) (toAlgebra_ok p n T f _)), fun a w g hF hS hd => by have hM := hS.mem rfl; exact par_val hS rfl (g_loadAgg ty_ag_22 hF rfl (hM.row 1 rfl) (by simp only [fnC_size, cells_size, vecC_size, tabC_size, planeC_size] <;> omega) (whole (by simp only [fnC_size, cells_size, vecC_size, tabC_size, planeC_size]))), fun a w g hF hS hd => by have hF := hF.ext1 20 (hd 2 rfl rfl); exact par_call (by repeat constructor) hS rfl (d_call Try.call37 hF (.cons rfl .nil) (toVector_ok v _)), fun a w g hF hS hd => by have hF := hF.ext1 19 (hd 1 rfl rfl); have hF := hF.ext1 21 (hd 3 rfl rfl); exact par_call (by repeat constructor) hS rfl (d_call Try.call53 hF (.cons rfl (.cons rfl .nil)) (IsInvertibleIA p n T f v _ hT hf hv hc)), fun a w g hF hS hd => by have hF := hF.ext1 22 (hd 4 rfl rfl); exact par_val hS rfl (g_move hF rfl), fun a w g hF hS hd => by have hF := hF.ext1 17 (hd 5 rfl rfl); exact par_val hS rfl (g_extract hF rfl rfl), fun a w g hF hS hd => by have hF := hF.ext1 17 (hd 5 rfl rfl); exact par_val hS rfl (g_extract hF rfl rfl), fun a w g hF hS hd => by have hF := hF.ext1 23 (hd 6 rfl rfl); exact par_val hS rfl (g_assign hF rfl), trivial⟩ ?_
  intro a w' L hF hS hq
  have hF := hF.ext1 18 (hq 0 rfl rfl)
  have hF := hF.ext1 19 (hq 1 rfl rfl)
  have hF := hF.ext1 20 (hq 2 rfl rfl)
  have hF := hF.ext1 21 (hq 3 rfl rfl)
  have hF := hF.ext1 22 (hq 4 rfl rfl)
  have hF := hF.ext1 17 (hq 5 rfl rfl)
  have hF := hF.ext1 23 (hq 6 rfl rfl)
  have hF := hF.ext1 24 (hq 7 rfl rfl)
  have hF := hF.ext1 7 (hq 8 rfl rfl)
  have hM := hS.mem rfl
  change wpList Try.prog _ _ [_] _ _
  refine st hF (g_assign hF rfl) rfl fun a hF => ?_
  refine wpList_nil ?_
  refine tN ?_
  refine sq ?_
  refine sq ?_
  refine wp_region_lit ?_
  refine st hF (g_move hF rfl) rfl fun a hF => st hF (g_move hF rfl) rfl fun a hF => st hF (g_neqBo ty_ub_4 hF rfl rfl) rfl fun a hF => st hF (g_move hF rfl) rfl fun a hF => ?_
  by_cases g3 : (false : Bool) ≠ (false : Bool)
  ·
    first | rw [decide_eq_true g3] at hF | simp only [decide_eq_true g3] at hF
    first | exact absurd rfl g3 | exact absurd eqlaw g3 | exact absurd (by exact ⟨rfl, rfl, fun _ _ _ _ _ _ => rfl, fun _ _ => rfl⟩) g3 | (exfalso; omega)
  ·
    first | rw [decide_eq_false g3] at hF | simp only [decide_eq_false g3] at hF
    refine stY hF rfl rfl rfl (g_move hF rfl) rfl fun a hF => stY hF rfl rfl rfl (g_move hF rfl) rfl fun a hF => stY hF rfl rfl rfl (g_neq hF rfl rfl) rfl fun a hF => st hF (g_pickF hF rfl rfl) rfl fun a hF => ?_
    refine wpList_nil ?_
    refine tN ?_
    refine c_kF hF rfl (by decide) ?_
    refine wp_skip ?_
    refine tN ?_
    refine sq ?_
    refine wp_region_lit ?_
    refine st hF (g_assign hF rfl) rfl fun a hF => ?_
    refine wpList_nil ?_
    refine tN ?_
    refine wp_ret ?_
    refine fin1 rfl hF.defers (res_tmp hF rfl) ⟨_, rfl, hM.below, ?_⟩
    show _ = _
    rfl

theorem law_IsInvertibleY (p n : Nat) (T : Nat → Nat → Nat → Nat) (f : Nat → Nat) (v : Nat → Nat) (w : World) (hp : primeN p) (hn0 : 0 < n) (hn : n ≤ 6) (hTp : ∀ i j k, T i j k < p) (hT0 : ∀ i j k, n ≤ k → T i j k = 0) (hf : ∀ i, f i ≤ 255) (hv : ∀ i, v i ≤ 255) (uu : Nat → Nat) (huu : UnitI p n T uu) (has : asS p n T) (iv : Nat → Nat) (hiv : InvI p n T uu v iv) (hc : CodeP (p : Int) (n : Int) T f 1 (vAtL [v])) :
    CallsR Try.prog 15 #[.agg (algC (p : Int) (n : Int) T f), .agg (vecC v)] w (fun res _ => res = .bool true) := by
  refine calls_fr [.agg (algC (p : Int) (n : Int) T f), .agg (vecC v)] Try.func15 rfl Try.ntmps15 rfl fun a hF => ?_
  have hM : Mem w w [none, none] [] := MemX.start w 2
  change Fr 33 a [(0, .agg (algC (p : Int) (n : Int) T f)), (1, .agg (vecC v))] at hF
  have hp2 := hp.two
  have hp13 := hp.le
  have hT : ∀ i j k, T i j k ≤ 255 := fun i j k => by have := hTp i j k; omega
  have hiv5 : ∀ c, iv c ≤ 255 := fun c => by have := hiv.small c; omega
  have eqlaw : eqV 6 (fun _ => 0) (fun _ => 0) := fun _ _ => rfl
  refine sq ?_
  refine wp_region_lit ?_
  refine stR hF (d_box 0 hM hF rfl) rfl ?_
  rintro _ w' a ⟨b1, rfl, hM, -⟩ hF
  change Mem w w' [some (b1, algC (p : Int) (n : Int) T f), none] [] at hM
  refine stR hF (d_box 1 hM hF rfl) rfl ?_
  rintro _ w' a ⟨b2, rfl, hM, -⟩ hF
  change Mem w w' [some (b1, algC (p : Int) (n : Int) T f), some (b2, vecC v)] [] at hM
  refine st hF (g_assign hF rfl) rfl fun a hF => ?_
  refine wpList_nil ?_
  refine tN ?_
  refine sq ?_
  refine c_par 9 [] [.val (.agg (algC (p : Int) (n : Int) T f)), .val (.agg (algC (p : Int) (n : Int) T f)), .val (.agg (vecC v)), .val (.agg (vecC v)), .val (.tuple #[.bool (true), .int .i64 (0)]), .val (.tuple #[.bool (true), .int .i64 (0)]), .val (.bool (true)), .val (.int .i64 (0)), .val (.bool (true))] hmix rfl hF rfl hM ⟨fun a w g hF hS hd => by have hM := hS.mem rfl; exact par_val hS rfl (g_loadAgg ty_ag_26 hF rfl (hM.row 0 rfl) (by simp only [fnC_size, cells_size, vecC_size, tabC_size, planeC_size] <;> omega) (whole cells_size)), fun a w g hF hS hd => by have hF := hF.ext1 10 (hd 0 rfl rfl); exact par_call (by repeat constructor) hS rfl (d_call Try.call17 hF (.cons rfl .nil) (toAlgebra_ok (p : Int) (n : Int) T f _)), fun a w g hF hS hd => by have hM := hS.mem rfl; exact par_val hS rfl (g_loadAgg ty_ag_22 hF rfl (hM.row 1 rfl) (by simp only [fnC_size, cells_size, vecC_size, tabC_size, planeC_size] <;> omega) (whole (by simp only [fnC_size, cells_size, vecC_size, tabC_size, planeC_size]))), fun a w g hF hS hd => by have hF := hF.ext1 12 (hd 2 rfl rfl); exact par_call (by repeat constructor) hS rfl (d_call Try.call37 hF (.cons rfl .nil) (toVector_ok v _)), fun a w g hF hS hd => by have hF := hF.ext1 11 (hd 1 rfl rfl); have hF := hF.ext1 13 (hd 3 rfl rfl); exact par_call (by repeat constructor) hS rfl (d_call Try.call52 hF (.cons rfl (.cons rfl .nil)) (IsInvertibleSY p n T f v _ hp hn0 hn hTp hT0 hf hv uu huu has iv hiv hc)), fun a w g hF hS hd => by have hF := hF.ext1 14 (hd 4 rfl rfl); exact par_val hS rfl (g_move hF rfl), fun a w g hF hS hd => by have hF := hF.ext1 9 (hd 5 rfl rfl); exact par_val hS rfl (g_extract hF rfl rfl), fun a w g hF hS hd => by have hF := hF.ext1 9 (hd 5 rfl rfl); exact par_val hS rfl (g_extract hF rfl rfl), fun a w g hF hS hd => by have hF := hF.ext1 15 (hd 6 rfl rfl); exact par_val hS rfl (g_assign hF rfl), trivial⟩ ?_
  intro a w' L hF hS hq
  have hF := hF.ext1 10 (hq 0 rfl rfl)
  have hF := hF.ext1 11 (hq 1 rfl rfl)
  have hF := hF.ext1 12 (hq 2 rfl rfl)
  have hF := hF.ext1 13 (hq 3 rfl rfl)
  have hF := hF.ext1 14 (hq 4 rfl rfl)
  have hF := hF.ext1 9 (hq 5 rfl rfl)
  have hF := hF.ext1 15 (hq 6 rfl rfl)
  have hF := hF.ext1 16 (hq 7 rfl rfl)
  have hF := hF.ext1 5 (hq 8 rfl rfl)
  have hM := hS.mem rfl
  change wpList Try.prog _ _ [_] _ _
  refine st hF (g_assign hF rfl) rfl fun a hF => ?_
  refine wpList_nil ?_
  refine tN ?_
  refine sq ?_
  refine c_par 9 [] [.val (.agg (algC (p : Int) (n : Int) T f)), .val (.agg (algC (p : Int) (n : Int) T f)), .val (.agg (vecC v)), .val (.agg (vecC v)), .val (.tuple #[.bool (true), .int .i64 (0)]), .val (.tuple #[.bool (true), .int .i64 (0)]), .val (.bool (true)), .val (.int .i64 (0)), .val (.bool (true))] hmix rfl hF rfl hM ⟨fun a w g hF hS hd => by have hM := hS.mem rfl; exact par_val hS rfl (g_loadAgg ty_ag_26 hF rfl (hM.row 0 rfl) (by simp only [fnC_size, cells_size, vecC_size, tabC_size, planeC_size] <;> omega) (whole cells_size)), fun a w g hF hS hd => by have hF := hF.ext1 18 (hd 0 rfl rfl); exact par_call (by repeat constructor) hS rfl (d_call Try.call17 hF (.cons rfl .nil) (toAlgebra_ok (p : Int) (n : Int) T f _)), fun a w g hF hS hd => by have hM := hS.mem rfl; exact par_val hS rfl (g_loadAgg ty_ag_22 hF rfl (hM.row 1 rfl) (by simp only [fnC_size, cells_size, vecC_size, tabC_size, planeC_size] <;> omega) (whole (by simp only [fnC_size, cells_size, vecC_size, tabC_size, planeC_size]))), fun a w g hF hS hd => by have hF := hF.ext1 20 (hd 2 rfl rfl); exact par_call (by repeat constructor) hS rfl (d_call Try.call37 hF (.cons rfl .nil) (toVector_ok v _)), fun a w g hF hS hd => by have hF := hF.ext1 19 (hd 1 rfl rfl); have hF := hF.ext1 21 (hd 3 rfl rfl); exact par_call (by repeat constructor) hS rfl (d_call Try.call53 hF (.cons rfl (.cons rfl .nil)) (IsInvertibleIY p n T f v _ hp hn0 hn hTp hT0 hf hv uu huu has iv hiv hc)), fun a w g hF hS hd => by have hF := hF.ext1 22 (hd 4 rfl rfl); exact par_val hS rfl (g_move hF rfl), fun a w g hF hS hd => by have hF := hF.ext1 17 (hd 5 rfl rfl); exact par_val hS rfl (g_extract hF rfl rfl), fun a w g hF hS hd => by have hF := hF.ext1 17 (hd 5 rfl rfl); exact par_val hS rfl (g_extract hF rfl rfl), fun a w g hF hS hd => by have hF := hF.ext1 23 (hd 6 rfl rfl); exact par_val hS rfl (g_assign hF rfl), trivial⟩ ?_
  intro a w' L hF hS hq
  have hF := hF.ext1 18 (hq 0 rfl rfl)
  have hF := hF.ext1 19 (hq 1 rfl rfl)
  have hF := hF.ext1 20 (hq 2 rfl rfl)
  have hF := hF.ext1 21 (hq 3 rfl rfl)
  have hF := hF.ext1 22 (hq 4 rfl rfl)
  have hF := hF.ext1 17 (hq 5 rfl rfl)
  have hF := hF.ext1 23 (hq 6 rfl rfl)
  have hF := hF.ext1 24 (hq 7 rfl rfl)
  have hF := hF.ext1 7 (hq 8 rfl rfl)
  have hM := hS.mem rfl
  change wpList Try.prog _ _ [_] _ _
  refine st hF (g_assign hF rfl) rfl fun a hF => ?_
  refine wpList_nil ?_
  refine tN ?_
  refine sq ?_
  refine sq ?_
  refine wp_region_lit ?_
  refine st hF (g_move hF rfl) rfl fun a hF => st hF (g_move hF rfl) rfl fun a hF => st hF (g_neqBo ty_ub_4 hF rfl rfl) rfl fun a hF => st hF (g_move hF rfl) rfl fun a hF => ?_
  by_cases g3 : (true : Bool) ≠ (true : Bool)
  ·
    first | rw [decide_eq_true g3] at hF | simp only [decide_eq_true g3] at hF
    first | exact absurd rfl g3 | exact absurd eqlaw g3 | exact absurd (by exact ⟨rfl, rfl, fun _ _ _ _ _ _ => rfl, fun _ _ => rfl⟩) g3 | (exfalso; omega)
  ·
    first | rw [decide_eq_false g3] at hF | simp only [decide_eq_false g3] at hF
    refine stY hF rfl rfl rfl (g_move hF rfl) rfl fun a hF => stY hF rfl rfl rfl (g_move hF rfl) rfl fun a hF => stY hF rfl rfl rfl (g_neq hF rfl rfl) rfl fun a hF => st hF (g_pickF hF rfl rfl) rfl fun a hF => ?_
    refine wpList_nil ?_
    refine tN ?_
    refine c_kF hF rfl (by decide) ?_
    refine wp_skip ?_
    refine tN ?_
    refine sq ?_
    refine wp_region_lit ?_
    refine st hF (g_assign hF rfl) rfl fun a hF => ?_
    refine wpList_nil ?_
    refine tN ?_
    refine wp_ret ?_
    refine fin1 rfl hF.defers (res_tmp hF rfl) ⟨_, rfl, hM.below, ?_⟩
    show _ = _
    rfl

theorem law_IsInvertibleN (p n : Nat) (T : Nat → Nat → Nat → Nat) (f : Nat → Nat) (v : Nat → Nat) (w : World) (hp : primeN p) (hn0 : 0 < n) (hn : n ≤ 6) (hTp : ∀ i j k, T i j k < p) (hT0 : ∀ i j k, n ≤ k → T i j k = 0) (hf : ∀ i, f i ≤ 255) (hv : ∀ i, v i ≤ 255) (uu : Nat → Nat) (huu : UnitI p n T uu) (has : asS p n T) (hno : ∀ q, ¬ InvI p n T uu v q) (hc : CodeP (p : Int) (n : Int) T f 1 (vAtL [v])) :
    CallsR Try.prog 15 #[.agg (algC (p : Int) (n : Int) T f), .agg (vecC v)] w (fun res _ => res = .bool true) := by
  refine calls_fr [.agg (algC (p : Int) (n : Int) T f), .agg (vecC v)] Try.func15 rfl Try.ntmps15 rfl fun a hF => ?_
  have hM : Mem w w [none, none] [] := MemX.start w 2
  change Fr 33 a [(0, .agg (algC (p : Int) (n : Int) T f)), (1, .agg (vecC v))] at hF
  have hp2 := hp.two
  have hp13 := hp.le
  have hT : ∀ i j k, T i j k ≤ 255 := fun i j k => by have := hTp i j k; omega
  have eqlaw : eqV 6 (fun _ => 0) (fun _ => 0) := fun _ _ => rfl
  refine sq ?_
  refine wp_region_lit ?_
  refine stR hF (d_box 0 hM hF rfl) rfl ?_
  rintro _ w' a ⟨b1, rfl, hM, -⟩ hF
  change Mem w w' [some (b1, algC (p : Int) (n : Int) T f), none] [] at hM
  refine stR hF (d_box 1 hM hF rfl) rfl ?_
  rintro _ w' a ⟨b2, rfl, hM, -⟩ hF
  change Mem w w' [some (b1, algC (p : Int) (n : Int) T f), some (b2, vecC v)] [] at hM
  refine st hF (g_assign hF rfl) rfl fun a hF => ?_
  refine wpList_nil ?_
  refine tN ?_
  refine sq ?_
  refine c_par 9 [] [.val (.agg (algC (p : Int) (n : Int) T f)), .val (.agg (algC (p : Int) (n : Int) T f)), .val (.agg (vecC v)), .val (.agg (vecC v)), .val (.tuple #[.bool (false), .int .i64 (0)]), .val (.tuple #[.bool (false), .int .i64 (0)]), .val (.bool (false)), .val (.int .i64 (0)), .val (.bool (false))] hmix rfl hF rfl hM ⟨fun a w g hF hS hd => by have hM := hS.mem rfl; exact par_val hS rfl (g_loadAgg ty_ag_26 hF rfl (hM.row 0 rfl) (by simp only [fnC_size, cells_size, vecC_size, tabC_size, planeC_size] <;> omega) (whole cells_size)), fun a w g hF hS hd => by have hF := hF.ext1 10 (hd 0 rfl rfl); exact par_call (by repeat constructor) hS rfl (d_call Try.call17 hF (.cons rfl .nil) (toAlgebra_ok (p : Int) (n : Int) T f _)), fun a w g hF hS hd => by have hM := hS.mem rfl; exact par_val hS rfl (g_loadAgg ty_ag_22 hF rfl (hM.row 1 rfl) (by simp only [fnC_size, cells_size, vecC_size, tabC_size, planeC_size] <;> omega) (whole (by simp only [fnC_size, cells_size, vecC_size, tabC_size, planeC_size]))), fun a w g hF hS hd => by have hF := hF.ext1 12 (hd 2 rfl rfl); exact par_call (by repeat constructor) hS rfl (d_call Try.call37 hF (.cons rfl .nil) (toVector_ok v _)), fun a w g hF hS hd => by have hF := hF.ext1 11 (hd 1 rfl rfl); have hF := hF.ext1 13 (hd 3 rfl rfl); exact par_call (by repeat constructor) hS rfl (d_call Try.call52 hF (.cons rfl (.cons rfl .nil)) (IsInvertibleSN p n T f v _ hp hn0 hn hTp hT0 hf hv uu huu has hno hc)), fun a w g hF hS hd => by have hF := hF.ext1 14 (hd 4 rfl rfl); exact par_val hS rfl (g_move hF rfl), fun a w g hF hS hd => by have hF := hF.ext1 9 (hd 5 rfl rfl); exact par_val hS rfl (g_extract hF rfl rfl), fun a w g hF hS hd => by have hF := hF.ext1 9 (hd 5 rfl rfl); exact par_val hS rfl (g_extract hF rfl rfl), fun a w g hF hS hd => by have hF := hF.ext1 15 (hd 6 rfl rfl); exact par_val hS rfl (g_assign hF rfl), trivial⟩ ?_
  intro a w' L hF hS hq
  have hF := hF.ext1 10 (hq 0 rfl rfl)
  have hF := hF.ext1 11 (hq 1 rfl rfl)
  have hF := hF.ext1 12 (hq 2 rfl rfl)
  have hF := hF.ext1 13 (hq 3 rfl rfl)
  have hF := hF.ext1 14 (hq 4 rfl rfl)
  have hF := hF.ext1 9 (hq 5 rfl rfl)
  have hF := hF.ext1 15 (hq 6 rfl rfl)
  have hF := hF.ext1 16 (hq 7 rfl rfl)
  have hF := hF.ext1 5 (hq 8 rfl rfl)
  have hM := hS.mem rfl
  change wpList Try.prog _ _ [_] _ _
  refine st hF (g_assign hF rfl) rfl fun a hF => ?_
  refine wpList_nil ?_
  refine tN ?_
  refine sq ?_
  refine c_par 9 [] [.val (.agg (algC (p : Int) (n : Int) T f)), .val (.agg (algC (p : Int) (n : Int) T f)), .val (.agg (vecC v)), .val (.agg (vecC v)), .val (.tuple #[.bool (false), .int .i64 (0)]), .val (.tuple #[.bool (false), .int .i64 (0)]), .val (.bool (false)), .val (.int .i64 (0)), .val (.bool (false))] hmix rfl hF rfl hM ⟨fun a w g hF hS hd => by have hM := hS.mem rfl; exact par_val hS rfl (g_loadAgg ty_ag_26 hF rfl (hM.row 0 rfl) (by simp only [fnC_size, cells_size, vecC_size, tabC_size, planeC_size] <;> omega) (whole cells_size)), fun a w g hF hS hd => by have hF := hF.ext1 18 (hd 0 rfl rfl); exact par_call (by repeat constructor) hS rfl (d_call Try.call17 hF (.cons rfl .nil) (toAlgebra_ok (p : Int) (n : Int) T f _)), fun a w g hF hS hd => by have hM := hS.mem rfl; exact par_val hS rfl (g_loadAgg ty_ag_22 hF rfl (hM.row 1 rfl) (by simp only [fnC_size, cells_size, vecC_size, tabC_size, planeC_size] <;> omega) (whole (by simp only [fnC_size, cells_size, vecC_size, tabC_size, planeC_size]))), fun a w g hF hS hd => by have hF := hF.ext1 20 (hd 2 rfl rfl); exact par_call (by repeat constructor) hS rfl (d_call Try.call37 hF (.cons rfl .nil) (toVector_ok v _)), fun a w g hF hS hd => by have hF := hF.ext1 19 (hd 1 rfl rfl); have hF := hF.ext1 21 (hd 3 rfl rfl); exact par_call (by repeat constructor) hS rfl (d_call Try.call53 hF (.cons rfl (.cons rfl .nil)) (IsInvertibleIN p n T f v _ hp hn0 hn hTp hT0 hf hv uu huu has hno hc)), fun a w g hF hS hd => by have hF := hF.ext1 22 (hd 4 rfl rfl); exact par_val hS rfl (g_move hF rfl), fun a w g hF hS hd => by have hF := hF.ext1 17 (hd 5 rfl rfl); exact par_val hS rfl (g_extract hF rfl rfl), fun a w g hF hS hd => by have hF := hF.ext1 17 (hd 5 rfl rfl); exact par_val hS rfl (g_extract hF rfl rfl), fun a w g hF hS hd => by have hF := hF.ext1 23 (hd 6 rfl rfl); exact par_val hS rfl (g_assign hF rfl), trivial⟩ ?_
  intro a w' L hF hS hq
  have hF := hF.ext1 18 (hq 0 rfl rfl)
  have hF := hF.ext1 19 (hq 1 rfl rfl)
  have hF := hF.ext1 20 (hq 2 rfl rfl)
  have hF := hF.ext1 21 (hq 3 rfl rfl)
  have hF := hF.ext1 22 (hq 4 rfl rfl)
  have hF := hF.ext1 17 (hq 5 rfl rfl)
  have hF := hF.ext1 23 (hq 6 rfl rfl)
  have hF := hF.ext1 24 (hq 7 rfl rfl)
  have hF := hF.ext1 7 (hq 8 rfl rfl)
  have hM := hS.mem rfl
  change wpList Try.prog _ _ [_] _ _
  refine st hF (g_assign hF rfl) rfl fun a hF => ?_
  refine wpList_nil ?_
  refine tN ?_
  refine sq ?_
  refine sq ?_
  refine wp_region_lit ?_
  refine st hF (g_move hF rfl) rfl fun a hF => st hF (g_move hF rfl) rfl fun a hF => st hF (g_neqBo ty_ub_4 hF rfl rfl) rfl fun a hF => st hF (g_move hF rfl) rfl fun a hF => ?_
  by_cases g3 : (false : Bool) ≠ (false : Bool)
  ·
    first | rw [decide_eq_true g3] at hF | simp only [decide_eq_true g3] at hF
    first | exact absurd rfl g3 | exact absurd eqlaw g3 | exact absurd (by exact ⟨rfl, rfl, fun _ _ _ _ _ _ => rfl, fun _ _ => rfl⟩) g3 | (exfalso; omega)
  ·
    first | rw [decide_eq_false g3] at hF | simp only [decide_eq_false g3] at hF
    refine stY hF rfl rfl rfl (g_move hF rfl) rfl fun a hF => stY hF rfl rfl rfl (g_move hF rfl) rfl fun a hF => stY hF rfl rfl rfl (g_neq hF rfl rfl) rfl fun a hF => st hF (g_pickF hF rfl rfl) rfl fun a hF => ?_
    refine wpList_nil ?_
    refine tN ?_
    refine c_kF hF rfl (by decide) ?_
    refine wp_skip ?_
    refine tN ?_
    refine sq ?_
    refine wp_region_lit ?_
    refine st hF (g_assign hF rfl) rfl fun a hF => ?_
    refine wpList_nil ?_
    refine tN ?_
    refine wp_ret ?_
    refine fin1 rfl hF.defers (res_tmp hF rfl) ⟨_, rfl, hM.below, ?_⟩
    show _ = _
    rfl

theorem law_IsInvertible (p n : Int) (T : Nat → Nat → Nat → Nat) (f : Nat → Nat) (v : Nat → Nat) (w : World) (hT : ∀ i j k, T i j k ≤ 255) (hf : ∀ i, f i ≤ 255) (hv : ∀ i, v i ≤ 255) : CallsV Try.prog 15 #[.agg (algC p n T f), .agg (vecC v)] w (.bool true) := by
  by_cases hc : CodeP p n T f 1 (vAtL [v])
  · have hs := hc.1.1
    have hp0 := primeP_pos hs.1
    have hn := hs.2.1
    have e1 : ((p.toNat : Nat) : Int) = p := by omega
    have e2 : ((n.toNat : Nat) : Int) = n := by omega
    have has := hc.1.2.1
    obtain ⟨uu, huu⟩ := hc.1.2.2
    have hc2 : CodeP ((p.toNat : Nat) : Int) ((n.toNat : Nat) : Int) (trunc n.toNat T) f 1 (vAtL [v]) := by rw [e1, e2]; exact code_trunc hc
    by_cases hi : ∃ iv, InvI p.toNat n.toNat (trunc n.toNat T) uu v iv
    · obtain ⟨iv, hiv⟩ := hi
      have h := law_IsInvertibleY p.toNat n.toNat (trunc n.toNat T) f v w (primeN_of hs.1) (by omega) (by omega) (trunc_lt hs) trunc_out hf hv uu huu has iv hiv hc2
      rw [e1, e2, ← algC_trunc hs] at h
      exact h
    · have h := law_IsInvertibleN p.toNat n.toNat (trunc n.toNat T) f v w (primeN_of hs.1) (by omega) (by omega) (trunc_lt hs) trunc_out hf hv uu huu has (fun q hq => hi ⟨q, hq⟩) hc2
      rw [e1, e2, ← algC_trunc hs] at h
      exact h
  · exact law_IsInvertibleA p n T f v w hT hf hv hc

end Go.Proofs.Ytclfbjfgmocbhaa

namespace Go.Proofs.Ytclfbjfgmocbhaa
open Go Go.RowKit Go.Sw Go.Ech
open Classical
theorem ty_bu_32 : ∀ w, (Instr.build 32 #[]).run Try.prog w = .ok (.agg (algC 0 0 (fun _ _ _ => 0) (fun _ => 0))) w := by intros; kernel_rfl
theorem algC_setf {p n : Int} {T : Nat → Nat → Nat → Nat} {f g : Nat → Nat} {i o x : Nat} (ho : o = 218 + i) (hi : i < 6) (hg : ∀ j, j < 6 → g j = if j = i then x else f j) : (algC p n T f).setIfInBounds o (.int .u8 ((x : Nat) : Int)) = algC p n T g := by
  subst ho
  unfold algC
  refine fnC_set fun j hj => ?_
  by_cases e : j = 218 + i
  · rw [if_pos e, if_neg (by omega), if_neg (by omega), if_neg (by omega), hg _ (by omega), if_pos (by omega)]
  · rw [if_neg e]
    by_cases h2 : j < 218
    · simp only [if_pos h2]
    · rw [if_neg (by omega), if_neg (by omega), if_neg h2, if_neg (by omega), if_neg (by omega), if_neg h2, hg _ (by omega), if_neg (by omega)]

theorem frobeniusFault_okA (p n : Int) (T : Nat → Nat → Nat → Nat) (f : Nat → Nat) (b c m : Nat) (V : Nat → Nat → Nat) (w : World) (hT : ∀ i j k, T i j k ≤ 255) (hf : ∀ i, f i ≤ 255) (hV : ∀ i c, V i c ≤ 255) (hm : m < 1000) (hb : Blk w b (vecsC m V)) (hc : ¬ CodeP p n T f m V) :
    CallsR Try.prog 77 #[.agg (algC p n T f), .slice (some ⟨b, 0, none⟩) (m) (c)] w (fun res _ => res = .int .i64 1) := by
  refine calls_fr [.agg (algC p n T f), .slice (some ⟨b, 0, none⟩) (m) (c)] Try.func77 rfl Try.ntmps77 rfl fun a hF => ?_
  have hM : Mem w w [none] [(b, vecsC m V)] := MemX.startD w 1 _ (startD1 hb)
  change Fr 12 a [(0, .agg (algC p n T f)), (1, .slice (some ⟨b, 0, none⟩) (m) (c))] at hF
  refine sq ?_
  refine wp_region_lit ?_
  refine stR hF (d_box 0 hM hF rfl) rfl ?_
  rintro _ w' a ⟨b1, rfl, hM, -⟩ hF
  change Mem w w' [some (b1, algC p n T f)] [(b, vecsC m V)] at hM
  refine st hF (g_assign hF rfl) rfl fun a hF => ?_
  refine wpList_nil ?_
  refine tN ?_
  refine sq ?_
  refine sq ?_
  refine wp_region_lit ?_
  refine st hF (g_loadAgg ty_ag_32 hF rfl (hM.row 0 rfl) (by simp only [fnC_size, cells_size, vecC_size, tabC_size, planeC_size] <;> omega) (whole cells_size)) rfl fun a hF => st hF (g_move hF rfl) rfl fun a hF => ?_
  refine stR hF (d_call Try.call92 hF (.cons rfl (.cons rfl .nil)) ((CallsR.val (areVectors_ok p n T f b c m V _ (fun _ _ _ => hT _ _ _) (fun _ => hf _) hV hm (hM.fzm (List.mem_cons_self ..))) (congrArg Value.bool (decide_eq_false hc))))) rfl ?_
  rintro _ w' a ⟨hx, rfl⟩ hF
  have hM := hM.ext hx
  refine st hF (g_not hF rfl) rfl fun a hF => ?_
  refine wpList_nil ?_
  refine tN ?_
  refine c_T hF rfl ?_
  refine sq ?_
  refine wp_region_lit ?_
  refine st hF (g_assign hF rfl) rfl fun a hF => ?_
  refine wpList_nil ?_
  refine tN ?_
  refine wp_ret ?_
  refine tR ?_
  refine fin1 rfl hF.defers (res_tmp hF rfl) ⟨_, rfl, hM.below, ?_⟩
  show _ = _
  rfl

theorem frobeniusFault_0A (p n : Int) (T : Nat → Nat → Nat → Nat) (f : Nat → Nat) (w : World) (hT : ∀ i j k, T i j k ≤ 255) (hf : ∀ i, f i ≤ 255) (hc : ¬ CodeP p n T f 0 (vAtL [])) :
    CallsR Try.prog 77 #[.agg (algC p n T f), .slice none 0 0] w (fun res _ => res = .int .i64 1) := by
  refine calls_fr [.agg (algC p n T f), .slice none 0 0] Try.func77 rfl Try.ntmps77 rfl fun a hF => ?_
  have hM : Mem w w [none] [] := MemX.start w 1
  change Fr 12 a [(0, .agg (algC p n T f)), (1, .slice none 0 0)] at hF
  refine sq ?_
  refine wp_region_lit ?_
  refine stR hF (d_box 0 hM hF rfl) rfl ?_
  rintro _ w' a ⟨b1, rfl, hM, -⟩ hF
  change Mem w w' [some (b1, algC p n T f)] [] at hM
  refine st hF (g_assign hF rfl) rfl fun a hF => ?_
  refine wpList_nil ?_
  refine tN ?_
  refine sq ?_
  refine sq ?_
  refine wp_region_lit ?_
  refine st hF (g_loadAgg ty_ag_32 hF rfl (hM.row 0 rfl) (by simp only [fnC_size, cells_size, vecC_size, tabC_size, planeC_size] <;> omega) (whole cells_size)) rfl fun a hF => st hF (g_move hF rfl) rfl fun a hF => ?_
  refine stR hF (d_call Try.call92 hF (.cons rfl (.cons rfl .nil)) ((CallsR.val (areVectors_0 p n T f (vAtL []) _ (fun _ _ _ => hT _ _ _) (fun _ => hf _)) (congrArg Value.bool (decide_eq_false hc))))) rfl ?_
  rintro _ w' a ⟨hx, rfl⟩ hF
  have hM := hM.ext hx
  refine st hF (g_not hF rfl) rfl fun a hF => ?_
  refine wpList_nil ?_
  refine tN ?_
  refine c_T hF rfl ?_
  refine sq ?_
  refine wp_region_lit ?_
  refine st hF (g_assign hF rfl) rfl fun a hF => ?_
  refine wpList_nil ?_
  refine tN ?_
  refine wp_ret ?_
  refine tR ?_
  refine fin1 rfl hF.defers (res_tmp hF rfl) ⟨_, rfl, hM.below, ?_⟩
  show _ = _
  rfl

theorem frobeniusFault_okF (p n : Nat) (T : Nat → Nat → Nat → Nat) (f : Nat → Nat) (b c m : Nat) (V : Nat → Nat → Nat) (w : World) (hp : primeN p) (hn0 : 0 < n) (hn : n ≤ 6) (hTp : ∀ i j k, T i j k < p) (hf : ∀ i, f i ≤ 255) (hV : ∀ i c, V i c ≤ 255) (hm : m < 1000) (hb : Blk w b (vecsC m V)) (hfr : ¬ FrobN p n T f) (hc : CodeP (p : Int) (n : Int) T f m V) :
    CallsR Try.prog 77 #[.agg (algC (p : Int) (n : Int) T f), .slice (some ⟨b, 0, none⟩) (m) (c)] w (fun res _ => res = .int .i64 5) := by
  refine calls_fr [.agg (algC (p : Int) (n : Int) T f), .slice (some ⟨b, 0, none⟩) (m) (c)] Try.func77 rfl Try.ntmps77 rfl fun a hF => ?_
  have hM : Mem w w [none] [(b, vecsC m V)] := MemX.startD w 1 _ (startD1 hb)
  change Fr 12 a [(0, .agg (algC (p : Int) (n : Int) T f)), (1, .slice (some ⟨b, 0, none⟩) (m) (c))] at hF
  have hp2 := hp.two
  have hp13 := hp.le
  have hT : ∀ i j k, T i j k ≤ 255 := fun i j k => by have := hTp i j k; omega
  refine sq ?_
  refine wp_region_lit ?_
  refine stR hF (d_box 0 hM hF rfl) rfl ?_
  rintro _ w' a ⟨b1, rfl, hM, -⟩ hF
  change Mem w w' [some (b1, algC (p : Int) (n : Int) T f)] [(b, vecsC m V)] at hM
  refine st hF (g_assign hF rfl) rfl fun a hF => ?_
  refine wpList_nil ?_
  refine tN ?_
  refine sq ?_
  refine sq ?_
  refine wp_region_lit ?_
  refine st hF (g_loadAgg ty_ag_32 hF rfl (hM.row 0 rfl) (by simp only [fnC_size, cells_size, vecC_size, tabC_size, planeC_size] <;> omega) (whole cells_size)) rfl fun a hF => st hF (g_move hF rfl) rfl fun a hF => ?_
  refine stR hF (d_call Try.call92 hF (.cons rfl (.cons rfl .nil)) ((CallsR.val (areVectors_ok (p : Int) (n : Int) T f b c m V _ (fun _ _ _ => hT _ _ _) (fun _ => hf _) hV hm (hM.fzm (List.mem_cons_self ..))) (congrArg Value.bool (decide_eq_true hc))))) rfl ?_
  rintro _ w' a ⟨hx, rfl⟩ hF
  have hM := hM.ext hx
  refine st hF (g_not hF rfl) rfl fun a hF => ?_
  refine wpList_nil ?_
  refine tN ?_
  refine c_Fl hF rfl ?_
  refine wp_skip ?_
  refine tN ?_
  refine sq ?_
  refine sq ?_
  refine wp_region_lit ?_
  refine st hF (g_loadAgg ty_ag_32 hF rfl (hM.row 0 rfl) (by simp only [fnC_size, cells_size, vecC_size, tabC_size, planeC_size] <;> omega) (whole cells_size)) rfl fun a hF => ?_
  refine stR hF (d_call Try.call93 hF (.cons rfl .nil) ((CallsR.val (hasFullForm_ok p n T f _ hp hn0 hn (fun _ _ _ => hT _ _ _) (fun _ => hf _)) (congrArg Value.bool (decide_eq_false hfr))))) rfl ?_
  rintro _ w' a ⟨hx, rfl⟩ hF
  have hM := hM.ext hx
  refine st hF (g_not hF rfl) rfl fun a hF => ?_
  refine wpList_nil ?_
  refine tN ?_
  refine c_T hF rfl ?_
  refine sq ?_
  refine wp_region_lit ?_
  refine st hF (g_assign hF rfl) rfl fun a hF => ?_
  refine wpList_nil ?_
  refine tN ?_
  refine wp_ret ?_
  refine tR ?_
  refine fin1 rfl hF.defers (res_tmp hF rfl) ⟨_, rfl, hM.below, ?_⟩
  show _ = _
  rfl

theorem frobeniusFault_0F (p n : Nat) (T : Nat → Nat → Nat → Nat) (f : Nat → Nat) (w : World) (hp : primeN p) (hn0 : 0 < n) (hn : n ≤ 6) (hTp : ∀ i j k, T i j k < p) (hf : ∀ i, f i ≤ 255) (hfr : ¬ FrobN p n T f) (hc : CodeP (p : Int) (n : Int) T f 0 (vAtL [])) :
    CallsR Try.prog 77 #[.agg (algC (p : Int) (n : Int) T f), .slice none 0 0] w (fun res _ => res = .int .i64 5) := by
  refine calls_fr [.agg (algC (p : Int) (n : Int) T f), .slice none 0 0] Try.func77 rfl Try.ntmps77 rfl fun a hF => ?_
  have hM : Mem w w [none] [] := MemX.start w 1
  change Fr 12 a [(0, .agg (algC (p : Int) (n : Int) T f)), (1, .slice none 0 0)] at hF
  have hp2 := hp.two
  have hp13 := hp.le
  have hT : ∀ i j k, T i j k ≤ 255 := fun i j k => by have := hTp i j k; omega
  refine sq ?_
  refine wp_region_lit ?_
  refine stR hF (d_box 0 hM hF rfl) rfl ?_
  rintro _ w' a ⟨b1, rfl, hM, -⟩ hF
  change Mem w w' [some (b1, algC (p : Int) (n : Int) T f)] [] at hM
  refine st hF (g_assign hF rfl) rfl fun a hF => ?_
  refine wpList_nil ?_
  refine tN ?_
  refine sq ?_
  refine sq ?_
  refine wp_region_lit ?_
  refine st hF (g_loadAgg ty_ag_32 hF rfl (hM.row 0 rfl) (by simp only [fnC_size, cells_size, vecC_size, tabC_size, planeC_size] <;> omega) (whole cells_size)) rfl fun a hF => st hF (g_move hF rfl) rfl fun a hF => ?_
  refine stR hF (d_call Try.call92 hF (.cons rfl (.cons rfl .nil)) ((CallsR.val (areVectors_0 (p : Int) (n : Int) T f (vAtL []) _ (fun _ _ _ => hT _ _ _) (fun _ => hf _)) (congrArg Value.bool (decide_eq_true hc))))) rfl ?_
  rintro _ w' a ⟨hx, rfl⟩ hF
  have hM := hM.ext hx
  refine st hF (g_not hF rfl) rfl fun a hF => ?_
  refine wpList_nil ?_
  refine tN ?_
  refine c_Fl hF rfl ?_
  refine wp_skip ?_
  refine tN ?_
  refine sq ?_
  refine sq ?_
  refine wp_region_lit ?_
  refine st hF (g_loadAgg ty_ag_32 hF rfl (hM.row 0 rfl) (by simp only [fnC_size, cells_size, vecC_size, tabC_size, planeC_size] <;> omega) (whole cells_size)) rfl fun a hF => ?_
  refine stR hF (d_call Try.call93 hF (.cons rfl .nil) ((CallsR.val (hasFullForm_ok p n T f _ hp hn0 hn (fun _ _ _ => hT _ _ _) (fun _ => hf _)) (congrArg Value.bool (decide_eq_false hfr))))) rfl ?_
  rintro _ w' a ⟨hx, rfl⟩ hF
  have hM := hM.ext hx
  refine st hF (g_not hF rfl) rfl fun a hF => ?_
  refine wpList_nil ?_
  refine tN ?_
  refine c_T hF rfl ?_
  refine sq ?_
  refine wp_region_lit ?_
  refine st hF (g_assign hF rfl) rfl fun a hF => ?_
  refine wpList_nil ?_
  refine tN ?_
  refine wp_ret ?_
  refine tR ?_
  refine fin1 rfl hF.defers (res_tmp hF rfl) ⟨_, rfl, hM.below, ?_⟩
  show _ = _
  rfl

theorem frobeniusFault_okY (p n : Nat) (T : Nat → Nat → Nat → Nat) (f : Nat → Nat) (b c m : Nat) (V : Nat → Nat → Nat) (w : World) (hp : primeN p) (hn0 : 0 < n) (hn : n ≤ 6) (hTp : ∀ i j k, T i j k < p) (hf : ∀ i, f i ≤ 255) (hV : ∀ i c, V i c ≤ 255) (hm : m < 1000) (hb : Blk w b (vecsC m V)) (hfr : FrobN p n T f) (hc : CodeP (p : Int) (n : Int) T f m V) :
    CallsR Try.prog 77 #[.agg (algC (p : Int) (n : Int) T f), .slice (some ⟨b, 0, none⟩) (m) (c)] w (fun res _ => res = .int .i64 0) := by
  refine calls_fr [.agg (algC (p : Int) (n : Int) T f), .slice (some ⟨b, 0, none⟩) (m) (c)] Try.func77 rfl Try.ntmps77 rfl fun a hF => ?_
  have hM : Mem w w [none] [(b, vecsC m V)] := MemX.startD w 1 _ (startD1 hb)
  change Fr 12 a [(0, .agg (algC (p : Int) (n : Int) T f)), (1, .slice (some ⟨b, 0, none⟩) (m) (c))] at hF
  have hp2 := hp.two
  have hp13 := hp.le
  have hT : ∀ i j k, T i j k ≤ 255 := fun i j k => by have := hTp i j k; omega
  refine sq ?_
  refine wp_region_lit ?_
  refine stR hF (d_box 0 hM hF rfl) rfl ?_
  rintro _ w' a ⟨b1, rfl, hM, -⟩ hF
  change Mem w w' [some (b1, algC (p : Int) (n : Int) T f)] [(b, vecsC m V)] at hM
  refine st hF (g_assign hF rfl) rfl fun a hF => ?_
  refine wpList_nil ?_
  refine tN ?_
  refine sq ?_
  refine sq ?_
  refine wp_region_lit ?_
  refine st hF (g_loadAgg ty_ag_32 hF rfl (hM.row 0 rfl) (by simp only [fnC_size, cells_size, vecC_size, tabC_size, planeC_size] <;> omega) (whole cells_size)) rfl fun a hF => st hF (g_move hF rfl) rfl fun a hF => ?_
  refine stR hF (d_call Try.call92 hF (.cons rfl (.cons rfl .nil)) ((CallsR.val (areVectors_ok (p : Int) (n : Int) T f b c m V _ (fun _ _ _ => hT _ _ _) (fun _ => hf _) hV hm (hM.fzm (List.mem_cons_self ..))) (congrArg Value.bool (decide_eq_true hc))))) rfl ?_
  rintro _ w' a ⟨hx, rfl⟩ hF
  have hM := hM.ext hx
  refine st hF (g_not hF rfl) rfl fun a hF => ?_
  refine wpList_nil ?_
  refine tN ?_
  refine c_Fl hF rfl ?_
  refine wp_skip ?_
  refine tN ?_
  refine sq ?_
  refine sq ?_
  refine wp_region_lit ?_
  refine st hF (g_loadAgg ty_ag_32 hF rfl (hM.row 0 rfl) (by simp only [fnC_size, cells_size, vecC_size, tabC_size, planeC_size] <;> omega) (whole cells_size)) rfl fun a hF => ?_
  refine stR hF (d_call Try.call93 hF (.cons rfl .nil) ((CallsR.val (hasFullForm_ok p n T f _ hp hn0 hn (fun _ _ _ => hT _ _ _) (fun _ => hf _)) (congrArg Value.bool (decide_eq_true hfr))))) rfl ?_
  rintro _ w' a ⟨hx, rfl⟩ hF
  have hM := hM.ext hx
  refine st hF (g_not hF rfl) rfl fun a hF => ?_
  refine wpList_nil ?_
  refine tN ?_
  refine c_Fl hF rfl ?_
  refine wp_skip ?_
  refine tN ?_
  refine sq ?_
  refine wp_region_lit ?_
  refine st hF (g_assign hF rfl) rfl fun a hF => ?_
  refine wpList_nil ?_
  refine tN ?_
  refine wp_ret ?_
  refine fin1 rfl hF.defers (res_tmp hF rfl) ⟨_, rfl, hM.below, ?_⟩
  show _ = _
  rfl

theorem frobeniusFault_0Y (p n : Nat) (T : Nat → Nat → Nat → Nat) (f : Nat → Nat) (w : World) (hp : primeN p) (hn0 : 0 < n) (hn : n ≤ 6) (hTp : ∀ i j k, T i j k < p) (hf : ∀ i, f i ≤ 255) (hfr : FrobN p n T f) (hc : CodeP (p : Int) (n : Int) T f 0 (vAtL [])) :
    CallsR Try.prog 77 #[.agg (algC (p : Int) (n : Int) T f), .slice none 0 0] w (fun res _ => res = .int .i64 0) := by
  refine calls_fr [.agg (algC (p : Int) (n : Int) T f), .slice none 0 0] Try.func77 rfl Try.ntmps77 rfl fun a hF => ?_
  have hM : Mem w w [none] [] := MemX.start w 1
  change Fr 12 a [(0, .agg (algC (p : Int) (n : Int) T f)), (1, .slice none 0 0)] at hF
  have hp2 := hp.two
  have hp13 := hp.le
  have hT : ∀ i j k, T i j k ≤ 255 := fun i j k => by have := hTp i j k; omega
  refine sq ?_
  refine wp_region_lit ?_
  refine stR hF (d_box 0 hM hF rfl) rfl ?_
  rintro _ w' a ⟨b1, rfl, hM, -⟩ hF
  change Mem w w' [some (b1, algC (p : Int) (n : Int) T f)] [] at hM
  refine st hF (g_assign hF rfl) rfl fun a hF => ?_
  refine wpList_nil ?_
  refine tN ?_
  refine sq ?_
  refine sq ?_
  refine wp_region_lit ?_
  refine st hF (g_loadAgg ty_ag_32 hF rfl (hM.row 0 rfl) (by simp only [fnC_size, cells_size, vecC_size, tabC_size, planeC_size] <;> omega) (whole cells_size)) rfl fun a hF => st hF (g_move hF rfl) rfl fun a hF => ?_
  refine stR hF (d_call Try.call92 hF (.cons rfl (.cons rfl .nil)) ((CallsR.val (areVectors_0 (p : Int) (n : Int) T f (vAtL []) _ (fun _ _ _ => hT _ _ _) (fun _ => hf _)) (congrArg Value.bool (decide_eq_true hc))))) rfl ?_
  rintro _ w' a ⟨hx, rfl⟩ hF
  have hM := hM.ext hx
  refine st hF (g_not hF rfl) rfl fun a hF => ?_
  refine wpList_nil ?_
  refine tN ?_
  refine c_Fl hF rfl ?_
  refine wp_skip ?_
  refine tN ?_
  refine sq ?_
  refine sq ?_
  refine wp_region_lit ?_
  refine st hF (g_loadAgg ty_ag_32 hF rfl (hM.row 0 rfl) (by simp only [fnC_size, cells_size, vecC_size, tabC_size, planeC_size] <;> omega) (whole cells_size)) rfl fun a hF => ?_
  refine stR hF (d_call Try.call93 hF (.cons rfl .nil) ((CallsR.val (hasFullForm_ok p n T f _ hp hn0 hn (fun _ _ _ => hT _ _ _) (fun _ => hf _)) (congrArg Value.bool (decide_eq_true hfr))))) rfl ?_
  rintro _ w' a ⟨hx, rfl⟩ hF
  have hM := hM.ext hx
  refine st hF (g_not hF rfl) rfl fun a hF => ?_
  refine wpList_nil ?_
  refine tN ?_
  refine c_Fl hF rfl ?_
  refine wp_skip ?_
  refine tN ?_
  refine sq ?_
  refine wp_region_lit ?_
  refine st hF (g_assign hF rfl) rfl fun a hF => ?_
  refine wpList_nil ?_
  refine tN ?_
  refine wp_ret ?_
  refine fin1 rfl hF.defers (res_tmp hF rfl) ⟨_, rfl, hM.below, ?_⟩
  show _ = _
  rfl

theorem l02Code_okA (p n : Int) (T : Nat → Nat → Nat → Nat) (f : Nat → Nat) (b c m : Nat) (V : Nat → Nat → Nat) (w : World) (hT : ∀ i j k, T i j k ≤ 255) (hf : ∀ i, f i ≤ 255) (hV : ∀ i c, V i c ≤ 255) (hm : m < 1000) (hb : Blk w b (vecsC m V)) (hc : ¬ CodeP p n T f m V) :
    CallsR Try.prog 75 #[.agg (algC p n T f), .slice (some ⟨b, 0, none⟩) (m) (c)] w (fun res _ => res = .int .i64 1) := by
  refine calls_fr [.agg (algC p n T f), .slice (some ⟨b, 0, none⟩) (m) (c)] Try.func75 rfl Try.ntmps75 rfl fun a hF => ?_
  have hM : Mem w w [none] [(b, vecsC m V)] := MemX.startD w 1 _ (startD1 hb)
  change Fr 14 a [(0, .agg (algC p n T f)), (1, .slice (some ⟨b, 0, none⟩) (m) (c))] at hF
  refine sq ?_
  refine wp_region_lit ?_
  refine stR hF (d_box 0 hM hF rfl) rfl ?_
  rintro _ w' a ⟨b1, rfl, hM, -⟩ hF
  change Mem w w' [some (b1, algC p n T f)] [(b, vecsC m V)] at hM
  refine st hF (g_assign hF rfl) rfl fun a hF => ?_
  refine wpList_nil ?_
  refine tN ?_
  refine sq ?_
  refine wp_block ?_
  refine sq ?_
  refine wp_region_lit ?_
  refine st hF (g_loadAgg ty_ag_32 hF rfl (hM.row 0 rfl) (by simp only [fnC_size, cells_size, vecC_size, tabC_size, planeC_size] <;> omega) (whole cells_size)) rfl fun a hF => st hF (g_move hF rfl) rfl fun a hF => ?_
  refine stR hF (d_call Try.call54 hF (.cons rfl (.cons rfl .nil)) ((CallsR.val (l01Code_ok p n T f b c m V _ (fun _ _ _ => hT _ _ _) (fun _ => hf _) hV hm (hM.fzm (List.mem_cons_self ..))) (congrArg (Value.int .i64) (if_neg hc))))) rfl ?_
  rintro _ w' a ⟨hx, rfl⟩ hF
  have hM := hM.ext hx
  refine st hF (g_neq hF rfl rfl) rfl fun a hF => st hF (g_assign hF rfl) rfl fun a hF => ?_
  refine wpList_nil ?_
  refine tN ?_
  refine c_kT hF rfl (by decide) ?_
  refine sq ?_
  refine wp_region_lit ?_
  refine st hF (g_assign hF rfl) rfl fun a hF => ?_
  refine wpList_nil ?_
  refine tN ?_
  refine wp_ret ?_
  refine iR ?_
  refine tR ?_
  refine fin1 rfl hF.defers (res_tmp hF rfl) ⟨_, rfl, hM.below, ?_⟩
  show _ = _
  rfl

theorem l02Code_0A (p n : Int) (T : Nat → Nat → Nat → Nat) (f : Nat → Nat) (w : World) (hT : ∀ i j k, T i j k ≤ 255) (hf : ∀ i, f i ≤ 255) (hc : ¬ CodeP p n T f 0 (vAtL [])) :
    CallsR Try.prog 75 #[.agg (algC p n T f), .slice none 0 0] w (fun res _ => res = .int .i64 1) := by
  refine calls_fr [.agg (algC p n T f), .slice none 0 0] Try.func75 rfl Try.ntmps75 rfl fun a hF => ?_
  have hM : Mem w w [none] [] := MemX.start w 1
  change Fr 14 a [(0, .agg (algC p n T f)), (1, .slice none 0 0)] at hF
  refine sq ?_
  refine wp_region_lit ?_
  refine stR hF (d_box 0 hM hF rfl) rfl ?_
  rintro _ w' a ⟨b1, rfl, hM, -⟩ hF
  change Mem w w' [some (b1, algC p n T f)] [] at hM
  refine st hF (g_assign hF rfl) rfl fun a hF => ?_
  refine wpList_nil ?_
  refine tN ?_
  refine sq ?_
  refine wp_block ?_
  refine sq ?_
  refine wp_region_lit ?_
  refine st hF (g_loadAgg ty_ag_32 hF rfl (hM.row 0 rfl) (by simp only [fnC_size, cells_size, vecC_size, tabC_size, planeC_size] <;> omega) (whole cells_size)) rfl fun a hF => st hF (g_move hF rfl) rfl fun a hF => ?_
  refine stR hF (d_call Try.call54 hF (.cons rfl (.cons rfl .nil)) ((CallsR.val (l01Code_0 p n T f (vAtL []) _ (fun _ _ _ => hT _ _ _) (fun _ => hf _)) (congrArg (Value.int .i64) (if_neg hc))))) rfl ?_
  rintro _ w' a ⟨hx, rfl⟩ hF
  have hM := hM.ext hx
  refine st hF (g_neq hF rfl rfl) rfl fun a hF => st hF (g_assign hF rfl) rfl fun a hF => ?_
  refine wpList_nil ?_
  refine tN ?_
  refine c_kT hF rfl (by decide) ?_
  refine sq ?_
  refine wp_region_lit ?_
  refine st hF (g_assign hF rfl) rfl fun a hF => ?_
  refine wpList_nil ?_
  refine tN ?_
  refine wp_ret ?_
  refine iR ?_
  refine tR ?_
  refine fin1 rfl hF.defers (res_tmp hF rfl) ⟨_, rfl, hM.below, ?_⟩
  show _ = _
  rfl

theorem l02Code_okF (p n : Nat) (T : Nat → Nat → Nat → Nat) (f : Nat → Nat) (b c m : Nat) (V : Nat → Nat → Nat) (w : World) (hp : primeN p) (hn0 : 0 < n) (hn : n ≤ 6) (hTp : ∀ i j k, T i j k < p) (hf : ∀ i, f i ≤ 255) (hV : ∀ i c, V i c ≤ 255) (hm : m < 1000) (hb : Blk w b (vecsC m V)) (hfr : ¬ FrobN p n T f) (hc : CodeP (p : Int) (n : Int) T f m V) :
    CallsR Try.prog 75 #[.agg (algC (p : Int) (n : Int) T f), .slice (some ⟨b, 0, none⟩) (m) (c)] w (fun res _ => res = .int .i64 5) := by
  refine calls_fr [.agg (algC (p : Int) (n : Int) T f), .slice (some ⟨b, 0, none⟩) (m) (c)] Try.func75 rfl Try.ntmps75 rfl fun a hF => ?_
  have hM : Mem w w [none] [(b, vecsC m V)] := MemX.startD w 1 _ (startD1 hb)
  change Fr 14 a [(0, .agg (algC (p : Int) (n : Int) T f)), (1, .slice (some ⟨b, 0, none⟩) (m) (c))] at hF
  have hp2 := hp.two
  have hp13 := hp.le
  have hT : ∀ i j k, T i j k ≤ 255 := fun i j k => by have := hTp i j k; omega
  refine sq ?_
  refine wp_region_lit ?_
  refine stR hF (d_box 0 hM hF rfl) rfl ?_
  rintro _ w' a ⟨b1, rfl, hM, -⟩ hF
  change Mem w w' [some (b1, algC (p : Int) (n : Int) T f)] [(b, vecsC m V)] at hM
  refine st hF (g_assign hF rfl) rfl fun a hF => ?_
  refine wpList_nil ?_
  refine tN ?_
  refine sq ?_
  refine wp_block ?_
  refine sq ?_
  refine wp_region_lit ?_
  refine st hF (g_loadAgg ty_ag_32 hF rfl (hM.row 0 rfl) (by simp only [fnC_size, cells_size, vecC_size, tabC_size, planeC_size] <;> omega) (whole cells_size)) rfl fun a hF => st hF (g_move hF rfl) rfl fun a hF => ?_
  refine stR hF (d_call Try.call54 hF (.cons rfl (.cons rfl .nil)) ((CallsR.val (l01Code_ok (p : Int) (n : Int) T f b c m V _ (fun _ _ _ => hT _ _ _) (fun _ => hf _) hV hm (hM.fzm (List.mem_cons_self ..))) (congrArg (Value.int .i64) (if_pos hc))))) rfl ?_
  rintro _ w' a ⟨hx, rfl⟩ hF
  have hM := hM.ext hx
  refine st hF (g_neq hF rfl rfl) rfl fun a hF => st hF (g_assign hF rfl) rfl fun a hF => ?_
  refine wpList_nil ?_
  refine tN ?_
  refine c_kF hF rfl (by decide) ?_
  refine sq ?_
  refine wp_region_lit ?_
  refine st hF (g_loadAgg ty_ag_32 hF rfl (hM.row 0 rfl) (by simp only [fnC_size, cells_size, vecC_size, tabC_size, planeC_size] <;> omega) (whole cells_size)) rfl fun a hF => ?_
  refine stR hF (d_call Try.call114 hF (.cons rfl .nil) ((CallsR.val (l01Frobenius_ok p n T f _ hp hn0 hn (fun _ _ _ => hT _ _ _) (fun _ => hf _)) (congrArg Value.bool (decide_eq_false hfr))))) rfl ?_
  rintro _ w' a ⟨hx, rfl⟩ hF
  have hM := hM.ext hx
  refine st hF (g_not hF rfl) rfl fun a hF => st hF (g_assign hF rfl) rfl fun a hF => ?_
  refine wpList_nil ?_
  refine tN ?_
  refine c_T hF rfl ?_
  refine sq ?_
  refine wp_region_lit ?_
  refine st hF (g_assign hF rfl) rfl fun a hF => ?_
  refine wpList_nil ?_
  refine tN ?_
  refine wp_ret ?_
  refine iR ?_
  refine tR ?_
  refine fin1 rfl hF.defers (res_tmp hF rfl) ⟨_, rfl, hM.below, ?_⟩
  show _ = _
  rfl

theorem l02Code_0F (p n : Nat) (T : Nat → Nat → Nat → Nat) (f : Nat → Nat) (w : World) (hp : primeN p) (hn0 : 0 < n) (hn : n ≤ 6) (hTp : ∀ i j k, T i j k < p) (hf : ∀ i, f i ≤ 255) (hfr : ¬ FrobN p n T f) (hc : CodeP (p : Int) (n : Int) T f 0 (vAtL [])) :
    CallsR Try.prog 75 #[.agg (algC (p : Int) (n : Int) T f), .slice none 0 0] w (fun res _ => res = .int .i64 5) := by
  refine calls_fr [.agg (algC (p : Int) (n : Int) T f), .slice none 0 0] Try.func75 rfl Try.ntmps75 rfl fun a hF => ?_
  have hM : Mem w w [none] [] := MemX.start w 1
  change Fr 14 a [(0, .agg (algC (p : Int) (n : Int) T f)), (1, .slice none 0 0)] at hF
  have hp2 := hp.two
  have hp13 := hp.le
  have hT : ∀ i j k, T i j k ≤ 255 := fun i j k => by have := hTp i j k; omega
  refine sq ?_
  refine wp_region_lit ?_
  refine stR hF (d_box 0 hM hF rfl) rfl ?_
  rintro _ w' a ⟨b1, rfl, hM, -⟩ hF
  change Mem w w' [some (b1, algC (p : Int) (n : Int) T f)] [] at hM
  refine st hF (g_assign hF rfl) rfl fun a hF => ?_
  refine wpList_nil ?_
  refine tN ?_
  refine sq ?_
  refine wp_block ?_
  refine sq ?_
  refine wp_region_lit ?_
  refine st hF (g_loadAgg ty_ag_32 hF rfl (hM.row 0 rfl) (by simp only [fnC_size, cells_size, vecC_size, tabC_size, planeC_size] <;> omega) (whole cells_size)) rfl fun a hF => st hF (g_move hF rfl) rfl fun a hF => ?_
  refine stR hF (d_call Try.call54 hF (.cons rfl (.cons rfl .nil)) ((CallsR.val (l01Code_0 (p : Int) (n : Int) T f (vAtL []) _ (fun _ _ _ => hT _ _ _) (fun _ => hf _)) (congrArg (Value.int .i64) (if_pos hc))))) rfl ?_
  rintro _ w' a ⟨hx, rfl⟩ hF
  have hM := hM.ext hx
  refine st hF (g_neq hF rfl rfl) rfl fun a hF => st hF (g_assign hF rfl) rfl fun a hF => ?_
  refine wpList_nil ?_
  refine tN ?_
  refine c_kF hF rfl (by decide) ?_
  refine sq ?_
  refine wp_region_lit ?_
  refine st hF (g_loadAgg ty_ag_32 hF rfl (hM.row 0 rfl) (by simp only [fnC_size, cells_size, vecC_size, tabC_size, planeC_size] <;> omega) (whole cells_size)) rfl fun a hF => ?_
  refine stR hF (d_call Try.call114 hF (.cons rfl .nil) ((CallsR.val (l01Frobenius_ok p n T f _ hp hn0 hn (fun _ _ _ => hT _ _ _) (fun _ => hf _)) (congrArg Value.bool (decide_eq_false hfr))))) rfl ?_
  rintro _ w' a ⟨hx, rfl⟩ hF
  have hM := hM.ext hx
  refine st hF (g_not hF rfl) rfl fun a hF => st hF (g_assign hF rfl) rfl fun a hF => ?_
  refine wpList_nil ?_
  refine tN ?_
  refine c_T hF rfl ?_
  refine sq ?_
  refine wp_region_lit ?_
  refine st hF (g_assign hF rfl) rfl fun a hF => ?_
  refine wpList_nil ?_
  refine tN ?_
  refine wp_ret ?_
  refine iR ?_
  refine tR ?_
  refine fin1 rfl hF.defers (res_tmp hF rfl) ⟨_, rfl, hM.below, ?_⟩
  show _ = _
  rfl

theorem l02Code_okY (p n : Nat) (T : Nat → Nat → Nat → Nat) (f : Nat → Nat) (b c m : Nat) (V : Nat → Nat → Nat) (w : World) (hp : primeN p) (hn0 : 0 < n) (hn : n ≤ 6) (hTp : ∀ i j k, T i j k < p) (hf : ∀ i, f i ≤ 255) (hV : ∀ i c, V i c ≤ 255) (hm : m < 1000) (hb : Blk w b (vecsC m V)) (hfr : FrobN p n T f) (hc : CodeP (p : Int) (n : Int) T f m V) :
    CallsR Try.prog 75 #[.agg (algC (p : Int) (n : Int) T f), .slice (some ⟨b, 0, none⟩) (m) (c)] w (fun res _ => res = .int .i64 0) := by
  refine calls_fr [.agg (algC (p : Int) (n : Int) T f), .slice (some ⟨b, 0, none⟩) (m) (c)] Try.func75 rfl Try.ntmps75 rfl fun a hF => ?_
  have hM : Mem w w [none] [(b, vecsC m V)] := MemX.startD w 1 _ (startD1 hb)
  change Fr 14 a [(0, .agg (algC (p : Int) (n : Int) T f)), (1, .slice (some ⟨b, 0, none⟩) (m) (c))] at hF
  have hp2 := hp.two
  have hp13 := hp.le
  have hT : ∀ i j k, T i j k ≤ 255 := fun i j k => by have := hTp i j k; omega
  refine sq ?_
  refine wp_region_lit ?_
  refine stR hF (d_box 0 hM hF rfl) rfl ?_
  rintro _ w' a ⟨b1, rfl, hM, -⟩ hF
  change Mem w w' [some (b1, algC (p : Int) (n : Int) T f)] [(b, vecsC m V)] at hM
  refine st hF (g_assign hF rfl) rfl fun a hF => ?_
  refine wpList_nil ?_
  refine tN ?_
  refine sq ?_
  refine wp_block ?_
  refine sq ?_
  refine wp_region_lit ?_
  refine st hF (g_loadAgg ty_ag_32 hF rfl (hM.row 0 rfl) (by simp only [fnC_size, cells_size, vecC_size, tabC_size, planeC_size] <;> omega) (whole cells_size)) rfl fun a hF => st hF (g_move hF rfl) rfl fun a hF => ?_
  refine stR hF (d_call Try.call54 hF (.cons rfl (.cons rfl .nil)) ((CallsR.val (l01Code_ok (p : Int) (n : Int) T f b c m V _ (fun _ _ _ => hT _ _ _) (fun _ => hf _) hV hm (hM.fzm (List.mem_cons_self ..))) (congrArg (Value.int .i64) (if_pos hc))))) rfl ?_
  rintro _ w' a ⟨hx, rfl⟩ hF
  have hM := hM.ext hx
  refine st hF (g_neq hF rfl rfl) rfl fun a hF => st hF (g_assign hF rfl) rfl fun a hF => ?_
  refine wpList_nil ?_
  refine tN ?_
  refine c_kF hF rfl (by decide) ?_
  refine sq ?_
  refine wp_region_lit ?_
  refine st hF (g_loadAgg ty_ag_32 hF rfl (hM.row 0 rfl) (by simp only [fnC_size, cells_size, vecC_size, tabC_size, planeC_size] <;> omega) (whole cells_size)) rfl fun a hF => ?_
  refine stR hF (d_call Try.call114 hF (.cons rfl .nil) ((CallsR.val (l01Frobenius_ok p n T f _ hp hn0 hn (fun _ _ _ => hT _ _ _) (fun _ => hf _)) (congrArg Value.bool (decide_eq_true hfr))))) rfl ?_
  rintro _ w' a ⟨hx, rfl⟩ hF
  have hM := hM.ext hx
  refine st hF (g_not hF rfl) rfl fun a hF => st hF (g_assign hF rfl) rfl fun a hF => ?_
  refine wpList_nil ?_
  refine tN ?_
  refine c_Fl hF rfl ?_
  refine wp_skip ?_
  refine iN ?_
  refine tN ?_
  refine sq ?_
  refine wp_region_lit ?_
  refine st hF (g_assign hF rfl) rfl fun a hF => ?_
  refine wpList_nil ?_
  refine tN ?_
  refine wp_ret ?_
  refine fin1 rfl hF.defers (res_tmp hF rfl) ⟨_, rfl, hM.below, ?_⟩
  show _ = _
  rfl

theorem l02Code_0Y (p n : Nat) (T : Nat → Nat → Nat → Nat) (f : Nat → Nat) (w : World) (hp : primeN p) (hn0 : 0 < n) (hn : n ≤ 6) (hTp : ∀ i j k, T i j k < p) (hf : ∀ i, f i ≤ 255) (hfr : FrobN p n T f) (hc : CodeP (p : Int) (n : Int) T f 0 (vAtL [])) :
    CallsR Try.prog 75 #[.agg (algC (p : Int) (n : Int) T f), .slice none 0 0] w (fun res _ => res = .int .i64 0) := by
  refine calls_fr [.agg (algC (p : Int) (n : Int) T f), .slice none 0 0] Try.func75 rfl Try.ntmps75 rfl fun a hF => ?_
  have hM : Mem w w [none] [] := MemX.start w 1
  change Fr 14 a [(0, .agg (algC (p : Int) (n : Int) T f)), (1, .slice none 0 0)] at hF
  have hp2 := hp.two
  have hp13 := hp.le
  have hT : ∀ i j k, T i j k ≤ 255 := fun i j k => by have := hTp i j k; omega
  refine sq ?_
  refine wp_region_lit ?_
  refine stR hF (d_box 0 hM hF rfl) rfl ?_
  rintro _ w' a ⟨b1, rfl, hM, -⟩ hF
  change Mem w w' [some (b1, algC (p : Int) (n : Int) T f)] [] at hM
  refine st hF (g_assign hF rfl) rfl fun a hF => ?_
  refine wpList_nil ?_
  refine tN ?_
  refine sq ?_
  refine wp_block ?_
  refine sq ?_
  refine wp_region_lit ?_
  refine st hF (g_loadAgg ty_ag_32 hF rfl (hM.row 0 rfl) (by simp only [fnC_size, cells_size, vecC_size, tabC_size, planeC_size] <;> omega) (whole cells_size)) rfl fun a hF => st hF (g_move hF rfl) rfl fun a hF => ?_
  refine stR hF (d_call Try.call54 hF (.cons rfl (.cons rfl .nil)) ((CallsR.val (l01Code_0 (p : Int) (n : Int) T f (vAtL []) _ (fun _ _ _ => hT _ _ _) (fun _ => hf _)) (congrArg (Value.int .i64) (if_pos hc))))) rfl ?_
  rintro _ w' a ⟨hx, rfl⟩ hF
  have hM := hM.ext hx
  refine st hF (g_neq hF rfl rfl) rfl fun a hF => st hF (g_assign hF rfl) rfl fun a hF => ?_
  refine wpList_nil ?_
  refine tN ?_
  refine c_kF hF rfl (by decide) ?_
  refine sq ?_
  refine wp_region_lit ?_
  refine st hF (g_loadAgg ty_ag_32 hF rfl (hM.row 0 rfl) (by simp only [fnC_size, cells_size, vecC_size, tabC_size, planeC_size] <;> omega) (whole cells_size)) rfl fun a hF => ?_
  refine stR hF (d_call Try.call114 hF (.cons rfl .nil) ((CallsR.val (l01Frobenius_ok p n T f _ hp hn0 hn (fun _ _ _ => hT _ _ _) (fun _ => hf _)) (congrArg Value.bool (decide_eq_true hfr))))) rfl ?_
  rintro _ w' a ⟨hx, rfl⟩ hF
  have hM := hM.ext hx
  refine st hF (g_not hF rfl) rfl fun a hF => st hF (g_assign hF rfl) rfl fun a hF => ?_
  refine wpList_nil ?_
  refine tN ?_
  refine c_Fl hF rfl ?_
  refine wp_skip ?_
  refine iN ?_
  refine tN ?_
  refine sq ?_
  refine wp_region_lit ?_
  refine st hF (g_assign hF rfl) rfl fun a hF => ?_
  refine wpList_nil ?_
  refine tN ?_
  refine wp_ret ?_
  refine fin1 rfl hF.defers (res_tmp hF rfl) ⟨_, rfl, hM.below, ?_⟩
  show _ = _
  rfl

theorem l02Change_ok (p n : Nat) (T : Nat → Nat → Nat → Nat) (f v : Nat → Nat) (w : World) (hp : primeN p) (hn0 : 0 < n) (hn : n ≤ 6) (hTp : ∀ i j k, T i j k < p) (hT0 : ∀ i j k, n ≤ k → T i j k = 0) (hf : ∀ i, f i ≤ 255) (hv : ∀ i, v i ≤ 255) :
    CallsR Try.prog 85 #[.agg (algC (p : Int) (n : Int) T f), .agg (vecC v)] w (fun res _ => res = .agg (algC (p : Int) (n : Int) T (fun i => if i < n then sumTo (fun c => f c * timesS p n T v (fun c => if c = i then 1 else 0) c) 6 % p else f i))) := by
  refine calls_fr [.agg (algC (p : Int) (n : Int) T f), .agg (vecC v)] Try.func85 rfl Try.ntmps85 rfl fun a hF => ?_
  have hM : Mem w w [none, none, none, none] [] := MemX.start w 4
  change Fr 26 a [(0, .agg (algC (p : Int) (n : Int) T f)), (1, .agg (vecC v))] at hF
  have hp2 := hp.two
  have hp13 := hp.le
  have hT : ∀ i j k, T i j k ≤ 255 := fun i j k => by have := hTp i j k; omega
  refine sq ?_
  refine wp_region_lit ?_
  refine stR hF (d_box 0 hM hF rfl) rfl ?_
  rintro _ w' a ⟨b1, rfl, hM, -⟩ hF
  change Mem w w' [some (b1, algC (p : Int) (n : Int) T f), none, none, none] [] at hM
  refine stR hF (d_box 1 hM hF rfl) rfl ?_
  rintro _ w' a ⟨b2, rfl, hM, -⟩ hF
  change Mem w w' [some (b1, algC (p : Int) (n : Int) T f), some (b2, vecC v), none, none] [] at hM
  refine stR hF (d_alloc 2 hM ty_ze_32) rfl ?_
  rintro _ w' a ⟨b3, rfl, hM, -⟩ hF
  change Mem w w' [some (b1, algC (p : Int) (n : Int) T f), some (b2, vecC v), some (b3, algC 0 0 (fun _ _ _ => 0) (fun _ => 0)), none] [] at hM
  refine wpList_nil ?_
  refine tN ?_
  refine sq ?_
  refine wp_region_lit ?_
  refine st hF (g_loadAgg ty_ag_32 hF rfl (hM.row 0 rfl) (by simp only [fnC_size, cells_size, vecC_size, tabC_size, planeC_size] <;> omega) (whole cells_size)) rfl fun a hF => ?_
  refine stR hF (d_alloc 3 hM ty_ze_32) rfl ?_
  rintro _ w' a ⟨b4, rfl, hM, -⟩ hF
  change Mem w w' [some (b1, algC (p : Int) (n : Int) T f), some (b2, vecC v), some (b3, algC 0 0 (fun _ _ _ => 0) (fun _ => 0)), some (b4, algC 0 0 (fun _ _ _ => 0) (fun _ => 0))] [] at hM
  refine stN hF (d_storeAgg 3 hM rfl ty_sz_32 hF rfl rfl (by first | exact vecC_one | exact cells_one | (refine fnC_one fun _ _ => ?_; first | rfl | (split <;> rfl))) (by simp only [fnC_size, cells_size, vecC_size, tabC_size, planeC_size]) (by simp only [fnC_size, cells_size, vecC_size, tabC_size, planeC_size] <;> omega) (splice_whole _ _ (by simp only [fnC_size, cells_size, vecC_size, tabC_size, planeC_size]))) ?_
  intro _ w' a hM hF
  change Mem w w' [some (b1, algC (p : Int) (n : Int) T f), some (b2, vecC v), some (b3, algC 0 0 (fun _ _ _ => 0) (fun _ => 0)), some (b4, algC (p : Int) (n : Int) T f)] [] at hM
  refine wpList_nil ?_
  refine tN ?_
  refine sq ?_
  refine sq ?_
  refine wp_region_lit ?_
  refine st hF (g_assign hF rfl) rfl fun a hF => ?_
  refine wpList_nil ?_
  refine tN ?_
  refine wp_block ?_
  change Mem w _ [some (b1, algC (p : Int) (n : Int) T f), some (b2, vecC v), some (b3, algC 0 0 (fun _ _ _ => 0) (fun _ => 0)), some (b4, algC (p : Int) (n : Int) T f)] [] at hM
  refine c_loop (fun (kk : Nat) a w' => kk ≤ n ∧ (True) ∧ Fr 26 a [(0, .agg (algC (p : Int) (n : Int) T f)), (1, .agg (vecC v)), (2, ptr b1 (0)), (3, ptr b2 (0)), (4, ptr b3 (0)), (7, .agg (algC (p : Int) (n : Int) T f)), (5, ptr b4 (0)), (6, .int .i64 (((kk : Nat) : Int)))] ∧ Mem w w' [some (b1, algC (p : Int) (n : Int) T f), some (b2, vecC v), some (b3, algC 0 0 (fun _ _ _ => 0) (fun _ => 0)), some (b4, algC (p : Int) (n : Int) T (fun i => if i < kk then sumTo (fun c => f c * timesS p n T v (fun c => if c = i then 1 else 0) c) 6 % p else f i))] []) (fun kk => n - kk) 0 ?_ ?_
  ·
    refine ⟨by omega, trivial, hF.sub _ (by repeat' constructor), ?_⟩
    exact hM.cast (by simp)
  ·
    clear hF hM
    rintro gi a w' ⟨hgi, hinv1, hF, hM⟩
    have hvs : ∀ c, timesS p n T v (fun c => if c = gi then 1 else 0) c ≤ 255 := fun c => timesS_le (by omega) (by omega) _ _ c
    refine sq ?_
    refine sq ?_
    refine wp_region_lit ?_
    refine st hF (g_move hF rfl) rfl fun a hF => st hF (g_fieldAddr ty_fo_32_1 hF rfl) rfl fun a hF => st hF (g_load ty_on_2 hF rfl (hM.row 0 rfl) (algC_n (by omega))) rfl fun a hF => st hF (g_lss hF rfl rfl) rfl fun a hF => ?_
    refine wpList_nil ?_
    refine tN ?_
    refine c_cond hF rfl (fun h5 => ?_) (fun h5 => ?_)
    ·
      refine wp_skip ?_
      refine tN ?_
      refine sq ?_
      refine wp_block ?_
      refine c_par 10 [] [.val (.int .i64 (((gi : Nat) : Int))), .val (.agg (algC (p : Int) (n : Int) T f)), .val (.agg (algC (p : Int) (n : Int) T f)), .val (.agg (vecC v)), .val (.int .i64 (((gi : Nat) : Int))), .val (.agg (vecC (fun c => if c = gi then 1 else 0))), .val (.agg (vecC (timesS p n T (v) ((fun c => if c = gi then 1 else 0))))), .val (.int .i64 (((sumTo (fun i => f i * ((timesS p n T (v) ((fun c => if c = gi then 1 else 0)))) i) 6 % p : Nat) : Int))), .val (.int .u8 (((sumTo (fun i => f i * ((timesS p n T (v) ((fun c => if c = gi then 1 else 0)))) i) 6 % p : Nat) : Int))), .val (ptr b4 (0 + 218))] hmix rfl hF rfl hM ⟨fun a w g hF hS hd => by exact par_val hS rfl (g_move hF rfl), fun a w g hF hS hd => by have hM := hS.mem rfl; exact par_val hS rfl (g_loadAgg ty_ag_32 hF rfl (hM.row 0 rfl) (by simp only [fnC_size, cells_size, vecC_size, tabC_size, planeC_size] <;> omega) (whole cells_size)), fun a w g hF hS hd => by have hM := hS.mem rfl; exact par_val hS rfl (g_loadAgg ty_ag_32 hF rfl (hM.row 0 rfl) (by simp only [fnC_size, cells_size, vecC_size, tabC_size, planeC_size] <;> omega) (whole cells_size)), fun a w g hF hS hd => by have hM := hS.mem rfl; exact par_val hS rfl (g_loadAgg ty_ag_30 hF rfl (hM.row 1 rfl) (by simp only [fnC_size, cells_size, vecC_size, tabC_size, planeC_size] <;> omega) (whole (by simp only [fnC_size, cells_size, vecC_size, tabC_size, planeC_size]))), fun a w g hF hS hd => by exact par_val hS rfl (g_move hF rfl), fun a w g hF hS hd => by have hF := hF.ext1 18 (hd 4 rfl rfl); exact par_call (by repeat constructor) hS rfl (d_call Try.call111 hF (.cons rfl .nil) (l01Basis_ok (gi) _ (by omega))), fun a w g hF hS hd => by have hF := hF.ext1 16 (hd 2 rfl rfl); have hF := hF.ext1 17 (hd 3 rfl rfl); have hF := hF.ext1 19 (hd 5 rfl rfl); exact par_call (by repeat constructor) hS rfl (d_call Try.call110 hF (.cons rfl (.cons rfl (.cons rfl .nil))) (l01Times_ok p n T f (v) ((fun c => if c = gi then 1 else 0)) _ (by omega) (by omega) (by omega) (fun _ _ _ => hT _ _ _) (fun _ => by first | exact hv _ | exact hvt _ | exact hvs _ | exact hu _ | exact hT _ _ _ | exact hf _ | omega | (split <;> omega) | (dsimp only; split <;> omega) | assumption) (fun _ => by first | exact hv _ | exact hvt _ | exact hvs _ | exact hu _ | exact hT _ _ _ | exact hf _ | omega | (split <;> omega) | (dsimp only; split <;> omega) | assumption))), fun a w g hF hS hd => by have hF := hF.ext1 15 (hd 1 rfl rfl); have hF := hF.ext1 20 (hd 6 rfl rfl); exact par_call (by repeat constructor) hS rfl (d_call Try.call113 hF (.cons rfl (.cons rfl .nil)) (l01Form_ok p n T f ((timesS p n T (v) ((fun c => if c = gi then 1 else 0)))) _ (by omega) (fun _ => by first | exact hv _ | exact hvt _ | exact hvs _ | exact hu _ | exact hT _ _ _ | exact hf _ | omega | (split <;> omega) | (dsimp only; split <;> omega) | assumption) (fun _ => by first | exact hv _ | exact hvt _ | exact hvs _ | exact hu _ | exact hT _ _ _ | exact hf _ | omega | (split <;> omega) | (dsimp only; split <;> omega) | assumption))), fun a w g hF hS hd => by have hF := hF.ext1 21 (hd 7 rfl rfl); exact par_val hS rfl (g_conv ty_un_5 ty_ud_2 hF rfl (wrap_u8 (by omega) (by have := Nat.mod_lt (sumTo (fun c => f c * timesS p n T v (fun c => if c = gi then 1 else 0) c) 6) (show 0 < p by omega); omega))), fun a w g hF hS hd => by exact par_val hS rfl (g_fieldAddr ty_fo_32_3 hF rfl), trivial⟩ ?_
      intro a w' L hF hS hq
      have hF := hF.ext1 14 (hq 0 rfl rfl)
      have hF := hF.ext1 15 (hq 1 rfl rfl)
      have hF := hF.ext1 16 (hq 2 rfl rfl)
      have hF := hF.ext1 17 (hq 3 rfl rfl)
      have hF := hF.ext1 18 (hq 4 rfl rfl)
      have hF := hF.ext1 19 (hq 5 rfl rfl)
      have hF := hF.ext1 20 (hq 6 rfl rfl)
      have hF := hF.ext1 21 (hq 7 rfl rfl)
      have hF := hF.ext1 22 (hq 8 rfl rfl)
      have hF := hF.ext1 23 (hq 9 rfl rfl)
      have hM := hS.mem rfl
      change wpList Try.prog _ _ [_, _] _ _
      refine st hF (g_indexAddr ty_ar_30 hF rfl rfl rfl (by omega)) rfl fun a hF => ?_
      refine stN hF (d_store 3 hM rfl ty_on_5 hF rfl rfl rfl (by first | omega | (simp only [fnC_size, cells_size, vecC_size, tabC_size, planeC_size] <;> omega))) ?_
      intro _ w' a hM hF
      change Mem w w' [some (b1, algC (p : Int) (n : Int) T f), some (b2, vecC v), some (b3, algC 0 0 (fun _ _ _ => 0) (fun _ => 0)), some (b4, (algC (p : Int) (n : Int) T (fun i => if i < gi then sumTo (fun c => f c * timesS p n T v (fun c => if c = i then 1 else 0) c) 6 % p else f i)).setIfInBounds (0 + 218 + (gi) * 1) (.int .u8 (((sumTo (fun i => f i * ((timesS p n T (v) ((fun c => if c = gi then 1 else 0)))) i) 6 % p : Nat) : Int))))] [] at hM
      refine wpList_nil ?_
      refine iN ?_
      refine tN ?_
      refine wp_region_lit ?_
      refine st hF (g_move hF rfl) rfl fun a hF => st hF (g_add hF rfl rfl (add_nat (gi) (1) (by omega))) rfl fun a hF => st hF (g_assign hF rfl) rfl fun a hF => ?_
      refine wpList_nil ?_
      refine tN ?_
      refine ⟨gi + 1, ⟨by omega, trivial, hF.sub _ (by repeat' constructor), ?_⟩, by omega⟩
      refine hM.rowc 3 rfl (algC_setf (i := gi) (by omega) (by omega) (fun j hj => ?_))
      by_cases e1 : j = gi
      · subst e1; simp
      · have e0 : (j < gi + 1) = (j < gi) := by apply propext; omega
        simp [e0, e1]
    ·
      obtain rfl : n = gi := by omega
      refine wp_exit ?_
      refine tX ?_
      refine tX ?_
      refine ib_same ?_
      refine tN ?_
      refine sq ?_
      refine wp_region_lit ?_
      refine st hF (g_loadAgg ty_ag_32 hF rfl (hM.row 3 rfl) (by simp only [fnC_size, cells_size, vecC_size, tabC_size, planeC_size] <;> omega) (whole cells_size)) rfl fun a hF => ?_
      refine stN hF (d_storeAgg 2 hM rfl ty_sz_32 hF rfl rfl (by first | exact vecC_one | exact cells_one | (refine fnC_one fun _ _ => ?_; first | rfl | (split <;> rfl))) (by simp only [fnC_size, cells_size, vecC_size, tabC_size, planeC_size]) (by simp only [fnC_size, cells_size, vecC_size, tabC_size, planeC_size] <;> omega) (splice_whole _ _ (by simp only [fnC_size, cells_size, vecC_size, tabC_size, planeC_size]))) ?_
      intro _ w' a hM hF
      change Mem w w' [some (b1, algC (p : Int) (n : Int) T f), some (b2, vecC v), some (b3, algC (p : Int) (n : Int) T (fun i => if i < n then sumTo (fun c => f c * timesS p n T v (fun c => if c = i then 1 else 0) c) 6 % p else f i)), some (b4, algC (p : Int) (n : Int) T (fun i => if i < n then sumTo (fun c => f c * timesS p n T v (fun c => if c = i then 1 else 0) c) 6 % p else f i))] [] at hM
      refine wpList_nil ?_
      refine tN ?_
      refine wp_ret ?_
      refine fin1 rfl hF.defers (res_agg ty_ag_32 hF rfl (hM.row 2 rfl) (by simp only [fnC_size, cells_size, vecC_size, tabC_size, planeC_size])) ⟨_, rfl, hM.below, ?_⟩
      show _ = _
      rfl

theorem ChangeFormSA (p n : Int) (T : Nat → Nat → Nat → Nat) (f : Nat → Nat) (v : Nat → Nat) (w : World) (hT : ∀ i j k, T i j k ≤ 255) (hf : ∀ i, f i ≤ 255) (hv : ∀ i, v i ≤ 255) (hc : ¬ CodeP p n T f 1 (vAtL [v])) :
    CallsR Try.prog 42 #[.agg (algC p n T f), .agg (vecC v)] w (fun res _ => res = .tuple #[.agg (algC 0 0 (fun _ _ _ => 0) (fun _ => 0)), .int .i64 1]) := by
  refine calls_fr [.agg (algC p n T f), .agg (vecC v)] Try.func42 rfl Try.ntmps42 rfl fun a hF => ?_
  have hM : Mem w w [none, none, none, none, none] [] := MemX.start w 5
  change Fr 29 a [(0, .agg (algC p n T f)), (1, .agg (vecC v))] at hF
  have hVb : ∀ i c, vAtL [v] i c ≤ 255 := vAtL_le (fun x hx => by simp at hx; subst hx <;> assumption)
  refine sq ?_
  refine wp_region_lit ?_
  refine stR hF (d_box 0 hM hF rfl) rfl ?_
  rintro _ w' a ⟨b1, rfl, hM, -⟩ hF
  change Mem w w' [some (b1, algC p n T f), none, none, none, none] [] at hM
  refine stR hF (d_box 1 hM hF rfl) rfl ?_
  rintro _ w' a ⟨b2, rfl, hM, -⟩ hF
  change Mem w w' [some (b1, algC p n T f), some (b2, vecC v), none, none, none] [] at hM
  refine stR hF (d_alloc 2 hM ty_ze_32) rfl ?_
  rintro _ w' a ⟨b3, rfl, hM, -⟩ hF
  change Mem w w' [some (b1, algC p n T f), some (b2, vecC v), some (b3, algC 0 0 (fun _ _ _ => 0) (fun _ => 0)), none, none] [] at hM
  refine st hF (g_assign hF rfl) rfl fun a hF => ?_
  refine wpList_nil ?_
  refine tN ?_
  refine sq ?_
  refine sq ?_
  refine wp_region_lit ?_
  refine st hF (g_loadAgg ty_ag_32 hF rfl (hM.row 0 rfl) (by simp only [fnC_size, cells_size, vecC_size, tabC_size, planeC_size] <;> omega) (whole cells_size)) rfl fun a hF => st hF (g_loadAgg ty_ag_30 hF rfl (hM.row 1 rfl) (by simp only [fnC_size, cells_size, vecC_size, tabC_size, planeC_size] <;> omega) (whole (by simp only [fnC_size, cells_size, vecC_size, tabC_size, planeC_size]))) rfl fun a hF => ?_
  refine stR hF (d_buildC (vs := [(0, .agg (vecC v))]) 3 hM hF (build1 hF rfl) (fun w => ty_bsg_27_1 v w)) rfl ?_
  rintro _ w' a ⟨b4, rfl, hM, -⟩ hF
  change Mem w w' [some (b1, algC p n T f), some (b2, vecC v), some (b3, algC 0 0 (fun _ _ _ => 0) (fun _ => 0)), some (b4, vecsC 1 (vAtL [v])), none] [] at hM
  refine stR hF (d_call Try.call75 hF (.cons rfl (.cons rfl .nil)) (l02Code_okA p n T f b4 1 1 (vAtL [v]) _ (fun _ _ _ => hT _ _ _) (fun _ => hf _) hVb (by omega) (hM.row 3 rfl) hc)) rfl ?_
  rintro _ w' a ⟨hx, rfl⟩ hF
  have hM := hM.ext hx
  refine st hF (g_assign hF rfl) rfl fun a hF => ?_
  refine wpList_nil ?_
  refine tN ?_
  refine sq ?_
  refine wp_region_lit ?_
  refine st hF (g_move hF rfl) rfl fun a hF => st hF (g_neq hF rfl rfl) rfl fun a hF => ?_
  refine wpList_nil ?_
  refine tN ?_
  refine c_kT hF rfl (by decide) ?_
  refine sq ?_
  refine wp_region_lit ?_
  refine st hF (g_build0 ty_bu_32) rfl fun a hF => st hF (g_move hF rfl) rfl fun a hF => ?_
  refine stN hF (d_storeAgg 2 hM rfl ty_sz_32 hF rfl rfl (by first | exact vecC_one | exact cells_one | (refine fnC_one fun _ _ => ?_; first | rfl | (split <;> rfl))) (by simp only [fnC_size, cells_size, vecC_size, tabC_size, planeC_size]) (by simp only [fnC_size, cells_size, vecC_size, tabC_size, planeC_size] <;> omega) (splice_whole _ _ (by simp only [fnC_size, cells_size, vecC_size, tabC_size, planeC_size]))) ?_
  intro _ w' a hM hF
  change Mem w w' [some (b1, algC p n T f), some (b2, vecC v), some (b3, algC 0 0 (fun _ _ _ => 0) (fun _ => 0)), some (b4, vecsC 1 (vAtL [v])), none] [] at hM
  refine st hF (g_assign hF rfl) rfl fun a hF => ?_
  refine wpList_nil ?_
  refine tN ?_
  refine wp_ret ?_
  refine tR ?_
  refine fin2 rfl hF.defers (res_agg ty_ag_32 hF rfl (hM.row 2 rfl) (by simp only [fnC_size, cells_size, vecC_size, tabC_size, planeC_size])) (res_tmp hF rfl) ⟨_, rfl, hM.below, ?_⟩
  show _ = _
  rfl

theorem ChangeFormSF (p n : Nat) (T : Nat → Nat → Nat → Nat) (f : Nat → Nat) (v : Nat → Nat) (w : World) (hp : primeN p) (hn0 : 0 < n) (hn : n ≤ 6) (hTp : ∀ i j k, T i j k < p) (hT0 : ∀ i j k, n ≤ k → T i j k = 0) (hf : ∀ i, f i ≤ 255) (hv : ∀ i, v i ≤ 255) (hfr : ¬ FrobN p n T f) (hc : CodeP (p : Int) (n : Int) T f 1 (vAtL [v])) :
    CallsR Try.prog 42 #[.agg (algC (p : Int) (n : Int) T f), .agg (vecC v)] w (fun res _ => res = .tuple #[.agg (algC 0 0 (fun _ _ _ => 0) (fun _ => 0)), .int .i64 5]) := by
  refine calls_fr [.agg (algC (p : Int) (n : Int) T f), .agg (vecC v)] Try.func42 rfl Try.ntmps42 rfl fun a hF => ?_
  have hM : Mem w w [none, none, none, none, none] [] := MemX.start w 5
  change Fr 29 a [(0, .agg (algC (p : Int) (n : Int) T f)), (1, .agg (vecC v))] at hF
  have hp2 := hp.two
  have hp13 := hp.le
  have hT : ∀ i j k, T i j k ≤ 255 := fun i j k => by have := hTp i j k; omega
  have hVb : ∀ i c, vAtL [v] i c ≤ 255 := vAtL_le (fun x hx => by simp at hx; subst hx <;> assumption)
  refine sq ?_
  refine wp_region_lit ?_
  refine stR hF (d_box 0 hM hF rfl) rfl ?_
  rintro _ w' a ⟨b1, rfl, hM, -⟩ hF
  change Mem w w' [some (b1, algC (p : Int) (n : Int) T f), none, none, none, none] [] at hM
  refine stR hF (d_box 1 hM hF rfl) rfl ?_
  rintro _ w' a ⟨b2, rfl, hM, -⟩ hF
  change Mem w w' [some (b1, algC (p : Int) (n : Int) T f), some (b2, vecC v), none, none, none] [] at hM
  refine stR hF (d_alloc 2 hM ty_ze_32) rfl ?_
  rintro _ w' a ⟨b3, rfl, hM, -⟩ hF
  change Mem w w' [some (b1, algC (p : Int) (n : Int) T f), some (b2, vecC v), some (b3, algC 0 0 (fun _ _ _ => 0) (fun _ => 0)), none, none] [] at hM
  refine st hF (g_assign hF rfl) rfl fun a hF => ?_
  refine wpList_nil ?_
  refine tN ?_
  refine sq ?_
  refine sq ?_
  refine wp_region_lit ?_
  refine st hF (g_loadAgg ty_ag_32 hF rfl (hM.row 0 rfl) (by simp only [fnC_size, cells_size, vecC_size, tabC_size, planeC_size] <;> omega) (whole cells_size)) rfl fun a hF => st hF (g_loadAgg ty_ag_30 hF rfl (hM.row 1 rfl) (by simp only [fnC_size, cells_size, vecC_size, tabC_size, planeC_size] <;> omega) (whole (by simp only [fnC_size, cells_size, vecC_size, tabC_size, planeC_size]))) rfl fun a hF => ?_
  refine stR hF (d_buildC (vs := [(0, .agg (vecC v))]) 3 hM hF (build1 hF rfl) (fun w => ty_bsg_27_1 v w)) rfl ?_
  rintro _ w' a ⟨b4, rfl, hM, -⟩ hF
  change Mem w w' [some (b1, algC (p : Int) (n : Int) T f), some (b2, vecC v), some (b3, algC 0 0 (fun _ _ _ => 0) (fun _ => 0)), some (b4, vecsC 1 (vAtL [v])), none] [] at hM
  refine stR hF (d_call Try.call75 hF (.cons rfl (.cons rfl .nil)) (l02Code_okF p n T f b4 1 1 (vAtL [v]) _ hp hn0 hn hTp hf hVb (by omega) (hM.row 3 rfl) hfr hc)) rfl ?_
  rintro _ w' a ⟨hx, rfl⟩ hF
  have hM := hM.ext hx
  refine st hF (g_assign hF rfl) rfl fun a hF => ?_
  refine wpList_nil ?_
  refine tN ?_
  refine sq ?_
  refine wp_region_lit ?_
  refine st hF (g_move hF rfl) rfl fun a hF => st hF (g_neq hF rfl rfl) rfl fun a hF => ?_
  refine wpList_nil ?_
  refine tN ?_
  refine c_kT hF rfl (by decide) ?_
  refine sq ?_
  refine wp_region_lit ?_
  refine st hF (g_build0 ty_bu_32) rfl fun a hF => st hF (g_move hF rfl) rfl fun a hF => ?_
  refine stN hF (d_storeAgg 2 hM rfl ty_sz_32 hF rfl rfl (by first | exact vecC_one | exact cells_one | (refine fnC_one fun _ _ => ?_; first | rfl | (split <;> rfl))) (by simp only [fnC_size, cells_size, vecC_size, tabC_size, planeC_size]) (by simp only [fnC_size, cells_size, vecC_size, tabC_size, planeC_size] <;> omega) (splice_whole _ _ (by simp only [fnC_size, cells_size, vecC_size, tabC_size, planeC_size]))) ?_
  intro _ w' a hM hF
  change Mem w w' [some (b1, algC (p : Int) (n : Int) T f), some (b2, vecC v), some (b3, algC 0 0 (fun _ _ _ => 0) (fun _ => 0)), some (b4, vecsC 1 (vAtL [v])), none] [] at hM
  refine st hF (g_assign hF rfl) rfl fun a hF => ?_
  refine wpList_nil ?_
  refine tN ?_
  refine wp_ret ?_
  refine tR ?_
  refine fin2 rfl hF.defers (res_agg ty_ag_32 hF rfl (hM.row 2 rfl) (by simp only [fnC_size, cells_size, vecC_size, tabC_size, planeC_size])) (res_tmp hF rfl) ⟨_, rfl, hM.below, ?_⟩
  show _ = _
  rfl

theorem ChangeFormSN (p n : Nat) (T : Nat → Nat → Nat → Nat) (f : Nat → Nat) (v : Nat → Nat) (w : World) (hp : primeN p) (hn0 : 0 < n) (hn : n ≤ 6) (hTp : ∀ i j k, T i j k < p) (hT0 : ∀ i j k, n ≤ k → T i j k = 0) (hf : ∀ i, f i ≤ 255) (hv : ∀ i, v i ≤ 255) (hfr : FrobN p n T f) (uu : Nat → Nat) (huu : UnitI p n T uu) (has : asS p n T) (hno : ∀ q, ¬ InvI p n T uu v q) (hc : CodeP (p : Int) (n : Int) T f 1 (vAtL [v])) :
    CallsR Try.prog 42 #[.agg (algC (p : Int) (n : Int) T f), .agg (vecC v)] w (fun res _ => res = .tuple #[.agg (algC 0 0 (fun _ _ _ => 0) (fun _ => 0)), .int .i64 5]) := by
  refine calls_fr [.agg (algC (p : Int) (n : Int) T f), .agg (vecC v)] Try.func42 rfl Try.ntmps42 rfl fun a hF => ?_
  have hM : Mem w w [none, none, none, none, none] [] := MemX.start w 5
  change Fr 29 a [(0, .agg (algC (p : Int) (n : Int) T f)), (1, .agg (vecC v))] at hF
  have hp2 := hp.two
  have hp13 := hp.le
  have hT : ∀ i j k, T i j k ≤ 255 := fun i j k => by have := hTp i j k; omega
  have hVb : ∀ i c, vAtL [v] i c ≤ 255 := vAtL_le (fun x hx => by simp at hx; subst hx <;> assumption)
  refine sq ?_
  refine wp_region_lit ?_
  refine stR hF (d_box 0 hM hF rfl) rfl ?_
  rintro _ w' a ⟨b1, rfl, hM, -⟩ hF
  change Mem w w' [some (b1, algC (p : Int) (n : Int) T f), none, none, none, none] [] at hM
  refine stR hF (d_box 1 hM hF rfl) rfl ?_
  rintro _ w' a ⟨b2, rfl, hM, -⟩ hF
  change Mem w w' [some (b1, algC (p : Int) (n : Int) T f), some (b2, vecC v), none, none, none] [] at hM
  refine stR hF (d_alloc 2 hM ty_ze_32) rfl ?_
  rintro _ w' a ⟨b3, rfl, hM, -⟩ hF
  change Mem w w' [some (b1, algC (p : Int) (n : Int) T f), some (b2, vecC v), some (b3, algC 0 0 (fun _ _ _ => 0) (fun _ => 0)), none, none] [] at hM
  refine st hF (g_assign hF rfl) rfl fun a hF => ?_
  refine wpList_nil ?_
  refine tN ?_
  refine sq ?_
  refine sq ?_
  refine wp_region_lit ?_
  refine st hF (g_loadAgg ty_ag_32 hF rfl (hM.row 0 rfl) (by simp only [fnC_size, cells_size, vecC_size, tabC_size, planeC_size] <;> omega) (whole cells_size)) rfl fun a hF => st hF (g_loadAgg ty_ag_30 hF rfl (hM.row 1 rfl) (by simp only [fnC_size, cells_size, vecC_size, tabC_size, planeC_size] <;> omega) (whole (by simp only [fnC_size, cells_size, vecC_size, tabC_size, planeC_size]))) rfl fun a hF => ?_
  refine stR hF (d_buildC (vs := [(0, .agg (vecC v))]) 3 hM hF (build1 hF rfl) (fun w => ty_bsg_27_1 v w)) rfl ?_
  rintro _ w' a ⟨b4, rfl, hM, -⟩ hF
  change Mem w w' [some (b1, algC (p : Int) (n : Int) T f), some (b2, vecC v), some (b3, algC 0 0 (fun _ _ _ => 0) (fun _ => 0)), some (b4, vecsC 1 (vAtL [v])), none] [] at hM
  refine stR hF (d_call Try.call75 hF (.cons rfl (.cons rfl .nil)) (l02Code_okY p n T f b4 1 1 (vAtL [v]) _ hp hn0 hn hTp hf hVb (by omega) (hM.row 3 rfl) hfr hc)) rfl ?_
  rintro _ w' a ⟨hx, rfl⟩ hF
  have hM := hM.ext hx
  refine st hF (g_assign hF rfl) rfl fun a hF => ?_
  refine wpList_nil ?_
  refine tN ?_
  refine sq ?_
  refine wp_region_lit ?_
  refine st hF (g_move hF rfl) rfl fun a hF => st hF (g_neq hF rfl rfl) rfl fun a hF => ?_
  refine wpList_nil ?_
  refine tN ?_
  refine c_kF hF rfl (by decide) ?_
  refine wp_skip ?_
  refine tN ?_
  refine sq ?_
  refine sq ?_
  refine wp_region_lit ?_
  refine st hF (g_loadAgg ty_ag_32 hF rfl (hM.row 0 rfl) (by simp only [fnC_size, cells_size, vecC_size, tabC_size, planeC_size] <;> omega) (whole cells_size)) rfl fun a hF => st hF (g_loadAgg ty_ag_30 hF rfl (hM.row 1 rfl) (by simp only [fnC_size, cells_size, vecC_size, tabC_size, planeC_size] <;> omega) (whole (by simp only [fnC_size, cells_size, vecC_size, tabC_size, planeC_size]))) rfl fun a hF => ?_
  refine stR hF (d_call Try.call84 hF (.cons rfl (.cons rfl .nil)) (l02Inverse_ok p n T f (v) _ hp hn0 hn hTp hT0 hv uu huu has)) rfl ?_
  rintro _ w' a ⟨hx, x, b, rfl, hI⟩ hF
  have hM := hM.ext hx
  obtain rfl : b = false := by
    rcases hI with ⟨_, h⟩ | ⟨e, _⟩
    · exact absurd h (hno _)
    · exact e
  ·
    refine st hF (g_move hF rfl) rfl fun a hF => st hF (g_extract hF rfl rfl) rfl fun a hF => st hF (g_extract hF rfl rfl) rfl fun a hF => ?_
    refine stR hF (d_alloc 4 hM ty_ze_30) rfl ?_
    rintro _ w' a ⟨b6, rfl, hM, -⟩ hF
    change Mem w w' [some (b1, algC (p : Int) (n : Int) T f), some (b2, vecC v), some (b3, algC 0 0 (fun _ _ _ => 0) (fun _ => 0)), some (b4, vecsC 1 (vAtL [v])), some (b6, fnC 6 (fun _ => .int .u8 (0)))] [] at hM
    refine stN hF (d_storeAgg 4 hM rfl ty_sz_30 hF rfl rfl (by first | exact vecC_one | exact cells_one | (refine fnC_one fun _ _ => ?_; first | rfl | (split <;> rfl))) (by simp only [fnC_size, cells_size, vecC_size, tabC_size, planeC_size]) (by simp only [fnC_size, cells_size, vecC_size, tabC_size, planeC_size] <;> omega) (splice_whole _ _ (by simp only [fnC_size, cells_size, vecC_size, tabC_size, planeC_size]))) ?_
    intro _ w' a hM hF
    change Mem w w' [some (b1, algC (p : Int) (n : Int) T f), some (b2, vecC v), some (b3, algC 0 0 (fun _ _ _ => 0) (fun _ => 0)), some (b4, vecsC 1 (vAtL [v])), some (b6, vecC x)] [] at hM
    refine st hF (g_assign hF rfl) rfl fun a hF => ?_
    refine wpList_nil ?_
    refine tN ?_
    refine sq ?_
    refine wp_region_lit ?_
    refine st hF (g_move hF rfl) rfl fun a hF => st hF (g_not hF rfl) rfl fun a hF => ?_
    refine wpList_nil ?_
    refine tN ?_
    refine c_T hF rfl ?_
    refine sq ?_
    refine wp_region_lit ?_
    refine st hF (g_build0 ty_bu_32) rfl fun a hF => ?_
    refine stN hF (d_storeAgg 2 hM rfl ty_sz_32 hF rfl rfl (by first | exact vecC_one | exact cells_one | (refine fnC_one fun _ _ => ?_; first | rfl | (split <;> rfl))) (by simp only [fnC_size, cells_size, vecC_size, tabC_size, planeC_size]) (by simp only [fnC_size, cells_size, vecC_size, tabC_size, planeC_size] <;> omega) (splice_whole _ _ (by simp only [fnC_size, cells_size, vecC_size, tabC_size, planeC_size]))) ?_
    intro _ w' a hM hF
    change Mem w w' [some (b1, algC (p : Int) (n : Int) T f), some (b2, vecC v), some (b3, algC 0 0 (fun _ _ _ => 0) (fun _ => 0)), some (b4, vecsC 1 (vAtL [v])), some (b6, vecC x)] [] at hM
    refine st hF (g_assign hF rfl) rfl fun a hF => ?_
    refine wpList_nil ?_
    refine tN ?_
    refine wp_ret ?_
    refine tR ?_
    refine fin2 rfl hF.defers (res_agg ty_ag_32 hF rfl (hM.row 2 rfl) (by simp only [fnC_size, cells_size, vecC_size, tabC_size, planeC_size])) (res_tmp hF rfl) ⟨_, rfl, hM.below, ?_⟩
    show _ = _
    rfl

theorem ChangeFormSY (p n : Nat) (T : Nat → Nat → Nat → Nat) (f : Nat → Nat) (v : Nat → Nat) (w : World) (hp : primeN p) (hn0 : 0 < n) (hn : n ≤ 6) (hTp : ∀ i j k, T i j k < p) (hT0 : ∀ i j k, n ≤ k → T i j k = 0) (hf : ∀ i, f i ≤ 255) (hv : ∀ i, v i ≤ 255) (hfr : FrobN p n T f) (uu : Nat → Nat) (huu : UnitI p n T uu) (has : asS p n T) (iv : Nat → Nat) (hiv : InvI p n T uu v iv) (hc : CodeP (p : Int) (n : Int) T f 1 (vAtL [v])) :
    CallsR Try.prog 42 #[.agg (algC (p : Int) (n : Int) T f), .agg (vecC v)] w (fun res _ => res = .tuple #[.agg (algC (p : Int) (n : Int) T (fun i => if i < n then sumTo (fun c => f c * timesS p n T v (fun c => if c = i then 1 else 0) c) 6 % p else f i)), .int .i64 0]) := by
  refine calls_fr [.agg (algC (p : Int) (n : Int) T f), .agg (vecC v)] Try.func42 rfl Try.ntmps42 rfl fun a hF => ?_
  have hM : Mem w w [none, none, none, none, none] [] := MemX.start w 5
  change Fr 29 a [(0, .agg (algC (p : Int) (n : Int) T f)), (1, .agg (vecC v))] at hF
  have hp2 := hp.two
  have hp13 := hp.le
  have hT : ∀ i j k, T i j k ≤ 255 := fun i j k => by have := hTp i j k; omega
  have hVb : ∀ i c, vAtL [v] i c ≤ 255 := vAtL_le (fun x hx => by simp at hx; subst hx <;> assumption)
  have hiv5 : ∀ c, iv c ≤ 255 := fun c => by have := hiv.small c; omega
  refine sq ?_
  refine wp_region_lit ?_
  refine stR hF (d_box 0 hM hF rfl) rfl ?_
  rintro _ w' a ⟨b1, rfl, hM, -⟩ hF
  change Mem w w' [some (b1, algC (p : Int) (n : Int) T f), none, none, none, none] [] at hM
  refine stR hF (d_box 1 hM hF rfl) rfl ?_
  rintro _ w' a ⟨b2, rfl, hM, -⟩ hF
  change Mem w w' [some (b1, algC (p : Int) (n : Int) T f), some (b2, vecC v), none, none, none] [] at hM
  refine stR hF (d_alloc 2 hM ty_ze_32) rfl ?_
  rintro _ w' a ⟨b3, rfl, hM, -⟩ hF
  change Mem w w' [some (b1, algC (p : Int) (n : Int) T f), some (b2, vecC v), some (b3, algC 0 0 (fun _ _ _ => 0) (fun _ => 0)), none, none] [] at hM
  refine st hF (g_assign hF rfl) rfl fun a hF => ?_
  refine wpList_nil ?_
  refine tN ?_
  refine sq ?_
  refine sq ?_
  refine wp_region_lit ?_
  refine st hF (g_loadAgg ty_ag_32 hF rfl (hM.row 0 rfl) (by simp only [fnC_size, cells_size, vecC_size, tabC_size, planeC_size] <;> omega) (whole cells_size)) rfl fun a hF => st hF (g_loadAgg ty_ag_30 hF rfl (hM.row 1 rfl) (by simp only [fnC_size, cells_size, vecC_size, tabC_size, planeC_size] <;> omega) (whole (by simp only [fnC_size, cells_size, vecC_size, tabC_size, planeC_size]))) rfl fun a hF => ?_
  refine stR hF (d_buildC (vs := [(0, .agg (vecC v))]) 3 hM hF (build1 hF rfl) (fun w => ty_bsg_27_1 v w)) rfl ?_
  rintro _ w' a ⟨b4, rfl, hM, -⟩ hF
  change Mem w w' [some (b1, algC (p : Int) (n : Int) T f), some (b2, vecC v), some (b3, algC 0 0 (fun _ _ _ => 0) (fun _ => 0)), some (b4, vecsC 1 (vAtL [v])), none] [] at hM
  refine stR hF (d_call Try.call75 hF (.cons rfl (.cons rfl .nil)) (l02Code_okY p n T f b4 1 1 (vAtL [v]) _ hp hn0 hn hTp hf hVb (by omega) (hM.row 3 rfl) hfr hc)) rfl ?_
  rintro _ w' a ⟨hx, rfl⟩ hF
  have hM := hM.ext hx
  refine st hF (g_assign hF rfl) rfl fun a hF => ?_
  refine wpList_nil ?_
  refine tN ?_
  refine sq ?_
  refine wp_region_lit ?_
  refine st hF (g_move hF rfl) rfl fun a hF => st hF (g_neq hF rfl rfl) rfl fun a hF => ?_
  refine wpList_nil ?_
  refine tN ?_
  refine c_kF hF rfl (by decide) ?_
  refine wp_skip ?_
  refine tN ?_
  refine sq ?_
  refine sq ?_
  refine wp_region_lit ?_
  refine st hF (g_loadAgg ty_ag_32 hF rfl (hM.row 0 rfl) (by simp only [fnC_size, cells_size, vecC_size, tabC_size, planeC_size] <;> omega) (whole cells_size)) rfl fun a hF => st hF (g_loadAgg ty_ag_30 hF rfl (hM.row 1 rfl) (by simp only [fnC_size, cells_size, vecC_size, tabC_size, planeC_size] <;> omega) (whole (by simp only [fnC_size, cells_size, vecC_size, tabC_size, planeC_size]))) rfl fun a hF => ?_
  refine stR hF (d_call Try.call84 hF (.cons rfl (.cons rfl .nil)) (l02Inverse_ok p n T f (v) _ hp hn0 hn hTp hT0 hv uu huu has)) rfl ?_
  rintro _ w' a ⟨hx, x, b, rfl, hI⟩ hF
  have hM := hM.ext hx
  obtain ⟨rfl, rfl⟩ : b = true ∧ x = iv := by
    rcases hI with ⟨e, h⟩ | ⟨_, h⟩
    · exact ⟨e, InvI.unique (AssI_of hn has) huu hiv h⟩
    · exact absurd hiv (h _)
  ·
    refine st hF (g_move hF rfl) rfl fun a hF => st hF (g_extract hF rfl rfl) rfl fun a hF => st hF (g_extract hF rfl rfl) rfl fun a hF => ?_
    refine stR hF (d_alloc 4 hM ty_ze_30) rfl ?_
    rintro _ w' a ⟨b6, rfl, hM, -⟩ hF
    change Mem w w' [some (b1, algC (p : Int) (n : Int) T f), some (b2, vecC v), some (b3, algC 0 0 (fun _ _ _ => 0) (fun _ => 0)), some (b4, vecsC 1 (vAtL [v])), some (b6, fnC 6 (fun _ => .int .u8 (0)))] [] at hM
    refine stN hF (d_storeAgg 4 hM rfl ty_sz_30 hF rfl rfl (by first | exact vecC_one | exact cells_one | (refine fnC_one fun _ _ => ?_; first | rfl | (split <;> rfl))) (by simp only [fnC_size, cells_size, vecC_size, tabC_size, planeC_size]) (by simp only [fnC_size, cells_size, vecC_size, tabC_size, planeC_size] <;> omega) (splice_whole _ _ (by simp only [fnC_size, cells_size, vecC_size, tabC_size, planeC_size]))) ?_
    intro _ w' a hM hF
    change Mem w w' [some (b1, algC (p : Int) (n : Int) T f), some (b2, vecC v), some (b3, algC 0 0 (fun _ _ _ => 0) (fun _ => 0)), some (b4, vecsC 1 (vAtL [v])), some (b6, vecC x)] [] at hM
    refine st hF (g_assign hF rfl) rfl fun a hF => ?_
    refine wpList_nil ?_
    refine tN ?_
    refine sq ?_
    refine wp_region_lit ?_
    refine st hF (g_move hF rfl) rfl fun a hF => st hF (g_not hF rfl) rfl fun a hF => ?_
    refine wpList_nil ?_
    refine tN ?_
    refine c_Fl hF rfl ?_
    refine wp_skip ?_
    refine tN ?_
    refine sq ?_
    refine wp_region_lit ?_
    refine st hF (g_loadAgg ty_ag_32 hF rfl (hM.row 0 rfl) (by simp only [fnC_size, cells_size, vecC_size, tabC_size, planeC_size] <;> omega) (whole cells_size)) rfl fun a hF => st hF (g_loadAgg ty_ag_30 hF rfl (hM.row 1 rfl) (by simp only [fnC_size, cells_size, vecC_size, tabC_size, planeC_size] <;> omega) (whole (by simp only [fnC_size, cells_size, vecC_size, tabC_size, planeC_size]))) rfl fun a hF => ?_
    refine stR hF (d_call Try.call85 hF (.cons rfl (.cons rfl .nil)) (l02Change_ok p n T f (v) _ hp hn0 hn hTp hT0 hf hv)) rfl ?_
    rintro _ w' a ⟨hx, rfl⟩ hF
    have hM := hM.ext hx
    refine stN hF (d_storeAgg 2 hM rfl ty_sz_32 hF rfl rfl (by first | exact vecC_one | exact cells_one | (refine fnC_one fun _ _ => ?_; first | rfl | (split <;> rfl))) (by simp only [fnC_size, cells_size, vecC_size, tabC_size, planeC_size]) (by simp only [fnC_size, cells_size, vecC_size, tabC_size, planeC_size] <;> omega) (splice_whole _ _ (by simp only [fnC_size, cells_size, vecC_size, tabC_size, planeC_size]))) ?_
    intro _ w' a hM hF
    change Mem w w' [some (b1, algC (p : Int) (n : Int) T f), some (b2, vecC v), some (b3, algC (p : Int) (n : Int) T (fun i => if i < n then sumTo (fun c => f c * timesS p n T v (fun c => if c = i then 1 else 0) c) 6 % p else f i)), some (b4, vecsC 1 (vAtL [v])), some (b6, vecC x)] [] at hM
    refine st hF (g_assign hF rfl) rfl fun a hF => ?_
    refine wpList_nil ?_
    refine tN ?_
    refine wp_ret ?_
    refine fin2 rfl hF.defers (res_agg ty_ag_32 hF rfl (hM.row 2 rfl) (by simp only [fnC_size, cells_size, vecC_size, tabC_size, planeC_size])) (res_tmp hF rfl) ⟨_, rfl, hM.below, ?_⟩
    show _ = _
    rfl

theorem ChangeFormIA (p n : Int) (T : Nat → Nat → Nat → Nat) (f : Nat → Nat) (v : Nat → Nat) (w : World) (hT : ∀ i j k, T i j k ≤ 255) (hf : ∀ i, f i ≤ 255) (hv : ∀ i, v i ≤ 255) (hc : ¬ CodeP p n T f 1 (vAtL [v])) :
    CallsR Try.prog 43 #[.agg (algC p n T f), .agg (vecC v)] w (fun res _ => res = .tuple #[.agg (algC 0 0 (fun _ _ _ => 0) (fun _ => 0)), .int .i64 1]) := by
  refine calls_fr [.agg (algC p n T f), .agg (vecC v)] Try.func43 rfl Try.ntmps43 rfl fun a hF => ?_
  have hM : Mem w w [none, none, none, none, none, none] [] := MemX.start w 6
  change Fr 47 a [(0, .agg (algC p n T f)), (1, .agg (vecC v))] at hF
  have hVb : ∀ i c, vAtL [v] i c ≤ 255 := vAtL_le (fun x hx => by simp at hx; subst hx <;> assumption)
  refine sq ?_
  refine wp_region_lit ?_
  refine stR hF (d_box 0 hM hF rfl) rfl ?_
  rintro _ w' a ⟨b1, rfl, hM, -⟩ hF
  change Mem w w' [some (b1, algC p n T f), none, none, none, none, none] [] at hM
  refine stR hF (d_box 1 hM hF rfl) rfl ?_
  rintro _ w' a ⟨b2, rfl, hM, -⟩ hF
  change Mem w w' [some (b1, algC p n T f), some (b2, vecC v), none, none, none, none] [] at hM
  refine stR hF (d_alloc 2 hM ty_ze_32) rfl ?_
  rintro _ w' a ⟨b3, rfl, hM, -⟩ hF
  change Mem w w' [some (b1, algC p n T f), some (b2, vecC v), some (b3, algC 0 0 (fun _ _ _ => 0) (fun _ => 0)), none, none, none] [] at hM
  refine st hF (g_assign hF rfl) rfl fun a hF => ?_
  refine wpList_nil ?_
  refine tN ?_
  refine sq ?_
  refine wp_region_lit ?_
  refine st hF (g_loadAgg ty_ag_32 hF rfl (hM.row 0 rfl) (by simp only [fnC_size, cells_size, vecC_size, tabC_size, planeC_size] <;> omega) (whole cells_size)) rfl fun a hF => st hF (g_loadAgg ty_ag_30 hF rfl (hM.row 1 rfl) (by simp only [fnC_size, cells_size, vecC_size, tabC_size, planeC_size] <;> omega) (whole (by simp only [fnC_size, cells_size, vecC_size, tabC_size, planeC_size]))) rfl fun a hF => ?_
  refine stR hF (d_buildC (vs := [(0, .agg (vecC v))]) 3 hM hF (build1 hF rfl) (fun w => ty_bsg_27_1 v w)) rfl ?_
  rintro _ w' a ⟨b4, rfl, hM, -⟩ hF
  change Mem w w' [some (b1, algC p n T f), some (b2, vecC v), some (b3, algC 0 0 (fun _ _ _ => 0) (fun _ => 0)), some (b4, vecsC 1 (vAtL [v])), none, none] [] at hM
  refine stR hF (d_call Try.call77 hF (.cons rfl (.cons rfl .nil)) (frobeniusFault_okA p n T f b4 1 1 (vAtL [v]) _ (fun _ _ _ => hT _ _ _) (fun _ => hf _) hVb (by omega) (hM.row 3 rfl) hc)) rfl ?_
  rintro _ w' a ⟨hx, rfl⟩ hF
  have hM := hM.ext hx
  refine st hF (g_assign hF rfl) rfl fun a hF => ?_
  refine wpList_nil ?_
  refine tN ?_
  refine sq ?_
  refine sq ?_
  refine wp_region_lit ?_
  refine st hF (g_move hF rfl) rfl fun a hF => st hF (g_neq hF rfl rfl) rfl fun a hF => ?_
  refine wpList_nil ?_
  refine tN ?_
  refine c_kT hF rfl (by decide) ?_
  refine sq ?_
  refine wp_region_lit ?_
  refine st hF (g_build0 ty_bu_32) rfl fun a hF => st hF (g_move hF rfl) rfl fun a hF => ?_
  refine stN hF (d_storeAgg 2 hM rfl ty_sz_32 hF rfl rfl (by first | exact vecC_one | exact cells_one | (refine fnC_one fun _ _ => ?_; first | rfl | (split <;> rfl))) (by simp only [fnC_size, cells_size, vecC_size, tabC_size, planeC_size]) (by simp only [fnC_size, cells_size, vecC_size, tabC_size, planeC_size] <;> omega) (splice_whole _ _ (by simp only [fnC_size, cells_size, vecC_size, tabC_size, planeC_size]))) ?_
  intro _ w' a hM hF
  change Mem w w' [some (b1, algC p n T f), some (b2, vecC v), some (b3, algC 0 0 (fun _ _ _ => 0) (fun _ => 0)), some (b4, vecsC 1 (vAtL [v])), none, none] [] at hM
  refine st hF (g_assign hF rfl) rfl fun a hF => ?_
  refine wpList_nil ?_
  refine tN ?_
  refine wp_ret ?_
  refine tR ?_
  refine fin2 rfl hF.defers (res_agg ty_ag_32 hF rfl (hM.row 2 rfl) (by simp only [fnC_size, cells_size, vecC_size, tabC_size, planeC_size])) (res_tmp hF rfl) ⟨_, rfl, hM.below, ?_⟩
  show _ = _
  rfl

theorem ChangeFormIF (p n : Nat) (T : Nat → Nat → Nat → Nat) (f : Nat → Nat) (v : Nat → Nat) (w : World) (hp : primeN p) (hn0 : 0 < n) (hn : n ≤ 6) (hTp : ∀ i j k, T i j k < p) (hT0 : ∀ i j k, n ≤ k → T i j k = 0) (hf : ∀ i, f i ≤ 255) (hv : ∀ i, v i ≤ 255) (hfr : ¬ FrobN p n T f) (hc : CodeP (p : Int) (n : Int) T f 1 (vAtL [v])) :
    CallsR Try.prog 43 #[.agg (algC (p : Int) (n : Int) T f), .agg (vecC v)] w (fun res _ => res = .tuple #[.agg (algC 0 0 (fun _ _ _ => 0) (fun _ => 0)), .int .i64 5]) := by
  refine calls_fr [.agg (algC (p : Int) (n : Int) T f), .agg (vecC v)] Try.func43 rfl Try.ntmps43 rfl fun a hF => ?_
  have hM : Mem w w [none, none, none, none, none, none] [] := MemX.start w 6
  change Fr 47 a [(0, .agg (algC (p : Int) (n : Int) T f)), (1, .agg (vecC v))] at hF
  have hp2 := hp.two
  have hp13 := hp.le
  have hT : ∀ i j k, T i j k ≤ 255 := fun i j k => by have := hTp i j k; omega
  have hVb : ∀ i c, vAtL [v] i c ≤ 255 := vAtL_le (fun x hx => by simp at hx; subst hx <;> assumption)
  refine sq ?_
  refine wp_region_lit ?_
  refine stR hF (d_box 0 hM hF rfl) rfl ?_
  rintro _ w' a ⟨b1, rfl, hM, -⟩ hF
  change Mem w w' [some (b1, algC (p : Int) (n : Int) T f), none, none, none, none, none] [] at hM
  refine stR hF (d_box 1 hM hF rfl) rfl ?_
  rintro _ w' a ⟨b2, rfl, hM, -⟩ hF
  change Mem w w' [some (b1, algC (p : Int) (n : Int) T f), some (b2, vecC v), none, none, none, none] [] at hM
  refine stR hF (d_alloc 2 hM ty_ze_32) rfl ?_
  rintro _ w' a ⟨b3, rfl, hM, -⟩ hF
  change Mem w w' [some (b1, algC (p : Int) (n : Int) T f), some (b2, vecC v), some (b3, algC 0 0 (fun _ _ _ => 0) (fun _ => 0)), none, none, none] [] at hM
  refine st hF (g_assign hF rfl) rfl fun a hF => ?_
  refine wpList_nil ?_
  refine tN ?_
  refine sq ?_
  refine wp_region_lit ?_
  refine st hF (g_loadAgg ty_ag_32 hF rfl (hM.row 0 rfl) (by simp only [fnC_size, cells_size, vecC_size, tabC_size, planeC_size] <;> omega) (whole cells_size)) rfl fun a hF => st hF (g_loadAgg ty_ag_30 hF rfl (hM.row 1 rfl) (by simp only [fnC_size, cells_size, vecC_size, tabC_size, planeC_size] <;> omega) (whole (by simp only [fnC_size, cells_size, vecC_size, tabC_size, planeC_size]))) rfl fun a hF => ?_
  refine stR hF (d_buildC (vs := [(0, .agg (vecC v))]) 3 hM hF (build1 hF rfl) (fun w => ty_bsg_27_1 v w)) rfl ?_
  rintro _ w' a ⟨b4, rfl, hM, -⟩ hF
  change Mem w w' [some (b1, algC (p : Int) (n : Int) T f), some (b2, vecC v), some (b3, algC 0 0 (fun _ _ _ => 0) (fun _ => 0)), some (b4, vecsC 1 (vAtL [v])), none, none] [] at hM
  refine stR hF (d_call Try.call77 hF (.cons rfl (.cons rfl .nil)) (frobeniusFault_okF p n T f b4 1 1 (vAtL [v]) _ hp hn0 hn hTp hf hVb (by omega) (hM.row 3 rfl) hfr hc)) rfl ?_
  rintro _ w' a ⟨hx, rfl⟩ hF
  have hM := hM.ext hx
  refine st hF (g_assign hF rfl) rfl fun a hF => ?_
  refine wpList_nil ?_
  refine tN ?_
  refine sq ?_
  refine sq ?_
  refine wp_region_lit ?_
  refine st hF (g_move hF rfl) rfl fun a hF => st hF (g_neq hF rfl rfl) rfl fun a hF => ?_
  refine wpList_nil ?_
  refine tN ?_
  refine c_kT hF rfl (by decide) ?_
  refine sq ?_
  refine wp_region_lit ?_
  refine st hF (g_build0 ty_bu_32) rfl fun a hF => st hF (g_move hF rfl) rfl fun a hF => ?_
  refine stN hF (d_storeAgg 2 hM rfl ty_sz_32 hF rfl rfl (by first | exact vecC_one | exact cells_one | (refine fnC_one fun _ _ => ?_; first | rfl | (split <;> rfl))) (by simp only [fnC_size, cells_size, vecC_size, tabC_size, planeC_size]) (by simp only [fnC_size, cells_size, vecC_size, tabC_size, planeC_size] <;> omega) (splice_whole _ _ (by simp only [fnC_size, cells_size, vecC_size, tabC_size, planeC_size]))) ?_
  intro _ w' a hM hF
  change Mem w w' [some (b1, algC (p : Int) (n : Int) T f), some (b2, vecC v), some (b3, algC 0 0 (fun _ _ _ => 0) (fun _ => 0)), some (b4, vecsC 1 (vAtL [v])), none, none] [] at hM
  refine st hF (g_assign hF rfl) rfl fun a hF => ?_
  refine wpList_nil ?_
  refine tN ?_
  refine wp_ret ?_
  refine tR ?_
  refine fin2 rfl hF.defers (res_agg ty_ag_32 hF rfl (hM.row 2 rfl) (by simp only [fnC_size, cells_size, vecC_size, tabC_size, planeC_size])) (res_tmp hF rfl) ⟨_, rfl, hM.below, ?_⟩
  show _ = _
  rfl

theorem ChangeFormIN (p n : Nat) (T : Nat → Nat → Nat → Nat) (f : Nat → Nat) (v : Nat → Nat) (w : World) (hp : primeN p) (hn0 : 0 < n) (hn : n ≤ 6) (hTp : ∀ i j k, T i j k < p) (hT0 : ∀ i j k, n ≤ k → T i j k = 0) (hf : ∀ i, f i ≤ 255) (hv : ∀ i, v i ≤ 255) (hfr : FrobN p n T f) (uu : Nat → Nat) (huu : UnitI p n T uu) (has : asS p n T) (hno : ∀ q, ¬ InvI p n T uu v q) (hc : CodeP (p : Int) (n : Int) T f 1 (vAtL [v])) :
    CallsR Try.prog 43 #[.agg (algC (p : Int) (n : Int) T f), .agg (vecC v)] w (fun res _ => res = .tuple #[.agg (algC 0 0 (fun _ _ _ => 0) (fun _ => 0)), .int .i64 5]) := by
  refine calls_fr [.agg (algC (p : Int) (n : Int) T f), .agg (vecC v)] Try.func43 rfl Try.ntmps43 rfl fun a hF => ?_
  have hM : Mem w w [none, none, none, none, none, none] [] := MemX.start w 6
  change Fr 47 a [(0, .agg (algC (p : Int) (n : Int) T f)), (1, .agg (vecC v))] at hF
  have hp2 := hp.two
  have hp13 := hp.le
  have hT : ∀ i j k, T i j k ≤ 255 := fun i j k => by have := hTp i j k; omega
  have hVb : ∀ i c, vAtL [v] i c ≤ 255 := vAtL_le (fun x hx => by simp at hx; subst hx <;> assumption)
  refine sq ?_
  refine wp_region_lit ?_
  refine stR hF (d_box 0 hM hF rfl) rfl ?_
  rintro _ w' a ⟨b1, rfl, hM, -⟩ hF
  change Mem w w' [some (b1, algC (p : Int) (n : Int) T f), none, none, none, none, none] [] at hM
  refine stR hF (d_box 1 hM hF rfl) rfl ?_
  rintro _ w' a ⟨b2, rfl, hM, -⟩ hF
  change Mem w w' [some (b1, algC (p : Int) (n : Int) T f), some (b2, vecC v), none, none, none, none] [] at hM
  refine stR hF (d_alloc 2 hM ty_ze_32) rfl ?_
  rintro _ w' a ⟨b3, rfl, hM, -⟩ hF
  change Mem w w' [some (b1, algC (p : Int) (n : Int) T f), some (b2, vecC v), some (b3, algC 0 0 (fun _ _ _ => 0) (fun _ => 0)), none, none, none] [] at hM
  refine st hF (g_assign hF rfl) rfl fun a hF => ?_
  refine wpList_nil ?_
  refine tN ?_
  refine sq ?_
  refine wp_region_lit ?_
  refine st hF (g_loadAgg ty_ag_32 hF rfl (hM.row 0 rfl) (by simp only [fnC_size, cells_size, vecC_size, tabC_size, planeC_size] <;> omega) (whole cells_size)) rfl fun a hF => st hF (g_loadAgg ty_ag_30 hF rfl (hM.row 1 rfl) (by simp only [fnC_size, cells_size, vecC_size, tabC_size, planeC_size] <;> omega) (whole (by simp only [fnC_size, cells_size, vecC_size, tabC_size, planeC_size]))) rfl fun a hF => ?_
  refine stR hF (d_buildC (vs := [(0, .agg (vecC v))]) 3 hM hF (build1 hF rfl) (fun w => ty_bsg_27_1 v w)) rfl ?_
  rintro _ w' a ⟨b4, rfl, hM, -⟩ hF
  change Mem w w' [some (b1, algC (p : Int) (n : Int) T f), some (b2, vecC v), some (b3, algC 0 0 (fun _ _ _ => 0) (fun _ => 0)), some (b4, vecsC 1 (vAtL [v])), none, none] [] at hM
  refine stR hF (d_call Try.call77 hF (.cons rfl (.cons rfl .nil)) (frobeniusFault_okY p n T f b4 1 1 (vAtL [v]) _ hp hn0 hn hTp hf hVb (by omega) (hM.row 3 rfl) hfr hc)) rfl ?_
  rintro _ w' a ⟨hx, rfl⟩ hF
  have hM := hM.ext hx
  refine st hF (g_assign hF rfl) rfl fun a hF => ?_
  refine wpList_nil ?_
  refine tN ?_
  refine sq ?_
  refine sq ?_
  refine wp_region_lit ?_
  refine st hF (g_move hF rfl) rfl fun a hF => st hF (g_neq hF rfl rfl) rfl fun a hF => ?_
  refine wpList_nil ?_
  refine tN ?_
  refine c_kF hF rfl (by decide) ?_
  refine wp_skip ?_
  refine tN ?_
  refine sq ?_
  refine sq ?_
  refine wp_region_lit ?_
  refine st hF (g_loadAgg ty_ag_32 hF rfl (hM.row 0 rfl) (by simp only [fnC_size, cells_size, vecC_size, tabC_size, planeC_size] <;> omega) (whole cells_size)) rfl fun a hF => st hF (g_loadAgg ty_ag_30 hF rfl (hM.row 1 rfl) (by simp only [fnC_size, cells_size, vecC_size, tabC_size, planeC_size] <;> omega) (whole (by simp only [fnC_size, cells_size, vecC_size, tabC_size, planeC_size]))) rfl fun a hF => ?_
  refine stR hF (d_call Try.call86 hF (.cons rfl (.cons rfl .nil)) (findInverse_ok p n T f (v) _ hp hn0 hn hTp hT0 hv uu huu)) rfl ?_
  rintro _ w' a ⟨hx, x, b, rfl, hI⟩ hF
  have hM := hM.ext hx
  obtain rfl : b = false := by
    rcases hI with ⟨_, h⟩ | ⟨e, _⟩
    · exact absurd h (hno _)
    · exact e
  ·
    refine st hF (g_move hF rfl) rfl fun a hF => st hF (g_extract hF rfl rfl) rfl fun a hF => st hF (g_extract hF rfl rfl) rfl fun a hF => ?_
    refine stR hF (d_alloc 4 hM ty_ze_30) rfl ?_
    rintro _ w' a ⟨b6, rfl, hM, -⟩ hF
    change Mem w w' [some (b1, algC (p : Int) (n : Int) T f), some (b2, vecC v), some (b3, algC 0 0 (fun _ _ _ => 0) (fun _ => 0)), some (b4, vecsC 1 (vAtL [v])), some (b6, fnC 6 (fun _ => .int .u8 (0))), none] [] at hM
    refine stN hF (d_storeAgg 4 hM rfl ty_sz_30 hF rfl rfl (by first | exact vecC_one | exact cells_one | (refine fnC_one fun _ _ => ?_; first | rfl | (split <;> rfl))) (by simp only [fnC_size, cells_size, vecC_size, tabC_size, planeC_size]) (by simp only [fnC_size, cells_size, vecC_size, tabC_size, planeC_size] <;> omega) (splice_whole _ _ (by simp only [fnC_size, cells_size, vecC_size, tabC_size, planeC_size]))) ?_
    intro _ w' a hM hF
    change Mem w w' [some (b1, algC (p : Int) (n : Int) T f), some (b2, vecC v), some (b3, algC 0 0 (fun _ _ _ => 0) (fun _ => 0)), some (b4, vecsC 1 (vAtL [v])), some (b6, vecC x), none] [] at hM
    refine st hF (g_assign hF rfl) rfl fun a hF => ?_
    refine wpList_nil ?_
    refine tN ?_
    refine sq ?_
    refine wp_region_lit ?_
    refine st hF (g_move hF rfl) rfl fun a hF => st hF (g_not hF rfl) rfl fun a hF => ?_
    refine wpList_nil ?_
    refine tN ?_
    refine c_T hF rfl ?_
    refine sq ?_
    refine wp_region_lit ?_
    refine st hF (g_build0 ty_bu_32) rfl fun a hF => ?_
    refine stN hF (d_storeAgg 2 hM rfl ty_sz_32 hF rfl rfl (by first | exact vecC_one | exact cells_one | (refine fnC_one fun _ _ => ?_; first | rfl | (split <;> rfl))) (by simp only [fnC_size, cells_size, vecC_size, tabC_size, planeC_size]) (by simp only [fnC_size, cells_size, vecC_size, tabC_size, planeC_size] <;> omega) (splice_whole _ _ (by simp only [fnC_size, cells_size, vecC_size, tabC_size, planeC_size]))) ?_
    intro _ w' a hM hF
    change Mem w w' [some (b1, algC (p : Int) (n : Int) T f), some (b2, vecC v), some (b3, algC 0 0 (fun _ _ _ => 0) (fun _ => 0)), some (b4, vecsC 1 (vAtL [v])), some (b6, vecC x), none] [] at hM
    refine st hF (g_assign hF rfl) rfl fun a hF => ?_
    refine wpList_nil ?_
    refine tN ?_
    refine wp_ret ?_
    refine tR ?_
    refine fin2 rfl hF.defers (res_agg ty_ag_32 hF rfl (hM.row 2 rfl) (by simp only [fnC_size, cells_size, vecC_size, tabC_size, planeC_size])) (res_tmp hF rfl) ⟨_, rfl, hM.below, ?_⟩
    show _ = _
    rfl

theorem ChangeFormIY (p n : Nat) (T : Nat → Nat → Nat → Nat) (f : Nat → Nat) (v : Nat → Nat) (w : World) (hp : primeN p) (hn0 : 0 < n) (hn : n ≤ 6) (hTp : ∀ i j k, T i j k < p) (hT0 : ∀ i j k, n ≤ k → T i j k = 0) (hf : ∀ i, f i ≤ 255) (hv : ∀ i, v i ≤ 255) (hfr : FrobN p n T f) (uu : Nat → Nat) (huu : UnitI p n T uu) (has : asS p n T) (iv : Nat → Nat) (hiv : InvI p n T uu v iv) (hc : CodeP (p : Int) (n : Int) T f 1 (vAtL [v])) :
    CallsR Try.prog 43 #[.agg (algC (p : Int) (n : Int) T f), .agg (vecC v)] w (fun res _ => res = .tuple #[.agg (algC (p : Int) (n : Int) T (fun i => if i < n then sumTo (fun c => timesV p n T v (fun c => if c = i then 1 else 0) c * f c) 6 % p else f i)), .int .i64 0]) := by
  refine calls_fr [.agg (algC (p : Int) (n : Int) T f), .agg (vecC v)] Try.func43 rfl Try.ntmps43 rfl fun a hF => ?_
  have hM : Mem w w [none, none, none, none, none, none] [] := MemX.start w 6
  change Fr 47 a [(0, .agg (algC (p : Int) (n : Int) T f)), (1, .agg (vecC v))] at hF
  have hp2 := hp.two
  have hp13 := hp.le
  have hT : ∀ i j k, T i j k ≤ 255 := fun i j k => by have := hTp i j k; omega
  have hVb : ∀ i c, vAtL [v] i c ≤ 255 := vAtL_le (fun x hx => by simp at hx; subst hx <;> assumption)
  have hiv5 : ∀ c, iv c ≤ 255 := fun c => by have := hiv.small c; omega
  refine sq ?_
  refine wp_region_lit ?_
  refine stR hF (d_box 0 hM hF rfl) rfl ?_
  rintro _ w' a ⟨b1, rfl, hM, -⟩ hF
  change Mem w w' [some (b1, algC (p : Int) (n : Int) T f), none, none, none, none, none] [] at hM
  refine stR hF (d_box 1 hM hF rfl) rfl ?_
  rintro _ w' a ⟨b2, rfl, hM, -⟩ hF
  change Mem w w' [some (b1, algC (p : Int) (n : Int) T f), some (b2, vecC v), none, none, none, none] [] at hM
  refine stR hF (d_alloc 2 hM ty_ze_32) rfl ?_
  rintro _ w' a ⟨b3, rfl, hM, -⟩ hF
  change Mem w w' [some (b1, algC (p : Int) (n : Int) T f), some (b2, vecC v), some (b3, algC 0 0 (fun _ _ _ => 0) (fun _ => 0)), none, none, none] [] at hM
  refine st hF (g_assign hF rfl) rfl fun a hF => ?_
  refine wpList_nil ?_
  refine tN ?_
  refine sq ?_
  refine wp_region_lit ?_
  refine st hF (g_loadAgg ty_ag_32 hF rfl (hM.row 0 rfl) (by simp only [fnC_size, cells_size, vecC_size, tabC_size, planeC_size] <;> omega) (whole cells_size)) rfl fun a hF => st hF (g_loadAgg ty_ag_30 hF rfl (hM.row 1 rfl) (by simp only [fnC_size, cells_size, vecC_size, tabC_size, planeC_size] <;> omega) (whole (by simp only [fnC_size, cells_size, vecC_size, tabC_size, planeC_size]))) rfl fun a hF => ?_
  refine stR hF (d_buildC (vs := [(0, .agg (vecC v))]) 3 hM hF (build1 hF rfl) (fun w => ty_bsg_27_1 v w)) rfl ?_
  rintro _ w' a ⟨b4, rfl, hM, -⟩ hF
  change Mem w w' [some (b1, algC (p : Int) (n : Int) T f), some (b2, vecC v), some (b3, algC 0 0 (fun _ _ _ => 0) (fun _ => 0)), some (b4, vecsC 1 (vAtL [v])), none, none] [] at hM
  refine stR hF (d_call Try.call77 hF (.cons rfl (.cons rfl .nil)) (frobeniusFault_okY p n T f b4 1 1 (vAtL [v]) _ hp hn0 hn hTp hf hVb (by omega) (hM.row 3 rfl) hfr hc)) rfl ?_
  rintro _ w' a ⟨hx, rfl⟩ hF
  have hM := hM.ext hx
  refine st hF (g_assign hF rfl) rfl fun a hF => ?_
  refine wpList_nil ?_
  refine tN ?_
  refine sq ?_
  refine sq ?_
  refine wp_region_lit ?_
  refine st hF (g_move hF rfl) rfl fun a hF => st hF (g_neq hF rfl rfl) rfl fun a hF => ?_
  refine wpList_nil ?_
  refine tN ?_
  refine c_kF hF rfl (by decide) ?_
  refine wp_skip ?_
  refine tN ?_
  refine sq ?_
  refine sq ?_
  refine wp_region_lit ?_
  refine st hF (g_loadAgg ty_ag_32 hF rfl (hM.row 0 rfl) (by simp only [fnC_size, cells_size, vecC_size, tabC_size, planeC_size] <;> omega) (whole cells_size)) rfl fun a hF => st hF (g_loadAgg ty_ag_30 hF rfl (hM.row 1 rfl) (by simp only [fnC_size, cells_size, vecC_size, tabC_size, planeC_size] <;> omega) (whole (by simp only [fnC_size, cells_size, vecC_size, tabC_size, planeC_size]))) rfl fun a hF => ?_
  refine stR hF (d_call Try.call86 hF (.cons rfl (.cons rfl .nil)) (findInverse_ok p n T f (v) _ hp hn0 hn hTp hT0 hv uu huu)) rfl ?_
  rintro _ w' a ⟨hx, x, b, rfl, hI⟩ hF
  have hM := hM.ext hx
  obtain ⟨rfl, rfl⟩ : b = true ∧ x = iv := by
    rcases hI with ⟨e, h⟩ | ⟨_, h⟩
    · exact ⟨e, InvI.unique (AssI_of hn has) huu hiv h⟩
    · exact absurd hiv (h _)
  ·
    refine st hF (g_move hF rfl) rfl fun a hF => st hF (g_extract hF rfl rfl) rfl fun a hF => st hF (g_extract hF rfl rfl) rfl fun a hF => ?_
    refine stR hF (d_alloc 4 hM ty_ze_30) rfl ?_
    rintro _ w' a ⟨b6, rfl, hM, -⟩ hF
    change Mem w w' [some (b1, algC (p : Int) (n : Int) T f), some (b2, vecC v), some (b3, algC 0 0 (fun _ _ _ => 0) (fun _ => 0)), some (b4, vecsC 1 (vAtL [v])), some (b6, fnC 6 (fun _ => .int .u8 (0))), none] [] at hM
    refine stN hF (d_storeAgg 4 hM rfl ty_sz_30 hF rfl rfl (by first | exact vecC_one | exact cells_one | (refine fnC_one fun _ _ => ?_; first | rfl | (split <;> rfl))) (by simp only [fnC_size, cells_size, vecC_size, tabC_size, planeC_size]) (by simp only [fnC_size, cells_size, vecC_size, tabC_size, planeC_size] <;> omega) (splice_whole _ _ (by simp only [fnC_size, cells_size, vecC_size, tabC_size, planeC_size]))) ?_
    intro _ w' a hM hF
    change Mem w w' [some (b1, algC (p : Int) (n : Int) T f), some (b2, vecC v), some (b3, algC 0 0 (fun _ _ _ => 0) (fun _ => 0)), some (b4, vecsC 1 (vAtL [v])), some (b6, vecC x), none] [] at hM
    refine st hF (g_assign hF rfl) rfl fun a hF => ?_
    refine wpList_nil ?_
    refine tN ?_
    refine sq ?_
    refine wp_region_lit ?_
    refine st hF (g_move hF rfl) rfl fun a hF => st hF (g_not hF rfl) rfl fun a hF => ?_
    refine wpList_nil ?_
    refine tN ?_
    refine c_Fl hF rfl ?_
    refine wp_skip ?_
    refine tN ?_
    refine sq ?_
    refine wp_region_lit ?_
    refine st hF (g_loadAgg ty_ag_32 hF rfl (hM.row 0 rfl) (by simp only [fnC_size, cells_size, vecC_size, tabC_size, planeC_size] <;> omega) (whole cells_size)) rfl fun a hF => ?_
    refine stR hF (d_alloc 5 hM ty_ze_32) rfl ?_
    rintro _ w' a ⟨b8, rfl, hM, -⟩ hF
    change Mem w w' [some (b1, algC (p : Int) (n : Int) T f), some (b2, vecC v), some (b3, algC 0 0 (fun _ _ _ => 0) (fun _ => 0)), some (b4, vecsC 1 (vAtL [v])), some (b6, vecC x), some (b8, algC 0 0 (fun _ _ _ => 0) (fun _ => 0))] [] at hM
    refine stN hF (d_storeAgg 5 hM rfl ty_sz_32 hF rfl rfl (by first | exact vecC_one | exact cells_one | (refine fnC_one fun _ _ => ?_; first | rfl | (split <;> rfl))) (by simp only [fnC_size, cells_size, vecC_size, tabC_size, planeC_size]) (by simp only [fnC_size, cells_size, vecC_size, tabC_size, planeC_size] <;> omega) (splice_whole _ _ (by simp only [fnC_size, cells_size, vecC_size, tabC_size, planeC_size]))) ?_
    intro _ w' a hM hF
    change Mem w w' [some (b1, algC (p : Int) (n : Int) T f), some (b2, vecC v), some (b3, algC 0 0 (fun _ _ _ => 0) (fun _ => 0)), some (b4, vecsC 1 (vAtL [v])), some (b6, vecC x), some (b8, algC (p : Int) (n : Int) T f)] [] at hM
    refine wpList_nil ?_
    refine tN ?_
    refine sq ?_
    refine sq ?_
    refine wp_region_lit ?_
    refine st hF (g_fieldAddr ty_fo_32_1 hF rfl) rfl fun a hF => st hF (g_load ty_on_2 hF rfl (hM.row 0 rfl) (algC_n (by omega))) rfl fun a hF => st hF (g_move hF rfl) rfl fun a hF => ?_
    refine wpList_nil ?_
    refine tN ?_
    refine wp_block ?_
    change Mem w _ [some (b1, algC (p : Int) (n : Int) T f), some (b2, vecC v), some (b3, algC 0 0 (fun _ _ _ => 0) (fun _ => 0)), some (b4, vecsC 1 (vAtL [v])), some (b6, vecC x), some (b8, algC (p : Int) (n : Int) T f)] [] at hM
    refine c_loop (fun (kk : Nat) a w' => kk ≤ n ∧ (True) ∧ Fr 47 a [(22, .tuple #[.agg (vecC x), .bool (true)]), (0, .agg (algC (p : Int) (n : Int) T f)), (1, .agg (vecC v)), (2, ptr b1 (0)), (3, ptr b2 (0)), (4, ptr b3 (0)), (5, .int .i64 (0)), (11, .agg (algC (p : Int) (n : Int) T f)), (12, .agg (vecC v)), (13, .slice (some ⟨b4, 0, none⟩) (1) (1)), (14, .int .i64 (0)), (6, .int .i64 (0)), (15, .int .i64 (0)), (16, .bool (decide ((0 : Int) ≠ 0))), (20, .agg (algC (p : Int) (n : Int) T f)), (21, .agg (vecC v)), (19, .tuple #[.agg (vecC x), .bool (true)]), (23, .agg (vecC x)), (24, .bool (true)), (7, ptr b6 (0)), (8, .bool (true)), (25, .bool (true)), (26, .bool (false)), (28, .agg (algC (p : Int) (n : Int) T f)), (9, ptr b8 (0)), (29, ptr b1 (0 + 1)), (30, .int .i64 (((n : Nat) : Int))), (31, .int .i64 (((kk : Nat) : Int)))] ∧ Mem w w' [some (b1, algC (p : Int) (n : Int) T f), some (b2, vecC v), some (b3, algC 0 0 (fun _ _ _ => 0) (fun _ => 0)), some (b4, vecsC 1 (vAtL [v])), some (b6, vecC x), some (b8, algC (p : Int) (n : Int) T (fun i => if i < kk then sumTo (fun c => timesV p n T v (fun c => if c = i then 1 else 0) c * f c) 6 % p else f i))] []) (fun kk => n - kk) 0 ?_ ?_
    ·
      refine ⟨by omega, trivial, hF.sub _ (by repeat' constructor), ?_⟩
      exact hM.cast (by simp)
    ·
      clear hF hM
      rintro gi a w' ⟨hgi, hinv1, hF, hM⟩
      have hvt : ∀ c, timesV p n T v (fun c => if c = gi then 1 else 0) c ≤ 255 := fun c => timesV_le (by omega) (by omega) _ _ c
      refine sq ?_
      refine wp_region_lit ?_
      refine st hF (g_lss hF rfl rfl) rfl fun a hF => ?_
      refine wpList_nil ?_
      refine tN ?_
      refine sq ?_
      refine c_cond hF rfl (fun h9 => ?_) (fun h9 => ?_)
      ·
        refine wp_skip ?_
        refine tN ?_
        refine sq ?_
        refine wp_block ?_
        refine sq ?_
        refine wp_region_lit ?_
        refine st hF (g_move hF rfl) rfl fun a hF => st hF (g_assign hF rfl) rfl fun a hF => ?_
        refine wpList_nil ?_
        refine tN ?_
        refine c_par 10 [] [.val (.int .i64 (((gi : Nat) : Int))), .val (.agg (algC (p : Int) (n : Int) T f)), .val (.agg (algC (p : Int) (n : Int) T f)), .val (.agg (vecC v)), .val (.int .i64 (((gi : Nat) : Int))), .val (.agg (vecC (fun c => if c = gi then 1 else 0))), .val (.agg (vecC (timesV p n T (v) ((fun c => if c = gi then 1 else 0))))), .val (.int .i64 (((sumTo (fun i => ((timesV p n T (v) ((fun c => if c = gi then 1 else 0)))) i * f i) 6 % p : Nat) : Int))), .val (.int .u8 (((sumTo (fun i => ((timesV p n T (v) ((fun c => if c = gi then 1 else 0)))) i * f i) 6 % p : Nat) : Int))), .val (ptr b8 (0 + 218))] hmix rfl hF rfl hM ⟨fun a w g hF hS hd => by exact par_val hS rfl (g_move hF rfl), fun a w g hF hS hd => by have hM := hS.mem rfl; exact par_val hS rfl (g_loadAgg ty_ag_32 hF rfl (hM.row 0 rfl) (by simp only [fnC_size, cells_size, vecC_size, tabC_size, planeC_size] <;> omega) (whole cells_size)), fun a w g hF hS hd => by have hM := hS.mem rfl; exact par_val hS rfl (g_loadAgg ty_ag_32 hF rfl (hM.row 0 rfl) (by simp only [fnC_size, cells_size, vecC_size, tabC_size, planeC_size] <;> omega) (whole cells_size)), fun a w g hF hS hd => by have hM := hS.mem rfl; exact par_val hS rfl (g_loadAgg ty_ag_30 hF rfl (hM.row 1 rfl) (by simp only [fnC_size, cells_size, vecC_size, tabC_size, planeC_size] <;> omega) (whole (by simp only [fnC_size, cells_size, vecC_size, tabC_size, planeC_size]))), fun a w g hF hS hd => by exact par_val hS rfl (g_move hF rfl), fun a w g hF hS hd => by have hF := hF.ext1 38 (hd 4 rfl rfl); exact par_call (by repeat constructor) hS rfl (d_call Try.call88 hF (.cons rfl .nil) (basisVector_ok (gi) _ (by omega))), fun a w g hF hS hd => by have hF := hF.ext1 36 (hd 2 rfl rfl); have hF := hF.ext1 37 (hd 3 rfl rfl); have hF := hF.ext1 39 (hd 5 rfl rfl); exact par_call (by repeat constructor) hS rfl (d_call Try.call81 hF (.cons rfl (.cons rfl (.cons rfl .nil))) (product_ok p n T f (v) ((fun c => if c = gi then 1 else 0)) _ (by omega) (by omega) (by omega) (fun _ _ _ => hT _ _ _) (fun _ => by first | exact hv _ | exact hvt _ | exact hvs _ | exact hu _ | exact hT _ _ _ | exact hf _ | omega | (split <;> omega) | (dsimp only; split <;> omega) | assumption) (fun _ => by first | exact hv _ | exact hvt _ | exact hvs _ | exact hu _ | exact hT _ _ _ | exact hf _ | omega | (split <;> omega) | (dsimp only; split <;> omega) | assumption))), fun a w g hF hS hd => by have hF := hF.ext1 35 (hd 1 rfl rfl); have hF := hF.ext1 40 (hd 6 rfl rfl); exact par_call (by repeat constructor) hS rfl (d_call Try.call87 hF (.cons rfl (.cons rfl .nil)) (form_ok p n T f ((timesV p n T (v) ((fun c => if c = gi then 1 else 0)))) _ (by omega) (fun _ => by first | exact hv _ | exact hvt _ | exact hvs _ | exact hu _ | exact hT _ _ _ | exact hf _ | omega | (split <;> omega) | (dsimp only; split <;> omega) | assumption) (fun _ => by first | exact hv _ | exact hvt _ | exact hvs _ | exact hu _ | exact hT _ _ _ | exact hf _ | omega | (split <;> omega) | (dsimp only; split <;> omega) | assumption))), fun a w g hF hS hd => by have hF := hF.ext1 41 (hd 7 rfl rfl); exact par_val hS rfl (g_conv ty_un_5 ty_ud_2 hF rfl (wrap_u8 (by omega) (by have := Nat.mod_lt (sumTo (fun c => timesV p n T v (fun c => if c = gi then 1 else 0) c * f c) 6) (show 0 < p by omega); omega))), fun a w g hF hS hd => by exact par_val hS rfl (g_fieldAddr ty_fo_32_3 hF rfl), trivial⟩ ?_
        intro a w' L hF hS hq
        have hF := hF.ext1 34 (hq 0 rfl rfl)
        have hF := hF.ext1 35 (hq 1 rfl rfl)
        have hF := hF.ext1 36 (hq 2 rfl rfl)
        have hF := hF.ext1 37 (hq 3 rfl rfl)
        have hF := hF.ext1 38 (hq 4 rfl rfl)
        have hF := hF.ext1 39 (hq 5 rfl rfl)
        have hF := hF.ext1 40 (hq 6 rfl rfl)
        have hF := hF.ext1 41 (hq 7 rfl rfl)
        have hF := hF.ext1 42 (hq 8 rfl rfl)
        have hF := hF.ext1 43 (hq 9 rfl rfl)
        have hM := hS.mem rfl
        change wpList Try.prog _ _ [_, _] _ _
        refine st hF (g_indexAddr ty_ar_30 hF rfl rfl rfl (by omega)) rfl fun a hF => ?_
        refine stN hF (d_store 5 hM rfl ty_on_5 hF rfl rfl rfl (by first | omega | (simp only [fnC_size, cells_size, vecC_size, tabC_size, planeC_size] <;> omega))) ?_
        intro _ w' a hM hF
        change Mem w w' [some (b1, algC (p : Int) (n : Int) T f), some (b2, vecC v), some (b3, algC 0 0 (fun _ _ _ => 0) (fun _ => 0)), some (b4, vecsC 1 (vAtL [v])), some (b6, vecC x), some (b8, (algC (p : Int) (n : Int) T (fun i => if i < gi then sumTo (fun c => timesV p n T v (fun c => if c = i then 1 else 0) c * f c) 6 % p else f i)).setIfInBounds (0 + 218 + (gi) * 1) (.int .u8 (((sumTo (fun i => ((timesV p n T (v) ((fun c => if c = gi then 1 else 0)))) i * f i) 6 % p : Nat) : Int))))] [] at hM
        refine wpList_nil ?_
        refine iN ?_
        refine tN ?_
        refine wp_region_lit ?_
        refine st hF (g_add hF rfl rfl (add_nat (gi) (1) (by omega))) rfl fun a hF => st hF (g_move hF rfl) rfl fun a hF => ?_
        refine wpList_nil ?_
        refine tN ?_
        refine ⟨gi + 1, ⟨by omega, trivial, hF.sub _ (by repeat' constructor), ?_⟩, by omega⟩
        refine hM.rowc 5 rfl (algC_setf (i := gi) (by omega) (by omega) (fun j hj => ?_))
        by_cases e1 : j = gi
        · subst e1; simp
        · have e0 : (j < gi + 1) = (j < gi) := by apply propext; omega
          simp [e0, e1]
      ·
        obtain rfl : n = gi := by omega
        refine wp_exit ?_
        refine tX ?_
        refine tX ?_
        refine ib_same ?_
        refine tN ?_
        refine sq ?_
        refine wp_region_lit ?_
        refine st hF (g_loadAgg ty_ag_32 hF rfl (hM.row 5 rfl) (by simp only [fnC_size, cells_size, vecC_size, tabC_size, planeC_size] <;> omega) (whole cells_size)) rfl fun a hF => ?_
        refine stN hF (d_storeAgg 2 hM rfl ty_sz_32 hF rfl rfl (by first | exact vecC_one | exact cells_one | (refine fnC_one fun _ _ => ?_; first | rfl | (split <;> rfl))) (by simp only [fnC_size, cells_size, vecC_size, tabC_size, planeC_size]) (by simp only [fnC_size, cells_size, vecC_size, tabC_size, planeC_size] <;> omega) (splice_whole _ _ (by simp only [fnC_size, cells_size, vecC_size, tabC_size, planeC_size]))) ?_
        intro _ w' a hM hF
        change Mem w w' [some (b1, algC (p : Int) (n : Int) T f), some (b2, vecC v), some (b3, algC (p : Int) (n : Int) T (fun i => if i < n then sumTo (fun c => timesV p n T v (fun c => if c = i then 1 else 0) c * f c) 6 % p else f i)), some (b4, vecsC 1 (vAtL [v])), some (b6, vecC x), some (b8, algC (p : Int) (n : Int) T (fun i => if i < n then sumTo (fun c => timesV p n T v (fun c => if c = i then 1 else 0) c * f c) 6 % p else f i))] [] at hM
        refine st hF (g_assign hF rfl) rfl fun a hF => ?_
        refine wpList_nil ?_
        refine tN ?_
        refine wp_ret ?_
        refine fin2 rfl hF.defers (res_agg ty_ag_32 hF rfl (hM.row 2 rfl) (by simp only [fnC_size, cells_size, vecC_size, tabC_size, planeC_size])) (res_tmp hF rfl) ⟨_, rfl, hM.below, ?_⟩
        show _ = _
        rfl

theorem law_ChangeFormA (p n : Int) (T : Nat → Nat → Nat → Nat) (f : Nat → Nat) (v : Nat → Nat) (w : World) (hT : ∀ i j k, T i j k ≤ 255) (hf : ∀ i, f i ≤ 255) (hv : ∀ i, v i ≤ 255) (hc : ¬ CodeP p n T f 1 (vAtL [v])) :
    CallsR Try.prog 11 #[.agg (algC p n T f), .agg (vecC v)] w (fun res _ => res = .bool true) := by
  refine calls_fr [.agg (algC p n T f), .agg (vecC v)] Try.func11 rfl Try.ntmps11 rfl fun a hF => ?_
  have hM : Mem w w [none, none, none, none] [] := MemX.start w 4
  change Fr 34 a [(0, .agg (algC p n T f)), (1, .agg (vecC v))] at hF
  have eqlaw : eqV 6 (fun _ => 0) (fun _ => 0) := fun _ _ => rfl
  refine sq ?_
  refine wp_region_lit ?_
  refine stR hF (d_box 0 hM hF rfl) rfl ?_
  rintro _ w' a ⟨b1, rfl, hM, -⟩ hF
  change Mem w w' [some (b1, algC p n T f), none, none, none] [] at hM
  refine stR hF (d_box 1 hM hF rfl) rfl ?_
  rintro _ w' a ⟨b2, rfl, hM, -⟩ hF
  change Mem w w' [some (b1, algC p n T f), some (b2, vecC v), none, none] [] at hM
  refine st hF (g_assign hF rfl) rfl fun a hF => ?_
  refine wpList_nil ?_
  refine tN ?_
  refine sq ?_
  refine c_drawG (S := ParG [] w [] [2] [some (b1, algC p n T f), some (b2, vecC v), none, none] 2 (algC 0 0 (fun _ _ _ => 0) (fun _ => 0)) (algC 0 0 (fun _ _ _ => 0) (fun _ => 0))) 10 9 hmix rfl rfl rfl hF rfl (fun j o hj hne => dstAll_spec (s := 9) (i := 0) rfl j o hj (by omega)) [some (b1, algC p n T f), some (b2, vecC v), none, none] ⟨⟨hM, Same.refl _ _⟩, fun b cs h => by simp at h⟩ (fun b g w h => ⟨⟨h.1.1.ext (Below.drew (Below.refl _ _)), h.1.2⟩, h.2⟩) (factsG 2 [.val (.agg (algC p n T f)), .val (.agg (algC p n T f)), .val (.agg (vecC v)), .val (.agg (vecC v)), .val (.tuple #[.agg (algC 0 0 (fun _ _ _ => 0) (fun _ => 0)), .int .i64 (1)]), .val (.tuple #[.agg (algC 0 0 (fun _ _ _ => 0) (fun _ => 0)), .int .i64 (1)]), .val (.agg (algC 0 0 (fun _ _ _ => 0) (fun _ => 0))), .val (.int .i64 (1)), .own 2 (algC 0 0 (fun _ _ _ => 0) (fun _ => 0)) (fun b => ptr b 0), .val undef]) ⟨fun a w2 b g hF hS hb hd => by have hM := hS.1.mem rfl; exact pg_val hS rfl (g_loadAgg ty_ag_26 hF rfl (hM.row 0 rfl) (by simp only [fnC_size, cells_size, vecC_size, tabC_size, planeC_size] <;> omega) (whole cells_size)), fun a w2 b g hF hS hb hd => by have hF := hF.ext1 10 (hd 0 rfl rfl rfl); exact pg_call hS rfl (d_call Try.call17 hF (.cons rfl .nil) (toAlgebra_ok p n T f _)), fun a w2 b g hF hS hb hd => by have hM := hS.1.mem rfl; exact pg_val hS rfl (g_loadAgg ty_ag_22 hF rfl (hM.row 1 rfl) (by simp only [fnC_size, cells_size, vecC_size, tabC_size, planeC_size] <;> omega) (whole (by simp only [fnC_size, cells_size, vecC_size, tabC_size, planeC_size]))), fun a w2 b g hF hS hb hd => by have hF := hF.ext1 12 (hd 2 rfl rfl rfl); exact pg_call hS rfl (d_call Try.call37 hF (.cons rfl .nil) (toVector_ok v _)), fun a w2 b g hF hS hb hd => by have hF := hF.ext1 11 (hd 1 rfl rfl rfl); have hF := hF.ext1 13 (hd 3 rfl rfl rfl); exact pg_call hS rfl (d_call Try.call42 hF (.cons rfl (.cons rfl .nil)) (ChangeFormSA p n T f v _ hT hf hv hc)), fun a w2 b g hF hS hb hd => by have hF := hF.ext1 14 (hd 4 rfl rfl rfl); exact pg_val hS rfl (g_move hF rfl), fun a w2 b g hF hS hb hd => by have hF := hF.ext1 9 (hd 5 rfl rfl rfl); exact pg_val hS rfl (g_extract hF rfl rfl), fun a w2 b g hF hS hb hd => by have hF := hF.ext1 9 (hd 5 rfl rfl rfl); exact pg_val hS rfl (g_extract hF rfl rfl), fun a w2 b g hF hS hb hd => by obtain rfl := hb rfl; exact pg_own hS rfl rfl rfl rfl (d_alloc 2 hS.1.1 ty_ze_32), fun a w2 g hF hS hd => by have hF := hF.ext1 15 (hd 6 rfl rfl rfl); exact pg_store (ia := 8) hS rfl rfl rfl (hd 8 rfl rfl rfl) (fun b hptr hM hL => by have hF := hF.ext1 5 hptr; exact d_storeAgg 2 hM hL ty_sz_32 hF rfl rfl (by first | exact vecC_one | exact cells_one | (refine fnC_one fun _ _ => ?_; first | rfl | (split <;> rfl))) (by simp only [fnC_size, cells_size, vecC_size, tabC_size, planeC_size]) (by simp only [fnC_size, cells_size, vecC_size, tabC_size, planeC_size] <;> omega) (splice_whole _ _ (by simp only [fnC_size, cells_size, vecC_size, tabC_size, planeC_size]))), trivial⟩ ?_
  intro a w' L hF hS hq
  have hF := hF.ext1 10 (hq 0 rfl rfl rfl)
  have hF := hF.ext1 11 (hq 1 rfl rfl rfl)
  have hF := hF.ext1 12 (hq 2 rfl rfl rfl)
  have hF := hF.ext1 13 (hq 3 rfl rfl rfl)
  have hF := hF.ext1 14 (hq 4 rfl rfl rfl)
  have hF := hF.ext1 9 (hq 5 rfl rfl rfl)
  have hF := hF.ext1 15 (hq 6 rfl rfl rfl)
  have hF := hF.ext1 16 (hq 7 rfl rfl rfl)
  obtain ⟨b3, cs4, hptr, hkk⟩ := hq 8 rfl rfl rfl
  obtain rfl : cs4 = algC 0 0 (fun _ _ _ => 0) (fun _ => 0) := hS.2 _ _ hkk
  have hF := hF.ext1 5 hptr
  obtain ⟨⟨hM, hL⟩, -⟩ := hS
  have hL := hL.take hkk
  obtain rfl := hL.eq
  change Mem w w' [some (b1, algC p n T f), some (b2, vecC v), some (b3, algC 0 0 (fun _ _ _ => 0) (fun _ => 0)), none] [] at hM
  change wpList Try.prog _ _ [_] _ _
  refine st hF (g_assign hF rfl) rfl fun a hF => ?_
  refine wpList_nil ?_
  refine tN ?_
  refine sq ?_
  refine c_drawG (S := ParG [] w [] [3] [some (b1, algC p n T f), some (b2, vecC v), some (b3, algC 0 0 (fun _ _ _ => 0) (fun _ => 0)), none] 3 (algC 0 0 (fun _ _ _ => 0) (fun _ => 0)) (algC 0 0 (fun _ _ _ => 0) (fun _ => 0))) 10 9 hmix rfl rfl rfl hF rfl (fun j o hj hne => dstAll_spec (s := 9) (i := 0) rfl j o hj (by omega)) [some (b1, algC p n T f), some (b2, vecC v), some (b3, algC 0 0 (fun _ _ _ => 0) (fun _ => 0)), none] ⟨⟨hM, Same.refl _ _⟩, fun b cs h => by simp at h⟩ (fun b g w h => ⟨⟨h.1.1.ext (Below.drew (Below.refl _ _)), h.1.2⟩, h.2⟩) (factsG 3 [.val (.agg (algC p n T f)), .val (.agg (algC p n T f)), .val (.agg (vecC v)), .val (.agg (vecC v)), .val (.tuple #[.agg (algC 0 0 (fun _ _ _ => 0) (fun _ => 0)), .int .i64 (1)]), .val (.tuple #[.agg (algC 0 0 (fun _ _ _ => 0) (fun _ => 0)), .int .i64 (1)]), .val (.agg (algC 0 0 (fun _ _ _ => 0) (fun _ => 0))), .val (.int .i64 (1)), .own 3 (algC 0 0 (fun _ _ _ => 0) (fun _ => 0)) (fun b => ptr b 0), .val undef]) ⟨fun a w2 b g hF hS hb hd => by have hM := hS.1.mem rfl; exact pg_val hS rfl (g_loadAgg ty_ag_26 hF rfl (hM.row 0 rfl) (by simp only [fnC_size, cells_size, vecC_size, tabC_size, planeC_size] <;> omega) (whole cells_size)), fun a w2 b g hF hS hb hd => by have hF := hF.ext1 18 (hd 0 rfl rfl rfl); exact pg_call hS rfl (d_call Try.call17 hF (.cons rfl .nil) (toAlgebra_ok p n T f _)), fun a w2 b g hF hS hb hd => by have hM := hS.1.mem rfl; exact pg_val hS rfl (g_loadAgg ty_ag_22 hF rfl (hM.row 1 rfl) (by simp only [fnC_size, cells_size, vecC_size, tabC_size, planeC_size] <;> omega) (whole (by simp only [fnC_size, cells_size, vecC_size, tabC_size, planeC_size]))), fun a w2 b g hF hS hb hd => by have hF := hF.ext1 20 (hd 2 rfl rfl rfl); exact pg_call hS rfl (d_call Try.call37 hF (.cons rfl .nil) (toVector_ok v _)), fun a w2 b g hF hS hb hd => by have hF := hF.ext1 19 (hd 1 rfl rfl rfl); have hF := hF.ext1 21 (hd 3 rfl rfl rfl); exact pg_call hS rfl (d_call Try.call43 hF (.cons rfl (.cons rfl .nil)) (ChangeFormIA p n T f v _ hT hf hv hc)), fun a w2 b g hF hS hb hd => by have hF := hF.ext1 22 (hd 4 rfl rfl rfl); exact pg_val hS rfl (g_move hF rfl), fun a w2 b g hF hS hb hd => by have hF := hF.ext1 17 (hd 5 rfl rfl rfl); exact pg_val hS rfl (g_extract hF rfl rfl), fun a w2 b g hF hS hb hd => by have hF := hF.ext1 17 (hd 5 rfl rfl rfl); exact pg_val hS rfl (g_extract hF rfl rfl), fun a w2 b g hF hS hb hd => by obtain rfl := hb rfl; exact pg_own hS rfl rfl rfl rfl (d_alloc 3 hS.1.1 ty_ze_32), fun a w2 g hF hS hd => by have hF := hF.ext1 23 (hd 6 rfl rfl rfl); exact pg_store (ia := 8) hS rfl rfl rfl (hd 8 rfl rfl rfl) (fun b hptr hM hL => by have hF := hF.ext1 7 hptr; exact d_storeAgg 3 hM hL ty_sz_32 hF rfl rfl (by first | exact vecC_one | exact cells_one | (refine fnC_one fun _ _ => ?_; first | rfl | (split <;> rfl))) (by simp only [fnC_size, cells_size, vecC_size, tabC_size, planeC_size]) (by simp only [fnC_size, cells_size, vecC_size, tabC_size, planeC_size] <;> omega) (splice_whole _ _ (by simp only [fnC_size, cells_size, vecC_size, tabC_size, planeC_size]))), trivial⟩ ?_
  intro a w' L hF hS hq
  have hF := hF.ext1 18 (hq 0 rfl rfl rfl)
  have hF := hF.ext1 19 (hq 1 rfl rfl rfl)
  have hF := hF.ext1 20 (hq 2 rfl rfl rfl)
  have hF := hF.ext1 21 (hq 3 rfl rfl rfl)
  have hF := hF.ext1 22 (hq 4 rfl rfl rfl)
  have hF := hF.ext1 17 (hq 5 rfl rfl rfl)
  have hF := hF.ext1 23 (hq 6 rfl rfl rfl)
  have hF := hF.ext1 24 (hq 7 rfl rfl rfl)
  obtain ⟨b5, cs6, hptr, hkk⟩ := hq 8 rfl rfl rfl
  obtain rfl : cs6 = algC 0 0 (fun _ _ _ => 0) (fun _ => 0) := hS.2 _ _ hkk
  have hF := hF.ext1 7 hptr
  obtain ⟨⟨hM, hL⟩, -⟩ := hS
  have hL := hL.take hkk
  obtain rfl := hL.eq
  change Mem w w' [some (b1, algC p n T f), some (b2, vecC v), some (b3, algC 0 0 (fun _ _ _ => 0) (fun _ => 0)), some (b5, algC 0 0 (fun _ _ _ => 0) (fun _ => 0))] [] at hM
  change wpList Try.prog _ _ [_] _ _
  refine st hF (g_assign hF rfl) rfl fun a hF => ?_
  refine wpList_nil ?_
  refine tN ?_
  refine sq ?_
  refine sq ?_
  refine wp_region_lit ?_
  refine st hF (g_loadAgg ty_ag_32 hF rfl (hM.row 3 rfl) (by simp only [fnC_size, cells_size, vecC_size, tabC_size, planeC_size] <;> omega) (whole cells_size)) rfl fun a hF => st hF (g_loadAgg ty_ag_32 hF rfl (hM.row 2 rfl) (by simp only [fnC_size, cells_size, vecC_size, tabC_size, planeC_size] <;> omega) (whole cells_size)) rfl fun a hF => ?_
  refine stR hF (d_call Try.call24 hF (.cons rfl (.cons rfl .nil)) (eqAlgebra_ok 0 0 0 0 (fun _ _ _ => 0) (fun _ _ _ => 0) (fun _ => 0) (fun _ => 0) _)) rfl ?_
  rintro _ w' a ⟨hx, rfl⟩ hF
  have hM := hM.ext hx
  refine st hF (g_notP hF rfl) rfl fun a hF => st hF (g_move hF rfl) rfl fun a hF => ?_
  by_cases g7 : ¬ ((0 : Int) = (0 : Int) ∧ (0 : Int) = (0 : Int) ∧ eqT (fun _ _ _ => 0) (fun _ _ _ => 0) ∧ eqV 6 (fun _ => 0) (fun _ => 0))
  ·
    first | rw [decide_eq_true g7] at hF | simp only [decide_eq_true g7] at hF
    first | exact absurd rfl g7 | exact absurd eqlaw g7 | exact absurd (by exact ⟨rfl, rfl, fun _ _ _ _ _ _ => rfl, fun _ _ => rfl⟩) g7 | (exfalso; omega)
  ·
    first | rw [decide_eq_false g7] at hF | simp only [decide_eq_false g7] at hF
    refine stY hF rfl rfl rfl (g_move hF rfl) rfl fun a hF => stY hF rfl rfl rfl (g_move hF rfl) rfl fun a hF => stY hF rfl rfl rfl (g_neq hF rfl rfl) rfl fun a hF => st hF (g_pickF hF rfl rfl) rfl fun a hF => ?_
    refine wpList_nil ?_
    refine tN ?_
    refine c_kF hF rfl (by decide) ?_
    refine wp_skip ?_
    refine tN ?_
    refine sq ?_
    refine wp_region_lit ?_
    refine st hF (g_assign hF rfl) rfl fun a hF => ?_
    refine wpList_nil ?_
    refine tN ?_
    refine wp_ret ?_
    refine fin1 rfl hF.defers (res_tmp hF rfl) ⟨_, rfl, hM.below, ?_⟩
    show _ = _
    rfl

theorem law_ChangeFormF (p n : Nat) (T : Nat → Nat → Nat → Nat) (f : Nat → Nat) (v : Nat → Nat) (w : World) (hp : primeN p) (hn0 : 0 < n) (hn : n ≤ 6) (hTp : ∀ i j k, T i j k < p) (hT0 : ∀ i j k, n ≤ k → T i j k = 0) (hf : ∀ i, f i ≤ 255) (hv : ∀ i, v i ≤ 255) (hfr : ¬ FrobN p n T f) (hc : CodeP (p : Int) (n : Int) T f 1 (vAtL [v])) :
    CallsR Try.prog 11 #[.agg (algC (p : Int) (n : Int) T f), .agg (vecC v)] w (fun res _ => res = .bool true) := by
  refine calls_fr [.agg (algC (p : Int) (n : Int) T f), .agg (vecC v)] Try.func11 rfl Try.ntmps11 rfl fun a hF => ?_
  have hM : Mem w w [none, none, none, none] [] := MemX.start w 4
  change Fr 34 a [(0, .agg (algC (p : Int) (n : Int) T f)), (1, .agg (vecC v))] at hF
  have hp2 := hp.two
  have hp13 := hp.le
  have hT : ∀ i j k, T i j k ≤ 255 := fun i j k => by have := hTp i j k; omega
  have eqlaw : ((0 : Int) : Int) = ((0 : Int) : Int) ∧ ((0 : Int) : Int) = ((0 : Int) : Int) ∧ eqT (fun _ _ _ => 0) (fun _ _ _ => 0) ∧ eqV 6 (fun _ => 0) (fun _ => 0) := ⟨rfl, rfl, fun _ _ _ _ _ _ => rfl, fun _ _ => rfl⟩
  refine sq ?_
  refine wp_region_lit ?_
  refine stR hF (d_box 0 hM hF rfl) rfl ?_
  rintro _ w' a ⟨b1, rfl, hM, -⟩ hF
  change Mem w w' [some (b1, algC (p : Int) (n : Int) T f), none, none, none] [] at hM
  refine stR hF (d_box 1 hM hF rfl) rfl ?_
  rintro _ w' a ⟨b2, rfl, hM, -⟩ hF
  change Mem w w' [some (b1, algC (p : Int) (n : Int) T f), some (b2, vecC v), none, none] [] at hM
  refine st hF (g_assign hF rfl) rfl fun a hF => ?_
  refine wpList_nil ?_
  refine tN ?_
  refine sq ?_
  refine c_drawG (S := ParG [] w [] [2] [some (b1, algC (p : Int) (n : Int) T f), some (b2, vecC v), none, none] 2 (algC 0 0 (fun _ _ _ => 0) (fun _ => 0)) (algC 0 0 (fun _ _ _ => 0) (fun _ => 0))) 10 9 hmix rfl rfl rfl hF rfl (fun j o hj hne => dstAll_spec (s := 9) (i := 0) rfl j o hj (by omega)) [some (b1, algC (p : Int) (n : Int) T f), some (b2, vecC v), none, none] ⟨⟨hM, Same.refl _ _⟩, fun b cs h => by simp at h⟩ (fun b g w h => ⟨⟨h.1.1.ext (Below.drew (Below.refl _ _)), h.1.2⟩, h.2⟩) (factsG 2 [.val (.agg (algC (p : Int) (n : Int) T f)), .val (.agg (algC (p : Int) (n : Int) T f)), .val (.agg (vecC v)), .val (.agg (vecC v)), .val (.tuple #[.agg (algC 0 0 (fun _ _ _ => 0) (fun _ => 0)), .int .i64 (5)]), .val (.tuple #[.agg (algC 0 0 (fun _ _ _ => 0) (fun _ => 0)), .int .i64 (5)]), .val (.agg (algC 0 0 (fun _ _ _ => 0) (fun _ => 0))), .val (.int .i64 (5)), .own 2 (algC 0 0 (fun _ _ _ => 0) (fun _ => 0)) (fun b => ptr b 0), .val undef]) ⟨fun a w2 b g hF hS hb hd => by have hM := hS.1.mem rfl; exact pg_val hS rfl (g_loadAgg ty_ag_26 hF rfl (hM.row 0 rfl) (by simp only [fnC_size, cells_size, vecC_size, tabC_size, planeC_size] <;> omega) (whole cells_size)), fun a w2 b g hF hS hb hd => by have hF := hF.ext1 10 (hd 0 rfl rfl rfl); exact pg_call hS rfl (d_call Try.call17 hF (.cons rfl .nil) (toAlgebra_ok (p : Int) (n : Int) T f _)), fun a w2 b g hF hS hb hd => by have hM := hS.1.mem rfl; exact pg_val hS rfl (g_loadAgg ty_ag_22 hF rfl (hM.row 1 rfl) (by simp only [fnC_size, cells_size, vecC_size, tabC_size, planeC_size] <;> omega) (whole (by simp only [fnC_size, cells_size, vecC_size, tabC_size, planeC_size]))), fun a w2 b g hF hS hb hd => by have hF := hF.ext1 12 (hd 2 rfl rfl rfl); exact pg_call hS rfl (d_call Try.call37 hF (.cons rfl .nil) (toVector_ok v _)), fun a w2 b g hF hS hb hd => by have hF := hF.ext1 11 (hd 1 rfl rfl rfl); have hF := hF.ext1 13 (hd 3 rfl rfl rfl); exact pg_call hS rfl (d_call Try.call42 hF (.cons rfl (.cons rfl .nil)) (ChangeFormSF p n T f v _ hp hn0 hn hTp hT0 hf hv hfr hc)), fun a w2 b g hF hS hb hd => by have hF := hF.ext1 14 (hd 4 rfl rfl rfl); exact pg_val hS rfl (g_move hF rfl), fun a w2 b g hF hS hb hd => by have hF := hF.ext1 9 (hd 5 rfl rfl rfl); exact pg_val hS rfl (g_extract hF rfl rfl), fun a w2 b g hF hS hb hd => by have hF := hF.ext1 9 (hd 5 rfl rfl rfl); exact pg_val hS rfl (g_extract hF rfl rfl), fun a w2 b g hF hS hb hd => by obtain rfl := hb rfl; exact pg_own hS rfl rfl rfl rfl (d_alloc 2 hS.1.1 ty_ze_32), fun a w2 g hF hS hd => by have hF := hF.ext1 15 (hd 6 rfl rfl rfl); exact pg_store (ia := 8) hS rfl rfl rfl (hd 8 rfl rfl rfl) (fun b hptr hM hL => by have hF := hF.ext1 5 hptr; exact d_storeAgg 2 hM hL ty_sz_32 hF rfl rfl (by first | exact vecC_one | exact cells_one | (refine fnC_one fun _ _ => ?_; first | rfl | (split <;> rfl))) (by simp only [fnC_size, cells_size, vecC_size, tabC_size, planeC_size]) (by simp only [fnC_size, cells_size, vecC_size, tabC_size, planeC_size] <;> omega) (splice_whole _ _ (by simp only [fnC_size, cells_size, vecC_size, tabC_size, planeC_size]))), trivial⟩ ?_
  intro a w' L hF hS hq
  have hF := hF.ext1 10 (hq 0 rfl rfl rfl)
  have hF := hF.ext1 11 (hq 1 rfl rfl rfl)
  have hF := hF.ext1 12 (hq 2 rfl rfl rfl)
  have hF := hF.ext1 13 (hq 3 rfl rfl rfl)
  have hF := hF.ext1 14 (hq 4 rfl rfl rfl)
  have hF := hF.ext1 9 (hq 5 rfl rfl rfl)
  have hF := hF.ext1 15 (hq 6 rfl rfl rfl)
  have hF := hF.ext1 16 (hq 7 rfl rfl rfl)
  obtain ⟨b3, cs4, hptr, hkk⟩ := hq 8 rfl rfl rfl
  obtain rfl : cs4 = algC 0 0 (fun _ _ _ => 0) (fun _ => 0) := hS.2 _ _ hkk
  have hF := hF.ext1 5 hptr
  obtain ⟨⟨hM, hL⟩, -⟩ := hS
  have hL := hL.take hkk
  obtain rfl := hL.eq
  change Mem w w' [some (b1, algC (p : Int) (n : Int) T f), some (b2, vecC v), some (b3, algC 0 0 (fun _ _ _ => 0) (fun _ => 0)), none] [] at hM
  change wpList Try.prog _ _ [_] _ _
  refine st hF (g_assign hF rfl) rfl fun a hF => ?_
  refine wpList_nil ?_
  refine tN ?_
  refine sq ?_
  refine c_drawG (S := ParG [] w [] [3] [some (b1, algC (p : Int) (n : Int) T f), some (b2, vecC v), some (b3, algC 0 0 (fun _ _ _ => 0) (fun _ => 0)), none] 3 (algC 0 0 (fun _ _ _ => 0) (fun _ => 0)) (algC 0 0 (fun _ _ _ => 0) (fun _ => 0))) 10 9 hmix rfl rfl rfl hF rfl (fun j o hj hne => dstAll_spec (s := 9) (i := 0) rfl j o hj (by omega)) [some (b1, algC (p : Int) (n : Int) T f), some (b2, vecC v), some (b3, algC 0 0 (fun _ _ _ => 0) (fun _ => 0)), none] ⟨⟨hM, Same.refl _ _⟩, fun b cs h => by simp at h⟩ (fun b g w h => ⟨⟨h.1.1.ext (Below.drew (Below.refl _ _)), h.1.2⟩, h.2⟩) (factsG 3 [.val (.agg (algC (p : Int) (n : Int) T f)), .val (.agg (algC (p : Int) (n : Int) T f)), .val (.agg (vecC v)), .val (.agg (vecC v)), .val (.tuple #[.agg (algC 0 0 (fun _ _ _ => 0) (fun _ => 0)), .int .i64 (5)]), .val (.tuple #[.agg (algC 0 0 (fun _ _ _ => 0) (fun _ => 0)), .int .i64 (5)]), .val (.agg (algC 0 0 (fun _ _ _ => 0) (fun _ => 0))), .val (.int .i64 (5)), .own 3 (algC 0 0 (fun _ _ _ => 0) (fun _ => 0)) (fun b => ptr b 0), .val undef]) ⟨fun a w2 b g hF hS hb hd => by have hM := hS.1.mem rfl; exact pg_val hS rfl (g_loadAgg ty_ag_26 hF rfl (hM.row 0 rfl) (by simp only [fnC_size, cells_size, vecC_size, tabC_size, planeC_size] <;> omega) (whole cells_size)), fun a w2 b g hF hS hb hd => by have hF := hF.ext1 18 (hd 0 rfl rfl rfl); exact pg_call hS rfl (d_call Try.call17 hF (.cons rfl .nil) (toAlgebra_ok (p : Int) (n : Int) T f _)), fun a w2 b g hF hS hb hd => by have hM := hS.1.mem rfl; exact pg_val hS rfl (g_loadAgg ty_ag_22 hF rfl (hM.row 1 rfl) (by simp only [fnC_size, cells_size, vecC_size, tabC_size, planeC_size] <;> omega) (whole (by simp only [fnC_size, cells_size, vecC_size, tabC_size, planeC_size]))), fun a w2 b g hF hS hb hd => by have hF := hF.ext1 20 (hd 2 rfl rfl rfl); exact pg_call hS rfl (d_call Try.call37 hF (.cons rfl .nil) (toVector_ok v _)), fun a w2 b g hF hS hb hd => by have hF := hF.ext1 19 (hd 1 rfl rfl rfl); have hF := hF.ext1 21 (hd 3 rfl rfl rfl); exact pg_call hS rfl (d_call Try.call43 hF (.cons rfl (.cons rfl .nil)) (ChangeFormIF p n T f v _ hp hn0 hn hTp hT0 hf hv hfr hc)), fun a w2 b g hF hS hb hd => by have hF := hF.ext1 22 (hd 4 rfl rfl rfl); exact pg_val hS rfl (g_move hF rfl), fun a w2 b g hF hS hb hd => by have hF := hF.ext1 17 (hd 5 rfl rfl rfl); exact pg_val hS rfl (g_extract hF rfl rfl), fun a w2 b g hF hS hb hd => by have hF := hF.ext1 17 (hd 5 rfl rfl rfl); exact pg_val hS rfl (g_extract hF rfl rfl), fun a w2 b g hF hS hb hd => by obtain rfl := hb rfl; exact pg_own hS rfl rfl rfl rfl (d_alloc 3 hS.1.1 ty_ze_32), fun a w2 g hF hS hd => by have hF := hF.ext1 23 (hd 6 rfl rfl rfl); exact pg_store (ia := 8) hS rfl rfl rfl (hd 8 rfl rfl rfl) (fun b hptr hM hL => by have hF := hF.ext1 7 hptr; exact d_storeAgg 3 hM hL ty_sz_32 hF rfl rfl (by first | exact vecC_one | exact cells_one | (refine fnC_one fun _ _ => ?_; first | rfl | (split <;> rfl))) (by simp only [fnC_size, cells_size, vecC_size, tabC_size, planeC_size]) (by simp only [fnC_size, cells_size, vecC_size, tabC_size, planeC_size] <;> omega) (splice_whole _ _ (by simp only [fnC_size, cells_size, vecC_size, tabC_size, planeC_size]))), trivial⟩ ?_
  intro a w' L hF hS hq
  have hF := hF.ext1 18 (hq 0 rfl rfl rfl)
  have hF := hF.ext1 19 (hq 1 rfl rfl rfl)
  have hF := hF.ext1 20 (hq 2 rfl rfl rfl)
  have hF := hF.ext1 21 (hq 3 rfl rfl rfl)
  have hF := hF.ext1 22 (hq 4 rfl rfl rfl)
  have hF := hF.ext1 17 (hq 5 rfl rfl rfl)
  have hF := hF.ext1 23 (hq 6 rfl rfl rfl)
  have hF := hF.ext1 24 (hq 7 rfl rfl rfl)
  obtain ⟨b5, cs6, hptr, hkk⟩ := hq 8 rfl rfl rfl
  obtain rfl : cs6 = algC 0 0 (fun _ _ _ => 0) (fun _ => 0) := hS.2 _ _ hkk
  have hF := hF.ext1 7 hptr
  obtain ⟨⟨hM, hL⟩, -⟩ := hS
  have hL := hL.take hkk
  obtain rfl := hL.eq
  change Mem w w' [some (b1, algC (p : Int) (n : Int) T f), some (b2, vecC v), some (b3, algC 0 0 (fun _ _ _ => 0) (fun _ => 0)), some (b5, algC 0 0 (fun _ _ _ => 0) (fun _ => 0))] [] at hM
  change wpList Try.prog _ _ [_] _ _
  refine st hF (g_assign hF rfl) rfl fun a hF => ?_
  refine wpList_nil ?_
  refine tN ?_
  refine sq ?_
  refine sq ?_
  refine wp_region_lit ?_
  refine st hF (g_loadAgg ty_ag_32 hF rfl (hM.row 3 rfl) (by simp only [fnC_size, cells_size, vecC_size, tabC_size, planeC_size] <;> omega) (whole cells_size)) rfl fun a hF => st hF (g_loadAgg ty_ag_32 hF rfl (hM.row 2 rfl) (by simp only [fnC_size, cells_size, vecC_size, tabC_size, planeC_size] <;> omega) (whole cells_size)) rfl fun a hF => ?_
  refine stR hF (d_call Try.call24 hF (.cons rfl (.cons rfl .nil)) (eqAlgebra_ok 0 0 0 0 (fun _ _ _ => 0) (fun _ _ _ => 0) (fun _ => 0) (fun _ => 0) _)) rfl ?_
  rintro _ w' a ⟨hx, rfl⟩ hF
  have hM := hM.ext hx
  refine st hF (g_notP hF rfl) rfl fun a hF => st hF (g_move hF rfl) rfl fun a hF => ?_
  by_cases g7 : ¬ ((0 : Int) = (0 : Int) ∧ (0 : Int) = (0 : Int) ∧ eqT (fun _ _ _ => 0) (fun _ _ _ => 0) ∧ eqV 6 (fun _ => 0) (fun _ => 0))
  ·
    first | rw [decide_eq_true g7] at hF | simp only [decide_eq_true g7] at hF
    first | exact absurd rfl g7 | exact absurd eqlaw g7 | exact absurd (by exact ⟨rfl, rfl, fun _ _ _ _ _ _ => rfl, fun _ _ => rfl⟩) g7 | (exfalso; omega)
  ·
    first | rw [decide_eq_false g7] at hF | simp only [decide_eq_false g7] at hF
    refine stY hF rfl rfl rfl (g_move hF rfl) rfl fun a hF => stY hF rfl rfl rfl (g_move hF rfl) rfl fun a hF => stY hF rfl rfl rfl (g_neq hF rfl rfl) rfl fun a hF => st hF (g_pickF hF rfl rfl) rfl fun a hF => ?_
    refine wpList_nil ?_
    refine tN ?_
    refine c_kF hF rfl (by decide) ?_
    refine wp_skip ?_
    refine tN ?_
    refine sq ?_
    refine wp_region_lit ?_
    refine st hF (g_assign hF rfl) rfl fun a hF => ?_
    refine wpList_nil ?_
    refine tN ?_
    refine wp_ret ?_
    refine fin1 rfl hF.defers (res_tmp hF rfl) ⟨_, rfl, hM.below, ?_⟩
    show _ = _
    rfl

theorem law_ChangeFormN (p n : Nat) (T : Nat → Nat → Nat → Nat) (f : Nat → Nat) (v : Nat → Nat) (w : World) (hp : primeN p) (hn0 : 0 < n) (hn : n ≤ 6) (hTp : ∀ i j k, T i j k < p) (hT0 : ∀ i j k, n ≤ k → T i j k = 0) (hf : ∀ i, f i ≤ 255) (hv : ∀ i, v i ≤ 255) (hfr : FrobN p n T f) (uu : Nat → Nat) (huu : UnitI p n T uu) (has : asS p n T) (hno : ∀ q, ¬ InvI p n T uu v q) (hc : CodeP (p : Int) (n : Int) T f 1 (vAtL [v])) :
    CallsR Try.prog 11 #[.agg (algC (p : Int) (n : Int) T f), .agg (vecC v)] w (fun res _ => res = .bool true) := by
  refine calls_fr [.agg (algC (p : Int) (n : Int) T f), .agg (vecC v)] Try.func11 rfl Try.ntmps11 rfl fun a hF => ?_
  have hM : Mem w w [none, none, none, none] [] := MemX.start w 4
  change Fr 34 a [(0, .agg (algC (p : Int) (n : Int) T f)), (1, .agg (vecC v))] at hF
  have hp2 := hp.two
  have hp13 := hp.le
  have hT : ∀ i j k, T i j k ≤ 255 := fun i j k => by have := hTp i j k; omega
  have eqlaw : ((0 : Int) : Int) = ((0 : Int) : Int) ∧ ((0 : Int) : Int) = ((0 : Int) : Int) ∧ eqT (fun _ _ _ => 0) (fun _ _ _ => 0) ∧ eqV 6 (fun _ => 0) (fun _ => 0) := ⟨rfl, rfl, fun _ _ _ _ _ _ => rfl, fun _ _ => rfl⟩
  refine sq ?_
  refine wp_region_lit ?_
  refine stR hF (d_box 0 hM hF rfl) rfl ?_
  rintro _ w' a ⟨b1, rfl, hM, -⟩ hF
  change Mem w w' [some (b1, algC (p : Int) (n : Int) T f), none, none, none] [] at hM
  refine stR hF (d_box 1 hM hF rfl) rfl ?_
  rintro _ w' a ⟨b2, rfl, hM, -⟩ hF
  change Mem w w' [some (b1, algC (p : Int) (n : Int) T f), some (b2, vecC v), none, none] [] at hM
  refine st hF (g_assign hF rfl) rfl fun a hF => ?_
  refine wpList_nil ?_
  refine tN ?_
  refine sq ?_
  refine c_drawG (S := ParG [] w [] [2] [some (b1, algC (p : Int) (n : Int) T f), some (b2, vecC v), none, none] 2 (algC 0 0 (fun _ _ _ => 0) (fun _ => 0)) (algC 0 0 (fun _ _ _ => 0) (fun _ => 0))) 10 9 hmix rfl rfl rfl hF rfl (fun j o hj hne => dstAll_spec (s := 9) (i := 0) rfl j o hj (by omega)) [some (b1, algC (p : Int) (n : Int) T f), some (b2, vecC v), none, none] ⟨⟨hM, Same.refl _ _⟩, fun b cs h => by simp at h⟩ (fun b g w h => ⟨⟨h.1.1.ext (Below.drew (Below.refl _ _)), h.1.2⟩, h.2⟩) (factsG 2 [.val (.agg (algC (p : Int) (n : Int) T f)), .val (.agg (algC (p : Int) (n : Int) T f)), .val (.agg (vecC v)), .val (.agg (vecC v)), .val (.tuple #[.agg (algC 0 0 (fun _ _ _ => 0) (fun _ => 0)), .int .i64 (5)]), .val (.tuple #[.agg (algC 0 0 (fun _ _ _ => 0) (fun _ => 0)), .int .i64 (5)]), .val (.agg (algC 0 0 (fun _ _ _ => 0) (fun _ => 0))), .val (.int .i64 (5)), .own 2 (algC 0 0 (fun _ _ _ => 0) (fun _ => 0)) (fun b => ptr b 0), .val undef]) ⟨fun a w2 b g hF hS hb hd => by have hM := hS.1.mem rfl; exact pg_val hS rfl (g_loadAgg ty_ag_26 hF rfl (hM.row 0 rfl) (by simp only [fnC_size, cells_size, vecC_size, tabC_size, planeC_size] <;> omega) (whole cells_size)), fun a w2 b g hF hS hb hd => by have hF := hF.ext1 10 (hd 0 rfl rfl rfl); exact pg_call hS rfl (d_call Try.call17 hF (.cons rfl .nil) (toAlgebra_ok (p : Int) (n : Int) T f _)), fun a w2 b g hF hS hb hd => by have hM := hS.1.mem rfl; exact pg_val hS rfl (g_loadAgg ty_ag_22 hF rfl (hM.row 1 rfl) (by simp only [fnC_size, cells_size, vecC_size, tabC_size, planeC_size] <;> omega) (whole (by simp only [fnC_size, cells_size, vecC_size, tabC_size, planeC_size]))), fun a w2 b g hF hS hb hd => by have hF := hF.ext1 12 (hd 2 rfl rfl rfl); exact pg_call hS rfl (d_call Try.call37 hF (.cons rfl .nil) (toVector_ok v _)), fun a w2 b g hF hS hb hd => by have hF := hF.ext1 11 (hd 1 rfl rfl rfl); have hF := hF.ext1 13 (hd 3 rfl rfl rfl); exact pg_call hS rfl (d_call Try.call42 hF (.cons rfl (.cons rfl .nil)) (ChangeFormSN p n T f v _ hp hn0 hn hTp hT0 hf hv hfr uu huu has hno hc)), fun a w2 b g hF hS hb hd => by have hF := hF.ext1 14 (hd 4 rfl rfl rfl); exact pg_val hS rfl (g_move hF rfl), fun a w2 b g hF hS hb hd => by have hF := hF.ext1 9 (hd 5 rfl rfl rfl); exact pg_val hS rfl (g_extract hF rfl rfl), fun a w2 b g hF hS hb hd => by have hF := hF.ext1 9 (hd 5 rfl rfl rfl); exact pg_val hS rfl (g_extract hF rfl rfl), fun a w2 b g hF hS hb hd => by obtain rfl := hb rfl; exact pg_own hS rfl rfl rfl rfl (d_alloc 2 hS.1.1 ty_ze_32), fun a w2 g hF hS hd => by have hF := hF.ext1 15 (hd 6 rfl rfl rfl); exact pg_store (ia := 8) hS rfl rfl rfl (hd 8 rfl rfl rfl) (fun b hptr hM hL => by have hF := hF.ext1 5 hptr; exact d_storeAgg 2 hM hL ty_sz_32 hF rfl rfl (by first | exact vecC_one | exact cells_one | (refine fnC_one fun _ _ => ?_; first | rfl | (split <;> rfl))) (by simp only [fnC_size, cells_size, vecC_size, tabC_size, planeC_size]) (by simp only [fnC_size, cells_size, vecC_size, tabC_size, planeC_size] <;> omega) (splice_whole _ _ (by simp only [fnC_size, cells_size, vecC_size, tabC_size, planeC_size]))), trivial⟩ ?_
  intro a w' L hF hS hq
  have hF := hF.ext1 10 (hq 0 rfl rfl rfl)
  have hF := hF.ext1 11 (hq 1 rfl rfl rfl)
  have hF := hF.ext1 12 (hq 2 rfl rfl rfl)
  have hF := hF.ext1 13 (hq 3 rfl rfl rfl)
  have hF := hF.ext1 14 (hq 4 rfl rfl rfl)
  have hF := hF.ext1 9 (hq 5 rfl rfl rfl)
  have hF := hF.ext1 15 (hq 6 rfl rfl rfl)
  have hF := hF.ext1 16 (hq 7 rfl rfl rfl)
  obtain ⟨b3, cs4, hptr, hkk⟩ := hq 8 rfl rfl rfl
  obtain rfl : cs4 = algC 0 0 (fun _ _ _ => 0) (fun _ => 0) := hS.2 _ _ hkk
  have hF := hF.ext1 5 hptr
  obtain ⟨⟨hM, hL⟩, -⟩ := hS
  have hL := hL.take hkk
  obtain rfl := hL.eq
  change Mem w w' [some (b1, algC (p : Int) (n : Int) T f), some (b2, vecC v), some (b3, algC 0 0 (fun _ _ _ => 0) (fun _ => 0)), none] [] at hM
  change wpList Try.prog _ _ [_] _ _
  refine st hF (g_assign hF rfl) rfl fun a hF => ?_
  refine wpList_nil ?_
  refine tN ?_
  refine sq ?_
  refine c_drawG (S := ParG [] w [] [3] [some (b1, algC (p : Int) (n : Int) T f), some (b2, vecC v), some (b3, algC 0 0 (fun _ _ _ => 0) (fun _ => 0)), none] 3 (algC 0 0 (fun _ _ _ => 0) (fun _ => 0)) (algC 0 0 (fun _ _ _ => 0) (fun _ => 0))) 10 9 hmix rfl rfl rfl hF rfl (fun j o hj hne => dstAll_spec (s := 9) (i := 0) rfl j o hj (by omega)) [some (b1, algC (p : Int) (n : Int) T f), some (b2, vecC v), some (b3, algC 0 0 (fun _ _ _ => 0) (fun _ => 0)), none] ⟨⟨hM, Same.refl _ _⟩, fun b cs h => by simp at h⟩ (fun b g w h => ⟨⟨h.1.1.ext (Below.drew (Below.refl _ _)), h.1.2⟩, h.2⟩) (factsG 3 [.val (.agg (algC (p : Int) (n : Int) T f)), .val (.agg (algC (p : Int) (n : Int) T f)), .val (.agg (vecC v)), .val (.agg (vecC v)), .val (.tuple #[.agg (algC 0 0 (fun _ _ _ => 0) (fun _ => 0)), .int .i64 (5)]), .val (.tuple #[.agg (algC 0 0 (fun _ _ _ => 0) (fun _ => 0)), .int .i64 (5)]), .val (.agg (algC 0 0 (fun _ _ _ => 0) (fun _ => 0))), .val (.int .i64 (5)), .own 3 (algC 0 0 (fun _ _ _ => 0) (fun _ => 0)) (fun b => ptr b 0), .val undef]) ⟨fun a w2 b g hF hS hb hd => by have hM := hS.1.mem rfl; exact pg_val hS rfl (g_loadAgg ty_ag_26 hF rfl (hM.row 0 rfl) (by simp only [fnC_size, cells_size, vecC_size, tabC_size, planeC_size] <;> omega) (whole cells_size)), fun a w2 b g hF hS hb hd => by have hF := hF.ext1 18 (hd 0 rfl rfl rfl); exact pg_call hS rfl (d_call Try.call17 hF (.cons rfl .nil) (toAlgebra_ok (p : Int) (n : Int) T f _)), fun a w2 b g hF hS hb hd => by have hM := hS.1.mem rfl; exact pg_val hS rfl (g_loadAgg ty_ag_22 hF rfl (hM.row 1 rfl) (by simp only [fnC_size, cells_size, vecC_size, tabC_size, planeC_size] <;> omega) (whole (by simp only [fnC_size, cells_size, vecC_size, tabC_size, planeC_size]))), fun a w2 b g hF hS hb hd => by have hF := hF.ext1 20 (hd 2 rfl rfl rfl); exact pg_call hS rfl (d_call Try.call37 hF (.cons rfl .nil) (toVector_ok v _)), fun a w2 b g hF hS hb hd => by have hF := hF.ext1 19 (hd 1 rfl rfl rfl); have hF := hF.ext1 21 (hd 3 rfl rfl rfl); exact pg_call hS rfl (d_call Try.call43 hF (.cons rfl (.cons rfl .nil)) (ChangeFormIN p n T f v _ hp hn0 hn hTp hT0 hf hv hfr uu huu has hno hc)), fun a w2 b g hF hS hb hd => by have hF := hF.ext1 22 (hd 4 rfl rfl rfl); exact pg_val hS rfl (g_move hF rfl), fun a w2 b g hF hS hb hd => by have hF := hF.ext1 17 (hd 5 rfl rfl rfl); exact pg_val hS rfl (g_extract hF rfl rfl), fun a w2 b g hF hS hb hd => by have hF := hF.ext1 17 (hd 5 rfl rfl rfl); exact pg_val hS rfl (g_extract hF rfl rfl), fun a w2 b g hF hS hb hd => by obtain rfl := hb rfl; exact pg_own hS rfl rfl rfl rfl (d_alloc 3 hS.1.1 ty_ze_32), fun a w2 g hF hS hd => by have hF := hF.ext1 23 (hd 6 rfl rfl rfl); exact pg_store (ia := 8) hS rfl rfl rfl (hd 8 rfl rfl rfl) (fun b hptr hM hL => by have hF := hF.ext1 7 hptr; exact d_storeAgg 3 hM hL ty_sz_32 hF rfl rfl (by first | exact vecC_one | exact cells_one | (refine fnC_one fun _ _ => ?_; first | rfl | (split <;> rfl))) (by simp only [fnC_size, cells_size, vecC_size, tabC_size, planeC_size]) (by simp only [fnC_size, cells_size, vecC_size, tabC_size, planeC_size] <;> omega) (splice_whole _ _ (by simp only [fnC_size, cells_size, vecC_size, tabC_size, planeC_size]))), trivial⟩ ?_
  intro a w' L hF hS hq
  have hF := hF.ext1 18 (hq 0 rfl rfl rfl)
  have hF := hF.ext1 19 (hq 1 rfl rfl rfl)
  have hF := hF.ext1 20 (hq 2 rfl rfl rfl)
  have hF := hF.ext1 21 (hq 3 rfl rfl rfl)
  have hF := hF.ext1 22 (hq 4 rfl rfl rfl)
  have hF := hF.ext1 17 (hq 5 rfl rfl rfl)
  have hF := hF.ext1 23 (hq 6 rfl rfl rfl)
  have hF := hF.ext1 24 (hq 7 rfl rfl rfl)
  obtain ⟨b5, cs6, hptr, hkk⟩ := hq 8 rfl rfl rfl
  obtain rfl : cs6 = algC 0 0 (fun _ _ _ => 0) (fun _ => 0) := hS.2 _ _ hkk
  have hF := hF.ext1 7 hptr
  obtain ⟨⟨hM, hL⟩, -⟩ := hS
  have hL := hL.take hkk
  obtain rfl := hL.eq
  change Mem w w' [some (b1, algC (p : Int) (n : Int) T f), some (b2, vecC v), some (b3, algC 0 0 (fun _ _ _ => 0) (fun _ => 0)), some (b5, algC 0 0 (fun _ _ _ => 0) (fun _ => 0))] [] at hM
  change wpList Try.prog _ _ [_] _ _
  refine st hF (g_assign hF rfl) rfl fun a hF => ?_
  refine wpList_nil ?_
  refine tN ?_
  refine sq ?_
  refine sq ?_
  refine wp_region_lit ?_
  refine st hF (g_loadAgg ty_ag_32 hF rfl (hM.row 3 rfl) (by simp only [fnC_size, cells_size, vecC_size, tabC_size, planeC_size] <;> omega) (whole cells_size)) rfl fun a hF => st hF (g_loadAgg ty_ag_32 hF rfl (hM.row 2 rfl) (by simp only [fnC_size, cells_size, vecC_size, tabC_size, planeC_size] <;> omega) (whole cells_size)) rfl fun a hF => ?_
  refine stR hF (d_call Try.call24 hF (.cons rfl (.cons rfl .nil)) (eqAlgebra_ok 0 0 0 0 (fun _ _ _ => 0) (fun _ _ _ => 0) (fun _ => 0) (fun _ => 0) _)) rfl ?_
  rintro _ w' a ⟨hx, rfl⟩ hF
  have hM := hM.ext hx
  refine st hF (g_notP hF rfl) rfl fun a hF => st hF (g_move hF rfl) rfl fun a hF => ?_
  by_cases g7 : ¬ ((0 : Int) = (0 : Int) ∧ (0 : Int) = (0 : Int) ∧ eqT (fun _ _ _ => 0) (fun _ _ _ => 0) ∧ eqV 6 (fun _ => 0) (fun _ => 0))
  ·
    first | rw [decide_eq_true g7] at hF | simp only [decide_eq_true g7] at hF
    first | exact absurd rfl g7 | exact absurd eqlaw g7 | exact absurd (by exact ⟨rfl, rfl, fun _ _ _ _ _ _ => rfl, fun _ _ => rfl⟩) g7 | (exfalso; omega)
  ·
    first | rw [decide_eq_false g7] at hF | simp only [decide_eq_false g7] at hF
    refine stY hF rfl rfl rfl (g_move hF rfl) rfl fun a hF => stY hF rfl rfl rfl (g_move hF rfl) rfl fun a hF => stY hF rfl rfl rfl (g_neq hF rfl rfl) rfl fun a hF => st hF (g_pickF hF rfl rfl) rfl fun a hF => ?_
    refine wpList_nil ?_
    refine tN ?_
    refine c_kF hF rfl (by decide) ?_
    refine wp_skip ?_
    refine tN ?_
    refine sq ?_
    refine wp_region_lit ?_
    refine st hF (g_assign hF rfl) rfl fun a hF => ?_
    refine wpList_nil ?_
    refine tN ?_
    refine wp_ret ?_
    refine fin1 rfl hF.defers (res_tmp hF rfl) ⟨_, rfl, hM.below, ?_⟩
    show _ = _
    rfl

theorem law_ChangeFormY (p n : Nat) (T : Nat → Nat → Nat → Nat) (f : Nat → Nat) (v : Nat → Nat) (w : World) (hp : primeN p) (hn0 : 0 < n) (hn : n ≤ 6) (hTp : ∀ i j k, T i j k < p) (hT0 : ∀ i j k, n ≤ k → T i j k = 0) (hf : ∀ i, f i ≤ 255) (hv : ∀ i, v i ≤ 255) (hfr : FrobN p n T f) (uu : Nat → Nat) (huu : UnitI p n T uu) (has : asS p n T) (iv : Nat → Nat) (hiv : InvI p n T uu v iv) (hc : CodeP (p : Int) (n : Int) T f 1 (vAtL [v])) :
    CallsR Try.prog 11 #[.agg (algC (p : Int) (n : Int) T f), .agg (vecC v)] w (fun res _ => res = .bool true) := by
  refine calls_fr [.agg (algC (p : Int) (n : Int) T f), .agg (vecC v)] Try.func11 rfl Try.ntmps11 rfl fun a hF => ?_
  have hM : Mem w w [none, none, none, none] [] := MemX.start w 4
  change Fr 34 a [(0, .agg (algC (p : Int) (n : Int) T f)), (1, .agg (vecC v))] at hF
  have hp2 := hp.two
  have hp13 := hp.le
  have hT : ∀ i j k, T i j k ≤ 255 := fun i j k => by have := hTp i j k; omega
  have hiv5 : ∀ c, iv c ≤ 255 := fun c => by have := hiv.small c; omega
  have eqlaw : ((p : Int) : Int) = ((p : Int) : Int) ∧ ((n : Int) : Int) = ((n : Int) : Int) ∧ eqT T T ∧ eqV 6 (fun i => if i < n then sumTo (fun c => timesV p n T v (fun c => if c = i then 1 else 0) c * f c) 6 % p else f i) (fun i => if i < n then sumTo (fun c => f c * timesS p n T v (fun c => if c = i then 1 else 0) c) 6 % p else f i) := ⟨rfl, rfl, fun _ _ _ _ _ _ => rfl, fun i _ => by simp only [times_eq hT0, Nat.mul_comm]⟩
  refine sq ?_
  refine wp_region_lit ?_
  refine stR hF (d_box 0 hM hF rfl) rfl ?_
  rintro _ w' a ⟨b1, rfl, hM, -⟩ hF
  change Mem w w' [some (b1, algC (p : Int) (n : Int) T f), none, none, none] [] at hM
  refine stR hF (d_box 1 hM hF rfl) rfl ?_
  rintro _ w' a ⟨b2, rfl, hM, -⟩ hF
  change Mem w w' [some (b1, algC (p : Int) (n : Int) T f), some (b2, vecC v), none, none] [] at hM
  refine st hF (g_assign hF rfl) rfl fun a hF => ?_
  refine wpList_nil ?_
  refine tN ?_
  refine sq ?_
  refine c_drawG (S := ParG [] w [] [2] [some (b1, algC (p : Int) (n : Int) T f), some (b2, vecC v), none, none] 2 (algC 0 0 (fun _ _ _ => 0) (fun _ => 0)) (algC (p : Int) (n : Int) T (fun i => if i < n then sumTo (fun c => f c * timesS p n T v (fun c => if c = i then 1 else 0) c) 6 % p else f i))) 10 9 hmix rfl rfl rfl hF rfl (fun j o hj hne => dstAll_spec (s := 9) (i := 0) rfl j o hj (by omega)) [some (b1, algC (p : Int) (n : Int) T f), some (b2, vecC v), none, none] ⟨⟨hM, Same.refl _ _⟩, fun b cs h => by simp at h⟩ (fun b g w h => ⟨⟨h.1.1.ext (Below.drew (Below.refl _ _)), h.1.2⟩, h.2⟩) (factsG 2 [.val (.agg (algC (p : Int) (n : Int) T f)), .val (.agg (algC (p : Int) (n : Int) T f)), .val (.agg (vecC v)), .val (.agg (vecC v)), .val (.tuple #[.agg (algC (p : Int) (n : Int) T (fun i => if i < n then sumTo (fun c => f c * timesS p n T v (fun c => if c = i then 1 else 0) c) 6 % p else f i)), .int .i64 (0)]), .val (.tuple #[.agg (algC (p : Int) (n : Int) T (fun i => if i < n then sumTo (fun c => f c * timesS p n T v (fun c => if c = i then 1 else 0) c) 6 % p else f i)), .int .i64 (0)]), .val (.agg (algC (p : Int) (n : Int) T (fun i => if i < n then sumTo (fun c => f c * timesS p n T v (fun c => if c = i then 1 else 0) c) 6 % p else f i))), .val (.int .i64 (0)), .own 2 (algC 0 0 (fun _ _ _ => 0) (fun _ => 0)) (fun b => ptr b 0), .val undef]) ⟨fun a w2 b g hF hS hb hd => by have hM := hS.1.mem rfl; exact pg_val hS rfl (g_loadAgg ty_ag_26 hF rfl (hM.row 0 rfl) (by simp only [fnC_size, cells_size, vecC_size, tabC_size, planeC_size] <;> omega) (whole cells_size)), fun a w2 b g hF hS hb hd => by have hF := hF.ext1 10 (hd 0 rfl rfl rfl); exact pg_call hS rfl (d_call Try.call17 hF (.cons rfl .nil) (toAlgebra_ok (p : Int) (n : Int) T f _)), fun a w2 b g hF hS hb hd => by have hM := hS.1.mem rfl; exact pg_val hS rfl (g_loadAgg ty_ag_22 hF rfl (hM.row 1 rfl) (by simp only [fnC_size, cells_size, vecC_size, tabC_size, planeC_size] <;> omega) (whole (by simp only [fnC_size, cells_size, vecC_size, tabC_size, planeC_size]))), fun a w2 b g hF hS hb hd => by have hF := hF.ext1 12 (hd 2 rfl rfl rfl); exact pg_call hS rfl (d_call Try.call37 hF (.cons rfl .nil) (toVector_ok v _)), fun a w2 b g hF hS hb hd => by have hF := hF.ext1 11 (hd 1 rfl rfl rfl); have hF := hF.ext1 13 (hd 3 rfl rfl rfl); exact pg_call hS rfl (d_call Try.call42 hF (.cons rfl (.cons rfl .nil)) (ChangeFormSY p n T f v _ hp hn0 hn hTp hT0 hf hv hfr uu huu has iv hiv hc)), fun a w2 b g hF hS hb hd => by have hF := hF.ext1 14 (hd 4 rfl rfl rfl); exact pg_val hS rfl (g_move hF rfl), fun a w2 b g hF hS hb hd => by have hF := hF.ext1 9 (hd 5 rfl rfl rfl); exact pg_val hS rfl (g_extract hF rfl rfl), fun a w2 b g hF hS hb hd => by have hF := hF.ext1 9 (hd 5 rfl rfl rfl); exact pg_val hS rfl (g_extract hF rfl rfl), fun a w2 b g hF hS hb hd => by obtain rfl := hb rfl; exact pg_own hS rfl rfl rfl rfl (d_alloc 2 hS.1.1 ty_ze_32), fun a w2 g hF hS hd => by have hF := hF.ext1 15 (hd 6 rfl rfl rfl); exact pg_store (ia := 8) hS rfl rfl rfl (hd 8 rfl rfl rfl) (fun b hptr hM hL => by have hF := hF.ext1 5 hptr; exact d_storeAgg 2 hM hL ty_sz_32 hF rfl rfl (by first | exact vecC_one | exact cells_one | (refine fnC_one fun _ _ => ?_; first | rfl | (split <;> rfl))) (by simp only [fnC_size, cells_size, vecC_size, tabC_size, planeC_size]) (by simp only [fnC_size, cells_size, vecC_size, tabC_size, planeC_size] <;> omega) (splice_whole _ _ (by simp only [fnC_size, cells_size, vecC_size, tabC_size, planeC_size]))), trivial⟩ ?_
  intro a w' L hF hS hq
  have hF := hF.ext1 10 (hq 0 rfl rfl rfl)
  have hF := hF.ext1 11 (hq 1 rfl rfl rfl)
  have hF := hF.ext1 12 (hq 2 rfl rfl rfl)
  have hF := hF.ext1 13 (hq 3 rfl rfl rfl)
  have hF := hF.ext1 14 (hq 4 rfl rfl rfl)
  have hF := hF.ext1 9 (hq 5 rfl rfl rfl)
  have hF := hF.ext1 15 (hq 6 rfl rfl rfl)
  have hF := hF.ext1 16 (hq 7 rfl rfl rfl)
  obtain ⟨b3, cs4, hptr, hkk⟩ := hq 8 rfl rfl rfl
  obtain rfl : cs4 = algC (p : Int) (n : Int) T (fun i => if i < n then sumTo (fun c => f c * timesS p n T v (fun c => if c = i then 1 else 0) c) 6 % p else f i) := hS.2 _ _ hkk
  have hF := hF.ext1 5 hptr
  obtain ⟨⟨hM, hL⟩, -⟩ := hS
  have hL := hL.take hkk
  obtain rfl := hL.eq
  change Mem w w' [some (b1, algC (p : Int) (n : Int) T f), some (b2, vecC v), some (b3, algC (p : Int) (n : Int) T (fun i => if i < n then sumTo (fun c => f c * timesS p n T v (fun c => if c = i then 1 else 0) c) 6 % p else f i)), none] [] at hM
  change wpList Try.prog _ _ [_] _ _
  refine st hF (g_assign hF rfl) rfl fun a hF => ?_
  refine wpList_nil ?_
  refine tN ?_
  refine sq ?_
  refine c_drawG (S := ParG [] w [] [3] [some (b1, algC (p : Int) (n : Int) T f), some (b2, vecC v), some (b3, algC (p : Int) (n : Int) T (fun i => if i < n then sumTo (fun c => f c * timesS p n T v (fun c => if c = i then 1 else 0) c) 6 % p else f i)), none] 3 (algC 0 0 (fun _ _ _ => 0) (fun _ => 0)) (algC (p : Int) (n : Int) T (fun i => if i < n then sumTo (fun c => timesV p n T v (fun c => if c = i then 1 else 0) c * f c) 6 % p else f i))) 10 9 hmix rfl rfl rfl hF rfl (fun j o hj hne => dstAll_spec (s := 9) (i := 0) rfl j o hj (by omega)) [some (b1, algC (p : Int) (n : Int) T f), some (b2, vecC v), some (b3, algC (p : Int) (n : Int) T (fun i => if i < n then sumTo (fun c => f c * timesS p n T v (fun c => if c = i then 1 else 0) c) 6 % p else f i)), none] ⟨⟨hM, Same.refl _ _⟩, fun b cs h => by simp at h⟩ (fun b g w h => ⟨⟨h.1.1.ext (Below.drew (Below.refl _ _)), h.1.2⟩, h.2⟩) (factsG 3 [.val (.agg (algC (p : Int) (n : Int) T f)), .val (.agg (algC (p : Int) (n : Int) T f)), .val (.agg (vecC v)), .val (.agg (vecC v)), .val (.tuple #[.agg (algC (p : Int) (n : Int) T (fun i => if i < n then sumTo (fun c => timesV p n T v (fun c => if c = i then 1 else 0) c * f c) 6 % p else f i)), .int .i64 (0)]), .val (.tuple #[.agg (algC (p : Int) (n : Int) T (fun i => if i < n then sumTo (fun c => timesV p n T v (fun c => if c = i then 1 else 0) c * f c) 6 % p else f i)), .int .i64 (0)]), .val (.agg (algC (p : Int) (n : Int) T (fun i => if i < n then sumTo (fun c => timesV p n T v (fun c => if c = i then 1 else 0) c * f c) 6 % p else f i))), .val (.int .i64 (0)), .own 3 (algC 0 0 (fun _ _ _ => 0) (fun _ => 0)) (fun b => ptr b 0), .val undef]) ⟨fun a w2 b g hF hS hb hd => by have hM := hS.1.mem rfl; exact pg_val hS rfl (g_loadAgg ty_ag_26 hF rfl (hM.row 0 rfl) (by simp only [fnC_size, cells_size, vecC_size, tabC_size, planeC_size] <;> omega) (whole cells_size)), fun a w2 b g hF hS hb hd => by have hF := hF.ext1 18 (hd 0 rfl rfl rfl); exact pg_call hS rfl (d_call Try.call17 hF (.cons rfl .nil) (toAlgebra_ok (p : Int) (n : Int) T f _)), fun a w2 b g hF hS hb hd => by have hM := hS.1.mem rfl; exact pg_val hS rfl (g_loadAgg ty_ag_22 hF rfl (hM.row 1 rfl) (by simp only [fnC_size, cells_size, vecC_size, tabC_size, planeC_size] <;> omega) (whole (by simp only [fnC_size, cells_size, vecC_size, tabC_size, planeC_size]))), fun a w2 b g hF hS hb hd => by have hF := hF.ext1 20 (hd 2 rfl rfl rfl); exact pg_call hS rfl (d_call Try.call37 hF (.cons rfl .nil) (toVector_ok v _)), fun a w2 b g hF hS hb hd => by have hF := hF.ext1 19 (hd 1 rfl rfl rfl); have hF := hF.ext1 21 (hd 3 rfl rfl rfl); exact pg_call hS rfl (d_call Try.call43 hF (.cons rfl (.cons rfl .nil)) (ChangeFormIY p n T f v _ hp hn0 hn hTp hT0 hf hv hfr uu huu has iv hiv hc)), fun a w2 b g hF hS hb hd => by have hF := hF.ext1 22 (hd 4 rfl rfl rfl); exact pg_val hS rfl (g_move hF rfl), fun a w2 b g hF hS hb hd => by have hF := hF.ext1 17 (hd 5 rfl rfl rfl); exact pg_val hS rfl (g_extract hF rfl rfl), fun a w2 b g hF hS hb hd => by have hF := hF.ext1 17 (hd 5 rfl rfl rfl); exact pg_val hS rfl (g_extract hF rfl rfl), fun a w2 b g hF hS hb hd => by obtain rfl := hb rfl; exact pg_own hS rfl rfl rfl rfl (d_alloc 3 hS.1.1 ty_ze_32), fun a w2 g hF hS hd => by have hF := hF.ext1 23 (hd 6 rfl rfl rfl); exact pg_store (ia := 8) hS rfl rfl rfl (hd 8 rfl rfl rfl) (fun b hptr hM hL => by have hF := hF.ext1 7 hptr; exact d_storeAgg 3 hM hL ty_sz_32 hF rfl rfl (by first | exact vecC_one | exact cells_one | (refine fnC_one fun _ _ => ?_; first | rfl | (split <;> rfl))) (by simp only [fnC_size, cells_size, vecC_size, tabC_size, planeC_size]) (by simp only [fnC_size, cells_size, vecC_size, tabC_size, planeC_size] <;> omega) (splice_whole _ _ (by simp only [fnC_size, cells_size, vecC_size, tabC_size, planeC_size]))), trivial⟩ ?_
  intro a w' L hF hS hq
  have hF := hF.ext1 18 (hq 0 rfl rfl rfl)
  have hF := hF.ext1 19 (hq 1 rfl rfl rfl)
  have hF := hF.ext1 20 (hq 2 rfl rfl rfl)
  have hF := hF.ext1 21 (hq 3 rfl rfl rfl)
  have hF := hF.ext1 22 (hq 4 rfl rfl rfl)
  have hF := hF.ext1 17 (hq 5 rfl rfl rfl)
  have hF := hF.ext1 23 (hq 6 rfl rfl rfl)
  have hF := hF.ext1 24 (hq 7 rfl rfl rfl)
  obtain ⟨b5, cs6, hptr, hkk⟩ := hq 8 rfl rfl rfl
  obtain rfl : cs6 = algC (p : Int) (n : Int) T (fun i => if i < n then sumTo (fun c => timesV p n T v (fun c => if c = i then 1 else 0) c * f c) 6 % p else f i) := hS.2 _ _ hkk
  have hF := hF.ext1 7 hptr
  obtain ⟨⟨hM, hL⟩, -⟩ := hS
  have hL := hL.take hkk
  obtain rfl := hL.eq
  change Mem w w' [some (b1, algC (p : Int) (n : Int) T f), some (b2, vecC v), some (b3, algC (p : Int) (n : Int) T (fun i => if i < n then sumTo (fun c => f c * timesS p n T v (fun c => if c = i then 1 else 0) c) 6 % p else f i)), some (b5, algC (p : Int) (n : Int) T (fun i => if i < n then sumTo (fun c => timesV p n T v (fun c => if c = i then 1 else 0) c * f c) 6 % p else f i))] [] at hM
  change wpList Try.prog _ _ [_] _ _
  refine st hF (g_assign hF rfl) rfl fun a hF => ?_
  refine wpList_nil ?_
  refine tN ?_
  refine sq ?_
  refine sq ?_
  refine wp_region_lit ?_
  refine st hF (g_loadAgg ty_ag_32 hF rfl (hM.row 3 rfl) (by simp only [fnC_size, cells_size, vecC_size, tabC_size, planeC_size] <;> omega) (whole cells_size)) rfl fun a hF => st hF (g_loadAgg ty_ag_32 hF rfl (hM.row 2 rfl) (by simp only [fnC_size, cells_size, vecC_size, tabC_size, planeC_size] <;> omega) (whole cells_size)) rfl fun a hF => ?_
  refine stR hF (d_call Try.call24 hF (.cons rfl (.cons rfl .nil)) (eqAlgebra_ok (p : Int) (n : Int) (p : Int) (n : Int) T T (fun i => if i < n then sumTo (fun c => timesV p n T v (fun c => if c = i then 1 else 0) c * f c) 6 % p else f i) (fun i => if i < n then sumTo (fun c => f c * timesS p n T v (fun c => if c = i then 1 else 0) c) 6 % p else f i) _)) rfl ?_
  rintro _ w' a ⟨hx, rfl⟩ hF
  have hM := hM.ext hx
  refine st hF (g_notP hF rfl) rfl fun a hF => st hF (g_move hF rfl) rfl fun a hF => ?_
  by_cases g7 : ¬ (((p : Int) : Int) = ((p : Int) : Int) ∧ ((n : Int) : Int) = ((n : Int) : Int) ∧ eqT T T ∧ eqV 6 (fun i => if i < n then sumTo (fun c => timesV p n T v (fun c => if c = i then 1 else 0) c * f c) 6 % p else f i) (fun i => if i < n then sumTo (fun c => f c * timesS p n T v (fun c => if c = i then 1 else 0) c) 6 % p else f i))
  ·
    first | rw [decide_eq_true g7] at hF | simp only [decide_eq_true g7] at hF
    first | exact absurd rfl g7 | exact absurd eqlaw g7 | exact absurd (by exact ⟨rfl, rfl, fun _ _ _ _ _ _ => rfl, fun _ _ => rfl⟩) g7 | (exfalso; omega)
  ·
    first | rw [decide_eq_false g7] at hF | simp only [decide_eq_false g7] at hF
    refine stY hF rfl rfl rfl (g_move hF rfl) rfl fun a hF => stY hF rfl rfl rfl (g_move hF rfl) rfl fun a hF => stY hF rfl rfl rfl (g_neq hF rfl rfl) rfl fun a hF => st hF (g_pickF hF rfl rfl) rfl fun a hF => ?_
    refine wpList_nil ?_
    refine tN ?_
    refine c_kF hF rfl (by decide) ?_
    refine wp_skip ?_
    refine tN ?_
    refine sq ?_
    refine wp_region_lit ?_
    refine st hF (g_assign hF rfl) rfl fun a hF => ?_
    refine wpList_nil ?_
    refine tN ?_
    refine wp_ret ?_
    refine fin1 rfl hF.defers (res_tmp hF rfl) ⟨_, rfl, hM.below, ?_⟩
    show _ = _
    rfl

theorem law_ChangeForm (p n : Int) (T : Nat → Nat → Nat → Nat) (f : Nat → Nat) (v : Nat → Nat) (w : World) (hT : ∀ i j k, T i j k ≤ 255) (hf : ∀ i, f i ≤ 255) (hv : ∀ i, v i ≤ 255) : CallsV Try.prog 11 #[.agg (algC p n T f), .agg (vecC v)] w (.bool true) := by
  by_cases hc : CodeP p n T f 1 (vAtL [v])
  · have hs := hc.1.1
    have hp0 := primeP_pos hs.1
    have hn := hs.2.1
    have e1 : ((p.toNat : Nat) : Int) = p := by omega
    have e2 : ((n.toNat : Nat) : Int) = n := by omega
    have has := hc.1.2.1
    obtain ⟨uu, huu⟩ := hc.1.2.2
    have hc2 : CodeP ((p.toNat : Nat) : Int) ((n.toNat : Nat) : Int) (trunc n.toNat T) f 1 (vAtL [v]) := by rw [e1, e2]; exact code_trunc hc
    by_cases hfr : FrobN p.toNat n.toNat (trunc n.toNat T) f
    · by_cases hi : ∃ iv, InvI p.toNat n.toNat (trunc n.toNat T) uu v iv
      · obtain ⟨iv, hiv⟩ := hi
        have h := law_ChangeFormY p.toNat n.toNat (trunc n.toNat T) f v w (primeN_of hs.1) (by omega) (by omega) (trunc_lt hs) trunc_out hf hv hfr uu huu has iv hiv hc2
        rw [e1, e2, ← algC_trunc hs] at h
        exact h
      · have h := law_ChangeFormN p.toNat n.toNat (trunc n.toNat T) f v w (primeN_of hs.1) (by omega) (by omega) (trunc_lt hs) trunc_out hf hv hfr uu huu has (fun q hq => hi ⟨q, hq⟩) hc2
        rw [e1, e2, ← algC_trunc hs] at h
        exact h
    · have h := law_ChangeFormF p.toNat n.toNat (trunc n.toNat T) f v w (primeN_of hs.1) (by omega) (by omega) (trunc_lt hs) trunc_out hf hv hfr hc2
      rw [e1, e2, ← algC_trunc hs] at h
      exact h
  · exact law_ChangeFormA p n T f v w hT hf hv hc

end Go.Proofs.Ytclfbjfgmocbhaa
