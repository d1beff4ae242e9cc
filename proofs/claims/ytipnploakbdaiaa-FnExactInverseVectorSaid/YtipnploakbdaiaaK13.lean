/- What functions of the program return, as walks over their operations; no statement of the seat is proved here. -/
import Derived.Test.YtipnploakbdaiaaK12
set_option linter.unusedVariables false
set_option linter.unusedSimpArgs false
namespace Go.Proofs.Ytipnploakbdaiaa
open Go Go.RowKit Go.Sw Go.Ech
open Classical
theorem InverseVectorSA (p n : Int) (T : Nat → Nat → Nat → Nat) (f v : Nat → Nat) (w : World) (hT : ∀ i j k, T i j k ≤ 255) (hf : ∀ i, f i ≤ 255) (hv : ∀ i, v i ≤ 255) (hc : ¬ CodeP p n T f 1 (vAtL [v])) :
    CallsR Try.prog 37 #[.agg (algC p n T f), .agg (vecC v)] w (fun res _ => res = .tuple #[.agg (vecC (fun _ => 0)), .int .i64 1]) := by
  refine calls_fr [.agg (algC p n T f), .agg (vecC v)] Try.func37 rfl Try.ntmps37 rfl fun a hF => ?_
  have hM : Mem w w [none, none, none, none, none] [] := MemX.start w 5
  change Fr 27 a [(0, .agg (algC p n T f)), (1, .agg (vecC v))] at hF
  have hVb : ∀ i c, vAtL [v] i c ≤ 255 := vAtL_le (fun x hx => by simp at hx; subst hx; assumption)
  refine sq ?_
  refine wp_region_lit ?_
  refine stR hF (d_box 0 hM hF rfl) rfl ?_
  rintro _ w' a ⟨b1, rfl, hM, -⟩ hF
  change Mem w w' [some (b1, algC p n T f), none, none, none, none] [] at hM
  refine stR hF (d_box 1 hM hF rfl) rfl ?_
  rintro _ w' a ⟨b2, rfl, hM, -⟩ hF
  change Mem w w' [some (b1, algC p n T f), some (b2, vecC v), none, none, none] [] at hM
  refine stR hF (d_alloc 2 hM ty_ze_28) rfl ?_
  rintro _ w' a ⟨b3, rfl, hM, -⟩ hF
  change Mem w w' [some (b1, algC p n T f), some (b2, vecC v), some (b3, fnC 6 (fun _ => .int .u8 (0))), none, none] [] at hM
  refine st hF (g_assign hF rfl) rfl fun a hF => ?_
  refine wpList_nil ?_
  refine tN ?_
  refine sq ?_
  refine sq ?_
  refine wp_region_lit ?_
  refine st hF (g_loadAgg ty_ag_30 hF rfl (hM.row 0 rfl) (by simp only [fnC_size, cells_size, vecC_size, tabC_size, planeC_size] <;> omega) (whole cells_size)) rfl fun a hF => st hF (g_loadAgg ty_ag_28 hF rfl (hM.row 1 rfl) (by simp only [fnC_size, cells_size, vecC_size, tabC_size, planeC_size] <;> omega) (whole (by simp only [fnC_size, cells_size, vecC_size, tabC_size, planeC_size]))) rfl fun a hF => ?_
  refine stR hF (d_buildC (vs := [(0, .agg (vecC v))]) 3 hM hF (build1 hF rfl) (fun w => ty_bsg_76_1 v w)) rfl ?_
  rintro _ w' a ⟨b4, rfl, hM, -⟩ hF
  change Mem w w' [some (b1, algC p n T f), some (b2, vecC v), some (b3, fnC 6 (fun _ => .int .u8 (0))), some (b4, vecsC 1 (vAtL [v])), none] [] at hM
  refine stR hF (d_call Try.call50 hF (.cons rfl (.cons rfl .nil)) ((CallsR.val (l01Code_ok p n T f b4 1 1 (vAtL [v]) _ (fun _ _ _ => hT _ _ _) (fun _ => hf _) hVb (by omega) (hM.row 3 rfl)) (congrArg (Value.int .i64) (if_neg hc))))) rfl ?_
  rintro _ w' a ⟨hx, rfl⟩ hF
  have hM := hM.ext hx
  refine st hF (g_assign hF rfl) rfl fun a hF => ?_
  refine wpList_nil ?_
  refine tN ?_
  refine sq ?_
  refine wp_region_lit ?_
  refine st hF (g_move hF rfl) rfl fun a hF => st hF (g_neq hF rfl rfl) rfl fun a hF => ?_
  refine wpList_nil ?_
  refine tN ?_
  refine c_kT hF rfl (by decide) ?_
  refine sq ?_
  refine wp_region_lit ?_
  refine st hF (g_build0 ty_bu_28) rfl fun a hF => st hF (g_move hF rfl) rfl fun a hF => ?_
  refine stN hF (d_storeAgg 2 hM rfl ty_sz_28 hF rfl rfl (by first | exact vecC_one | exact cells_one | (refine fnC_one fun _ _ => ?_; first | rfl | (split <;> rfl))) (by simp only [fnC_size, cells_size, vecC_size, tabC_size, planeC_size]) (by simp only [fnC_size, cells_size, vecC_size, tabC_size, planeC_size] <;> omega) (splice_whole _ _ (by simp only [fnC_size, cells_size, vecC_size, tabC_size, planeC_size]))) ?_
  intro _ w' a hM hF
  change Mem w w' [some (b1, algC p n T f), some (b2, vecC v), some (b3, fnC 6 (fun _ => .int .u8 (0))), some (b4, vecsC 1 (vAtL [v])), none] [] at hM
  refine st hF (g_assign hF rfl) rfl fun a hF => ?_
  refine wpList_nil ?_
  refine tN ?_
  refine wp_ret ?_
  refine tR ?_
  refine fin2 rfl hF.defers (res_agg ty_ag_28 hF rfl (hM.row 2 rfl) (by simp only [fnC_size, cells_size, vecC_size, tabC_size, planeC_size])) (res_tmp hF rfl) ⟨_, rfl, hM.below, ?_⟩
  show _ = _
  rfl

theorem InverseVectorSY (p n : Nat) (T : Nat → Nat → Nat → Nat) (f v : Nat → Nat) (w : World) (hp : primeN p) (hn0 : 0 < n) (hn : n ≤ 6) (hTp : ∀ i j k, T i j k < p) (hT0 : ∀ i j k, n ≤ k → T i j k = 0) (hf : ∀ i, f i ≤ 255) (hv : ∀ i, v i ≤ 255) (uu : Nat → Nat) (huu : UnitI p n T uu) (has : asS p n T) (iv : Nat → Nat) (hiv : InvI p n T uu v iv) (hc : CodeP (p : Int) (n : Int) T f 1 (vAtL [v])) :
    CallsR Try.prog 37 #[.agg (algC (p : Int) (n : Int) T f), .agg (vecC v)] w (fun res _ => res = .tuple #[.agg (vecC iv), .int .i64 0]) := by
  refine calls_fr [.agg (algC (p : Int) (n : Int) T f), .agg (vecC v)] Try.func37 rfl Try.ntmps37 rfl fun a hF => ?_
  have hM : Mem w w [none, none, none, none, none] [] := MemX.start w 5
  change Fr 27 a [(0, .agg (algC (p : Int) (n : Int) T f)), (1, .agg (vecC v))] at hF
  have hp2 := hp.two
  have hp13 := hp.le
  have hT : ∀ i j k, T i j k ≤ 255 := fun i j k => by have := hTp i j k; omega
  have hVb : ∀ i c, vAtL [v] i c ≤ 255 := vAtL_le (fun x hx => by simp at hx; subst hx; assumption)
  have hiv5 : ∀ c, iv c ≤ 255 := fun c => by have := hiv.small c; omega
  refine sq ?_
  refine wp_region_lit ?_
  refine stR hF (d_box 0 hM hF rfl) rfl ?_
  rintro _ w' a ⟨b1, rfl, hM, -⟩ hF
  change Mem w w' [some (b1, algC (p : Int) (n : Int) T f), none, none, none, none] [] at hM
  refine stR hF (d_box 1 hM hF rfl) rfl ?_
  rintro _ w' a ⟨b2, rfl, hM, -⟩ hF
  change Mem w w' [some (b1, algC (p : Int) (n : Int) T f), some (b2, vecC v), none, none, none] [] at hM
  refine stR hF (d_alloc 2 hM ty_ze_28) rfl ?_
  rintro _ w' a ⟨b3, rfl, hM, -⟩ hF
  change Mem w w' [some (b1, algC (p : Int) (n : Int) T f), some (b2, vecC v), some (b3, fnC 6 (fun _ => .int .u8 (0))), none, none] [] at hM
  refine st hF (g_assign hF rfl) rfl fun a hF => ?_
  refine wpList_nil ?_
  refine tN ?_
  refine sq ?_
  refine sq ?_
  refine wp_region_lit ?_
  refine st hF (g_loadAgg ty_ag_30 hF rfl (hM.row 0 rfl) (by simp only [fnC_size, cells_size, vecC_size, tabC_size, planeC_size] <;> omega) (whole cells_size)) rfl fun a hF => st hF (g_loadAgg ty_ag_28 hF rfl (hM.row 1 rfl) (by simp only [fnC_size, cells_size, vecC_size, tabC_size, planeC_size] <;> omega) (whole (by simp only [fnC_size, cells_size, vecC_size, tabC_size, planeC_size]))) rfl fun a hF => ?_
  refine stR hF (d_buildC (vs := [(0, .agg (vecC v))]) 3 hM hF (build1 hF rfl) (fun w => ty_bsg_76_1 v w)) rfl ?_
  rintro _ w' a ⟨b4, rfl, hM, -⟩ hF
  change Mem w w' [some (b1, algC (p : Int) (n : Int) T f), some (b2, vecC v), some (b3, fnC 6 (fun _ => .int .u8 (0))), some (b4, vecsC 1 (vAtL [v])), none] [] at hM
  refine stR hF (d_call Try.call50 hF (.cons rfl (.cons rfl .nil)) ((CallsR.val (l01Code_ok (p : Int) (n : Int) T f b4 1 1 (vAtL [v]) _ (fun _ _ _ => hT _ _ _) (fun _ => hf _) hVb (by omega) (hM.row 3 rfl)) (congrArg (Value.int .i64) (if_pos hc))))) rfl ?_
  rintro _ w' a ⟨hx, rfl⟩ hF
  have hM := hM.ext hx
  refine st hF (g_assign hF rfl) rfl fun a hF => ?_
  refine wpList_nil ?_
  refine tN ?_
  refine sq ?_
  refine wp_region_lit ?_
  refine st hF (g_move hF rfl) rfl fun a hF => st hF (g_neq hF rfl rfl) rfl fun a hF => ?_
  refine wpList_nil ?_
  refine tN ?_
  refine c_kF hF rfl (by decide) ?_
  refine wp_skip ?_
  refine tN ?_
  refine sq ?_
  refine wp_region_lit ?_
  refine st hF (g_loadAgg ty_ag_30 hF rfl (hM.row 0 rfl) (by simp only [fnC_size, cells_size, vecC_size, tabC_size, planeC_size] <;> omega) (whole cells_size)) rfl fun a hF => st hF (g_loadAgg ty_ag_28 hF rfl (hM.row 1 rfl) (by simp only [fnC_size, cells_size, vecC_size, tabC_size, planeC_size] <;> omega) (whole (by simp only [fnC_size, cells_size, vecC_size, tabC_size, planeC_size]))) rfl fun a hF => ?_
  refine stR hF (d_call Try.call67 hF (.cons rfl (.cons rfl .nil)) (l01Back_ok p n T f (v) _ hp hn0 hn hTp hT0 hv uu huu has)) rfl ?_
  rintro _ w' a ⟨hx, x, b, rfl, hI⟩ hF
  have hM := hM.ext hx
  obtain ⟨rfl, rfl⟩ : b = true ∧ x = iv := by
    rcases hI with ⟨e, h⟩ | ⟨_, h⟩
    · exact ⟨e, InvI.unique (AssI_of hn has) huu hiv h⟩
    · exact absurd hiv (h _)
  ·
    refine st hF (g_move hF rfl) rfl fun a hF => st hF (g_extract hF rfl rfl) rfl fun a hF => st hF (g_extract hF rfl rfl) rfl fun a hF => ?_
    refine stR hF (d_alloc 4 hM ty_ze_28) rfl ?_
    rintro _ w' a ⟨b6, rfl, hM, -⟩ hF
    change Mem w w' [some (b1, algC (p : Int) (n : Int) T f), some (b2, vecC v), some (b3, fnC 6 (fun _ => .int .u8 (0))), some (b4, vecsC 1 (vAtL [v])), some (b6, fnC 6 (fun _ => .int .u8 (0)))] [] at hM
    refine stN hF (d_storeAgg 4 hM rfl ty_sz_28 hF rfl rfl (by first | exact vecC_one | exact cells_one | (refine fnC_one fun _ _ => ?_; first | rfl | (split <;> rfl))) (by simp only [fnC_size, cells_size, vecC_size, tabC_size, planeC_size]) (by simp only [fnC_size, cells_size, vecC_size, tabC_size, planeC_size] <;> omega) (splice_whole _ _ (by simp only [fnC_size, cells_size, vecC_size, tabC_size, planeC_size]))) ?_
    intro _ w' a hM hF
    change Mem w w' [some (b1, algC (p : Int) (n : Int) T f), some (b2, vecC v), some (b3, fnC 6 (fun _ => .int .u8 (0))), some (b4, vecsC 1 (vAtL [v])), some (b6, vecC x)] [] at hM
    refine st hF (g_assign hF rfl) rfl fun a hF => ?_
    refine wpList_nil ?_
    refine tN ?_
    refine sq ?_
    refine sq ?_
    refine wp_region_lit ?_
    refine st hF (g_move hF rfl) rfl fun a hF => st hF (g_not hF rfl) rfl fun a hF => ?_
    refine wpList_nil ?_
    refine tN ?_
    refine c_Fl hF rfl ?_
    refine wp_skip ?_
    refine tN ?_
    refine sq ?_
    refine wp_region_lit ?_
    refine st hF (g_loadAgg ty_ag_28 hF rfl (hM.row 4 rfl) (by simp only [fnC_size, cells_size, vecC_size, tabC_size, planeC_size] <;> omega) (whole (by simp only [fnC_size, cells_size, vecC_size, tabC_size, planeC_size]))) rfl fun a hF => ?_
    refine stN hF (d_storeAgg 2 hM rfl ty_sz_28 hF rfl rfl (by first | exact vecC_one | exact cells_one | (refine fnC_one fun _ _ => ?_; first | rfl | (split <;> rfl))) (by simp only [fnC_size, cells_size, vecC_size, tabC_size, planeC_size]) (by simp only [fnC_size, cells_size, vecC_size, tabC_size, planeC_size] <;> omega) (splice_whole _ _ (by simp only [fnC_size, cells_size, vecC_size, tabC_size, planeC_size]))) ?_
    intro _ w' a hM hF
    change Mem w w' [some (b1, algC (p : Int) (n : Int) T f), some (b2, vecC v), some (b3, vecC x), some (b4, vecsC 1 (vAtL [v])), some (b6, vecC x)] [] at hM
    refine st hF (g_assign hF rfl) rfl fun a hF => ?_
    refine wpList_nil ?_
    refine tN ?_
    refine wp_ret ?_
    refine fin2 rfl hF.defers (res_agg ty_ag_28 hF rfl (hM.row 2 rfl) (by simp only [fnC_size, cells_size, vecC_size, tabC_size, planeC_size])) (res_tmp hF rfl) ⟨_, rfl, hM.below, ?_⟩
    show _ = _
    rfl

theorem InverseVectorSN (p n : Nat) (T : Nat → Nat → Nat → Nat) (f v : Nat → Nat) (w : World) (hp : primeN p) (hn0 : 0 < n) (hn : n ≤ 6) (hTp : ∀ i j k, T i j k < p) (hT0 : ∀ i j k, n ≤ k → T i j k = 0) (hf : ∀ i, f i ≤ 255) (hv : ∀ i, v i ≤ 255) (uu : Nat → Nat) (huu : UnitI p n T uu) (has : asS p n T) (hno : ∀ q, ¬ InvI p n T uu v q) (hc : CodeP (p : Int) (n : Int) T f 1 (vAtL [v])) :
    CallsR Try.prog 37 #[.agg (algC (p : Int) (n : Int) T f), .agg (vecC v)] w (fun res _ => res = .tuple #[.agg (vecC (fun _ => 0)), .int .i64 4]) := by
  refine calls_fr [.agg (algC (p : Int) (n : Int) T f), .agg (vecC v)] Try.func37 rfl Try.ntmps37 rfl fun a hF => ?_
  have hM : Mem w w [none, none, none, none, none] [] := MemX.start w 5
  change Fr 27 a [(0, .agg (algC (p : Int) (n : Int) T f)), (1, .agg (vecC v))] at hF
  have hp2 := hp.two
  have hp13 := hp.le
  have hT : ∀ i j k, T i j k ≤ 255 := fun i j k => by have := hTp i j k; omega
  have hVb : ∀ i c, vAtL [v] i c ≤ 255 := vAtL_le (fun x hx => by simp at hx; subst hx; assumption)
  refine sq ?_
  refine wp_region_lit ?_
  refine stR hF (d_box 0 hM hF rfl) rfl ?_
  rintro _ w' a ⟨b1, rfl, hM, -⟩ hF
  change Mem w w' [some (b1, algC (p : Int) (n : Int) T f), none, none, none, none] [] at hM
  refine stR hF (d_box 1 hM hF rfl) rfl ?_
  rintro _ w' a ⟨b2, rfl, hM, -⟩ hF
  change Mem w w' [some (b1, algC (p : Int) (n : Int) T f), some (b2, vecC v), none, none, none] [] at hM
  refine stR hF (d_alloc 2 hM ty_ze_28) rfl ?_
  rintro _ w' a ⟨b3, rfl, hM, -⟩ hF
  change Mem w w' [some (b1, algC (p : Int) (n : Int) T f), some (b2, vecC v), some (b3, fnC 6 (fun _ => .int .u8 (0))), none, none] [] at hM
  refine st hF (g_assign hF rfl) rfl fun a hF => ?_
  refine wpList_nil ?_
  refine tN ?_
  refine sq ?_
  refine sq ?_
  refine wp_region_lit ?_
  refine st hF (g_loadAgg ty_ag_30 hF rfl (hM.row 0 rfl) (by simp only [fnC_size, cells_size, vecC_size, tabC_size, planeC_size] <;> omega) (whole cells_size)) rfl fun a hF => st hF (g_loadAgg ty_ag_28 hF rfl (hM.row 1 rfl) (by simp only [fnC_size, cells_size, vecC_size, tabC_size, planeC_size] <;> omega) (whole (by simp only [fnC_size, cells_size, vecC_size, tabC_size, planeC_size]))) rfl fun a hF => ?_
  refine stR hF (d_buildC (vs := [(0, .agg (vecC v))]) 3 hM hF (build1 hF rfl) (fun w => ty_bsg_76_1 v w)) rfl ?_
  rintro _ w' a ⟨b4, rfl, hM, -⟩ hF
  change Mem w w' [some (b1, algC (p : Int) (n : Int) T f), some (b2, vecC v), some (b3, fnC 6 (fun _ => .int .u8 (0))), some (b4, vecsC 1 (vAtL [v])), none] [] at hM
  refine stR hF (d_call Try.call50 hF (.cons rfl (.cons rfl .nil)) ((CallsR.val (l01Code_ok (p : Int) (n : Int) T f b4 1 1 (vAtL [v]) _ (fun _ _ _ => hT _ _ _) (fun _ => hf _) hVb (by omega) (hM.row 3 rfl)) (congrArg (Value.int .i64) (if_pos hc))))) rfl ?_
  rintro _ w' a ⟨hx, rfl⟩ hF
  have hM := hM.ext hx
  refine st hF (g_assign hF rfl) rfl fun a hF => ?_
  refine wpList_nil ?_
  refine tN ?_
  refine sq ?_
  refine wp_region_lit ?_
  refine st hF (g_move hF rfl) rfl fun a hF => st hF (g_neq hF rfl rfl) rfl fun a hF => ?_
  refine wpList_nil ?_
  refine tN ?_
  refine c_kF hF rfl (by decide) ?_
  refine wp_skip ?_
  refine tN ?_
  refine sq ?_
  refine wp_region_lit ?_
  refine st hF (g_loadAgg ty_ag_30 hF rfl (hM.row 0 rfl) (by simp only [fnC_size, cells_size, vecC_size, tabC_size, planeC_size] <;> omega) (whole cells_size)) rfl fun a hF => st hF (g_loadAgg ty_ag_28 hF rfl (hM.row 1 rfl) (by simp only [fnC_size, cells_size, vecC_size, tabC_size, planeC_size] <;> omega) (whole (by simp only [fnC_size, cells_size, vecC_size, tabC_size, planeC_size]))) rfl fun a hF => ?_
  refine stR hF (d_call Try.call67 hF (.cons rfl (.cons rfl .nil)) (l01Back_ok p n T f (v) _ hp hn0 hn hTp hT0 hv uu huu has)) rfl ?_
  rintro _ w' a ⟨hx, x, b, rfl, hI⟩ hF
  have hM := hM.ext hx
  obtain rfl : b = false := by
    rcases hI with ⟨_, h⟩ | ⟨e, _⟩
    · exact absurd h (hno _)
    · exact e
  ·
    refine st hF (g_move hF rfl) rfl fun a hF => st hF (g_extract hF rfl rfl) rfl fun a hF => st hF (g_extract hF rfl rfl) rfl fun a hF => ?_
    refine stR hF (d_alloc 4 hM ty_ze_28) rfl ?_
    rintro _ w' a ⟨b6, rfl, hM, -⟩ hF
    change Mem w w' [some (b1, algC (p : Int) (n : Int) T f), some (b2, vecC v), some (b3, fnC 6 (fun _ => .int .u8 (0))), some (b4, vecsC 1 (vAtL [v])), some (b6, fnC 6 (fun _ => .int .u8 (0)))] [] at hM
    refine stN hF (d_storeAgg 4 hM rfl ty_sz_28 hF rfl rfl (by first | exact vecC_one | exact cells_one | (refine fnC_one fun _ _ => ?_; first | rfl | (split <;> rfl))) (by simp only [fnC_size, cells_size, vecC_size, tabC_size, planeC_size]) (by simp only [fnC_size, cells_size, vecC_size, tabC_size, planeC_size] <;> omega) (splice_whole _ _ (by simp only [fnC_size, cells_size, vecC_size, tabC_size, planeC_size]))) ?_
    intro _ w' a hM hF
    change Mem w w' [some (b1, algC (p : Int) (n : Int) T f), some (b2, vecC v), some (b3, fnC 6 (fun _ => .int .u8 (0))), some (b4, vecsC 1 (vAtL [v])), some (b6, vecC x)] [] at hM
    refine st hF (g_assign hF rfl) rfl fun a hF => ?_
    refine wpList_nil ?_
    refine tN ?_
    refine sq ?_
    refine sq ?_
    refine wp_region_lit ?_
    refine st hF (g_move hF rfl) rfl fun a hF => st hF (g_not hF rfl) rfl fun a hF => ?_
    refine wpList_nil ?_
    refine tN ?_
    refine c_T hF rfl ?_
    refine sq ?_
    refine wp_region_lit ?_
    refine st hF (g_build0 ty_bu_28) rfl fun a hF => ?_
    refine stN hF (d_storeAgg 2 hM rfl ty_sz_28 hF rfl rfl (by first | exact vecC_one | exact cells_one | (refine fnC_one fun _ _ => ?_; first | rfl | (split <;> rfl))) (by simp only [fnC_size, cells_size, vecC_size, tabC_size, planeC_size]) (by simp only [fnC_size, cells_size, vecC_size, tabC_size, planeC_size] <;> omega) (splice_whole _ _ (by simp only [fnC_size, cells_size, vecC_size, tabC_size, planeC_size]))) ?_
    intro _ w' a hM hF
    change Mem w w' [some (b1, algC (p : Int) (n : Int) T f), some (b2, vecC v), some (b3, fnC 6 (fun _ => .int .u8 (0))), some (b4, vecsC 1 (vAtL [v])), some (b6, vecC x)] [] at hM
    refine st hF (g_assign hF rfl) rfl fun a hF => ?_
    refine wpList_nil ?_
    refine tN ?_
    refine wp_ret ?_
    refine tR ?_
    refine fin2 rfl hF.defers (res_agg ty_ag_28 hF rfl (hM.row 2 rfl) (by simp only [fnC_size, cells_size, vecC_size, tabC_size, planeC_size])) (res_tmp hF rfl) ⟨_, rfl, hM.below, ?_⟩
    show _ = _
    rfl

theorem InverseVectorIA (p n : Int) (T : Nat → Nat → Nat → Nat) (f v : Nat → Nat) (w : World) (hT : ∀ i j k, T i j k ≤ 255) (hf : ∀ i, f i ≤ 255) (hv : ∀ i, v i ≤ 255) (hc : ¬ CodeP p n T f 1 (vAtL [v])) :
    CallsR Try.prog 38 #[.agg (algC p n T f), .agg (vecC v)] w (fun res _ => res = .tuple #[.agg (vecC (fun _ => 0)), .int .i64 1]) := by
  refine calls_fr [.agg (algC p n T f), .agg (vecC v)] Try.func38 rfl Try.ntmps38 rfl fun a hF => ?_
  have hM : Mem w w [none, none, none, none, none] [] := MemX.start w 5
  change Fr 24 a [(0, .agg (algC p n T f)), (1, .agg (vecC v))] at hF
  have hVb : ∀ i c, vAtL [v] i c ≤ 255 := vAtL_le (fun x hx => by simp at hx; subst hx; assumption)
  refine sq ?_
  refine wp_region_lit ?_
  refine stR hF (d_box 0 hM hF rfl) rfl ?_
  rintro _ w' a ⟨b1, rfl, hM, -⟩ hF
  change Mem w w' [some (b1, algC p n T f), none, none, none, none] [] at hM
  refine stR hF (d_box 1 hM hF rfl) rfl ?_
  rintro _ w' a ⟨b2, rfl, hM, -⟩ hF
  change Mem w w' [some (b1, algC p n T f), some (b2, vecC v), none, none, none] [] at hM
  refine stR hF (d_alloc 2 hM ty_ze_28) rfl ?_
  rintro _ w' a ⟨b3, rfl, hM, -⟩ hF
  change Mem w w' [some (b1, algC p n T f), some (b2, vecC v), some (b3, fnC 6 (fun _ => .int .u8 (0))), none, none] [] at hM
  refine st hF (g_assign hF rfl) rfl fun a hF => ?_
  refine wpList_nil ?_
  refine tN ?_
  refine sq ?_
  refine sq ?_
  refine wp_region_lit ?_
  refine st hF (g_loadAgg ty_ag_30 hF rfl (hM.row 0 rfl) (by simp only [fnC_size, cells_size, vecC_size, tabC_size, planeC_size] <;> omega) (whole cells_size)) rfl fun a hF => st hF (g_loadAgg ty_ag_28 hF rfl (hM.row 1 rfl) (by simp only [fnC_size, cells_size, vecC_size, tabC_size, planeC_size] <;> omega) (whole (by simp only [fnC_size, cells_size, vecC_size, tabC_size, planeC_size]))) rfl fun a hF => ?_
  refine stR hF (d_buildC (vs := [(0, .agg (vecC v))]) 3 hM hF (build1 hF rfl) (fun w => ty_bsg_76_1 v w)) rfl ?_
  rintro _ w' a ⟨b4, rfl, hM, -⟩ hF
  change Mem w w' [some (b1, algC p n T f), some (b2, vecC v), some (b3, fnC 6 (fun _ => .int .u8 (0))), some (b4, vecsC 1 (vAtL [v])), none] [] at hM
  refine stR hF (d_call Try.call56 hF (.cons rfl (.cons rfl .nil)) ((CallsR.val (areVectors_ok p n T f b4 1 1 (vAtL [v]) _ (fun _ _ _ => hT _ _ _) (fun _ => hf _) hVb (by omega) (hM.row 3 rfl)) (congrArg Value.bool (decide_eq_false hc))))) rfl ?_
  rintro _ w' a ⟨hx, rfl⟩ hF
  have hM := hM.ext hx
  refine st hF (g_not hF rfl) rfl fun a hF => ?_
  refine wpList_nil ?_
  refine tN ?_
  refine c_T hF rfl ?_
  refine sq ?_
  refine wp_region_lit ?_
  refine st hF (g_build0 ty_bu_28) rfl fun a hF => ?_
  refine stN hF (d_storeAgg 2 hM rfl ty_sz_28 hF rfl rfl (by first | exact vecC_one | exact cells_one | (refine fnC_one fun _ _ => ?_; first | rfl | (split <;> rfl))) (by simp only [fnC_size, cells_size, vecC_size, tabC_size, planeC_size]) (by simp only [fnC_size, cells_size, vecC_size, tabC_size, planeC_size] <;> omega) (splice_whole _ _ (by simp only [fnC_size, cells_size, vecC_size, tabC_size, planeC_size]))) ?_
  intro _ w' a hM hF
  change Mem w w' [some (b1, algC p n T f), some (b2, vecC v), some (b3, fnC 6 (fun _ => .int .u8 (0))), some (b4, vecsC 1 (vAtL [v])), none] [] at hM
  refine st hF (g_assign hF rfl) rfl fun a hF => ?_
  refine wpList_nil ?_
  refine tN ?_
  refine wp_ret ?_
  refine tR ?_
  refine fin2 rfl hF.defers (res_agg ty_ag_28 hF rfl (hM.row 2 rfl) (by simp only [fnC_size, cells_size, vecC_size, tabC_size, planeC_size])) (res_tmp hF rfl) ⟨_, rfl, hM.below, ?_⟩
  show _ = _
  rfl

theorem InverseVectorIY (p n : Nat) (T : Nat → Nat → Nat → Nat) (f v : Nat → Nat) (w : World) (hp : primeN p) (hn0 : 0 < n) (hn : n ≤ 6) (hTp : ∀ i j k, T i j k < p) (hT0 : ∀ i j k, n ≤ k → T i j k = 0) (hf : ∀ i, f i ≤ 255) (hv : ∀ i, v i ≤ 255) (uu : Nat → Nat) (huu : UnitI p n T uu) (has : asS p n T) (iv : Nat → Nat) (hiv : InvI p n T uu v iv) (hc : CodeP (p : Int) (n : Int) T f 1 (vAtL [v])) :
    CallsR Try.prog 38 #[.agg (algC (p : Int) (n : Int) T f), .agg (vecC v)] w (fun res _ => res = .tuple #[.agg (vecC iv), .int .i64 0]) := by
  refine calls_fr [.agg (algC (p : Int) (n : Int) T f), .agg (vecC v)] Try.func38 rfl Try.ntmps38 rfl fun a hF => ?_
  have hM : Mem w w [none, none, none, none, none] [] := MemX.start w 5
  change Fr 24 a [(0, .agg (algC (p : Int) (n : Int) T f)), (1, .agg (vecC v))] at hF
  have hp2 := hp.two
  have hp13 := hp.le
  have hT : ∀ i j k, T i j k ≤ 255 := fun i j k => by have := hTp i j k; omega
  have hVb : ∀ i c, vAtL [v] i c ≤ 255 := vAtL_le (fun x hx => by simp at hx; subst hx; assumption)
  have hiv5 : ∀ c, iv c ≤ 255 := fun c => by have := hiv.small c; omega
  refine sq ?_
  refine wp_region_lit ?_
  refine stR hF (d_box 0 hM hF rfl) rfl ?_
  rintro _ w' a ⟨b1, rfl, hM, -⟩ hF
  change Mem w w' [some (b1, algC (p : Int) (n : Int) T f), none, none, none, none] [] at hM
  refine stR hF (d_box 1 hM hF rfl) rfl ?_
  rintro _ w' a ⟨b2, rfl, hM, -⟩ hF
  change Mem w w' [some (b1, algC (p : Int) (n : Int) T f), some (b2, vecC v), none, none, none] [] at hM
  refine stR hF (d_alloc 2 hM ty_ze_28) rfl ?_
  rintro _ w' a ⟨b3, rfl, hM, -⟩ hF
  change Mem w w' [some (b1, algC (p : Int) (n : Int) T f), some (b2, vecC v), some (b3, fnC 6 (fun _ => .int .u8 (0))), none, none] [] at hM
  refine st hF (g_assign hF rfl) rfl fun a hF => ?_
  refine wpList_nil ?_
  refine tN ?_
  refine sq ?_
  refine sq ?_
  refine wp_region_lit ?_
  refine st hF (g_loadAgg ty_ag_30 hF rfl (hM.row 0 rfl) (by simp only [fnC_size, cells_size, vecC_size, tabC_size, planeC_size] <;> omega) (whole cells_size)) rfl fun a hF => st hF (g_loadAgg ty_ag_28 hF rfl (hM.row 1 rfl) (by simp only [fnC_size, cells_size, vecC_size, tabC_size, planeC_size] <;> omega) (whole (by simp only [fnC_size, cells_size, vecC_size, tabC_size, planeC_size]))) rfl fun a hF => ?_
  refine stR hF (d_buildC (vs := [(0, .agg (vecC v))]) 3 hM hF (build1 hF rfl) (fun w => ty_bsg_76_1 v w)) rfl ?_
  rintro _ w' a ⟨b4, rfl, hM, -⟩ hF
  change Mem w w' [some (b1, algC (p : Int) (n : Int) T f), some (b2, vecC v), some (b3, fnC 6 (fun _ => .int .u8 (0))), some (b4, vecsC 1 (vAtL [v])), none] [] at hM
  refine stR hF (d_call Try.call56 hF (.cons rfl (.cons rfl .nil)) ((CallsR.val (areVectors_ok (p : Int) (n : Int) T f b4 1 1 (vAtL [v]) _ (fun _ _ _ => hT _ _ _) (fun _ => hf _) hVb (by omega) (hM.row 3 rfl)) (congrArg Value.bool (decide_eq_true hc))))) rfl ?_
  rintro _ w' a ⟨hx, rfl⟩ hF
  have hM := hM.ext hx
  refine st hF (g_not hF rfl) rfl fun a hF => ?_
  refine wpList_nil ?_
  refine tN ?_
  refine c_Fl hF rfl ?_
  refine wp_skip ?_
  refine tN ?_
  refine sq ?_
  refine wp_region_lit ?_
  refine st hF (g_loadAgg ty_ag_30 hF rfl (hM.row 0 rfl) (by simp only [fnC_size, cells_size, vecC_size, tabC_size, planeC_size] <;> omega) (whole cells_size)) rfl fun a hF => st hF (g_loadAgg ty_ag_28 hF rfl (hM.row 1 rfl) (by simp only [fnC_size, cells_size, vecC_size, tabC_size, planeC_size] <;> omega) (whole (by simp only [fnC_size, cells_size, vecC_size, tabC_size, planeC_size]))) rfl fun a hF => ?_
  refine stR hF (d_call Try.call68 hF (.cons rfl (.cons rfl .nil)) (findInverse_ok p n T f (v) _ hp hn0 hn hTp hT0 hv uu huu)) rfl ?_
  rintro _ w' a ⟨hx, x, b, rfl, hI⟩ hF
  have hM := hM.ext hx
  obtain ⟨rfl, rfl⟩ : b = true ∧ x = iv := by
    rcases hI with ⟨e, h⟩ | ⟨_, h⟩
    · exact ⟨e, InvI.unique (AssI_of hn has) huu hiv h⟩
    · exact absurd hiv (h _)
  ·
    refine st hF (g_move hF rfl) rfl fun a hF => st hF (g_extract hF rfl rfl) rfl fun a hF => st hF (g_extract hF rfl rfl) rfl fun a hF => ?_
    refine stR hF (d_alloc 4 hM ty_ze_28) rfl ?_
    rintro _ w' a ⟨b6, rfl, hM, -⟩ hF
    change Mem w w' [some (b1, algC (p : Int) (n : Int) T f), some (b2, vecC v), some (b3, fnC 6 (fun _ => .int .u8 (0))), some (b4, vecsC 1 (vAtL [v])), some (b6, fnC 6 (fun _ => .int .u8 (0)))] [] at hM
    refine stN hF (d_storeAgg 4 hM rfl ty_sz_28 hF rfl rfl (by first | exact vecC_one | exact cells_one | (refine fnC_one fun _ _ => ?_; first | rfl | (split <;> rfl))) (by simp only [fnC_size, cells_size, vecC_size, tabC_size, planeC_size]) (by simp only [fnC_size, cells_size, vecC_size, tabC_size, planeC_size] <;> omega) (splice_whole _ _ (by simp only [fnC_size, cells_size, vecC_size, tabC_size, planeC_size]))) ?_
    intro _ w' a hM hF
    change Mem w w' [some (b1, algC (p : Int) (n : Int) T f), some (b2, vecC v), some (b3, fnC 6 (fun _ => .int .u8 (0))), some (b4, vecsC 1 (vAtL [v])), some (b6, vecC x)] [] at hM
    refine st hF (g_assign hF rfl) rfl fun a hF => ?_
    refine wpList_nil ?_
    refine tN ?_
    refine sq ?_
    refine sq ?_
    refine wp_region_lit ?_
    refine st hF (g_move hF rfl) rfl fun a hF => st hF (g_not hF rfl) rfl fun a hF => ?_
    refine wpList_nil ?_
    refine tN ?_
    refine c_Fl hF rfl ?_
    refine wp_skip ?_
    refine tN ?_
    refine sq ?_
    refine wp_region_lit ?_
    refine st hF (g_loadAgg ty_ag_28 hF rfl (hM.row 4 rfl) (by simp only [fnC_size, cells_size, vecC_size, tabC_size, planeC_size] <;> omega) (whole (by simp only [fnC_size, cells_size, vecC_size, tabC_size, planeC_size]))) rfl fun a hF => ?_
    refine stN hF (d_storeAgg 2 hM rfl ty_sz_28 hF rfl rfl (by first | exact vecC_one | exact cells_one | (refine fnC_one fun _ _ => ?_; first | rfl | (split <;> rfl))) (by simp only [fnC_size, cells_size, vecC_size, tabC_size, planeC_size]) (by simp only [fnC_size, cells_size, vecC_size, tabC_size, planeC_size] <;> omega) (splice_whole _ _ (by simp only [fnC_size, cells_size, vecC_size, tabC_size, planeC_size]))) ?_
    intro _ w' a hM hF
    change Mem w w' [some (b1, algC (p : Int) (n : Int) T f), some (b2, vecC v), some (b3, vecC x), some (b4, vecsC 1 (vAtL [v])), some (b6, vecC x)] [] at hM
    refine st hF (g_assign hF rfl) rfl fun a hF => ?_
    refine wpList_nil ?_
    refine tN ?_
    refine wp_ret ?_
    refine fin2 rfl hF.defers (res_agg ty_ag_28 hF rfl (hM.row 2 rfl) (by simp only [fnC_size, cells_size, vecC_size, tabC_size, planeC_size])) (res_tmp hF rfl) ⟨_, rfl, hM.below, ?_⟩
    show _ = _
    rfl

theorem InverseVectorIN (p n : Nat) (T : Nat → Nat → Nat → Nat) (f v : Nat → Nat) (w : World) (hp : primeN p) (hn0 : 0 < n) (hn : n ≤ 6) (hTp : ∀ i j k, T i j k < p) (hT0 : ∀ i j k, n ≤ k → T i j k = 0) (hf : ∀ i, f i ≤ 255) (hv : ∀ i, v i ≤ 255) (uu : Nat → Nat) (huu : UnitI p n T uu) (has : asS p n T) (hno : ∀ q, ¬ InvI p n T uu v q) (hc : CodeP (p : Int) (n : Int) T f 1 (vAtL [v])) :
    CallsR Try.prog 38 #[.agg (algC (p : Int) (n : Int) T f), .agg (vecC v)] w (fun res _ => res = .tuple #[.agg (vecC (fun _ => 0)), .int .i64 4]) := by
  refine calls_fr [.agg (algC (p : Int) (n : Int) T f), .agg (vecC v)] Try.func38 rfl Try.ntmps38 rfl fun a hF => ?_
  have hM : Mem w w [none, none, none, none, none] [] := MemX.start w 5
  change Fr 24 a [(0, .agg (algC (p : Int) (n : Int) T f)), (1, .agg (vecC v))] at hF
  have hp2 := hp.two
  have hp13 := hp.le
  have hT : ∀ i j k, T i j k ≤ 255 := fun i j k => by have := hTp i j k; omega
  have hVb : ∀ i c, vAtL [v] i c ≤ 255 := vAtL_le (fun x hx => by simp at hx; subst hx; assumption)
  refine sq ?_
  refine wp_region_lit ?_
  refine stR hF (d_box 0 hM hF rfl) rfl ?_
  rintro _ w' a ⟨b1, rfl, hM, -⟩ hF
  change Mem w w' [some (b1, algC (p : Int) (n : Int) T f), none, none, none, none] [] at hM
  refine stR hF (d_box 1 hM hF rfl) rfl ?_
  rintro _ w' a ⟨b2, rfl, hM, -⟩ hF
  change Mem w w' [some (b1, algC (p : Int) (n : Int) T f), some (b2, vecC v), none, none, none] [] at hM
  refine stR hF (d_alloc 2 hM ty_ze_28) rfl ?_
  rintro _ w' a ⟨b3, rfl, hM, -⟩ hF
  change Mem w w' [some (b1, algC (p : Int) (n : Int) T f), some (b2, vecC v), some (b3, fnC 6 (fun _ => .int .u8 (0))), none, none] [] at hM
  refine st hF (g_assign hF rfl) rfl fun a hF => ?_
  refine wpList_nil ?_
  refine tN ?_
  refine sq ?_
  refine sq ?_
  refine wp_region_lit ?_
  refine st hF (g_loadAgg ty_ag_30 hF rfl (hM.row 0 rfl) (by simp only [fnC_size, cells_size, vecC_size, tabC_size, planeC_size] <;> omega) (whole cells_size)) rfl fun a hF => st hF (g_loadAgg ty_ag_28 hF rfl (hM.row 1 rfl) (by simp only [fnC_size, cells_size, vecC_size, tabC_size, planeC_size] <;> omega) (whole (by simp only [fnC_size, cells_size, vecC_size, tabC_size, planeC_size]))) rfl fun a hF => ?_
  refine stR hF (d_buildC (vs := [(0, .agg (vecC v))]) 3 hM hF (build1 hF rfl) (fun w => ty_bsg_76_1 v w)) rfl ?_
  rintro _ w' a ⟨b4, rfl, hM, -⟩ hF
  change Mem w w' [some (b1, algC (p : Int) (n : Int) T f), some (b2, vecC v), some (b3, fnC 6 (fun _ => .int .u8 (0))), some (b4, vecsC 1 (vAtL [v])), none] [] at hM
  refine stR hF (d_call Try.call56 hF (.cons rfl (.cons rfl .nil)) ((CallsR.val (areVectors_ok (p : Int) (n : Int) T f b4 1 1 (vAtL [v]) _ (fun _ _ _ => hT _ _ _) (fun _ => hf _) hVb (by omega) (hM.row 3 rfl)) (congrArg Value.bool (decide_eq_true hc))))) rfl ?_
  rintro _ w' a ⟨hx, rfl⟩ hF
  have hM := hM.ext hx
  refine st hF (g_not hF rfl) rfl fun a hF => ?_
  refine wpList_nil ?_
  refine tN ?_
  refine c_Fl hF rfl ?_
  refine wp_skip ?_
  refine tN ?_
  refine sq ?_
  refine wp_region_lit ?_
  refine st hF (g_loadAgg ty_ag_30 hF rfl (hM.row 0 rfl) (by simp only [fnC_size, cells_size, vecC_size, tabC_size, planeC_size] <;> omega) (whole cells_size)) rfl fun a hF => st hF (g_loadAgg ty_ag_28 hF rfl (hM.row 1 rfl) (by simp only [fnC_size, cells_size, vecC_size, tabC_size, planeC_size] <;> omega) (whole (by simp only [fnC_size, cells_size, vecC_size, tabC_size, planeC_size]))) rfl fun a hF => ?_
  refine stR hF (d_call Try.call68 hF (.cons rfl (.cons rfl .nil)) (findInverse_ok p n T f (v) _ hp hn0 hn hTp hT0 hv uu huu)) rfl ?_
  rintro _ w' a ⟨hx, x, b, rfl, hI⟩ hF
  have hM := hM.ext hx
  obtain rfl : b = false := by
    rcases hI with ⟨_, h⟩ | ⟨e, _⟩
    · exact absurd h (hno _)
    · exact e
  ·
    refine st hF (g_move hF rfl) rfl fun a hF => st hF (g_extract hF rfl rfl) rfl fun a hF => st hF (g_extract hF rfl rfl) rfl fun a hF => ?_
    refine stR hF (d_alloc 4 hM ty_ze_28) rfl ?_
    rintro _ w' a ⟨b6, rfl, hM, -⟩ hF
    change Mem w w' [some (b1, algC (p : Int) (n : Int) T f), some (b2, vecC v), some (b3, fnC 6 (fun _ => .int .u8 (0))), some (b4, vecsC 1 (vAtL [v])), some (b6, fnC 6 (fun _ => .int .u8 (0)))] [] at hM
    refine stN hF (d_storeAgg 4 hM rfl ty_sz_28 hF rfl rfl (by first | exact vecC_one | exact cells_one | (refine fnC_one fun _ _ => ?_; first | rfl | (split <;> rfl))) (by simp only [fnC_size, cells_size, vecC_size, tabC_size, planeC_size]) (by simp only [fnC_size, cells_size, vecC_size, tabC_size, planeC_size] <;> omega) (splice_whole _ _ (by simp only [fnC_size, cells_size, vecC_size, tabC_size, planeC_size]))) ?_
    intro _ w' a hM hF
    change Mem w w' [some (b1, algC (p : Int) (n : Int) T f), some (b2, vecC v), some (b3, fnC 6 (fun _ => .int .u8 (0))), some (b4, vecsC 1 (vAtL [v])), some (b6, vecC x)] [] at hM
    refine st hF (g_assign hF rfl) rfl fun a hF => ?_
    refine wpList_nil ?_
    refine tN ?_
    refine sq ?_
    refine sq ?_
    refine wp_region_lit ?_
    refine st hF (g_move hF rfl) rfl fun a hF => st hF (g_not hF rfl) rfl fun a hF => ?_
    refine wpList_nil ?_
    refine tN ?_
    refine c_T hF rfl ?_
    refine sq ?_
    refine wp_region_lit ?_
    refine st hF (g_build0 ty_bu_28) rfl fun a hF => ?_
    refine stN hF (d_storeAgg 2 hM rfl ty_sz_28 hF rfl rfl (by first | exact vecC_one | exact cells_one | (refine fnC_one fun _ _ => ?_; first | rfl | (split <;> rfl))) (by simp only [fnC_size, cells_size, vecC_size, tabC_size, planeC_size]) (by simp only [fnC_size, cells_size, vecC_size, tabC_size, planeC_size] <;> omega) (splice_whole _ _ (by simp only [fnC_size, cells_size, vecC_size, tabC_size, planeC_size]))) ?_
    intro _ w' a hM hF
    change Mem w w' [some (b1, algC (p : Int) (n : Int) T f), some (b2, vecC v), some (b3, fnC 6 (fun _ => .int .u8 (0))), some (b4, vecsC 1 (vAtL [v])), some (b6, vecC x)] [] at hM
    refine st hF (g_assign hF rfl) rfl fun a hF => ?_
    refine wpList_nil ?_
    refine tN ?_
    refine wp_ret ?_
    refine tR ?_
    refine fin2 rfl hF.defers (res_agg ty_ag_28 hF rfl (hM.row 2 rfl) (by simp only [fnC_size, cells_size, vecC_size, tabC_size, planeC_size])) (res_tmp hF rfl) ⟨_, rfl, hM.below, ?_⟩
    show _ = _
    rfl

theorem law_InverseVectorA (p n : Int) (T : Nat → Nat → Nat → Nat) (f v : Nat → Nat) (w : World) (hT : ∀ i j k, T i j k ≤ 255) (hf : ∀ i, f i ≤ 255) (hv : ∀ i, v i ≤ 255) (hc : ¬ CodeP p n T f 1 (vAtL [v])) :
    CallsR Try.prog 12 #[.agg (algC p n T f), .agg (vecC v)] w (fun res _ => res = .bool true) := by
  refine calls_fr [.agg (algC p n T f), .agg (vecC v)] Try.func12 rfl Try.ntmps12 rfl fun a hF => ?_
  have hM : Mem w w [none, none, none, none] [] := MemX.start w 4
  change Fr 34 a [(0, .agg (algC p n T f)), (1, .agg (vecC v))] at hF
  have eqlaw : eqV 6 (fun _ => 0) (fun _ => 0) := fun _ _ => rfl
  refine sq ?_
  refine wp_region_lit ?_
  refine stR hF (d_box 0 hM hF rfl) rfl ?_
  rintro _ w' a ⟨b1, rfl, hM, -⟩ hF
  change Mem w w' [some (b1, algC p n T f), none, none, none] [] at hM
  refine stR hF (d_box 1 hM hF rfl) rfl ?_
  rintro _ w' a ⟨b2, rfl, hM, -⟩ hF
  change Mem w w' [some (b1, algC p n T f), some (b2, vecC v), none, none] [] at hM
  refine st hF (g_assign hF rfl) rfl fun a hF => ?_
  refine wpList_nil ?_
  refine tN ?_
  refine sq ?_
  refine c_drawG (S := ParG [] w [] [2] [some (b1, algC p n T f), some (b2, vecC v), none, none] 2 (fnC 6 (fun _ => .int .u8 (0))) (vecC (fun _ => 0))) 10 9 hmix rfl rfl rfl hF rfl (fun j o hj hne => dstAll_spec (s := 9) (i := 0) rfl j o hj (by omega)) [some (b1, algC p n T f), some (b2, vecC v), none, none] ⟨⟨hM, Same.refl _ _⟩, fun b cs h => by simp at h⟩ (fun b g w h => ⟨⟨h.1.1.ext (Below.drew (Below.refl _ _)), h.1.2⟩, h.2⟩) (factsG 2 [.val (.agg (algC p n T f)), .val (.agg (algC p n T f)), .val (.agg (vecC v)), .val (.agg (vecC v)), .val (.tuple #[.agg (vecC (fun _ => 0)), .int .i64 (1)]), .val (.tuple #[.agg (vecC (fun _ => 0)), .int .i64 (1)]), .val (.agg (vecC (fun _ => 0))), .val (.int .i64 (1)), .own 2 (fnC 6 (fun _ => .int .u8 (0))) (fun b => ptr b 0), .val undef]) ⟨fun a w2 b g hF hS hb hd => by have hM := hS.1.mem rfl; exact pg_val hS rfl (g_loadAgg ty_ag_26 hF rfl (hM.row 0 rfl) (by simp only [fnC_size, cells_size, vecC_size, tabC_size, planeC_size] <;> omega) (whole cells_size)), fun a w2 b g hF hS hb hd => by have hF := hF.ext1 10 (hd 0 rfl rfl rfl); exact pg_call hS rfl (d_call Try.call16 hF (.cons rfl .nil) (toAlgebra_ok p n T f _)), fun a w2 b g hF hS hb hd => by have hM := hS.1.mem rfl; exact pg_val hS rfl (g_loadAgg ty_ag_22 hF rfl (hM.row 1 rfl) (by simp only [fnC_size, cells_size, vecC_size, tabC_size, planeC_size] <;> omega) (whole (by simp only [fnC_size, cells_size, vecC_size, tabC_size, planeC_size]))), fun a w2 b g hF hS hb hd => by have hF := hF.ext1 12 (hd 2 rfl rfl rfl); exact pg_call hS rfl (d_call Try.call23 hF (.cons rfl .nil) (toVector_ok v _)), fun a w2 b g hF hS hb hd => by have hF := hF.ext1 11 (hd 1 rfl rfl rfl); have hF := hF.ext1 13 (hd 3 rfl rfl rfl); exact pg_call hS rfl (d_call Try.call37 hF (.cons rfl (.cons rfl .nil)) (InverseVectorSA p n T f v _ hT hf hv hc)), fun a w2 b g hF hS hb hd => by have hF := hF.ext1 14 (hd 4 rfl rfl rfl); exact pg_val hS rfl (g_move hF rfl), fun a w2 b g hF hS hb hd => by have hF := hF.ext1 9 (hd 5 rfl rfl rfl); exact pg_val hS rfl (g_extract hF rfl rfl), fun a w2 b g hF hS hb hd => by have hF := hF.ext1 9 (hd 5 rfl rfl rfl); exact pg_val hS rfl (g_extract hF rfl rfl), fun a w2 b g hF hS hb hd => by obtain rfl := hb rfl; exact pg_own hS rfl rfl rfl rfl (d_alloc 2 hS.1.1 ty_ze_28), fun a w2 g hF hS hd => by have hF := hF.ext1 15 (hd 6 rfl rfl rfl); exact pg_store (ia := 8) hS rfl rfl rfl (hd 8 rfl rfl rfl) (fun b hptr hM hL => by have hF := hF.ext1 5 hptr; exact d_storeAgg 2 hM hL ty_sz_28 hF rfl rfl (by first | exact vecC_one | exact cells_one | (refine fnC_one fun _ _ => ?_; first | rfl | (split <;> rfl))) (by simp only [fnC_size, cells_size, vecC_size, tabC_size, planeC_size]) (by simp only [fnC_size, cells_size, vecC_size, tabC_size, planeC_size] <;> omega) (splice_whole _ _ (by simp only [fnC_size, cells_size, vecC_size, tabC_size, planeC_size]))), trivial⟩ ?_
  intro a w' L hF hS hq
  have hF := hF.ext1 10 (hq 0 rfl rfl rfl)
  have hF := hF.ext1 11 (hq 1 rfl rfl rfl)
  have hF := hF.ext1 12 (hq 2 rfl rfl rfl)
  have hF := hF.ext1 13 (hq 3 rfl rfl rfl)
  have hF := hF.ext1 14 (hq 4 rfl rfl rfl)
  have hF := hF.ext1 9 (hq 5 rfl rfl rfl)
  have hF := hF.ext1 15 (hq 6 rfl rfl rfl)
  have hF := hF.ext1 16 (hq 7 rfl rfl rfl)
  obtain ⟨b3, cs4, hptr, hkk⟩ := hq 8 rfl rfl rfl
  obtain rfl : cs4 = vecC (fun _ => 0) := hS.2 _ _ hkk
  have hF := hF.ext1 5 hptr
  obtain ⟨⟨hM, hL⟩, -⟩ := hS
  have hL := hL.take hkk
  obtain rfl := hL.eq
  change Mem w w' [some (b1, algC p n T f), some (b2, vecC v), some (b3, vecC (fun _ => 0)), none] [] at hM
  change wpList Try.prog _ _ [_] _ _
  refine st hF (g_assign hF rfl) rfl fun a hF => ?_
  refine wpList_nil ?_
  refine tN ?_
  refine sq ?_
  refine c_drawG (S := ParG [] w [] [3] [some (b1, algC p n T f), some (b2, vecC v), some (b3, vecC (fun _ => 0)), none] 3 (fnC 6 (fun _ => .int .u8 (0))) (vecC (fun _ => 0))) 10 9 hmix rfl rfl rfl hF rfl (fun j o hj hne => dstAll_spec (s := 9) (i := 0) rfl j o hj (by omega)) [some (b1, algC p n T f), some (b2, vecC v), some (b3, vecC (fun _ => 0)), none] ⟨⟨hM, Same.refl _ _⟩, fun b cs h => by simp at h⟩ (fun b g w h => ⟨⟨h.1.1.ext (Below.drew (Below.refl _ _)), h.1.2⟩, h.2⟩) (factsG 3 [.val (.agg (algC p n T f)), .val (.agg (algC p n T f)), .val (.agg (vecC v)), .val (.agg (vecC v)), .val (.tuple #[.agg (vecC (fun _ => 0)), .int .i64 (1)]), .val (.tuple #[.agg (vecC (fun _ => 0)), .int .i64 (1)]), .val (.agg (vecC (fun _ => 0))), .val (.int .i64 (1)), .own 3 (fnC 6 (fun _ => .int .u8 (0))) (fun b => ptr b 0), .val undef]) ⟨fun a w2 b g hF hS hb hd => by have hM := hS.1.mem rfl; exact pg_val hS rfl (g_loadAgg ty_ag_26 hF rfl (hM.row 0 rfl) (by simp only [fnC_size, cells_size, vecC_size, tabC_size, planeC_size] <;> omega) (whole cells_size)), fun a w2 b g hF hS hb hd => by have hF := hF.ext1 18 (hd 0 rfl rfl rfl); exact pg_call hS rfl (d_call Try.call16 hF (.cons rfl .nil) (toAlgebra_ok p n T f _)), fun a w2 b g hF hS hb hd => by have hM := hS.1.mem rfl; exact pg_val hS rfl (g_loadAgg ty_ag_22 hF rfl (hM.row 1 rfl) (by simp only [fnC_size, cells_size, vecC_size, tabC_size, planeC_size] <;> omega) (whole (by simp only [fnC_size, cells_size, vecC_size, tabC_size, planeC_size]))), fun a w2 b g hF hS hb hd => by have hF := hF.ext1 20 (hd 2 rfl rfl rfl); exact pg_call hS rfl (d_call Try.call23 hF (.cons rfl .nil) (toVector_ok v _)), fun a w2 b g hF hS hb hd => by have hF := hF.ext1 19 (hd 1 rfl rfl rfl); have hF := hF.ext1 21 (hd 3 rfl rfl rfl); exact pg_call hS rfl (d_call Try.call38 hF (.cons rfl (.cons rfl .nil)) (InverseVectorIA p n T f v _ hT hf hv hc)), fun a w2 b g hF hS hb hd => by have hF := hF.ext1 22 (hd 4 rfl rfl rfl); exact pg_val hS rfl (g_move hF rfl), fun a w2 b g hF hS hb hd => by have hF := hF.ext1 17 (hd 5 rfl rfl rfl); exact pg_val hS rfl (g_extract hF rfl rfl), fun a w2 b g hF hS hb hd => by have hF := hF.ext1 17 (hd 5 rfl rfl rfl); exact pg_val hS rfl (g_extract hF rfl rfl), fun a w2 b g hF hS hb hd => by obtain rfl := hb rfl; exact pg_own hS rfl rfl rfl rfl (d_alloc 3 hS.1.1 ty_ze_28), fun a w2 g hF hS hd => by have hF := hF.ext1 23 (hd 6 rfl rfl rfl); exact pg_store (ia := 8) hS rfl rfl rfl (hd 8 rfl rfl rfl) (fun b hptr hM hL => by have hF := hF.ext1 7 hptr; exact d_storeAgg 3 hM hL ty_sz_28 hF rfl rfl (by first | exact vecC_one | exact cells_one | (refine fnC_one fun _ _ => ?_; first | rfl | (split <;> rfl))) (by simp only [fnC_size, cells_size, vecC_size, tabC_size, planeC_size]) (by simp only [fnC_size, cells_size, vecC_size, tabC_size, planeC_size] <;> omega) (splice_whole _ _ (by simp only [fnC_size, cells_size, vecC_size, tabC_size, planeC_size]))), trivial⟩ ?_
  intro a w' L hF hS hq
  have hF := hF.ext1 18 (hq 0 rfl rfl rfl)
  have hF := hF.ext1 19 (hq 1 rfl rfl rfl)
  have hF := hF.ext1 20 (hq 2 rfl rfl rfl)
  have hF := hF.ext1 21 (hq 3 rfl rfl rfl)
  have hF := hF.ext1 22 (hq 4 rfl rfl rfl)
  have hF := hF.ext1 17 (hq 5 rfl rfl rfl)
  have hF := hF.ext1 23 (hq 6 rfl rfl rfl)
  have hF := hF.ext1 24 (hq 7 rfl rfl rfl)
  obtain ⟨b5, cs6, hptr, hkk⟩ := hq 8 rfl rfl rfl
  obtain rfl : cs6 = vecC (fun _ => 0) := hS.2 _ _ hkk
  have hF := hF.ext1 7 hptr
  obtain ⟨⟨hM, hL⟩, -⟩ := hS
  have hL := hL.take hkk
  obtain rfl := hL.eq
  change Mem w w' [some (b1, algC p n T f), some (b2, vecC v), some (b3, vecC (fun _ => 0)), some (b5, vecC (fun _ => 0))] [] at hM
  change wpList Try.prog _ _ [_] _ _
  refine st hF (g_assign hF rfl) rfl fun a hF => ?_
  refine wpList_nil ?_
  refine tN ?_
  refine sq ?_
  refine sq ?_
  refine wp_region_lit ?_
  refine st hF (g_loadAgg ty_ag_28 hF rfl (hM.row 3 rfl) (by simp only [fnC_size, cells_size, vecC_size, tabC_size, planeC_size] <;> omega) (whole (by simp only [fnC_size, cells_size, vecC_size, tabC_size, planeC_size]))) rfl fun a hF => st hF (g_loadAgg ty_ag_28 hF rfl (hM.row 2 rfl) (by simp only [fnC_size, cells_size, vecC_size, tabC_size, planeC_size] <;> omega) (whole (by simp only [fnC_size, cells_size, vecC_size, tabC_size, planeC_size]))) rfl fun a hF => ?_
  refine stR hF (d_call Try.call25 hF (.cons rfl (.cons rfl .nil)) (eqVector_ok (fun _ => 0) (fun _ => 0) _)) rfl ?_
  rintro _ w' a ⟨hx, rfl⟩ hF
  have hM := hM.ext hx
  refine st hF (g_notP hF rfl) rfl fun a hF => st hF (g_move hF rfl) rfl fun a hF => ?_
  by_cases g7 : ¬ (eqV 6 (fun _ => 0) (fun _ => 0))
  ·
    first | rw [decide_eq_true g7] at hF | simp only [decide_eq_true g7] at hF
    first | exact absurd rfl g7 | exact absurd eqlaw g7 | (exfalso; omega)
  ·
    first | rw [decide_eq_false g7] at hF | simp only [decide_eq_false g7] at hF
    refine stY hF rfl rfl rfl (g_move hF rfl) rfl fun a hF => stY hF rfl rfl rfl (g_move hF rfl) rfl fun a hF => stY hF rfl rfl rfl (g_neq hF rfl rfl) rfl fun a hF => st hF (g_pickF hF rfl rfl) rfl fun a hF => ?_
    refine wpList_nil ?_
    refine tN ?_
    refine c_kF hF rfl (by decide) ?_
    refine wp_skip ?_
    refine tN ?_
    refine sq ?_
    refine wp_region_lit ?_
    refine st hF (g_assign hF rfl) rfl fun a hF => ?_
    refine wpList_nil ?_
    refine tN ?_
    refine wp_ret ?_
    refine fin1 rfl hF.defers (res_tmp hF rfl) ⟨_, rfl, hM.below, ?_⟩
    show _ = _
    rfl

theorem law_InverseVectorY (p n : Nat) (T : Nat → Nat → Nat → Nat) (f v : Nat → Nat) (w : World) (hp : primeN p) (hn0 : 0 < n) (hn : n ≤ 6) (hTp : ∀ i j k, T i j k < p) (hT0 : ∀ i j k, n ≤ k → T i j k = 0) (hf : ∀ i, f i ≤ 255) (hv : ∀ i, v i ≤ 255) (uu : Nat → Nat) (huu : UnitI p n T uu) (has : asS p n T) (iv : Nat → Nat) (hiv : InvI p n T uu v iv) (hc : CodeP (p : Int) (n : Int) T f 1 (vAtL [v])) :
    CallsR Try.prog 12 #[.agg (algC (p : Int) (n : Int) T f), .agg (vecC v)] w (fun res _ => res = .bool true) := by
  refine calls_fr [.agg (algC (p : Int) (n : Int) T f), .agg (vecC v)] Try.func12 rfl Try.ntmps12 rfl fun a hF => ?_
  have hM : Mem w w [none, none, none, none] [] := MemX.start w 4
  change Fr 34 a [(0, .agg (algC (p : Int) (n : Int) T f)), (1, .agg (vecC v))] at hF
  have hp2 := hp.two
  have hp13 := hp.le
  have hT : ∀ i j k, T i j k ≤ 255 := fun i j k => by have := hTp i j k; omega
  have eqlaw : eqV 6 iv iv := fun _ _ => rfl
  have hiv5 : ∀ c, iv c ≤ 255 := fun c => by have := hiv.small c; omega
  refine sq ?_
  refine wp_region_lit ?_
  refine stR hF (d_box 0 hM hF rfl) rfl ?_
  rintro _ w' a ⟨b1, rfl, hM, -⟩ hF
  change Mem w w' [some (b1, algC (p : Int) (n : Int) T f), none, none, none] [] at hM
  refine stR hF (d_box 1 hM hF rfl) rfl ?_
  rintro _ w' a ⟨b2, rfl, hM, -⟩ hF
  change Mem w w' [some (b1, algC (p : Int) (n : Int) T f), some (b2, vecC v), none, none] [] at hM
  refine st hF (g_assign hF rfl) rfl fun a hF => ?_
  refine wpList_nil ?_
  refine tN ?_
  refine sq ?_
  refine c_drawG (S := ParG [] w [] [2] [some (b1, algC (p : Int) (n : Int) T f), some (b2, vecC v), none, none] 2 (fnC 6 (fun _ => .int .u8 (0))) (vecC iv)) 10 9 hmix rfl rfl rfl hF rfl (fun j o hj hne => dstAll_spec (s := 9) (i := 0) rfl j o hj (by omega)) [some (b1, algC (p : Int) (n : Int) T f), some (b2, vecC v), none, none] ⟨⟨hM, Same.refl _ _⟩, fun b cs h => by simp at h⟩ (fun b g w h => ⟨⟨h.1.1.ext (Below.drew (Below.refl _ _)), h.1.2⟩, h.2⟩) (factsG 2 [.val (.agg (algC (p : Int) (n : Int) T f)), .val (.agg (algC (p : Int) (n : Int) T f)), .val (.agg (vecC v)), .val (.agg (vecC v)), .val (.tuple #[.agg (vecC iv), .int .i64 (0)]), .val (.tuple #[.agg (vecC iv), .int .i64 (0)]), .val (.agg (vecC iv)), .val (.int .i64 (0)), .own 2 (fnC 6 (fun _ => .int .u8 (0))) (fun b => ptr b 0), .val undef]) ⟨fun a w2 b g hF hS hb hd => by have hM := hS.1.mem rfl; exact pg_val hS rfl (g_loadAgg ty_ag_26 hF rfl (hM.row 0 rfl) (by simp only [fnC_size, cells_size, vecC_size, tabC_size, planeC_size] <;> omega) (whole cells_size)), fun a w2 b g hF hS hb hd => by have hF := hF.ext1 10 (hd 0 rfl rfl rfl); exact pg_call hS rfl (d_call Try.call16 hF (.cons rfl .nil) (toAlgebra_ok (p : Int) (n : Int) T f _)), fun a w2 b g hF hS hb hd => by have hM := hS.1.mem rfl; exact pg_val hS rfl (g_loadAgg ty_ag_22 hF rfl (hM.row 1 rfl) (by simp only [fnC_size, cells_size, vecC_size, tabC_size, planeC_size] <;> omega) (whole (by simp only [fnC_size, cells_size, vecC_size, tabC_size, planeC_size]))), fun a w2 b g hF hS hb hd => by have hF := hF.ext1 12 (hd 2 rfl rfl rfl); exact pg_call hS rfl (d_call Try.call23 hF (.cons rfl .nil) (toVector_ok v _)), fun a w2 b g hF hS hb hd => by have hF := hF.ext1 11 (hd 1 rfl rfl rfl); have hF := hF.ext1 13 (hd 3 rfl rfl rfl); exact pg_call hS rfl (d_call Try.call37 hF (.cons rfl (.cons rfl .nil)) (InverseVectorSY p n T f v _ hp hn0 hn hTp hT0 hf hv uu huu has iv hiv hc)), fun a w2 b g hF hS hb hd => by have hF := hF.ext1 14 (hd 4 rfl rfl rfl); exact pg_val hS rfl (g_move hF rfl), fun a w2 b g hF hS hb hd => by have hF := hF.ext1 9 (hd 5 rfl rfl rfl); exact pg_val hS rfl (g_extract hF rfl rfl), fun a w2 b g hF hS hb hd => by have hF := hF.ext1 9 (hd 5 rfl rfl rfl); exact pg_val hS rfl (g_extract hF rfl rfl), fun a w2 b g hF hS hb hd => by obtain rfl := hb rfl; exact pg_own hS rfl rfl rfl rfl (d_alloc 2 hS.1.1 ty_ze_28), fun a w2 g hF hS hd => by have hF := hF.ext1 15 (hd 6 rfl rfl rfl); exact pg_store (ia := 8) hS rfl rfl rfl (hd 8 rfl rfl rfl) (fun b hptr hM hL => by have hF := hF.ext1 5 hptr; exact d_storeAgg 2 hM hL ty_sz_28 hF rfl rfl (by first | exact vecC_one | exact cells_one | (refine fnC_one fun _ _ => ?_; first | rfl | (split <;> rfl))) (by simp only [fnC_size, cells_size, vecC_size, tabC_size, planeC_size]) (by simp only [fnC_size, cells_size, vecC_size, tabC_size, planeC_size] <;> omega) (splice_whole _ _ (by simp only [fnC_size, cells_size, vecC_size, tabC_size, planeC_size]))), trivial⟩ ?_
  intro a w' L hF hS hq
  have hF := hF.ext1 10 (hq 0 rfl rfl rfl)
  have hF := hF.ext1 11 (hq 1 rfl rfl rfl)
  have hF := hF.ext1 12 (hq 2 rfl rfl rfl)
  have hF := hF.ext1 13 (hq 3 rfl rfl rfl)
  have hF := hF.ext1 14 (hq 4 rfl rfl rfl)
  have hF := hF.ext1 9 (hq 5 rfl rfl rfl)
  have hF := hF.ext1 15 (hq 6 rfl rfl rfl)
  have hF := hF.ext1 16 (hq 7 rfl rfl rfl)
  obtain ⟨b3, cs4, hptr, hkk⟩ := hq 8 rfl rfl rfl
  obtain rfl : cs4 = vecC iv := hS.2 _ _ hkk
  have hF := hF.ext1 5 hptr
  obtain ⟨⟨hM, hL⟩, -⟩ := hS
  have hL := hL.take hkk
  obtain rfl := hL.eq
  change Mem w w' [some (b1, algC (p : Int) (n : Int) T f), some (b2, vecC v), some (b3, vecC iv), none] [] at hM
  change wpList Try.prog _ _ [_] _ _
  refine st hF (g_assign hF rfl) rfl fun a hF => ?_
  refine wpList_nil ?_
  refine tN ?_
  refine sq ?_
  refine c_drawG (S := ParG [] w [] [3] [some (b1, algC (p : Int) (n : Int) T f), some (b2, vecC v), some (b3, vecC iv), none] 3 (fnC 6 (fun _ => .int .u8 (0))) (vecC iv)) 10 9 hmix rfl rfl rfl hF rfl (fun j o hj hne => dstAll_spec (s := 9) (i := 0) rfl j o hj (by omega)) [some (b1, algC (p : Int) (n : Int) T f), some (b2, vecC v), some (b3, vecC iv), none] ⟨⟨hM, Same.refl _ _⟩, fun b cs h => by simp at h⟩ (fun b g w h => ⟨⟨h.1.1.ext (Below.drew (Below.refl _ _)), h.1.2⟩, h.2⟩) (factsG 3 [.val (.agg (algC (p : Int) (n : Int) T f)), .val (.agg (algC (p : Int) (n : Int) T f)), .val (.agg (vecC v)), .val (.agg (vecC v)), .val (.tuple #[.agg (vecC iv), .int .i64 (0)]), .val (.tuple #[.agg (vecC iv), .int .i64 (0)]), .val (.agg (vecC iv)), .val (.int .i64 (0)), .own 3 (fnC 6 (fun _ => .int .u8 (0))) (fun b => ptr b 0), .val undef]) ⟨fun a w2 b g hF hS hb hd => by have hM := hS.1.mem rfl; exact pg_val hS rfl (g_loadAgg ty_ag_26 hF rfl (hM.row 0 rfl) (by simp only [fnC_size, cells_size, vecC_size, tabC_size, planeC_size] <;> omega) (whole cells_size)), fun a w2 b g hF hS hb hd => by have hF := hF.ext1 18 (hd 0 rfl rfl rfl); exact pg_call hS rfl (d_call Try.call16 hF (.cons rfl .nil) (toAlgebra_ok (p : Int) (n : Int) T f _)), fun a w2 b g hF hS hb hd => by have hM := hS.1.mem rfl; exact pg_val hS rfl (g_loadAgg ty_ag_22 hF rfl (hM.row 1 rfl) (by simp only [fnC_size, cells_size, vecC_size, tabC_size, planeC_size] <;> omega) (whole (by simp only [fnC_size, cells_size, vecC_size, tabC_size, planeC_size]))), fun a w2 b g hF hS hb hd => by have hF := hF.ext1 20 (hd 2 rfl rfl rfl); exact pg_call hS rfl (d_call Try.call23 hF (.cons rfl .nil) (toVector_ok v _)), fun a w2 b g hF hS hb hd => by have hF := hF.ext1 19 (hd 1 rfl rfl rfl); have hF := hF.ext1 21 (hd 3 rfl rfl rfl); exact pg_call hS rfl (d_call Try.call38 hF (.cons rfl (.cons rfl .nil)) (InverseVectorIY p n T f v _ hp hn0 hn hTp hT0 hf hv uu huu has iv hiv hc)), fun a w2 b g hF hS hb hd => by have hF := hF.ext1 22 (hd 4 rfl rfl rfl); exact pg_val hS rfl (g_move hF rfl), fun a w2 b g hF hS hb hd => by have hF := hF.ext1 17 (hd 5 rfl rfl rfl); exact pg_val hS rfl (g_extract hF rfl rfl), fun a w2 b g hF hS hb hd => by have hF := hF.ext1 17 (hd 5 rfl rfl rfl); exact pg_val hS rfl (g_extract hF rfl rfl), fun a w2 b g hF hS hb hd => by obtain rfl := hb rfl; exact pg_own hS rfl rfl rfl rfl (d_alloc 3 hS.1.1 ty_ze_28), fun a w2 g hF hS hd => by have hF := hF.ext1 23 (hd 6 rfl rfl rfl); exact pg_store (ia := 8) hS rfl rfl rfl (hd 8 rfl rfl rfl) (fun b hptr hM hL => by have hF := hF.ext1 7 hptr; exact d_storeAgg 3 hM hL ty_sz_28 hF rfl rfl (by first | exact vecC_one | exact cells_one | (refine fnC_one fun _ _ => ?_; first | rfl | (split <;> rfl))) (by simp only [fnC_size, cells_size, vecC_size, tabC_size, planeC_size]) (by simp only [fnC_size, cells_size, vecC_size, tabC_size, planeC_size] <;> omega) (splice_whole _ _ (by simp only [fnC_size, cells_size, vecC_size, tabC_size, planeC_size]))), trivial⟩ ?_
  intro a w' L hF hS hq
  have hF := hF.ext1 18 (hq 0 rfl rfl rfl)
  have hF := hF.ext1 19 (hq 1 rfl rfl rfl)
  have hF := hF.ext1 20 (hq 2 rfl rfl rfl)
  have hF := hF.ext1 21 (hq 3 rfl rfl rfl)
  have hF := hF.ext1 22 (hq 4 rfl rfl rfl)
  have hF := hF.ext1 17 (hq 5 rfl rfl rfl)
  have hF := hF.ext1 23 (hq 6 rfl rfl rfl)
  have hF := hF.ext1 24 (hq 7 rfl rfl rfl)
  obtain ⟨b5, cs6, hptr, hkk⟩ := hq 8 rfl rfl rfl
  obtain rfl : cs6 = vecC iv := hS.2 _ _ hkk
  have hF := hF.ext1 7 hptr
  obtain ⟨⟨hM, hL⟩, -⟩ := hS
  have hL := hL.take hkk
  obtain rfl := hL.eq
  change Mem w w' [some (b1, algC (p : Int) (n : Int) T f), some (b2, vecC v), some (b3, vecC iv), some (b5, vecC iv)] [] at hM
  change wpList Try.prog _ _ [_] _ _
  refine st hF (g_assign hF rfl) rfl fun a hF => ?_
  refine wpList_nil ?_
  refine tN ?_
  refine sq ?_
  refine sq ?_
  refine wp_region_lit ?_
  refine st hF (g_loadAgg ty_ag_28 hF rfl (hM.row 3 rfl) (by simp only [fnC_size, cells_size, vecC_size, tabC_size, planeC_size] <;> omega) (whole (by simp only [fnC_size, cells_size, vecC_size, tabC_size, planeC_size]))) rfl fun a hF => st hF (g_loadAgg ty_ag_28 hF rfl (hM.row 2 rfl) (by simp only [fnC_size, cells_size, vecC_size, tabC_size, planeC_size] <;> omega) (whole (by simp only [fnC_size, cells_size, vecC_size, tabC_size, planeC_size]))) rfl fun a hF => ?_
  refine stR hF (d_call Try.call25 hF (.cons rfl (.cons rfl .nil)) (eqVector_ok iv iv _)) rfl ?_
  rintro _ w' a ⟨hx, rfl⟩ hF
  have hM := hM.ext hx
  refine st hF (g_notP hF rfl) rfl fun a hF => st hF (g_move hF rfl) rfl fun a hF => ?_
  by_cases g7 : ¬ (eqV 6 iv iv)
  ·
    first | rw [decide_eq_true g7] at hF | simp only [decide_eq_true g7] at hF
    first | exact absurd rfl g7 | exact absurd eqlaw g7 | (exfalso; omega)
  ·
    first | rw [decide_eq_false g7] at hF | simp only [decide_eq_false g7] at hF
    refine stY hF rfl rfl rfl (g_move hF rfl) rfl fun a hF => stY hF rfl rfl rfl (g_move hF rfl) rfl fun a hF => stY hF rfl rfl rfl (g_neq hF rfl rfl) rfl fun a hF => st hF (g_pickF hF rfl rfl) rfl fun a hF => ?_
    refine wpList_nil ?_
    refine tN ?_
    refine c_kF hF rfl (by decide) ?_
    refine wp_skip ?_
    refine tN ?_
    refine sq ?_
    refine wp_region_lit ?_
    refine st hF (g_assign hF rfl) rfl fun a hF => ?_
    refine wpList_nil ?_
    refine tN ?_
    refine wp_ret ?_
    refine fin1 rfl hF.defers (res_tmp hF rfl) ⟨_, rfl, hM.below, ?_⟩
    show _ = _
    rfl

theorem law_InverseVectorN (p n : Nat) (T : Nat → Nat → Nat → Nat) (f v : Nat → Nat) (w : World) (hp : primeN p) (hn0 : 0 < n) (hn : n ≤ 6) (hTp : ∀ i j k, T i j k < p) (hT0 : ∀ i j k, n ≤ k → T i j k = 0) (hf : ∀ i, f i ≤ 255) (hv : ∀ i, v i ≤ 255) (uu : Nat → Nat) (huu : UnitI p n T uu) (has : asS p n T) (hno : ∀ q, ¬ InvI p n T uu v q) (hc : CodeP (p : Int) (n : Int) T f 1 (vAtL [v])) :
    CallsR Try.prog 12 #[.agg (algC (p : Int) (n : Int) T f), .agg (vecC v)] w (fun res _ => res = .bool true) := by
  refine calls_fr [.agg (algC (p : Int) (n : Int) T f), .agg (vecC v)] Try.func12 rfl Try.ntmps12 rfl fun a hF => ?_
  have hM : Mem w w [none, none, none, none] [] := MemX.start w 4
  change Fr 34 a [(0, .agg (algC (p : Int) (n : Int) T f)), (1, .agg (vecC v))] at hF
  have hp2 := hp.two
  have hp13 := hp.le
  have hT : ∀ i j k, T i j k ≤ 255 := fun i j k => by have := hTp i j k; omega
  have eqlaw : eqV 6 (fun _ => 0) (fun _ => 0) := fun _ _ => rfl
  refine sq ?_
  refine wp_region_lit ?_
  refine stR hF (d_box 0 hM hF rfl) rfl ?_
  rintro _ w' a ⟨b1, rfl, hM, -⟩ hF
  change Mem w w' [some (b1, algC (p : Int) (n : Int) T f), none, none, none] [] at hM
  refine stR hF (d_box 1 hM hF rfl) rfl ?_
  rintro _ w' a ⟨b2, rfl, hM, -⟩ hF
  change Mem w w' [some (b1, algC (p : Int) (n : Int) T f), some (b2, vecC v), none, none] [] at hM
  refine st hF (g_assign hF rfl) rfl fun a hF => ?_
  refine wpList_nil ?_
  refine tN ?_
  refine sq ?_
  refine c_drawG (S := ParG [] w [] [2] [some (b1, algC (p : Int) (n : Int) T f), some (b2, vecC v), none, none] 2 (fnC 6 (fun _ => .int .u8 (0))) (vecC (fun _ => 0))) 10 9 hmix rfl rfl rfl hF rfl (fun j o hj hne => dstAll_spec (s := 9) (i := 0) rfl j o hj (by omega)) [some (b1, algC (p : Int) (n : Int) T f), some (b2, vecC v), none, none] ⟨⟨hM, Same.refl _ _⟩, fun b cs h => by simp at h⟩ (fun b g w h => ⟨⟨h.1.1.ext (Below.drew (Below.refl _ _)), h.1.2⟩, h.2⟩) (factsG 2 [.val (.agg (algC (p : Int) (n : Int) T f)), .val (.agg (algC (p : Int) (n : Int) T f)), .val (.agg (vecC v)), .val (.agg (vecC v)), .val (.tuple #[.agg (vecC (fun _ => 0)), .int .i64 (4)]), .val (.tuple #[.agg (vecC (fun _ => 0)), .int .i64 (4)]), .val (.agg (vecC (fun _ => 0))), .val (.int .i64 (4)), .own 2 (fnC 6 (fun _ => .int .u8 (0))) (fun b => ptr b 0), .val undef]) ⟨fun a w2 b g hF hS hb hd => by have hM := hS.1.mem rfl; exact pg_val hS rfl (g_loadAgg ty_ag_26 hF rfl (hM.row 0 rfl) (by simp only [fnC_size, cells_size, vecC_size, tabC_size, planeC_size] <;> omega) (whole cells_size)), fun a w2 b g hF hS hb hd => by have hF := hF.ext1 10 (hd 0 rfl rfl rfl); exact pg_call hS rfl (d_call Try.call16 hF (.cons rfl .nil) (toAlgebra_ok (p : Int) (n : Int) T f _)), fun a w2 b g hF hS hb hd => by have hM := hS.1.mem rfl; exact pg_val hS rfl (g_loadAgg ty_ag_22 hF rfl (hM.row 1 rfl) (by simp only [fnC_size, cells_size, vecC_size, tabC_size, planeC_size] <;> omega) (whole (by simp only [fnC_size, cells_size, vecC_size, tabC_size, planeC_size]))), fun a w2 b g hF hS hb hd => by have hF := hF.ext1 12 (hd 2 rfl rfl rfl); exact pg_call hS rfl (d_call Try.call23 hF (.cons rfl .nil) (toVector_ok v _)), fun a w2 b g hF hS hb hd => by have hF := hF.ext1 11 (hd 1 rfl rfl rfl); have hF := hF.ext1 13 (hd 3 rfl rfl rfl); exact pg_call hS rfl (d_call Try.call37 hF (.cons rfl (.cons rfl .nil)) (InverseVectorSN p n T f v _ hp hn0 hn hTp hT0 hf hv uu huu has hno hc)), fun a w2 b g hF hS hb hd => by have hF := hF.ext1 14 (hd 4 rfl rfl rfl); exact pg_val hS rfl (g_move hF rfl), fun a w2 b g hF hS hb hd => by have hF := hF.ext1 9 (hd 5 rfl rfl rfl); exact pg_val hS rfl (g_extract hF rfl rfl), fun a w2 b g hF hS hb hd => by have hF := hF.ext1 9 (hd 5 rfl rfl rfl); exact pg_val hS rfl (g_extract hF rfl rfl), fun a w2 b g hF hS hb hd => by obtain rfl := hb rfl; exact pg_own hS rfl rfl rfl rfl (d_alloc 2 hS.1.1 ty_ze_28), fun a w2 g hF hS hd => by have hF := hF.ext1 15 (hd 6 rfl rfl rfl); exact pg_store (ia := 8) hS rfl rfl rfl (hd 8 rfl rfl rfl) (fun b hptr hM hL => by have hF := hF.ext1 5 hptr; exact d_storeAgg 2 hM hL ty_sz_28 hF rfl rfl (by first | exact vecC_one | exact cells_one | (refine fnC_one fun _ _ => ?_; first | rfl | (split <;> rfl))) (by simp only [fnC_size, cells_size, vecC_size, tabC_size, planeC_size]) (by simp only [fnC_size, cells_size, vecC_size, tabC_size, planeC_size] <;> omega) (splice_whole _ _ (by simp only [fnC_size, cells_size, vecC_size, tabC_size, planeC_size]))), trivial⟩ ?_
  intro a w' L hF hS hq
  have hF := hF.ext1 10 (hq 0 rfl rfl rfl)
  have hF := hF.ext1 11 (hq 1 rfl rfl rfl)
  have hF := hF.ext1 12 (hq 2 rfl rfl rfl)
  have hF := hF.ext1 13 (hq 3 rfl rfl rfl)
  have hF := hF.ext1 14 (hq 4 rfl rfl rfl)
  have hF := hF.ext1 9 (hq 5 rfl rfl rfl)
  have hF := hF.ext1 15 (hq 6 rfl rfl rfl)
  have hF := hF.ext1 16 (hq 7 rfl rfl rfl)
  obtain ⟨b3, cs4, hptr, hkk⟩ := hq 8 rfl rfl rfl
  obtain rfl : cs4 = vecC (fun _ => 0) := hS.2 _ _ hkk
  have hF := hF.ext1 5 hptr
  obtain ⟨⟨hM, hL⟩, -⟩ := hS
  have hL := hL.take hkk
  obtain rfl := hL.eq
  change Mem w w' [some (b1, algC (p : Int) (n : Int) T f), some (b2, vecC v), some (b3, vecC (fun _ => 0)), none] [] at hM
  change wpList Try.prog _ _ [_] _ _
  refine st hF (g_assign hF rfl) rfl fun a hF => ?_
  refine wpList_nil ?_
  refine tN ?_
  refine sq ?_
  refine c_drawG (S := ParG [] w [] [3] [some (b1, algC (p : Int) (n : Int) T f), some (b2, vecC v), some (b3, vecC (fun _ => 0)), none] 3 (fnC 6 (fun _ => .int .u8 (0))) (vecC (fun _ => 0))) 10 9 hmix rfl rfl rfl hF rfl (fun j o hj hne => dstAll_spec (s := 9) (i := 0) rfl j o hj (by omega)) [some (b1, algC (p : Int) (n : Int) T f), some (b2, vecC v), some (b3, vecC (fun _ => 0)), none] ⟨⟨hM, Same.refl _ _⟩, fun b cs h => by simp at h⟩ (fun b g w h => ⟨⟨h.1.1.ext (Below.drew (Below.refl _ _)), h.1.2⟩, h.2⟩) (factsG 3 [.val (.agg (algC (p : Int) (n : Int) T f)), .val (.agg (algC (p : Int) (n : Int) T f)), .val (.agg (vecC v)), .val (.agg (vecC v)), .val (.tuple #[.agg (vecC (fun _ => 0)), .int .i64 (4)]), .val (.tuple #[.agg (vecC (fun _ => 0)), .int .i64 (4)]), .val (.agg (vecC (fun _ => 0))), .val (.int .i64 (4)), .own 3 (fnC 6 (fun _ => .int .u8 (0))) (fun b => ptr b 0), .val undef]) ⟨fun a w2 b g hF hS hb hd => by have hM := hS.1.mem rfl; exact pg_val hS rfl (g_loadAgg ty_ag_26 hF rfl (hM.row 0 rfl) (by simp only [fnC_size, cells_size, vecC_size, tabC_size, planeC_size] <;> omega) (whole cells_size)), fun a w2 b g hF hS hb hd => by have hF := hF.ext1 18 (hd 0 rfl rfl rfl); exact pg_call hS rfl (d_call Try.call16 hF (.cons rfl .nil) (toAlgebra_ok (p : Int) (n : Int) T f _)), fun a w2 b g hF hS hb hd => by have hM := hS.1.mem rfl; exact pg_val hS rfl (g_loadAgg ty_ag_22 hF rfl (hM.row 1 rfl) (by simp only [fnC_size, cells_size, vecC_size, tabC_size, planeC_size] <;> omega) (whole (by simp only [fnC_size, cells_size, vecC_size, tabC_size, planeC_size]))), fun a w2 b g hF hS hb hd => by have hF := hF.ext1 20 (hd 2 rfl rfl rfl); exact pg_call hS rfl (d_call Try.call23 hF (.cons rfl .nil) (toVector_ok v _)), fun a w2 b g hF hS hb hd => by have hF := hF.ext1 19 (hd 1 rfl rfl rfl); have hF := hF.ext1 21 (hd 3 rfl rfl rfl); exact pg_call hS rfl (d_call Try.call38 hF (.cons rfl (.cons rfl .nil)) (InverseVectorIN p n T f v _ hp hn0 hn hTp hT0 hf hv uu huu has hno hc)), fun a w2 b g hF hS hb hd => by have hF := hF.ext1 22 (hd 4 rfl rfl rfl); exact pg_val hS rfl (g_move hF rfl), fun a w2 b g hF hS hb hd => by have hF := hF.ext1 17 (hd 5 rfl rfl rfl); exact pg_val hS rfl (g_extract hF rfl rfl), fun a w2 b g hF hS hb hd => by have hF := hF.ext1 17 (hd 5 rfl rfl rfl); exact pg_val hS rfl (g_extract hF rfl rfl), fun a w2 b g hF hS hb hd => by obtain rfl := hb rfl; exact pg_own hS rfl rfl rfl rfl (d_alloc 3 hS.1.1 ty_ze_28), fun a w2 g hF hS hd => by have hF := hF.ext1 23 (hd 6 rfl rfl rfl); exact pg_store (ia := 8) hS rfl rfl rfl (hd 8 rfl rfl rfl) (fun b hptr hM hL => by have hF := hF.ext1 7 hptr; exact d_storeAgg 3 hM hL ty_sz_28 hF rfl rfl (by first | exact vecC_one | exact cells_one | (refine fnC_one fun _ _ => ?_; first | rfl | (split <;> rfl))) (by simp only [fnC_size, cells_size, vecC_size, tabC_size, planeC_size]) (by simp only [fnC_size, cells_size, vecC_size, tabC_size, planeC_size] <;> omega) (splice_whole _ _ (by simp only [fnC_size, cells_size, vecC_size, tabC_size, planeC_size]))), trivial⟩ ?_
  intro a w' L hF hS hq
  have hF := hF.ext1 18 (hq 0 rfl rfl rfl)
  have hF := hF.ext1 19 (hq 1 rfl rfl rfl)
  have hF := hF.ext1 20 (hq 2 rfl rfl rfl)
  have hF := hF.ext1 21 (hq 3 rfl rfl rfl)
  have hF := hF.ext1 22 (hq 4 rfl rfl rfl)
  have hF := hF.ext1 17 (hq 5 rfl rfl rfl)
  have hF := hF.ext1 23 (hq 6 rfl rfl rfl)
  have hF := hF.ext1 24 (hq 7 rfl rfl rfl)
  obtain ⟨b5, cs6, hptr, hkk⟩ := hq 8 rfl rfl rfl
  obtain rfl : cs6 = vecC (fun _ => 0) := hS.2 _ _ hkk
  have hF := hF.ext1 7 hptr
  obtain ⟨⟨hM, hL⟩, -⟩ := hS
  have hL := hL.take hkk
  obtain rfl := hL.eq
  change Mem w w' [some (b1, algC (p : Int) (n : Int) T f), some (b2, vecC v), some (b3, vecC (fun _ => 0)), some (b5, vecC (fun _ => 0))] [] at hM
  change wpList Try.prog _ _ [_] _ _
  refine st hF (g_assign hF rfl) rfl fun a hF => ?_
  refine wpList_nil ?_
  refine tN ?_
  refine sq ?_
  refine sq ?_
  refine wp_region_lit ?_
  refine st hF (g_loadAgg ty_ag_28 hF rfl (hM.row 3 rfl) (by simp only [fnC_size, cells_size, vecC_size, tabC_size, planeC_size] <;> omega) (whole (by simp only [fnC_size, cells_size, vecC_size, tabC_size, planeC_size]))) rfl fun a hF => st hF (g_loadAgg ty_ag_28 hF rfl (hM.row 2 rfl) (by simp only [fnC_size, cells_size, vecC_size, tabC_size, planeC_size] <;> omega) (whole (by simp only [fnC_size, cells_size, vecC_size, tabC_size, planeC_size]))) rfl fun a hF => ?_
  refine stR hF (d_call Try.call25 hF (.cons rfl (.cons rfl .nil)) (eqVector_ok (fun _ => 0) (fun _ => 0) _)) rfl ?_
  rintro _ w' a ⟨hx, rfl⟩ hF
  have hM := hM.ext hx
  refine st hF (g_notP hF rfl) rfl fun a hF => st hF (g_move hF rfl) rfl fun a hF => ?_
  by_cases g7 : ¬ (eqV 6 (fun _ => 0) (fun _ => 0))
  ·
    first | rw [decide_eq_true g7] at hF | simp only [decide_eq_true g7] at hF
    first | exact absurd rfl g7 | exact absurd eqlaw g7 | (exfalso; omega)
  ·
    first | rw [decide_eq_false g7] at hF | simp only [decide_eq_false g7] at hF
    refine stY hF rfl rfl rfl (g_move hF rfl) rfl fun a hF => stY hF rfl rfl rfl (g_move hF rfl) rfl fun a hF => stY hF rfl rfl rfl (g_neq hF rfl rfl) rfl fun a hF => st hF (g_pickF hF rfl rfl) rfl fun a hF => ?_
    refine wpList_nil ?_
    refine tN ?_
    refine c_kF hF rfl (by decide) ?_
    refine wp_skip ?_
    refine tN ?_
    refine sq ?_
    refine wp_region_lit ?_
    refine st hF (g_assign hF rfl) rfl fun a hF => ?_
    refine wpList_nil ?_
    refine tN ?_
    refine wp_ret ?_
    refine fin1 rfl hF.defers (res_tmp hF rfl) ⟨_, rfl, hM.below, ?_⟩
    show _ = _
    rfl

theorem law_InverseVector (p n : Int) (T : Nat → Nat → Nat → Nat) (f v : Nat → Nat) (w : World) (hT : ∀ i j k, T i j k ≤ 255) (hf : ∀ i, f i ≤ 255) (hv : ∀ i, v i ≤ 255) : CallsV Try.prog 12 #[.agg (algC p n T f), .agg (vecC v)] w (.bool true) := by
  by_cases hc : CodeP p n T f 1 (vAtL [v])
  · have hs := hc.1.1
    have hp0 := primeP_pos hs.1
    have hn := hs.2.1
    have e1 : ((p.toNat : Nat) : Int) = p := by omega
    have e2 : ((n.toNat : Nat) : Int) = n := by omega
    have has := hc.1.2.1
    obtain ⟨uu, huu⟩ := hc.1.2.2
    have hc2 : CodeP ((p.toNat : Nat) : Int) ((n.toNat : Nat) : Int) (trunc n.toNat T) f 1 (vAtL [v]) := by rw [e1, e2]; exact code_trunc hc
    by_cases hi : ∃ iv, InvI p.toNat n.toNat (trunc n.toNat T) uu v iv
    · obtain ⟨iv, hiv⟩ := hi
      have h := law_InverseVectorY p.toNat n.toNat (trunc n.toNat T) f v w (primeN_of hs.1) (by omega) (by omega) (trunc_lt hs) trunc_out hf hv uu huu has iv hiv hc2
      rw [e1, e2, ← algC_trunc hs] at h
      exact h
    · have h := law_InverseVectorN p.toNat n.toNat (trunc n.toNat T) f v w (primeN_of hs.1) (by omega) (by omega) (trunc_lt hs) trunc_out hf hv uu huu has (fun q hq => hi ⟨q, hq⟩) hc2
      rw [e1, e2, ← algC_trunc hs] at h
      exact h
  · exact law_InverseVectorA p n T f v w hT hf hv hc

end Go.Proofs.Ytipnploakbdaiaa
