/- What functions of the program return, as walks over their operations; no statement of the seat is proved here. -/
import Derived.Test.YtficgmohfabplaaTF
import Derived.Test.YtficgmohfabplaaK5
import Derived.Test.YtficgmohfabplaaEch11
set_option linter.unusedVariables false
set_option linter.unusedSimpArgs false
namespace Go.Proofs.Ytficgmohfabplaa
open Go Go.RowKit Go.Sw Go.Ech
open Classical
theorem ty_ub_4 : Try.prog.underlying 4 = some .bool := by kernel_rfl
theorem IsIdempotentSA (p n : Int) (T : Nat → Nat → Nat → Nat) (f : Nat → Nat) (v : Nat → Nat) (w : World) (hT : ∀ i j k, T i j k ≤ 255) (hf : ∀ i, f i ≤ 255) (hv : ∀ i, v i ≤ 255) (hc : ¬ CodeP p n T f 1 (vAtL [v])) :
    CallsR Try.prog 14 #[.agg (algC p n T f), .agg (vecC v)] w (fun res _ => res = .tuple #[.bool false, .int .i64 1]) := by
  refine calls_fr [.agg (algC p n T f), .agg (vecC v)] Try.func14 rfl Try.ntmps14 rfl fun a hF => ?_
  have hM : Mem w w [none, none, none] [] := MemX.start w 3
  change Fr 20 a [(0, .agg (algC p n T f)), (1, .agg (vecC v))] at hF
  have hVb : ∀ i c, vAtL [v] i c ≤ 255 := vAtL_le (fun x hx => by simp at hx; subst hx <;> assumption)
  refine sq ?_
  refine wp_region_lit ?_
  refine stR hF (d_box 0 hM hF rfl) rfl ?_
  rintro _ w' a ⟨b1, rfl, hM, -⟩ hF
  change Mem w w' [some (b1, algC p n T f), none, none] [] at hM
  refine stR hF (d_box 1 hM hF rfl) rfl ?_
  rintro _ w' a ⟨b2, rfl, hM, -⟩ hF
  change Mem w w' [some (b1, algC p n T f), some (b2, vecC v), none] [] at hM
  refine st hF (g_assign hF rfl) rfl fun a hF => st hF (g_assign hF rfl) rfl fun a hF => ?_
  refine wpList_nil ?_
  refine tN ?_
  refine sq ?_
  refine sq ?_
  refine wp_region_lit ?_
  refine st hF (g_loadAgg ty_ag_31 hF rfl (hM.row 0 rfl) (by simp only [fnC_size, cells_size, vecC_size, tabC_size, planeC_size] <;> omega) (whole cells_size)) rfl fun a hF => st hF (g_loadAgg ty_ag_27 hF rfl (hM.row 1 rfl) (by simp only [fnC_size, cells_size, vecC_size, tabC_size, planeC_size] <;> omega) (whole (by simp only [fnC_size, cells_size, vecC_size, tabC_size, planeC_size]))) rfl fun a hF => ?_
  refine stR hF (d_buildC (vs := [(0, .agg (vecC v))]) 2 hM hF (build1 hF rfl) (fun w => ty_bsg_46_1 v w)) rfl ?_
  rintro _ w' a ⟨b3, rfl, hM, -⟩ hF
  change Mem w w' [some (b1, algC p n T f), some (b2, vecC v), some (b3, vecsC 1 (vAtL [v]))] [] at hM
  refine stR hF (d_call Try.call30 hF (.cons rfl (.cons rfl .nil)) ((CallsR.val (l01Code_ok p n T f b3 1 1 (vAtL [v]) _ (fun _ _ _ => hT _ _ _) (fun _ => hf _) hVb (by omega) (hM.row 2 rfl)) (congrArg (Value.int .i64) (if_neg hc))))) rfl ?_
  rintro _ w' a ⟨hx, rfl⟩ hF
  have hM := hM.ext hx
  refine st hF (g_assign hF rfl) rfl fun a hF => ?_
  refine wpList_nil ?_
  refine tN ?_
  refine sq ?_
  refine wp_region_lit ?_
  refine st hF (g_move hF rfl) rfl fun a hF => st hF (g_neq hF rfl rfl) rfl fun a hF => ?_
  refine wpList_nil ?_
  refine tN ?_
  refine c_kT hF rfl (by decide) ?_
  refine sq ?_
  refine wp_region_lit ?_
  refine st hF (g_move hF rfl) rfl fun a hF => st hF (g_assign hF rfl) rfl fun a hF => st hF (g_assign hF rfl) rfl fun a hF => ?_
  refine wpList_nil ?_
  refine tN ?_
  refine wp_ret ?_
  refine tR ?_
  refine fin2 rfl hF.defers (res_tmp hF rfl) (res_tmp hF rfl) ⟨_, rfl, hM.below, ?_⟩
  show _ = _
  rfl

theorem IsIdempotentSB (p n : Nat) (T : Nat → Nat → Nat → Nat) (f : Nat → Nat) (v : Nat → Nat) (w : World) (hp : primeN p) (hn0 : 0 < n) (hn : n ≤ 6) (hTp : ∀ i j k, T i j k < p) (hT0 : ∀ i j k, n ≤ k → T i j k = 0) (hf : ∀ i, f i ≤ 255) (hv : ∀ i, v i ≤ 255) (hc : CodeP (p : Int) (n : Int) T f 1 (vAtL [v])) :
    CallsR Try.prog 14 #[.agg (algC (p : Int) (n : Int) T f), .agg (vecC v)] w (fun res _ => res = .tuple #[.bool (decide (eqV 6 (timesS p n T v v) (v))), .int .i64 0]) := by
  refine calls_fr [.agg (algC (p : Int) (n : Int) T f), .agg (vecC v)] Try.func14 rfl Try.ntmps14 rfl fun a hF => ?_
  have hM : Mem w w [none, none, none] [] := MemX.start w 3
  change Fr 20 a [(0, .agg (algC (p : Int) (n : Int) T f)), (1, .agg (vecC v))] at hF
  have hp2 := hp.two
  have hp13 := hp.le
  have hT : ∀ i j k, T i j k ≤ 255 := fun i j k => by have := hTp i j k; omega
  have hVb : ∀ i c, vAtL [v] i c ≤ 255 := vAtL_le (fun x hx => by simp at hx; subst hx <;> assumption)
  have hvt : ∀ c, timesV p n T v v c ≤ 255 := fun c => timesV_le (by omega) (by omega) v v c
  have hvs : ∀ c, timesS p n T v v c ≤ 255 := fun c => by rw [← times_eq hT0]; exact hvt c
  refine sq ?_
  refine wp_region_lit ?_
  refine stR hF (d_box 0 hM hF rfl) rfl ?_
  rintro _ w' a ⟨b1, rfl, hM, -⟩ hF
  change Mem w w' [some (b1, algC (p : Int) (n : Int) T f), none, none] [] at hM
  refine stR hF (d_box 1 hM hF rfl) rfl ?_
  rintro _ w' a ⟨b2, rfl, hM, -⟩ hF
  change Mem w w' [some (b1, algC (p : Int) (n : Int) T f), some (b2, vecC v), none] [] at hM
  refine st hF (g_assign hF rfl) rfl fun a hF => st hF (g_assign hF rfl) rfl fun a hF => ?_
  refine wpList_nil ?_
  refine tN ?_
  refine sq ?_
  refine sq ?_
  refine wp_region_lit ?_
  refine st hF (g_loadAgg ty_ag_31 hF rfl (hM.row 0 rfl) (by simp only [fnC_size, cells_size, vecC_size, tabC_size, planeC_size] <;> omega) (whole cells_size)) rfl fun a hF => st hF (g_loadAgg ty_ag_27 hF rfl (hM.row 1 rfl) (by simp only [fnC_size, cells_size, vecC_size, tabC_size, planeC_size] <;> omega) (whole (by simp only [fnC_size, cells_size, vecC_size, tabC_size, planeC_size]))) rfl fun a hF => ?_
  refine stR hF (d_buildC (vs := [(0, .agg (vecC v))]) 2 hM hF (build1 hF rfl) (fun w => ty_bsg_46_1 v w)) rfl ?_
  rintro _ w' a ⟨b3, rfl, hM, -⟩ hF
  change Mem w w' [some (b1, algC (p : Int) (n : Int) T f), some (b2, vecC v), some (b3, vecsC 1 (vAtL [v]))] [] at hM
  refine stR hF (d_call Try.call30 hF (.cons rfl (.cons rfl .nil)) ((CallsR.val (l01Code_ok (p : Int) (n : Int) T f b3 1 1 (vAtL [v]) _ (fun _ _ _ => hT _ _ _) (fun _ => hf _) hVb (by omega) (hM.row 2 rfl)) (congrArg (Value.int .i64) (if_pos hc))))) rfl ?_
  rintro _ w' a ⟨hx, rfl⟩ hF
  have hM := hM.ext hx
  refine st hF (g_assign hF rfl) rfl fun a hF => ?_
  refine wpList_nil ?_
  refine tN ?_
  refine sq ?_
  refine wp_region_lit ?_
  refine st hF (g_move hF rfl) rfl fun a hF => st hF (g_neq hF rfl rfl) rfl fun a hF => ?_
  refine wpList_nil ?_
  refine tN ?_
  refine c_kF hF rfl (by decide) ?_
  refine wp_skip ?_
  refine tN ?_
  refine sq ?_
  refine c_par 5 [] [.val (.agg (algC (p : Int) (n : Int) T f)), .val (.agg (vecC v)), .val (.agg (vecC v)), .val (.agg (vecC (timesS p n T (v) (v)))), .val (.agg (vecC v))] hmix rfl hF rfl hM ⟨fun a w gG hF hS hd => by have hM := hS.mem rfl; exact par_val hS rfl (g_loadAgg ty_ag_31 hF rfl (hM.row 0 rfl) (by simp only [fnC_size, cells_size, vecC_size, tabC_size, planeC_size] <;> omega) (whole cells_size)), fun a w gG hF hS hd => by have hM := hS.mem rfl; exact par_val hS rfl (g_loadAgg ty_ag_27 hF rfl (hM.row 1 rfl) (by simp only [fnC_size, cells_size, vecC_size, tabC_size, planeC_size] <;> omega) (whole (by simp only [fnC_size, cells_size, vecC_size, tabC_size, planeC_size]))), fun a w gG hF hS hd => by have hM := hS.mem rfl; exact par_val hS rfl (g_loadAgg ty_ag_27 hF rfl (hM.row 1 rfl) (by simp only [fnC_size, cells_size, vecC_size, tabC_size, planeC_size] <;> omega) (whole (by simp only [fnC_size, cells_size, vecC_size, tabC_size, planeC_size]))), fun a w gG hF hS hd => by have hF := hF.ext1 14 (hd 0 rfl rfl); have hF := hF.ext1 15 (hd 1 rfl rfl); have hF := hF.ext1 16 (hd 2 rfl rfl); exact par_call (by repeat constructor) hS rfl (d_call Try.call33 hF (.cons rfl (.cons rfl (.cons rfl .nil))) (l01Times_ok p n T f (v) (v) _ (by omega) (by omega) (by omega) (fun _ _ _ => hT _ _ _) (fun _ => by first | exact hv _ | exact hvt _ | exact hvs _ | exact hu _ | exact hT _ _ _ | exact hf _ | omega | (split <;> omega) | (dsimp only; split <;> omega) | assumption) (fun _ => by first | exact hv _ | exact hvt _ | exact hvs _ | exact hu _ | exact hT _ _ _ | exact hf _ | omega | (split <;> omega) | (dsimp only; split <;> omega) | assumption))), fun a w gG hF hS hd => by have hM := hS.mem rfl; exact par_val hS rfl (g_loadAgg ty_ag_27 hF rfl (hM.row 1 rfl) (by simp only [fnC_size, cells_size, vecC_size, tabC_size, planeC_size] <;> omega) (whole (by simp only [fnC_size, cells_size, vecC_size, tabC_size, planeC_size]))), trivial⟩ ?_
  intro a w' L hF hS hq
  have hF := hF.ext1 14 (hq 0 rfl rfl)
  have hF := hF.ext1 15 (hq 1 rfl rfl)
  have hF := hF.ext1 16 (hq 2 rfl rfl)
  have hF := hF.ext1 17 (hq 3 rfl rfl)
  have hF := hF.ext1 18 (hq 4 rfl rfl)
  have hM := hS.mem rfl
  change wpList Try.prog _ _ [_, _, _] _ _
  refine st hF (g_eqlA ty_eg_27 hF rfl rfl (eqAt_vec ty_ae_27 ty_ip_5 ty_on_5)) rfl fun a hF => st hF (g_assign hF rfl) rfl fun a hF => st hF (g_assign hF rfl) rfl fun a hF => ?_
  refine wpList_nil ?_
  refine tN ?_
  refine wp_ret ?_
  refine fin2 rfl hF.defers (res_tmp hF rfl) (res_tmp hF rfl) ⟨_, rfl, hM.below, ?_⟩
  show _ = _
  rfl

theorem IsIdempotentIA (p n : Int) (T : Nat → Nat → Nat → Nat) (f : Nat → Nat) (v : Nat → Nat) (w : World) (hT : ∀ i j k, T i j k ≤ 255) (hf : ∀ i, f i ≤ 255) (hv : ∀ i, v i ≤ 255) (hc : ¬ CodeP p n T f 1 (vAtL [v])) :
    CallsR Try.prog 15 #[.agg (algC p n T f), .agg (vecC v)] w (fun res _ => res = .tuple #[.bool false, .int .i64 1]) := by
  refine calls_fr [.agg (algC p n T f), .agg (vecC v)] Try.func15 rfl Try.ntmps15 rfl fun a hF => ?_
  have hM : Mem w w [none, none, none] [] := MemX.start w 3
  change Fr 17 a [(0, .agg (algC p n T f)), (1, .agg (vecC v))] at hF
  have hVb : ∀ i c, vAtL [v] i c ≤ 255 := vAtL_le (fun x hx => by simp at hx; subst hx <;> assumption)
  refine sq ?_
  refine wp_region_lit ?_
  refine stR hF (d_box 0 hM hF rfl) rfl ?_
  rintro _ w' a ⟨b1, rfl, hM, -⟩ hF
  change Mem w w' [some (b1, algC p n T f), none, none] [] at hM
  refine stR hF (d_box 1 hM hF rfl) rfl ?_
  rintro _ w' a ⟨b2, rfl, hM, -⟩ hF
  change Mem w w' [some (b1, algC p n T f), some (b2, vecC v), none] [] at hM
  refine st hF (g_assign hF rfl) rfl fun a hF => st hF (g_assign hF rfl) rfl fun a hF => ?_
  refine wpList_nil ?_
  refine tN ?_
  refine sq ?_
  refine sq ?_
  refine wp_region_lit ?_
  refine st hF (g_loadAgg ty_ag_31 hF rfl (hM.row 0 rfl) (by simp only [fnC_size, cells_size, vecC_size, tabC_size, planeC_size] <;> omega) (whole cells_size)) rfl fun a hF => st hF (g_loadAgg ty_ag_27 hF rfl (hM.row 1 rfl) (by simp only [fnC_size, cells_size, vecC_size, tabC_size, planeC_size] <;> omega) (whole (by simp only [fnC_size, cells_size, vecC_size, tabC_size, planeC_size]))) rfl fun a hF => ?_
  refine stR hF (d_buildC (vs := [(0, .agg (vecC v))]) 2 hM hF (build1 hF rfl) (fun w => ty_bsg_46_1 v w)) rfl ?_
  rintro _ w' a ⟨b3, rfl, hM, -⟩ hF
  change Mem w w' [some (b1, algC p n T f), some (b2, vecC v), some (b3, vecsC 1 (vAtL [v]))] [] at hM
  refine stR hF (d_call Try.call35 hF (.cons rfl (.cons rfl .nil)) ((CallsR.val (areVectors_ok p n T f b3 1 1 (vAtL [v]) _ (fun _ _ _ => hT _ _ _) (fun _ => hf _) hVb (by omega) (hM.row 2 rfl)) (congrArg Value.bool (decide_eq_false hc))))) rfl ?_
  rintro _ w' a ⟨hx, rfl⟩ hF
  have hM := hM.ext hx
  refine st hF (g_not hF rfl) rfl fun a hF => ?_
  refine wpList_nil ?_
  refine tN ?_
  refine c_T hF rfl ?_
  refine sq ?_
  refine wp_region_lit ?_
  refine st hF (g_assign hF rfl) rfl fun a hF => st hF (g_assign hF rfl) rfl fun a hF => ?_
  refine wpList_nil ?_
  refine tN ?_
  refine wp_ret ?_
  refine tR ?_
  refine fin2 rfl hF.defers (res_tmp hF rfl) (res_tmp hF rfl) ⟨_, rfl, hM.below, ?_⟩
  show _ = _
  rfl

theorem IsIdempotentIB (p n : Nat) (T : Nat → Nat → Nat → Nat) (f : Nat → Nat) (v : Nat → Nat) (w : World) (hp : primeN p) (hn0 : 0 < n) (hn : n ≤ 6) (hTp : ∀ i j k, T i j k < p) (hT0 : ∀ i j k, n ≤ k → T i j k = 0) (hf : ∀ i, f i ≤ 255) (hv : ∀ i, v i ≤ 255) (hc : CodeP (p : Int) (n : Int) T f 1 (vAtL [v])) :
    CallsR Try.prog 15 #[.agg (algC (p : Int) (n : Int) T f), .agg (vecC v)] w (fun res _ => res = .tuple #[.bool (decide (eqV 6 (timesV p n T v v) (v))), .int .i64 0]) := by
  refine calls_fr [.agg (algC (p : Int) (n : Int) T f), .agg (vecC v)] Try.func15 rfl Try.ntmps15 rfl fun a hF => ?_
  have hM : Mem w w [none, none, none] [] := MemX.start w 3
  change Fr 17 a [(0, .agg (algC (p : Int) (n : Int) T f)), (1, .agg (vecC v))] at hF
  have hp2 := hp.two
  have hp13 := hp.le
  have hT : ∀ i j k, T i j k ≤ 255 := fun i j k => by have := hTp i j k; omega
  have hVb : ∀ i c, vAtL [v] i c ≤ 255 := vAtL_le (fun x hx => by simp at hx; subst hx <;> assumption)
  have hvt : ∀ c, timesV p n T v v c ≤ 255 := fun c => timesV_le (by omega) (by omega) v v c
  have hvs : ∀ c, timesS p n T v v c ≤ 255 := fun c => by rw [← times_eq hT0]; exact hvt c
  refine sq ?_
  refine wp_region_lit ?_
  refine stR hF (d_box 0 hM hF rfl) rfl ?_
  rintro _ w' a ⟨b1, rfl, hM, -⟩ hF
  change Mem w w' [some (b1, algC (p : Int) (n : Int) T f), none, none] [] at hM
  refine stR hF (d_box 1 hM hF rfl) rfl ?_
  rintro _ w' a ⟨b2, rfl, hM, -⟩ hF
  change Mem w w' [some (b1, algC (p : Int) (n : Int) T f), some (b2, vecC v), none] [] at hM
  refine st hF (g_assign hF rfl) rfl fun a hF => st hF (g_assign hF rfl) rfl fun a hF => ?_
  refine wpList_nil ?_
  refine tN ?_
  refine sq ?_
  refine sq ?_
  refine wp_region_lit ?_
  refine st hF (g_loadAgg ty_ag_31 hF rfl (hM.row 0 rfl) (by simp only [fnC_size, cells_size, vecC_size, tabC_size, planeC_size] <;> omega) (whole cells_size)) rfl fun a hF => st hF (g_loadAgg ty_ag_27 hF rfl (hM.row 1 rfl) (by simp only [fnC_size, cells_size, vecC_size, tabC_size, planeC_size] <;> omega) (whole (by simp only [fnC_size, cells_size, vecC_size, tabC_size, planeC_size]))) rfl fun a hF => ?_
  refine stR hF (d_buildC (vs := [(0, .agg (vecC v))]) 2 hM hF (build1 hF rfl) (fun w => ty_bsg_46_1 v w)) rfl ?_
  rintro _ w' a ⟨b3, rfl, hM, -⟩ hF
  change Mem w w' [some (b1, algC (p : Int) (n : Int) T f), some (b2, vecC v), some (b3, vecsC 1 (vAtL [v]))] [] at hM
  refine stR hF (d_call Try.call35 hF (.cons rfl (.cons rfl .nil)) ((CallsR.val (areVectors_ok (p : Int) (n : Int) T f b3 1 1 (vAtL [v]) _ (fun _ _ _ => hT _ _ _) (fun _ => hf _) hVb (by omega) (hM.row 2 rfl)) (congrArg Value.bool (decide_eq_true hc))))) rfl ?_
  rintro _ w' a ⟨hx, rfl⟩ hF
  have hM := hM.ext hx
  refine st hF (g_not hF rfl) rfl fun a hF => ?_
  refine wpList_nil ?_
  refine tN ?_
  refine c_Fl hF rfl ?_
  refine wp_skip ?_
  refine tN ?_
  refine sq ?_
  refine c_par 5 [] [.val (.agg (algC (p : Int) (n : Int) T f)), .val (.agg (vecC v)), .val (.agg (vecC v)), .val (.agg (vecC (timesV p n T (v) (v)))), .val (.agg (vecC v))] hmix rfl hF rfl hM ⟨fun a w gG hF hS hd => by have hM := hS.mem rfl; exact par_val hS rfl (g_loadAgg ty_ag_31 hF rfl (hM.row 0 rfl) (by simp only [fnC_size, cells_size, vecC_size, tabC_size, planeC_size] <;> omega) (whole cells_size)), fun a w gG hF hS hd => by have hM := hS.mem rfl; exact par_val hS rfl (g_loadAgg ty_ag_27 hF rfl (hM.row 1 rfl) (by simp only [fnC_size, cells_size, vecC_size, tabC_size, planeC_size] <;> omega) (whole (by simp only [fnC_size, cells_size, vecC_size, tabC_size, planeC_size]))), fun a w gG hF hS hd => by have hM := hS.mem rfl; exact par_val hS rfl (g_loadAgg ty_ag_27 hF rfl (hM.row 1 rfl) (by simp only [fnC_size, cells_size, vecC_size, tabC_size, planeC_size] <;> omega) (whole (by simp only [fnC_size, cells_size, vecC_size, tabC_size, planeC_size]))), fun a w gG hF hS hd => by have hF := hF.ext1 11 (hd 0 rfl rfl); have hF := hF.ext1 12 (hd 1 rfl rfl); have hF := hF.ext1 13 (hd 2 rfl rfl); exact par_call (by repeat constructor) hS rfl (d_call Try.call37 hF (.cons rfl (.cons rfl (.cons rfl .nil))) (product_ok p n T f (v) (v) _ (by omega) (by omega) (by omega) (fun _ _ _ => hT _ _ _) (fun _ => by first | exact hv _ | exact hvt _ | exact hvs _ | exact hu _ | exact hT _ _ _ | exact hf _ | omega | (split <;> omega) | (dsimp only; split <;> omega) | assumption) (fun _ => by first | exact hv _ | exact hvt _ | exact hvs _ | exact hu _ | exact hT _ _ _ | exact hf _ | omega | (split <;> omega) | (dsimp only; split <;> omega) | assumption))), fun a w gG hF hS hd => by have hM := hS.mem rfl; exact par_val hS rfl (g_loadAgg ty_ag_27 hF rfl (hM.row 1 rfl) (by simp only [fnC_size, cells_size, vecC_size, tabC_size, planeC_size] <;> omega) (whole (by simp only [fnC_size, cells_size, vecC_size, tabC_size, planeC_size]))), trivial⟩ ?_
  intro a w' L hF hS hq
  have hF := hF.ext1 11 (hq 0 rfl rfl)
  have hF := hF.ext1 12 (hq 1 rfl rfl)
  have hF := hF.ext1 13 (hq 2 rfl rfl)
  have hF := hF.ext1 14 (hq 3 rfl rfl)
  have hF := hF.ext1 15 (hq 4 rfl rfl)
  have hM := hS.mem rfl
  change wpList Try.prog _ _ [_, _, _] _ _
  refine st hF (g_eqlA ty_eg_27 hF rfl rfl (eqAt_vec ty_ae_27 ty_ip_5 ty_on_5)) rfl fun a hF => st hF (g_assign hF rfl) rfl fun a hF => st hF (g_assign hF rfl) rfl fun a hF => ?_
  refine wpList_nil ?_
  refine tN ?_
  refine wp_ret ?_
  refine fin2 rfl hF.defers (res_tmp hF rfl) (res_tmp hF rfl) ⟨_, rfl, hM.below, ?_⟩
  show _ = _
  rfl

theorem law_IsIdempotentA (p n : Int) (T : Nat → Nat → Nat → Nat) (f : Nat → Nat) (v : Nat → Nat) (w : World) (hT : ∀ i j k, T i j k ≤ 255) (hf : ∀ i, f i ≤ 255) (hv : ∀ i, v i ≤ 255) (hc : ¬ CodeP p n T f 1 (vAtL [v])) :
    CallsR Try.prog 4 #[.agg (algC p n T f), .agg (vecC v)] w (fun res _ => res = .bool true) := by
  refine calls_fr [.agg (algC p n T f), .agg (vecC v)] Try.func4 rfl Try.ntmps4 rfl fun a hF => ?_
  have hM : Mem w w [none, none] [] := MemX.start w 2
  change Fr 33 a [(0, .agg (algC p n T f)), (1, .agg (vecC v))] at hF
  have eqlaw : eqV 6 (fun _ => 0) (fun _ => 0) := fun _ _ => rfl
  refine sq ?_
  refine wp_region_lit ?_
  refine stR hF (d_box 0 hM hF rfl) rfl ?_
  rintro _ w' a ⟨b1, rfl, hM, -⟩ hF
  change Mem w w' [some (b1, algC p n T f), none] [] at hM
  refine stR hF (d_box 1 hM hF rfl) rfl ?_
  rintro _ w' a ⟨b2, rfl, hM, -⟩ hF
  change Mem w w' [some (b1, algC p n T f), some (b2, vecC v)] [] at hM
  refine st hF (g_assign hF rfl) rfl fun a hF => ?_
  refine wpList_nil ?_
  refine tN ?_
  refine sq ?_
  refine c_par 9 [] [.val (.agg (algC p n T f)), .val (.agg (algC p n T f)), .val (.agg (vecC v)), .val (.agg (vecC v)), .val (.tuple #[.bool (false), .int .i64 (1)]), .val (.tuple #[.bool (false), .int .i64 (1)]), .val (.bool (false)), .val (.int .i64 (1)), .val (.bool (false))] hmix rfl hF rfl hM ⟨fun a w gG hF hS hd => by have hM := hS.mem rfl; exact par_val hS rfl (g_loadAgg ty_ag_26 hF rfl (hM.row 0 rfl) (by simp only [fnC_size, cells_size, vecC_size, tabC_size, planeC_size] <;> omega) (whole cells_size)), fun a w gG hF hS hd => by have hF := hF.ext1 10 (hd 0 rfl rfl); exact par_call (by repeat constructor) hS rfl (d_call Try.call10 hF (.cons rfl .nil) (toAlgebra_ok p n T f _)), fun a w gG hF hS hd => by have hM := hS.mem rfl; exact par_val hS rfl (g_loadAgg ty_ag_22 hF rfl (hM.row 1 rfl) (by simp only [fnC_size, cells_size, vecC_size, tabC_size, planeC_size] <;> omega) (whole (by simp only [fnC_size, cells_size, vecC_size, tabC_size, planeC_size]))), fun a w gG hF hS hd => by have hF := hF.ext1 12 (hd 2 rfl rfl); exact par_call (by repeat constructor) hS rfl (d_call Try.call11 hF (.cons rfl .nil) (toVector_ok v _)), fun a w gG hF hS hd => by have hF := hF.ext1 11 (hd 1 rfl rfl); have hF := hF.ext1 13 (hd 3 rfl rfl); exact par_call (by repeat constructor) hS rfl (d_call Try.call14 hF (.cons rfl (.cons rfl .nil)) (IsIdempotentSA p n T f v _ hT hf hv  hc)), fun a w gG hF hS hd => by have hF := hF.ext1 14 (hd 4 rfl rfl); exact par_val hS rfl (g_move hF rfl), fun a w gG hF hS hd => by have hF := hF.ext1 9 (hd 5 rfl rfl); exact par_val hS rfl (g_extract hF rfl rfl), fun a w gG hF hS hd => by have hF := hF.ext1 9 (hd 5 rfl rfl); exact par_val hS rfl (g_extract hF rfl rfl), fun a w gG hF hS hd => by have hF := hF.ext1 15 (hd 6 rfl rfl); exact par_val hS rfl (g_assign hF rfl), trivial⟩ ?_
  intro a w' L hF hS hq
  have hF := hF.ext1 10 (hq 0 rfl rfl)
  have hF := hF.ext1 11 (hq 1 rfl rfl)
  have hF := hF.ext1 12 (hq 2 rfl rfl)
  have hF := hF.ext1 13 (hq 3 rfl rfl)
  have hF := hF.ext1 14 (hq 4 rfl rfl)
  have hF := hF.ext1 9 (hq 5 rfl rfl)
  have hF := hF.ext1 15 (hq 6 rfl rfl)
  have hF := hF.ext1 16 (hq 7 rfl rfl)
  have hF := hF.ext1 5 (hq 8 rfl rfl)
  have hM := hS.mem rfl
  change wpList Try.prog _ _ [_] _ _
  refine st hF (g_assign hF rfl) rfl fun a hF => ?_
  refine wpList_nil ?_
  refine tN ?_
  refine sq ?_
  refine c_par 9 [] [.val (.agg (algC p n T f)), .val (.agg (algC p n T f)), .val (.agg (vecC v)), .val (.agg (vecC v)), .val (.tuple #[.bool (false), .int .i64 (1)]), .val (.tuple #[.bool (false), .int .i64 (1)]), .val (.bool (false)), .val (.int .i64 (1)), .val (.bool (false))] hmix rfl hF rfl hM ⟨fun a w gG hF hS hd => by have hM := hS.mem rfl; exact par_val hS rfl (g_loadAgg ty_ag_26 hF rfl (hM.row 0 rfl) (by simp only [fnC_size, cells_size, vecC_size, tabC_size, planeC_size] <;> omega) (whole cells_size)), fun a w gG hF hS hd => by have hF := hF.ext1 18 (hd 0 rfl rfl); exact par_call (by repeat constructor) hS rfl (d_call Try.call10 hF (.cons rfl .nil) (toAlgebra_ok p n T f _)), fun a w gG hF hS hd => by have hM := hS.mem rfl; exact par_val hS rfl (g_loadAgg ty_ag_22 hF rfl (hM.row 1 rfl) (by simp only [fnC_size, cells_size, vecC_size, tabC_size, planeC_size] <;> omega) (whole (by simp only [fnC_size, cells_size, vecC_size, tabC_size, planeC_size]))), fun a w gG hF hS hd => by have hF := hF.ext1 20 (hd 2 rfl rfl); exact par_call (by repeat constructor) hS rfl (d_call Try.call11 hF (.cons rfl .nil) (toVector_ok v _)), fun a w gG hF hS hd => by have hF := hF.ext1 19 (hd 1 rfl rfl); have hF := hF.ext1 21 (hd 3 rfl rfl); exact par_call (by repeat constructor) hS rfl (d_call Try.call15 hF (.cons rfl (.cons rfl .nil)) (IsIdempotentIA p n T f v _ hT hf hv  hc)), fun a w gG hF hS hd => by have hF := hF.ext1 22 (hd 4 rfl rfl); exact par_val hS rfl (g_move hF rfl), fun a w gG hF hS hd => by have hF := hF.ext1 17 (hd 5 rfl rfl); exact par_val hS rfl (g_extract hF rfl rfl), fun a w gG hF hS hd => by have hF := hF.ext1 17 (hd 5 rfl rfl); exact par_val hS rfl (g_extract hF rfl rfl), fun a w gG hF hS hd => by have hF := hF.ext1 23 (hd 6 rfl rfl); exact par_val hS rfl (g_assign hF rfl), trivial⟩ ?_
  intro a w' L hF hS hq
  have hF := hF.ext1 18 (hq 0 rfl rfl)
  have hF := hF.ext1 19 (hq 1 rfl rfl)
  have hF := hF.ext1 20 (hq 2 rfl rfl)
  have hF := hF.ext1 21 (hq 3 rfl rfl)
  have hF := hF.ext1 22 (hq 4 rfl rfl)
  have hF := hF.ext1 17 (hq 5 rfl rfl)
  have hF := hF.ext1 23 (hq 6 rfl rfl)
  have hF := hF.ext1 24 (hq 7 rfl rfl)
  have hF := hF.ext1 7 (hq 8 rfl rfl)
  have hM := hS.mem rfl
  change wpList Try.prog _ _ [_] _ _
  refine st hF (g_assign hF rfl) rfl fun a hF => ?_
  refine wpList_nil ?_
  refine tN ?_
  refine sq ?_
  refine sq ?_
  refine wp_region_lit ?_
  refine st hF (g_move hF rfl) rfl fun a hF => st hF (g_move hF rfl) rfl fun a hF => st hF (g_neqBo ty_ub_4 hF rfl rfl) rfl fun a hF => st hF (g_move hF rfl) rfl fun a hF => ?_
  by_cases g3 : (false : Bool) ≠ (false : Bool)
  ·
    first | rw [decide_eq_true g3] at hF | simp only [decide_eq_true g3] at hF
    first | exact absurd rfl g3 | exact absurd eqlaw g3 | exact absurd (by exact ⟨rfl, rfl, fun _ _ _ _ _ _ => rfl, fun _ _ => rfl⟩) g3 | (exfalso; omega)
  ·
    first | rw [decide_eq_false g3] at hF | simp only [decide_eq_false g3] at hF
    refine stY hF rfl rfl rfl (g_move hF rfl) rfl fun a hF => stY hF rfl rfl rfl (g_move hF rfl) rfl fun a hF => stY hF rfl rfl rfl (g_neq hF rfl rfl) rfl fun a hF => st hF (g_pickF hF rfl rfl) rfl fun a hF => ?_
    refine wpList_nil ?_
    refine tN ?_
    refine c_kF hF rfl (by decide) ?_
    refine wp_skip ?_
    refine tN ?_
    refine sq ?_
    refine wp_region_lit ?_
    refine st hF (g_assign hF rfl) rfl fun a hF => ?_
    refine wpList_nil ?_
    refine tN ?_
    refine wp_ret ?_
    refine fin1 rfl hF.defers (res_tmp hF rfl) ⟨_, rfl, hM.below, ?_⟩
    show _ = _
    rfl

theorem law_IsIdempotentB (p n : Nat) (T : Nat → Nat → Nat → Nat) (f : Nat → Nat) (v : Nat → Nat) (w : World) (hp : primeN p) (hn0 : 0 < n) (hn : n ≤ 6) (hTp : ∀ i j k, T i j k < p) (hT0 : ∀ i j k, n ≤ k → T i j k = 0) (hf : ∀ i, f i ≤ 255) (hv : ∀ i, v i ≤ 255) (hc : CodeP (p : Int) (n : Int) T f 1 (vAtL [v])) :
    CallsR Try.prog 4 #[.agg (algC (p : Int) (n : Int) T f), .agg (vecC v)] w (fun res _ => res = .bool true) := by
  refine calls_fr [.agg (algC (p : Int) (n : Int) T f), .agg (vecC v)] Try.func4 rfl Try.ntmps4 rfl fun a hF => ?_
  have hM : Mem w w [none, none] [] := MemX.start w 2
  change Fr 33 a [(0, .agg (algC (p : Int) (n : Int) T f)), (1, .agg (vecC v))] at hF
  have hp2 := hp.two
  have hp13 := hp.le
  have hT : ∀ i j k, T i j k ≤ 255 := fun i j k => by have := hTp i j k; omega
  have eqlaw : (decide (eqV 6 (timesV p n T v v) (v)) : Bool) = decide (eqV 6 (timesS p n T v v) (v)) := by simp only [times_eq hT0]
  refine sq ?_
  refine wp_region_lit ?_
  refine stR hF (d_box 0 hM hF rfl) rfl ?_
  rintro _ w' a ⟨b1, rfl, hM, -⟩ hF
  change Mem w w' [some (b1, algC (p : Int) (n : Int) T f), none] [] at hM
  refine stR hF (d_box 1 hM hF rfl) rfl ?_
  rintro _ w' a ⟨b2, rfl, hM, -⟩ hF
  change Mem w w' [some (b1, algC (p : Int) (n : Int) T f), some (b2, vecC v)] [] at hM
  refine st hF (g_assign hF rfl) rfl fun a hF => ?_
  refine wpList_nil ?_
  refine tN ?_
  refine sq ?_
  refine c_par 9 [] [.val (.agg (algC (p : Int) (n : Int) T f)), .val (.agg (algC (p : Int) (n : Int) T f)), .val (.agg (vecC v)), .val (.agg (vecC v)), .val (.tuple #[.bool (decide (eqV 6 (timesS p n T v v) (v))), .int .i64 (0)]), .val (.tuple #[.bool (decide (eqV 6 (timesS p n T v v) (v))), .int .i64 (0)]), .val (.bool (decide (eqV 6 (timesS p n T v v) (v)))), .val (.int .i64 (0)), .val (.bool (decide (eqV 6 (timesS p n T v v) (v))))] hmix rfl hF rfl hM ⟨fun a w gG hF hS hd => by have hM := hS.mem rfl; exact par_val hS rfl (g_loadAgg ty_ag_26 hF rfl (hM.row 0 rfl) (by simp only [fnC_size, cells_size, vecC_size, tabC_size, planeC_size] <;> omega) (whole cells_size)), fun a w gG hF hS hd => by have hF := hF.ext1 10 (hd 0 rfl rfl); exact par_call (by repeat constructor) hS rfl (d_call Try.call10 hF (.cons rfl .nil) (toAlgebra_ok (p : Int) (n : Int) T f _)), fun a w gG hF hS hd => by have hM := hS.mem rfl; exact par_val hS rfl (g_loadAgg ty_ag_22 hF rfl (hM.row 1 rfl) (by simp only [fnC_size, cells_size, vecC_size, tabC_size, planeC_size] <;> omega) (whole (by simp only [fnC_size, cells_size, vecC_size, tabC_size, planeC_size]))), fun a w gG hF hS hd => by have hF := hF.ext1 12 (hd 2 rfl rfl); exact par_call (by repeat constructor) hS rfl (d_call Try.call11 hF (.cons rfl .nil) (toVector_ok v _)), fun a w gG hF hS hd => by have hF := hF.ext1 11 (hd 1 rfl rfl); have hF := hF.ext1 13 (hd 3 rfl rfl); exact par_call (by repeat constructor) hS rfl (d_call Try.call14 hF (.cons rfl (.cons rfl .nil)) (IsIdempotentSB p n T f v _ hp hn0 hn hTp hT0 hf hv  hc)), fun a w gG hF hS hd => by have hF := hF.ext1 14 (hd 4 rfl rfl); exact par_val hS rfl (g_move hF rfl), fun a w gG hF hS hd => by have hF := hF.ext1 9 (hd 5 rfl rfl); exact par_val hS rfl (g_extract hF rfl rfl), fun a w gG hF hS hd => by have hF := hF.ext1 9 (hd 5 rfl rfl); exact par_val hS rfl (g_extract hF rfl rfl), fun a w gG hF hS hd => by have hF := hF.ext1 15 (hd 6 rfl rfl); exact par_val hS rfl (g_assign hF rfl), trivial⟩ ?_
  intro a w' L hF hS hq
  have hF := hF.ext1 10 (hq 0 rfl rfl)
  have hF := hF.ext1 11 (hq 1 rfl rfl)
  have hF := hF.ext1 12 (hq 2 rfl rfl)
  have hF := hF.ext1 13 (hq 3 rfl rfl)
  have hF := hF.ext1 14 (hq 4 rfl rfl)
  have hF := hF.ext1 9 (hq 5 rfl rfl)
  have hF := hF.ext1 15 (hq 6 rfl rfl)
  have hF := hF.ext1 16 (hq 7 rfl rfl)
  have hF := hF.ext1 5 (hq 8 rfl rfl)
  have hM := hS.mem rfl
  change wpList Try.prog _ _ [_] _ _
  refine st hF (g_assign hF rfl) rfl fun a hF => ?_
  refine wpList_nil ?_
  refine tN ?_
  refine sq ?_
  refine c_par 9 [] [.val (.agg (algC (p : Int) (n : Int) T f)), .val (.agg (algC (p : Int) (n : Int) T f)), .val (.agg (vecC v)), .val (.agg (vecC v)), .val (.tuple #[.bool (decide (eqV 6 (timesV p n T v v) (v))), .int .i64 (0)]), .val (.tuple #[.bool (decide (eqV 6 (timesV p n T v v) (v))), .int .i64 (0)]), .val (.bool (decide (eqV 6 (timesV p n T v v) (v)))), .val (.int .i64 (0)), .val (.bool (decide (eqV 6 (timesV p n T v v) (v))))] hmix rfl hF rfl hM ⟨fun a w gG hF hS hd => by have hM := hS.mem rfl; exact par_val hS rfl (g_loadAgg ty_ag_26 hF rfl (hM.row 0 rfl) (by simp only [fnC_size, cells_size, vecC_size, tabC_size, planeC_size] <;> omega) (whole cells_size)), fun a w gG hF hS hd => by have hF := hF.ext1 18 (hd 0 rfl rfl); exact par_call (by repeat constructor) hS rfl (d_call Try.call10 hF (.cons rfl .nil) (toAlgebra_ok (p : Int) (n : Int) T f _)), fun a w gG hF hS hd => by have hM := hS.mem rfl; exact par_val hS rfl (g_loadAgg ty_ag_22 hF rfl (hM.row 1 rfl) (by simp only [fnC_size, cells_size, vecC_size, tabC_size, planeC_size] <;> omega) (whole (by simp only [fnC_size, cells_size, vecC_size, tabC_size, planeC_size]))), fun a w gG hF hS hd => by have hF := hF.ext1 20 (hd 2 rfl rfl); exact par_call (by repeat constructor) hS rfl (d_call Try.call11 hF (.cons rfl .nil) (toVector_ok v _)), fun a w gG hF hS hd => by have hF := hF.ext1 19 (hd 1 rfl rfl); have hF := hF.ext1 21 (hd 3 rfl rfl); exact par_call (by repeat constructor) hS rfl (d_call Try.call15 hF (.cons rfl (.cons rfl .nil)) (IsIdempotentIB p n T f v _ hp hn0 hn hTp hT0 hf hv  hc)), fun a w gG hF hS hd => by have hF := hF.ext1 22 (hd 4 rfl rfl); exact par_val hS rfl (g_move hF rfl), fun a w gG hF hS hd => by have hF := hF.ext1 17 (hd 5 rfl rfl); exact par_val hS rfl (g_extract hF rfl rfl), fun a w gG hF hS hd => by have hF := hF.ext1 17 (hd 5 rfl rfl); exact par_val hS rfl (g_extract hF rfl rfl), fun a w gG hF hS hd => by have hF := hF.ext1 23 (hd 6 rfl rfl); exact par_val hS rfl (g_assign hF rfl), trivial⟩ ?_
  intro a w' L hF hS hq
  have hF := hF.ext1 18 (hq 0 rfl rfl)
  have hF := hF.ext1 19 (hq 1 rfl rfl)
  have hF := hF.ext1 20 (hq 2 rfl rfl)
  have hF := hF.ext1 21 (hq 3 rfl rfl)
  have hF := hF.ext1 22 (hq 4 rfl rfl)
  have hF := hF.ext1 17 (hq 5 rfl rfl)
  have hF := hF.ext1 23 (hq 6 rfl rfl)
  have hF := hF.ext1 24 (hq 7 rfl rfl)
  have hF := hF.ext1 7 (hq 8 rfl rfl)
  have hM := hS.mem rfl
  change wpList Try.prog _ _ [_] _ _
  refine st hF (g_assign hF rfl) rfl fun a hF => ?_
  refine wpList_nil ?_
  refine tN ?_
  refine sq ?_
  refine sq ?_
  refine wp_region_lit ?_
  refine st hF (g_move hF rfl) rfl fun a hF => st hF (g_move hF rfl) rfl fun a hF => st hF (g_neqBo ty_ub_4 hF rfl rfl) rfl fun a hF => st hF (g_move hF rfl) rfl fun a hF => ?_
  by_cases g3 : (decide (eqV 6 (timesV p n T v v) (v)) : Bool) ≠ (decide (eqV 6 (timesS p n T v v) (v)) : Bool)
  ·
    first | rw [decide_eq_true g3] at hF | simp only [decide_eq_true g3] at hF
    first | exact absurd rfl g3 | exact absurd eqlaw g3 | exact absurd (by exact ⟨rfl, rfl, fun _ _ _ _ _ _ => rfl, fun _ _ => rfl⟩) g3 | (exfalso; omega)
  ·
    first | rw [decide_eq_false g3] at hF | simp only [decide_eq_false g3] at hF
    refine stY hF rfl rfl rfl (g_move hF rfl) rfl fun a hF => stY hF rfl rfl rfl (g_move hF rfl) rfl fun a hF => stY hF rfl rfl rfl (g_neq hF rfl rfl) rfl fun a hF => st hF (g_pickF hF rfl rfl) rfl fun a hF => ?_
    refine wpList_nil ?_
    refine tN ?_
    refine c_kF hF rfl (by decide) ?_
    refine wp_skip ?_
    refine tN ?_
    refine sq ?_
    refine wp_region_lit ?_
    refine st hF (g_assign hF rfl) rfl fun a hF => ?_
    refine wpList_nil ?_
    refine tN ?_
    refine wp_ret ?_
    refine fin1 rfl hF.defers (res_tmp hF rfl) ⟨_, rfl, hM.below, ?_⟩
    show _ = _
    rfl

theorem law_IsIdempotent (p n : Int) (T : Nat → Nat → Nat → Nat) (f : Nat → Nat) (v : Nat → Nat) (w : World) (hT : ∀ i j k, T i j k ≤ 255) (hf : ∀ i, f i ≤ 255) (hv : ∀ i, v i ≤ 255) : CallsV Try.prog 4 #[.agg (algC p n T f), .agg (vecC v)] w (.bool true) := by
  by_cases hc : CodeP p n T f 1 (vAtL [v])
  · have hs := hc.1.1
    have hp0 := primeP_pos hs.1
    have hn := hs.2.1
    have e1 : ((p.toNat : Nat) : Int) = p := by omega
    have e2 : ((n.toNat : Nat) : Int) = n := by omega
    have h := law_IsIdempotentB p.toNat n.toNat (trunc n.toNat T) f v w (primeN_of hs.1) (by omega) (by omega) (trunc_lt hs) trunc_out hf hv (by rw [e1, e2]; exact code_trunc hc)
    rw [e1, e2, ← algC_trunc hs] at h
    exact h
  · exact law_IsIdempotentA p n T f v w hT hf hv hc

end Go.Proofs.Ytficgmohfabplaa
