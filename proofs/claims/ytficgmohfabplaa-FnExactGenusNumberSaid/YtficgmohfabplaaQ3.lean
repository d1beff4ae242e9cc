/- What functions of the program return, as walks over their operations; no statement of the seat is proved here. -/
import Derived.Test.YtficgmohfabplaaTF
import Derived.Test.YtficgmohfabplaaQ2
set_option linter.unusedVariables false
set_option linter.unusedSimpArgs false
namespace Go.Proofs.Ytficgmohfabplaa
open Go Go.RowKit Go.Sw Go.Ech
open Classical
theorem ty_bs0_46 : ∀ w, (Instr.buildSlice 46 0 #[]).run Try.prog w = .ok (.slice (some ⟨w.heap.size, 0, none⟩) 0 0) (w.alloc (.cells #[] 27)) := by intros; kernel_rfl
theorem GenusNumberS_A (p n : Int) (T : Nat → Nat → Nat → Nat) (f : Nat → Nat) (x : Int) (w : World) (hT : ∀ i j k, T i j k ≤ 255) (hf : ∀ i, f i ≤ 255) (hc : ¬ CodeP p n T f 0 (vAtL [])) :
    CallsR Try.prog 18 #[.agg (algC p n T f), .int .i64 (x)] w (fun res _ => res = .tuple #[.int .i64 (0), .int .i64 (1)]) := by
  refine calls_fr [.agg (algC p n T f), .int .i64 (x)] Try.func18 rfl Try.ntmps18 rfl fun a hF => ?_
  have hM : Mem w w [none, none] [] := MemX.start w 2
  change Fr 17 a [(0, .agg (algC p n T f)), (1, .int .i64 (x))] at hF
  refine sq ?_
  refine wp_region_lit ?_
  refine stR hF (d_box 0 hM hF rfl) rfl ?_
  rintro _ w' a ⟨b1, rfl, hM, -⟩ hF
  change Mem w w' [some (b1, algC p n T f), none] [] at hM
  refine st hF (g_assign hF rfl) rfl fun a hF => st hF (g_assign hF rfl) rfl fun a hF => ?_
  refine wpList_nil ?_
  refine tN ?_
  refine sq ?_
  refine wp_region_lit ?_
  refine st hF (g_loadAgg ty_ag_31 hF rfl (hM.row 0 rfl) (by simp only [fnC_size, cells_size, vecC_size, tabC_size, planeC_size] <;> omega) (whole cells_size)) rfl fun a hF => st hF (g_move hF rfl) rfl fun a hF => ?_
  refine stR hF (d_buildC 1 hM hF rfl ty_bs0_46) rfl ?_
  rintro _ w' a ⟨b2, rfl, hM, -⟩ hF
  change Mem w w' [some (b1, algC p n T f), some (b2, #[])] [] at hM
  refine stR hF (d_call Try.call39 hF (.cons rfl (.cons rfl (.cons rfl .nil))) (l02Number_A p n T f b2 0 0 (vAtL []) (x) _ hT hf (fun _ _ => by simp [vAtL]) (by omega) (hM.row 1 rfl) hc)) rfl ?_
  rintro _ w' a ⟨hx, rfl⟩ hF
  have hM := hM.ext hx
  refine st hF (g_move hF rfl) rfl fun a hF => st hF (g_extract hF rfl rfl) rfl fun a hF => st hF (g_extract hF rfl rfl) rfl fun a hF => st hF (g_assign hF rfl) rfl fun a hF => st hF (g_assign hF rfl) rfl fun a hF => ?_
  refine wpList_nil ?_
  refine tN ?_
  refine sq ?_
  refine wp_region_lit ?_
  refine st hF (g_move hF rfl) rfl fun a hF => st hF (g_move hF rfl) rfl fun a hF => st hF (g_assign hF rfl) rfl fun a hF => st hF (g_assign hF rfl) rfl fun a hF => ?_
  refine wpList_nil ?_
  refine tN ?_
  refine wp_ret ?_
  refine fin2 rfl hF.defers (res_tmp hF rfl) (res_tmp hF rfl) ⟨_, rfl, hM.below, ?_⟩
  show _ = _
  rfl

theorem GenusNumberI_A (p n : Int) (T : Nat → Nat → Nat → Nat) (f : Nat → Nat) (x : Int) (w : World) (hT : ∀ i j k, T i j k ≤ 255) (hf : ∀ i, f i ≤ 255) (hc : ¬ CodeP p n T f 0 (vAtL [])) :
    CallsR Try.prog 19 #[.agg (algC p n T f), .int .i64 (x)] w (fun res _ => res = .tuple #[.int .i64 (0), .int .i64 (1)]) := by
  refine calls_fr [.agg (algC p n T f), .int .i64 (x)] Try.func19 rfl Try.ntmps19 rfl fun a hF => ?_
  have hM : Mem w w [none] [] := MemX.start w 1
  change Fr 11 a [(0, .agg (algC p n T f)), (1, .int .i64 (x))] at hF
  refine sq ?_
  refine wp_region_lit ?_
  refine stR hF (d_box 0 hM hF rfl) rfl ?_
  rintro _ w' a ⟨b1, rfl, hM, -⟩ hF
  change Mem w w' [some (b1, algC p n T f)] [] at hM
  refine st hF (g_assign hF rfl) rfl fun a hF => st hF (g_assign hF rfl) rfl fun a hF => ?_
  refine wpList_nil ?_
  refine tN ?_
  refine sq ?_
  refine wp_region_lit ?_
  refine st hF (g_loadAgg ty_ag_31 hF rfl (hM.row 0 rfl) (by simp only [fnC_size, cells_size, vecC_size, tabC_size, planeC_size] <;> omega) (whole cells_size)) rfl fun a hF => st hF (g_move hF rfl) rfl fun a hF => ?_
  refine stR hF (d_call Try.call23 hF (.cons rfl (.cons rfl (.cons rfl .nil))) (LegNumberI0_A p n T f (x) _ hT hf hc)) rfl ?_
  rintro _ w' a ⟨hx, rfl⟩ hF
  have hM := hM.ext hx
  refine st hF (g_extract hF rfl rfl) rfl fun a hF => st hF (g_extract hF rfl rfl) rfl fun a hF => st hF (g_assign hF rfl) rfl fun a hF => st hF (g_assign hF rfl) rfl fun a hF => ?_
  refine wpList_nil ?_
  refine tN ?_
  refine wp_ret ?_
  refine fin2 rfl hF.defers (res_tmp hF rfl) (res_tmp hF rfl) ⟨_, rfl, hM.below, ?_⟩
  show _ = _
  rfl

theorem GenusNumberS_R (p n : Nat) (T : Nat → Nat → Nat → Nat) (f : Nat → Nat) (x : Int) (w : World) (hp : primeN p) (hn0 : 0 < n) (hn : n ≤ 6) (hTp : ∀ i j k, T i j k < p) (hT0 : ∀ i j k, n ≤ k → T i j k = 0) (hf : ∀ i, f i ≤ 255) (hk : ¬ (0 ≤ x ∧ x ≤ 30 ∧ 0 ≤ 6)) (hc : CodeP (p : Int) (n : Int) T f 0 (vAtL [])) :
    CallsR Try.prog 18 #[.agg (algC (p : Int) (n : Int) T f), .int .i64 (x)] w (fun res _ => res = .tuple #[.int .i64 (0), .int .i64 (2)]) := by
  refine calls_fr [.agg (algC (p : Int) (n : Int) T f), .int .i64 (x)] Try.func18 rfl Try.ntmps18 rfl fun a hF => ?_
  have hM : Mem w w [none, none] [] := MemX.start w 2
  change Fr 17 a [(0, .agg (algC (p : Int) (n : Int) T f)), (1, .int .i64 (x))] at hF
  have hp2 := hp.two
  have hp13 := hp.le
  have hT : ∀ i j k, T i j k ≤ 255 := fun i j k => by have := hTp i j k; omega
  refine sq ?_
  refine wp_region_lit ?_
  refine stR hF (d_box 0 hM hF rfl) rfl ?_
  rintro _ w' a ⟨b1, rfl, hM, -⟩ hF
  change Mem w w' [some (b1, algC (p : Int) (n : Int) T f), none] [] at hM
  refine st hF (g_assign hF rfl) rfl fun a hF => st hF (g_assign hF rfl) rfl fun a hF => ?_
  refine wpList_nil ?_
  refine tN ?_
  refine sq ?_
  refine wp_region_lit ?_
  refine st hF (g_loadAgg ty_ag_31 hF rfl (hM.row 0 rfl) (by simp only [fnC_size, cells_size, vecC_size, tabC_size, planeC_size] <;> omega) (whole cells_size)) rfl fun a hF => st hF (g_move hF rfl) rfl fun a hF => ?_
  refine stR hF (d_buildC 1 hM hF rfl ty_bs0_46) rfl ?_
  rintro _ w' a ⟨b2, rfl, hM, -⟩ hF
  change Mem w w' [some (b1, algC (p : Int) (n : Int) T f), some (b2, #[])] [] at hM
  refine stR hF (d_call Try.call39 hF (.cons rfl (.cons rfl (.cons rfl .nil))) (l02Number_R p n T f b2 0 0 (vAtL []) (x) _ hp hn0 hn hTp hT0 hf (fun _ _ => by simp [vAtL]) (by omega) (hM.row 1 rfl) hk hc)) rfl ?_
  rintro _ w' a ⟨hx, rfl⟩ hF
  have hM := hM.ext hx
  refine st hF (g_move hF rfl) rfl fun a hF => st hF (g_extract hF rfl rfl) rfl fun a hF => st hF (g_extract hF rfl rfl) rfl fun a hF => st hF (g_assign hF rfl) rfl fun a hF => st hF (g_assign hF rfl) rfl fun a hF => ?_
  refine wpList_nil ?_
  refine tN ?_
  refine sq ?_
  refine wp_region_lit ?_
  refine st hF (g_move hF rfl) rfl fun a hF => st hF (g_move hF rfl) rfl fun a hF => st hF (g_assign hF rfl) rfl fun a hF => st hF (g_assign hF rfl) rfl fun a hF => ?_
  refine wpList_nil ?_
  refine tN ?_
  refine wp_ret ?_
  refine fin2 rfl hF.defers (res_tmp hF rfl) (res_tmp hF rfl) ⟨_, rfl, hM.below, ?_⟩
  show _ = _
  rfl

theorem GenusNumberI_R (p n : Nat) (T : Nat → Nat → Nat → Nat) (f : Nat → Nat) (x : Int) (w : World) (hp : primeN p) (hn0 : 0 < n) (hn : n ≤ 6) (hTp : ∀ i j k, T i j k < p) (hT0 : ∀ i j k, n ≤ k → T i j k = 0) (hf : ∀ i, f i ≤ 255) (hk : ¬ (0 ≤ x ∧ x ≤ 30 ∧ 0 ≤ 6)) (hc : CodeP (p : Int) (n : Int) T f 0 (vAtL [])) :
    CallsR Try.prog 19 #[.agg (algC (p : Int) (n : Int) T f), .int .i64 (x)] w (fun res _ => res = .tuple #[.int .i64 (0), .int .i64 (2)]) := by
  refine calls_fr [.agg (algC (p : Int) (n : Int) T f), .int .i64 (x)] Try.func19 rfl Try.ntmps19 rfl fun a hF => ?_
  have hM : Mem w w [none] [] := MemX.start w 1
  change Fr 11 a [(0, .agg (algC (p : Int) (n : Int) T f)), (1, .int .i64 (x))] at hF
  have hp2 := hp.two
  have hp13 := hp.le
  have hT : ∀ i j k, T i j k ≤ 255 := fun i j k => by have := hTp i j k; omega
  refine sq ?_
  refine wp_region_lit ?_
  refine stR hF (d_box 0 hM hF rfl) rfl ?_
  rintro _ w' a ⟨b1, rfl, hM, -⟩ hF
  change Mem w w' [some (b1, algC (p : Int) (n : Int) T f)] [] at hM
  refine st hF (g_assign hF rfl) rfl fun a hF => st hF (g_assign hF rfl) rfl fun a hF => ?_
  refine wpList_nil ?_
  refine tN ?_
  refine sq ?_
  refine wp_region_lit ?_
  refine st hF (g_loadAgg ty_ag_31 hF rfl (hM.row 0 rfl) (by simp only [fnC_size, cells_size, vecC_size, tabC_size, planeC_size] <;> omega) (whole cells_size)) rfl fun a hF => st hF (g_move hF rfl) rfl fun a hF => ?_
  refine stR hF (d_call Try.call23 hF (.cons rfl (.cons rfl (.cons rfl .nil))) (LegNumberI0_R p n T f (x) _ hp hn0 hn hTp hT0 hf hk hc)) rfl ?_
  rintro _ w' a ⟨hx, rfl⟩ hF
  have hM := hM.ext hx
  refine st hF (g_extract hF rfl rfl) rfl fun a hF => st hF (g_extract hF rfl rfl) rfl fun a hF => st hF (g_assign hF rfl) rfl fun a hF => st hF (g_assign hF rfl) rfl fun a hF => ?_
  refine wpList_nil ?_
  refine tN ?_
  refine wp_ret ?_
  refine fin2 rfl hF.defers (res_tmp hF rfl) (res_tmp hF rfl) ⟨_, rfl, hM.below, ?_⟩
  show _ = _
  rfl

theorem GenusNumberS_F (p n : Nat) (T : Nat → Nat → Nat → Nat) (f : Nat → Nat) (x : Nat) (w : World) (hp : primeN p) (hn0 : 0 < n) (hn : n ≤ 6) (hTp : ∀ i j k, T i j k < p) (hT0 : ∀ i j k, n ≤ k → T i j k = 0) (hf : ∀ i, f i ≤ 255) (hk : x ≤ 30 ∧ 0 ≤ 6) (hfr : ¬ FrobN p n T f) (hc : CodeP (p : Int) (n : Int) T f 0 (vAtL [])) :
    CallsR Try.prog 18 #[.agg (algC (p : Int) (n : Int) T f), .int .i64 (((x : Nat) : Int))] w (fun res _ => res = .tuple #[.int .i64 (0), .int .i64 (5)]) := by
  refine calls_fr [.agg (algC (p : Int) (n : Int) T f), .int .i64 (((x : Nat) : Int))] Try.func18 rfl Try.ntmps18 rfl fun a hF => ?_
  have hM : Mem w w [none, none] [] := MemX.start w 2
  change Fr 17 a [(0, .agg (algC (p : Int) (n : Int) T f)), (1, .int .i64 (((x : Nat) : Int)))] at hF
  have hp2 := hp.two
  have hp13 := hp.le
  have hT : ∀ i j k, T i j k ≤ 255 := fun i j k => by have := hTp i j k; omega
  refine sq ?_
  refine wp_region_lit ?_
  refine stR hF (d_box 0 hM hF rfl) rfl ?_
  rintro _ w' a ⟨b1, rfl, hM, -⟩ hF
  change Mem w w' [some (b1, algC (p : Int) (n : Int) T f), none] [] at hM
  refine st hF (g_assign hF rfl) rfl fun a hF => st hF (g_assign hF rfl) rfl fun a hF => ?_
  refine wpList_nil ?_
  refine tN ?_
  refine sq ?_
  refine wp_region_lit ?_
  refine st hF (g_loadAgg ty_ag_31 hF rfl (hM.row 0 rfl) (by simp only [fnC_size, cells_size, vecC_size, tabC_size, planeC_size] <;> omega) (whole cells_size)) rfl fun a hF => st hF (g_move hF rfl) rfl fun a hF => ?_
  refine stR hF (d_buildC 1 hM hF rfl ty_bs0_46) rfl ?_
  rintro _ w' a ⟨b2, rfl, hM, -⟩ hF
  change Mem w w' [some (b1, algC (p : Int) (n : Int) T f), some (b2, #[])] [] at hM
  refine stR hF (d_call Try.call39 hF (.cons rfl (.cons rfl (.cons rfl .nil))) (l02Number_F p n T f b2 0 0 (vAtL []) (x) _ hp hn0 hn hTp hT0 hf (fun _ _ => by simp [vAtL]) (by omega) (hM.row 1 rfl) hk hfr hc)) rfl ?_
  rintro _ w' a ⟨hx, rfl⟩ hF
  have hM := hM.ext hx
  refine st hF (g_move hF rfl) rfl fun a hF => st hF (g_extract hF rfl rfl) rfl fun a hF => st hF (g_extract hF rfl rfl) rfl fun a hF => st hF (g_assign hF rfl) rfl fun a hF => st hF (g_assign hF rfl) rfl fun a hF => ?_
  refine wpList_nil ?_
  refine tN ?_
  refine sq ?_
  refine wp_region_lit ?_
  refine st hF (g_move hF rfl) rfl fun a hF => st hF (g_move hF rfl) rfl fun a hF => st hF (g_assign hF rfl) rfl fun a hF => st hF (g_assign hF rfl) rfl fun a hF => ?_
  refine wpList_nil ?_
  refine tN ?_
  refine wp_ret ?_
  refine fin2 rfl hF.defers (res_tmp hF rfl) (res_tmp hF rfl) ⟨_, rfl, hM.below, ?_⟩
  show _ = _
  rfl

theorem GenusNumberI_F (p n : Nat) (T : Nat → Nat → Nat → Nat) (f : Nat → Nat) (x : Nat) (w : World) (hp : primeN p) (hn0 : 0 < n) (hn : n ≤ 6) (hTp : ∀ i j k, T i j k < p) (hT0 : ∀ i j k, n ≤ k → T i j k = 0) (hf : ∀ i, f i ≤ 255) (hk : x ≤ 30 ∧ 0 ≤ 6) (hfr : ¬ FrobN p n T f) (hc : CodeP (p : Int) (n : Int) T f 0 (vAtL [])) :
    CallsR Try.prog 19 #[.agg (algC (p : Int) (n : Int) T f), .int .i64 (((x : Nat) : Int))] w (fun res _ => res = .tuple #[.int .i64 (0), .int .i64 (5)]) := by
  refine calls_fr [.agg (algC (p : Int) (n : Int) T f), .int .i64 (((x : Nat) : Int))] Try.func19 rfl Try.ntmps19 rfl fun a hF => ?_
  have hM : Mem w w [none] [] := MemX.start w 1
  change Fr 11 a [(0, .agg (algC (p : Int) (n : Int) T f)), (1, .int .i64 (((x : Nat) : Int)))] at hF
  have hp2 := hp.two
  have hp13 := hp.le
  have hT : ∀ i j k, T i j k ≤ 255 := fun i j k => by have := hTp i j k; omega
  refine sq ?_
  refine wp_region_lit ?_
  refine stR hF (d_box 0 hM hF rfl) rfl ?_
  rintro _ w' a ⟨b1, rfl, hM, -⟩ hF
  change Mem w w' [some (b1, algC (p : Int) (n : Int) T f)] [] at hM
  refine st hF (g_assign hF rfl) rfl fun a hF => st hF (g_assign hF rfl) rfl fun a hF => ?_
  refine wpList_nil ?_
  refine tN ?_
  refine sq ?_
  refine wp_region_lit ?_
  refine st hF (g_loadAgg ty_ag_31 hF rfl (hM.row 0 rfl) (by simp only [fnC_size, cells_size, vecC_size, tabC_size, planeC_size] <;> omega) (whole cells_size)) rfl fun a hF => st hF (g_move hF rfl) rfl fun a hF => ?_
  refine stR hF (d_call Try.call23 hF (.cons rfl (.cons rfl (.cons rfl .nil))) (LegNumberI0_F p n T f (x) _ hp hn0 hn hTp hT0 hf hk hfr hc)) rfl ?_
  rintro _ w' a ⟨hx, rfl⟩ hF
  have hM := hM.ext hx
  refine st hF (g_extract hF rfl rfl) rfl fun a hF => st hF (g_extract hF rfl rfl) rfl fun a hF => st hF (g_assign hF rfl) rfl fun a hF => st hF (g_assign hF rfl) rfl fun a hF => ?_
  refine wpList_nil ?_
  refine tN ?_
  refine wp_ret ?_
  refine fin2 rfl hF.defers (res_tmp hF rfl) (res_tmp hF rfl) ⟨_, rfl, hM.below, ?_⟩
  show _ = _
  rfl

theorem GenusNumberS_N (p n : Nat) (T : Nat → Nat → Nat → Nat) (f : Nat → Nat) (x : Nat) (w : World) (hp : primeN p) (hn0 : 0 < n) (hn : n ≤ 6) (hTp : ∀ i j k, T i j k < p) (hT0 : ∀ i j k, n ≤ k → T i j k = 0) (hf : ∀ i, f i ≤ 255) (hk : x ≤ 30 ∧ 0 ≤ 6) (hfr : FrobN p n T f) (hcom : ¬ comP T) (hc : CodeP (p : Int) (n : Int) T f 0 (vAtL [])) :
    CallsR Try.prog 18 #[.agg (algC (p : Int) (n : Int) T f), .int .i64 (((x : Nat) : Int))] w (fun res _ => res = .tuple #[.int .i64 (0), .int .i64 (5)]) := by
  refine calls_fr [.agg (algC (p : Int) (n : Int) T f), .int .i64 (((x : Nat) : Int))] Try.func18 rfl Try.ntmps18 rfl fun a hF => ?_
  have hM : Mem w w [none, none] [] := MemX.start w 2
  change Fr 17 a [(0, .agg (algC (p : Int) (n : Int) T f)), (1, .int .i64 (((x : Nat) : Int)))] at hF
  have hp2 := hp.two
  have hp13 := hp.le
  have hT : ∀ i j k, T i j k ≤ 255 := fun i j k => by have := hTp i j k; omega
  refine sq ?_
  refine wp_region_lit ?_
  refine stR hF (d_box 0 hM hF rfl) rfl ?_
  rintro _ w' a ⟨b1, rfl, hM, -⟩ hF
  change Mem w w' [some (b1, algC (p : Int) (n : Int) T f), none] [] at hM
  refine st hF (g_assign hF rfl) rfl fun a hF => st hF (g_assign hF rfl) rfl fun a hF => ?_
  refine wpList_nil ?_
  refine tN ?_
  refine sq ?_
  refine wp_region_lit ?_
  refine st hF (g_loadAgg ty_ag_31 hF rfl (hM.row 0 rfl) (by simp only [fnC_size, cells_size, vecC_size, tabC_size, planeC_size] <;> omega) (whole cells_size)) rfl fun a hF => st hF (g_move hF rfl) rfl fun a hF => ?_
  refine stR hF (d_buildC 1 hM hF rfl ty_bs0_46) rfl ?_
  rintro _ w' a ⟨b2, rfl, hM, -⟩ hF
  change Mem w w' [some (b1, algC (p : Int) (n : Int) T f), some (b2, #[])] [] at hM
  refine stR hF (d_call Try.call39 hF (.cons rfl (.cons rfl (.cons rfl .nil))) (l02Number_N p n T f b2 0 0 (vAtL []) (x) _ hp hn0 hn hTp hT0 hf (fun _ _ => by simp [vAtL]) (by omega) (hM.row 1 rfl) hk hfr hcom hc)) rfl ?_
  rintro _ w' a ⟨hx, rfl⟩ hF
  have hM := hM.ext hx
  refine st hF (g_move hF rfl) rfl fun a hF => st hF (g_extract hF rfl rfl) rfl fun a hF => st hF (g_extract hF rfl rfl) rfl fun a hF => st hF (g_assign hF rfl) rfl fun a hF => st hF (g_assign hF rfl) rfl fun a hF => ?_
  refine wpList_nil ?_
  refine tN ?_
  refine sq ?_
  refine wp_region_lit ?_
  refine st hF (g_move hF rfl) rfl fun a hF => st hF (g_move hF rfl) rfl fun a hF => st hF (g_assign hF rfl) rfl fun a hF => st hF (g_assign hF rfl) rfl fun a hF => ?_
  refine wpList_nil ?_
  refine tN ?_
  refine wp_ret ?_
  refine fin2 rfl hF.defers (res_tmp hF rfl) (res_tmp hF rfl) ⟨_, rfl, hM.below, ?_⟩
  show _ = _
  rfl

theorem GenusNumberI_N (p n : Nat) (T : Nat → Nat → Nat → Nat) (f : Nat → Nat) (x : Nat) (w : World) (hp : primeN p) (hn0 : 0 < n) (hn : n ≤ 6) (hTp : ∀ i j k, T i j k < p) (hT0 : ∀ i j k, n ≤ k → T i j k = 0) (hf : ∀ i, f i ≤ 255) (hk : x ≤ 30 ∧ 0 ≤ 6) (hfr : FrobN p n T f) (hcom : ¬ comP T) (hc : CodeP (p : Int) (n : Int) T f 0 (vAtL [])) :
    CallsR Try.prog 19 #[.agg (algC (p : Int) (n : Int) T f), .int .i64 (((x : Nat) : Int))] w (fun res _ => res = .tuple #[.int .i64 (0), .int .i64 (5)]) := by
  refine calls_fr [.agg (algC (p : Int) (n : Int) T f), .int .i64 (((x : Nat) : Int))] Try.func19 rfl Try.ntmps19 rfl fun a hF => ?_
  have hM : Mem w w [none] [] := MemX.start w 1
  change Fr 11 a [(0, .agg (algC (p : Int) (n : Int) T f)), (1, .int .i64 (((x : Nat) : Int)))] at hF
  have hp2 := hp.two
  have hp13 := hp.le
  have hT : ∀ i j k, T i j k ≤ 255 := fun i j k => by have := hTp i j k; omega
  refine sq ?_
  refine wp_region_lit ?_
  refine stR hF (d_box 0 hM hF rfl) rfl ?_
  rintro _ w' a ⟨b1, rfl, hM, -⟩ hF
  change Mem w w' [some (b1, algC (p : Int) (n : Int) T f)] [] at hM
  refine st hF (g_assign hF rfl) rfl fun a hF => st hF (g_assign hF rfl) rfl fun a hF => ?_
  refine wpList_nil ?_
  refine tN ?_
  refine sq ?_
  refine wp_region_lit ?_
  refine st hF (g_loadAgg ty_ag_31 hF rfl (hM.row 0 rfl) (by simp only [fnC_size, cells_size, vecC_size, tabC_size, planeC_size] <;> omega) (whole cells_size)) rfl fun a hF => st hF (g_move hF rfl) rfl fun a hF => ?_
  refine stR hF (d_call Try.call23 hF (.cons rfl (.cons rfl (.cons rfl .nil))) (LegNumberI0_N p n T f (x) _ hp hn0 hn hTp hT0 hf hk hfr hcom hc)) rfl ?_
  rintro _ w' a ⟨hx, rfl⟩ hF
  have hM := hM.ext hx
  refine st hF (g_extract hF rfl rfl) rfl fun a hF => st hF (g_extract hF rfl rfl) rfl fun a hF => st hF (g_assign hF rfl) rfl fun a hF => st hF (g_assign hF rfl) rfl fun a hF => ?_
  refine wpList_nil ?_
  refine tN ?_
  refine wp_ret ?_
  refine fin2 rfl hF.defers (res_tmp hF rfl) (res_tmp hF rfl) ⟨_, rfl, hM.below, ?_⟩
  show _ = _
  rfl

theorem GenusNumberS_Y (p n : Nat) (T : Nat → Nat → Nat → Nat) (f : Nat → Nat) (x : Nat) (w : World) (hp : primeN p) (hn0 : 0 < n) (hn : n ≤ 6) (hTp : ∀ i j k, T i j k < p) (hT0 : ∀ i j k, n ≤ k → T i j k = 0) (hf : ∀ i, f i ≤ 255) (hk : x ≤ 30 ∧ 0 ≤ 6) (hfr : FrobN p n T f) (hcom : comP T) (G : Nat → Nat → Nat) (hG : IsCop p n (formM p n T f) G) (uu : Nat → Nat) (huu : UnitI p n T uu) (hc : CodeP (p : Int) (n : Int) T f 0 (vAtL [])) :
    CallsR Try.prog 18 #[.agg (algC (p : Int) (n : Int) T f), .int .i64 (((x : Nat) : Int))] w (fun res _ => res = .tuple #[.int .i64 (((sumTo (fun i => ((foldW (timesV p n T) (powW (timesV p n T) uu (hdl p n T G n 0) x) (vAtL []) 0)) i * f i) 6 % p : Nat) : Int)), .int .i64 (0)]) := by
  refine calls_fr [.agg (algC (p : Int) (n : Int) T f), .int .i64 (((x : Nat) : Int))] Try.func18 rfl Try.ntmps18 rfl fun a hF => ?_
  have hM : Mem w w [none, none] [] := MemX.start w 2
  change Fr 17 a [(0, .agg (algC (p : Int) (n : Int) T f)), (1, .int .i64 (((x : Nat) : Int)))] at hF
  have hp2 := hp.two
  have hp13 := hp.le
  have hT : ∀ i j k, T i j k ≤ 255 := fun i j k => by have := hTp i j k; omega
  refine sq ?_
  refine wp_region_lit ?_
  refine stR hF (d_box 0 hM hF rfl) rfl ?_
  rintro _ w' a ⟨b1, rfl, hM, -⟩ hF
  change Mem w w' [some (b1, algC (p : Int) (n : Int) T f), none] [] at hM
  refine st hF (g_assign hF rfl) rfl fun a hF => st hF (g_assign hF rfl) rfl fun a hF => ?_
  refine wpList_nil ?_
  refine tN ?_
  refine sq ?_
  refine wp_region_lit ?_
  refine st hF (g_loadAgg ty_ag_31 hF rfl (hM.row 0 rfl) (by simp only [fnC_size, cells_size, vecC_size, tabC_size, planeC_size] <;> omega) (whole cells_size)) rfl fun a hF => st hF (g_move hF rfl) rfl fun a hF => ?_
  refine stR hF (d_buildC 1 hM hF rfl ty_bs0_46) rfl ?_
  rintro _ w' a ⟨b2, rfl, hM, -⟩ hF
  change Mem w w' [some (b1, algC (p : Int) (n : Int) T f), some (b2, #[])] [] at hM
  refine stR hF (d_call Try.call39 hF (.cons rfl (.cons rfl (.cons rfl .nil))) (l02Number_Y p n T f b2 0 0 (vAtL []) (x) _ hp hn0 hn hTp hT0 hf (fun _ _ => by simp [vAtL]) (by omega) (hM.row 1 rfl) hk hfr hcom G hG uu huu hc)) rfl ?_
  rintro _ w' a ⟨hx, rfl⟩ hF
  have hM := hM.ext hx
  refine st hF (g_move hF rfl) rfl fun a hF => st hF (g_extract hF rfl rfl) rfl fun a hF => st hF (g_extract hF rfl rfl) rfl fun a hF => st hF (g_assign hF rfl) rfl fun a hF => st hF (g_assign hF rfl) rfl fun a hF => ?_
  refine wpList_nil ?_
  refine tN ?_
  refine sq ?_
  refine wp_region_lit ?_
  refine st hF (g_move hF rfl) rfl fun a hF => st hF (g_move hF rfl) rfl fun a hF => st hF (g_assign hF rfl) rfl fun a hF => st hF (g_assign hF rfl) rfl fun a hF => ?_
  refine wpList_nil ?_
  refine tN ?_
  refine wp_ret ?_
  refine fin2 rfl hF.defers (res_tmp hF rfl) (res_tmp hF rfl) ⟨_, rfl, hM.below, ?_⟩
  show _ = _
  rfl

theorem GenusNumberI_Y (p n : Nat) (T : Nat → Nat → Nat → Nat) (f : Nat → Nat) (x : Nat) (w : World) (hp : primeN p) (hn0 : 0 < n) (hn : n ≤ 6) (hTp : ∀ i j k, T i j k < p) (hT0 : ∀ i j k, n ≤ k → T i j k = 0) (hf : ∀ i, f i ≤ 255) (hk : x ≤ 30 ∧ 0 ≤ 6) (hfr : FrobN p n T f) (hcom : comP T) (G : Nat → Nat → Nat) (hG : IsCop p n (formM p n T f) G) (uu : Nat → Nat) (huu : UnitI p n T uu) (hc : CodeP (p : Int) (n : Int) T f 0 (vAtL [])) :
    CallsR Try.prog 19 #[.agg (algC (p : Int) (n : Int) T f), .int .i64 (((x : Nat) : Int))] w (fun res _ => res = .tuple #[.int .i64 (((sumTo (fun i => ((foldW (timesV p n T) (powW (timesV p n T) uu (hdl p n T G n 0) x) (vAtL []) 0)) i * f i) 6 % p : Nat) : Int)), .int .i64 (0)]) := by
  refine calls_fr [.agg (algC (p : Int) (n : Int) T f), .int .i64 (((x : Nat) : Int))] Try.func19 rfl Try.ntmps19 rfl fun a hF => ?_
  have hM : Mem w w [none] [] := MemX.start w 1
  change Fr 11 a [(0, .agg (algC (p : Int) (n : Int) T f)), (1, .int .i64 (((x : Nat) : Int)))] at hF
  have hp2 := hp.two
  have hp13 := hp.le
  have hT : ∀ i j k, T i j k ≤ 255 := fun i j k => by have := hTp i j k; omega
  refine sq ?_
  refine wp_region_lit ?_
  refine stR hF (d_box 0 hM hF rfl) rfl ?_
  rintro _ w' a ⟨b1, rfl, hM, -⟩ hF
  change Mem w w' [some (b1, algC (p : Int) (n : Int) T f)] [] at hM
  refine st hF (g_assign hF rfl) rfl fun a hF => st hF (g_assign hF rfl) rfl fun a hF => ?_
  refine wpList_nil ?_
  refine tN ?_
  refine sq ?_
  refine wp_region_lit ?_
  refine st hF (g_loadAgg ty_ag_31 hF rfl (hM.row 0 rfl) (by simp only [fnC_size, cells_size, vecC_size, tabC_size, planeC_size] <;> omega) (whole cells_size)) rfl fun a hF => st hF (g_move hF rfl) rfl fun a hF => ?_
  refine stR hF (d_call Try.call23 hF (.cons rfl (.cons rfl (.cons rfl .nil))) (LegNumberI0_Y p n T f (x) _ hp hn0 hn hTp hT0 hf hk hfr hcom G hG uu huu hc)) rfl ?_
  rintro _ w' a ⟨hx, rfl⟩ hF
  have hM := hM.ext hx
  refine st hF (g_extract hF rfl rfl) rfl fun a hF => st hF (g_extract hF rfl rfl) rfl fun a hF => st hF (g_assign hF rfl) rfl fun a hF => st hF (g_assign hF rfl) rfl fun a hF => ?_
  refine wpList_nil ?_
  refine tN ?_
  refine wp_ret ?_
  refine fin2 rfl hF.defers (res_tmp hF rfl) (res_tmp hF rfl) ⟨_, rfl, hM.below, ?_⟩
  show _ = _
  rfl

theorem law_GenusNumberA (p n : Int) (T : Nat → Nat → Nat → Nat) (f : Nat → Nat) (x : Int) (w : World) (hT : ∀ i j k, T i j k ≤ 255) (hf : ∀ i, f i ≤ 255) (hc : ¬ CodeP p n T f 0 (vAtL [])) :
    CallsR Try.prog 6 #[.agg (algC p n T f), .int .i64 (x)] w (fun res _ => res = .bool true) := by
  refine calls_fr [.agg (algC p n T f), .int .i64 (x)] Try.func6 rfl Try.ntmps6 rfl fun a hF => ?_
  have hM : Mem w w [none] [] := MemX.start w 1
  change Fr 31 a [(0, .agg (algC p n T f)), (1, .int .i64 (x))] at hF
  refine sq ?_
  refine wp_region_lit ?_
  refine stR hF (d_box 0 hM hF rfl) rfl ?_
  rintro _ w' a ⟨b1, rfl, hM, -⟩ hF
  change Mem w w' [some (b1, algC p n T f)] [] at hM
  refine st hF (g_assign hF rfl) rfl fun a hF => ?_
  refine wpList_nil ?_
  refine tN ?_
  refine sq ?_
  refine wp_region_lit ?_
  refine st hF (g_loadAgg ty_ag_26 hF rfl (hM.row 0 rfl) (by simp only [fnC_size, cells_size, vecC_size, tabC_size, planeC_size] <;> omega) (whole cells_size)) rfl fun a hF => ?_
  refine stR hF (d_call Try.call10 hF (.cons rfl .nil) (toAlgebra_ok p n T f _)) rfl ?_
  rintro _ w' a ⟨hx, rfl⟩ hF
  have hM := hM.ext hx
  refine st hF (g_move hF rfl) rfl fun a hF => ?_
  refine stR hF (d_call Try.call18 hF (.cons rfl (.cons rfl .nil)) (GenusNumberS_A p n T f (x) _ hT hf hc)) rfl ?_
  rintro _ w' a ⟨hx, rfl⟩ hF
  have hM := hM.ext hx
  refine st hF (g_move hF rfl) rfl fun a hF => st hF (g_extract hF rfl rfl) rfl fun a hF => st hF (g_extract hF rfl rfl) rfl fun a hF => st hF (g_assign hF rfl) rfl fun a hF => st hF (g_assign hF rfl) rfl fun a hF => ?_
  refine wpList_nil ?_
  refine tN ?_
  refine sq ?_
  refine wp_region_lit ?_
  refine st hF (g_loadAgg ty_ag_26 hF rfl (hM.row 0 rfl) (by simp only [fnC_size, cells_size, vecC_size, tabC_size, planeC_size] <;> omega) (whole cells_size)) rfl fun a hF => ?_
  refine stR hF (d_call Try.call10 hF (.cons rfl .nil) (toAlgebra_ok p n T f _)) rfl ?_
  rintro _ w' a ⟨hx, rfl⟩ hF
  have hM := hM.ext hx
  refine st hF (g_move hF rfl) rfl fun a hF => ?_
  refine stR hF (d_call Try.call19 hF (.cons rfl (.cons rfl .nil)) (GenusNumberI_A p n T f (x) _ hT hf hc)) rfl ?_
  rintro _ w' a ⟨hx, rfl⟩ hF
  have hM := hM.ext hx
  refine st hF (g_move hF rfl) rfl fun a hF => st hF (g_extract hF rfl rfl) rfl fun a hF => st hF (g_extract hF rfl rfl) rfl fun a hF => st hF (g_assign hF rfl) rfl fun a hF => st hF (g_assign hF rfl) rfl fun a hF => ?_
  refine wpList_nil ?_
  refine tN ?_
  refine sq ?_
  refine sq ?_
  refine wp_region_lit ?_
  refine st hF (g_move hF rfl) rfl fun a hF => st hF (g_move hF rfl) rfl fun a hF => st hF (g_neq hF rfl rfl) rfl fun a hF => st hF (g_move hF rfl) rfl fun a hF => ?_
  rw [show decide ((0 : Int) ≠ 0) = false from by decide] at hF
  refine stY hF rfl rfl rfl (g_move hF rfl) rfl fun a hF => stY hF rfl rfl rfl (g_move hF rfl) rfl fun a hF => stY hF rfl rfl rfl (g_neq hF rfl rfl) rfl fun a hF => st hF (g_pickF hF rfl rfl) rfl fun a hF => ?_
  refine wpList_nil ?_
  refine tN ?_
  refine c_kF hF rfl (by decide) ?_
  refine wp_skip ?_
  refine tN ?_
  refine sq ?_
  refine wp_region_lit ?_
  refine st hF (g_assign hF rfl) rfl fun a hF => ?_
  refine wpList_nil ?_
  refine tN ?_
  refine wp_ret ?_
  refine fin1 rfl hF.defers (res_tmp hF rfl) ⟨_, rfl, hM.below, ?_⟩
  show _ = _
  rfl

theorem law_GenusNumberR (p n : Nat) (T : Nat → Nat → Nat → Nat) (f : Nat → Nat) (x : Int) (w : World) (hp : primeN p) (hn0 : 0 < n) (hn : n ≤ 6) (hTp : ∀ i j k, T i j k < p) (hT0 : ∀ i j k, n ≤ k → T i j k = 0) (hf : ∀ i, f i ≤ 255) (hk : ¬ (0 ≤ x ∧ x ≤ 30 ∧ 0 ≤ 6)) (hc : CodeP (p : Int) (n : Int) T f 0 (vAtL [])) :
    CallsR Try.prog 6 #[.agg (algC (p : Int) (n : Int) T f), .int .i64 (x)] w (fun res _ => res = .bool true) := by
  refine calls_fr [.agg (algC (p : Int) (n : Int) T f), .int .i64 (x)] Try.func6 rfl Try.ntmps6 rfl fun a hF => ?_
  have hM : Mem w w [none] [] := MemX.start w 1
  change Fr 31 a [(0, .agg (algC (p : Int) (n : Int) T f)), (1, .int .i64 (x))] at hF
  have hp2 := hp.two
  have hp13 := hp.le
  have hT : ∀ i j k, T i j k ≤ 255 := fun i j k => by have := hTp i j k; omega
  refine sq ?_
  refine wp_region_lit ?_
  refine stR hF (d_box 0 hM hF rfl) rfl ?_
  rintro _ w' a ⟨b1, rfl, hM, -⟩ hF
  change Mem w w' [some (b1, algC (p : Int) (n : Int) T f)] [] at hM
  refine st hF (g_assign hF rfl) rfl fun a hF => ?_
  refine wpList_nil ?_
  refine tN ?_
  refine sq ?_
  refine wp_region_lit ?_
  refine st hF (g_loadAgg ty_ag_26 hF rfl (hM.row 0 rfl) (by simp only [fnC_size, cells_size, vecC_size, tabC_size, planeC_size] <;> omega) (whole cells_size)) rfl fun a hF => ?_
  refine stR hF (d_call Try.call10 hF (.cons rfl .nil) (toAlgebra_ok (p : Int) (n : Int) T f _)) rfl ?_
  rintro _ w' a ⟨hx, rfl⟩ hF
  have hM := hM.ext hx
  refine st hF (g_move hF rfl) rfl fun a hF => ?_
  refine stR hF (d_call Try.call18 hF (.cons rfl (.cons rfl .nil)) (GenusNumberS_R p n T f (x) _ hp hn0 hn hTp hT0 hf hk hc)) rfl ?_
  rintro _ w' a ⟨hx, rfl⟩ hF
  have hM := hM.ext hx
  refine st hF (g_move hF rfl) rfl fun a hF => st hF (g_extract hF rfl rfl) rfl fun a hF => st hF (g_extract hF rfl rfl) rfl fun a hF => st hF (g_assign hF rfl) rfl fun a hF => st hF (g_assign hF rfl) rfl fun a hF => ?_
  refine wpList_nil ?_
  refine tN ?_
  refine sq ?_
  refine wp_region_lit ?_
  refine st hF (g_loadAgg ty_ag_26 hF rfl (hM.row 0 rfl) (by simp only [fnC_size, cells_size, vecC_size, tabC_size, planeC_size] <;> omega) (whole cells_size)) rfl fun a hF => ?_
  refine stR hF (d_call Try.call10 hF (.cons rfl .nil) (toAlgebra_ok (p : Int) (n : Int) T f _)) rfl ?_
  rintro _ w' a ⟨hx, rfl⟩ hF
  have hM := hM.ext hx
  refine st hF (g_move hF rfl) rfl fun a hF => ?_
  refine stR hF (d_call Try.call19 hF (.cons rfl (.cons rfl .nil)) (GenusNumberI_R p n T f (x) _ hp hn0 hn hTp hT0 hf hk hc)) rfl ?_
  rintro _ w' a ⟨hx, rfl⟩ hF
  have hM := hM.ext hx
  refine st hF (g_move hF rfl) rfl fun a hF => st hF (g_extract hF rfl rfl) rfl fun a hF => st hF (g_extract hF rfl rfl) rfl fun a hF => st hF (g_assign hF rfl) rfl fun a hF => st hF (g_assign hF rfl) rfl fun a hF => ?_
  refine wpList_nil ?_
  refine tN ?_
  refine sq ?_
  refine sq ?_
  refine wp_region_lit ?_
  refine st hF (g_move hF rfl) rfl fun a hF => st hF (g_move hF rfl) rfl fun a hF => st hF (g_neq hF rfl rfl) rfl fun a hF => st hF (g_move hF rfl) rfl fun a hF => ?_
  rw [show decide ((0 : Int) ≠ 0) = false from by decide] at hF
  refine stY hF rfl rfl rfl (g_move hF rfl) rfl fun a hF => stY hF rfl rfl rfl (g_move hF rfl) rfl fun a hF => stY hF rfl rfl rfl (g_neq hF rfl rfl) rfl fun a hF => st hF (g_pickF hF rfl rfl) rfl fun a hF => ?_
  refine wpList_nil ?_
  refine tN ?_
  refine c_kF hF rfl (by decide) ?_
  refine wp_skip ?_
  refine tN ?_
  refine sq ?_
  refine wp_region_lit ?_
  refine st hF (g_assign hF rfl) rfl fun a hF => ?_
  refine wpList_nil ?_
  refine tN ?_
  refine wp_ret ?_
  refine fin1 rfl hF.defers (res_tmp hF rfl) ⟨_, rfl, hM.below, ?_⟩
  show _ = _
  rfl

theorem law_GenusNumberF (p n : Nat) (T : Nat → Nat → Nat → Nat) (f : Nat → Nat) (x : Nat) (w : World) (hp : primeN p) (hn0 : 0 < n) (hn : n ≤ 6) (hTp : ∀ i j k, T i j k < p) (hT0 : ∀ i j k, n ≤ k → T i j k = 0) (hf : ∀ i, f i ≤ 255) (hk : x ≤ 30 ∧ 0 ≤ 6) (hfr : ¬ FrobN p n T f) (hc : CodeP (p : Int) (n : Int) T f 0 (vAtL [])) :
    CallsR Try.prog 6 #[.agg (algC (p : Int) (n : Int) T f), .int .i64 (((x : Nat) : Int))] w (fun res _ => res = .bool true) := by
  refine calls_fr [.agg (algC (p : Int) (n : Int) T f), .int .i64 (((x : Nat) : Int))] Try.func6 rfl Try.ntmps6 rfl fun a hF => ?_
  have hM : Mem w w [none] [] := MemX.start w 1
  change Fr 31 a [(0, .agg (algC (p : Int) (n : Int) T f)), (1, .int .i64 (((x : Nat) : Int)))] at hF
  have hp2 := hp.two
  have hp13 := hp.le
  have hT : ∀ i j k, T i j k ≤ 255 := fun i j k => by have := hTp i j k; omega
  refine sq ?_
  refine wp_region_lit ?_
  refine stR hF (d_box 0 hM hF rfl) rfl ?_
  rintro _ w' a ⟨b1, rfl, hM, -⟩ hF
  change Mem w w' [some (b1, algC (p : Int) (n : Int) T f)] [] at hM
  refine st hF (g_assign hF rfl) rfl fun a hF => ?_
  refine wpList_nil ?_
  refine tN ?_
  refine sq ?_
  refine wp_region_lit ?_
  refine st hF (g_loadAgg ty_ag_26 hF rfl (hM.row 0 rfl) (by simp only [fnC_size, cells_size, vecC_size, tabC_size, planeC_size] <;> omega) (whole cells_size)) rfl fun a hF => ?_
  refine stR hF (d_call Try.call10 hF (.cons rfl .nil) (toAlgebra_ok (p : Int) (n : Int) T f _)) rfl ?_
  rintro _ w' a ⟨hx, rfl⟩ hF
  have hM := hM.ext hx
  refine st hF (g_move hF rfl) rfl fun a hF => ?_
  refine stR hF (d_call Try.call18 hF (.cons rfl (.cons rfl .nil)) (GenusNumberS_F p n T f (x) _ hp hn0 hn hTp hT0 hf hk hfr hc)) rfl ?_
  rintro _ w' a ⟨hx, rfl⟩ hF
  have hM := hM.ext hx
  refine st hF (g_move hF rfl) rfl fun a hF => st hF (g_extract hF rfl rfl) rfl fun a hF => st hF (g_extract hF rfl rfl) rfl fun a hF => st hF (g_assign hF rfl) rfl fun a hF => st hF (g_assign hF rfl) rfl fun a hF => ?_
  refine wpList_nil ?_
  refine tN ?_
  refine sq ?_
  refine wp_region_lit ?_
  refine st hF (g_loadAgg ty_ag_26 hF rfl (hM.row 0 rfl) (by simp only [fnC_size, cells_size, vecC_size, tabC_size, planeC_size] <;> omega) (whole cells_size)) rfl fun a hF => ?_
  refine stR hF (d_call Try.call10 hF (.cons rfl .nil) (toAlgebra_ok (p : Int) (n : Int) T f _)) rfl ?_
  rintro _ w' a ⟨hx, rfl⟩ hF
  have hM := hM.ext hx
  refine st hF (g_move hF rfl) rfl fun a hF => ?_
  refine stR hF (d_call Try.call19 hF (.cons rfl (.cons rfl .nil)) (GenusNumberI_F p n T f (x) _ hp hn0 hn hTp hT0 hf hk hfr hc)) rfl ?_
  rintro _ w' a ⟨hx, rfl⟩ hF
  have hM := hM.ext hx
  refine st hF (g_move hF rfl) rfl fun a hF => st hF (g_extract hF rfl rfl) rfl fun a hF => st hF (g_extract hF rfl rfl) rfl fun a hF => st hF (g_assign hF rfl) rfl fun a hF => st hF (g_assign hF rfl) rfl fun a hF => ?_
  refine wpList_nil ?_
  refine tN ?_
  refine sq ?_
  refine sq ?_
  refine wp_region_lit ?_
  refine st hF (g_move hF rfl) rfl fun a hF => st hF (g_move hF rfl) rfl fun a hF => st hF (g_neq hF rfl rfl) rfl fun a hF => st hF (g_move hF rfl) rfl fun a hF => ?_
  rw [show decide ((0 : Int) ≠ 0) = false from by decide] at hF
  refine stY hF rfl rfl rfl (g_move hF rfl) rfl fun a hF => stY hF rfl rfl rfl (g_move hF rfl) rfl fun a hF => stY hF rfl rfl rfl (g_neq hF rfl rfl) rfl fun a hF => st hF (g_pickF hF rfl rfl) rfl fun a hF => ?_
  refine wpList_nil ?_
  refine tN ?_
  refine c_kF hF rfl (by decide) ?_
  refine wp_skip ?_
  refine tN ?_
  refine sq ?_
  refine wp_region_lit ?_
  refine st hF (g_assign hF rfl) rfl fun a hF => ?_
  refine wpList_nil ?_
  refine tN ?_
  refine wp_ret ?_
  refine fin1 rfl hF.defers (res_tmp hF rfl) ⟨_, rfl, hM.below, ?_⟩
  show _ = _
  rfl

theorem law_GenusNumberN (p n : Nat) (T : Nat → Nat → Nat → Nat) (f : Nat → Nat) (x : Nat) (w : World) (hp : primeN p) (hn0 : 0 < n) (hn : n ≤ 6) (hTp : ∀ i j k, T i j k < p) (hT0 : ∀ i j k, n ≤ k → T i j k = 0) (hf : ∀ i, f i ≤ 255) (hk : x ≤ 30 ∧ 0 ≤ 6) (hfr : FrobN p n T f) (hcom : ¬ comP T) (hc : CodeP (p : Int) (n : Int) T f 0 (vAtL [])) :
    CallsR Try.prog 6 #[.agg (algC (p : Int) (n : Int) T f), .int .i64 (((x : Nat) : Int))] w (fun res _ => res = .bool true) := by
  refine calls_fr [.agg (algC (p : Int) (n : Int) T f), .int .i64 (((x : Nat) : Int))] Try.func6 rfl Try.ntmps6 rfl fun a hF => ?_
  have hM : Mem w w [none] [] := MemX.start w 1
  change Fr 31 a [(0, .agg (algC (p : Int) (n : Int) T f)), (1, .int .i64 (((x : Nat) : Int)))] at hF
  have hp2 := hp.two
  have hp13 := hp.le
  have hT : ∀ i j k, T i j k ≤ 255 := fun i j k => by have := hTp i j k; omega
  refine sq ?_
  refine wp_region_lit ?_
  refine stR hF (d_box 0 hM hF rfl) rfl ?_
  rintro _ w' a ⟨b1, rfl, hM, -⟩ hF
  change Mem w w' [some (b1, algC (p : Int) (n : Int) T f)] [] at hM
  refine st hF (g_assign hF rfl) rfl fun a hF => ?_
  refine wpList_nil ?_
  refine tN ?_
  refine sq ?_
  refine wp_region_lit ?_
  refine st hF (g_loadAgg ty_ag_26 hF rfl (hM.row 0 rfl) (by simp only [fnC_size, cells_size, vecC_size, tabC_size, planeC_size] <;> omega) (whole cells_size)) rfl fun a hF => ?_
  refine stR hF (d_call Try.call10 hF (.cons rfl .nil) (toAlgebra_ok (p : Int) (n : Int) T f _)) rfl ?_
  rintro _ w' a ⟨hx, rfl⟩ hF
  have hM := hM.ext hx
  refine st hF (g_move hF rfl) rfl fun a hF => ?_
  refine stR hF (d_call Try.call18 hF (.cons rfl (.cons rfl .nil)) (GenusNumberS_N p n T f (x) _ hp hn0 hn hTp hT0 hf hk hfr hcom hc)) rfl ?_
  rintro _ w' a ⟨hx, rfl⟩ hF
  have hM := hM.ext hx
  refine st hF (g_move hF rfl) rfl fun a hF => st hF (g_extract hF rfl rfl) rfl fun a hF => st hF (g_extract hF rfl rfl) rfl fun a hF => st hF (g_assign hF rfl) rfl fun a hF => st hF (g_assign hF rfl) rfl fun a hF => ?_
  refine wpList_nil ?_
  refine tN ?_
  refine sq ?_
  refine wp_region_lit ?_
  refine st hF (g_loadAgg ty_ag_26 hF rfl (hM.row 0 rfl) (by simp only [fnC_size, cells_size, vecC_size, tabC_size, planeC_size] <;> omega) (whole cells_size)) rfl fun a hF => ?_
  refine stR hF (d_call Try.call10 hF (.cons rfl .nil) (toAlgebra_ok (p : Int) (n : Int) T f _)) rfl ?_
  rintro _ w' a ⟨hx, rfl⟩ hF
  have hM := hM.ext hx
  refine st hF (g_move hF rfl) rfl fun a hF => ?_
  refine stR hF (d_call Try.call19 hF (.cons rfl (.cons rfl .nil)) (GenusNumberI_N p n T f (x) _ hp hn0 hn hTp hT0 hf hk hfr hcom hc)) rfl ?_
  rintro _ w' a ⟨hx, rfl⟩ hF
  have hM := hM.ext hx
  refine st hF (g_move hF rfl) rfl fun a hF => st hF (g_extract hF rfl rfl) rfl fun a hF => st hF (g_extract hF rfl rfl) rfl fun a hF => st hF (g_assign hF rfl) rfl fun a hF => st hF (g_assign hF rfl) rfl fun a hF => ?_
  refine wpList_nil ?_
  refine tN ?_
  refine sq ?_
  refine sq ?_
  refine wp_region_lit ?_
  refine st hF (g_move hF rfl) rfl fun a hF => st hF (g_move hF rfl) rfl fun a hF => st hF (g_neq hF rfl rfl) rfl fun a hF => st hF (g_move hF rfl) rfl fun a hF => ?_
  rw [show decide ((0 : Int) ≠ 0) = false from by decide] at hF
  refine stY hF rfl rfl rfl (g_move hF rfl) rfl fun a hF => stY hF rfl rfl rfl (g_move hF rfl) rfl fun a hF => stY hF rfl rfl rfl (g_neq hF rfl rfl) rfl fun a hF => st hF (g_pickF hF rfl rfl) rfl fun a hF => ?_
  refine wpList_nil ?_
  refine tN ?_
  refine c_kF hF rfl (by decide) ?_
  refine wp_skip ?_
  refine tN ?_
  refine sq ?_
  refine wp_region_lit ?_
  refine st hF (g_assign hF rfl) rfl fun a hF => ?_
  refine wpList_nil ?_
  refine tN ?_
  refine wp_ret ?_
  refine fin1 rfl hF.defers (res_tmp hF rfl) ⟨_, rfl, hM.below, ?_⟩
  show _ = _
  rfl

theorem law_GenusNumberY (p n : Nat) (T : Nat → Nat → Nat → Nat) (f : Nat → Nat) (x : Nat) (w : World) (hp : primeN p) (hn0 : 0 < n) (hn : n ≤ 6) (hTp : ∀ i j k, T i j k < p) (hT0 : ∀ i j k, n ≤ k → T i j k = 0) (hf : ∀ i, f i ≤ 255) (hk : x ≤ 30 ∧ 0 ≤ 6) (hfr : FrobN p n T f) (hcom : comP T) (G : Nat → Nat → Nat) (hG : IsCop p n (formM p n T f) G) (uu : Nat → Nat) (huu : UnitI p n T uu) (hc : CodeP (p : Int) (n : Int) T f 0 (vAtL [])) :
    CallsR Try.prog 6 #[.agg (algC (p : Int) (n : Int) T f), .int .i64 (((x : Nat) : Int))] w (fun res _ => res = .bool true) := by
  refine calls_fr [.agg (algC (p : Int) (n : Int) T f), .int .i64 (((x : Nat) : Int))] Try.func6 rfl Try.ntmps6 rfl fun a hF => ?_
  have hM : Mem w w [none] [] := MemX.start w 1
  change Fr 31 a [(0, .agg (algC (p : Int) (n : Int) T f)), (1, .int .i64 (((x : Nat) : Int)))] at hF
  have hp2 := hp.two
  have hp13 := hp.le
  have hT : ∀ i j k, T i j k ≤ 255 := fun i j k => by have := hTp i j k; omega
  refine sq ?_
  refine wp_region_lit ?_
  refine stR hF (d_box 0 hM hF rfl) rfl ?_
  rintro _ w' a ⟨b1, rfl, hM, -⟩ hF
  change Mem w w' [some (b1, algC (p : Int) (n : Int) T f)] [] at hM
  refine st hF (g_assign hF rfl) rfl fun a hF => ?_
  refine wpList_nil ?_
  refine tN ?_
  refine sq ?_
  refine wp_region_lit ?_
  refine st hF (g_loadAgg ty_ag_26 hF rfl (hM.row 0 rfl) (by simp only [fnC_size, cells_size, vecC_size, tabC_size, planeC_size] <;> omega) (whole cells_size)) rfl fun a hF => ?_
  refine stR hF (d_call Try.call10 hF (.cons rfl .nil) (toAlgebra_ok (p : Int) (n : Int) T f _)) rfl ?_
  rintro _ w' a ⟨hx, rfl⟩ hF
  have hM := hM.ext hx
  refine st hF (g_move hF rfl) rfl fun a hF => ?_
  refine stR hF (d_call Try.call18 hF (.cons rfl (.cons rfl .nil)) (GenusNumberS_Y p n T f (x) _ hp hn0 hn hTp hT0 hf hk hfr hcom G hG uu huu hc)) rfl ?_
  rintro _ w' a ⟨hx, rfl⟩ hF
  have hM := hM.ext hx
  refine st hF (g_move hF rfl) rfl fun a hF => st hF (g_extract hF rfl rfl) rfl fun a hF => st hF (g_extract hF rfl rfl) rfl fun a hF => st hF (g_assign hF rfl) rfl fun a hF => st hF (g_assign hF rfl) rfl fun a hF => ?_
  refine wpList_nil ?_
  refine tN ?_
  refine sq ?_
  refine wp_region_lit ?_
  refine st hF (g_loadAgg ty_ag_26 hF rfl (hM.row 0 rfl) (by simp only [fnC_size, cells_size, vecC_size, tabC_size, planeC_size] <;> omega) (whole cells_size)) rfl fun a hF => ?_
  refine stR hF (d_call Try.call10 hF (.cons rfl .nil) (toAlgebra_ok (p : Int) (n : Int) T f _)) rfl ?_
  rintro _ w' a ⟨hx, rfl⟩ hF
  have hM := hM.ext hx
  refine st hF (g_move hF rfl) rfl fun a hF => ?_
  refine stR hF (d_call Try.call19 hF (.cons rfl (.cons rfl .nil)) (GenusNumberI_Y p n T f (x) _ hp hn0 hn hTp hT0 hf hk hfr hcom G hG uu huu hc)) rfl ?_
  rintro _ w' a ⟨hx, rfl⟩ hF
  have hM := hM.ext hx
  refine st hF (g_move hF rfl) rfl fun a hF => st hF (g_extract hF rfl rfl) rfl fun a hF => st hF (g_extract hF rfl rfl) rfl fun a hF => st hF (g_assign hF rfl) rfl fun a hF => st hF (g_assign hF rfl) rfl fun a hF => ?_
  refine wpList_nil ?_
  refine tN ?_
  refine sq ?_
  refine sq ?_
  refine wp_region_lit ?_
  refine st hF (g_move hF rfl) rfl fun a hF => st hF (g_move hF rfl) rfl fun a hF => st hF (g_neq hF rfl rfl) rfl fun a hF => st hF (g_move hF rfl) rfl fun a hF => ?_
  by_cases g2 : (((sumTo (fun i => ((foldW (timesV p n T) (powW (timesV p n T) uu (hdl p n T G n 0) x) (vAtL []) 0)) i * f i) 6 % p : Nat) : Int) : Int) ≠ ((sumTo (fun i => ((foldW (timesV p n T) (powW (timesV p n T) uu (hdl p n T G n 0) x) (vAtL []) 0)) i * f i) 6 % p : Nat) : Int)
  ·
    first | rw [decide_eq_true g2] at hF | simp only [decide_eq_true g2] at hF
    first | exact absurd rfl g2 | (exfalso; omega)
  ·
    first | rw [decide_eq_false g2] at hF | simp only [decide_eq_false g2] at hF
    refine stY hF rfl rfl rfl (g_move hF rfl) rfl fun a hF => stY hF rfl rfl rfl (g_move hF rfl) rfl fun a hF => stY hF rfl rfl rfl (g_neq hF rfl rfl) rfl fun a hF => st hF (g_pickF hF rfl rfl) rfl fun a hF => ?_
    refine wpList_nil ?_
    refine tN ?_
    refine c_kF hF rfl (by decide) ?_
    refine wp_skip ?_
    refine tN ?_
    refine sq ?_
    refine wp_region_lit ?_
    refine st hF (g_assign hF rfl) rfl fun a hF => ?_
    refine wpList_nil ?_
    refine tN ?_
    refine wp_ret ?_
    refine fin1 rfl hF.defers (res_tmp hF rfl) ⟨_, rfl, hM.below, ?_⟩
    show _ = _
    rfl

theorem law_GenusNumber (p n : Int) (T : Nat → Nat → Nat → Nat) (f : Nat → Nat) (x : Int) (w : World) (hT : ∀ i j k, T i j k ≤ 255) (hf : ∀ i, f i ≤ 255) (_hx : -9223372036854775808 ≤ x ∧ x ≤ 9223372036854775807) : CallsV Try.prog 6 #[.agg (algC p n T f), .int .i64 (x)] w (.bool true) := by
  by_cases hc : CodeP p n T f 0 (vAtL [])
  · have hs := hc.1.1
    have hp0 := primeP_pos hs.1
    have hn := hs.2.1
    have e1 : ((p.toNat : Nat) : Int) = p := by omega
    have e2 : ((n.toNat : Nat) : Int) = n := by omega
    have hc2 : CodeP ((p.toNat : Nat) : Int) ((n.toNat : Nat) : Int) (trunc n.toNat T) f 0 (vAtL []) := by rw [e1, e2]; exact code_trunc hc
    obtain ⟨uu, huu⟩ := hc.1.2.2
    by_cases hk : 0 ≤ x ∧ x ≤ 30
    · by_cases hfr : FrobN p.toNat n.toNat (trunc n.toNat T) f
      · by_cases hcom : comP (trunc n.toNat T)
        · obtain ⟨G, hG⟩ := cop_exists (F := formM p.toNat n.toNat (trunc n.toNat T) f) (primeN_of hs.1) (by omega) (by omega) (fun i c h => formM_out h) (formM_lt (by omega)) hfr
          have h := law_GenusNumberY p.toNat n.toNat (trunc n.toNat T) f x.toNat w (primeN_of hs.1) (by omega) (by omega) (trunc_lt hs) trunc_out hf (by omega) hfr hcom G hG uu huu hc2
          rw [e1, e2, ← algC_trunc hs, show ((x.toNat : Nat) : Int) = x by omega] at h
          exact h
        · have h := law_GenusNumberN p.toNat n.toNat (trunc n.toNat T) f x.toNat w (primeN_of hs.1) (by omega) (by omega) (trunc_lt hs) trunc_out hf (by omega) hfr hcom hc2
          rw [e1, e2, ← algC_trunc hs, show ((x.toNat : Nat) : Int) = x by omega] at h
          exact h
      · have h := law_GenusNumberF p.toNat n.toNat (trunc n.toNat T) f x.toNat w (primeN_of hs.1) (by omega) (by omega) (trunc_lt hs) trunc_out hf (by omega) hfr hc2
        rw [e1, e2, ← algC_trunc hs, show ((x.toNat : Nat) : Int) = x by omega] at h
        exact h
    · have h := law_GenusNumberR p.toNat n.toNat (trunc n.toNat T) f x w (primeN_of hs.1) (by omega) (by omega) (trunc_lt hs) trunc_out hf (by omega) hc2
      rw [e1, e2, ← algC_trunc hs] at h
      exact h
  · exact law_GenusNumberA p n T f x w hT hf hc

end Go.Proofs.Ytficgmohfabplaa
