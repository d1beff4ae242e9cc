/- What functions of the program return, as walks over their operations; no statement of the seat is proved here. -/
import Derived.Test.YtbeodbfbfbefkaaDoorZ10
import Derived.Test.YtbeodbfbfbefkaaDoorEch7
set_option linter.unusedVariables false
set_option linter.unusedSimpArgs false
namespace Go.Proofs.YtbeodbfbfbefkaaDoor
open Go Go.RowKit Go.Sw Go.Ech
open Classical
theorem l05Code_A (p n : Int) (T : Nat → Nat → Nat → Nat) (f : Nat → Nat) (w : World) (hT : ∀ i j k, T i j k ≤ 255) (hf : ∀ i, f i ≤ 255) (hc : ¬ CodeP p n T f 0 (vAtL [])) :
    CallsR Tryd.prog 20 #[.agg (algC p n T f), .slice none 0 0] w (fun res _ => res = .int .i64 1) := by
  refine calls_fr [.agg (algC p n T f), .slice none 0 0] Tryd.func20 rfl Tryd.ntmps20 rfl fun a hF => ?_
  have hM : Mem w w [none] [] := MemX.start w 1
  change Fr 15 a [(0, .agg (algC p n T f)), (1, .slice none 0 0)] at hF
  refine sq (wp_region_lit ?_)
  refine stR hF (d_box 0 hM hF rfl) rfl ?_
  rintro _ w' a ⟨b1, rfl, hM, -⟩ hF
  change Mem w w' [some (b1, algC p n T f)] [] at hM
  refine st hF (g_assign hF rfl) rfl fun a hF => ?_
  refine wpList_nil (tN (sq (sq (wp_region_lit ?_))))
  refine st hF (g_loadAgg ty_ag_32 hF rfl (hM.row 0 rfl) (by simp only [fnC_size, cells_size, vecC_size, tabC_size, planeC_size, dgC_size, numC_sz, ldB_size, rowV_size] <;> omega) (whole cells_size)) rfl fun a hF => st hF (g_move hF rfl) rfl fun a hF => ?_
  refine stR hF (d_call Tryd.call34 hF (.cons rfl (.cons rfl .nil)) ((CallsR.val (l01Code_0 p n T f (vAtL []) _ (fun _ _ _ => hT _ _ _) (fun _ => hf _)) (congrArg (Value.int .i64) (if_neg hc))))) rfl ?_
  rintro _ w' a ⟨hx, rfl⟩ hF
  have hM := hM.ext hx
  refine st hF (g_assign hF rfl) rfl fun a hF => ?_
  refine wpList_nil (tN (sq (wp_region_lit ?_)))
  refine st hF (g_move hF rfl) rfl fun a hF => st hF (g_neq hF rfl rfl) rfl fun a hF => ?_
  refine wpList_nil (tN ?_)
  refine c_kT hF rfl (by decide) ?_
  refine sq (wp_region_lit ?_)
  refine st hF (g_move hF rfl) rfl fun a hF => st hF (g_assign hF rfl) rfl fun a hF => ?_
  refine wpList_nil (tN (wp_ret (tR ?_)))
  refine fin1 rfl hF.defers (res_tmp hF rfl) ⟨_, rfl, hM.below, ?_⟩
  show _ = _
  rfl

theorem l05Code_N (p n : Nat) (T : Nat → Nat → Nat → Nat) (f : Nat → Nat) (w : World) (hp : primeN p) (hn0 : 0 < n) (hn : n ≤ 6) (hTp : ∀ i j k, T i j k < p) (hT0 : ∀ i j k, n ≤ k → T i j k = 0) (hf : ∀ i, f i ≤ 255) (hc : CodeP (p : Int) (n : Int) T f 0 (vAtL [])) (hcom : ¬ comP T) :
    CallsR Tryd.prog 20 #[.agg (algC (p : Int) (n : Int) T f), .slice none 0 0] w (fun res _ => res = .int .i64 5) := by
  refine calls_fr [.agg (algC (p : Int) (n : Int) T f), .slice none 0 0] Tryd.func20 rfl Tryd.ntmps20 rfl fun a hF => ?_
  have hM : Mem w w [none] [] := MemX.start w 1
  change Fr 15 a [(0, .agg (algC (p : Int) (n : Int) T f)), (1, .slice none 0 0)] at hF
  have hp2 := hp.two
  have hp13 := hp.le
  have hT : ∀ i j k, T i j k ≤ 255 := fun i j k => by have := hTp i j k; omega
  refine sq (wp_region_lit ?_)
  refine stR hF (d_box 0 hM hF rfl) rfl ?_
  rintro _ w' a ⟨b1, rfl, hM, -⟩ hF
  change Mem w w' [some (b1, algC (p : Int) (n : Int) T f)] [] at hM
  refine st hF (g_assign hF rfl) rfl fun a hF => ?_
  refine wpList_nil (tN (sq (sq (wp_region_lit ?_))))
  refine st hF (g_loadAgg ty_ag_32 hF rfl (hM.row 0 rfl) (by simp only [fnC_size, cells_size, vecC_size, tabC_size, planeC_size, dgC_size, numC_sz, ldB_size, rowV_size] <;> omega) (whole cells_size)) rfl fun a hF => st hF (g_move hF rfl) rfl fun a hF => ?_
  refine stR hF (d_call Tryd.call34 hF (.cons rfl (.cons rfl .nil)) ((CallsR.val (l01Code_0 (p : Int) (n : Int) T f (vAtL []) _ (fun _ _ _ => hT _ _ _) (fun _ => hf _)) (congrArg (Value.int .i64) (if_pos hc))))) rfl ?_
  rintro _ w' a ⟨hx, rfl⟩ hF
  have hM := hM.ext hx
  refine st hF (g_assign hF rfl) rfl fun a hF => ?_
  refine wpList_nil (tN (sq (wp_region_lit ?_)))
  refine st hF (g_move hF rfl) rfl fun a hF => st hF (g_neq hF rfl rfl) rfl fun a hF => ?_
  refine wpList_nil (tN ?_)
  refine c_kF hF rfl (by decide) ?_
  refine wp_skip (tN (sq (sq (wp_region_lit ?_))))
  refine st hF (g_loadAgg ty_ag_32 hF rfl (hM.row 0 rfl) (by simp only [fnC_size, cells_size, vecC_size, tabC_size, planeC_size, dgC_size, numC_sz, ldB_size, rowV_size] <;> omega) (whole cells_size)) rfl fun a hF => ?_
  refine stR hF (d_call Tryd.call35 hF (.cons rfl .nil) ((CallsR.val (l01Commutative_ok (p : Int) (n : Int) T f _) (congrArg Value.bool (decide_eq_false hcom))))) rfl ?_
  rintro _ w' a ⟨hx, rfl⟩ hF
  have hM := hM.ext hx
  refine st hF (g_not hF rfl) rfl fun a hF => ?_
  refine wpList_nil (tN ?_)
  refine c_T hF rfl ?_
  refine sq (wp_region_lit ?_)
  refine st hF (g_assign hF rfl) rfl fun a hF => ?_
  refine wpList_nil (tN (wp_ret (tR ?_)))
  refine fin1 rfl hF.defers (res_tmp hF rfl) ⟨_, rfl, hM.below, ?_⟩
  show _ = _
  rfl

theorem l05Code_Y (p n : Nat) (T : Nat → Nat → Nat → Nat) (f : Nat → Nat) (w : World) (hp : primeN p) (hn0 : 0 < n) (hn : n ≤ 6) (hTp : ∀ i j k, T i j k < p) (hT0 : ∀ i j k, n ≤ k → T i j k = 0) (hf : ∀ i, f i ≤ 255) (hc : CodeP (p : Int) (n : Int) T f 0 (vAtL [])) (hcom : comP T) :
    CallsR Tryd.prog 20 #[.agg (algC (p : Int) (n : Int) T f), .slice none 0 0] w (fun res _ => res = .int .i64 0) := by
  refine calls_fr [.agg (algC (p : Int) (n : Int) T f), .slice none 0 0] Tryd.func20 rfl Tryd.ntmps20 rfl fun a hF => ?_
  have hM : Mem w w [none] [] := MemX.start w 1
  change Fr 15 a [(0, .agg (algC (p : Int) (n : Int) T f)), (1, .slice none 0 0)] at hF
  have hp2 := hp.two
  have hp13 := hp.le
  have hT : ∀ i j k, T i j k ≤ 255 := fun i j k => by have := hTp i j k; omega
  refine sq (wp_region_lit ?_)
  refine stR hF (d_box 0 hM hF rfl) rfl ?_
  rintro _ w' a ⟨b1, rfl, hM, -⟩ hF
  change Mem w w' [some (b1, algC (p : Int) (n : Int) T f)] [] at hM
  refine st hF (g_assign hF rfl) rfl fun a hF => ?_
  refine wpList_nil (tN (sq (sq (wp_region_lit ?_))))
  refine st hF (g_loadAgg ty_ag_32 hF rfl (hM.row 0 rfl) (by simp only [fnC_size, cells_size, vecC_size, tabC_size, planeC_size, dgC_size, numC_sz, ldB_size, rowV_size] <;> omega) (whole cells_size)) rfl fun a hF => st hF (g_move hF rfl) rfl fun a hF => ?_
  refine stR hF (d_call Tryd.call34 hF (.cons rfl (.cons rfl .nil)) ((CallsR.val (l01Code_0 (p : Int) (n : Int) T f (vAtL []) _ (fun _ _ _ => hT _ _ _) (fun _ => hf _)) (congrArg (Value.int .i64) (if_pos hc))))) rfl ?_
  rintro _ w' a ⟨hx, rfl⟩ hF
  have hM := hM.ext hx
  refine st hF (g_assign hF rfl) rfl fun a hF => ?_
  refine wpList_nil (tN (sq (wp_region_lit ?_)))
  refine st hF (g_move hF rfl) rfl fun a hF => st hF (g_neq hF rfl rfl) rfl fun a hF => ?_
  refine wpList_nil (tN ?_)
  refine c_kF hF rfl (by decide) ?_
  refine wp_skip (tN (sq (sq (wp_region_lit ?_))))
  refine st hF (g_loadAgg ty_ag_32 hF rfl (hM.row 0 rfl) (by simp only [fnC_size, cells_size, vecC_size, tabC_size, planeC_size, dgC_size, numC_sz, ldB_size, rowV_size] <;> omega) (whole cells_size)) rfl fun a hF => ?_
  refine stR hF (d_call Tryd.call35 hF (.cons rfl .nil) ((CallsR.val (l01Commutative_ok (p : Int) (n : Int) T f _) (congrArg Value.bool (decide_eq_true hcom))))) rfl ?_
  rintro _ w' a ⟨hx, rfl⟩ hF
  have hM := hM.ext hx
  refine st hF (g_not hF rfl) rfl fun a hF => ?_
  refine wpList_nil (tN ?_)
  refine c_Fl hF rfl ?_
  refine wp_skip (tN (sq (wp_region_lit ?_)))
  refine st hF (g_assign hF rfl) rfl fun a hF => ?_
  refine wpList_nil (tN (wp_ret ?_))
  refine fin1 rfl hF.defers (res_tmp hF rfl) ⟨_, rfl, hM.below, ?_⟩
  show _ = _
  rfl

theorem prL_same {p n r r0 : Nat} {T : Nat → Nat → Nat → Nat} {uu : Nat → Nat} {VF W0 : Nat → Nat → Nat} (hp : 2 ≤ p) (h0 : IsKer p n (spE p n T uu p 1) n r0 W0) (h : IsKer p n (spE p n T uu p 1) n r VF) : prL p n T uu (padN n VF) r = prL p n T uu W0 r0 := by
  obtain ⟨rfl, e⟩ := IsKer.unique hp h0 h
  rw [prL_pad]
  exact prL_cong r0 fun i hi c hc => (e i hi c hc).symm

end Go.Proofs.YtbeodbfbfbefkaaDoor
