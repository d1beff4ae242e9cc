/- What functions of the program return, as walks over their operations; no statement of the seat is proved here. -/
import Derived.Test.YthliekalhgafcaaT5
import Derived.Test.YthliekalhgafcaaK9
set_option linter.unusedVariables false
set_option linter.unusedSimpArgs false
namespace Go.Proofs.Ythliekalhgafcaa
open Go Go.RowKit Go.Sw Go.Ech
open Classical
theorem ty_bsg_64_1 : ∀ (v0 : Nat → Nat) (w : World), (Instr.buildSlice 64 1 #[(0, .agg (vecC v0))]).run Try.prog w = .ok (.slice (some ⟨w.heap.size, 0, none⟩) 1 1) (w.alloc (.cells (vecsC 1 (vAtL [v0])) 41)) := by intros; kernel_rfl
theorem ty_ag_39 : aggP Try.prog 39 = some 224 := by kernel_rfl
theorem wl_small {n i o : Nat} (hn : n ≤ 6) (h : i + o ≤ 3) : wl n i o := ⟨by omega, by omega, Nat.le_trans (Nat.pow_le_pow_left hn _) (Nat.le_trans (Nat.pow_le_pow_right (by decide) h) (by decide))⟩
theorem tv_one {n m : Nat} {v : Nat → Nat} : ∀ c, c < m → tvF n 1 (vAtL [v]) c = (if c < n then v c else 0) := fun c _ => by
  unfold tvF
  rw [Nat.one_mul]
  by_cases h : c < n
  · rw [if_pos h, if_pos h, Nat.div_eq_of_lt h, Nat.mod_eq_of_lt h]; rfl
  · rw [if_neg h, if_neg h]
theorem vAtL1_lt {p : Nat} {v : Nat → Nat} (hp : 0 < p) (h : ∀ c, v c < p) : ∀ i c, vAtL [v] i c < p := fun i c => by
  unfold vAtL
  rw [List.getD_eq_getElem?_getD]
  cases i with
  | zero => exact h c
  | succ i => simpa using hp
/-- A vector's numbers, 0 outside of it. -/
def in6 (f : Nat → Nat) (c : Nat) : Nat := if c < 6 then f c else 0
theorem vecC_in6 {f : Nat → Nat} : vecC f = vecC (in6 f) := fnC_congr fun c hc => by unfold in6; rw [if_pos hc]
theorem algC_in6 {p n : Int} {T : Nat → Nat → Nat → Nat} {f : Nat → Nat} : algC p n T f = algC p n T (in6 f) := by
  unfold algC
  refine fnC_congr fun c hc => ?_
  by_cases h0 : c = 0
  · rw [if_pos h0, if_pos h0]
  · rw [if_neg h0, if_neg h0]
    by_cases h1 : c = 1
    · rw [if_pos h1, if_pos h1]
    · rw [if_neg h1, if_neg h1]
      by_cases h2 : c < 218
      · rw [if_pos h2, if_pos h2]
      · rw [if_neg h2, if_neg h2]; unfold in6; rw [if_pos (by omega)]

theorem FormTensorSA (p n : Int) (T : Nat → Nat → Nat → Nat) (f : Nat → Nat) (w : World) (hT : ∀ i j k, T i j k ≤ 255) (hf : ∀ i, f i ≤ 255) (hc : ¬ CodeP p n T f 0 (vAtL [])) :
    CallsR Try.prog 27 #[.agg (algC p n T f)] w (fun res _ => res = .tuple #[.agg (tenC 0 0 0 0 (.slice none 0 0)), .int .i64 1]) := by
  refine calls_fr [.agg (algC p n T f)] Try.func27 rfl Try.ntmps27 rfl fun a hF => ?_
  have hM : Mem w w [none, none, none] [] := MemX.start w 3
  change Fr 15 a [(0, .agg (algC p n T f))] at hF
  refine sq ?_
  refine wp_region_lit ?_
  refine stR hF (d_box 0 hM hF rfl) rfl ?_
  rintro _ w' a ⟨b1, rfl, hM, -⟩ hF
  change Mem w w' [some (b1, algC p n T f), none, none] [] at hM
  refine stR hF (d_alloc 1 hM ty_ze_27) rfl ?_
  rintro _ w' a ⟨b2, rfl, hM, -⟩ hF
  change Mem w w' [some (b1, algC p n T f), some (b2, tenC 0 0 0 0 (.slice none 0 0)), none] [] at hM
  refine st hF (g_assign hF rfl) rfl fun a hF => ?_
  refine wpList_nil ?_
  refine tN ?_
  refine sq ?_
  refine sq ?_
  refine wp_region_lit ?_
  refine st hF (g_loadAgg ty_ag_43 hF rfl (hM.row 0 rfl) (by simp only [fnC_size, cells_size, vecC_size, tabC_size, planeC_size, tenC_size, smC_size, numC_size] <;> omega) (whole cells_size)) rfl fun a hF => ?_
  refine stR hF (d_call Try.call53 hF (.cons rfl (.cons rfl .nil)) ((CallsR.val (l01Code_0 p n T f (vAtL []) _ (fun _ _ _ => hT _ _ _) (fun _ => hf _)) (congrArg (Value.int .i64) (if_neg hc))))) rfl ?_
  rintro _ w' a ⟨hx, rfl⟩ hF
  have hM := hM.ext hx
  refine st hF (g_assign hF rfl) rfl fun a hF => ?_
  refine wpList_nil ?_
  refine tN ?_
  refine sq ?_
  refine wp_region_lit ?_
  refine st hF (g_move hF rfl) rfl fun a hF => st hF (g_neq hF rfl rfl) rfl fun a hF => ?_
  refine wpList_nil ?_
  refine tN ?_
  refine c_kT hF rfl (by decide) ?_
  refine sq ?_
  refine wp_region_lit ?_
  refine st hF (g_build0 ty_bu_27) rfl fun a hF => st hF (g_move hF rfl) rfl fun a hF => ?_
  refine stN hF (d_storeAgg 1 hM rfl ty_sz_27 hF rfl rfl (tenC_one rfl) (by simp only [fnC_size, cells_size, vecC_size, tabC_size, planeC_size, tenC_size, smC_size, numC_size]) (by simp only [fnC_size, cells_size, vecC_size, tabC_size, planeC_size, tenC_size, smC_size, numC_size] <;> omega) (splice_whole _ _ rfl)) ?_
  intro _ w' a hM hF
  change Mem w w' [some (b1, algC p n T f), some (b2, tenC 0 0 0 0 (.slice none 0 0)), none] [] at hM
  refine st hF (g_assign hF rfl) rfl fun a hF => ?_
  refine wpList_nil ?_
  refine tN ?_
  refine wp_ret ?_
  refine tR ?_
  refine fin2 rfl hF.defers (res_agg ty_ag_27 hF rfl (hM.row 1 rfl) (by simp only [fnC_size, cells_size, vecC_size, tabC_size, planeC_size, tenC_size, smC_size, numC_size])) (res_tmp hF rfl) ⟨_, rfl, hM.below, ?_⟩
  show _ = _
  rfl

theorem FormTensorSB (p n : Nat) (T : Nat → Nat → Nat → Nat) (f : Nat → Nat) (w : World) (hp : primeN p) (hn0 : 0 < n) (hn : n ≤ 6) (hTp : ∀ i j k, T i j k < p) (hT0 : ∀ i j k, n ≤ k → T i j k = 0) (hf : ∀ i, f i ≤ 255) (hfp : ∀ c, f c < p) (hc : CodeP (p : Int) (n : Int) T f 0 (vAtL [])) :
    CallsR Try.prog 27 #[.agg (algC (p : Int) (n : Int) T f)] w (fun v w' => TenOut0 w w' (p : Int) (n : Int) ((1 : Nat) : Int) ((0 : Nat) : Int) (n ^ (1 + 0)) (fun c => if c < n then f c else 0) v) := by
  refine calls_fr [.agg (algC (p : Int) (n : Int) T f)] Try.func27 rfl Try.ntmps27 rfl fun a hF => ?_
  have hM : Mem w w [none, none, none] [] := MemX.start w 3
  change Fr 15 a [(0, .agg (algC (p : Int) (n : Int) T f))] at hF
  have hp2 := hp.two
  have hp13 := hp.le
  have hT : ∀ i j k, T i j k ≤ 255 := fun i j k => by have := hTp i j k; omega
  have hpP := hc.1.1.1
  have hw := wl_small (i := 1) (o := 0) hn (by omega)
  refine sq ?_
  refine wp_region_lit ?_
  refine stR hF (d_box 0 hM hF rfl) rfl ?_
  rintro _ w' a ⟨b1, rfl, hM, -⟩ hF
  change Mem w w' [some (b1, algC (p : Int) (n : Int) T f), none, none] [] at hM
  refine stR hF (d_alloc 1 hM ty_ze_27) rfl ?_
  rintro _ w' a ⟨b2, rfl, hM, -⟩ hF
  change Mem w w' [some (b1, algC (p : Int) (n : Int) T f), some (b2, tenC 0 0 0 0 (.slice none 0 0)), none] [] at hM
  refine st hF (g_assign hF rfl) rfl fun a hF => ?_
  refine wpList_nil ?_
  refine tN ?_
  refine sq ?_
  refine sq ?_
  refine wp_region_lit ?_
  refine st hF (g_loadAgg ty_ag_43 hF rfl (hM.row 0 rfl) (by simp only [fnC_size, cells_size, vecC_size, tabC_size, planeC_size, tenC_size, smC_size, numC_size] <;> omega) (whole cells_size)) rfl fun a hF => ?_
  refine stR hF (d_call Try.call53 hF (.cons rfl (.cons rfl .nil)) ((CallsR.val (l01Code_0 (p : Int) (n : Int) T f (vAtL []) _ (fun _ _ _ => hT _ _ _) (fun _ => hf _)) (congrArg (Value.int .i64) (if_pos hc))))) rfl ?_
  rintro _ w' a ⟨hx, rfl⟩ hF
  have hM := hM.ext hx
  refine st hF (g_assign hF rfl) rfl fun a hF => ?_
  refine wpList_nil ?_
  refine tN ?_
  refine sq ?_
  refine wp_region_lit ?_
  refine st hF (g_move hF rfl) rfl fun a hF => st hF (g_neq hF rfl rfl) rfl fun a hF => ?_
  refine wpList_nil ?_
  refine tN ?_
  refine c_kF hF rfl (by decide) ?_
  refine wp_skip ?_
  refine tN ?_
  refine sq ?_
  refine wp_region_lit ?_
  refine st hF (g_loadAgg ty_ag_43 hF rfl (hM.row 0 rfl) (by simp only [fnC_size, cells_size, vecC_size, tabC_size, planeC_size, tenC_size, smC_size, numC_size] <;> omega) (whole cells_size)) rfl fun a hF => st hF (g_fieldAddr ty_fo_43_3 hF rfl) rfl fun a hF => st hF (g_loadAgg ty_ag_41 hF rfl (hM.row 0 rfl) (by simp only [fnC_size, cells_size, vecC_size, tabC_size, planeC_size, tenC_size, smC_size, numC_size] <;> omega) (algC_form (by omega) (by omega))) rfl fun a hF => ?_
  refine stR hF (d_call Try.call59 hF (.cons rfl (.cons rfl (.cons rfl (.cons rfl .nil)))) (l03Vector_ok p n 1 0 T f f _ hn0 hn (wl_small hn (by omega)) (by rw [show 1 + 0 = 1 from rfl, Nat.pow_one]; omega) hf)) rfl ?_
  rintro _ w' a ⟨hx, b4, rfl, hge, hbk⟩ hF
  have hM := hM.fill hx 2 hbk hge
  change Mem w w' [some (b1, algC (p : Int) (n : Int) T f), some (b2, tenC 0 0 0 0 (.slice none 0 0)), some (b4, numC (n ^ (1 + 0)) (fun c => if c < n then f c else 0))] [] at hM
  refine stN hF (d_storeAgg 1 hM rfl ty_sz_27 hF rfl rfl (tenC_one rfl) (by simp only [fnC_size, cells_size, vecC_size, tabC_size, planeC_size, tenC_size, smC_size, numC_size]) (by simp only [fnC_size, cells_size, vecC_size, tabC_size, planeC_size, tenC_size, smC_size, numC_size] <;> omega) (splice_whole _ _ rfl)) ?_
  intro _ w' a hM hF
  change Mem w w' [some (b1, algC (p : Int) (n : Int) T f), some (b2, tenC (p : Int) (n : Int) ((1 : Nat) : Int) ((0 : Nat) : Int) (.slice (some ⟨b4, 0, none⟩) (n ^ (1 + 0)) (n ^ (1 + 0)))), some (b4, numC (n ^ (1 + 0)) (fun c => if c < n then f c else 0))] [] at hM
  refine st hF (g_assign hF rfl) rfl fun a hF => ?_
  refine wpList_nil ?_
  refine tN ?_
  refine wp_ret ?_
  refine fin2 rfl hF.defers (res_agg ty_ag_27 hF rfl (hM.row 1 rfl) (by simp only [fnC_size, cells_size, vecC_size, tabC_size, planeC_size, tenC_size, smC_size, numC_size])) (res_tmp hF rfl) ⟨_, rfl, hM.below, ?_⟩
  exact ⟨_, rfl, hM.ge 2 rfl, hM.row 2 rfl⟩

theorem FormTensorIA (p n : Int) (T : Nat → Nat → Nat → Nat) (f : Nat → Nat) (w : World) (hT : ∀ i j k, T i j k ≤ 255) (hf : ∀ i, f i ≤ 255) (hc : ¬ CodeP p n T f 0 (vAtL [])) :
    CallsR Try.prog 28 #[.agg (algC p n T f)] w (fun res _ => res = .tuple #[.agg (tenC 0 0 0 0 (.slice none 0 0)), .int .i64 1]) := by
  refine calls_fr [.agg (algC p n T f)] Try.func28 rfl Try.ntmps28 rfl fun a hF => ?_
  have hM : Mem w w [none, none, none, none] [] := MemX.start w 4
  change Fr 13 a [(0, .agg (algC p n T f))] at hF
  refine sq ?_
  refine wp_region_lit ?_
  refine stR hF (d_box 0 hM hF rfl) rfl ?_
  rintro _ w' a ⟨b1, rfl, hM, -⟩ hF
  change Mem w w' [some (b1, algC p n T f), none, none, none] [] at hM
  refine stR hF (d_alloc 1 hM ty_ze_27) rfl ?_
  rintro _ w' a ⟨b2, rfl, hM, -⟩ hF
  change Mem w w' [some (b1, algC p n T f), some (b2, tenC 0 0 0 0 (.slice none 0 0)), none, none] [] at hM
  refine st hF (g_assign hF rfl) rfl fun a hF => ?_
  refine wpList_nil ?_
  refine tN ?_
  refine sq ?_
  refine sq ?_
  refine wp_region_lit ?_
  refine st hF (g_loadAgg ty_ag_43 hF rfl (hM.row 0 rfl) (by simp only [fnC_size, cells_size, vecC_size, tabC_size, planeC_size, tenC_size, smC_size, numC_size] <;> omega) (whole cells_size)) rfl fun a hF => ?_
  refine stR hF (d_call Try.call57 hF (.cons rfl .nil) ((CallsR.val (IsAlgebraI_ok p n T f _ (fun _ _ _ => hT _ _ _) (fun _ => hf _)) (congrArg Value.bool (decide_eq_false (fun h => hc ⟨h, fun i hi => absurd hi (by omega)⟩)))))) rfl ?_
  rintro _ w' a ⟨hx, rfl⟩ hF
  have hM := hM.ext hx
  refine st hF (g_not hF rfl) rfl fun a hF => ?_
  refine wpList_nil ?_
  refine tN ?_
  refine c_T hF rfl ?_
  refine sq ?_
  refine wp_region_lit ?_
  refine st hF (g_build0 ty_bu_27) rfl fun a hF => ?_
  refine stN hF (d_storeAgg 1 hM rfl ty_sz_27 hF rfl rfl (tenC_one rfl) (by simp only [fnC_size, cells_size, vecC_size, tabC_size, planeC_size, tenC_size, smC_size, numC_size]) (by simp only [fnC_size, cells_size, vecC_size, tabC_size, planeC_size, tenC_size, smC_size, numC_size] <;> omega) (splice_whole _ _ rfl)) ?_
  intro _ w' a hM hF
  change Mem w w' [some (b1, algC p n T f), some (b2, tenC 0 0 0 0 (.slice none 0 0)), none, none] [] at hM
  refine st hF (g_assign hF rfl) rfl fun a hF => ?_
  refine wpList_nil ?_
  refine tN ?_
  refine wp_ret ?_
  refine tR ?_
  refine fin2 rfl hF.defers (res_agg ty_ag_27 hF rfl (hM.row 1 rfl) (by simp only [fnC_size, cells_size, vecC_size, tabC_size, planeC_size, tenC_size, smC_size, numC_size])) (res_tmp hF rfl) ⟨_, rfl, hM.below, ?_⟩
  show _ = _
  rfl

theorem FormTensorIB (p n : Nat) (T : Nat → Nat → Nat → Nat) (f : Nat → Nat) (w : World) (hp : primeN p) (hn0 : 0 < n) (hn : n ≤ 6) (hTp : ∀ i j k, T i j k < p) (hT0 : ∀ i j k, n ≤ k → T i j k = 0) (hf : ∀ i, f i ≤ 255) (hfp : ∀ c, f c < p) (hc : CodeP (p : Int) (n : Int) T f 0 (vAtL [])) :
    CallsR Try.prog 28 #[.agg (algC (p : Int) (n : Int) T f)] w (fun v w' => TenOut0 w w' (p : Int) (n : Int) ((1 : Nat) : Int) ((0 : Nat) : Int) (n ^ (1 + 0)) (tvF n 1 (vAtL [f])) v) := by
  refine calls_fr [.agg (algC (p : Int) (n : Int) T f)] Try.func28 rfl Try.ntmps28 rfl fun a hF => ?_
  have hM : Mem w w [none, none, none, none] [] := MemX.start w 4
  change Fr 13 a [(0, .agg (algC (p : Int) (n : Int) T f))] at hF
  have hp2 := hp.two
  have hp13 := hp.le
  have hT : ∀ i j k, T i j k ≤ 255 := fun i j k => by have := hTp i j k; omega
  have hpP := hc.1.1.1
  have hw := wl_small (i := 1) (o := 0) hn (by omega)
  refine sq ?_
  refine wp_region_lit ?_
  refine stR hF (d_box 0 hM hF rfl) rfl ?_
  rintro _ w' a ⟨b1, rfl, hM, -⟩ hF
  change Mem w w' [some (b1, algC (p : Int) (n : Int) T f), none, none, none] [] at hM
  refine stR hF (d_alloc 1 hM ty_ze_27) rfl ?_
  rintro _ w' a ⟨b2, rfl, hM, -⟩ hF
  change Mem w w' [some (b1, algC (p : Int) (n : Int) T f), some (b2, tenC 0 0 0 0 (.slice none 0 0)), none, none] [] at hM
  refine st hF (g_assign hF rfl) rfl fun a hF => ?_
  refine wpList_nil ?_
  refine tN ?_
  refine sq ?_
  refine sq ?_
  refine wp_region_lit ?_
  refine st hF (g_loadAgg ty_ag_43 hF rfl (hM.row 0 rfl) (by simp only [fnC_size, cells_size, vecC_size, tabC_size, planeC_size, tenC_size, smC_size, numC_size] <;> omega) (whole cells_size)) rfl fun a hF => ?_
  refine stR hF (d_call Try.call57 hF (.cons rfl .nil) ((CallsR.val (IsAlgebraI_ok (p : Int) (n : Int) T f _ (fun _ _ _ => hT _ _ _) (fun _ => hf _)) (congrArg Value.bool (decide_eq_true hc.1))))) rfl ?_
  rintro _ w' a ⟨hx, rfl⟩ hF
  have hM := hM.ext hx
  refine st hF (g_not hF rfl) rfl fun a hF => ?_
  refine wpList_nil ?_
  refine tN ?_
  refine c_Fl hF rfl ?_
  refine wp_skip ?_
  refine tN ?_
  refine sq ?_
  refine wp_region_lit ?_
  refine st hF (g_loadAgg ty_ag_43 hF rfl (hM.row 0 rfl) (by simp only [fnC_size, cells_size, vecC_size, tabC_size, planeC_size, tenC_size, smC_size, numC_size] <;> omega) (whole cells_size)) rfl fun a hF => st hF (g_fieldAddr ty_fo_43_3 hF rfl) rfl fun a hF => st hF (g_loadAgg ty_ag_41 hF rfl (hM.row 0 rfl) (by simp only [fnC_size, cells_size, vecC_size, tabC_size, planeC_size, tenC_size, smC_size, numC_size] <;> omega) (algC_form (by omega) (by omega))) rfl fun a hF => ?_
  refine stR hF (d_buildC (vs := [(0, .agg (vecC f))]) 2 hM hF (build1 hF rfl) (fun w => ty_bsg_64_1 f w)) rfl ?_
  rintro _ w' a ⟨b4, rfl, hM, -⟩ hF
  change Mem w w' [some (b1, algC (p : Int) (n : Int) T f), some (b2, tenC 0 0 0 0 (.slice none 0 0)), some (b4, vecsC 1 (vAtL [f])), none] [] at hM
  refine stR hF (d_call Try.call58 hF (.cons rfl (.cons rfl (.cons rfl (.cons rfl .nil)))) (tensorOfVectors_ok p n 1 0 b4 (1) 1 T f (vAtL [f]) _ hpP hn0 hn (wl_small hn (by omega)) (by rw [show 1 + 0 = 1 from rfl, Nat.pow_one]; omega) (vAtL1_lt (by omega) hfp) (hM.row 2 rfl))) rfl ?_
  rintro _ w' a ⟨hx, b5, rfl, hge, hbk⟩ hF
  have hM := hM.fill hx 3 hbk hge
  change Mem w w' [some (b1, algC (p : Int) (n : Int) T f), some (b2, tenC 0 0 0 0 (.slice none 0 0)), some (b4, vecsC 1 (vAtL [f])), some (b5, numC (n ^ (1 + 0)) (tvF n 1 (vAtL [f])))] [] at hM
  refine stN hF (d_storeAgg 1 hM rfl ty_sz_27 hF rfl rfl (tenC_one rfl) (by simp only [fnC_size, cells_size, vecC_size, tabC_size, planeC_size, tenC_size, smC_size, numC_size]) (by simp only [fnC_size, cells_size, vecC_size, tabC_size, planeC_size, tenC_size, smC_size, numC_size] <;> omega) (splice_whole _ _ rfl)) ?_
  intro _ w' a hM hF
  change Mem w w' [some (b1, algC (p : Int) (n : Int) T f), some (b2, tenC (p : Int) (n : Int) ((1 : Nat) : Int) ((0 : Nat) : Int) (.slice (some ⟨b5, 0, none⟩) (n ^ (1 + 0)) (n ^ (1 + 0)))), some (b4, vecsC 1 (vAtL [f])), some (b5, numC (n ^ (1 + 0)) (tvF n 1 (vAtL [f])))] [] at hM
  refine st hF (g_assign hF rfl) rfl fun a hF => ?_
  refine wpList_nil ?_
  refine tN ?_
  refine wp_ret ?_
  refine fin2 rfl hF.defers (res_agg ty_ag_27 hF rfl (hM.row 1 rfl) (by simp only [fnC_size, cells_size, vecC_size, tabC_size, planeC_size, tenC_size, smC_size, numC_size])) (res_tmp hF rfl) ⟨_, rfl, hM.below, ?_⟩
  exact ⟨_, rfl, hM.ge 3 rfl, hM.row 3 rfl⟩

theorem UnitTensorSA (p n : Int) (T : Nat → Nat → Nat → Nat) (f : Nat → Nat) (w : World) (hT : ∀ i j k, T i j k ≤ 255) (hf : ∀ i, f i ≤ 255) (hc : ¬ CodeP p n T f 0 (vAtL [])) :
    CallsR Try.prog 25 #[.agg (algC p n T f)] w (fun res _ => res = .tuple #[.agg (tenC 0 0 0 0 (.slice none 0 0)), .int .i64 1]) := by
  refine calls_fr [.agg (algC p n T f)] Try.func25 rfl Try.ntmps25 rfl fun a hF => ?_
  have hM : Mem w w [none, none, none] [] := MemX.start w 3
  change Fr 15 a [(0, .agg (algC p n T f))] at hF
  refine sq ?_
  refine wp_region_lit ?_
  refine stR hF (d_box 0 hM hF rfl) rfl ?_
  rintro _ w' a ⟨b1, rfl, hM, -⟩ hF
  change Mem w w' [some (b1, algC p n T f), none, none] [] at hM
  refine stR hF (d_alloc 1 hM ty_ze_27) rfl ?_
  rintro _ w' a ⟨b2, rfl, hM, -⟩ hF
  change Mem w w' [some (b1, algC p n T f), some (b2, tenC 0 0 0 0 (.slice none 0 0)), none] [] at hM
  refine st hF (g_assign hF rfl) rfl fun a hF => ?_
  refine wpList_nil ?_
  refine tN ?_
  refine sq ?_
  refine sq ?_
  refine wp_region_lit ?_
  refine st hF (g_loadAgg ty_ag_43 hF rfl (hM.row 0 rfl) (by simp only [fnC_size, cells_size, vecC_size, tabC_size, planeC_size, tenC_size, smC_size, numC_size] <;> omega) (whole cells_size)) rfl fun a hF => ?_
  refine stR hF (d_call Try.call53 hF (.cons rfl (.cons rfl .nil)) ((CallsR.val (l01Code_0 p n T f (vAtL []) _ (fun _ _ _ => hT _ _ _) (fun _ => hf _)) (congrArg (Value.int .i64) (if_neg hc))))) rfl ?_
  rintro _ w' a ⟨hx, rfl⟩ hF
  have hM := hM.ext hx
  refine st hF (g_assign hF rfl) rfl fun a hF => ?_
  refine wpList_nil ?_
  refine tN ?_
  refine sq ?_
  refine wp_region_lit ?_
  refine st hF (g_move hF rfl) rfl fun a hF => st hF (g_neq hF rfl rfl) rfl fun a hF => ?_
  refine wpList_nil ?_
  refine tN ?_
  refine c_kT hF rfl (by decide) ?_
  refine sq ?_
  refine wp_region_lit ?_
  refine st hF (g_build0 ty_bu_27) rfl fun a hF => st hF (g_move hF rfl) rfl fun a hF => ?_
  refine stN hF (d_storeAgg 1 hM rfl ty_sz_27 hF rfl rfl (tenC_one rfl) (by simp only [fnC_size, cells_size, vecC_size, tabC_size, planeC_size, tenC_size, smC_size, numC_size]) (by simp only [fnC_size, cells_size, vecC_size, tabC_size, planeC_size, tenC_size, smC_size, numC_size] <;> omega) (splice_whole _ _ rfl)) ?_
  intro _ w' a hM hF
  change Mem w w' [some (b1, algC p n T f), some (b2, tenC 0 0 0 0 (.slice none 0 0)), none] [] at hM
  refine st hF (g_assign hF rfl) rfl fun a hF => ?_
  refine wpList_nil ?_
  refine tN ?_
  refine wp_ret ?_
  refine tR ?_
  refine fin2 rfl hF.defers (res_agg ty_ag_27 hF rfl (hM.row 1 rfl) (by simp only [fnC_size, cells_size, vecC_size, tabC_size, planeC_size, tenC_size, smC_size, numC_size])) (res_tmp hF rfl) ⟨_, rfl, hM.below, ?_⟩
  show _ = _
  rfl

theorem UnitTensorSB (p n : Nat) (T : Nat → Nat → Nat → Nat) (f : Nat → Nat) (w : World) (hp : primeN p) (hn0 : 0 < n) (hn : n ≤ 6) (hTp : ∀ i j k, T i j k < p) (hT0 : ∀ i j k, n ≤ k → T i j k = 0) (hf : ∀ i, f i ≤ 255) (uu : Nat → Nat) (huu : UnitI p n T uu) (hc : CodeP (p : Int) (n : Int) T f 0 (vAtL [])) :
    CallsR Try.prog 25 #[.agg (algC (p : Int) (n : Int) T f)] w (fun v w' => TenOut0 w w' (p : Int) (n : Int) ((0 : Nat) : Int) ((1 : Nat) : Int) (n ^ (0 + 1)) (fun c => if c < n then uu c else 0) v) := by
  refine calls_fr [.agg (algC (p : Int) (n : Int) T f)] Try.func25 rfl Try.ntmps25 rfl fun a hF => ?_
  have hM : Mem w w [none, none, none] [] := MemX.start w 3
  change Fr 15 a [(0, .agg (algC (p : Int) (n : Int) T f))] at hF
  have hp2 := hp.two
  have hp13 := hp.le
  have hT : ∀ i j k, T i j k ≤ 255 := fun i j k => by have := hTp i j k; omega
  have hpP := hc.1.1.1
  have hw := wl_small (i := 0) (o := 1) hn (by omega)
  refine sq ?_
  refine wp_region_lit ?_
  refine stR hF (d_box 0 hM hF rfl) rfl ?_
  rintro _ w' a ⟨b1, rfl, hM, -⟩ hF
  change Mem w w' [some (b1, algC (p : Int) (n : Int) T f), none, none] [] at hM
  refine stR hF (d_alloc 1 hM ty_ze_27) rfl ?_
  rintro _ w' a ⟨b2, rfl, hM, -⟩ hF
  change Mem w w' [some (b1, algC (p : Int) (n : Int) T f), some (b2, tenC 0 0 0 0 (.slice none 0 0)), none] [] at hM
  refine st hF (g_assign hF rfl) rfl fun a hF => ?_
  refine wpList_nil ?_
  refine tN ?_
  refine sq ?_
  refine sq ?_
  refine wp_region_lit ?_
  refine st hF (g_loadAgg ty_ag_43 hF rfl (hM.row 0 rfl) (by simp only [fnC_size, cells_size, vecC_size, tabC_size, planeC_size, tenC_size, smC_size, numC_size] <;> omega) (whole cells_size)) rfl fun a hF => ?_
  refine stR hF (d_call Try.call53 hF (.cons rfl (.cons rfl .nil)) ((CallsR.val (l01Code_0 (p : Int) (n : Int) T f (vAtL []) _ (fun _ _ _ => hT _ _ _) (fun _ => hf _)) (congrArg (Value.int .i64) (if_pos hc))))) rfl ?_
  rintro _ w' a ⟨hx, rfl⟩ hF
  have hM := hM.ext hx
  refine st hF (g_assign hF rfl) rfl fun a hF => ?_
  refine wpList_nil ?_
  refine tN ?_
  refine sq ?_
  refine wp_region_lit ?_
  refine st hF (g_move hF rfl) rfl fun a hF => st hF (g_neq hF rfl rfl) rfl fun a hF => ?_
  refine wpList_nil ?_
  refine tN ?_
  refine c_kF hF rfl (by decide) ?_
  refine wp_skip ?_
  refine tN ?_
  refine sq ?_
  refine c_par 3 [] [.val (.agg (algC (p : Int) (n : Int) T f)), .val (.agg (algC (p : Int) (n : Int) T f)), .val (.agg (vecC uu))] hmix rfl hF rfl hM ⟨fun a w g hF hS hd => by have hM := hS.mem rfl; exact par_val hS rfl (g_loadAgg ty_ag_43 hF rfl (hM.row 0 rfl) (by simp only [fnC_size, cells_size, vecC_size, tabC_size, planeC_size, tenC_size, smC_size, numC_size] <;> omega) (whole cells_size)), fun a w g hF hS hd => by have hM := hS.mem rfl; exact par_val hS rfl (g_loadAgg ty_ag_43 hF rfl (hM.row 0 rfl) (by simp only [fnC_size, cells_size, vecC_size, tabC_size, planeC_size, tenC_size, smC_size, numC_size] <;> omega) (whole cells_size)), fun a w g hF hS hd => by have hF := hF.ext1 12 (hd 1 rfl rfl); exact par_call (by repeat constructor) hS rfl (d_call Try.call60 hF (.cons rfl .nil) (l01Unit_ok p n T f _ hp hn0 hn hTp uu huu)), trivial⟩ ?_
  intro a w' L hF hS hq
  have hF := hF.ext1 11 (hq 0 rfl rfl)
  have hF := hF.ext1 12 (hq 1 rfl rfl)
  have hF := hF.ext1 13 (hq 2 rfl rfl)
  have hM := hS.mem rfl
  change wpList Try.prog _ _ [_, _, _] _ _
  refine stR hF (d_call Try.call59 hF (.cons rfl (.cons rfl (.cons rfl (.cons rfl .nil)))) (l03Vector_ok p n 0 1 T f uu _ hn0 hn (wl_small hn (by omega)) (by rw [show 0 + 1 = 1 from rfl, Nat.pow_one]; omega) (fun c => by have := huu.1 c; omega))) rfl ?_
  rintro _ w' a ⟨hx, b4, rfl, hge, hbk⟩ hF
  have hM := hM.fill hx 2 hbk hge
  change Mem w w' [some (b1, algC (p : Int) (n : Int) T f), some (b2, tenC 0 0 0 0 (.slice none 0 0)), some (b4, numC (n ^ (0 + 1)) (fun c => if c < n then uu c else 0))] [] at hM
  refine stN hF (d_storeAgg 1 hM rfl ty_sz_27 hF rfl rfl (tenC_one rfl) (by simp only [fnC_size, cells_size, vecC_size, tabC_size, planeC_size, tenC_size, smC_size, numC_size]) (by simp only [fnC_size, cells_size, vecC_size, tabC_size, planeC_size, tenC_size, smC_size, numC_size] <;> omega) (splice_whole _ _ rfl)) ?_
  intro _ w' a hM hF
  change Mem w w' [some (b1, algC (p : Int) (n : Int) T f), some (b2, tenC (p : Int) (n : Int) ((0 : Nat) : Int) ((1 : Nat) : Int) (.slice (some ⟨b4, 0, none⟩) (n ^ (0 + 1)) (n ^ (0 + 1)))), some (b4, numC (n ^ (0 + 1)) (fun c => if c < n then uu c else 0))] [] at hM
  refine st hF (g_assign hF rfl) rfl fun a hF => ?_
  refine wpList_nil ?_
  refine tN ?_
  refine wp_ret ?_
  refine fin2 rfl hF.defers (res_agg ty_ag_27 hF rfl (hM.row 1 rfl) (by simp only [fnC_size, cells_size, vecC_size, tabC_size, planeC_size, tenC_size, smC_size, numC_size])) (res_tmp hF rfl) ⟨_, rfl, hM.below, ?_⟩
  exact ⟨_, rfl, hM.ge 2 rfl, hM.row 2 rfl⟩

theorem UnitTensorIA (p n : Int) (T : Nat → Nat → Nat → Nat) (f : Nat → Nat) (w : World) (hT : ∀ i j k, T i j k ≤ 255) (hf : ∀ i, f i ≤ 255) (hc : ¬ CodeP p n T f 0 (vAtL [])) :
    CallsR Try.prog 26 #[.agg (algC p n T f)] w (fun res _ => res = .tuple #[.agg (tenC 0 0 0 0 (.slice none 0 0)), .int .i64 1]) := by
  refine calls_fr [.agg (algC p n T f)] Try.func26 rfl Try.ntmps26 rfl fun a hF => ?_
  have hM : Mem w w [none, none, none, none, none] [] := MemX.start w 5
  change Fr 19 a [(0, .agg (algC p n T f))] at hF
  refine sq ?_
  refine wp_region_lit ?_
  refine stR hF (d_box 0 hM hF rfl) rfl ?_
  rintro _ w' a ⟨b1, rfl, hM, -⟩ hF
  change Mem w w' [some (b1, algC p n T f), none, none, none, none] [] at hM
  refine stR hF (d_alloc 1 hM ty_ze_27) rfl ?_
  rintro _ w' a ⟨b2, rfl, hM, -⟩ hF
  change Mem w w' [some (b1, algC p n T f), some (b2, tenC 0 0 0 0 (.slice none 0 0)), none, none, none] [] at hM
  refine st hF (g_assign hF rfl) rfl fun a hF => ?_
  refine wpList_nil ?_
  refine tN ?_
  refine sq ?_
  refine wp_region_lit ?_
  refine st hF (g_loadAgg ty_ag_43 hF rfl (hM.row 0 rfl) (by simp only [fnC_size, cells_size, vecC_size, tabC_size, planeC_size, tenC_size, smC_size, numC_size] <;> omega) (whole cells_size)) rfl fun a hF => ?_
  refine stR hF (d_call Try.call61 hF (.cons rfl .nil) (UnitOfIA p n T f  _ hT hf   hc)) rfl ?_
  rintro _ w' a ⟨hx, rfl⟩ hF
  have hM := hM.ext hx
  refine st hF (g_move hF rfl) rfl fun a hF => st hF (g_extract hF rfl rfl) rfl fun a hF => st hF (g_extract hF rfl rfl) rfl fun a hF => ?_
  refine stR hF (d_alloc 2 hM ty_ze_41) rfl ?_
  rintro _ w' a ⟨b3, rfl, hM, -⟩ hF
  change Mem w w' [some (b1, algC p n T f), some (b2, tenC 0 0 0 0 (.slice none 0 0)), some (b3, fnC 6 (fun _ => .int .u8 (0))), none, none] [] at hM
  refine stN hF (d_storeAgg 2 hM rfl ty_sz_41 hF rfl rfl (by first | exact vecC_one | exact cells_one | (refine fnC_one fun _ _ => ?_; first | rfl | (split <;> rfl))) (by simp only [fnC_size, cells_size, vecC_size, tabC_size, planeC_size, tenC_size, smC_size, numC_size]) (by simp only [fnC_size, cells_size, vecC_size, tabC_size, planeC_size, tenC_size, smC_size, numC_size] <;> omega) (splice_whole _ _ (by simp only [fnC_size, cells_size, vecC_size, tabC_size, planeC_size, tenC_size, smC_size, numC_size]))) ?_
  intro _ w' a hM hF
  change Mem w w' [some (b1, algC p n T f), some (b2, tenC 0 0 0 0 (.slice none 0 0)), some (b3, vecC (fun _ => 0)), none, none] [] at hM
  refine st hF (g_assign hF rfl) rfl fun a hF => ?_
  refine wpList_nil ?_
  refine tN ?_
  refine sq ?_
  refine sq ?_
  refine wp_region_lit ?_
  refine st hF (g_move hF rfl) rfl fun a hF => st hF (g_neq hF rfl rfl) rfl fun a hF => ?_
  refine wpList_nil ?_
  refine tN ?_
  refine c_kT hF rfl (by decide) ?_
  refine sq ?_
  refine wp_region_lit ?_
  refine st hF (g_build0 ty_bu_27) rfl fun a hF => st hF (g_move hF rfl) rfl fun a hF => ?_
  refine stN hF (d_storeAgg 1 hM rfl ty_sz_27 hF rfl rfl (tenC_one rfl) (by simp only [fnC_size, cells_size, vecC_size, tabC_size, planeC_size, tenC_size, smC_size, numC_size]) (by simp only [fnC_size, cells_size, vecC_size, tabC_size, planeC_size, tenC_size, smC_size, numC_size] <;> omega) (splice_whole _ _ rfl)) ?_
  intro _ w' a hM hF
  change Mem w w' [some (b1, algC p n T f), some (b2, tenC 0 0 0 0 (.slice none 0 0)), some (b3, vecC (fun _ => 0)), none, none] [] at hM
  refine st hF (g_assign hF rfl) rfl fun a hF => ?_
  refine wpList_nil ?_
  refine tN ?_
  refine wp_ret ?_
  refine tR ?_
  refine fin2 rfl hF.defers (res_agg ty_ag_27 hF rfl (hM.row 1 rfl) (by simp only [fnC_size, cells_size, vecC_size, tabC_size, planeC_size, tenC_size, smC_size, numC_size])) (res_tmp hF rfl) ⟨_, rfl, hM.below, ?_⟩
  show _ = _
  rfl

theorem UnitTensorIB (p n : Nat) (T : Nat → Nat → Nat → Nat) (f : Nat → Nat) (w : World) (hp : primeN p) (hn0 : 0 < n) (hn : n ≤ 6) (hTp : ∀ i j k, T i j k < p) (hT0 : ∀ i j k, n ≤ k → T i j k = 0) (hf : ∀ i, f i ≤ 255) (uu : Nat → Nat) (huu : UnitI p n T uu) (hc : CodeP (p : Int) (n : Int) T f 0 (vAtL [])) :
    CallsR Try.prog 26 #[.agg (algC (p : Int) (n : Int) T f)] w (fun v w' => TenOut0 w w' (p : Int) (n : Int) ((0 : Nat) : Int) ((1 : Nat) : Int) (n ^ (0 + 1)) (tvF n 1 (vAtL [uu])) v) := by
  refine calls_fr [.agg (algC (p : Int) (n : Int) T f)] Try.func26 rfl Try.ntmps26 rfl fun a hF => ?_
  have hM : Mem w w [none, none, none, none, none] [] := MemX.start w 5
  change Fr 19 a [(0, .agg (algC (p : Int) (n : Int) T f))] at hF
  have hp2 := hp.two
  have hp13 := hp.le
  have hT : ∀ i j k, T i j k ≤ 255 := fun i j k => by have := hTp i j k; omega
  have hpP := hc.1.1.1
  have hw := wl_small (i := 0) (o := 1) hn (by omega)
  refine sq ?_
  refine wp_region_lit ?_
  refine stR hF (d_box 0 hM hF rfl) rfl ?_
  rintro _ w' a ⟨b1, rfl, hM, -⟩ hF
  change Mem w w' [some (b1, algC (p : Int) (n : Int) T f), none, none, none, none] [] at hM
  refine stR hF (d_alloc 1 hM ty_ze_27) rfl ?_
  rintro _ w' a ⟨b2, rfl, hM, -⟩ hF
  change Mem w w' [some (b1, algC (p : Int) (n : Int) T f), some (b2, tenC 0 0 0 0 (.slice none 0 0)), none, none, none] [] at hM
  refine st hF (g_assign hF rfl) rfl fun a hF => ?_
  refine wpList_nil ?_
  refine tN ?_
  refine sq ?_
  refine wp_region_lit ?_
  refine st hF (g_loadAgg ty_ag_43 hF rfl (hM.row 0 rfl) (by simp only [fnC_size, cells_size, vecC_size, tabC_size, planeC_size, tenC_size, smC_size, numC_size] <;> omega) (whole cells_size)) rfl fun a hF => ?_
  refine stR hF (d_call Try.call61 hF (.cons rfl .nil) (UnitOfIB p n T f  _ hp hn0 hn hTp hT0 hf  uu huu hc)) rfl ?_
  rintro _ w' a ⟨hx, rfl⟩ hF
  have hM := hM.ext hx
  refine st hF (g_move hF rfl) rfl fun a hF => st hF (g_extract hF rfl rfl) rfl fun a hF => st hF (g_extract hF rfl rfl) rfl fun a hF => ?_
  refine stR hF (d_alloc 2 hM ty_ze_41) rfl ?_
  rintro _ w' a ⟨b3, rfl, hM, -⟩ hF
  change Mem w w' [some (b1, algC (p : Int) (n : Int) T f), some (b2, tenC 0 0 0 0 (.slice none 0 0)), some (b3, fnC 6 (fun _ => .int .u8 (0))), none, none] [] at hM
  refine stN hF (d_storeAgg 2 hM rfl ty_sz_41 hF rfl rfl (by first | exact vecC_one | exact cells_one | (refine fnC_one fun _ _ => ?_; first | rfl | (split <;> rfl))) (by simp only [fnC_size, cells_size, vecC_size, tabC_size, planeC_size, tenC_size, smC_size, numC_size]) (by simp only [fnC_size, cells_size, vecC_size, tabC_size, planeC_size, tenC_size, smC_size, numC_size] <;> omega) (splice_whole _ _ (by simp only [fnC_size, cells_size, vecC_size, tabC_size, planeC_size, tenC_size, smC_size, numC_size]))) ?_
  intro _ w' a hM hF
  change Mem w w' [some (b1, algC (p : Int) (n : Int) T f), some (b2, tenC 0 0 0 0 (.slice none 0 0)), some (b3, vecC uu), none, none] [] at hM
  refine st hF (g_assign hF rfl) rfl fun a hF => ?_
  refine wpList_nil ?_
  refine tN ?_
  refine sq ?_
  refine sq ?_
  refine wp_region_lit ?_
  refine st hF (g_move hF rfl) rfl fun a hF => st hF (g_neq hF rfl rfl) rfl fun a hF => ?_
  refine wpList_nil ?_
  refine tN ?_
  refine c_kF hF rfl (by decide) ?_
  refine wp_skip ?_
  refine tN ?_
  refine sq ?_
  refine wp_region_lit ?_
  refine st hF (g_loadAgg ty_ag_43 hF rfl (hM.row 0 rfl) (by simp only [fnC_size, cells_size, vecC_size, tabC_size, planeC_size, tenC_size, smC_size, numC_size] <;> omega) (whole cells_size)) rfl fun a hF => st hF (g_loadAgg ty_ag_41 hF rfl (hM.row 2 rfl) (by simp only [fnC_size, cells_size, vecC_size, tabC_size, planeC_size, tenC_size, smC_size, numC_size] <;> omega) (whole (by simp only [fnC_size, cells_size, vecC_size, tabC_size, planeC_size, tenC_size, smC_size, numC_size]))) rfl fun a hF => ?_
  refine stR hF (d_buildC (vs := [(0, .agg (vecC uu))]) 3 hM hF (build1 hF rfl) (fun w => ty_bsg_64_1 uu w)) rfl ?_
  rintro _ w' a ⟨b5, rfl, hM, -⟩ hF
  change Mem w w' [some (b1, algC (p : Int) (n : Int) T f), some (b2, tenC 0 0 0 0 (.slice none 0 0)), some (b3, vecC uu), some (b5, vecsC 1 (vAtL [uu])), none] [] at hM
  refine stR hF (d_call Try.call58 hF (.cons rfl (.cons rfl (.cons rfl (.cons rfl .nil)))) (tensorOfVectors_ok p n 0 1 b5 (1) 1 T f (vAtL [uu]) _ hpP hn0 hn (wl_small hn (by omega)) (by rw [show 0 + 1 = 1 from rfl, Nat.pow_one]; omega) (vAtL1_lt (by omega) huu.1) (hM.row 3 rfl))) rfl ?_
  rintro _ w' a ⟨hx, b6, rfl, hge, hbk⟩ hF
  have hM := hM.fill hx 4 hbk hge
  change Mem w w' [some (b1, algC (p : Int) (n : Int) T f), some (b2, tenC 0 0 0 0 (.slice none 0 0)), some (b3, vecC uu), some (b5, vecsC 1 (vAtL [uu])), some (b6, numC (n ^ (0 + 1)) (tvF n 1 (vAtL [uu])))] [] at hM
  refine stN hF (d_storeAgg 1 hM rfl ty_sz_27 hF rfl rfl (tenC_one rfl) (by simp only [fnC_size, cells_size, vecC_size, tabC_size, planeC_size, tenC_size, smC_size, numC_size]) (by simp only [fnC_size, cells_size, vecC_size, tabC_size, planeC_size, tenC_size, smC_size, numC_size] <;> omega) (splice_whole _ _ rfl)) ?_
  intro _ w' a hM hF
  change Mem w w' [some (b1, algC (p : Int) (n : Int) T f), some (b2, tenC (p : Int) (n : Int) ((0 : Nat) : Int) ((1 : Nat) : Int) (.slice (some ⟨b6, 0, none⟩) (n ^ (0 + 1)) (n ^ (0 + 1)))), some (b3, vecC uu), some (b5, vecsC 1 (vAtL [uu])), some (b6, numC (n ^ (0 + 1)) (tvF n 1 (vAtL [uu])))] [] at hM
  refine st hF (g_assign hF rfl) rfl fun a hF => ?_
  refine wpList_nil ?_
  refine tN ?_
  refine wp_ret ?_
  refine fin2 rfl hF.defers (res_agg ty_ag_27 hF rfl (hM.row 1 rfl) (by simp only [fnC_size, cells_size, vecC_size, tabC_size, planeC_size, tenC_size, smC_size, numC_size])) (res_tmp hF rfl) ⟨_, rfl, hM.below, ?_⟩
  exact ⟨_, rfl, hM.ge 4 rfl, hM.row 4 rfl⟩

theorem okV_in6 {p n : Int} {f : Nat → Nat} : okV p n f ↔ okV p n (in6 f) := by
  unfold okV
  constructor
  · intro h i hi; have := h i hi; unfold in6; rw [if_pos hi]; exact this
  · intro h i hi; have := h i hi; unfold in6 at this; rw [if_pos hi] at this; exact this
theorem in6_lt {p : Nat} {n : Int} {f : Nat → Nat} (hp : 0 < p) (h : okV (p : Int) n f) : ∀ c, in6 f c < p := fun c => by
  unfold in6; split
  · rename_i hc; have := h c hc; unfold okN at this; omega
  · exact hp
theorem in6_le {f : Nat → Nat} (h : ∀ i, f i ≤ 255) : ∀ c, in6 f c ≤ 255 := fun c => by
  unfold in6; split
  · exact h c
  · omega
theorem code_in6 {p n : Int} {T : Nat → Nat → Nat → Nat} {f : Nat → Nat} {m : Nat} {V : Nat → Nat → Nat} (h : CodeP p n T f m V) : CodeP p n T (in6 f) m V :=
  ⟨⟨⟨h.1.1.1, h.1.1.2.1, okV_in6.1 h.1.1.2.2.1, h.1.1.2.2.2⟩, h.1.2⟩, h.2⟩

theorem law_FormTensorA (p n : Int) (T : Nat → Nat → Nat → Nat) (f : Nat → Nat) (w : World) (hT : ∀ i j k, T i j k ≤ 255) (hf : ∀ i, f i ≤ 255) (hc : ¬ CodeP p n T f 0 (vAtL [])) :
    CallsR Try.prog 7 #[.agg (algC p n T f)] w (fun res _ => res = .bool true) := by
  refine calls_fr [.agg (algC p n T f)] Try.func7 rfl Try.ntmps7 rfl fun a hF => ?_
  have hM : Mem w w [none, none, none, none] [] := MemX.start w 4
  change Fr 66 a [(0, .agg (algC p n T f))] at hF
  refine sq ?_
  refine wp_region_lit ?_
  refine stR hF (d_box 0 hM hF rfl) rfl ?_
  rintro _ w' a ⟨b1, rfl, hM, -⟩ hF
  change Mem w w' [some (b1, algC p n T f), none, none, none] [] at hM
  refine st hF (g_assign hF rfl) rfl fun a hF => ?_
  refine wpList_nil ?_
  refine tN ?_
  refine sq ?_
  refine wp_region_lit ?_
  refine st hF (g_loadAgg ty_ag_39 hF rfl (hM.row 0 rfl) (by simp only [fnC_size, cells_size, vecC_size, tabC_size, planeC_size, tenC_size, smC_size, numC_size] <;> omega) (whole cells_size)) rfl fun a hF => ?_
  refine stR hF (d_call Try.call23 hF (.cons rfl .nil) (toAlgebra_ok p n T f _)) rfl ?_
  rintro _ w' a ⟨hx, rfl⟩ hF
  have hM := hM.ext hx
  refine stR hF (d_call Try.call27 hF (.cons rfl .nil) (FormTensorSA p n T f _ hT hf hc)) rfl ?_
  rintro _ w' a ⟨hx, rfl⟩ hF
  have hM := hM.ext hx
  refine st hF (g_move hF rfl) rfl fun a hF => st hF (g_extract hF rfl rfl) rfl fun a hF => st hF (g_extract hF rfl rfl) rfl fun a hF => ?_
  refine stR hF (d_alloc 1 hM ty_ze_27) rfl ?_
  rintro _ w' a ⟨b2, rfl, hM, -⟩ hF
  change Mem w w' [some (b1, algC p n T f), some (b2, tenC 0 0 0 0 (.slice none 0 0)), none, none] [] at hM
  refine stN hF (d_storeAgg 1 hM rfl ty_sz_27 hF rfl rfl (tenC_one rfl) (by simp only [fnC_size, cells_size, vecC_size, tabC_size, planeC_size, tenC_size, smC_size, numC_size]) (by simp only [fnC_size, cells_size, vecC_size, tabC_size, planeC_size, tenC_size, smC_size, numC_size] <;> omega) (splice_whole _ _ rfl)) ?_
  intro _ w' a hM hF
  change Mem w w' [some (b1, algC p n T f), some (b2, tenC 0 0 0 0 (.slice none 0 0)), none, none] [] at hM
  refine st hF (g_assign hF rfl) rfl fun a hF => ?_
  refine wpList_nil ?_
  refine tN ?_
  refine sq ?_
  refine wp_region_lit ?_
  refine st hF (g_loadAgg ty_ag_39 hF rfl (hM.row 0 rfl) (by simp only [fnC_size, cells_size, vecC_size, tabC_size, planeC_size, tenC_size, smC_size, numC_size] <;> omega) (whole cells_size)) rfl fun a hF => ?_
  refine stR hF (d_call Try.call23 hF (.cons rfl .nil) (toAlgebra_ok p n T f _)) rfl ?_
  rintro _ w' a ⟨hx, rfl⟩ hF
  have hM := hM.ext hx
  refine stR hF (d_call Try.call28 hF (.cons rfl .nil) (FormTensorIA p n T f _ hT hf hc)) rfl ?_
  rintro _ w' a ⟨hx, rfl⟩ hF
  have hM := hM.ext hx
  refine st hF (g_move hF rfl) rfl fun a hF => st hF (g_extract hF rfl rfl) rfl fun a hF => st hF (g_extract hF rfl rfl) rfl fun a hF => ?_
  refine stR hF (d_alloc 2 hM ty_ze_27) rfl ?_
  rintro _ w' a ⟨b3, rfl, hM, -⟩ hF
  change Mem w w' [some (b1, algC p n T f), some (b2, tenC 0 0 0 0 (.slice none 0 0)), some (b3, tenC 0 0 0 0 (.slice none 0 0)), none] [] at hM
  refine stN hF (d_storeAgg 2 hM rfl ty_sz_27 hF rfl rfl (tenC_one rfl) (by simp only [fnC_size, cells_size, vecC_size, tabC_size, planeC_size, tenC_size, smC_size, numC_size]) (by simp only [fnC_size, cells_size, vecC_size, tabC_size, planeC_size, tenC_size, smC_size, numC_size] <;> omega) (splice_whole _ _ rfl)) ?_
  intro _ w' a hM hF
  change Mem w w' [some (b1, algC p n T f), some (b2, tenC 0 0 0 0 (.slice none 0 0)), some (b3, tenC 0 0 0 0 (.slice none 0 0)), none] [] at hM
  refine st hF (g_assign hF rfl) rfl fun a hF => ?_
  refine wpList_nil ?_
  refine tN ?_
  refine sq ?_
  refine sq ?_
  refine wp_region_lit ?_
  refine st hF (g_loadAgg ty_ag_27 hF rfl (hM.row 2 rfl) (by simp only [fnC_size, cells_size, vecC_size, tabC_size, planeC_size, tenC_size, smC_size, numC_size] <;> omega) (whole rfl)) rfl fun a hF => st hF (g_loadAgg ty_ag_27 hF rfl (hM.row 1 rfl) (by simp only [fnC_size, cells_size, vecC_size, tabC_size, planeC_size, tenC_size, smC_size, numC_size] <;> omega) (whole rfl)) rfl fun a hF => ?_
  refine stR hF (d_call Try.call17 hF (.cons rfl (.cons rfl .nil)) (eqTensor_0 _)) rfl ?_
  rintro _ w' a ⟨hx, rfl⟩ hF
  have hM := hM.ext hx
  refine st hF (g_not hF rfl) rfl fun a hF => st hF (g_move hF rfl) rfl fun a hF => stY hF rfl rfl rfl (g_move hF rfl) rfl fun a hF => stY hF rfl rfl rfl (g_move hF rfl) rfl fun a hF => stY hF rfl rfl rfl (g_neq hF rfl rfl) rfl fun a hF => st hF (g_pickF hF rfl rfl) rfl fun a hF => ?_
  refine wpList_nil ?_
  refine tN ?_
  refine c_kF hF rfl (by decide) ?_
  refine wp_skip ?_
  refine tN ?_
  refine sq ?_
  refine wp_region_lit ?_
  refine st hF (g_assign hF rfl) rfl fun a hF => ?_
  refine wpList_nil ?_
  refine tN ?_
  refine sq ?_
  refine wp_region_lit ?_
  refine st hF (g_loadAgg ty_ag_27 hF rfl (hM.row 2 rfl) (by simp only [fnC_size, cells_size, vecC_size, tabC_size, planeC_size, tenC_size, smC_size, numC_size] <;> omega) (whole rfl)) rfl fun a hF => st hF (g_move hF rfl) rfl fun a hF => ?_
  refine stR hF (d_call Try.call20 hF (.cons rfl (.cons rfl .nil)) (markTensor_0 (1) _ (by omega))) rfl ?_
  rintro _ w' a ⟨hx, rfl⟩ hF
  have hM := hM.ext hx
  refine st hF (g_assign hF rfl) rfl fun a hF => ?_
  refine wpList_nil ?_
  refine tN ?_
  refine sq ?_
  refine wp_region_lit ?_
  refine st hF (g_assign hF rfl) rfl fun a hF => ?_
  refine wpList_nil ?_
  refine tN ?_
  refine sq ?_
  refine wp_region_lit ?_
  refine st hF (g_loadAgg ty_ag_27 hF rfl (hM.row 2 rfl) (by simp only [fnC_size, cells_size, vecC_size, tabC_size, planeC_size, tenC_size, smC_size, numC_size] <;> omega) (whole rfl)) rfl fun a hF => st hF (g_move hF rfl) rfl fun a hF => ?_
  refine stR hF (d_call Try.call21 hF (.cons rfl (.cons rfl .nil)) (heldTensor_0 (1) _ (by omega))) rfl ?_
  rintro _ w' a ⟨hx, rfl⟩ hF
  have hM := hM.ext hx
  refine st hF (g_assign hF rfl) rfl fun a hF => ?_
  refine wpList_nil ?_
  refine tN ?_
  refine sq ?_
  refine sq ?_
  refine wp_region_lit ?_
  refine st hF (g_move hF rfl) rfl fun a hF => st hF (g_lss hF rfl rfl) rfl fun a hF => ?_
  refine wpList_nil ?_
  refine tN ?_
  refine c_cond hF rfl (fun h5 => ?_) (fun h5 => ?_)
  ·
    first | exact absurd rfl h5 | (exfalso; omega)
  ·
    refine wp_skip ?_
    refine tN ?_
    refine sq ?_
    refine sq ?_
    refine wp_region_lit ?_
    refine st hF (g_move hF rfl) rfl fun a hF => st hF (g_move hF rfl) rfl fun a hF => st hF (g_neq hF rfl rfl) rfl fun a hF => ?_
    refine wpList_nil ?_
    refine tN ?_
    refine c_kF hF rfl (by decide) ?_
    refine wp_skip ?_
    refine tN ?_
    refine sq ?_
    refine wp_region_lit ?_
    refine st hF (g_loadAgg ty_ag_39 hF rfl (hM.row 0 rfl) (by simp only [fnC_size, cells_size, vecC_size, tabC_size, planeC_size, tenC_size, smC_size, numC_size] <;> omega) (whole cells_size)) rfl fun a hF => ?_
    refine stR hF (d_call Try.call23 hF (.cons rfl .nil) (toAlgebra_ok p n T f _)) rfl ?_
    rintro _ w' a ⟨hx, rfl⟩ hF
    have hM := hM.ext hx
    refine stR hF (d_call Try.call28 hF (.cons rfl .nil) (FormTensorIA p n T f _ hT hf hc)) rfl ?_
    rintro _ w' a ⟨hx, rfl⟩ hF
    have hM := hM.ext hx
    refine st hF (g_move hF rfl) rfl fun a hF => st hF (g_extract hF rfl rfl) rfl fun a hF => st hF (g_extract hF rfl rfl) rfl fun a hF => ?_
    refine stR hF (d_alloc 3 hM ty_ze_27) rfl ?_
    rintro _ w' a ⟨b7, rfl, hM, -⟩ hF
    change Mem w w' [some (b1, algC p n T f), some (b2, tenC 0 0 0 0 (.slice none 0 0)), some (b3, tenC 0 0 0 0 (.slice none 0 0)), some (b7, tenC 0 0 0 0 (.slice none 0 0))] [] at hM
    refine stN hF (d_storeAgg 3 hM rfl ty_sz_27 hF rfl rfl (tenC_one rfl) (by simp only [fnC_size, cells_size, vecC_size, tabC_size, planeC_size, tenC_size, smC_size, numC_size]) (by simp only [fnC_size, cells_size, vecC_size, tabC_size, planeC_size, tenC_size, smC_size, numC_size] <;> omega) (splice_whole _ _ rfl)) ?_
    intro _ w' a hM hF
    change Mem w w' [some (b1, algC p n T f), some (b2, tenC 0 0 0 0 (.slice none 0 0)), some (b3, tenC 0 0 0 0 (.slice none 0 0)), some (b7, tenC 0 0 0 0 (.slice none 0 0))] [] at hM
    refine st hF (g_assign hF rfl) rfl fun a hF => ?_
    refine wpList_nil ?_
    refine tN ?_
    refine sq ?_
    refine sq ?_
    refine wp_region_lit ?_
    refine st hF (g_loadAgg ty_ag_27 hF rfl (hM.row 3 rfl) (by simp only [fnC_size, cells_size, vecC_size, tabC_size, planeC_size, tenC_size, smC_size, numC_size] <;> omega) (whole rfl)) rfl fun a hF => st hF (g_loadAgg ty_ag_27 hF rfl (hM.row 1 rfl) (by simp only [fnC_size, cells_size, vecC_size, tabC_size, planeC_size, tenC_size, smC_size, numC_size] <;> omega) (whole rfl)) rfl fun a hF => ?_
    refine stR hF (d_call Try.call17 hF (.cons rfl (.cons rfl .nil)) (eqTensor_0 _)) rfl ?_
    rintro _ w' a ⟨hx, rfl⟩ hF
    have hM := hM.ext hx
    refine st hF (g_not hF rfl) rfl fun a hF => st hF (g_move hF rfl) rfl fun a hF => stY hF rfl rfl rfl (g_move hF rfl) rfl fun a hF => stY hF rfl rfl rfl (g_move hF rfl) rfl fun a hF => stY hF rfl rfl rfl (g_neq hF rfl rfl) rfl fun a hF => st hF (g_pickF hF rfl rfl) rfl fun a hF => ?_
    refine wpList_nil ?_
    refine tN ?_
    refine c_kF hF rfl (by decide) ?_
    refine wp_skip ?_
    refine tN ?_
    refine sq ?_
    refine wp_region_lit ?_
    refine st hF (g_assign hF rfl) rfl fun a hF => ?_
    refine wpList_nil ?_
    refine tN ?_
    refine sq ?_
    refine wp_region_lit ?_
    refine st hF (g_loadAgg ty_ag_27 hF rfl (hM.row 2 rfl) (by simp only [fnC_size, cells_size, vecC_size, tabC_size, planeC_size, tenC_size, smC_size, numC_size] <;> omega) (whole rfl)) rfl fun a hF => st hF (g_move hF rfl) rfl fun a hF => ?_
    refine stR hF (d_call Try.call21 hF (.cons rfl (.cons rfl .nil)) (heldTensor_0 (1) _ (by omega))) rfl ?_
    rintro _ w' a ⟨hx, rfl⟩ hF
    have hM := hM.ext hx
    refine st hF (g_assign hF rfl) rfl fun a hF => ?_
    refine wpList_nil ?_
    refine tN ?_
    refine sq ?_
    refine sq ?_
    refine wp_region_lit ?_
    refine st hF (g_move hF rfl) rfl fun a hF => st hF (g_lss hF rfl rfl) rfl fun a hF => ?_
    refine wpList_nil ?_
    refine tN ?_
    refine c_kF hF rfl h5 ?_
    refine wp_skip ?_
    refine tN ?_
    refine sq ?_
    refine sq ?_
    refine wp_region_lit ?_
    refine st hF (g_move hF rfl) rfl fun a hF => st hF (g_move hF rfl) rfl fun a hF => st hF (g_neq hF rfl rfl) rfl fun a hF => ?_
    refine wpList_nil ?_
    refine tN ?_
    refine c_kF hF rfl (by decide) ?_
    refine wp_skip ?_
    refine tN ?_
    refine sq ?_
    refine wp_region_lit ?_
    refine st hF (g_assign hF rfl) rfl fun a hF => ?_
    refine wpList_nil ?_
    refine tN ?_
    refine wp_ret ?_
    refine fin1 rfl hF.defers (res_tmp hF rfl) ⟨_, rfl, hM.below, ?_⟩
    show _ = _
    rfl

theorem law_FormTensorB (p n : Nat) (T : Nat → Nat → Nat → Nat) (f : Nat → Nat) (w : World) (hp : primeN p) (hn0 : 0 < n) (hn : n ≤ 6) (hTp : ∀ i j k, T i j k < p) (hT0 : ∀ i j k, n ≤ k → T i j k = 0) (hf : ∀ i, f i ≤ 255) (hfp : ∀ c, f c < p) (hc : CodeP (p : Int) (n : Int) T f 0 (vAtL [])) :
    CallsR Try.prog 7 #[.agg (algC (p : Int) (n : Int) T f)] w (fun res _ => res = .bool true) := by
  refine calls_fr [.agg (algC (p : Int) (n : Int) T f)] Try.func7 rfl Try.ntmps7 rfl fun a hF => ?_
  have hM : Mem w w [none, none, none, none, none, none, none] [] := MemX.start w 7
  change Fr 66 a [(0, .agg (algC (p : Int) (n : Int) T f))] at hF
  have hp2 := hp.two
  have hp13 := hp.le
  have hT : ∀ i j k, T i j k ≤ 255 := fun i j k => by have := hTp i j k; omega
  have hw3 := (wl_small (n := n) (i := 1) (o := 0) hn (by omega)).2.2
  have eqlaw : ∀ c, c < n ^ (1 + 0) → (tvF n 1 (vAtL [f])) c = (fun c => if c < n then f c else 0) c := tv_one
  refine sq ?_
  refine wp_region_lit ?_
  refine stR hF (d_box 0 hM hF rfl) rfl ?_
  rintro _ w' a ⟨b1, rfl, hM, -⟩ hF
  change Mem w w' [some (b1, algC (p : Int) (n : Int) T f), none, none, none, none, none, none] [] at hM
  refine st hF (g_assign hF rfl) rfl fun a hF => ?_
  refine wpList_nil ?_
  refine tN ?_
  refine sq ?_
  refine wp_region_lit ?_
  refine st hF (g_loadAgg ty_ag_39 hF rfl (hM.row 0 rfl) (by simp only [fnC_size, cells_size, vecC_size, tabC_size, planeC_size, tenC_size, smC_size, numC_size] <;> omega) (whole cells_size)) rfl fun a hF => ?_
  refine stR hF (d_call Try.call23 hF (.cons rfl .nil) (toAlgebra_ok (p : Int) (n : Int) T f _)) rfl ?_
  rintro _ w' a ⟨hx, rfl⟩ hF
  have hM := hM.ext hx
  refine stR hF (d_call Try.call27 hF (.cons rfl .nil) (FormTensorSB p n T f _ hp hn0 hn hTp hT0 hf hfp hc)) rfl ?_
  rintro _ w' a ⟨hx, b2, rfl, hge, hbk⟩ hF
  have hM := hM.fill hx 1 hbk hge
  change Mem w w' [some (b1, algC (p : Int) (n : Int) T f), some (b2, numC (n ^ (1 + 0)) (fun c => if c < n then f c else 0)), none, none, none, none, none] [] at hM
  refine st hF (g_move hF rfl) rfl fun a hF => st hF (g_extract hF rfl rfl) rfl fun a hF => st hF (g_extract hF rfl rfl) rfl fun a hF => ?_
  refine stR hF (d_alloc 2 hM ty_ze_27) rfl ?_
  rintro _ w' a ⟨b3, rfl, hM, -⟩ hF
  change Mem w w' [some (b1, algC (p : Int) (n : Int) T f), some (b2, numC (n ^ (1 + 0)) (fun c => if c < n then f c else 0)), some (b3, tenC 0 0 0 0 (.slice none 0 0)), none, none, none, none] [] at hM
  refine stN hF (d_storeAgg 2 hM rfl ty_sz_27 hF rfl rfl (tenC_one rfl) (by simp only [fnC_size, cells_size, vecC_size, tabC_size, planeC_size, tenC_size, smC_size, numC_size]) (by simp only [fnC_size, cells_size, vecC_size, tabC_size, planeC_size, tenC_size, smC_size, numC_size] <;> omega) (splice_whole _ _ rfl)) ?_
  intro _ w' a hM hF
  change Mem w w' [some (b1, algC (p : Int) (n : Int) T f), some (b2, numC (n ^ (1 + 0)) (fun c => if c < n then f c else 0)), some (b3, tenC (p : Int) (n : Int) ((1 : Nat) : Int) ((0 : Nat) : Int) (.slice (some ⟨b2, 0, none⟩) (n ^ (1 + 0)) (n ^ (1 + 0)))), none, none, none, none] [] at hM
  refine st hF (g_assign hF rfl) rfl fun a hF => ?_
  refine wpList_nil ?_
  refine tN ?_
  refine sq ?_
  refine wp_region_lit ?_
  refine st hF (g_loadAgg ty_ag_39 hF rfl (hM.row 0 rfl) (by simp only [fnC_size, cells_size, vecC_size, tabC_size, planeC_size, tenC_size, smC_size, numC_size] <;> omega) (whole cells_size)) rfl fun a hF => ?_
  refine stR hF (d_call Try.call23 hF (.cons rfl .nil) (toAlgebra_ok (p : Int) (n : Int) T f _)) rfl ?_
  rintro _ w' a ⟨hx, rfl⟩ hF
  have hM := hM.ext hx
  refine stR hF (d_call Try.call28 hF (.cons rfl .nil) (FormTensorIB p n T f _ hp hn0 hn hTp hT0 hf hfp hc)) rfl ?_
  rintro _ w' a ⟨hx, b4, rfl, hge, hbk⟩ hF
  have hM := hM.fill hx 3 hbk hge
  change Mem w w' [some (b1, algC (p : Int) (n : Int) T f), some (b2, numC (n ^ (1 + 0)) (fun c => if c < n then f c else 0)), some (b3, tenC (p : Int) (n : Int) ((1 : Nat) : Int) ((0 : Nat) : Int) (.slice (some ⟨b2, 0, none⟩) (n ^ (1 + 0)) (n ^ (1 + 0)))), some (b4, numC (n ^ (1 + 0)) (tvF n 1 (vAtL [f]))), none, none, none] [] at hM
  refine st hF (g_move hF rfl) rfl fun a hF => st hF (g_extract hF rfl rfl) rfl fun a hF => st hF (g_extract hF rfl rfl) rfl fun a hF => ?_
  refine stR hF (d_alloc 4 hM ty_ze_27) rfl ?_
  rintro _ w' a ⟨b5, rfl, hM, -⟩ hF
  change Mem w w' [some (b1, algC (p : Int) (n : Int) T f), some (b2, numC (n ^ (1 + 0)) (fun c => if c < n then f c else 0)), some (b3, tenC (p : Int) (n : Int) ((1 : Nat) : Int) ((0 : Nat) : Int) (.slice (some ⟨b2, 0, none⟩) (n ^ (1 + 0)) (n ^ (1 + 0)))), some (b4, numC (n ^ (1 + 0)) (tvF n 1 (vAtL [f]))), some (b5, tenC 0 0 0 0 (.slice none 0 0)), none, none] [] at hM
  refine stN hF (d_storeAgg 4 hM rfl ty_sz_27 hF rfl rfl (tenC_one rfl) (by simp only [fnC_size, cells_size, vecC_size, tabC_size, planeC_size, tenC_size, smC_size, numC_size]) (by simp only [fnC_size, cells_size, vecC_size, tabC_size, planeC_size, tenC_size, smC_size, numC_size] <;> omega) (splice_whole _ _ rfl)) ?_
  intro _ w' a hM hF
  change Mem w w' [some (b1, algC (p : Int) (n : Int) T f), some (b2, numC (n ^ (1 + 0)) (fun c => if c < n then f c else 0)), some (b3, tenC (p : Int) (n : Int) ((1 : Nat) : Int) ((0 : Nat) : Int) (.slice (some ⟨b2, 0, none⟩) (n ^ (1 + 0)) (n ^ (1 + 0)))), some (b4, numC (n ^ (1 + 0)) (tvF n 1 (vAtL [f]))), some (b5, tenC (p : Int) (n : Int) ((1 : Nat) : Int) ((0 : Nat) : Int) (.slice (some ⟨b4, 0, none⟩) (n ^ (1 + 0)) (n ^ (1 + 0)))), none, none] [] at hM
  refine st hF (g_assign hF rfl) rfl fun a hF => ?_
  refine wpList_nil ?_
  refine tN ?_
  refine sq ?_
  refine sq ?_
  refine wp_region_lit ?_
  refine st hF (g_loadAgg ty_ag_27 hF rfl (hM.row 4 rfl) (by simp only [fnC_size, cells_size, vecC_size, tabC_size, planeC_size, tenC_size, smC_size, numC_size] <;> omega) (whole rfl)) rfl fun a hF => st hF (g_loadAgg ty_ag_27 hF rfl (hM.row 2 rfl) (by simp only [fnC_size, cells_size, vecC_size, tabC_size, planeC_size, tenC_size, smC_size, numC_size] <;> omega) (whole rfl)) rfl fun a hF => ?_
  refine stR hF (d_call Try.call17 hF (.cons rfl (.cons rfl .nil)) (eqTensor_ok (p : Int) (n : Int) ((1 : Nat) : Int) ((0 : Nat) : Int) b4 b2 (n ^ (1 + 0)) (tvF n 1 (vAtL [f])) (fun c => if c < n then f c else 0) _ (hM.row 3 rfl) (hM.row 1 rfl) (by omega) eqlaw)) rfl ?_
  rintro _ w' a ⟨hx, rfl⟩ hF
  have hM := hM.ext hx
  refine st hF (g_not hF rfl) rfl fun a hF => st hF (g_move hF rfl) rfl fun a hF => stY hF rfl rfl rfl (g_move hF rfl) rfl fun a hF => stY hF rfl rfl rfl (g_move hF rfl) rfl fun a hF => stY hF rfl rfl rfl (g_neq hF rfl rfl) rfl fun a hF => st hF (g_pickF hF rfl rfl) rfl fun a hF => ?_
  refine wpList_nil ?_
  refine tN ?_
  refine c_kF hF rfl (by decide) ?_
  refine wp_skip ?_
  refine tN ?_
  refine sq ?_
  refine wp_region_lit ?_
  refine st hF (g_assign hF rfl) rfl fun a hF => ?_
  refine wpList_nil ?_
  refine tN ?_
  refine sq ?_
  refine wp_region_lit ?_
  refine st hF (g_loadAgg ty_ag_27 hF rfl (hM.row 4 rfl) (by simp only [fnC_size, cells_size, vecC_size, tabC_size, planeC_size, tenC_size, smC_size, numC_size] <;> omega) (whole rfl)) rfl fun a hF => st hF (g_move hF rfl) rfl fun a hF => ?_
  refine stR hF (d_callX Try.call20 hF (.cons rfl (.cons rfl .nil)) (markTensor_ok (p : Int) (n : Int) ((1 : Nat) : Int) ((0 : Nat) : Int) b4 (n ^ (1 + 0)) (1) (tvF n 1 (vAtL [f])) _ (by omega) (by omega) (hM.row 3 rfl))) rfl ?_
  rintro _ w' a ⟨hx, rfl, hbk⟩ hF
  have hM := hM.upd 3 rfl hx hbk
  change Mem w w' [some (b1, algC (p : Int) (n : Int) T f), some (b2, numC (n ^ (1 + 0)) (fun c => if c < n then f c else 0)), some (b3, tenC (p : Int) (n : Int) ((1 : Nat) : Int) ((0 : Nat) : Int) (.slice (some ⟨b2, 0, none⟩) (n ^ (1 + 0)) (n ^ (1 + 0)))), some (b4, numC (n ^ (1 + 0)) (fun c => (1) + c)), some (b5, tenC (p : Int) (n : Int) ((1 : Nat) : Int) ((0 : Nat) : Int) (.slice (some ⟨b4, 0, none⟩) (n ^ (1 + 0)) (n ^ (1 + 0)))), none, none] [] at hM
  refine st hF (g_assign hF rfl) rfl fun a hF => ?_
  refine wpList_nil ?_
  refine tN ?_
  refine sq ?_
  refine wp_region_lit ?_
  refine st hF (g_assign hF rfl) rfl fun a hF => ?_
  refine wpList_nil ?_
  refine tN ?_
  refine sq ?_
  refine wp_region_lit ?_
  refine st hF (g_loadAgg ty_ag_27 hF rfl (hM.row 4 rfl) (by simp only [fnC_size, cells_size, vecC_size, tabC_size, planeC_size, tenC_size, smC_size, numC_size] <;> omega) (whole rfl)) rfl fun a hF => st hF (g_move hF rfl) rfl fun a hF => ?_
  refine stR hF (d_call Try.call21 hF (.cons rfl (.cons rfl .nil)) (heldTensor_ok (p : Int) (n : Int) ((1 : Nat) : Int) ((0 : Nat) : Int) b4 (n ^ (1 + 0)) (1) (fun c => (1) + c) _ (by omega) (by omega) (hM.row 3 rfl) (fun c _ => by omega))) rfl ?_
  rintro _ w' a ⟨hx, rfl⟩ hF
  have hM := hM.ext hx
  refine st hF (g_assign hF rfl) rfl fun a hF => ?_
  refine wpList_nil ?_
  refine tN ?_
  refine sq ?_
  refine sq ?_
  refine wp_region_lit ?_
  refine st hF (g_move hF rfl) rfl fun a hF => st hF (g_lss hF rfl rfl) rfl fun a hF => ?_
  refine wpList_nil ?_
  refine tN ?_
  refine c_cond hF rfl (fun h7 => ?_) (fun h7 => ?_)
  ·
    first | exact absurd rfl h7 | (exfalso; omega)
  ·
    refine wp_skip ?_
    refine tN ?_
    refine sq ?_
    refine sq ?_
    refine wp_region_lit ?_
    refine st hF (g_move hF rfl) rfl fun a hF => st hF (g_move hF rfl) rfl fun a hF => st hF (g_neq hF rfl rfl) rfl fun a hF => ?_
    refine wpList_nil ?_
    refine tN ?_
    refine c_cond hF rfl (fun h8 => ?_) (fun h8 => ?_)
    ·
      first | exact absurd rfl h8 | (exfalso; omega)
    ·
      refine wp_skip ?_
      refine tN ?_
      refine sq ?_
      refine wp_region_lit ?_
      refine st hF (g_loadAgg ty_ag_39 hF rfl (hM.row 0 rfl) (by simp only [fnC_size, cells_size, vecC_size, tabC_size, planeC_size, tenC_size, smC_size, numC_size] <;> omega) (whole cells_size)) rfl fun a hF => ?_
      refine stR hF (d_call Try.call23 hF (.cons rfl .nil) (toAlgebra_ok (p : Int) (n : Int) T f _)) rfl ?_
      rintro _ w' a ⟨hx, rfl⟩ hF
      have hM := hM.ext hx
      refine stR hF (d_call Try.call28 hF (.cons rfl .nil) (FormTensorIB p n T f _ hp hn0 hn hTp hT0 hf hfp hc)) rfl ?_
      rintro _ w' a ⟨hx, b9, rfl, hge, hbk⟩ hF
      have hM := hM.fill hx 5 hbk hge
      change Mem w w' [some (b1, algC (p : Int) (n : Int) T f), some (b2, numC (n ^ (1 + 0)) (fun c => if c < n then f c else 0)), some (b3, tenC (p : Int) (n : Int) ((1 : Nat) : Int) ((0 : Nat) : Int) (.slice (some ⟨b2, 0, none⟩) (n ^ (1 + 0)) (n ^ (1 + 0)))), some (b4, numC (n ^ (1 + 0)) (fun c => (1) + c)), some (b5, tenC (p : Int) (n : Int) ((1 : Nat) : Int) ((0 : Nat) : Int) (.slice (some ⟨b4, 0, none⟩) (n ^ (1 + 0)) (n ^ (1 + 0)))), some (b9, numC (n ^ (1 + 0)) (tvF n 1 (vAtL [f]))), none] [] at hM
      refine st hF (g_move hF rfl) rfl fun a hF => st hF (g_extract hF rfl rfl) rfl fun a hF => st hF (g_extract hF rfl rfl) rfl fun a hF => ?_
      refine stR hF (d_alloc 6 hM ty_ze_27) rfl ?_
      rintro _ w' a ⟨b10, rfl, hM, -⟩ hF
      change Mem w w' [some (b1, algC (p : Int) (n : Int) T f), some (b2, numC (n ^ (1 + 0)) (fun c => if c < n then f c else 0)), some (b3, tenC (p : Int) (n : Int) ((1 : Nat) : Int) ((0 : Nat) : Int) (.slice (some ⟨b2, 0, none⟩) (n ^ (1 + 0)) (n ^ (1 + 0)))), some (b4, numC (n ^ (1 + 0)) (fun c => (1) + c)), some (b5, tenC (p : Int) (n : Int) ((1 : Nat) : Int) ((0 : Nat) : Int) (.slice (some ⟨b4, 0, none⟩) (n ^ (1 + 0)) (n ^ (1 + 0)))), some (b9, numC (n ^ (1 + 0)) (tvF n 1 (vAtL [f]))), some (b10, tenC 0 0 0 0 (.slice none 0 0))] [] at hM
      refine stN hF (d_storeAgg 6 hM rfl ty_sz_27 hF rfl rfl (tenC_one rfl) (by simp only [fnC_size, cells_size, vecC_size, tabC_size, planeC_size, tenC_size, smC_size, numC_size]) (by simp only [fnC_size, cells_size, vecC_size, tabC_size, planeC_size, tenC_size, smC_size, numC_size] <;> omega) (splice_whole _ _ rfl)) ?_
      intro _ w' a hM hF
      change Mem w w' [some (b1, algC (p : Int) (n : Int) T f), some (b2, numC (n ^ (1 + 0)) (fun c => if c < n then f c else 0)), some (b3, tenC (p : Int) (n : Int) ((1 : Nat) : Int) ((0 : Nat) : Int) (.slice (some ⟨b2, 0, none⟩) (n ^ (1 + 0)) (n ^ (1 + 0)))), some (b4, numC (n ^ (1 + 0)) (fun c => (1) + c)), some (b5, tenC (p : Int) (n : Int) ((1 : Nat) : Int) ((0 : Nat) : Int) (.slice (some ⟨b4, 0, none⟩) (n ^ (1 + 0)) (n ^ (1 + 0)))), some (b9, numC (n ^ (1 + 0)) (tvF n 1 (vAtL [f]))), some (b10, tenC (p : Int) (n : Int) ((1 : Nat) : Int) ((0 : Nat) : Int) (.slice (some ⟨b9, 0, none⟩) (n ^ (1 + 0)) (n ^ (1 + 0))))] [] at hM
      refine st hF (g_assign hF rfl) rfl fun a hF => ?_
      refine wpList_nil ?_
      refine tN ?_
      refine sq ?_
      refine sq ?_
      refine wp_region_lit ?_
      refine st hF (g_loadAgg ty_ag_27 hF rfl (hM.row 6 rfl) (by simp only [fnC_size, cells_size, vecC_size, tabC_size, planeC_size, tenC_size, smC_size, numC_size] <;> omega) (whole rfl)) rfl fun a hF => st hF (g_loadAgg ty_ag_27 hF rfl (hM.row 2 rfl) (by simp only [fnC_size, cells_size, vecC_size, tabC_size, planeC_size, tenC_size, smC_size, numC_size] <;> omega) (whole rfl)) rfl fun a hF => ?_
      refine stR hF (d_call Try.call17 hF (.cons rfl (.cons rfl .nil)) (eqTensor_ok (p : Int) (n : Int) ((1 : Nat) : Int) ((0 : Nat) : Int) b9 b2 (n ^ (1 + 0)) (tvF n 1 (vAtL [f])) (fun c => if c < n then f c else 0) _ (hM.row 5 rfl) (hM.row 1 rfl) (by omega) eqlaw)) rfl ?_
      rintro _ w' a ⟨hx, rfl⟩ hF
      have hM := hM.ext hx
      refine st hF (g_not hF rfl) rfl fun a hF => st hF (g_move hF rfl) rfl fun a hF => stY hF rfl rfl rfl (g_move hF rfl) rfl fun a hF => stY hF rfl rfl rfl (g_move hF rfl) rfl fun a hF => stY hF rfl rfl rfl (g_neq hF rfl rfl) rfl fun a hF => st hF (g_pickF hF rfl rfl) rfl fun a hF => ?_
      refine wpList_nil ?_
      refine tN ?_
      refine c_kF hF rfl (by decide) ?_
      refine wp_skip ?_
      refine tN ?_
      refine sq ?_
      refine wp_region_lit ?_
      refine st hF (g_assign hF rfl) rfl fun a hF => ?_
      refine wpList_nil ?_
      refine tN ?_
      refine sq ?_
      refine wp_region_lit ?_
      refine st hF (g_loadAgg ty_ag_27 hF rfl (hM.row 4 rfl) (by simp only [fnC_size, cells_size, vecC_size, tabC_size, planeC_size, tenC_size, smC_size, numC_size] <;> omega) (whole rfl)) rfl fun a hF => st hF (g_move hF rfl) rfl fun a hF => ?_
      refine stR hF (d_call Try.call21 hF (.cons rfl (.cons rfl .nil)) (heldTensor_ok (p : Int) (n : Int) ((1 : Nat) : Int) ((0 : Nat) : Int) b4 (n ^ (1 + 0)) (1) (fun c => (1) + c) _ (by omega) (by omega) (hM.row 3 rfl) (fun c _ => by omega))) rfl ?_
      rintro _ w' a ⟨hx, rfl⟩ hF
      have hM := hM.ext hx
      refine st hF (g_assign hF rfl) rfl fun a hF => ?_
      refine wpList_nil ?_
      refine tN ?_
      refine sq ?_
      refine sq ?_
      refine wp_region_lit ?_
      refine st hF (g_move hF rfl) rfl fun a hF => st hF (g_lss hF rfl rfl) rfl fun a hF => ?_
      refine wpList_nil ?_
      refine tN ?_
      refine c_kF hF rfl h7 ?_
      refine wp_skip ?_
      refine tN ?_
      refine sq ?_
      refine sq ?_
      refine wp_region_lit ?_
      refine st hF (g_move hF rfl) rfl fun a hF => st hF (g_move hF rfl) rfl fun a hF => st hF (g_neq hF rfl rfl) rfl fun a hF => ?_
      refine wpList_nil ?_
      refine tN ?_
      refine c_kF hF rfl h8 ?_
      refine wp_skip ?_
      refine tN ?_
      refine sq ?_
      refine wp_region_lit ?_
      refine st hF (g_assign hF rfl) rfl fun a hF => ?_
      refine wpList_nil ?_
      refine tN ?_
      refine wp_ret ?_
      refine fin1 rfl hF.defers (res_tmp hF rfl) ⟨_, rfl, hM.below, ?_⟩
      show _ = _
      rfl

theorem law_FormTensor (p n : Int) (T : Nat → Nat → Nat → Nat) (f : Nat → Nat) (w : World) (hT : ∀ i j k, T i j k ≤ 255) (hf : ∀ i, f i ≤ 255) : CallsV Try.prog 7 #[.agg (algC p n T f)] w (.bool true) := by
  by_cases hc : CodeP p n T f 0 (vAtL [])
  · have hs := hc.1.1
    have hp0 := primeP_pos hs.1
    have hnn := hs.2.1
    have e1 : ((p.toNat : Nat) : Int) = p := by omega
    have e2 : ((n.toNat : Nat) : Int) = n := by omega
    have h := law_FormTensorB p.toNat n.toNat (trunc n.toNat T) (in6 f) w (primeN_of hs.1) (by omega) (by omega) (trunc_lt hs) trunc_out (in6_le hf) (in6_lt (n := n) (by omega) (by rw [e1]; exact hs.2.2.1)) (by rw [e1, e2]; exact code_in6 (code_trunc hc))
    rw [e1, e2, ← algC_in6, ← algC_trunc hs] at h
    exact h
  · exact law_FormTensorA p n T f w hT hf hc


theorem law_UnitTensorA (p n : Int) (T : Nat → Nat → Nat → Nat) (f : Nat → Nat) (w : World) (hT : ∀ i j k, T i j k ≤ 255) (hf : ∀ i, f i ≤ 255) (hc : ¬ CodeP p n T f 0 (vAtL [])) :
    CallsR Try.prog 6 #[.agg (algC p n T f)] w (fun res _ => res = .bool true) := by
  refine calls_fr [.agg (algC p n T f)] Try.func6 rfl Try.ntmps6 rfl fun a hF => ?_
  have hM : Mem w w [none, none, none, none] [] := MemX.start w 4
  change Fr 66 a [(0, .agg (algC p n T f))] at hF
  refine sq ?_
  refine wp_region_lit ?_
  refine stR hF (d_box 0 hM hF rfl) rfl ?_
  rintro _ w' a ⟨b1, rfl, hM, -⟩ hF
  change Mem w w' [some (b1, algC p n T f), none, none, none] [] at hM
  refine st hF (g_assign hF rfl) rfl fun a hF => ?_
  refine wpList_nil ?_
  refine tN ?_
  refine sq ?_
  refine wp_region_lit ?_
  refine st hF (g_loadAgg ty_ag_39 hF rfl (hM.row 0 rfl) (by simp only [fnC_size, cells_size, vecC_size, tabC_size, planeC_size, tenC_size, smC_size, numC_size] <;> omega) (whole cells_size)) rfl fun a hF => ?_
  refine stR hF (d_call Try.call23 hF (.cons rfl .nil) (toAlgebra_ok p n T f _)) rfl ?_
  rintro _ w' a ⟨hx, rfl⟩ hF
  have hM := hM.ext hx
  refine stR hF (d_call Try.call25 hF (.cons rfl .nil) (UnitTensorSA p n T f _ hT hf hc)) rfl ?_
  rintro _ w' a ⟨hx, rfl⟩ hF
  have hM := hM.ext hx
  refine st hF (g_move hF rfl) rfl fun a hF => st hF (g_extract hF rfl rfl) rfl fun a hF => st hF (g_extract hF rfl rfl) rfl fun a hF => ?_
  refine stR hF (d_alloc 1 hM ty_ze_27) rfl ?_
  rintro _ w' a ⟨b2, rfl, hM, -⟩ hF
  change Mem w w' [some (b1, algC p n T f), some (b2, tenC 0 0 0 0 (.slice none 0 0)), none, none] [] at hM
  refine stN hF (d_storeAgg 1 hM rfl ty_sz_27 hF rfl rfl (tenC_one rfl) (by simp only [fnC_size, cells_size, vecC_size, tabC_size, planeC_size, tenC_size, smC_size, numC_size]) (by simp only [fnC_size, cells_size, vecC_size, tabC_size, planeC_size, tenC_size, smC_size, numC_size] <;> omega) (splice_whole _ _ rfl)) ?_
  intro _ w' a hM hF
  change Mem w w' [some (b1, algC p n T f), some (b2, tenC 0 0 0 0 (.slice none 0 0)), none, none] [] at hM
  refine st hF (g_assign hF rfl) rfl fun a hF => ?_
  refine wpList_nil ?_
  refine tN ?_
  refine sq ?_
  refine wp_region_lit ?_
  refine st hF (g_loadAgg ty_ag_39 hF rfl (hM.row 0 rfl) (by simp only [fnC_size, cells_size, vecC_size, tabC_size, planeC_size, tenC_size, smC_size, numC_size] <;> omega) (whole cells_size)) rfl fun a hF => ?_
  refine stR hF (d_call Try.call23 hF (.cons rfl .nil) (toAlgebra_ok p n T f _)) rfl ?_
  rintro _ w' a ⟨hx, rfl⟩ hF
  have hM := hM.ext hx
  refine stR hF (d_call Try.call26 hF (.cons rfl .nil) (UnitTensorIA p n T f _ hT hf hc)) rfl ?_
  rintro _ w' a ⟨hx, rfl⟩ hF
  have hM := hM.ext hx
  refine st hF (g_move hF rfl) rfl fun a hF => st hF (g_extract hF rfl rfl) rfl fun a hF => st hF (g_extract hF rfl rfl) rfl fun a hF => ?_
  refine stR hF (d_alloc 2 hM ty_ze_27) rfl ?_
  rintro _ w' a ⟨b3, rfl, hM, -⟩ hF
  change Mem w w' [some (b1, algC p n T f), some (b2, tenC 0 0 0 0 (.slice none 0 0)), some (b3, tenC 0 0 0 0 (.slice none 0 0)), none] [] at hM
  refine stN hF (d_storeAgg 2 hM rfl ty_sz_27 hF rfl rfl (tenC_one rfl) (by simp only [fnC_size, cells_size, vecC_size, tabC_size, planeC_size, tenC_size, smC_size, numC_size]) (by simp only [fnC_size, cells_size, vecC_size, tabC_size, planeC_size, tenC_size, smC_size, numC_size] <;> omega) (splice_whole _ _ rfl)) ?_
  intro _ w' a hM hF
  change Mem w w' [some (b1, algC p n T f), some (b2, tenC 0 0 0 0 (.slice none 0 0)), some (b3, tenC 0 0 0 0 (.slice none 0 0)), none] [] at hM
  refine st hF (g_assign hF rfl) rfl fun a hF => ?_
  refine wpList_nil ?_
  refine tN ?_
  refine sq ?_
  refine sq ?_
  refine wp_region_lit ?_
  refine st hF (g_loadAgg ty_ag_27 hF rfl (hM.row 2 rfl) (by simp only [fnC_size, cells_size, vecC_size, tabC_size, planeC_size, tenC_size, smC_size, numC_size] <;> omega) (whole rfl)) rfl fun a hF => st hF (g_loadAgg ty_ag_27 hF rfl (hM.row 1 rfl) (by simp only [fnC_size, cells_size, vecC_size, tabC_size, planeC_size, tenC_size, smC_size, numC_size] <;> omega) (whole rfl)) rfl fun a hF => ?_
  refine stR hF (d_call Try.call17 hF (.cons rfl (.cons rfl .nil)) (eqTensor_0 _)) rfl ?_
  rintro _ w' a ⟨hx, rfl⟩ hF
  have hM := hM.ext hx
  refine st hF (g_not hF rfl) rfl fun a hF => st hF (g_move hF rfl) rfl fun a hF => stY hF rfl rfl rfl (g_move hF rfl) rfl fun a hF => stY hF rfl rfl rfl (g_move hF rfl) rfl fun a hF => stY hF rfl rfl rfl (g_neq hF rfl rfl) rfl fun a hF => st hF (g_pickF hF rfl rfl) rfl fun a hF => ?_
  refine wpList_nil ?_
  refine tN ?_
  refine c_kF hF rfl (by decide) ?_
  refine wp_skip ?_
  refine tN ?_
  refine sq ?_
  refine wp_region_lit ?_
  refine st hF (g_assign hF rfl) rfl fun a hF => ?_
  refine wpList_nil ?_
  refine tN ?_
  refine sq ?_
  refine wp_region_lit ?_
  refine st hF (g_loadAgg ty_ag_27 hF rfl (hM.row 2 rfl) (by simp only [fnC_size, cells_size, vecC_size, tabC_size, planeC_size, tenC_size, smC_size, numC_size] <;> omega) (whole rfl)) rfl fun a hF => st hF (g_move hF rfl) rfl fun a hF => ?_
  refine stR hF (d_call Try.call20 hF (.cons rfl (.cons rfl .nil)) (markTensor_0 (1) _ (by omega))) rfl ?_
  rintro _ w' a ⟨hx, rfl⟩ hF
  have hM := hM.ext hx
  refine st hF (g_assign hF rfl) rfl fun a hF => ?_
  refine wpList_nil ?_
  refine tN ?_
  refine sq ?_
  refine wp_region_lit ?_
  refine st hF (g_assign hF rfl) rfl fun a hF => ?_
  refine wpList_nil ?_
  refine tN ?_
  refine sq ?_
  refine wp_region_lit ?_
  refine st hF (g_loadAgg ty_ag_27 hF rfl (hM.row 2 rfl) (by simp only [fnC_size, cells_size, vecC_size, tabC_size, planeC_size, tenC_size, smC_size, numC_size] <;> omega) (whole rfl)) rfl fun a hF => st hF (g_move hF rfl) rfl fun a hF => ?_
  refine stR hF (d_call Try.call21 hF (.cons rfl (.cons rfl .nil)) (heldTensor_0 (1) _ (by omega))) rfl ?_
  rintro _ w' a ⟨hx, rfl⟩ hF
  have hM := hM.ext hx
  refine st hF (g_assign hF rfl) rfl fun a hF => ?_
  refine wpList_nil ?_
  refine tN ?_
  refine sq ?_
  refine sq ?_
  refine wp_region_lit ?_
  refine st hF (g_move hF rfl) rfl fun a hF => st hF (g_lss hF rfl rfl) rfl fun a hF => ?_
  refine wpList_nil ?_
  refine tN ?_
  refine c_cond hF rfl (fun h5 => ?_) (fun h5 => ?_)
  ·
    first | exact absurd rfl h5 | (exfalso; omega)
  ·
    refine wp_skip ?_
    refine tN ?_
    refine sq ?_
    refine sq ?_
    refine wp_region_lit ?_
    refine st hF (g_move hF rfl) rfl fun a hF => st hF (g_move hF rfl) rfl fun a hF => st hF (g_neq hF rfl rfl) rfl fun a hF => ?_
    refine wpList_nil ?_
    refine tN ?_
    refine c_kF hF rfl (by decide) ?_
    refine wp_skip ?_
    refine tN ?_
    refine sq ?_
    refine wp_region_lit ?_
    refine st hF (g_loadAgg ty_ag_39 hF rfl (hM.row 0 rfl) (by simp only [fnC_size, cells_size, vecC_size, tabC_size, planeC_size, tenC_size, smC_size, numC_size] <;> omega) (whole cells_size)) rfl fun a hF => ?_
    refine stR hF (d_call Try.call23 hF (.cons rfl .nil) (toAlgebra_ok p n T f _)) rfl ?_
    rintro _ w' a ⟨hx, rfl⟩ hF
    have hM := hM.ext hx
    refine stR hF (d_call Try.call26 hF (.cons rfl .nil) (UnitTensorIA p n T f _ hT hf hc)) rfl ?_
    rintro _ w' a ⟨hx, rfl⟩ hF
    have hM := hM.ext hx
    refine st hF (g_move hF rfl) rfl fun a hF => st hF (g_extract hF rfl rfl) rfl fun a hF => st hF (g_extract hF rfl rfl) rfl fun a hF => ?_
    refine stR hF (d_alloc 3 hM ty_ze_27) rfl ?_
    rintro _ w' a ⟨b7, rfl, hM, -⟩ hF
    change Mem w w' [some (b1, algC p n T f), some (b2, tenC 0 0 0 0 (.slice none 0 0)), some (b3, tenC 0 0 0 0 (.slice none 0 0)), some (b7, tenC 0 0 0 0 (.slice none 0 0))] [] at hM
    refine stN hF (d_storeAgg 3 hM rfl ty_sz_27 hF rfl rfl (tenC_one rfl) (by simp only [fnC_size, cells_size, vecC_size, tabC_size, planeC_size, tenC_size, smC_size, numC_size]) (by simp only [fnC_size, cells_size, vecC_size, tabC_size, planeC_size, tenC_size, smC_size, numC_size] <;> omega) (splice_whole _ _ rfl)) ?_
    intro _ w' a hM hF
    change Mem w w' [some (b1, algC p n T f), some (b2, tenC 0 0 0 0 (.slice none 0 0)), some (b3, tenC 0 0 0 0 (.slice none 0 0)), some (b7, tenC 0 0 0 0 (.slice none 0 0))] [] at hM
    refine st hF (g_assign hF rfl) rfl fun a hF => ?_
    refine wpList_nil ?_
    refine tN ?_
    refine sq ?_
    refine sq ?_
    refine wp_region_lit ?_
    refine st hF (g_loadAgg ty_ag_27 hF rfl (hM.row 3 rfl) (by simp only [fnC_size, cells_size, vecC_size, tabC_size, planeC_size, tenC_size, smC_size, numC_size] <;> omega) (whole rfl)) rfl fun a hF => st hF (g_loadAgg ty_ag_27 hF rfl (hM.row 1 rfl) (by simp only [fnC_size, cells_size, vecC_size, tabC_size, planeC_size, tenC_size, smC_size, numC_size] <;> omega) (whole rfl)) rfl fun a hF => ?_
    refine stR hF (d_call Try.call17 hF (.cons rfl (.cons rfl .nil)) (eqTensor_0 _)) rfl ?_
    rintro _ w' a ⟨hx, rfl⟩ hF
    have hM := hM.ext hx
    refine st hF (g_not hF rfl) rfl fun a hF => st hF (g_move hF rfl) rfl fun a hF => stY hF rfl rfl rfl (g_move hF rfl) rfl fun a hF => stY hF rfl rfl rfl (g_move hF rfl) rfl fun a hF => stY hF rfl rfl rfl (g_neq hF rfl rfl) rfl fun a hF => st hF (g_pickF hF rfl rfl) rfl fun a hF => ?_
    refine wpList_nil ?_
    refine tN ?_
    refine c_kF hF rfl (by decide) ?_
    refine wp_skip ?_
    refine tN ?_
    refine sq ?_
    refine wp_region_lit ?_
    refine st hF (g_assign hF rfl) rfl fun a hF => ?_
    refine wpList_nil ?_
    refine tN ?_
    refine sq ?_
    refine wp_region_lit ?_
    refine st hF (g_loadAgg ty_ag_27 hF rfl (hM.row 2 rfl) (by simp only [fnC_size, cells_size, vecC_size, tabC_size, planeC_size, tenC_size, smC_size, numC_size] <;> omega) (whole rfl)) rfl fun a hF => st hF (g_move hF rfl) rfl fun a hF => ?_
    refine stR hF (d_call Try.call21 hF (.cons rfl (.cons rfl .nil)) (heldTensor_0 (1) _ (by omega))) rfl ?_
    rintro _ w' a ⟨hx, rfl⟩ hF
    have hM := hM.ext hx
    refine st hF (g_assign hF rfl) rfl fun a hF => ?_
    refine wpList_nil ?_
    refine tN ?_
    refine sq ?_
    refine sq ?_
    refine wp_region_lit ?_
    refine st hF (g_move hF rfl) rfl fun a hF => st hF (g_lss hF rfl rfl) rfl fun a hF => ?_
    refine wpList_nil ?_
    refine tN ?_
    refine c_kF hF rfl h5 ?_
    refine wp_skip ?_
    refine tN ?_
    refine sq ?_
    refine sq ?_
    refine wp_region_lit ?_
    refine st hF (g_move hF rfl) rfl fun a hF => st hF (g_move hF rfl) rfl fun a hF => st hF (g_neq hF rfl rfl) rfl fun a hF => ?_
    refine wpList_nil ?_
    refine tN ?_
    refine c_kF hF rfl (by decide) ?_
    refine wp_skip ?_
    refine tN ?_
    refine sq ?_
    refine wp_region_lit ?_
    refine st hF (g_assign hF rfl) rfl fun a hF => ?_
    refine wpList_nil ?_
    refine tN ?_
    refine wp_ret ?_
    refine fin1 rfl hF.defers (res_tmp hF rfl) ⟨_, rfl, hM.below, ?_⟩
    show _ = _
    rfl

theorem law_UnitTensorB (p n : Nat) (T : Nat → Nat → Nat → Nat) (f : Nat → Nat) (w : World) (hp : primeN p) (hn0 : 0 < n) (hn : n ≤ 6) (hTp : ∀ i j k, T i j k < p) (hT0 : ∀ i j k, n ≤ k → T i j k = 0) (hf : ∀ i, f i ≤ 255) (uu : Nat → Nat) (huu : UnitI p n T uu) (hc : CodeP (p : Int) (n : Int) T f 0 (vAtL [])) :
    CallsR Try.prog 6 #[.agg (algC (p : Int) (n : Int) T f)] w (fun res _ => res = .bool true) := by
  refine calls_fr [.agg (algC (p : Int) (n : Int) T f)] Try.func6 rfl Try.ntmps6 rfl fun a hF => ?_
  have hM : Mem w w [none, none, none, none, none, none, none] [] := MemX.start w 7
  change Fr 66 a [(0, .agg (algC (p : Int) (n : Int) T f))] at hF
  have hp2 := hp.two
  have hp13 := hp.le
  have hT : ∀ i j k, T i j k ≤ 255 := fun i j k => by have := hTp i j k; omega
  have hw3 := (wl_small (n := n) (i := 0) (o := 1) hn (by omega)).2.2
  have eqlaw : ∀ c, c < n ^ (0 + 1) → (tvF n 1 (vAtL [uu])) c = (fun c => if c < n then uu c else 0) c := tv_one
  refine sq ?_
  refine wp_region_lit ?_
  refine stR hF (d_box 0 hM hF rfl) rfl ?_
  rintro _ w' a ⟨b1, rfl, hM, -⟩ hF
  change Mem w w' [some (b1, algC (p : Int) (n : Int) T f), none, none, none, none, none, none] [] at hM
  refine st hF (g_assign hF rfl) rfl fun a hF => ?_
  refine wpList_nil ?_
  refine tN ?_
  refine sq ?_
  refine wp_region_lit ?_
  refine st hF (g_loadAgg ty_ag_39 hF rfl (hM.row 0 rfl) (by simp only [fnC_size, cells_size, vecC_size, tabC_size, planeC_size, tenC_size, smC_size, numC_size] <;> omega) (whole cells_size)) rfl fun a hF => ?_
  refine stR hF (d_call Try.call23 hF (.cons rfl .nil) (toAlgebra_ok (p : Int) (n : Int) T f _)) rfl ?_
  rintro _ w' a ⟨hx, rfl⟩ hF
  have hM := hM.ext hx
  refine stR hF (d_call Try.call25 hF (.cons rfl .nil) (UnitTensorSB p n T f _ hp hn0 hn hTp hT0 hf uu huu hc)) rfl ?_
  rintro _ w' a ⟨hx, b2, rfl, hge, hbk⟩ hF
  have hM := hM.fill hx 1 hbk hge
  change Mem w w' [some (b1, algC (p : Int) (n : Int) T f), some (b2, numC (n ^ (0 + 1)) (fun c => if c < n then uu c else 0)), none, none, none, none, none] [] at hM
  refine st hF (g_move hF rfl) rfl fun a hF => st hF (g_extract hF rfl rfl) rfl fun a hF => st hF (g_extract hF rfl rfl) rfl fun a hF => ?_
  refine stR hF (d_alloc 2 hM ty_ze_27) rfl ?_
  rintro _ w' a ⟨b3, rfl, hM, -⟩ hF
  change Mem w w' [some (b1, algC (p : Int) (n : Int) T f), some (b2, numC (n ^ (0 + 1)) (fun c => if c < n then uu c else 0)), some (b3, tenC 0 0 0 0 (.slice none 0 0)), none, none, none, none] [] at hM
  refine stN hF (d_storeAgg 2 hM rfl ty_sz_27 hF rfl rfl (tenC_one rfl) (by simp only [fnC_size, cells_size, vecC_size, tabC_size, planeC_size, tenC_size, smC_size, numC_size]) (by simp only [fnC_size, cells_size, vecC_size, tabC_size, planeC_size, tenC_size, smC_size, numC_size] <;> omega) (splice_whole _ _ rfl)) ?_
  intro _ w' a hM hF
  change Mem w w' [some (b1, algC (p : Int) (n : Int) T f), some (b2, numC (n ^ (0 + 1)) (fun c => if c < n then uu c else 0)), some (b3, tenC (p : Int) (n : Int) ((0 : Nat) : Int) ((1 : Nat) : Int) (.slice (some ⟨b2, 0, none⟩) (n ^ (0 + 1)) (n ^ (0 + 1)))), none, none, none, none] [] at hM
  refine st hF (g_assign hF rfl) rfl fun a hF => ?_
  refine wpList_nil ?_
  refine tN ?_
  refine sq ?_
  refine wp_region_lit ?_
  refine st hF (g_loadAgg ty_ag_39 hF rfl (hM.row 0 rfl) (by simp only [fnC_size, cells_size, vecC_size, tabC_size, planeC_size, tenC_size, smC_size, numC_size] <;> omega) (whole cells_size)) rfl fun a hF => ?_
  refine stR hF (d_call Try.call23 hF (.cons rfl .nil) (toAlgebra_ok (p : Int) (n : Int) T f _)) rfl ?_
  rintro _ w' a ⟨hx, rfl⟩ hF
  have hM := hM.ext hx
  refine stR hF (d_call Try.call26 hF (.cons rfl .nil) (UnitTensorIB p n T f _ hp hn0 hn hTp hT0 hf uu huu hc)) rfl ?_
  rintro _ w' a ⟨hx, b4, rfl, hge, hbk⟩ hF
  have hM := hM.fill hx 3 hbk hge
  change Mem w w' [some (b1, algC (p : Int) (n : Int) T f), some (b2, numC (n ^ (0 + 1)) (fun c => if c < n then uu c else 0)), some (b3, tenC (p : Int) (n : Int) ((0 : Nat) : Int) ((1 : Nat) : Int) (.slice (some ⟨b2, 0, none⟩) (n ^ (0 + 1)) (n ^ (0 + 1)))), some (b4, numC (n ^ (0 + 1)) (tvF n 1 (vAtL [uu]))), none, none, none] [] at hM
  refine st hF (g_move hF rfl) rfl fun a hF => st hF (g_extract hF rfl rfl) rfl fun a hF => st hF (g_extract hF rfl rfl) rfl fun a hF => ?_
  refine stR hF (d_alloc 4 hM ty_ze_27) rfl ?_
  rintro _ w' a ⟨b5, rfl, hM, -⟩ hF
  change Mem w w' [some (b1, algC (p : Int) (n : Int) T f), some (b2, numC (n ^ (0 + 1)) (fun c => if c < n then uu c else 0)), some (b3, tenC (p : Int) (n : Int) ((0 : Nat) : Int) ((1 : Nat) : Int) (.slice (some ⟨b2, 0, none⟩) (n ^ (0 + 1)) (n ^ (0 + 1)))), some (b4, numC (n ^ (0 + 1)) (tvF n 1 (vAtL [uu]))), some (b5, tenC 0 0 0 0 (.slice none 0 0)), none, none] [] at hM
  refine stN hF (d_storeAgg 4 hM rfl ty_sz_27 hF rfl rfl (tenC_one rfl) (by simp only [fnC_size, cells_size, vecC_size, tabC_size, planeC_size, tenC_size, smC_size, numC_size]) (by simp only [fnC_size, cells_size, vecC_size, tabC_size, planeC_size, tenC_size, smC_size, numC_size] <;> omega) (splice_whole _ _ rfl)) ?_
  intro _ w' a hM hF
  change Mem w w' [some (b1, algC (p : Int) (n : Int) T f), some (b2, numC (n ^ (0 + 1)) (fun c => if c < n then uu c else 0)), some (b3, tenC (p : Int) (n : Int) ((0 : Nat) : Int) ((1 : Nat) : Int) (.slice (some ⟨b2, 0, none⟩) (n ^ (0 + 1)) (n ^ (0 + 1)))), some (b4, numC (n ^ (0 + 1)) (tvF n 1 (vAtL [uu]))), some (b5, tenC (p : Int) (n : Int) ((0 : Nat) : Int) ((1 : Nat) : Int) (.slice (some ⟨b4, 0, none⟩) (n ^ (0 + 1)) (n ^ (0 + 1)))), none, none] [] at hM
  refine st hF (g_assign hF rfl) rfl fun a hF => ?_
  refine wpList_nil ?_
  refine tN ?_
  refine sq ?_
  refine sq ?_
  refine wp_region_lit ?_
  refine st hF (g_loadAgg ty_ag_27 hF rfl (hM.row 4 rfl) (by simp only [fnC_size, cells_size, vecC_size, tabC_size, planeC_size, tenC_size, smC_size, numC_size] <;> omega) (whole rfl)) rfl fun a hF => st hF (g_loadAgg ty_ag_27 hF rfl (hM.row 2 rfl) (by simp only [fnC_size, cells_size, vecC_size, tabC_size, planeC_size, tenC_size, smC_size, numC_size] <;> omega) (whole rfl)) rfl fun a hF => ?_
  refine stR hF (d_call Try.call17 hF (.cons rfl (.cons rfl .nil)) (eqTensor_ok (p : Int) (n : Int) ((0 : Nat) : Int) ((1 : Nat) : Int) b4 b2 (n ^ (0 + 1)) (tvF n 1 (vAtL [uu])) (fun c => if c < n then uu c else 0) _ (hM.row 3 rfl) (hM.row 1 rfl) (by omega) eqlaw)) rfl ?_
  rintro _ w' a ⟨hx, rfl⟩ hF
  have hM := hM.ext hx
  refine st hF (g_not hF rfl) rfl fun a hF => st hF (g_move hF rfl) rfl fun a hF => stY hF rfl rfl rfl (g_move hF rfl) rfl fun a hF => stY hF rfl rfl rfl (g_move hF rfl) rfl fun a hF => stY hF rfl rfl rfl (g_neq hF rfl rfl) rfl fun a hF => st hF (g_pickF hF rfl rfl) rfl fun a hF => ?_
  refine wpList_nil ?_
  refine tN ?_
  refine c_kF hF rfl (by decide) ?_
  refine wp_skip ?_
  refine tN ?_
  refine sq ?_
  refine wp_region_lit ?_
  refine st hF (g_assign hF rfl) rfl fun a hF => ?_
  refine wpList_nil ?_
  refine tN ?_
  refine sq ?_
  refine wp_region_lit ?_
  refine st hF (g_loadAgg ty_ag_27 hF rfl (hM.row 4 rfl) (by simp only [fnC_size, cells_size, vecC_size, tabC_size, planeC_size, tenC_size, smC_size, numC_size] <;> omega) (whole rfl)) rfl fun a hF => st hF (g_move hF rfl) rfl fun a hF => ?_
  refine stR hF (d_callX Try.call20 hF (.cons rfl (.cons rfl .nil)) (markTensor_ok (p : Int) (n : Int) ((0 : Nat) : Int) ((1 : Nat) : Int) b4 (n ^ (0 + 1)) (1) (tvF n 1 (vAtL [uu])) _ (by omega) (by omega) (hM.row 3 rfl))) rfl ?_
  rintro _ w' a ⟨hx, rfl, hbk⟩ hF
  have hM := hM.upd 3 rfl hx hbk
  change Mem w w' [some (b1, algC (p : Int) (n : Int) T f), some (b2, numC (n ^ (0 + 1)) (fun c => if c < n then uu c else 0)), some (b3, tenC (p : Int) (n : Int) ((0 : Nat) : Int) ((1 : Nat) : Int) (.slice (some ⟨b2, 0, none⟩) (n ^ (0 + 1)) (n ^ (0 + 1)))), some (b4, numC (n ^ (0 + 1)) (fun c => (1) + c)), some (b5, tenC (p : Int) (n : Int) ((0 : Nat) : Int) ((1 : Nat) : Int) (.slice (some ⟨b4, 0, none⟩) (n ^ (0 + 1)) (n ^ (0 + 1)))), none, none] [] at hM
  refine st hF (g_assign hF rfl) rfl fun a hF => ?_
  refine wpList_nil ?_
  refine tN ?_
  refine sq ?_
  refine wp_region_lit ?_
  refine st hF (g_assign hF rfl) rfl fun a hF => ?_
  refine wpList_nil ?_
  refine tN ?_
  refine sq ?_
  refine wp_region_lit ?_
  refine st hF (g_loadAgg ty_ag_27 hF rfl (hM.row 4 rfl) (by simp only [fnC_size, cells_size, vecC_size, tabC_size, planeC_size, tenC_size, smC_size, numC_size] <;> omega) (whole rfl)) rfl fun a hF => st hF (g_move hF rfl) rfl fun a hF => ?_
  refine stR hF (d_call Try.call21 hF (.cons rfl (.cons rfl .nil)) (heldTensor_ok (p : Int) (n : Int) ((0 : Nat) : Int) ((1 : Nat) : Int) b4 (n ^ (0 + 1)) (1) (fun c => (1) + c) _ (by omega) (by omega) (hM.row 3 rfl) (fun c _ => by omega))) rfl ?_
  rintro _ w' a ⟨hx, rfl⟩ hF
  have hM := hM.ext hx
  refine st hF (g_assign hF rfl) rfl fun a hF => ?_
  refine wpList_nil ?_
  refine tN ?_
  refine sq ?_
  refine sq ?_
  refine wp_region_lit ?_
  refine st hF (g_move hF rfl) rfl fun a hF => st hF (g_lss hF rfl rfl) rfl fun a hF => ?_
  refine wpList_nil ?_
  refine tN ?_
  refine c_cond hF rfl (fun h7 => ?_) (fun h7 => ?_)
  ·
    first | exact absurd rfl h7 | (exfalso; omega)
  ·
    refine wp_skip ?_
    refine tN ?_
    refine sq ?_
    refine sq ?_
    refine wp_region_lit ?_
    refine st hF (g_move hF rfl) rfl fun a hF => st hF (g_move hF rfl) rfl fun a hF => st hF (g_neq hF rfl rfl) rfl fun a hF => ?_
    refine wpList_nil ?_
    refine tN ?_
    refine c_cond hF rfl (fun h8 => ?_) (fun h8 => ?_)
    ·
      first | exact absurd rfl h8 | (exfalso; omega)
    ·
      refine wp_skip ?_
      refine tN ?_
      refine sq ?_
      refine wp_region_lit ?_
      refine st hF (g_loadAgg ty_ag_39 hF rfl (hM.row 0 rfl) (by simp only [fnC_size, cells_size, vecC_size, tabC_size, planeC_size, tenC_size, smC_size, numC_size] <;> omega) (whole cells_size)) rfl fun a hF => ?_
      refine stR hF (d_call Try.call23 hF (.cons rfl .nil) (toAlgebra_ok (p : Int) (n : Int) T f _)) rfl ?_
      rintro _ w' a ⟨hx, rfl⟩ hF
      have hM := hM.ext hx
      refine stR hF (d_call Try.call26 hF (.cons rfl .nil) (UnitTensorIB p n T f _ hp hn0 hn hTp hT0 hf uu huu hc)) rfl ?_
      rintro _ w' a ⟨hx, b9, rfl, hge, hbk⟩ hF
      have hM := hM.fill hx 5 hbk hge
      change Mem w w' [some (b1, algC (p : Int) (n : Int) T f), some (b2, numC (n ^ (0 + 1)) (fun c => if c < n then uu c else 0)), some (b3, tenC (p : Int) (n : Int) ((0 : Nat) : Int) ((1 : Nat) : Int) (.slice (some ⟨b2, 0, none⟩) (n ^ (0 + 1)) (n ^ (0 + 1)))), some (b4, numC (n ^ (0 + 1)) (fun c => (1) + c)), some (b5, tenC (p : Int) (n : Int) ((0 : Nat) : Int) ((1 : Nat) : Int) (.slice (some ⟨b4, 0, none⟩) (n ^ (0 + 1)) (n ^ (0 + 1)))), some (b9, numC (n ^ (0 + 1)) (tvF n 1 (vAtL [uu]))), none] [] at hM
      refine st hF (g_move hF rfl) rfl fun a hF => st hF (g_extract hF rfl rfl) rfl fun a hF => st hF (g_extract hF rfl rfl) rfl fun a hF => ?_
      refine stR hF (d_alloc 6 hM ty_ze_27) rfl ?_
      rintro _ w' a ⟨b10, rfl, hM, -⟩ hF
      change Mem w w' [some (b1, algC (p : Int) (n : Int) T f), some (b2, numC (n ^ (0 + 1)) (fun c => if c < n then uu c else 0)), some (b3, tenC (p : Int) (n : Int) ((0 : Nat) : Int) ((1 : Nat) : Int) (.slice (some ⟨b2, 0, none⟩) (n ^ (0 + 1)) (n ^ (0 + 1)))), some (b4, numC (n ^ (0 + 1)) (fun c => (1) + c)), some (b5, tenC (p : Int) (n : Int) ((0 : Nat) : Int) ((1 : Nat) : Int) (.slice (some ⟨b4, 0, none⟩) (n ^ (0 + 1)) (n ^ (0 + 1)))), some (b9, numC (n ^ (0 + 1)) (tvF n 1 (vAtL [uu]))), some (b10, tenC 0 0 0 0 (.slice none 0 0))] [] at hM
      refine stN hF (d_storeAgg 6 hM rfl ty_sz_27 hF rfl rfl (tenC_one rfl) (by simp only [fnC_size, cells_size, vecC_size, tabC_size, planeC_size, tenC_size, smC_size, numC_size]) (by simp only [fnC_size, cells_size, vecC_size, tabC_size, planeC_size, tenC_size, smC_size, numC_size] <;> omega) (splice_whole _ _ rfl)) ?_
      intro _ w' a hM hF
      change Mem w w' [some (b1, algC (p : Int) (n : Int) T f), some (b2, numC (n ^ (0 + 1)) (fun c => if c < n then uu c else 0)), some (b3, tenC (p : Int) (n : Int) ((0 : Nat) : Int) ((1 : Nat) : Int) (.slice (some ⟨b2, 0, none⟩) (n ^ (0 + 1)) (n ^ (0 + 1)))), some (b4, numC (n ^ (0 + 1)) (fun c => (1) + c)), some (b5, tenC (p : Int) (n : Int) ((0 : Nat) : Int) ((1 : Nat) : Int) (.slice (some ⟨b4, 0, none⟩) (n ^ (0 + 1)) (n ^ (0 + 1)))), some (b9, numC (n ^ (0 + 1)) (tvF n 1 (vAtL [uu]))), some (b10, tenC (p : Int) (n : Int) ((0 : Nat) : Int) ((1 : Nat) : Int) (.slice (some ⟨b9, 0, none⟩) (n ^ (0 + 1)) (n ^ (0 + 1))))] [] at hM
      refine st hF (g_assign hF rfl) rfl fun a hF => ?_
      refine wpList_nil ?_
      refine tN ?_
      refine sq ?_
      refine sq ?_
      refine wp_region_lit ?_
      refine st hF (g_loadAgg ty_ag_27 hF rfl (hM.row 6 rfl) (by simp only [fnC_size, cells_size, vecC_size, tabC_size, planeC_size, tenC_size, smC_size, numC_size] <;> omega) (whole rfl)) rfl fun a hF => st hF (g_loadAgg ty_ag_27 hF rfl (hM.row 2 rfl) (by simp only [fnC_size, cells_size, vecC_size, tabC_size, planeC_size, tenC_size, smC_size, numC_size] <;> omega) (whole rfl)) rfl fun a hF => ?_
      refine stR hF (d_call Try.call17 hF (.cons rfl (.cons rfl .nil)) (eqTensor_ok (p : Int) (n : Int) ((0 : Nat) : Int) ((1 : Nat) : Int) b9 b2 (n ^ (0 + 1)) (tvF n 1 (vAtL [uu])) (fun c => if c < n then uu c else 0) _ (hM.row 5 rfl) (hM.row 1 rfl) (by omega) eqlaw)) rfl ?_
      rintro _ w' a ⟨hx, rfl⟩ hF
      have hM := hM.ext hx
      refine st hF (g_not hF rfl) rfl fun a hF => st hF (g_move hF rfl) rfl fun a hF => stY hF rfl rfl rfl (g_move hF rfl) rfl fun a hF => stY hF rfl rfl rfl (g_move hF rfl) rfl fun a hF => stY hF rfl rfl rfl (g_neq hF rfl rfl) rfl fun a hF => st hF (g_pickF hF rfl rfl) rfl fun a hF => ?_
      refine wpList_nil ?_
      refine tN ?_
      refine c_kF hF rfl (by decide) ?_
      refine wp_skip ?_
      refine tN ?_
      refine sq ?_
      refine wp_region_lit ?_
      refine st hF (g_assign hF rfl) rfl fun a hF => ?_
      refine wpList_nil ?_
      refine tN ?_
      refine sq ?_
      refine wp_region_lit ?_
      refine st hF (g_loadAgg ty_ag_27 hF rfl (hM.row 4 rfl) (by simp only [fnC_size, cells_size, vecC_size, tabC_size, planeC_size, tenC_size, smC_size, numC_size] <;> omega) (whole rfl)) rfl fun a hF => st hF (g_move hF rfl) rfl fun a hF => ?_
      refine stR hF (d_call Try.call21 hF (.cons rfl (.cons rfl .nil)) (heldTensor_ok (p : Int) (n : Int) ((0 : Nat) : Int) ((1 : Nat) : Int) b4 (n ^ (0 + 1)) (1) (fun c => (1) + c) _ (by omega) (by omega) (hM.row 3 rfl) (fun c _ => by omega))) rfl ?_
      rintro _ w' a ⟨hx, rfl⟩ hF
      have hM := hM.ext hx
      refine st hF (g_assign hF rfl) rfl fun a hF => ?_
      refine wpList_nil ?_
      refine tN ?_
      refine sq ?_
      refine sq ?_
      refine wp_region_lit ?_
      refine st hF (g_move hF rfl) rfl fun a hF => st hF (g_lss hF rfl rfl) rfl fun a hF => ?_
      refine wpList_nil ?_
      refine tN ?_
      refine c_kF hF rfl h7 ?_
      refine wp_skip ?_
      refine tN ?_
      refine sq ?_
      refine sq ?_
      refine wp_region_lit ?_
      refine st hF (g_move hF rfl) rfl fun a hF => st hF (g_move hF rfl) rfl fun a hF => st hF (g_neq hF rfl rfl) rfl fun a hF => ?_
      refine wpList_nil ?_
      refine tN ?_
      refine c_kF hF rfl h8 ?_
      refine wp_skip ?_
      refine tN ?_
      refine sq ?_
      refine wp_region_lit ?_
      refine st hF (g_assign hF rfl) rfl fun a hF => ?_
      refine wpList_nil ?_
      refine tN ?_
      refine wp_ret ?_
      refine fin1 rfl hF.defers (res_tmp hF rfl) ⟨_, rfl, hM.below, ?_⟩
      show _ = _
      rfl

theorem law_UnitTensor (p n : Int) (T : Nat → Nat → Nat → Nat) (f : Nat → Nat) (w : World) (hT : ∀ i j k, T i j k ≤ 255) (hf : ∀ i, f i ≤ 255) : CallsV Try.prog 6 #[.agg (algC p n T f)] w (.bool true) := by
  by_cases hc : CodeP p n T f 0 (vAtL [])
  · have hs := hc.1.1
    have hp0 := primeP_pos hs.1
    have hnn := hs.2.1
    have e1 : ((p.toNat : Nat) : Int) = p := by omega
    have e2 : ((n.toNat : Nat) : Int) = n := by omega
    obtain ⟨uu, huu⟩ := hc.1.2.2
    have h := law_UnitTensorB p.toNat n.toNat (trunc n.toNat T) f w (primeN_of hs.1) (by omega) (by omega) (trunc_lt hs) trunc_out hf uu huu (by rw [e1, e2]; exact code_trunc hc)
    rw [e1, e2, ← algC_trunc hs] at h
    exact h
  · exact law_UnitTensorA p n T f w hT hf hc

end Go.Proofs.Ythliekalhgafcaa
