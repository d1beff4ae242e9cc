/- What functions of the program return, as walks over their operations; no statement of the seat is proved here. -/
import Derived.Test.YtohkfmgflecgoaaX2
import Derived.Test.YtohkfmgflecgoaaSw45
set_option linter.unusedVariables false
set_option linter.unusedSimpArgs false
namespace Go.Proofs.Ytohkfmgflecgoaa
open Go Go.RowKit Go.Sw Go.Ech
open Classical
theorem ty_ag_26 : aggP Try.prog 26 = some 224 := by kernel_rfl
theorem ParseVectorS_A (p n : Int) (T : Nat → Nat → Nat → Nat) (f : Nat → Nat) (s : ByteArray) (w : World) (hT : ∀ i j k, T i j k ≤ 255) (hf : ∀ i, f i ≤ 255) (hz : s.size < 10000000) (hc : ¬ CodeP p n T f 0 (vAtL [])) :
    CallsR Try.prog 4 #[.agg (algC p n T f), .string (s)] w (fun res _ => res = .tuple #[.agg (vecC (fun _ => 0)), .int .i64 (1)]) := by
  refine calls_fr [.agg (algC p n T f), .string (s)] Try.func4 rfl Try.ntmps4 rfl fun a hF => ?_
  have hM : Mem w w [none, none, none] [] := MemX.start w 3
  change Fr 25 a [(0, .agg (algC p n T f)), (1, .string (s))] at hF
  refine sq ?_
  refine wp_region_lit ?_
  refine stR hF (d_box 0 hM hF rfl) rfl ?_
  rintro _ w' a ⟨b1, rfl, hM, -⟩ hF
  change Mem w w' [some (b1, algC p n T f), none, none] [] at hM
  refine stR hF (d_alloc 1 hM ty_ze_27) rfl ?_
  rintro _ w' a ⟨b2, rfl, hM, -⟩ hF
  change Mem w w' [some (b1, algC p n T f), some (b2, fnC 6 (fun _ => .int .u8 (0))), none] [] at hM
  refine st hF (g_assign hF rfl) rfl fun a hF => ?_
  refine wpList_nil ?_
  refine tN ?_
  refine sq ?_
  refine sq ?_
  refine wp_region_lit ?_
  refine st hF (g_loadAgg ty_ag_31 hF rfl (hM.row 0 rfl) (by simp only [fnC_size, cells_size, vecC_size, tabC_size, planeC_size, dgC_size] <;> omega) (whole cells_size)) rfl fun a hF => ?_
  refine stR hF (d_call Try.call8 hF (.cons rfl (.cons rfl .nil)) ((CallsR.val (l01Code_0 p n T f (vAtL []) _ (fun _ _ _ => hT _ _ _) (fun _ => hf _)) (congrArg (Value.int .i64) (if_neg hc))))) rfl ?_
  rintro _ w' a ⟨hx, rfl⟩ hF
  have hM := hM.ext hx
  refine st hF (g_assign hF rfl) rfl fun a hF => ?_
  refine wpList_nil ?_
  refine tN ?_
  refine sq ?_
  refine wp_region_lit ?_
  refine st hF (g_move hF rfl) rfl fun a hF => st hF (g_neq hF rfl rfl) rfl fun a hF => ?_
  refine wpList_nil ?_
  refine tN ?_
  refine c_kT hF rfl (by decide) ?_
  refine sq ?_
  refine wp_region_lit ?_
  refine st hF (g_build0 ty_bu_27) rfl fun a hF => st hF (g_move hF rfl) rfl fun a hF => ?_
  refine stN hF (d_storeAgg 1 hM rfl ty_sz_27 hF rfl rfl (by first | exact vecC_one | exact cells_one | (refine fnC_one fun _ _ => ?_; first | rfl | (split <;> rfl))) (by simp only [fnC_size, cells_size, vecC_size, tabC_size, planeC_size, dgC_size]) (by simp only [fnC_size, cells_size, vecC_size, tabC_size, planeC_size, dgC_size] <;> omega) (splice_whole _ _ (by simp only [fnC_size, cells_size, vecC_size, tabC_size, planeC_size, dgC_size]))) ?_
  intro _ w' a hM hF
  change Mem w w' [some (b1, algC p n T f), some (b2, fnC 6 (fun _ => .int .u8 (0))), none] [] at hM
  refine st hF (g_assign hF rfl) rfl fun a hF => ?_
  refine wpList_nil ?_
  refine tN ?_
  refine wp_ret ?_
  refine tR ?_
  refine fin2 rfl hF.defers (res_agg ty_ag_27 hF rfl (hM.row 1 rfl) (by simp only [fnC_size, cells_size, vecC_size, tabC_size, planeC_size, dgC_size])) (res_tmp hF rfl) ⟨_, rfl, hM.below, ?_⟩
  show _ = _
  rfl

theorem ParseVectorS_Y (p n : Nat) (T : Nat → Nat → Nat → Nat) (f : Nat → Nat) (s : ByteArray) (w : World) (hp : primeN p) (hn0 : 0 < n) (hn : n ≤ 6) (hTp : ∀ i j k, T i j k < p) (hT0 : ∀ i j k, n ≤ k → T i j k = 0) (hf : ∀ i, f i ≤ 255) (hz : s.size < 10000000) (hr : rdP p n s) (hc : CodeP (p : Int) (n : Int) T f 0 (vAtL [])) :
    CallsR Try.prog 4 #[.agg (algC (p : Int) (n : Int) T f), .string (s)] w (fun res _ => res = .tuple #[.agg (vecC (rdV n s)), .int .i64 (0)]) := by
  refine calls_fr [.agg (algC (p : Int) (n : Int) T f), .string (s)] Try.func4 rfl Try.ntmps4 rfl fun a hF => ?_
  have hM : Mem w w [none, none, none] [] := MemX.start w 3
  change Fr 25 a [(0, .agg (algC (p : Int) (n : Int) T f)), (1, .string (s))] at hF
  have hp2 := hp.two
  have hp13 := hp.le
  have hT : ∀ i j k, T i j k ≤ 255 := fun i j k => by have := hTp i j k; omega
  refine sq ?_
  refine wp_region_lit ?_
  refine stR hF (d_box 0 hM hF rfl) rfl ?_
  rintro _ w' a ⟨b1, rfl, hM, -⟩ hF
  change Mem w w' [some (b1, algC (p : Int) (n : Int) T f), none, none] [] at hM
  refine stR hF (d_alloc 1 hM ty_ze_27) rfl ?_
  rintro _ w' a ⟨b2, rfl, hM, -⟩ hF
  change Mem w w' [some (b1, algC (p : Int) (n : Int) T f), some (b2, fnC 6 (fun _ => .int .u8 (0))), none] [] at hM
  refine st hF (g_assign hF rfl) rfl fun a hF => ?_
  refine wpList_nil ?_
  refine tN ?_
  refine sq ?_
  refine sq ?_
  refine wp_region_lit ?_
  refine st hF (g_loadAgg ty_ag_31 hF rfl (hM.row 0 rfl) (by simp only [fnC_size, cells_size, vecC_size, tabC_size, planeC_size, dgC_size] <;> omega) (whole cells_size)) rfl fun a hF => ?_
  refine stR hF (d_call Try.call8 hF (.cons rfl (.cons rfl .nil)) ((CallsR.val (l01Code_0 (p : Int) (n : Int) T f (vAtL []) _ (fun _ _ _ => hT _ _ _) (fun _ => hf _)) (congrArg (Value.int .i64) (if_pos hc))))) rfl ?_
  rintro _ w' a ⟨hx, rfl⟩ hF
  have hM := hM.ext hx
  refine st hF (g_assign hF rfl) rfl fun a hF => ?_
  refine wpList_nil ?_
  refine tN ?_
  refine sq ?_
  refine wp_region_lit ?_
  refine st hF (g_move hF rfl) rfl fun a hF => st hF (g_neq hF rfl rfl) rfl fun a hF => ?_
  refine wpList_nil ?_
  refine tN ?_
  refine c_kF hF rfl (by decide) ?_
  refine wp_skip ?_
  refine tN ?_
  refine sq ?_
  refine wp_region_lit ?_
  refine st hF (g_loadAgg ty_ag_31 hF rfl (hM.row 0 rfl) (by simp only [fnC_size, cells_size, vecC_size, tabC_size, planeC_size, dgC_size] <;> omega) (whole cells_size)) rfl fun a hF => st hF (g_move hF rfl) rfl fun a hF => ?_
  refine stR hF (d_call Try.call9 hF (.cons rfl (.cons rfl .nil)) (l01ReadVector_Y p n T f s _ (by omega) (by omega) hn0 hn (by omega) hr)) rfl ?_
  rintro _ w' a ⟨hx, rfl⟩ hF
  have hM := hM.ext hx
  refine st hF (g_move hF rfl) rfl fun a hF => st hF (g_extract hF rfl rfl) rfl fun a hF => st hF (g_extract hF rfl rfl) rfl fun a hF => ?_
  refine stR hF (d_alloc 2 hM ty_ze_27) rfl ?_
  rintro _ w' a ⟨b4, rfl, hM, -⟩ hF
  change Mem w w' [some (b1, algC (p : Int) (n : Int) T f), some (b2, fnC 6 (fun _ => .int .u8 (0))), some (b4, fnC 6 (fun _ => .int .u8 (0)))] [] at hM
  refine stN hF (d_storeAgg 2 hM rfl ty_sz_27 hF rfl rfl (by first | exact vecC_one | exact cells_one | (refine fnC_one fun _ _ => ?_; first | rfl | (split <;> rfl))) (by simp only [fnC_size, cells_size, vecC_size, tabC_size, planeC_size, dgC_size]) (by simp only [fnC_size, cells_size, vecC_size, tabC_size, planeC_size, dgC_size] <;> omega) (splice_whole _ _ (by simp only [fnC_size, cells_size, vecC_size, tabC_size, planeC_size, dgC_size]))) ?_
  intro _ w' a hM hF
  change Mem w w' [some (b1, algC (p : Int) (n : Int) T f), some (b2, fnC 6 (fun _ => .int .u8 (0))), some (b4, vecC (rdV n s))] [] at hM
  refine st hF (g_assign hF rfl) rfl fun a hF => ?_
  refine wpList_nil ?_
  refine tN ?_
  refine sq ?_
  refine sq ?_
  refine wp_region_lit ?_
  refine st hF (g_move hF rfl) rfl fun a hF => st hF (g_not hF rfl) rfl fun a hF => ?_
  refine wpList_nil ?_
  refine tN ?_
  refine c_Fl hF rfl ?_
  refine wp_skip ?_
  refine tN ?_
  refine sq ?_
  refine wp_region_lit ?_
  refine st hF (g_loadAgg ty_ag_27 hF rfl (hM.row 2 rfl) (by simp only [fnC_size, cells_size, vecC_size, tabC_size, planeC_size, dgC_size] <;> omega) (whole (by simp only [fnC_size, cells_size, vecC_size, tabC_size, planeC_size, dgC_size]))) rfl fun a hF => ?_
  refine stN hF (d_storeAgg 1 hM rfl ty_sz_27 hF rfl rfl (by first | exact vecC_one | exact cells_one | (refine fnC_one fun _ _ => ?_; first | rfl | (split <;> rfl))) (by simp only [fnC_size, cells_size, vecC_size, tabC_size, planeC_size, dgC_size]) (by simp only [fnC_size, cells_size, vecC_size, tabC_size, planeC_size, dgC_size] <;> omega) (splice_whole _ _ (by simp only [fnC_size, cells_size, vecC_size, tabC_size, planeC_size, dgC_size]))) ?_
  intro _ w' a hM hF
  change Mem w w' [some (b1, algC (p : Int) (n : Int) T f), some (b2, vecC (rdV n s)), some (b4, vecC (rdV n s))] [] at hM
  refine st hF (g_assign hF rfl) rfl fun a hF => ?_
  refine wpList_nil ?_
  refine tN ?_
  refine wp_ret ?_
  refine fin2 rfl hF.defers (res_agg ty_ag_27 hF rfl (hM.row 1 rfl) (by simp only [fnC_size, cells_size, vecC_size, tabC_size, planeC_size, dgC_size])) (res_tmp hF rfl) ⟨_, rfl, hM.below, ?_⟩
  show _ = _
  rfl

theorem ParseVectorS_N (p n : Nat) (T : Nat → Nat → Nat → Nat) (f : Nat → Nat) (s : ByteArray) (w : World) (hp : primeN p) (hn0 : 0 < n) (hn : n ≤ 6) (hTp : ∀ i j k, T i j k < p) (hT0 : ∀ i j k, n ≤ k → T i j k = 0) (hf : ∀ i, f i ≤ 255) (hz : s.size < 10000000) (hr : ¬ rdP p n s) (hc : CodeP (p : Int) (n : Int) T f 0 (vAtL [])) :
    CallsR Try.prog 4 #[.agg (algC (p : Int) (n : Int) T f), .string (s)] w (fun res _ => res = .tuple #[.agg (vecC (fun _ => 0)), .int .i64 (6)]) := by
  refine calls_fr [.agg (algC (p : Int) (n : Int) T f), .string (s)] Try.func4 rfl Try.ntmps4 rfl fun a hF => ?_
  have hM : Mem w w [none, none, none] [] := MemX.start w 3
  change Fr 25 a [(0, .agg (algC (p : Int) (n : Int) T f)), (1, .string (s))] at hF
  have hp2 := hp.two
  have hp13 := hp.le
  have hT : ∀ i j k, T i j k ≤ 255 := fun i j k => by have := hTp i j k; omega
  refine sq ?_
  refine wp_region_lit ?_
  refine stR hF (d_box 0 hM hF rfl) rfl ?_
  rintro _ w' a ⟨b1, rfl, hM, -⟩ hF
  change Mem w w' [some (b1, algC (p : Int) (n : Int) T f), none, none] [] at hM
  refine stR hF (d_alloc 1 hM ty_ze_27) rfl ?_
  rintro _ w' a ⟨b2, rfl, hM, -⟩ hF
  change Mem w w' [some (b1, algC (p : Int) (n : Int) T f), some (b2, fnC 6 (fun _ => .int .u8 (0))), none] [] at hM
  refine st hF (g_assign hF rfl) rfl fun a hF => ?_
  refine wpList_nil ?_
  refine tN ?_
  refine sq ?_
  refine sq ?_
  refine wp_region_lit ?_
  refine st hF (g_loadAgg ty_ag_31 hF rfl (hM.row 0 rfl) (by simp only [fnC_size, cells_size, vecC_size, tabC_size, planeC_size, dgC_size] <;> omega) (whole cells_size)) rfl fun a hF => ?_
  refine stR hF (d_call Try.call8 hF (.cons rfl (.cons rfl .nil)) ((CallsR.val (l01Code_0 (p : Int) (n : Int) T f (vAtL []) _ (fun _ _ _ => hT _ _ _) (fun _ => hf _)) (congrArg (Value.int .i64) (if_pos hc))))) rfl ?_
  rintro _ w' a ⟨hx, rfl⟩ hF
  have hM := hM.ext hx
  refine st hF (g_assign hF rfl) rfl fun a hF => ?_
  refine wpList_nil ?_
  refine tN ?_
  refine sq ?_
  refine wp_region_lit ?_
  refine st hF (g_move hF rfl) rfl fun a hF => st hF (g_neq hF rfl rfl) rfl fun a hF => ?_
  refine wpList_nil ?_
  refine tN ?_
  refine c_kF hF rfl (by decide) ?_
  refine wp_skip ?_
  refine tN ?_
  refine sq ?_
  refine wp_region_lit ?_
  refine st hF (g_loadAgg ty_ag_31 hF rfl (hM.row 0 rfl) (by simp only [fnC_size, cells_size, vecC_size, tabC_size, planeC_size, dgC_size] <;> omega) (whole cells_size)) rfl fun a hF => st hF (g_move hF rfl) rfl fun a hF => ?_
  refine stR hF (d_call Try.call9 hF (.cons rfl (.cons rfl .nil)) (l01ReadVector_N p n T f s _ (by omega) (by omega) hn0 hn (by omega) hr)) rfl ?_
  rintro _ w' a ⟨hx, rfl⟩ hF
  have hM := hM.ext hx
  refine st hF (g_move hF rfl) rfl fun a hF => st hF (g_extract hF rfl rfl) rfl fun a hF => st hF (g_extract hF rfl rfl) rfl fun a hF => ?_
  refine stR hF (d_alloc 2 hM ty_ze_27) rfl ?_
  rintro _ w' a ⟨b4, rfl, hM, -⟩ hF
  change Mem w w' [some (b1, algC (p : Int) (n : Int) T f), some (b2, fnC 6 (fun _ => .int .u8 (0))), some (b4, fnC 6 (fun _ => .int .u8 (0)))] [] at hM
  refine stN hF (d_storeAgg 2 hM rfl ty_sz_27 hF rfl rfl (by first | exact vecC_one | exact cells_one | (refine fnC_one fun _ _ => ?_; first | rfl | (split <;> rfl))) (by simp only [fnC_size, cells_size, vecC_size, tabC_size, planeC_size, dgC_size]) (by simp only [fnC_size, cells_size, vecC_size, tabC_size, planeC_size, dgC_size] <;> omega) (splice_whole _ _ (by simp only [fnC_size, cells_size, vecC_size, tabC_size, planeC_size, dgC_size]))) ?_
  intro _ w' a hM hF
  change Mem w w' [some (b1, algC (p : Int) (n : Int) T f), some (b2, fnC 6 (fun _ => .int .u8 (0))), some (b4, vecC (fun _ => 0))] [] at hM
  refine st hF (g_assign hF rfl) rfl fun a hF => ?_
  refine wpList_nil ?_
  refine tN ?_
  refine sq ?_
  refine sq ?_
  refine wp_region_lit ?_
  refine st hF (g_move hF rfl) rfl fun a hF => st hF (g_not hF rfl) rfl fun a hF => ?_
  refine wpList_nil ?_
  refine tN ?_
  refine c_T hF rfl ?_
  refine sq ?_
  refine wp_region_lit ?_
  refine st hF (g_build0 ty_bu_27) rfl fun a hF => ?_
  refine stN hF (d_storeAgg 1 hM rfl ty_sz_27 hF rfl rfl (by first | exact vecC_one | exact cells_one | (refine fnC_one fun _ _ => ?_; first | rfl | (split <;> rfl))) (by simp only [fnC_size, cells_size, vecC_size, tabC_size, planeC_size, dgC_size]) (by simp only [fnC_size, cells_size, vecC_size, tabC_size, planeC_size, dgC_size] <;> omega) (splice_whole _ _ (by simp only [fnC_size, cells_size, vecC_size, tabC_size, planeC_size, dgC_size]))) ?_
  intro _ w' a hM hF
  change Mem w w' [some (b1, algC (p : Int) (n : Int) T f), some (b2, fnC 6 (fun _ => .int .u8 (0))), some (b4, vecC (fun _ => 0))] [] at hM
  refine st hF (g_assign hF rfl) rfl fun a hF => ?_
  refine wpList_nil ?_
  refine tN ?_
  refine wp_ret ?_
  refine tR ?_
  refine fin2 rfl hF.defers (res_agg ty_ag_27 hF rfl (hM.row 1 rfl) (by simp only [fnC_size, cells_size, vecC_size, tabC_size, planeC_size, dgC_size])) (res_tmp hF rfl) ⟨_, rfl, hM.below, ?_⟩
  show _ = _
  rfl

theorem ParseVectorI_A (p n : Int) (T : Nat → Nat → Nat → Nat) (f : Nat → Nat) (s : ByteArray) (w : World) (hT : ∀ i j k, T i j k ≤ 255) (hf : ∀ i, f i ≤ 255) (hz : s.size < 10000000) (hc : ¬ CodeP p n T f 0 (vAtL [])) :
    CallsR Try.prog 6 #[.agg (algC p n T f), .string (s)] w (fun res _ => res = .tuple #[.agg (vecC (fun _ => 0)), .int .i64 (1)]) := by
  refine calls_fr [.agg (algC p n T f), .string (s)] Try.func6 rfl Try.ntmps6 rfl fun a hF => ?_
  have hM : Mem w w [none, none, none] [] := MemX.start w 3
  change Fr 22 a [(0, .agg (algC p n T f)), (1, .string (s))] at hF
  refine sq ?_
  refine wp_region_lit ?_
  refine stR hF (d_box 0 hM hF rfl) rfl ?_
  rintro _ w' a ⟨b1, rfl, hM, -⟩ hF
  change Mem w w' [some (b1, algC p n T f), none, none] [] at hM
  refine stR hF (d_alloc 1 hM ty_ze_27) rfl ?_
  rintro _ w' a ⟨b2, rfl, hM, -⟩ hF
  change Mem w w' [some (b1, algC p n T f), some (b2, fnC 6 (fun _ => .int .u8 (0))), none] [] at hM
  refine st hF (g_assign hF rfl) rfl fun a hF => ?_
  refine wpList_nil ?_
  refine tN ?_
  refine sq ?_
  refine sq ?_
  refine wp_region_lit ?_
  refine st hF (g_loadAgg ty_ag_31 hF rfl (hM.row 0 rfl) (by simp only [fnC_size, cells_size, vecC_size, tabC_size, planeC_size, dgC_size] <;> omega) (whole cells_size)) rfl fun a hF => ?_
  refine stR hF (d_call Try.call12 hF (.cons rfl .nil) ((CallsR.val (IsAlgebraI_ok p n T f _ (fun _ _ _ => hT _ _ _) (fun _ => hf _)) (congrArg Value.bool (decide_eq_false (fun h => hc ⟨h, fun i hi => absurd hi (by omega)⟩)))))) rfl ?_
  rintro _ w' a ⟨hx, rfl⟩ hF
  have hM := hM.ext hx
  refine st hF (g_not hF rfl) rfl fun a hF => ?_
  refine wpList_nil ?_
  refine tN ?_
  refine c_T hF rfl ?_
  refine sq ?_
  refine wp_region_lit ?_
  refine st hF (g_build0 ty_bu_27) rfl fun a hF => ?_
  refine stN hF (d_storeAgg 1 hM rfl ty_sz_27 hF rfl rfl (by first | exact vecC_one | exact cells_one | (refine fnC_one fun _ _ => ?_; first | rfl | (split <;> rfl))) (by simp only [fnC_size, cells_size, vecC_size, tabC_size, planeC_size, dgC_size]) (by simp only [fnC_size, cells_size, vecC_size, tabC_size, planeC_size, dgC_size] <;> omega) (splice_whole _ _ (by simp only [fnC_size, cells_size, vecC_size, tabC_size, planeC_size, dgC_size]))) ?_
  intro _ w' a hM hF
  change Mem w w' [some (b1, algC p n T f), some (b2, fnC 6 (fun _ => .int .u8 (0))), none] [] at hM
  refine st hF (g_assign hF rfl) rfl fun a hF => ?_
  refine wpList_nil ?_
  refine tN ?_
  refine wp_ret ?_
  refine tR ?_
  refine fin2 rfl hF.defers (res_agg ty_ag_27 hF rfl (hM.row 1 rfl) (by simp only [fnC_size, cells_size, vecC_size, tabC_size, planeC_size, dgC_size])) (res_tmp hF rfl) ⟨_, rfl, hM.below, ?_⟩
  show _ = _
  rfl

theorem ParseVectorI_Y (p n : Nat) (T : Nat → Nat → Nat → Nat) (f : Nat → Nat) (s : ByteArray) (w : World) (hp : primeN p) (hn0 : 0 < n) (hn : n ≤ 6) (hTp : ∀ i j k, T i j k < p) (hT0 : ∀ i j k, n ≤ k → T i j k = 0) (hf : ∀ i, f i ≤ 255) (hz : s.size < 10000000) (hr : rdP p n s) (hc : CodeP (p : Int) (n : Int) T f 0 (vAtL [])) :
    CallsR Try.prog 6 #[.agg (algC (p : Int) (n : Int) T f), .string (s)] w (fun res _ => res = .tuple #[.agg (vecC (rdV n s)), .int .i64 (0)]) := by
  refine calls_fr [.agg (algC (p : Int) (n : Int) T f), .string (s)] Try.func6 rfl Try.ntmps6 rfl fun a hF => ?_
  have hM : Mem w w [none, none, none] [] := MemX.start w 3
  change Fr 22 a [(0, .agg (algC (p : Int) (n : Int) T f)), (1, .string (s))] at hF
  have hp2 := hp.two
  have hp13 := hp.le
  have hT : ∀ i j k, T i j k ≤ 255 := fun i j k => by have := hTp i j k; omega
  refine sq ?_
  refine wp_region_lit ?_
  refine stR hF (d_box 0 hM hF rfl) rfl ?_
  rintro _ w' a ⟨b1, rfl, hM, -⟩ hF
  change Mem w w' [some (b1, algC (p : Int) (n : Int) T f), none, none] [] at hM
  refine stR hF (d_alloc 1 hM ty_ze_27) rfl ?_
  rintro _ w' a ⟨b2, rfl, hM, -⟩ hF
  change Mem w w' [some (b1, algC (p : Int) (n : Int) T f), some (b2, fnC 6 (fun _ => .int .u8 (0))), none] [] at hM
  refine st hF (g_assign hF rfl) rfl fun a hF => ?_
  refine wpList_nil ?_
  refine tN ?_
  refine sq ?_
  refine sq ?_
  refine wp_region_lit ?_
  refine st hF (g_loadAgg ty_ag_31 hF rfl (hM.row 0 rfl) (by simp only [fnC_size, cells_size, vecC_size, tabC_size, planeC_size, dgC_size] <;> omega) (whole cells_size)) rfl fun a hF => ?_
  refine stR hF (d_call Try.call12 hF (.cons rfl .nil) ((CallsR.val (IsAlgebraI_ok (p : Int) (n : Int) T f _ (fun _ _ _ => hT _ _ _) (fun _ => hf _)) (congrArg Value.bool (decide_eq_true hc.1))))) rfl ?_
  rintro _ w' a ⟨hx, rfl⟩ hF
  have hM := hM.ext hx
  refine st hF (g_not hF rfl) rfl fun a hF => ?_
  refine wpList_nil ?_
  refine tN ?_
  refine c_Fl hF rfl ?_
  refine wp_skip ?_
  refine tN ?_
  refine sq ?_
  refine wp_region_lit ?_
  refine st hF (g_loadAgg ty_ag_31 hF rfl (hM.row 0 rfl) (by simp only [fnC_size, cells_size, vecC_size, tabC_size, planeC_size, dgC_size] <;> omega) (whole cells_size)) rfl fun a hF => st hF (g_move hF rfl) rfl fun a hF => ?_
  refine stR hF (d_call Try.call13 hF (.cons rfl (.cons rfl .nil)) (readVector_Y p n T f s _ (by omega) (by omega) hn0 hn (by omega) hr)) rfl ?_
  rintro _ w' a ⟨hx, rfl⟩ hF
  have hM := hM.ext hx
  refine st hF (g_move hF rfl) rfl fun a hF => st hF (g_extract hF rfl rfl) rfl fun a hF => st hF (g_extract hF rfl rfl) rfl fun a hF => ?_
  refine stR hF (d_alloc 2 hM ty_ze_27) rfl ?_
  rintro _ w' a ⟨b4, rfl, hM, -⟩ hF
  change Mem w w' [some (b1, algC (p : Int) (n : Int) T f), some (b2, fnC 6 (fun _ => .int .u8 (0))), some (b4, fnC 6 (fun _ => .int .u8 (0)))] [] at hM
  refine stN hF (d_storeAgg 2 hM rfl ty_sz_27 hF rfl rfl (by first | exact vecC_one | exact cells_one | (refine fnC_one fun _ _ => ?_; first | rfl | (split <;> rfl))) (by simp only [fnC_size, cells_size, vecC_size, tabC_size, planeC_size, dgC_size]) (by simp only [fnC_size, cells_size, vecC_size, tabC_size, planeC_size, dgC_size] <;> omega) (splice_whole _ _ (by simp only [fnC_size, cells_size, vecC_size, tabC_size, planeC_size, dgC_size]))) ?_
  intro _ w' a hM hF
  change Mem w w' [some (b1, algC (p : Int) (n : Int) T f), some (b2, fnC 6 (fun _ => .int .u8 (0))), some (b4, vecC (rdV n s))] [] at hM
  refine st hF (g_assign hF rfl) rfl fun a hF => ?_
  refine wpList_nil ?_
  refine tN ?_
  refine sq ?_
  refine sq ?_
  refine wp_region_lit ?_
  refine st hF (g_move hF rfl) rfl fun a hF => st hF (g_not hF rfl) rfl fun a hF => ?_
  refine wpList_nil ?_
  refine tN ?_
  refine c_Fl hF rfl ?_
  refine wp_skip ?_
  refine tN ?_
  refine sq ?_
  refine wp_region_lit ?_
  refine st hF (g_loadAgg ty_ag_27 hF rfl (hM.row 2 rfl) (by simp only [fnC_size, cells_size, vecC_size, tabC_size, planeC_size, dgC_size] <;> omega) (whole (by simp only [fnC_size, cells_size, vecC_size, tabC_size, planeC_size, dgC_size]))) rfl fun a hF => ?_
  refine stN hF (d_storeAgg 1 hM rfl ty_sz_27 hF rfl rfl (by first | exact vecC_one | exact cells_one | (refine fnC_one fun _ _ => ?_; first | rfl | (split <;> rfl))) (by simp only [fnC_size, cells_size, vecC_size, tabC_size, planeC_size, dgC_size]) (by simp only [fnC_size, cells_size, vecC_size, tabC_size, planeC_size, dgC_size] <;> omega) (splice_whole _ _ (by simp only [fnC_size, cells_size, vecC_size, tabC_size, planeC_size, dgC_size]))) ?_
  intro _ w' a hM hF
  change Mem w w' [some (b1, algC (p : Int) (n : Int) T f), some (b2, vecC (rdV n s)), some (b4, vecC (rdV n s))] [] at hM
  refine st hF (g_assign hF rfl) rfl fun a hF => ?_
  refine wpList_nil ?_
  refine tN ?_
  refine wp_ret ?_
  refine fin2 rfl hF.defers (res_agg ty_ag_27 hF rfl (hM.row 1 rfl) (by simp only [fnC_size, cells_size, vecC_size, tabC_size, planeC_size, dgC_size])) (res_tmp hF rfl) ⟨_, rfl, hM.below, ?_⟩
  show _ = _
  rfl

theorem ParseVectorI_N (p n : Nat) (T : Nat → Nat → Nat → Nat) (f : Nat → Nat) (s : ByteArray) (w : World) (hp : primeN p) (hn0 : 0 < n) (hn : n ≤ 6) (hTp : ∀ i j k, T i j k < p) (hT0 : ∀ i j k, n ≤ k → T i j k = 0) (hf : ∀ i, f i ≤ 255) (hz : s.size < 10000000) (hr : ¬ rdP p n s) (hc : CodeP (p : Int) (n : Int) T f 0 (vAtL [])) :
    CallsR Try.prog 6 #[.agg (algC (p : Int) (n : Int) T f), .string (s)] w (fun res _ => res = .tuple #[.agg (vecC (fun _ => 0)), .int .i64 (6)]) := by
  refine calls_fr [.agg (algC (p : Int) (n : Int) T f), .string (s)] Try.func6 rfl Try.ntmps6 rfl fun a hF => ?_
  have hM : Mem w w [none, none, none] [] := MemX.start w 3
  change Fr 22 a [(0, .agg (algC (p : Int) (n : Int) T f)), (1, .string (s))] at hF
  have hp2 := hp.two
  have hp13 := hp.le
  have hT : ∀ i j k, T i j k ≤ 255 := fun i j k => by have := hTp i j k; omega
  refine sq ?_
  refine wp_region_lit ?_
  refine stR hF (d_box 0 hM hF rfl) rfl ?_
  rintro _ w' a ⟨b1, rfl, hM, -⟩ hF
  change Mem w w' [some (b1, algC (p : Int) (n : Int) T f), none, none] [] at hM
  refine stR hF (d_alloc 1 hM ty_ze_27) rfl ?_
  rintro _ w' a ⟨b2, rfl, hM, -⟩ hF
  change Mem w w' [some (b1, algC (p : Int) (n : Int) T f), some (b2, fnC 6 (fun _ => .int .u8 (0))), none] [] at hM
  refine st hF (g_assign hF rfl) rfl fun a hF => ?_
  refine wpList_nil ?_
  refine tN ?_
  refine sq ?_
  refine sq ?_
  refine wp_region_lit ?_
  refine st hF (g_loadAgg ty_ag_31 hF rfl (hM.row 0 rfl) (by simp only [fnC_size, cells_size, vecC_size, tabC_size, planeC_size, dgC_size] <;> omega) (whole cells_size)) rfl fun a hF => ?_
  refine stR hF (d_call Try.call12 hF (.cons rfl .nil) ((CallsR.val (IsAlgebraI_ok (p : Int) (n : Int) T f _ (fun _ _ _ => hT _ _ _) (fun _ => hf _)) (congrArg Value.bool (decide_eq_true hc.1))))) rfl ?_
  rintro _ w' a ⟨hx, rfl⟩ hF
  have hM := hM.ext hx
  refine st hF (g_not hF rfl) rfl fun a hF => ?_
  refine wpList_nil ?_
  refine tN ?_
  refine c_Fl hF rfl ?_
  refine wp_skip ?_
  refine tN ?_
  refine sq ?_
  refine wp_region_lit ?_
  refine st hF (g_loadAgg ty_ag_31 hF rfl (hM.row 0 rfl) (by simp only [fnC_size, cells_size, vecC_size, tabC_size, planeC_size, dgC_size] <;> omega) (whole cells_size)) rfl fun a hF => st hF (g_move hF rfl) rfl fun a hF => ?_
  refine stR hF (d_call Try.call13 hF (.cons rfl (.cons rfl .nil)) (readVector_N p n T f s _ (by omega) (by omega) hn0 hn (by omega) hr)) rfl ?_
  rintro _ w' a ⟨hx, rfl⟩ hF
  have hM := hM.ext hx
  refine st hF (g_move hF rfl) rfl fun a hF => st hF (g_extract hF rfl rfl) rfl fun a hF => st hF (g_extract hF rfl rfl) rfl fun a hF => ?_
  refine stR hF (d_alloc 2 hM ty_ze_27) rfl ?_
  rintro _ w' a ⟨b4, rfl, hM, -⟩ hF
  change Mem w w' [some (b1, algC (p : Int) (n : Int) T f), some (b2, fnC 6 (fun _ => .int .u8 (0))), some (b4, fnC 6 (fun _ => .int .u8 (0)))] [] at hM
  refine stN hF (d_storeAgg 2 hM rfl ty_sz_27 hF rfl rfl (by first | exact vecC_one | exact cells_one | (refine fnC_one fun _ _ => ?_; first | rfl | (split <;> rfl))) (by simp only [fnC_size, cells_size, vecC_size, tabC_size, planeC_size, dgC_size]) (by simp only [fnC_size, cells_size, vecC_size, tabC_size, planeC_size, dgC_size] <;> omega) (splice_whole _ _ (by simp only [fnC_size, cells_size, vecC_size, tabC_size, planeC_size, dgC_size]))) ?_
  intro _ w' a hM hF
  change Mem w w' [some (b1, algC (p : Int) (n : Int) T f), some (b2, fnC 6 (fun _ => .int .u8 (0))), some (b4, vecC (fun _ => 0))] [] at hM
  refine st hF (g_assign hF rfl) rfl fun a hF => ?_
  refine wpList_nil ?_
  refine tN ?_
  refine sq ?_
  refine sq ?_
  refine wp_region_lit ?_
  refine st hF (g_move hF rfl) rfl fun a hF => st hF (g_not hF rfl) rfl fun a hF => ?_
  refine wpList_nil ?_
  refine tN ?_
  refine c_T hF rfl ?_
  refine sq ?_
  refine wp_region_lit ?_
  refine st hF (g_build0 ty_bu_27) rfl fun a hF => ?_
  refine stN hF (d_storeAgg 1 hM rfl ty_sz_27 hF rfl rfl (by first | exact vecC_one | exact cells_one | (refine fnC_one fun _ _ => ?_; first | rfl | (split <;> rfl))) (by simp only [fnC_size, cells_size, vecC_size, tabC_size, planeC_size, dgC_size]) (by simp only [fnC_size, cells_size, vecC_size, tabC_size, planeC_size, dgC_size] <;> omega) (splice_whole _ _ (by simp only [fnC_size, cells_size, vecC_size, tabC_size, planeC_size, dgC_size]))) ?_
  intro _ w' a hM hF
  change Mem w w' [some (b1, algC (p : Int) (n : Int) T f), some (b2, fnC 6 (fun _ => .int .u8 (0))), some (b4, vecC (fun _ => 0))] [] at hM
  refine st hF (g_assign hF rfl) rfl fun a hF => ?_
  refine wpList_nil ?_
  refine tN ?_
  refine wp_ret ?_
  refine tR ?_
  refine fin2 rfl hF.defers (res_agg ty_ag_27 hF rfl (hM.row 1 rfl) (by simp only [fnC_size, cells_size, vecC_size, tabC_size, planeC_size, dgC_size])) (res_tmp hF rfl) ⟨_, rfl, hM.below, ?_⟩
  show _ = _
  rfl

theorem law_ParseVectorA (p n : Int) (T : Nat → Nat → Nat → Nat) (f : Nat → Nat) (s : ByteArray) (w : World) (hT : ∀ i j k, T i j k ≤ 255) (hf : ∀ i, f i ≤ 255) (hz : s.size ≤ 1048576) (hc : ¬ CodeP p n T f 0 (vAtL [])) :
    CallsR Try.prog 3 #[.agg (algC p n T f), .string (s)] w (fun res _ => res = .bool true) := by
  refine calls_fr [.agg (algC p n T f), .string (s)] Try.func3 rfl Try.ntmps3 rfl fun a hF => ?_
  have hM : Mem w w [none, none, none] [] := MemX.start w 3
  change Fr 35 a [(0, .agg (algC p n T f)), (1, .string (s))] at hF
  refine sq ?_
  refine wp_region_lit ?_
  refine stR hF (d_box 0 hM hF rfl) rfl ?_
  rintro _ w' a ⟨b1, rfl, hM, -⟩ hF
  change Mem w w' [some (b1, algC p n T f), none, none] [] at hM
  refine st hF (g_assign hF rfl) rfl fun a hF => ?_
  refine wpList_nil ?_
  refine tN ?_
  refine sq ?_
  refine sq ?_
  refine wp_region_lit ?_
  refine st hF (g_move hF rfl) rfl fun a hF => st hF (g_lenS ty_ut_9 hF rfl) rfl fun a hF => st hF (g_gtr hF rfl rfl) rfl fun a hF => ?_
  refine wpList_nil ?_
  refine tN ?_
  refine c_cond hF rfl (fun h2 => ?_) (fun h2 => ?_)
  ·
    first | exact absurd rfl h2 | exact absurd (fun _ _ => rfl) h2 | (exfalso; omega)
  ·
    refine wp_skip ?_
    refine tN ?_
    refine sq ?_
    refine wp_region_lit ?_
    refine st hF (g_loadAgg ty_ag_26 hF rfl (hM.row 0 rfl) (by simp only [fnC_size, cells_size, vecC_size, tabC_size, planeC_size, dgC_size] <;> omega) (whole cells_size)) rfl fun a hF => ?_
    refine stR hF (d_call Try.call5 hF (.cons rfl .nil) (toAlgebra_ok p n T f _)) rfl ?_
    rintro _ w' a ⟨hx, rfl⟩ hF
    have hM := hM.ext hx
    refine st hF (g_move hF rfl) rfl fun a hF => ?_
    refine stR hF (d_call Try.call4 hF (.cons rfl (.cons rfl .nil)) (ParseVectorS_A p n T f s _ hT hf (by omega) hc)) rfl ?_
    rintro _ w' a ⟨hx, rfl⟩ hF
    have hM := hM.ext hx
    refine st hF (g_move hF rfl) rfl fun a hF => st hF (g_extract hF rfl rfl) rfl fun a hF => st hF (g_extract hF rfl rfl) rfl fun a hF => ?_
    refine stR hF (d_alloc 1 hM ty_ze_27) rfl ?_
    rintro _ w' a ⟨b3, rfl, hM, -⟩ hF
    change Mem w w' [some (b1, algC p n T f), some (b3, fnC 6 (fun _ => .int .u8 (0))), none] [] at hM
    refine stN hF (d_storeAgg 1 hM rfl ty_sz_27 hF rfl rfl (by first | exact vecC_one | exact cells_one | (refine fnC_one fun _ _ => ?_; first | rfl | (split <;> rfl))) (by simp only [fnC_size, cells_size, vecC_size, tabC_size, planeC_size, dgC_size]) (by simp only [fnC_size, cells_size, vecC_size, tabC_size, planeC_size, dgC_size] <;> omega) (splice_whole _ _ (by simp only [fnC_size, cells_size, vecC_size, tabC_size, planeC_size, dgC_size]))) ?_
    intro _ w' a hM hF
    change Mem w w' [some (b1, algC p n T f), some (b3, vecC (fun _ => 0)), none] [] at hM
    refine st hF (g_assign hF rfl) rfl fun a hF => ?_
    refine wpList_nil ?_
    refine tN ?_
    refine sq ?_
    refine wp_region_lit ?_
    refine st hF (g_loadAgg ty_ag_26 hF rfl (hM.row 0 rfl) (by simp only [fnC_size, cells_size, vecC_size, tabC_size, planeC_size, dgC_size] <;> omega) (whole cells_size)) rfl fun a hF => ?_
    refine stR hF (d_call Try.call5 hF (.cons rfl .nil) (toAlgebra_ok p n T f _)) rfl ?_
    rintro _ w' a ⟨hx, rfl⟩ hF
    have hM := hM.ext hx
    refine st hF (g_move hF rfl) rfl fun a hF => ?_
    refine stR hF (d_call Try.call6 hF (.cons rfl (.cons rfl .nil)) (ParseVectorI_A p n T f s _ hT hf (by omega) hc)) rfl ?_
    rintro _ w' a ⟨hx, rfl⟩ hF
    have hM := hM.ext hx
    refine st hF (g_move hF rfl) rfl fun a hF => st hF (g_extract hF rfl rfl) rfl fun a hF => st hF (g_extract hF rfl rfl) rfl fun a hF => ?_
    refine stR hF (d_alloc 2 hM ty_ze_27) rfl ?_
    rintro _ w' a ⟨b4, rfl, hM, -⟩ hF
    change Mem w w' [some (b1, algC p n T f), some (b3, vecC (fun _ => 0)), some (b4, fnC 6 (fun _ => .int .u8 (0)))] [] at hM
    refine stN hF (d_storeAgg 2 hM rfl ty_sz_27 hF rfl rfl (by first | exact vecC_one | exact cells_one | (refine fnC_one fun _ _ => ?_; first | rfl | (split <;> rfl))) (by simp only [fnC_size, cells_size, vecC_size, tabC_size, planeC_size, dgC_size]) (by simp only [fnC_size, cells_size, vecC_size, tabC_size, planeC_size, dgC_size] <;> omega) (splice_whole _ _ (by simp only [fnC_size, cells_size, vecC_size, tabC_size, planeC_size, dgC_size]))) ?_
    intro _ w' a hM hF
    change Mem w w' [some (b1, algC p n T f), some (b3, vecC (fun _ => 0)), some (b4, vecC (fun _ => 0))] [] at hM
    refine st hF (g_assign hF rfl) rfl fun a hF => ?_
    refine wpList_nil ?_
    refine tN ?_
    refine sq ?_
    refine sq ?_
    refine wp_region_lit ?_
    refine st hF (g_loadAgg ty_ag_27 hF rfl (hM.row 2 rfl) (by simp only [fnC_size, cells_size, vecC_size, tabC_size, planeC_size, dgC_size] <;> omega) (whole (by simp only [fnC_size, cells_size, vecC_size, tabC_size, planeC_size, dgC_size]))) rfl fun a hF => st hF (g_loadAgg ty_ag_27 hF rfl (hM.row 1 rfl) (by simp only [fnC_size, cells_size, vecC_size, tabC_size, planeC_size, dgC_size] <;> omega) (whole (by simp only [fnC_size, cells_size, vecC_size, tabC_size, planeC_size, dgC_size]))) rfl fun a hF => ?_
    refine stR hF (d_call Try.call7 hF (.cons rfl (.cons rfl .nil)) (eqVector_ok (fun _ => 0) (fun _ => 0) _)) rfl ?_
    rintro _ w' a ⟨hx, rfl⟩ hF
    have hM := hM.ext hx
    refine st hF (g_notP hF rfl) rfl fun a hF => st hF (g_move hF rfl) rfl fun a hF => ?_
    by_cases g5 : ¬ (eqV 6 (fun _ => 0) (fun _ => 0))
    ·
      first | rw [decide_eq_true g5] at hF | simp only [decide_eq_true g5] at hF
      first | exact absurd rfl g5 | exact absurd (fun _ _ => rfl) g5 | (exfalso; omega)
    ·
      first | rw [decide_eq_false g5] at hF | simp only [decide_eq_false g5] at hF
      refine stY hF rfl rfl rfl (g_move hF rfl) rfl fun a hF => stY hF rfl rfl rfl (g_move hF rfl) rfl fun a hF => stY hF rfl rfl rfl (g_neq hF rfl rfl) rfl fun a hF => st hF (g_pickF hF rfl rfl) rfl fun a hF => ?_
      refine wpList_nil ?_
      refine tN ?_
      refine c_kF hF rfl (by decide) ?_
      refine wp_skip ?_
      refine tN ?_
      refine sq ?_
      refine wp_region_lit ?_
      refine st hF (g_assign hF rfl) rfl fun a hF => ?_
      refine wpList_nil ?_
      refine tN ?_
      refine wp_ret ?_
      refine fin1 rfl hF.defers (res_tmp hF rfl) ⟨_, rfl, hM.below, ?_⟩
      show _ = _
      rfl

theorem law_ParseVectorY (p n : Nat) (T : Nat → Nat → Nat → Nat) (f : Nat → Nat) (s : ByteArray) (w : World) (hp : primeN p) (hn0 : 0 < n) (hn : n ≤ 6) (hTp : ∀ i j k, T i j k < p) (hT0 : ∀ i j k, n ≤ k → T i j k = 0) (hf : ∀ i, f i ≤ 255) (hz : s.size ≤ 1048576) (hr : rdP p n s) (hc : CodeP (p : Int) (n : Int) T f 0 (vAtL [])) :
    CallsR Try.prog 3 #[.agg (algC (p : Int) (n : Int) T f), .string (s)] w (fun res _ => res = .bool true) := by
  refine calls_fr [.agg (algC (p : Int) (n : Int) T f), .string (s)] Try.func3 rfl Try.ntmps3 rfl fun a hF => ?_
  have hM : Mem w w [none, none, none] [] := MemX.start w 3
  change Fr 35 a [(0, .agg (algC (p : Int) (n : Int) T f)), (1, .string (s))] at hF
  have hp2 := hp.two
  have hp13 := hp.le
  have hT : ∀ i j k, T i j k ≤ 255 := fun i j k => by have := hTp i j k; omega
  refine sq ?_
  refine wp_region_lit ?_
  refine stR hF (d_box 0 hM hF rfl) rfl ?_
  rintro _ w' a ⟨b1, rfl, hM, -⟩ hF
  change Mem w w' [some (b1, algC (p : Int) (n : Int) T f), none, none] [] at hM
  refine st hF (g_assign hF rfl) rfl fun a hF => ?_
  refine wpList_nil ?_
  refine tN ?_
  refine sq ?_
  refine sq ?_
  refine wp_region_lit ?_
  refine st hF (g_move hF rfl) rfl fun a hF => st hF (g_lenS ty_ut_9 hF rfl) rfl fun a hF => st hF (g_gtr hF rfl rfl) rfl fun a hF => ?_
  refine wpList_nil ?_
  refine tN ?_
  refine c_cond hF rfl (fun h2 => ?_) (fun h2 => ?_)
  ·
    first | exact absurd rfl h2 | exact absurd (fun _ _ => rfl) h2 | (exfalso; omega)
  ·
    refine wp_skip ?_
    refine tN ?_
    refine sq ?_
    refine wp_region_lit ?_
    refine st hF (g_loadAgg ty_ag_26 hF rfl (hM.row 0 rfl) (by simp only [fnC_size, cells_size, vecC_size, tabC_size, planeC_size, dgC_size] <;> omega) (whole cells_size)) rfl fun a hF => ?_
    refine stR hF (d_call Try.call5 hF (.cons rfl .nil) (toAlgebra_ok (p : Int) (n : Int) T f _)) rfl ?_
    rintro _ w' a ⟨hx, rfl⟩ hF
    have hM := hM.ext hx
    refine st hF (g_move hF rfl) rfl fun a hF => ?_
    refine stR hF (d_call Try.call4 hF (.cons rfl (.cons rfl .nil)) (ParseVectorS_Y p n T f s _ hp hn0 hn hTp hT0 hf (by omega) hr hc)) rfl ?_
    rintro _ w' a ⟨hx, rfl⟩ hF
    have hM := hM.ext hx
    refine st hF (g_move hF rfl) rfl fun a hF => st hF (g_extract hF rfl rfl) rfl fun a hF => st hF (g_extract hF rfl rfl) rfl fun a hF => ?_
    refine stR hF (d_alloc 1 hM ty_ze_27) rfl ?_
    rintro _ w' a ⟨b3, rfl, hM, -⟩ hF
    change Mem w w' [some (b1, algC (p : Int) (n : Int) T f), some (b3, fnC 6 (fun _ => .int .u8 (0))), none] [] at hM
    refine stN hF (d_storeAgg 1 hM rfl ty_sz_27 hF rfl rfl (by first | exact vecC_one | exact cells_one | (refine fnC_one fun _ _ => ?_; first | rfl | (split <;> rfl))) (by simp only [fnC_size, cells_size, vecC_size, tabC_size, planeC_size, dgC_size]) (by simp only [fnC_size, cells_size, vecC_size, tabC_size, planeC_size, dgC_size] <;> omega) (splice_whole _ _ (by simp only [fnC_size, cells_size, vecC_size, tabC_size, planeC_size, dgC_size]))) ?_
    intro _ w' a hM hF
    change Mem w w' [some (b1, algC (p : Int) (n : Int) T f), some (b3, vecC (rdV n s)), none] [] at hM
    refine st hF (g_assign hF rfl) rfl fun a hF => ?_
    refine wpList_nil ?_
    refine tN ?_
    refine sq ?_
    refine wp_region_lit ?_
    refine st hF (g_loadAgg ty_ag_26 hF rfl (hM.row 0 rfl) (by simp only [fnC_size, cells_size, vecC_size, tabC_size, planeC_size, dgC_size] <;> omega) (whole cells_size)) rfl fun a hF => ?_
    refine stR hF (d_call Try.call5 hF (.cons rfl .nil) (toAlgebra_ok (p : Int) (n : Int) T f _)) rfl ?_
    rintro _ w' a ⟨hx, rfl⟩ hF
    have hM := hM.ext hx
    refine st hF (g_move hF rfl) rfl fun a hF => ?_
    refine stR hF (d_call Try.call6 hF (.cons rfl (.cons rfl .nil)) (ParseVectorI_Y p n T f s _ hp hn0 hn hTp hT0 hf (by omega) hr hc)) rfl ?_
    rintro _ w' a ⟨hx, rfl⟩ hF
    have hM := hM.ext hx
    refine st hF (g_move hF rfl) rfl fun a hF => st hF (g_extract hF rfl rfl) rfl fun a hF => st hF (g_extract hF rfl rfl) rfl fun a hF => ?_
    refine stR hF (d_alloc 2 hM ty_ze_27) rfl ?_
    rintro _ w' a ⟨b4, rfl, hM, -⟩ hF
    change Mem w w' [some (b1, algC (p : Int) (n : Int) T f), some (b3, vecC (rdV n s)), some (b4, fnC 6 (fun _ => .int .u8 (0)))] [] at hM
    refine stN hF (d_storeAgg 2 hM rfl ty_sz_27 hF rfl rfl (by first | exact vecC_one | exact cells_one | (refine fnC_one fun _ _ => ?_; first | rfl | (split <;> rfl))) (by simp only [fnC_size, cells_size, vecC_size, tabC_size, planeC_size, dgC_size]) (by simp only [fnC_size, cells_size, vecC_size, tabC_size, planeC_size, dgC_size] <;> omega) (splice_whole _ _ (by simp only [fnC_size, cells_size, vecC_size, tabC_size, planeC_size, dgC_size]))) ?_
    intro _ w' a hM hF
    change Mem w w' [some (b1, algC (p : Int) (n : Int) T f), some (b3, vecC (rdV n s)), some (b4, vecC (rdV n s))] [] at hM
    refine st hF (g_assign hF rfl) rfl fun a hF => ?_
    refine wpList_nil ?_
    refine tN ?_
    refine sq ?_
    refine sq ?_
    refine wp_region_lit ?_
    refine st hF (g_loadAgg ty_ag_27 hF rfl (hM.row 2 rfl) (by simp only [fnC_size, cells_size, vecC_size, tabC_size, planeC_size, dgC_size] <;> omega) (whole (by simp only [fnC_size, cells_size, vecC_size, tabC_size, planeC_size, dgC_size]))) rfl fun a hF => st hF (g_loadAgg ty_ag_27 hF rfl (hM.row 1 rfl) (by simp only [fnC_size, cells_size, vecC_size, tabC_size, planeC_size, dgC_size] <;> omega) (whole (by simp only [fnC_size, cells_size, vecC_size, tabC_size, planeC_size, dgC_size]))) rfl fun a hF => ?_
    refine stR hF (d_call Try.call7 hF (.cons rfl (.cons rfl .nil)) (eqVector_ok (rdV n s) (rdV n s) _)) rfl ?_
    rintro _ w' a ⟨hx, rfl⟩ hF
    have hM := hM.ext hx
    refine st hF (g_notP hF rfl) rfl fun a hF => st hF (g_move hF rfl) rfl fun a hF => ?_
    by_cases g5 : ¬ (eqV 6 (rdV n s) (rdV n s))
    ·
      first | rw [decide_eq_true g5] at hF | simp only [decide_eq_true g5] at hF
      first | exact absurd rfl g5 | exact absurd (fun _ _ => rfl) g5 | (exfalso; omega)
    ·
      first | rw [decide_eq_false g5] at hF | simp only [decide_eq_false g5] at hF
      refine stY hF rfl rfl rfl (g_move hF rfl) rfl fun a hF => stY hF rfl rfl rfl (g_move hF rfl) rfl fun a hF => stY hF rfl rfl rfl (g_neq hF rfl rfl) rfl fun a hF => st hF (g_pickF hF rfl rfl) rfl fun a hF => ?_
      refine wpList_nil ?_
      refine tN ?_
      refine c_kF hF rfl (by decide) ?_
      refine wp_skip ?_
      refine tN ?_
      refine sq ?_
      refine wp_region_lit ?_
      refine st hF (g_assign hF rfl) rfl fun a hF => ?_
      refine wpList_nil ?_
      refine tN ?_
      refine wp_ret ?_
      refine fin1 rfl hF.defers (res_tmp hF rfl) ⟨_, rfl, hM.below, ?_⟩
      show _ = _
      rfl

theorem law_ParseVectorN (p n : Nat) (T : Nat → Nat → Nat → Nat) (f : Nat → Nat) (s : ByteArray) (w : World) (hp : primeN p) (hn0 : 0 < n) (hn : n ≤ 6) (hTp : ∀ i j k, T i j k < p) (hT0 : ∀ i j k, n ≤ k → T i j k = 0) (hf : ∀ i, f i ≤ 255) (hz : s.size ≤ 1048576) (hr : ¬ rdP p n s) (hc : CodeP (p : Int) (n : Int) T f 0 (vAtL [])) :
    CallsR Try.prog 3 #[.agg (algC (p : Int) (n : Int) T f), .string (s)] w (fun res _ => res = .bool true) := by
  refine calls_fr [.agg (algC (p : Int) (n : Int) T f), .string (s)] Try.func3 rfl Try.ntmps3 rfl fun a hF => ?_
  have hM : Mem w w [none, none, none] [] := MemX.start w 3
  change Fr 35 a [(0, .agg (algC (p : Int) (n : Int) T f)), (1, .string (s))] at hF
  have hp2 := hp.two
  have hp13 := hp.le
  have hT : ∀ i j k, T i j k ≤ 255 := fun i j k => by have := hTp i j k; omega
  refine sq ?_
  refine wp_region_lit ?_
  refine stR hF (d_box 0 hM hF rfl) rfl ?_
  rintro _ w' a ⟨b1, rfl, hM, -⟩ hF
  change Mem w w' [some (b1, algC (p : Int) (n : Int) T f), none, none] [] at hM
  refine st hF (g_assign hF rfl) rfl fun a hF => ?_
  refine wpList_nil ?_
  refine tN ?_
  refine sq ?_
  refine sq ?_
  refine wp_region_lit ?_
  refine st hF (g_move hF rfl) rfl fun a hF => st hF (g_lenS ty_ut_9 hF rfl) rfl fun a hF => st hF (g_gtr hF rfl rfl) rfl fun a hF => ?_
  refine wpList_nil ?_
  refine tN ?_
  refine c_cond hF rfl (fun h2 => ?_) (fun h2 => ?_)
  ·
    first | exact absurd rfl h2 | exact absurd (fun _ _ => rfl) h2 | (exfalso; omega)
  ·
    refine wp_skip ?_
    refine tN ?_
    refine sq ?_
    refine wp_region_lit ?_
    refine st hF (g_loadAgg ty_ag_26 hF rfl (hM.row 0 rfl) (by simp only [fnC_size, cells_size, vecC_size, tabC_size, planeC_size, dgC_size] <;> omega) (whole cells_size)) rfl fun a hF => ?_
    refine stR hF (d_call Try.call5 hF (.cons rfl .nil) (toAlgebra_ok (p : Int) (n : Int) T f _)) rfl ?_
    rintro _ w' a ⟨hx, rfl⟩ hF
    have hM := hM.ext hx
    refine st hF (g_move hF rfl) rfl fun a hF => ?_
    refine stR hF (d_call Try.call4 hF (.cons rfl (.cons rfl .nil)) (ParseVectorS_N p n T f s _ hp hn0 hn hTp hT0 hf (by omega) hr hc)) rfl ?_
    rintro _ w' a ⟨hx, rfl⟩ hF
    have hM := hM.ext hx
    refine st hF (g_move hF rfl) rfl fun a hF => st hF (g_extract hF rfl rfl) rfl fun a hF => st hF (g_extract hF rfl rfl) rfl fun a hF => ?_
    refine stR hF (d_alloc 1 hM ty_ze_27) rfl ?_
    rintro _ w' a ⟨b3, rfl, hM, -⟩ hF
    change Mem w w' [some (b1, algC (p : Int) (n : Int) T f), some (b3, fnC 6 (fun _ => .int .u8 (0))), none] [] at hM
    refine stN hF (d_storeAgg 1 hM rfl ty_sz_27 hF rfl rfl (by first | exact vecC_one | exact cells_one | (refine fnC_one fun _ _ => ?_; first | rfl | (split <;> rfl))) (by simp only [fnC_size, cells_size, vecC_size, tabC_size, planeC_size, dgC_size]) (by simp only [fnC_size, cells_size, vecC_size, tabC_size, planeC_size, dgC_size] <;> omega) (splice_whole _ _ (by simp only [fnC_size, cells_size, vecC_size, tabC_size, planeC_size, dgC_size]))) ?_
    intro _ w' a hM hF
    change Mem w w' [some (b1, algC (p : Int) (n : Int) T f), some (b3, vecC (fun _ => 0)), none] [] at hM
    refine st hF (g_assign hF rfl) rfl fun a hF => ?_
    refine wpList_nil ?_
    refine tN ?_
    refine sq ?_
    refine wp_region_lit ?_
    refine st hF (g_loadAgg ty_ag_26 hF rfl (hM.row 0 rfl) (by simp only [fnC_size, cells_size, vecC_size, tabC_size, planeC_size, dgC_size] <;> omega) (whole cells_size)) rfl fun a hF => ?_
    refine stR hF (d_call Try.call5 hF (.cons rfl .nil) (toAlgebra_ok (p : Int) (n : Int) T f _)) rfl ?_
    rintro _ w' a ⟨hx, rfl⟩ hF
    have hM := hM.ext hx
    refine st hF (g_move hF rfl) rfl fun a hF => ?_
    refine stR hF (d_call Try.call6 hF (.cons rfl (.cons rfl .nil)) (ParseVectorI_N p n T f s _ hp hn0 hn hTp hT0 hf (by omega) hr hc)) rfl ?_
    rintro _ w' a ⟨hx, rfl⟩ hF
    have hM := hM.ext hx
    refine st hF (g_move hF rfl) rfl fun a hF => st hF (g_extract hF rfl rfl) rfl fun a hF => st hF (g_extract hF rfl rfl) rfl fun a hF => ?_
    refine stR hF (d_alloc 2 hM ty_ze_27) rfl ?_
    rintro _ w' a ⟨b4, rfl, hM, -⟩ hF
    change Mem w w' [some (b1, algC (p : Int) (n : Int) T f), some (b3, vecC (fun _ => 0)), some (b4, fnC 6 (fun _ => .int .u8 (0)))] [] at hM
    refine stN hF (d_storeAgg 2 hM rfl ty_sz_27 hF rfl rfl (by first | exact vecC_one | exact cells_one | (refine fnC_one fun _ _ => ?_; first | rfl | (split <;> rfl))) (by simp only [fnC_size, cells_size, vecC_size, tabC_size, planeC_size, dgC_size]) (by simp only [fnC_size, cells_size, vecC_size, tabC_size, planeC_size, dgC_size] <;> omega) (splice_whole _ _ (by simp only [fnC_size, cells_size, vecC_size, tabC_size, planeC_size, dgC_size]))) ?_
    intro _ w' a hM hF
    change Mem w w' [some (b1, algC (p : Int) (n : Int) T f), some (b3, vecC (fun _ => 0)), some (b4, vecC (fun _ => 0))] [] at hM
    refine st hF (g_assign hF rfl) rfl fun a hF => ?_
    refine wpList_nil ?_
    refine tN ?_
    refine sq ?_
    refine sq ?_
    refine wp_region_lit ?_
    refine st hF (g_loadAgg ty_ag_27 hF rfl (hM.row 2 rfl) (by simp only [fnC_size, cells_size, vecC_size, tabC_size, planeC_size, dgC_size] <;> omega) (whole (by simp only [fnC_size, cells_size, vecC_size, tabC_size, planeC_size, dgC_size]))) rfl fun a hF => st hF (g_loadAgg ty_ag_27 hF rfl (hM.row 1 rfl) (by simp only [fnC_size, cells_size, vecC_size, tabC_size, planeC_size, dgC_size] <;> omega) (whole (by simp only [fnC_size, cells_size, vecC_size, tabC_size, planeC_size, dgC_size]))) rfl fun a hF => ?_
    refine stR hF (d_call Try.call7 hF (.cons rfl (.cons rfl .nil)) (eqVector_ok (fun _ => 0) (fun _ => 0) _)) rfl ?_
    rintro _ w' a ⟨hx, rfl⟩ hF
    have hM := hM.ext hx
    refine st hF (g_notP hF rfl) rfl fun a hF => st hF (g_move hF rfl) rfl fun a hF => ?_
    by_cases g5 : ¬ (eqV 6 (fun _ => 0) (fun _ => 0))
    ·
      first | rw [decide_eq_true g5] at hF | simp only [decide_eq_true g5] at hF
      first | exact absurd rfl g5 | exact absurd (fun _ _ => rfl) g5 | (exfalso; omega)
    ·
      first | rw [decide_eq_false g5] at hF | simp only [decide_eq_false g5] at hF
      refine stY hF rfl rfl rfl (g_move hF rfl) rfl fun a hF => stY hF rfl rfl rfl (g_move hF rfl) rfl fun a hF => stY hF rfl rfl rfl (g_neq hF rfl rfl) rfl fun a hF => st hF (g_pickF hF rfl rfl) rfl fun a hF => ?_
      refine wpList_nil ?_
      refine tN ?_
      refine c_kF hF rfl (by decide) ?_
      refine wp_skip ?_
      refine tN ?_
      refine sq ?_
      refine wp_region_lit ?_
      refine st hF (g_assign hF rfl) rfl fun a hF => ?_
      refine wpList_nil ?_
      refine tN ?_
      refine wp_ret ?_
      refine fin1 rfl hF.defers (res_tmp hF rfl) ⟨_, rfl, hM.below, ?_⟩
      show _ = _
      rfl

theorem law_ParseVectorZ (p n : Int) (T : Nat → Nat → Nat → Nat) (f : Nat → Nat) (s : ByteArray) (w : World) (hz : 1048576 < s.size) (hml : s.size ≤ maxLen) :
    CallsR Try.prog 3 #[.agg (algC p n T f), .string (s)] w (fun res _ => res = .bool true) := by
  refine calls_fr [.agg (algC p n T f), .string (s)] Try.func3 rfl Try.ntmps3 rfl fun a hF => ?_
  have hM : Mem w w [none, none, none] [] := MemX.start w 3
  change Fr 35 a [(0, .agg (algC p n T f)), (1, .string (s))] at hF
  refine sq ?_
  refine wp_region_lit ?_
  refine stR hF (d_box 0 hM hF rfl) rfl ?_
  rintro _ w' a ⟨b1, rfl, hM, -⟩ hF
  change Mem w w' [some (b1, algC p n T f), none, none] [] at hM
  refine st hF (g_assign hF rfl) rfl fun a hF => ?_
  refine wpList_nil ?_
  refine tN ?_
  refine sq ?_
  refine sq ?_
  refine wp_region_lit ?_
  refine st hF (g_move hF rfl) rfl fun a hF => st hF (g_lenS ty_ut_9 hF rfl) rfl fun a hF => st hF (g_gtr hF rfl rfl) rfl fun a hF => ?_
  refine wpList_nil ?_
  refine tN ?_
  refine c_cond hF rfl (fun h2 => ?_) (fun h2 => ?_)
  ·
    refine sq ?_
    refine wp_region_lit ?_
    refine st hF (g_assign hF rfl) rfl fun a hF => ?_
    refine wpList_nil ?_
    refine tN ?_
    refine wp_ret ?_
    refine tR ?_
    refine fin1 rfl hF.defers (res_tmp hF rfl) ⟨_, rfl, hM.below, ?_⟩
    show _ = _
    rfl
  ·
    exfalso; omega

theorem law_ParseVector (p n : Int) (T : Nat → Nat → Nat → Nat) (f : Nat → Nat) (s : ByteArray) (w : World) (hT : ∀ i j k, T i j k ≤ 255) (hf : ∀ i, f i ≤ 255) (hml : s.size ≤ maxLen) : CallsV Try.prog 3 #[.agg (algC p n T f), .string s] w (.bool true) := by
  by_cases hz : s.size ≤ 1048576
  · by_cases hc : CodeP p n T f 0 (vAtL [])
    · have hs0 := hc.1.1
      have hp0 := primeP_pos hs0.1
      have hn := hs0.2.1
      have e1 : ((p.toNat : Nat) : Int) = p := by omega
      have e2 : ((n.toNat : Nat) : Int) = n := by omega
      have hc2 : CodeP ((p.toNat : Nat) : Int) ((n.toNat : Nat) : Int) (trunc n.toNat T) f 0 (vAtL []) := by rw [e1, e2]; exact code_trunc hc
      by_cases hr : rdP p.toNat n.toNat s
      · have h := law_ParseVectorY p.toNat n.toNat (trunc n.toNat T) f s w (primeN_of hs0.1) (by omega) (by omega) (trunc_lt hs0) trunc_out hf (by omega) hr hc2
        rw [e1, e2, ← algC_trunc hs0] at h
        exact h
      · have h := law_ParseVectorN p.toNat n.toNat (trunc n.toNat T) f s w (primeN_of hs0.1) (by omega) (by omega) (trunc_lt hs0) trunc_out hf (by omega) hr hc2
        rw [e1, e2, ← algC_trunc hs0] at h
        exact h
    · exact law_ParseVectorA p n T f s w hT hf hz hc
  · exact law_ParseVectorZ p n T f s w (by omega) hml

end Go.Proofs.Ytohkfmgflecgoaa
