/- What functions of the program return, as walks over their operations; no statement of the seat is proved here. -/
import Derived.Test.YtipnploakbdaiaaK3
set_option linter.unusedVariables false
set_option linter.unusedSimpArgs false
namespace Go.Proofs.Ytipnploakbdaiaa
open Go Go.RowKit Go.Sw Go.Ech
open Classical
theorem law_UnitOfA (p n : Int) (T : Nat → Nat → Nat → Nat) (f : Nat → Nat) (w : World) (hT : ∀ i j k, T i j k ≤ 255) (hf : ∀ i, f i ≤ 255) (hc : ¬ CodeP p n T f 0 (vAtL [])) :
    CallsR Try.prog 9 #[.agg (algC p n T f)] w (fun res _ => res = .bool true) := by
  refine calls_fr [.agg (algC p n T f)] Try.func9 rfl Try.ntmps9 rfl fun a hF => ?_
  have hM : Mem w w [none, none, none] [] := MemX.start w 3
  change Fr 28 a [(0, .agg (algC p n T f))] at hF
  have eqlaw : eqV 6 (fun _ => 0) (fun _ => 0) := fun _ _ => rfl
  refine sq ?_
  refine wp_region_lit ?_
  refine stR hF (d_box 0 hM hF rfl) rfl ?_
  rintro _ w' a ⟨b1, rfl, hM, -⟩ hF
  change Mem w w' [some (b1, algC p n T f), none, none] [] at hM
  refine st hF (g_assign hF rfl) rfl fun a hF => ?_
  refine wpList_nil ?_
  refine tN ?_
  refine sq ?_
  refine wp_region_lit ?_
  refine st hF (g_loadAgg ty_ag_26 hF rfl (hM.row 0 rfl) (by simp only [fnC_size, cells_size, vecC_size, tabC_size, planeC_size] <;> omega) (whole cells_size)) rfl fun a hF => ?_
  refine stR hF (d_call Try.call16 hF (.cons rfl .nil) (toAlgebra_ok p n T f _)) rfl ?_
  rintro _ w' a ⟨hx, rfl⟩ hF
  have hM := hM.ext hx
  refine stR hF (d_call Try.call30 hF (.cons rfl .nil) (UnitOfSA p n T f  _ hT hf   hc)) rfl ?_
  rintro _ w' a ⟨hx, rfl⟩ hF
  have hM := hM.ext hx
  refine st hF (g_move hF rfl) rfl fun a hF => st hF (g_extract hF rfl rfl) rfl fun a hF => st hF (g_extract hF rfl rfl) rfl fun a hF => ?_
  refine stR hF (d_alloc 1 hM ty_ze_28) rfl ?_
  rintro _ w' a ⟨b2, rfl, hM, -⟩ hF
  change Mem w w' [some (b1, algC p n T f), some (b2, fnC 6 (fun _ => .int .u8 (0))), none] [] at hM
  refine stN hF (d_storeAgg 1 hM rfl ty_sz_28 hF rfl rfl (by first | exact vecC_one | exact cells_one | (refine fnC_one fun _ _ => ?_; first | rfl | (split <;> rfl))) (by simp only [fnC_size, cells_size, vecC_size, tabC_size, planeC_size]) (by simp only [fnC_size, cells_size, vecC_size, tabC_size, planeC_size] <;> omega) (splice_whole _ _ (by simp only [fnC_size, cells_size, vecC_size, tabC_size, planeC_size]))) ?_
  intro _ w' a hM hF
  change Mem w w' [some (b1, algC p n T f), some (b2, vecC (fun _ => 0)), none] [] at hM
  refine st hF (g_assign hF rfl) rfl fun a hF => ?_
  refine wpList_nil ?_
  refine tN ?_
  refine sq ?_
  refine wp_region_lit ?_
  refine st hF (g_loadAgg ty_ag_26 hF rfl (hM.row 0 rfl) (by simp only [fnC_size, cells_size, vecC_size, tabC_size, planeC_size] <;> omega) (whole cells_size)) rfl fun a hF => ?_
  refine stR hF (d_call Try.call16 hF (.cons rfl .nil) (toAlgebra_ok p n T f _)) rfl ?_
  rintro _ w' a ⟨hx, rfl⟩ hF
  have hM := hM.ext hx
  refine stR hF (d_call Try.call31 hF (.cons rfl .nil) (UnitOfIA p n T f  _ hT hf   hc)) rfl ?_
  rintro _ w' a ⟨hx, rfl⟩ hF
  have hM := hM.ext hx
  refine st hF (g_move hF rfl) rfl fun a hF => st hF (g_extract hF rfl rfl) rfl fun a hF => st hF (g_extract hF rfl rfl) rfl fun a hF => ?_
  refine stR hF (d_alloc 2 hM ty_ze_28) rfl ?_
  rintro _ w' a ⟨b3, rfl, hM, -⟩ hF
  change Mem w w' [some (b1, algC p n T f), some (b2, vecC (fun _ => 0)), some (b3, fnC 6 (fun _ => .int .u8 (0)))] [] at hM
  refine stN hF (d_storeAgg 2 hM rfl ty_sz_28 hF rfl rfl (by first | exact vecC_one | exact cells_one | (refine fnC_one fun _ _ => ?_; first | rfl | (split <;> rfl))) (by simp only [fnC_size, cells_size, vecC_size, tabC_size, planeC_size]) (by simp only [fnC_size, cells_size, vecC_size, tabC_size, planeC_size] <;> omega) (splice_whole _ _ (by simp only [fnC_size, cells_size, vecC_size, tabC_size, planeC_size]))) ?_
  intro _ w' a hM hF
  change Mem w w' [some (b1, algC p n T f), some (b2, vecC (fun _ => 0)), some (b3, vecC (fun _ => 0))] [] at hM
  refine st hF (g_assign hF rfl) rfl fun a hF => ?_
  refine wpList_nil ?_
  refine tN ?_
  refine sq ?_
  refine sq ?_
  refine wp_region_lit ?_
  refine st hF (g_loadAgg ty_ag_28 hF rfl (hM.row 2 rfl) (by simp only [fnC_size, cells_size, vecC_size, tabC_size, planeC_size] <;> omega) (whole (by simp only [fnC_size, cells_size, vecC_size, tabC_size, planeC_size]))) rfl fun a hF => st hF (g_loadAgg ty_ag_28 hF rfl (hM.row 1 rfl) (by simp only [fnC_size, cells_size, vecC_size, tabC_size, planeC_size] <;> omega) (whole (by simp only [fnC_size, cells_size, vecC_size, tabC_size, planeC_size]))) rfl fun a hF => ?_
  refine stR hF (d_call Try.call25 hF (.cons rfl (.cons rfl .nil)) (eqVector_ok (fun _ => 0) (fun _ => 0) _)) rfl ?_
  rintro _ w' a ⟨hx, rfl⟩ hF
  have hM := hM.ext hx
  refine st hF (g_notP hF rfl) rfl fun a hF => st hF (g_move hF rfl) rfl fun a hF => ?_
  by_cases g4 : ¬ (eqV 6 (fun _ => 0) (fun _ => 0))
  ·
    first | rw [decide_eq_true g4] at hF | simp only [decide_eq_true g4] at hF
    first | exact absurd rfl g4 | exact absurd eqlaw g4 | exact absurd (by exact ⟨rfl, rfl, fun _ _ _ _ _ _ => rfl, fun _ _ => rfl⟩) g4 | (exfalso; omega)
  ·
    first | rw [decide_eq_false g4] at hF | simp only [decide_eq_false g4] at hF
    refine stY hF rfl rfl rfl (g_move hF rfl) rfl fun a hF => stY hF rfl rfl rfl (g_move hF rfl) rfl fun a hF => stY hF rfl rfl rfl (g_neq hF rfl rfl) rfl fun a hF => st hF (g_pickF hF rfl rfl) rfl fun a hF => ?_
    refine wpList_nil ?_
    refine tN ?_
    refine c_kF hF rfl (by decide) ?_
    refine wp_skip ?_
    refine tN ?_
    refine sq ?_
    refine wp_region_lit ?_
    refine st hF (g_assign hF rfl) rfl fun a hF => ?_
    refine wpList_nil ?_
    refine tN ?_
    refine wp_ret ?_
    refine fin1 rfl hF.defers (res_tmp hF rfl) ⟨_, rfl, hM.below, ?_⟩
    show _ = _
    rfl

theorem law_UnitOfB (p n : Nat) (T : Nat → Nat → Nat → Nat) (f : Nat → Nat) (w : World) (hp : primeN p) (hn0 : 0 < n) (hn : n ≤ 6) (hTp : ∀ i j k, T i j k < p) (hT0 : ∀ i j k, n ≤ k → T i j k = 0) (hf : ∀ i, f i ≤ 255) (uu : Nat → Nat) (huu : UnitI p n T uu) (hc : CodeP (p : Int) (n : Int) T f 0 (vAtL [])) :
    CallsR Try.prog 9 #[.agg (algC (p : Int) (n : Int) T f)] w (fun res _ => res = .bool true) := by
  refine calls_fr [.agg (algC (p : Int) (n : Int) T f)] Try.func9 rfl Try.ntmps9 rfl fun a hF => ?_
  have hM : Mem w w [none, none, none] [] := MemX.start w 3
  change Fr 28 a [(0, .agg (algC (p : Int) (n : Int) T f))] at hF
  have hp2 := hp.two
  have hp13 := hp.le
  have hT : ∀ i j k, T i j k ≤ 255 := fun i j k => by have := hTp i j k; omega
  have eqlaw : eqV 6 uu uu := fun _ _ => rfl
  refine sq ?_
  refine wp_region_lit ?_
  refine stR hF (d_box 0 hM hF rfl) rfl ?_
  rintro _ w' a ⟨b1, rfl, hM, -⟩ hF
  change Mem w w' [some (b1, algC (p : Int) (n : Int) T f), none, none] [] at hM
  refine st hF (g_assign hF rfl) rfl fun a hF => ?_
  refine wpList_nil ?_
  refine tN ?_
  refine sq ?_
  refine wp_region_lit ?_
  refine st hF (g_loadAgg ty_ag_26 hF rfl (hM.row 0 rfl) (by simp only [fnC_size, cells_size, vecC_size, tabC_size, planeC_size] <;> omega) (whole cells_size)) rfl fun a hF => ?_
  refine stR hF (d_call Try.call16 hF (.cons rfl .nil) (toAlgebra_ok (p : Int) (n : Int) T f _)) rfl ?_
  rintro _ w' a ⟨hx, rfl⟩ hF
  have hM := hM.ext hx
  refine stR hF (d_call Try.call30 hF (.cons rfl .nil) (UnitOfSB p n T f  _ hp hn0 hn hTp hT0 hf  uu huu hc)) rfl ?_
  rintro _ w' a ⟨hx, rfl⟩ hF
  have hM := hM.ext hx
  refine st hF (g_move hF rfl) rfl fun a hF => st hF (g_extract hF rfl rfl) rfl fun a hF => st hF (g_extract hF rfl rfl) rfl fun a hF => ?_
  refine stR hF (d_alloc 1 hM ty_ze_28) rfl ?_
  rintro _ w' a ⟨b2, rfl, hM, -⟩ hF
  change Mem w w' [some (b1, algC (p : Int) (n : Int) T f), some (b2, fnC 6 (fun _ => .int .u8 (0))), none] [] at hM
  refine stN hF (d_storeAgg 1 hM rfl ty_sz_28 hF rfl rfl (by first | exact vecC_one | exact cells_one | (refine fnC_one fun _ _ => ?_; first | rfl | (split <;> rfl))) (by simp only [fnC_size, cells_size, vecC_size, tabC_size, planeC_size]) (by simp only [fnC_size, cells_size, vecC_size, tabC_size, planeC_size] <;> omega) (splice_whole _ _ (by simp only [fnC_size, cells_size, vecC_size, tabC_size, planeC_size]))) ?_
  intro _ w' a hM hF
  change Mem w w' [some (b1, algC (p : Int) (n : Int) T f), some (b2, vecC uu), none] [] at hM
  refine st hF (g_assign hF rfl) rfl fun a hF => ?_
  refine wpList_nil ?_
  refine tN ?_
  refine sq ?_
  refine wp_region_lit ?_
  refine st hF (g_loadAgg ty_ag_26 hF rfl (hM.row 0 rfl) (by simp only [fnC_size, cells_size, vecC_size, tabC_size, planeC_size] <;> omega) (whole cells_size)) rfl fun a hF => ?_
  refine stR hF (d_call Try.call16 hF (.cons rfl .nil) (toAlgebra_ok (p : Int) (n : Int) T f _)) rfl ?_
  rintro _ w' a ⟨hx, rfl⟩ hF
  have hM := hM.ext hx
  refine stR hF (d_call Try.call31 hF (.cons rfl .nil) (UnitOfIB p n T f  _ hp hn0 hn hTp hT0 hf  uu huu hc)) rfl ?_
  rintro _ w' a ⟨hx, rfl⟩ hF
  have hM := hM.ext hx
  refine st hF (g_move hF rfl) rfl fun a hF => st hF (g_extract hF rfl rfl) rfl fun a hF => st hF (g_extract hF rfl rfl) rfl fun a hF => ?_
  refine stR hF (d_alloc 2 hM ty_ze_28) rfl ?_
  rintro _ w' a ⟨b3, rfl, hM, -⟩ hF
  change Mem w w' [some (b1, algC (p : Int) (n : Int) T f), some (b2, vecC uu), some (b3, fnC 6 (fun _ => .int .u8 (0)))] [] at hM
  refine stN hF (d_storeAgg 2 hM rfl ty_sz_28 hF rfl rfl (by first | exact vecC_one | exact cells_one | (refine fnC_one fun _ _ => ?_; first | rfl | (split <;> rfl))) (by simp only [fnC_size, cells_size, vecC_size, tabC_size, planeC_size]) (by simp only [fnC_size, cells_size, vecC_size, tabC_size, planeC_size] <;> omega) (splice_whole _ _ (by simp only [fnC_size, cells_size, vecC_size, tabC_size, planeC_size]))) ?_
  intro _ w' a hM hF
  change Mem w w' [some (b1, algC (p : Int) (n : Int) T f), some (b2, vecC uu), some (b3, vecC uu)] [] at hM
  refine st hF (g_assign hF rfl) rfl fun a hF => ?_
  refine wpList_nil ?_
  refine tN ?_
  refine sq ?_
  refine sq ?_
  refine wp_region_lit ?_
  refine st hF (g_loadAgg ty_ag_28 hF rfl (hM.row 2 rfl) (by simp only [fnC_size, cells_size, vecC_size, tabC_size, planeC_size] <;> omega) (whole (by simp only [fnC_size, cells_size, vecC_size, tabC_size, planeC_size]))) rfl fun a hF => st hF (g_loadAgg ty_ag_28 hF rfl (hM.row 1 rfl) (by simp only [fnC_size, cells_size, vecC_size, tabC_size, planeC_size] <;> omega) (whole (by simp only [fnC_size, cells_size, vecC_size, tabC_size, planeC_size]))) rfl fun a hF => ?_
  refine stR hF (d_call Try.call25 hF (.cons rfl (.cons rfl .nil)) (eqVector_ok uu uu _)) rfl ?_
  rintro _ w' a ⟨hx, rfl⟩ hF
  have hM := hM.ext hx
  refine st hF (g_notP hF rfl) rfl fun a hF => st hF (g_move hF rfl) rfl fun a hF => ?_
  by_cases g4 : ¬ (eqV 6 uu uu)
  ·
    first | rw [decide_eq_true g4] at hF | simp only [decide_eq_true g4] at hF
    first | exact absurd rfl g4 | exact absurd eqlaw g4 | exact absurd (by exact ⟨rfl, rfl, fun _ _ _ _ _ _ => rfl, fun _ _ => rfl⟩) g4 | (exfalso; omega)
  ·
    first | rw [decide_eq_false g4] at hF | simp only [decide_eq_false g4] at hF
    refine stY hF rfl rfl rfl (g_move hF rfl) rfl fun a hF => stY hF rfl rfl rfl (g_move hF rfl) rfl fun a hF => stY hF rfl rfl rfl (g_neq hF rfl rfl) rfl fun a hF => st hF (g_pickF hF rfl rfl) rfl fun a hF => ?_
    refine wpList_nil ?_
    refine tN ?_
    refine c_kF hF rfl (by decide) ?_
    refine wp_skip ?_
    refine tN ?_
    refine sq ?_
    refine wp_region_lit ?_
    refine st hF (g_assign hF rfl) rfl fun a hF => ?_
    refine wpList_nil ?_
    refine tN ?_
    refine wp_ret ?_
    refine fin1 rfl hF.defers (res_tmp hF rfl) ⟨_, rfl, hM.below, ?_⟩
    show _ = _
    rfl

theorem law_UnitOf (p n : Int) (T : Nat → Nat → Nat → Nat) (f : Nat → Nat) (w : World) (hT : ∀ i j k, T i j k ≤ 255) (hf : ∀ i, f i ≤ 255) : CallsV Try.prog 9 #[.agg (algC p n T f)] w (.bool true) := by
  by_cases hc : CodeP p n T f 0 (vAtL [])
  · have hs := hc.1.1
    have hp0 := primeP_pos hs.1
    have hn := hs.2.1
    have e1 : ((p.toNat : Nat) : Int) = p := by omega
    have e2 : ((n.toNat : Nat) : Int) = n := by omega
    obtain ⟨uu, huu⟩ := hc.1.2.2
    have h := law_UnitOfB p.toNat n.toNat (trunc n.toNat T) f  w (primeN_of hs.1) (by omega) (by omega) (trunc_lt hs) trunc_out hf  uu huu (by rw [e1, e2]; exact code_trunc hc)
    rw [e1, e2, ← algC_trunc hs] at h
    exact h
  · exact law_UnitOfA p n T f  w hT hf  hc

theorem law_IsCommutativeA (p n : Int) (T : Nat → Nat → Nat → Nat) (f : Nat → Nat) (w : World) (hT : ∀ i j k, T i j k ≤ 255) (hf : ∀ i, f i ≤ 255) (hc : ¬ CodeP p n T f 0 (vAtL [])) :
    CallsR Try.prog 4 #[.agg (algC p n T f)] w (fun res _ => res = .bool true) := by
  refine calls_fr [.agg (algC p n T f)] Try.func4 rfl Try.ntmps4 rfl fun a hF => ?_
  have hM : Mem w w [none] [] := MemX.start w 1
  change Fr 27 a [(0, .agg (algC p n T f))] at hF
  have eqlaw : eqV 6 (fun _ => 0) (fun _ => 0) := fun _ _ => rfl
  refine sq ?_
  refine wp_region_lit ?_
  refine stR hF (d_box 0 hM hF rfl) rfl ?_
  rintro _ w' a ⟨b1, rfl, hM, -⟩ hF
  change Mem w w' [some (b1, algC p n T f)] [] at hM
  refine st hF (g_assign hF rfl) rfl fun a hF => ?_
  refine wpList_nil ?_
  refine tN ?_
  refine sq ?_
  refine wp_region_lit ?_
  refine st hF (g_loadAgg ty_ag_26 hF rfl (hM.row 0 rfl) (by simp only [fnC_size, cells_size, vecC_size, tabC_size, planeC_size] <;> omega) (whole cells_size)) rfl fun a hF => ?_
  refine stR hF (d_call Try.call16 hF (.cons rfl .nil) (toAlgebra_ok p n T f _)) rfl ?_
  rintro _ w' a ⟨hx, rfl⟩ hF
  have hM := hM.ext hx
  refine stR hF (d_call Try.call18 hF (.cons rfl .nil) (IsCommutativeSA p n T f  _ hT hf   hc)) rfl ?_
  rintro _ w' a ⟨hx, rfl⟩ hF
  have hM := hM.ext hx
  refine st hF (g_move hF rfl) rfl fun a hF => st hF (g_extract hF rfl rfl) rfl fun a hF => st hF (g_extract hF rfl rfl) rfl fun a hF => st hF (g_assign hF rfl) rfl fun a hF => st hF (g_assign hF rfl) rfl fun a hF => ?_
  refine wpList_nil ?_
  refine tN ?_
  refine sq ?_
  refine wp_region_lit ?_
  refine st hF (g_loadAgg ty_ag_26 hF rfl (hM.row 0 rfl) (by simp only [fnC_size, cells_size, vecC_size, tabC_size, planeC_size] <;> omega) (whole cells_size)) rfl fun a hF => ?_
  refine stR hF (d_call Try.call16 hF (.cons rfl .nil) (toAlgebra_ok p n T f _)) rfl ?_
  rintro _ w' a ⟨hx, rfl⟩ hF
  have hM := hM.ext hx
  refine stR hF (d_call Try.call19 hF (.cons rfl .nil) (IsCommutativeIA p n T f  _ hT hf   hc)) rfl ?_
  rintro _ w' a ⟨hx, rfl⟩ hF
  have hM := hM.ext hx
  refine st hF (g_move hF rfl) rfl fun a hF => st hF (g_extract hF rfl rfl) rfl fun a hF => st hF (g_extract hF rfl rfl) rfl fun a hF => st hF (g_assign hF rfl) rfl fun a hF => st hF (g_assign hF rfl) rfl fun a hF => ?_
  refine wpList_nil ?_
  refine tN ?_
  refine sq ?_
  refine sq ?_
  refine wp_region_lit ?_
  refine st hF (g_move hF rfl) rfl fun a hF => st hF (g_move hF rfl) rfl fun a hF => st hF (g_neqBo ty_ub_4 hF rfl rfl) rfl fun a hF => st hF (g_move hF rfl) rfl fun a hF => ?_
  by_cases g2 : (false : Bool) ≠ (false : Bool)
  ·
    first | rw [decide_eq_true g2] at hF | simp only [decide_eq_true g2] at hF
    first | exact absurd rfl g2 | exact absurd eqlaw g2 | exact absurd (by exact ⟨rfl, rfl, fun _ _ _ _ _ _ => rfl, fun _ _ => rfl⟩) g2 | (exfalso; omega)
  ·
    first | rw [decide_eq_false g2] at hF | simp only [decide_eq_false g2] at hF
    refine stY hF rfl rfl rfl (g_move hF rfl) rfl fun a hF => stY hF rfl rfl rfl (g_move hF rfl) rfl fun a hF => stY hF rfl rfl rfl (g_neq hF rfl rfl) rfl fun a hF => st hF (g_pickF hF rfl rfl) rfl fun a hF => ?_
    refine wpList_nil ?_
    refine tN ?_
    refine c_kF hF rfl (by decide) ?_
    refine wp_skip ?_
    refine tN ?_
    refine sq ?_
    refine wp_region_lit ?_
    refine st hF (g_assign hF rfl) rfl fun a hF => ?_
    refine wpList_nil ?_
    refine tN ?_
    refine wp_ret ?_
    refine fin1 rfl hF.defers (res_tmp hF rfl) ⟨_, rfl, hM.below, ?_⟩
    show _ = _
    rfl

theorem law_IsCommutativeB (p n : Nat) (T : Nat → Nat → Nat → Nat) (f : Nat → Nat) (w : World) (hp : primeN p) (hn0 : 0 < n) (hn : n ≤ 6) (hTp : ∀ i j k, T i j k < p) (hT0 : ∀ i j k, n ≤ k → T i j k = 0) (hf : ∀ i, f i ≤ 255) (hc : CodeP (p : Int) (n : Int) T f 0 (vAtL [])) :
    CallsR Try.prog 4 #[.agg (algC (p : Int) (n : Int) T f)] w (fun res _ => res = .bool true) := by
  refine calls_fr [.agg (algC (p : Int) (n : Int) T f)] Try.func4 rfl Try.ntmps4 rfl fun a hF => ?_
  have hM : Mem w w [none] [] := MemX.start w 1
  change Fr 27 a [(0, .agg (algC (p : Int) (n : Int) T f))] at hF
  have hp2 := hp.two
  have hp13 := hp.le
  have hT : ∀ i j k, T i j k ≤ 255 := fun i j k => by have := hTp i j k; omega
  have eqlaw : (decide (eqT T (trT T)) : Bool) = (decide (comP T) : Bool) := decide_eq_decide.2 comP_iff
  refine sq ?_
  refine wp_region_lit ?_
  refine stR hF (d_box 0 hM hF rfl) rfl ?_
  rintro _ w' a ⟨b1, rfl, hM, -⟩ hF
  change Mem w w' [some (b1, algC (p : Int) (n : Int) T f)] [] at hM
  refine st hF (g_assign hF rfl) rfl fun a hF => ?_
  refine wpList_nil ?_
  refine tN ?_
  refine sq ?_
  refine wp_region_lit ?_
  refine st hF (g_loadAgg ty_ag_26 hF rfl (hM.row 0 rfl) (by simp only [fnC_size, cells_size, vecC_size, tabC_size, planeC_size] <;> omega) (whole cells_size)) rfl fun a hF => ?_
  refine stR hF (d_call Try.call16 hF (.cons rfl .nil) (toAlgebra_ok (p : Int) (n : Int) T f _)) rfl ?_
  rintro _ w' a ⟨hx, rfl⟩ hF
  have hM := hM.ext hx
  refine stR hF (d_call Try.call18 hF (.cons rfl .nil) (IsCommutativeSB p n T f  _ hp hn0 hn hTp hT0 hf   hc)) rfl ?_
  rintro _ w' a ⟨hx, rfl⟩ hF
  have hM := hM.ext hx
  refine st hF (g_move hF rfl) rfl fun a hF => st hF (g_extract hF rfl rfl) rfl fun a hF => st hF (g_extract hF rfl rfl) rfl fun a hF => st hF (g_assign hF rfl) rfl fun a hF => st hF (g_assign hF rfl) rfl fun a hF => ?_
  refine wpList_nil ?_
  refine tN ?_
  refine sq ?_
  refine wp_region_lit ?_
  refine st hF (g_loadAgg ty_ag_26 hF rfl (hM.row 0 rfl) (by simp only [fnC_size, cells_size, vecC_size, tabC_size, planeC_size] <;> omega) (whole cells_size)) rfl fun a hF => ?_
  refine stR hF (d_call Try.call16 hF (.cons rfl .nil) (toAlgebra_ok (p : Int) (n : Int) T f _)) rfl ?_
  rintro _ w' a ⟨hx, rfl⟩ hF
  have hM := hM.ext hx
  refine stR hF (d_call Try.call19 hF (.cons rfl .nil) (IsCommutativeIB p n T f  _ hp hn0 hn hTp hT0 hf   hc)) rfl ?_
  rintro _ w' a ⟨hx, rfl⟩ hF
  have hM := hM.ext hx
  refine st hF (g_move hF rfl) rfl fun a hF => st hF (g_extract hF rfl rfl) rfl fun a hF => st hF (g_extract hF rfl rfl) rfl fun a hF => st hF (g_assign hF rfl) rfl fun a hF => st hF (g_assign hF rfl) rfl fun a hF => ?_
  refine wpList_nil ?_
  refine tN ?_
  refine sq ?_
  refine sq ?_
  refine wp_region_lit ?_
  refine st hF (g_move hF rfl) rfl fun a hF => st hF (g_move hF rfl) rfl fun a hF => st hF (g_neqBo ty_ub_4 hF rfl rfl) rfl fun a hF => st hF (g_move hF rfl) rfl fun a hF => ?_
  by_cases g2 : (decide (eqT T (trT T)) : Bool) ≠ (decide (comP T) : Bool)
  ·
    first | rw [decide_eq_true g2] at hF | simp only [decide_eq_true g2] at hF
    first | exact absurd rfl g2 | exact absurd eqlaw g2 | exact absurd (by exact ⟨rfl, rfl, fun _ _ _ _ _ _ => rfl, fun _ _ => rfl⟩) g2 | (exfalso; omega)
  ·
    first | rw [decide_eq_false g2] at hF | simp only [decide_eq_false g2] at hF
    refine stY hF rfl rfl rfl (g_move hF rfl) rfl fun a hF => stY hF rfl rfl rfl (g_move hF rfl) rfl fun a hF => stY hF rfl rfl rfl (g_neq hF rfl rfl) rfl fun a hF => st hF (g_pickF hF rfl rfl) rfl fun a hF => ?_
    refine wpList_nil ?_
    refine tN ?_
    refine c_kF hF rfl (by decide) ?_
    refine wp_skip ?_
    refine tN ?_
    refine sq ?_
    refine wp_region_lit ?_
    refine st hF (g_assign hF rfl) rfl fun a hF => ?_
    refine wpList_nil ?_
    refine tN ?_
    refine wp_ret ?_
    refine fin1 rfl hF.defers (res_tmp hF rfl) ⟨_, rfl, hM.below, ?_⟩
    show _ = _
    rfl

theorem law_IsCommutative (p n : Int) (T : Nat → Nat → Nat → Nat) (f : Nat → Nat) (w : World) (hT : ∀ i j k, T i j k ≤ 255) (hf : ∀ i, f i ≤ 255) : CallsV Try.prog 4 #[.agg (algC p n T f)] w (.bool true) := by
  by_cases hc : CodeP p n T f 0 (vAtL [])
  · have hs := hc.1.1
    have hp0 := primeP_pos hs.1
    have hn := hs.2.1
    have e1 : ((p.toNat : Nat) : Int) = p := by omega
    have e2 : ((n.toNat : Nat) : Int) = n := by omega
    have h := law_IsCommutativeB p.toNat n.toNat (trunc n.toNat T) f  w (primeN_of hs.1) (by omega) (by omega) (trunc_lt hs) trunc_out hf  (by rw [e1, e2]; exact code_trunc hc)
    rw [e1, e2, ← algC_trunc hs] at h
    exact h
  · exact law_IsCommutativeA p n T f  w hT hf  hc

theorem law_OppositeAlgebraA (p n : Int) (T : Nat → Nat → Nat → Nat) (f : Nat → Nat) (w : World) (hT : ∀ i j k, T i j k ≤ 255) (hf : ∀ i, f i ≤ 255) (hc : ¬ CodeP p n T f 0 (vAtL [])) :
    CallsR Try.prog 11 #[.agg (algC p n T f)] w (fun res _ => res = .bool true) := by
  refine calls_fr [.agg (algC p n T f)] Try.func11 rfl Try.ntmps11 rfl fun a hF => ?_
  have hM : Mem w w [none, none, none] [] := MemX.start w 3
  change Fr 28 a [(0, .agg (algC p n T f))] at hF
  have eqlaw : eqV 6 (fun _ => 0) (fun _ => 0) := fun _ _ => rfl
  refine sq ?_
  refine wp_region_lit ?_
  refine stR hF (d_box 0 hM hF rfl) rfl ?_
  rintro _ w' a ⟨b1, rfl, hM, -⟩ hF
  change Mem w w' [some (b1, algC p n T f), none, none] [] at hM
  refine st hF (g_assign hF rfl) rfl fun a hF => ?_
  refine wpList_nil ?_
  refine tN ?_
  refine sq ?_
  refine wp_region_lit ?_
  refine st hF (g_loadAgg ty_ag_26 hF rfl (hM.row 0 rfl) (by simp only [fnC_size, cells_size, vecC_size, tabC_size, planeC_size] <;> omega) (whole cells_size)) rfl fun a hF => ?_
  refine stR hF (d_call Try.call16 hF (.cons rfl .nil) (toAlgebra_ok p n T f _)) rfl ?_
  rintro _ w' a ⟨hx, rfl⟩ hF
  have hM := hM.ext hx
  refine stR hF (d_call Try.call34 hF (.cons rfl .nil) (OppositeAlgebraSA p n T f  _ hT hf   hc)) rfl ?_
  rintro _ w' a ⟨hx, rfl⟩ hF
  have hM := hM.ext hx
  refine st hF (g_move hF rfl) rfl fun a hF => st hF (g_extract hF rfl rfl) rfl fun a hF => st hF (g_extract hF rfl rfl) rfl fun a hF => ?_
  refine stR hF (d_alloc 1 hM ty_ze_30) rfl ?_
  rintro _ w' a ⟨b2, rfl, hM, -⟩ hF
  change Mem w w' [some (b1, algC p n T f), some (b2, algC 0 0 (fun _ _ _ => 0) (fun _ => 0)), none] [] at hM
  refine stN hF (d_storeAgg 1 hM rfl ty_sz_30 hF rfl rfl (by first | exact vecC_one | exact cells_one | (refine fnC_one fun _ _ => ?_; first | rfl | (split <;> rfl))) (by simp only [fnC_size, cells_size, vecC_size, tabC_size, planeC_size]) (by simp only [fnC_size, cells_size, vecC_size, tabC_size, planeC_size] <;> omega) (splice_whole _ _ (by simp only [fnC_size, cells_size, vecC_size, tabC_size, planeC_size]))) ?_
  intro _ w' a hM hF
  change Mem w w' [some (b1, algC p n T f), some (b2, algC 0 0 (fun _ _ _ => 0) (fun _ => 0)), none] [] at hM
  refine st hF (g_assign hF rfl) rfl fun a hF => ?_
  refine wpList_nil ?_
  refine tN ?_
  refine sq ?_
  refine wp_region_lit ?_
  refine st hF (g_loadAgg ty_ag_26 hF rfl (hM.row 0 rfl) (by simp only [fnC_size, cells_size, vecC_size, tabC_size, planeC_size] <;> omega) (whole cells_size)) rfl fun a hF => ?_
  refine stR hF (d_call Try.call16 hF (.cons rfl .nil) (toAlgebra_ok p n T f _)) rfl ?_
  rintro _ w' a ⟨hx, rfl⟩ hF
  have hM := hM.ext hx
  refine stR hF (d_call Try.call35 hF (.cons rfl .nil) (OppositeAlgebraIA p n T f  _ hT hf   hc)) rfl ?_
  rintro _ w' a ⟨hx, rfl⟩ hF
  have hM := hM.ext hx
  refine st hF (g_move hF rfl) rfl fun a hF => st hF (g_extract hF rfl rfl) rfl fun a hF => st hF (g_extract hF rfl rfl) rfl fun a hF => ?_
  refine stR hF (d_alloc 2 hM ty_ze_30) rfl ?_
  rintro _ w' a ⟨b3, rfl, hM, -⟩ hF
  change Mem w w' [some (b1, algC p n T f), some (b2, algC 0 0 (fun _ _ _ => 0) (fun _ => 0)), some (b3, algC 0 0 (fun _ _ _ => 0) (fun _ => 0))] [] at hM
  refine stN hF (d_storeAgg 2 hM rfl ty_sz_30 hF rfl rfl (by first | exact vecC_one | exact cells_one | (refine fnC_one fun _ _ => ?_; first | rfl | (split <;> rfl))) (by simp only [fnC_size, cells_size, vecC_size, tabC_size, planeC_size]) (by simp only [fnC_size, cells_size, vecC_size, tabC_size, planeC_size] <;> omega) (splice_whole _ _ (by simp only [fnC_size, cells_size, vecC_size, tabC_size, planeC_size]))) ?_
  intro _ w' a hM hF
  change Mem w w' [some (b1, algC p n T f), some (b2, algC 0 0 (fun _ _ _ => 0) (fun _ => 0)), some (b3, algC 0 0 (fun _ _ _ => 0) (fun _ => 0))] [] at hM
  refine st hF (g_assign hF rfl) rfl fun a hF => ?_
  refine wpList_nil ?_
  refine tN ?_
  refine sq ?_
  refine sq ?_
  refine wp_region_lit ?_
  refine st hF (g_loadAgg ty_ag_30 hF rfl (hM.row 2 rfl) (by simp only [fnC_size, cells_size, vecC_size, tabC_size, planeC_size] <;> omega) (whole cells_size)) rfl fun a hF => st hF (g_loadAgg ty_ag_30 hF rfl (hM.row 1 rfl) (by simp only [fnC_size, cells_size, vecC_size, tabC_size, planeC_size] <;> omega) (whole cells_size)) rfl fun a hF => ?_
  refine stR hF (d_call Try.call36 hF (.cons rfl (.cons rfl .nil)) (eqAlgebra_ok 0 0 0 0 (fun _ _ _ => 0) (fun _ _ _ => 0) (fun _ => 0) (fun _ => 0) _)) rfl ?_
  rintro _ w' a ⟨hx, rfl⟩ hF
  have hM := hM.ext hx
  refine st hF (g_notP hF rfl) rfl fun a hF => st hF (g_move hF rfl) rfl fun a hF => ?_
  by_cases g4 : ¬ ((0 : Int) = (0 : Int) ∧ (0 : Int) = (0 : Int) ∧ eqT (fun _ _ _ => 0) (fun _ _ _ => 0) ∧ eqV 6 (fun _ => 0) (fun _ => 0))
  ·
    first | rw [decide_eq_true g4] at hF | simp only [decide_eq_true g4] at hF
    first | exact absurd rfl g4 | exact absurd eqlaw g4 | exact absurd (by exact ⟨rfl, rfl, fun _ _ _ _ _ _ => rfl, fun _ _ => rfl⟩) g4 | (exfalso; omega)
  ·
    first | rw [decide_eq_false g4] at hF | simp only [decide_eq_false g4] at hF
    refine stY hF rfl rfl rfl (g_move hF rfl) rfl fun a hF => stY hF rfl rfl rfl (g_move hF rfl) rfl fun a hF => stY hF rfl rfl rfl (g_neq hF rfl rfl) rfl fun a hF => st hF (g_pickF hF rfl rfl) rfl fun a hF => ?_
    refine wpList_nil ?_
    refine tN ?_
    refine c_kF hF rfl (by decide) ?_
    refine wp_skip ?_
    refine tN ?_
    refine sq ?_
    refine wp_region_lit ?_
    refine st hF (g_assign hF rfl) rfl fun a hF => ?_
    refine wpList_nil ?_
    refine tN ?_
    refine wp_ret ?_
    refine fin1 rfl hF.defers (res_tmp hF rfl) ⟨_, rfl, hM.below, ?_⟩
    show _ = _
    rfl

theorem law_OppositeAlgebraB (p n : Nat) (T : Nat → Nat → Nat → Nat) (f : Nat → Nat) (w : World) (hp : primeN p) (hn0 : 0 < n) (hn : n ≤ 6) (hTp : ∀ i j k, T i j k < p) (hT0 : ∀ i j k, n ≤ k → T i j k = 0) (hf : ∀ i, f i ≤ 255) (hc : CodeP (p : Int) (n : Int) T f 0 (vAtL [])) :
    CallsR Try.prog 11 #[.agg (algC (p : Int) (n : Int) T f)] w (fun res _ => res = .bool true) := by
  refine calls_fr [.agg (algC (p : Int) (n : Int) T f)] Try.func11 rfl Try.ntmps11 rfl fun a hF => ?_
  have hM : Mem w w [none, none, none] [] := MemX.start w 3
  change Fr 28 a [(0, .agg (algC (p : Int) (n : Int) T f))] at hF
  have hp2 := hp.two
  have hp13 := hp.le
  have hT : ∀ i j k, T i j k ≤ 255 := fun i j k => by have := hTp i j k; omega
  have eqlaw : ((p : Int) : Int) = ((p : Int) : Int) ∧ ((n : Int) : Int) = ((n : Int) : Int) ∧ eqT (trT T) (trT T) ∧ eqV 6 f f := ⟨rfl, rfl, fun _ _ _ _ _ _ => rfl, fun _ _ => rfl⟩
  refine sq ?_
  refine wp_region_lit ?_
  refine stR hF (d_box 0 hM hF rfl) rfl ?_
  rintro _ w' a ⟨b1, rfl, hM, -⟩ hF
  change Mem w w' [some (b1, algC (p : Int) (n : Int) T f), none, none] [] at hM
  refine st hF (g_assign hF rfl) rfl fun a hF => ?_
  refine wpList_nil ?_
  refine tN ?_
  refine sq ?_
  refine wp_region_lit ?_
  refine st hF (g_loadAgg ty_ag_26 hF rfl (hM.row 0 rfl) (by simp only [fnC_size, cells_size, vecC_size, tabC_size, planeC_size] <;> omega) (whole cells_size)) rfl fun a hF => ?_
  refine stR hF (d_call Try.call16 hF (.cons rfl .nil) (toAlgebra_ok (p : Int) (n : Int) T f _)) rfl ?_
  rintro _ w' a ⟨hx, rfl⟩ hF
  have hM := hM.ext hx
  refine stR hF (d_call Try.call34 hF (.cons rfl .nil) (OppositeAlgebraSB p n T f  _ hp hn0 hn hTp hT0 hf   hc)) rfl ?_
  rintro _ w' a ⟨hx, rfl⟩ hF
  have hM := hM.ext hx
  refine st hF (g_move hF rfl) rfl fun a hF => st hF (g_extract hF rfl rfl) rfl fun a hF => st hF (g_extract hF rfl rfl) rfl fun a hF => ?_
  refine stR hF (d_alloc 1 hM ty_ze_30) rfl ?_
  rintro _ w' a ⟨b2, rfl, hM, -⟩ hF
  change Mem w w' [some (b1, algC (p : Int) (n : Int) T f), some (b2, algC 0 0 (fun _ _ _ => 0) (fun _ => 0)), none] [] at hM
  refine stN hF (d_storeAgg 1 hM rfl ty_sz_30 hF rfl rfl (by first | exact vecC_one | exact cells_one | (refine fnC_one fun _ _ => ?_; first | rfl | (split <;> rfl))) (by simp only [fnC_size, cells_size, vecC_size, tabC_size, planeC_size]) (by simp only [fnC_size, cells_size, vecC_size, tabC_size, planeC_size] <;> omega) (splice_whole _ _ (by simp only [fnC_size, cells_size, vecC_size, tabC_size, planeC_size]))) ?_
  intro _ w' a hM hF
  change Mem w w' [some (b1, algC (p : Int) (n : Int) T f), some (b2, algC (p : Int) (n : Int) (trT T) f), none] [] at hM
  refine st hF (g_assign hF rfl) rfl fun a hF => ?_
  refine wpList_nil ?_
  refine tN ?_
  refine sq ?_
  refine wp_region_lit ?_
  refine st hF (g_loadAgg ty_ag_26 hF rfl (hM.row 0 rfl) (by simp only [fnC_size, cells_size, vecC_size, tabC_size, planeC_size] <;> omega) (whole cells_size)) rfl fun a hF => ?_
  refine stR hF (d_call Try.call16 hF (.cons rfl .nil) (toAlgebra_ok (p : Int) (n : Int) T f _)) rfl ?_
  rintro _ w' a ⟨hx, rfl⟩ hF
  have hM := hM.ext hx
  refine stR hF (d_call Try.call35 hF (.cons rfl .nil) (OppositeAlgebraIB p n T f  _ hp hn0 hn hTp hT0 hf   hc)) rfl ?_
  rintro _ w' a ⟨hx, rfl⟩ hF
  have hM := hM.ext hx
  refine st hF (g_move hF rfl) rfl fun a hF => st hF (g_extract hF rfl rfl) rfl fun a hF => st hF (g_extract hF rfl rfl) rfl fun a hF => ?_
  refine stR hF (d_alloc 2 hM ty_ze_30) rfl ?_
  rintro _ w' a ⟨b3, rfl, hM, -⟩ hF
  change Mem w w' [some (b1, algC (p : Int) (n : Int) T f), some (b2, algC (p : Int) (n : Int) (trT T) f), some (b3, algC 0 0 (fun _ _ _ => 0) (fun _ => 0))] [] at hM
  refine stN hF (d_storeAgg 2 hM rfl ty_sz_30 hF rfl rfl (by first | exact vecC_one | exact cells_one | (refine fnC_one fun _ _ => ?_; first | rfl | (split <;> rfl))) (by simp only [fnC_size, cells_size, vecC_size, tabC_size, planeC_size]) (by simp only [fnC_size, cells_size, vecC_size, tabC_size, planeC_size] <;> omega) (splice_whole _ _ (by simp only [fnC_size, cells_size, vecC_size, tabC_size, planeC_size]))) ?_
  intro _ w' a hM hF
  change Mem w w' [some (b1, algC (p : Int) (n : Int) T f), some (b2, algC (p : Int) (n : Int) (trT T) f), some (b3, algC (p : Int) (n : Int) (trT T) f)] [] at hM
  refine st hF (g_assign hF rfl) rfl fun a hF => ?_
  refine wpList_nil ?_
  refine tN ?_
  refine sq ?_
  refine sq ?_
  refine wp_region_lit ?_
  refine st hF (g_loadAgg ty_ag_30 hF rfl (hM.row 2 rfl) (by simp only [fnC_size, cells_size, vecC_size, tabC_size, planeC_size] <;> omega) (whole cells_size)) rfl fun a hF => st hF (g_loadAgg ty_ag_30 hF rfl (hM.row 1 rfl) (by simp only [fnC_size, cells_size, vecC_size, tabC_size, planeC_size] <;> omega) (whole cells_size)) rfl fun a hF => ?_
  refine stR hF (d_call Try.call36 hF (.cons rfl (.cons rfl .nil)) (eqAlgebra_ok (p : Int) (n : Int) (p : Int) (n : Int) (trT T) (trT T) f f _)) rfl ?_
  rintro _ w' a ⟨hx, rfl⟩ hF
  have hM := hM.ext hx
  refine st hF (g_notP hF rfl) rfl fun a hF => st hF (g_move hF rfl) rfl fun a hF => ?_
  by_cases g4 : ¬ (((p : Int) : Int) = ((p : Int) : Int) ∧ ((n : Int) : Int) = ((n : Int) : Int) ∧ eqT (trT T) (trT T) ∧ eqV 6 f f)
  ·
    first | rw [decide_eq_true g4] at hF | simp only [decide_eq_true g4] at hF
    first | exact absurd rfl g4 | exact absurd eqlaw g4 | exact absurd (by exact ⟨rfl, rfl, fun _ _ _ _ _ _ => rfl, fun _ _ => rfl⟩) g4 | (exfalso; omega)
  ·
    first | rw [decide_eq_false g4] at hF | simp only [decide_eq_false g4] at hF
    refine stY hF rfl rfl rfl (g_move hF rfl) rfl fun a hF => stY hF rfl rfl rfl (g_move hF rfl) rfl fun a hF => stY hF rfl rfl rfl (g_neq hF rfl rfl) rfl fun a hF => st hF (g_pickF hF rfl rfl) rfl fun a hF => ?_
    refine wpList_nil ?_
    refine tN ?_
    refine c_kF hF rfl (by decide) ?_
    refine wp_skip ?_
    refine tN ?_
    refine sq ?_
    refine wp_region_lit ?_
    refine st hF (g_assign hF rfl) rfl fun a hF => ?_
    refine wpList_nil ?_
    refine tN ?_
    refine wp_ret ?_
    refine fin1 rfl hF.defers (res_tmp hF rfl) ⟨_, rfl, hM.below, ?_⟩
    show _ = _
    rfl

theorem law_OppositeAlgebra (p n : Int) (T : Nat → Nat → Nat → Nat) (f : Nat → Nat) (w : World) (hT : ∀ i j k, T i j k ≤ 255) (hf : ∀ i, f i ≤ 255) : CallsV Try.prog 11 #[.agg (algC p n T f)] w (.bool true) := by
  by_cases hc : CodeP p n T f 0 (vAtL [])
  · have hs := hc.1.1
    have hp0 := primeP_pos hs.1
    have hn := hs.2.1
    have e1 : ((p.toNat : Nat) : Int) = p := by omega
    have e2 : ((n.toNat : Nat) : Int) = n := by omega
    have h := law_OppositeAlgebraB p.toNat n.toNat (trunc n.toNat T) f  w (primeN_of hs.1) (by omega) (by omega) (trunc_lt hs) trunc_out hf  (by rw [e1, e2]; exact code_trunc hc)
    rw [e1, e2, ← algC_trunc hs] at h
    exact h
  · exact law_OppositeAlgebraA p n T f  w hT hf  hc

end Go.Proofs.Ytipnploakbdaiaa
