/- What functions of the program return, as walks over their operations; no statement of the seat is proved here. -/
import Derived.Test.YtipnploakbdaiaaK1
set_option linter.unusedVariables false
set_option linter.unusedSimpArgs false
namespace Go.Proofs.Ytipnploakbdaiaa
open Go Go.RowKit Go.Sw Go.Ech
open Classical
theorem trunc_idem {n : Nat} {T : Nat → Nat → Nat → Nat} : trunc n (trunc n T) = trunc n T := by
  funext i j k
  unfold trunc
  by_cases h : i < n ∧ j < n ∧ k < n
  · rw [if_pos h, if_pos h]
  · rw [if_neg h, if_neg h]
theorem code_trunc {p n : Int} {T : Nat → Nat → Nat → Nat} {f : Nat → Nat} {m : Nat} {V : Nat → Nat → Nat} (h : CodeP p n T f m V) : CodeP p n (trunc n.toNat T) f m V :=
  ⟨⟨shape_trunc h.1.1, by rw [trunc_idem]; exact h.1.2⟩, h.2⟩

theorem law_FormOfA (p n : Int) (T : Nat → Nat → Nat → Nat) (f : Nat → Nat) (v : Nat → Nat) (w : World) (hT : ∀ i j k, T i j k ≤ 255) (hf : ∀ i, f i ≤ 255) (hv : ∀ i, v i ≤ 255) (hc : ¬ CodeP p n T f 1 (vAtL [v])) :
    CallsR Try.prog 10 #[.agg (algC p n T f), .agg (vecC v)] w (fun res _ => res = .bool true) := by
  refine calls_fr [.agg (algC p n T f), .agg (vecC v)] Try.func10 rfl Try.ntmps10 rfl fun a hF => ?_
  have hM : Mem w w [none, none] [] := MemX.start w 2
  change Fr 33 a [(0, .agg (algC p n T f)), (1, .agg (vecC v))] at hF
  have eqlaw : eqV 6 (fun _ => 0) (fun _ => 0) := fun _ _ => rfl
  refine sq ?_
  refine wp_region_lit ?_
  refine stR hF (d_box 0 hM hF rfl) rfl ?_
  rintro _ w' a ⟨b1, rfl, hM, -⟩ hF
  change Mem w w' [some (b1, algC p n T f), none] [] at hM
  refine stR hF (d_box 1 hM hF rfl) rfl ?_
  rintro _ w' a ⟨b2, rfl, hM, -⟩ hF
  change Mem w w' [some (b1, algC p n T f), some (b2, vecC v)] [] at hM
  refine st hF (g_assign hF rfl) rfl fun a hF => ?_
  refine wpList_nil ?_
  refine tN ?_
  refine sq ?_
  refine c_par 9 [] [.val (.agg (algC p n T f)), .val (.agg (algC p n T f)), .val (.agg (vecC v)), .val (.agg (vecC v)), .val (.tuple #[.int .i64 (0), .int .i64 (1)]), .val (.tuple #[.int .i64 (0), .int .i64 (1)]), .val (.int .i64 (0)), .val (.int .i64 (1)), .val (.int .i64 (0))] hmix rfl hF rfl hM ⟨fun a w g hF hS hd => by have hM := hS.mem rfl; exact par_val hS rfl (g_loadAgg ty_ag_26 hF rfl (hM.row 0 rfl) (by simp only [fnC_size, cells_size, vecC_size, tabC_size, planeC_size] <;> omega) (whole cells_size)), fun a w g hF hS hd => by have hF := hF.ext1 10 (hd 0 rfl rfl); exact par_call (by repeat constructor) hS rfl (d_call Try.call16 hF (.cons rfl .nil) (toAlgebra_ok p n T f _)), fun a w g hF hS hd => by have hM := hS.mem rfl; exact par_val hS rfl (g_loadAgg ty_ag_22 hF rfl (hM.row 1 rfl) (by simp only [fnC_size, cells_size, vecC_size, tabC_size, planeC_size] <;> omega) (whole (by simp only [fnC_size, cells_size, vecC_size, tabC_size, planeC_size]))), fun a w g hF hS hd => by have hF := hF.ext1 12 (hd 2 rfl rfl); exact par_call (by repeat constructor) hS rfl (d_call Try.call23 hF (.cons rfl .nil) (toVector_ok v _)), fun a w g hF hS hd => by have hF := hF.ext1 11 (hd 1 rfl rfl); have hF := hF.ext1 13 (hd 3 rfl rfl); exact par_call (by repeat constructor) hS rfl (d_call Try.call32 hF (.cons rfl (.cons rfl .nil)) (FormOfSA p n T f v _ hT hf hv  hc)), fun a w g hF hS hd => by have hF := hF.ext1 14 (hd 4 rfl rfl); exact par_val hS rfl (g_move hF rfl), fun a w g hF hS hd => by have hF := hF.ext1 9 (hd 5 rfl rfl); exact par_val hS rfl (g_extract hF rfl rfl), fun a w g hF hS hd => by have hF := hF.ext1 9 (hd 5 rfl rfl); exact par_val hS rfl (g_extract hF rfl rfl), fun a w g hF hS hd => by have hF := hF.ext1 15 (hd 6 rfl rfl); exact par_val hS rfl (g_assign hF rfl), trivial⟩ ?_
  intro a w' L hF hS hq
  have hF := hF.ext1 10 (hq 0 rfl rfl)
  have hF := hF.ext1 11 (hq 1 rfl rfl)
  have hF := hF.ext1 12 (hq 2 rfl rfl)
  have hF := hF.ext1 13 (hq 3 rfl rfl)
  have hF := hF.ext1 14 (hq 4 rfl rfl)
  have hF := hF.ext1 9 (hq 5 rfl rfl)
  have hF := hF.ext1 15 (hq 6 rfl rfl)
  have hF := hF.ext1 16 (hq 7 rfl rfl)
  have hF := hF.ext1 5 (hq 8 rfl rfl)
  have hM := hS.mem rfl
  change wpList Try.prog _ _ [_] _ _
  refine st hF (g_assign hF rfl) rfl fun a hF => ?_
  refine wpList_nil ?_
  refine tN ?_
  refine sq ?_
  refine c_par 9 [] [.val (.agg (algC p n T f)), .val (.agg (algC p n T f)), .val (.agg (vecC v)), .val (.agg (vecC v)), .val (.tuple #[.int .i64 (0), .int .i64 (1)]), .val (.tuple #[.int .i64 (0), .int .i64 (1)]), .val (.int .i64 (0)), .val (.int .i64 (1)), .val (.int .i64 (0))] hmix rfl hF rfl hM ⟨fun a w g hF hS hd => by have hM := hS.mem rfl; exact par_val hS rfl (g_loadAgg ty_ag_26 hF rfl (hM.row 0 rfl) (by simp only [fnC_size, cells_size, vecC_size, tabC_size, planeC_size] <;> omega) (whole cells_size)), fun a w g hF hS hd => by have hF := hF.ext1 18 (hd 0 rfl rfl); exact par_call (by repeat constructor) hS rfl (d_call Try.call16 hF (.cons rfl .nil) (toAlgebra_ok p n T f _)), fun a w g hF hS hd => by have hM := hS.mem rfl; exact par_val hS rfl (g_loadAgg ty_ag_22 hF rfl (hM.row 1 rfl) (by simp only [fnC_size, cells_size, vecC_size, tabC_size, planeC_size] <;> omega) (whole (by simp only [fnC_size, cells_size, vecC_size, tabC_size, planeC_size]))), fun a w g hF hS hd => by have hF := hF.ext1 20 (hd 2 rfl rfl); exact par_call (by repeat constructor) hS rfl (d_call Try.call23 hF (.cons rfl .nil) (toVector_ok v _)), fun a w g hF hS hd => by have hF := hF.ext1 19 (hd 1 rfl rfl); have hF := hF.ext1 21 (hd 3 rfl rfl); exact par_call (by repeat constructor) hS rfl (d_call Try.call33 hF (.cons rfl (.cons rfl .nil)) (FormOfIA p n T f v _ hT hf hv  hc)), fun a w g hF hS hd => by have hF := hF.ext1 22 (hd 4 rfl rfl); exact par_val hS rfl (g_move hF rfl), fun a w g hF hS hd => by have hF := hF.ext1 17 (hd 5 rfl rfl); exact par_val hS rfl (g_extract hF rfl rfl), fun a w g hF hS hd => by have hF := hF.ext1 17 (hd 5 rfl rfl); exact par_val hS rfl (g_extract hF rfl rfl), fun a w g hF hS hd => by have hF := hF.ext1 23 (hd 6 rfl rfl); exact par_val hS rfl (g_assign hF rfl), trivial⟩ ?_
  intro a w' L hF hS hq
  have hF := hF.ext1 18 (hq 0 rfl rfl)
  have hF := hF.ext1 19 (hq 1 rfl rfl)
  have hF := hF.ext1 20 (hq 2 rfl rfl)
  have hF := hF.ext1 21 (hq 3 rfl rfl)
  have hF := hF.ext1 22 (hq 4 rfl rfl)
  have hF := hF.ext1 17 (hq 5 rfl rfl)
  have hF := hF.ext1 23 (hq 6 rfl rfl)
  have hF := hF.ext1 24 (hq 7 rfl rfl)
  have hF := hF.ext1 7 (hq 8 rfl rfl)
  have hM := hS.mem rfl
  change wpList Try.prog _ _ [_] _ _
  refine st hF (g_assign hF rfl) rfl fun a hF => ?_
  refine wpList_nil ?_
  refine tN ?_
  refine sq ?_
  refine sq ?_
  refine wp_region_lit ?_
  refine st hF (g_move hF rfl) rfl fun a hF => st hF (g_move hF rfl) rfl fun a hF => st hF (g_neq hF rfl rfl) rfl fun a hF => st hF (g_move hF rfl) rfl fun a hF => ?_
  by_cases g3 : (0 : Int) ≠ 0
  ·
    simp only [decide_eq_true g3] at hF
    first | exact absurd rfl g3 | exact absurd eqlaw g3 | exact g3 eqlaw | (exfalso; omega)
  ·
    simp only [decide_eq_false g3] at hF
    refine stY hF rfl rfl rfl (g_move hF rfl) rfl fun a hF => stY hF rfl rfl rfl (g_move hF rfl) rfl fun a hF => stY hF rfl rfl rfl (g_neq hF rfl rfl) rfl fun a hF => st hF (g_pickF hF rfl rfl) rfl fun a hF => ?_
    refine wpList_nil ?_
    refine tN ?_
    refine c_kF hF rfl (by decide) ?_
    refine wp_skip ?_
    refine tN ?_
    refine sq ?_
    refine wp_region_lit ?_
    refine st hF (g_assign hF rfl) rfl fun a hF => ?_
    refine wpList_nil ?_
    refine tN ?_
    refine wp_ret ?_
    refine fin1 rfl hF.defers (res_tmp hF rfl) ⟨_, rfl, hM.below, ?_⟩
    show _ = _
    rfl

theorem law_FormOfB (p n : Nat) (T : Nat → Nat → Nat → Nat) (f : Nat → Nat) (v : Nat → Nat) (w : World) (hp : primeN p) (hn0 : 0 < n) (hn : n ≤ 6) (hTp : ∀ i j k, T i j k < p) (hT0 : ∀ i j k, n ≤ k → T i j k = 0) (hf : ∀ i, f i ≤ 255) (hv : ∀ i, v i ≤ 255) (hc : CodeP (p : Int) (n : Int) T f 1 (vAtL [v])) :
    CallsR Try.prog 10 #[.agg (algC (p : Int) (n : Int) T f), .agg (vecC v)] w (fun res _ => res = .bool true) := by
  refine calls_fr [.agg (algC (p : Int) (n : Int) T f), .agg (vecC v)] Try.func10 rfl Try.ntmps10 rfl fun a hF => ?_
  have hM : Mem w w [none, none] [] := MemX.start w 2
  change Fr 33 a [(0, .agg (algC (p : Int) (n : Int) T f)), (1, .agg (vecC v))] at hF
  have hp2 := hp.two
  have hp13 := hp.le
  have hT : ∀ i j k, T i j k ≤ 255 := fun i j k => by have := hTp i j k; omega
  have eqlaw : ((sumTo (fun i => v i * f i) 6 % p : Nat) : Int) = ((sumTo (fun i => f i * v i) 6 % p : Nat) : Int) := by simp only [Nat.mul_comm]
  refine sq ?_
  refine wp_region_lit ?_
  refine stR hF (d_box 0 hM hF rfl) rfl ?_
  rintro _ w' a ⟨b1, rfl, hM, -⟩ hF
  change Mem w w' [some (b1, algC (p : Int) (n : Int) T f), none] [] at hM
  refine stR hF (d_box 1 hM hF rfl) rfl ?_
  rintro _ w' a ⟨b2, rfl, hM, -⟩ hF
  change Mem w w' [some (b1, algC (p : Int) (n : Int) T f), some (b2, vecC v)] [] at hM
  refine st hF (g_assign hF rfl) rfl fun a hF => ?_
  refine wpList_nil ?_
  refine tN ?_
  refine sq ?_
  refine c_par 9 [] [.val (.agg (algC (p : Int) (n : Int) T f)), .val (.agg (algC (p : Int) (n : Int) T f)), .val (.agg (vecC v)), .val (.agg (vecC v)), .val (.tuple #[.int .i64 (((sumTo (fun i => f i * v i) 6 % p : Nat) : Int)), .int .i64 (0)]), .val (.tuple #[.int .i64 (((sumTo (fun i => f i * v i) 6 % p : Nat) : Int)), .int .i64 (0)]), .val (.int .i64 (((sumTo (fun i => f i * v i) 6 % p : Nat) : Int))), .val (.int .i64 (0)), .val (.int .i64 (((sumTo (fun i => f i * v i) 6 % p : Nat) : Int)))] hmix rfl hF rfl hM ⟨fun a w g hF hS hd => by have hM := hS.mem rfl; exact par_val hS rfl (g_loadAgg ty_ag_26 hF rfl (hM.row 0 rfl) (by simp only [fnC_size, cells_size, vecC_size, tabC_size, planeC_size] <;> omega) (whole cells_size)), fun a w g hF hS hd => by have hF := hF.ext1 10 (hd 0 rfl rfl); exact par_call (by repeat constructor) hS rfl (d_call Try.call16 hF (.cons rfl .nil) (toAlgebra_ok (p : Int) (n : Int) T f _)), fun a w g hF hS hd => by have hM := hS.mem rfl; exact par_val hS rfl (g_loadAgg ty_ag_22 hF rfl (hM.row 1 rfl) (by simp only [fnC_size, cells_size, vecC_size, tabC_size, planeC_size] <;> omega) (whole (by simp only [fnC_size, cells_size, vecC_size, tabC_size, planeC_size]))), fun a w g hF hS hd => by have hF := hF.ext1 12 (hd 2 rfl rfl); exact par_call (by repeat constructor) hS rfl (d_call Try.call23 hF (.cons rfl .nil) (toVector_ok v _)), fun a w g hF hS hd => by have hF := hF.ext1 11 (hd 1 rfl rfl); have hF := hF.ext1 13 (hd 3 rfl rfl); exact par_call (by repeat constructor) hS rfl (d_call Try.call32 hF (.cons rfl (.cons rfl .nil)) (FormOfSB p n T f v _ hp hn0 hn hTp hT0 hf hv  hc)), fun a w g hF hS hd => by have hF := hF.ext1 14 (hd 4 rfl rfl); exact par_val hS rfl (g_move hF rfl), fun a w g hF hS hd => by have hF := hF.ext1 9 (hd 5 rfl rfl); exact par_val hS rfl (g_extract hF rfl rfl), fun a w g hF hS hd => by have hF := hF.ext1 9 (hd 5 rfl rfl); exact par_val hS rfl (g_extract hF rfl rfl), fun a w g hF hS hd => by have hF := hF.ext1 15 (hd 6 rfl rfl); exact par_val hS rfl (g_assign hF rfl), trivial⟩ ?_
  intro a w' L hF hS hq
  have hF := hF.ext1 10 (hq 0 rfl rfl)
  have hF := hF.ext1 11 (hq 1 rfl rfl)
  have hF := hF.ext1 12 (hq 2 rfl rfl)
  have hF := hF.ext1 13 (hq 3 rfl rfl)
  have hF := hF.ext1 14 (hq 4 rfl rfl)
  have hF := hF.ext1 9 (hq 5 rfl rfl)
  have hF := hF.ext1 15 (hq 6 rfl rfl)
  have hF := hF.ext1 16 (hq 7 rfl rfl)
  have hF := hF.ext1 5 (hq 8 rfl rfl)
  have hM := hS.mem rfl
  change wpList Try.prog _ _ [_] _ _
  refine st hF (g_assign hF rfl) rfl fun a hF => ?_
  refine wpList_nil ?_
  refine tN ?_
  refine sq ?_
  refine c_par 9 [] [.val (.agg (algC (p : Int) (n : Int) T f)), .val (.agg (algC (p : Int) (n : Int) T f)), .val (.agg (vecC v)), .val (.agg (vecC v)), .val (.tuple #[.int .i64 (((sumTo (fun i => v i * f i) 6 % p : Nat) : Int)), .int .i64 (0)]), .val (.tuple #[.int .i64 (((sumTo (fun i => v i * f i) 6 % p : Nat) : Int)), .int .i64 (0)]), .val (.int .i64 (((sumTo (fun i => v i * f i) 6 % p : Nat) : Int))), .val (.int .i64 (0)), .val (.int .i64 (((sumTo (fun i => v i * f i) 6 % p : Nat) : Int)))] hmix rfl hF rfl hM ⟨fun a w g hF hS hd => by have hM := hS.mem rfl; exact par_val hS rfl (g_loadAgg ty_ag_26 hF rfl (hM.row 0 rfl) (by simp only [fnC_size, cells_size, vecC_size, tabC_size, planeC_size] <;> omega) (whole cells_size)), fun a w g hF hS hd => by have hF := hF.ext1 18 (hd 0 rfl rfl); exact par_call (by repeat constructor) hS rfl (d_call Try.call16 hF (.cons rfl .nil) (toAlgebra_ok (p : Int) (n : Int) T f _)), fun a w g hF hS hd => by have hM := hS.mem rfl; exact par_val hS rfl (g_loadAgg ty_ag_22 hF rfl (hM.row 1 rfl) (by simp only [fnC_size, cells_size, vecC_size, tabC_size, planeC_size] <;> omega) (whole (by simp only [fnC_size, cells_size, vecC_size, tabC_size, planeC_size]))), fun a w g hF hS hd => by have hF := hF.ext1 20 (hd 2 rfl rfl); exact par_call (by repeat constructor) hS rfl (d_call Try.call23 hF (.cons rfl .nil) (toVector_ok v _)), fun a w g hF hS hd => by have hF := hF.ext1 19 (hd 1 rfl rfl); have hF := hF.ext1 21 (hd 3 rfl rfl); exact par_call (by repeat constructor) hS rfl (d_call Try.call33 hF (.cons rfl (.cons rfl .nil)) (FormOfIB p n T f v _ hp hn0 hn hTp hT0 hf hv  hc)), fun a w g hF hS hd => by have hF := hF.ext1 22 (hd 4 rfl rfl); exact par_val hS rfl (g_move hF rfl), fun a w g hF hS hd => by have hF := hF.ext1 17 (hd 5 rfl rfl); exact par_val hS rfl (g_extract hF rfl rfl), fun a w g hF hS hd => by have hF := hF.ext1 17 (hd 5 rfl rfl); exact par_val hS rfl (g_extract hF rfl rfl), fun a w g hF hS hd => by have hF := hF.ext1 23 (hd 6 rfl rfl); exact par_val hS rfl (g_assign hF rfl), trivial⟩ ?_
  intro a w' L hF hS hq
  have hF := hF.ext1 18 (hq 0 rfl rfl)
  have hF := hF.ext1 19 (hq 1 rfl rfl)
  have hF := hF.ext1 20 (hq 2 rfl rfl)
  have hF := hF.ext1 21 (hq 3 rfl rfl)
  have hF := hF.ext1 22 (hq 4 rfl rfl)
  have hF := hF.ext1 17 (hq 5 rfl rfl)
  have hF := hF.ext1 23 (hq 6 rfl rfl)
  have hF := hF.ext1 24 (hq 7 rfl rfl)
  have hF := hF.ext1 7 (hq 8 rfl rfl)
  have hM := hS.mem rfl
  change wpList Try.prog _ _ [_] _ _
  refine st hF (g_assign hF rfl) rfl fun a hF => ?_
  refine wpList_nil ?_
  refine tN ?_
  refine sq ?_
  refine sq ?_
  refine wp_region_lit ?_
  refine st hF (g_move hF rfl) rfl fun a hF => st hF (g_move hF rfl) rfl fun a hF => st hF (g_neq hF rfl rfl) rfl fun a hF => st hF (g_move hF rfl) rfl fun a hF => ?_
  by_cases g3 : (((sumTo (fun i => v i * f i) 6 % p : Nat) : Int) : Int) ≠ ((sumTo (fun i => f i * v i) 6 % p : Nat) : Int)
  ·
    simp only [decide_eq_true g3] at hF
    first | exact absurd rfl g3 | exact absurd eqlaw g3 | exact g3 eqlaw | (exfalso; omega)
  ·
    simp only [decide_eq_false g3] at hF
    refine stY hF rfl rfl rfl (g_move hF rfl) rfl fun a hF => stY hF rfl rfl rfl (g_move hF rfl) rfl fun a hF => stY hF rfl rfl rfl (g_neq hF rfl rfl) rfl fun a hF => st hF (g_pickF hF rfl rfl) rfl fun a hF => ?_
    refine wpList_nil ?_
    refine tN ?_
    refine c_kF hF rfl (by decide) ?_
    refine wp_skip ?_
    refine tN ?_
    refine sq ?_
    refine wp_region_lit ?_
    refine st hF (g_assign hF rfl) rfl fun a hF => ?_
    refine wpList_nil ?_
    refine tN ?_
    refine wp_ret ?_
    refine fin1 rfl hF.defers (res_tmp hF rfl) ⟨_, rfl, hM.below, ?_⟩
    show _ = _
    rfl

theorem law_FormOf (p n : Int) (T : Nat → Nat → Nat → Nat) (f : Nat → Nat) (v : Nat → Nat) (w : World) (hT : ∀ i j k, T i j k ≤ 255) (hf : ∀ i, f i ≤ 255) (hv : ∀ i, v i ≤ 255) : CallsV Try.prog 10 #[.agg (algC p n T f), .agg (vecC v)] w (.bool true) := by
  by_cases hc : CodeP p n T f 1 (vAtL [v])
  · have hs := hc.1.1
    have hp0 := primeP_pos hs.1
    have hn := hs.2.1
    have e1 : ((p.toNat : Nat) : Int) = p := by omega
    have e2 : ((n.toNat : Nat) : Int) = n := by omega
    have h := law_FormOfB p.toNat n.toNat (trunc n.toNat T) f v w (primeN_of hs.1) (by omega) (by omega) (trunc_lt hs) trunc_out hf hv (by rw [e1, e2]; exact code_trunc hc)
    rw [e1, e2, ← algC_trunc hs] at h
    exact h
  · exact law_FormOfA p n T f v w hT hf hv hc

theorem law_MultiplyVectorsA (p n : Int) (T : Nat → Nat → Nat → Nat) (f : Nat → Nat) (v : Nat → Nat) (u : Nat → Nat) (w : World) (hT : ∀ i j k, T i j k ≤ 255) (hf : ∀ i, f i ≤ 255) (hv : ∀ i, v i ≤ 255) (hu : ∀ i, u i ≤ 255) (hc : ¬ CodeP p n T f 2 (vAtL [v, u])) :
    CallsR Try.prog 6 #[.agg (algC p n T f), .agg (vecC v), .agg (vecC u)] w (fun res _ => res = .bool true) := by
  refine calls_fr [.agg (algC p n T f), .agg (vecC v), .agg (vecC u)] Try.func6 rfl Try.ntmps6 rfl fun a hF => ?_
  have hM : Mem w w [none, none, none, none, none] [] := MemX.start w 5
  change Fr 40 a [(0, .agg (algC p n T f)), (1, .agg (vecC v)), (2, .agg (vecC u))] at hF
  have eqlaw : eqV 6 (fun _ => 0) (fun _ => 0) := fun _ _ => rfl
  refine sq ?_
  refine wp_region_lit ?_
  refine stR hF (d_box 0 hM hF rfl) rfl ?_
  rintro _ w' a ⟨b1, rfl, hM, -⟩ hF
  change Mem w w' [some (b1, algC p n T f), none, none, none, none] [] at hM
  refine stR hF (d_box 1 hM hF rfl) rfl ?_
  rintro _ w' a ⟨b2, rfl, hM, -⟩ hF
  change Mem w w' [some (b1, algC p n T f), some (b2, vecC v), none, none, none] [] at hM
  refine stR hF (d_box 2 hM hF rfl) rfl ?_
  rintro _ w' a ⟨b3, rfl, hM, -⟩ hF
  change Mem w w' [some (b1, algC p n T f), some (b2, vecC v), some (b3, vecC u), none, none] [] at hM
  refine st hF (g_assign hF rfl) rfl fun a hF => ?_
  refine wpList_nil ?_
  refine tN ?_
  refine sq ?_
  refine c_drawG (S := ParG [] w [] [3] [some (b1, algC p n T f), some (b2, vecC v), some (b3, vecC u), none, none] 3 (fnC 6 (fun _ => .int .u8 (0))) (vecC (fun _ => 0))) 12 11 hmix rfl rfl rfl hF rfl (fun j o hj hne => dstAll_spec (s := 11) (i := 0) rfl j o hj (by omega)) [some (b1, algC p n T f), some (b2, vecC v), some (b3, vecC u), none, none] ⟨⟨hM, Same.refl _ _⟩, fun b cs h => by simp at h⟩ (fun b g w h => ⟨⟨h.1.1.ext (Below.drew (Below.refl _ _)), h.1.2⟩, h.2⟩) (factsG 3 [.val (.agg (algC p n T f)), .val (.agg (algC p n T f)), .val (.agg (vecC v)), .val (.agg (vecC v)), .val (.agg (vecC u)), .val (.agg (vecC u)), .val (.tuple #[.agg (vecC (fun _ => 0)), .int .i64 (1)]), .val (.tuple #[.agg (vecC (fun _ => 0)), .int .i64 (1)]), .val (.agg (vecC (fun _ => 0))), .val (.int .i64 (1)), .own 3 (fnC 6 (fun _ => .int .u8 (0))) (fun b => ptr b 0), .val undef]) ⟨fun a w2 b g hF hS hb hd => by have hM := hS.1.mem rfl; exact pg_val hS rfl (g_loadAgg ty_ag_26 hF rfl (hM.row 0 rfl) (by simp only [fnC_size, cells_size, vecC_size, tabC_size, planeC_size] <;> omega) (whole cells_size)), fun a w2 b g hF hS hb hd => by have hF := hF.ext1 12 (hd 0 rfl rfl rfl); exact pg_call hS rfl (d_call Try.call16 hF (.cons rfl .nil) (toAlgebra_ok p n T f _)), fun a w2 b g hF hS hb hd => by have hM := hS.1.mem rfl; exact pg_val hS rfl (g_loadAgg ty_ag_22 hF rfl (hM.row 1 rfl) (by simp only [fnC_size, cells_size, vecC_size, tabC_size, planeC_size] <;> omega) (whole (by simp only [fnC_size, cells_size, vecC_size, tabC_size, planeC_size]))), fun a w2 b g hF hS hb hd => by have hF := hF.ext1 14 (hd 2 rfl rfl rfl); exact pg_call hS rfl (d_call Try.call23 hF (.cons rfl .nil) (toVector_ok v _)), fun a w2 b g hF hS hb hd => by have hM := hS.1.mem rfl; exact pg_val hS rfl (g_loadAgg ty_ag_22 hF rfl (hM.row 2 rfl) (by simp only [fnC_size, cells_size, vecC_size, tabC_size, planeC_size] <;> omega) (whole (by simp only [fnC_size, cells_size, vecC_size, tabC_size, planeC_size]))), fun a w2 b g hF hS hb hd => by have hF := hF.ext1 16 (hd 4 rfl rfl rfl); exact pg_call hS rfl (d_call Try.call23 hF (.cons rfl .nil) (toVector_ok u _)), fun a w2 b g hF hS hb hd => by have hF := hF.ext1 13 (hd 1 rfl rfl rfl); have hF := hF.ext1 15 (hd 3 rfl rfl rfl); have hF := hF.ext1 17 (hd 5 rfl rfl rfl); exact pg_call hS rfl (d_call Try.call22 hF (.cons rfl (.cons rfl (.cons rfl .nil))) (MultiplyVectorsSA p n T f v u _ hT hf hv hu  hc)), fun a w2 b g hF hS hb hd => by have hF := hF.ext1 18 (hd 6 rfl rfl rfl); exact pg_val hS rfl (g_move hF rfl), fun a w2 b g hF hS hb hd => by have hF := hF.ext1 11 (hd 7 rfl rfl rfl); exact pg_val hS rfl (g_extract hF rfl rfl), fun a w2 b g hF hS hb hd => by have hF := hF.ext1 11 (hd 7 rfl rfl rfl); exact pg_val hS rfl (g_extract hF rfl rfl), fun a w2 b g hF hS hb hd => by obtain rfl := hb rfl; exact pg_own hS rfl rfl rfl rfl (d_alloc 3 hS.1.1 ty_ze_28), fun a w2 g hF hS hd => by have hF := hF.ext1 19 (hd 8 rfl rfl rfl); exact pg_store (ia := 10) hS rfl rfl rfl (hd 10 rfl rfl rfl) (fun b hptr hM hL => by have hF := hF.ext1 7 hptr; exact d_storeAgg 3 hM hL ty_sz_28 hF rfl rfl (by first | exact vecC_one | exact cells_one | (refine fnC_one fun _ _ => ?_; first | rfl | (split <;> rfl))) (by simp only [fnC_size, cells_size, vecC_size, tabC_size, planeC_size]) (by simp only [fnC_size, cells_size, vecC_size, tabC_size, planeC_size] <;> omega) (splice_whole _ _ (by simp only [fnC_size, cells_size, vecC_size, tabC_size, planeC_size]))), trivial⟩ ?_
  intro a w' L hF hS hq
  have hF := hF.ext1 12 (hq 0 rfl rfl rfl)
  have hF := hF.ext1 13 (hq 1 rfl rfl rfl)
  have hF := hF.ext1 14 (hq 2 rfl rfl rfl)
  have hF := hF.ext1 15 (hq 3 rfl rfl rfl)
  have hF := hF.ext1 16 (hq 4 rfl rfl rfl)
  have hF := hF.ext1 17 (hq 5 rfl rfl rfl)
  have hF := hF.ext1 18 (hq 6 rfl rfl rfl)
  have hF := hF.ext1 11 (hq 7 rfl rfl rfl)
  have hF := hF.ext1 19 (hq 8 rfl rfl rfl)
  have hF := hF.ext1 20 (hq 9 rfl rfl rfl)
  obtain ⟨b4, cs5, hptr, hkk⟩ := hq 10 rfl rfl rfl
  obtain rfl : cs5 = vecC (fun _ => 0) := hS.2 _ _ hkk
  have hF := hF.ext1 7 hptr
  obtain ⟨⟨hM, hL⟩, -⟩ := hS
  have hL := hL.take hkk
  obtain rfl := hL.eq
  change Mem w w' [some (b1, algC p n T f), some (b2, vecC v), some (b3, vecC u), some (b4, vecC (fun _ => 0)), none] [] at hM
  change wpList Try.prog _ _ [_] _ _
  refine st hF (g_assign hF rfl) rfl fun a hF => ?_
  refine wpList_nil ?_
  refine tN ?_
  refine sq ?_
  refine c_drawG (S := ParG [] w [] [4] [some (b1, algC p n T f), some (b2, vecC v), some (b3, vecC u), some (b4, vecC (fun _ => 0)), none] 4 (fnC 6 (fun _ => .int .u8 (0))) (vecC (fun _ => 0))) 12 11 hmix rfl rfl rfl hF rfl (fun j o hj hne => dstAll_spec (s := 11) (i := 0) rfl j o hj (by omega)) [some (b1, algC p n T f), some (b2, vecC v), some (b3, vecC u), some (b4, vecC (fun _ => 0)), none] ⟨⟨hM, Same.refl _ _⟩, fun b cs h => by simp at h⟩ (fun b g w h => ⟨⟨h.1.1.ext (Below.drew (Below.refl _ _)), h.1.2⟩, h.2⟩) (factsG 4 [.val (.agg (algC p n T f)), .val (.agg (algC p n T f)), .val (.agg (vecC v)), .val (.agg (vecC v)), .val (.agg (vecC u)), .val (.agg (vecC u)), .val (.tuple #[.agg (vecC (fun _ => 0)), .int .i64 (1)]), .val (.tuple #[.agg (vecC (fun _ => 0)), .int .i64 (1)]), .val (.agg (vecC (fun _ => 0))), .val (.int .i64 (1)), .own 4 (fnC 6 (fun _ => .int .u8 (0))) (fun b => ptr b 0), .val undef]) ⟨fun a w2 b g hF hS hb hd => by have hM := hS.1.mem rfl; exact pg_val hS rfl (g_loadAgg ty_ag_26 hF rfl (hM.row 0 rfl) (by simp only [fnC_size, cells_size, vecC_size, tabC_size, planeC_size] <;> omega) (whole cells_size)), fun a w2 b g hF hS hb hd => by have hF := hF.ext1 22 (hd 0 rfl rfl rfl); exact pg_call hS rfl (d_call Try.call16 hF (.cons rfl .nil) (toAlgebra_ok p n T f _)), fun a w2 b g hF hS hb hd => by have hM := hS.1.mem rfl; exact pg_val hS rfl (g_loadAgg ty_ag_22 hF rfl (hM.row 1 rfl) (by simp only [fnC_size, cells_size, vecC_size, tabC_size, planeC_size] <;> omega) (whole (by simp only [fnC_size, cells_size, vecC_size, tabC_size, planeC_size]))), fun a w2 b g hF hS hb hd => by have hF := hF.ext1 24 (hd 2 rfl rfl rfl); exact pg_call hS rfl (d_call Try.call23 hF (.cons rfl .nil) (toVector_ok v _)), fun a w2 b g hF hS hb hd => by have hM := hS.1.mem rfl; exact pg_val hS rfl (g_loadAgg ty_ag_22 hF rfl (hM.row 2 rfl) (by simp only [fnC_size, cells_size, vecC_size, tabC_size, planeC_size] <;> omega) (whole (by simp only [fnC_size, cells_size, vecC_size, tabC_size, planeC_size]))), fun a w2 b g hF hS hb hd => by have hF := hF.ext1 26 (hd 4 rfl rfl rfl); exact pg_call hS rfl (d_call Try.call23 hF (.cons rfl .nil) (toVector_ok u _)), fun a w2 b g hF hS hb hd => by have hF := hF.ext1 23 (hd 1 rfl rfl rfl); have hF := hF.ext1 25 (hd 3 rfl rfl rfl); have hF := hF.ext1 27 (hd 5 rfl rfl rfl); exact pg_call hS rfl (d_call Try.call24 hF (.cons rfl (.cons rfl (.cons rfl .nil))) (MultiplyVectorsIA p n T f v u _ hT hf hv hu  hc)), fun a w2 b g hF hS hb hd => by have hF := hF.ext1 28 (hd 6 rfl rfl rfl); exact pg_val hS rfl (g_move hF rfl), fun a w2 b g hF hS hb hd => by have hF := hF.ext1 21 (hd 7 rfl rfl rfl); exact pg_val hS rfl (g_extract hF rfl rfl), fun a w2 b g hF hS hb hd => by have hF := hF.ext1 21 (hd 7 rfl rfl rfl); exact pg_val hS rfl (g_extract hF rfl rfl), fun a w2 b g hF hS hb hd => by obtain rfl := hb rfl; exact pg_own hS rfl rfl rfl rfl (d_alloc 4 hS.1.1 ty_ze_28), fun a w2 g hF hS hd => by have hF := hF.ext1 29 (hd 8 rfl rfl rfl); exact pg_store (ia := 10) hS rfl rfl rfl (hd 10 rfl rfl rfl) (fun b hptr hM hL => by have hF := hF.ext1 9 hptr; exact d_storeAgg 4 hM hL ty_sz_28 hF rfl rfl (by first | exact vecC_one | exact cells_one | (refine fnC_one fun _ _ => ?_; first | rfl | (split <;> rfl))) (by simp only [fnC_size, cells_size, vecC_size, tabC_size, planeC_size]) (by simp only [fnC_size, cells_size, vecC_size, tabC_size, planeC_size] <;> omega) (splice_whole _ _ (by simp only [fnC_size, cells_size, vecC_size, tabC_size, planeC_size]))), trivial⟩ ?_
  intro a w' L hF hS hq
  have hF := hF.ext1 22 (hq 0 rfl rfl rfl)
  have hF := hF.ext1 23 (hq 1 rfl rfl rfl)
  have hF := hF.ext1 24 (hq 2 rfl rfl rfl)
  have hF := hF.ext1 25 (hq 3 rfl rfl rfl)
  have hF := hF.ext1 26 (hq 4 rfl rfl rfl)
  have hF := hF.ext1 27 (hq 5 rfl rfl rfl)
  have hF := hF.ext1 28 (hq 6 rfl rfl rfl)
  have hF := hF.ext1 21 (hq 7 rfl rfl rfl)
  have hF := hF.ext1 29 (hq 8 rfl rfl rfl)
  have hF := hF.ext1 30 (hq 9 rfl rfl rfl)
  obtain ⟨b6, cs7, hptr, hkk⟩ := hq 10 rfl rfl rfl
  obtain rfl : cs7 = vecC (fun _ => 0) := hS.2 _ _ hkk
  have hF := hF.ext1 9 hptr
  obtain ⟨⟨hM, hL⟩, -⟩ := hS
  have hL := hL.take hkk
  obtain rfl := hL.eq
  change Mem w w' [some (b1, algC p n T f), some (b2, vecC v), some (b3, vecC u), some (b4, vecC (fun _ => 0)), some (b6, vecC (fun _ => 0))] [] at hM
  change wpList Try.prog _ _ [_] _ _
  refine st hF (g_assign hF rfl) rfl fun a hF => ?_
  refine wpList_nil ?_
  refine tN ?_
  refine sq ?_
  refine sq ?_
  refine wp_region_lit ?_
  refine st hF (g_loadAgg ty_ag_28 hF rfl (hM.row 4 rfl) (by simp only [fnC_size, cells_size, vecC_size, tabC_size, planeC_size] <;> omega) (whole (by simp only [fnC_size, cells_size, vecC_size, tabC_size, planeC_size]))) rfl fun a hF => st hF (g_loadAgg ty_ag_28 hF rfl (hM.row 3 rfl) (by simp only [fnC_size, cells_size, vecC_size, tabC_size, planeC_size] <;> omega) (whole (by simp only [fnC_size, cells_size, vecC_size, tabC_size, planeC_size]))) rfl fun a hF => ?_
  refine stR hF (d_call Try.call25 hF (.cons rfl (.cons rfl .nil)) (eqVector_ok (fun _ => 0) (fun _ => 0) _)) rfl ?_
  rintro _ w' a ⟨hx, rfl⟩ hF
  have hM := hM.ext hx
  refine st hF (g_notP hF rfl) rfl fun a hF => st hF (g_move hF rfl) rfl fun a hF => ?_
  by_cases g8 : ¬ (eqV 6 (fun _ => 0) (fun _ => 0))
  ·
    simp only [decide_eq_true g8] at hF
    first | exact absurd rfl g8 | exact absurd eqlaw g8 | exact g8 eqlaw | (exfalso; omega)
  ·
    simp only [decide_eq_false g8] at hF
    refine stY hF rfl rfl rfl (g_move hF rfl) rfl fun a hF => stY hF rfl rfl rfl (g_move hF rfl) rfl fun a hF => stY hF rfl rfl rfl (g_neq hF rfl rfl) rfl fun a hF => st hF (g_pickF hF rfl rfl) rfl fun a hF => ?_
    refine wpList_nil ?_
    refine tN ?_
    refine c_kF hF rfl (by decide) ?_
    refine wp_skip ?_
    refine tN ?_
    refine sq ?_
    refine wp_region_lit ?_
    refine st hF (g_assign hF rfl) rfl fun a hF => ?_
    refine wpList_nil ?_
    refine tN ?_
    refine wp_ret ?_
    refine fin1 rfl hF.defers (res_tmp hF rfl) ⟨_, rfl, hM.below, ?_⟩
    show _ = _
    rfl

theorem law_MultiplyVectorsB (p n : Nat) (T : Nat → Nat → Nat → Nat) (f : Nat → Nat) (v : Nat → Nat) (u : Nat → Nat) (w : World) (hp : primeN p) (hn0 : 0 < n) (hn : n ≤ 6) (hTp : ∀ i j k, T i j k < p) (hT0 : ∀ i j k, n ≤ k → T i j k = 0) (hf : ∀ i, f i ≤ 255) (hv : ∀ i, v i ≤ 255) (hu : ∀ i, u i ≤ 255) (hc : CodeP (p : Int) (n : Int) T f 2 (vAtL [v, u])) :
    CallsR Try.prog 6 #[.agg (algC (p : Int) (n : Int) T f), .agg (vecC v), .agg (vecC u)] w (fun res _ => res = .bool true) := by
  refine calls_fr [.agg (algC (p : Int) (n : Int) T f), .agg (vecC v), .agg (vecC u)] Try.func6 rfl Try.ntmps6 rfl fun a hF => ?_
  have hM : Mem w w [none, none, none, none, none] [] := MemX.start w 5
  change Fr 40 a [(0, .agg (algC (p : Int) (n : Int) T f)), (1, .agg (vecC v)), (2, .agg (vecC u))] at hF
  have hp2 := hp.two
  have hp13 := hp.le
  have hT : ∀ i j k, T i j k ≤ 255 := fun i j k => by have := hTp i j k; omega
  have eqlaw : eqV 6 (timesV p n T v u) (timesS p n T v u) := fun i _ => congrFun (times_eq hT0 v u) i
  refine sq ?_
  refine wp_region_lit ?_
  refine stR hF (d_box 0 hM hF rfl) rfl ?_
  rintro _ w' a ⟨b1, rfl, hM, -⟩ hF
  change Mem w w' [some (b1, algC (p : Int) (n : Int) T f), none, none, none, none] [] at hM
  refine stR hF (d_box 1 hM hF rfl) rfl ?_
  rintro _ w' a ⟨b2, rfl, hM, -⟩ hF
  change Mem w w' [some (b1, algC (p : Int) (n : Int) T f), some (b2, vecC v), none, none, none] [] at hM
  refine stR hF (d_box 2 hM hF rfl) rfl ?_
  rintro _ w' a ⟨b3, rfl, hM, -⟩ hF
  change Mem w w' [some (b1, algC (p : Int) (n : Int) T f), some (b2, vecC v), some (b3, vecC u), none, none] [] at hM
  refine st hF (g_assign hF rfl) rfl fun a hF => ?_
  refine wpList_nil ?_
  refine tN ?_
  refine sq ?_
  refine c_drawG (S := ParG [] w [] [3] [some (b1, algC (p : Int) (n : Int) T f), some (b2, vecC v), some (b3, vecC u), none, none] 3 (fnC 6 (fun _ => .int .u8 (0))) (vecC (timesS p n T v u))) 12 11 hmix rfl rfl rfl hF rfl (fun j o hj hne => dstAll_spec (s := 11) (i := 0) rfl j o hj (by omega)) [some (b1, algC (p : Int) (n : Int) T f), some (b2, vecC v), some (b3, vecC u), none, none] ⟨⟨hM, Same.refl _ _⟩, fun b cs h => by simp at h⟩ (fun b g w h => ⟨⟨h.1.1.ext (Below.drew (Below.refl _ _)), h.1.2⟩, h.2⟩) (factsG 3 [.val (.agg (algC (p : Int) (n : Int) T f)), .val (.agg (algC (p : Int) (n : Int) T f)), .val (.agg (vecC v)), .val (.agg (vecC v)), .val (.agg (vecC u)), .val (.agg (vecC u)), .val (.tuple #[.agg (vecC (timesS p n T v u)), .int .i64 (0)]), .val (.tuple #[.agg (vecC (timesS p n T v u)), .int .i64 (0)]), .val (.agg (vecC (timesS p n T v u))), .val (.int .i64 (0)), .own 3 (fnC 6 (fun _ => .int .u8 (0))) (fun b => ptr b 0), .val undef]) ⟨fun a w2 b g hF hS hb hd => by have hM := hS.1.mem rfl; exact pg_val hS rfl (g_loadAgg ty_ag_26 hF rfl (hM.row 0 rfl) (by simp only [fnC_size, cells_size, vecC_size, tabC_size, planeC_size] <;> omega) (whole cells_size)), fun a w2 b g hF hS hb hd => by have hF := hF.ext1 12 (hd 0 rfl rfl rfl); exact pg_call hS rfl (d_call Try.call16 hF (.cons rfl .nil) (toAlgebra_ok (p : Int) (n : Int) T f _)), fun a w2 b g hF hS hb hd => by have hM := hS.1.mem rfl; exact pg_val hS rfl (g_loadAgg ty_ag_22 hF rfl (hM.row 1 rfl) (by simp only [fnC_size, cells_size, vecC_size, tabC_size, planeC_size] <;> omega) (whole (by simp only [fnC_size, cells_size, vecC_size, tabC_size, planeC_size]))), fun a w2 b g hF hS hb hd => by have hF := hF.ext1 14 (hd 2 rfl rfl rfl); exact pg_call hS rfl (d_call Try.call23 hF (.cons rfl .nil) (toVector_ok v _)), fun a w2 b g hF hS hb hd => by have hM := hS.1.mem rfl; exact pg_val hS rfl (g_loadAgg ty_ag_22 hF rfl (hM.row 2 rfl) (by simp only [fnC_size, cells_size, vecC_size, tabC_size, planeC_size] <;> omega) (whole (by simp only [fnC_size, cells_size, vecC_size, tabC_size, planeC_size]))), fun a w2 b g hF hS hb hd => by have hF := hF.ext1 16 (hd 4 rfl rfl rfl); exact pg_call hS rfl (d_call Try.call23 hF (.cons rfl .nil) (toVector_ok u _)), fun a w2 b g hF hS hb hd => by have hF := hF.ext1 13 (hd 1 rfl rfl rfl); have hF := hF.ext1 15 (hd 3 rfl rfl rfl); have hF := hF.ext1 17 (hd 5 rfl rfl rfl); exact pg_call hS rfl (d_call Try.call22 hF (.cons rfl (.cons rfl (.cons rfl .nil))) (MultiplyVectorsSB p n T f v u _ hp hn0 hn hTp hT0 hf hv hu  hc)), fun a w2 b g hF hS hb hd => by have hF := hF.ext1 18 (hd 6 rfl rfl rfl); exact pg_val hS rfl (g_move hF rfl), fun a w2 b g hF hS hb hd => by have hF := hF.ext1 11 (hd 7 rfl rfl rfl); exact pg_val hS rfl (g_extract hF rfl rfl), fun a w2 b g hF hS hb hd => by have hF := hF.ext1 11 (hd 7 rfl rfl rfl); exact pg_val hS rfl (g_extract hF rfl rfl), fun a w2 b g hF hS hb hd => by obtain rfl := hb rfl; exact pg_own hS rfl rfl rfl rfl (d_alloc 3 hS.1.1 ty_ze_28), fun a w2 g hF hS hd => by have hF := hF.ext1 19 (hd 8 rfl rfl rfl); exact pg_store (ia := 10) hS rfl rfl rfl (hd 10 rfl rfl rfl) (fun b hptr hM hL => by have hF := hF.ext1 7 hptr; exact d_storeAgg 3 hM hL ty_sz_28 hF rfl rfl (by first | exact vecC_one | exact cells_one | (refine fnC_one fun _ _ => ?_; first | rfl | (split <;> rfl))) (by simp only [fnC_size, cells_size, vecC_size, tabC_size, planeC_size]) (by simp only [fnC_size, cells_size, vecC_size, tabC_size, planeC_size] <;> omega) (splice_whole _ _ (by simp only [fnC_size, cells_size, vecC_size, tabC_size, planeC_size]))), trivial⟩ ?_
  intro a w' L hF hS hq
  have hF := hF.ext1 12 (hq 0 rfl rfl rfl)
  have hF := hF.ext1 13 (hq 1 rfl rfl rfl)
  have hF := hF.ext1 14 (hq 2 rfl rfl rfl)
  have hF := hF.ext1 15 (hq 3 rfl rfl rfl)
  have hF := hF.ext1 16 (hq 4 rfl rfl rfl)
  have hF := hF.ext1 17 (hq 5 rfl rfl rfl)
  have hF := hF.ext1 18 (hq 6 rfl rfl rfl)
  have hF := hF.ext1 11 (hq 7 rfl rfl rfl)
  have hF := hF.ext1 19 (hq 8 rfl rfl rfl)
  have hF := hF.ext1 20 (hq 9 rfl rfl rfl)
  obtain ⟨b4, cs5, hptr, hkk⟩ := hq 10 rfl rfl rfl
  obtain rfl : cs5 = vecC (timesS p n T v u) := hS.2 _ _ hkk
  have hF := hF.ext1 7 hptr
  obtain ⟨⟨hM, hL⟩, -⟩ := hS
  have hL := hL.take hkk
  obtain rfl := hL.eq
  change Mem w w' [some (b1, algC (p : Int) (n : Int) T f), some (b2, vecC v), some (b3, vecC u), some (b4, vecC (timesS p n T v u)), none] [] at hM
  change wpList Try.prog _ _ [_] _ _
  refine st hF (g_assign hF rfl) rfl fun a hF => ?_
  refine wpList_nil ?_
  refine tN ?_
  refine sq ?_
  refine c_drawG (S := ParG [] w [] [4] [some (b1, algC (p : Int) (n : Int) T f), some (b2, vecC v), some (b3, vecC u), some (b4, vecC (timesS p n T v u)), none] 4 (fnC 6 (fun _ => .int .u8 (0))) (vecC (timesV p n T v u))) 12 11 hmix rfl rfl rfl hF rfl (fun j o hj hne => dstAll_spec (s := 11) (i := 0) rfl j o hj (by omega)) [some (b1, algC (p : Int) (n : Int) T f), some (b2, vecC v), some (b3, vecC u), some (b4, vecC (timesS p n T v u)), none] ⟨⟨hM, Same.refl _ _⟩, fun b cs h => by simp at h⟩ (fun b g w h => ⟨⟨h.1.1.ext (Below.drew (Below.refl _ _)), h.1.2⟩, h.2⟩) (factsG 4 [.val (.agg (algC (p : Int) (n : Int) T f)), .val (.agg (algC (p : Int) (n : Int) T f)), .val (.agg (vecC v)), .val (.agg (vecC v)), .val (.agg (vecC u)), .val (.agg (vecC u)), .val (.tuple #[.agg (vecC (timesV p n T v u)), .int .i64 (0)]), .val (.tuple #[.agg (vecC (timesV p n T v u)), .int .i64 (0)]), .val (.agg (vecC (timesV p n T v u))), .val (.int .i64 (0)), .own 4 (fnC 6 (fun _ => .int .u8 (0))) (fun b => ptr b 0), .val undef]) ⟨fun a w2 b g hF hS hb hd => by have hM := hS.1.mem rfl; exact pg_val hS rfl (g_loadAgg ty_ag_26 hF rfl (hM.row 0 rfl) (by simp only [fnC_size, cells_size, vecC_size, tabC_size, planeC_size] <;> omega) (whole cells_size)), fun a w2 b g hF hS hb hd => by have hF := hF.ext1 22 (hd 0 rfl rfl rfl); exact pg_call hS rfl (d_call Try.call16 hF (.cons rfl .nil) (toAlgebra_ok (p : Int) (n : Int) T f _)), fun a w2 b g hF hS hb hd => by have hM := hS.1.mem rfl; exact pg_val hS rfl (g_loadAgg ty_ag_22 hF rfl (hM.row 1 rfl) (by simp only [fnC_size, cells_size, vecC_size, tabC_size, planeC_size] <;> omega) (whole (by simp only [fnC_size, cells_size, vecC_size, tabC_size, planeC_size]))), fun a w2 b g hF hS hb hd => by have hF := hF.ext1 24 (hd 2 rfl rfl rfl); exact pg_call hS rfl (d_call Try.call23 hF (.cons rfl .nil) (toVector_ok v _)), fun a w2 b g hF hS hb hd => by have hM := hS.1.mem rfl; exact pg_val hS rfl (g_loadAgg ty_ag_22 hF rfl (hM.row 2 rfl) (by simp only [fnC_size, cells_size, vecC_size, tabC_size, planeC_size] <;> omega) (whole (by simp only [fnC_size, cells_size, vecC_size, tabC_size, planeC_size]))), fun a w2 b g hF hS hb hd => by have hF := hF.ext1 26 (hd 4 rfl rfl rfl); exact pg_call hS rfl (d_call Try.call23 hF (.cons rfl .nil) (toVector_ok u _)), fun a w2 b g hF hS hb hd => by have hF := hF.ext1 23 (hd 1 rfl rfl rfl); have hF := hF.ext1 25 (hd 3 rfl rfl rfl); have hF := hF.ext1 27 (hd 5 rfl rfl rfl); exact pg_call hS rfl (d_call Try.call24 hF (.cons rfl (.cons rfl (.cons rfl .nil))) (MultiplyVectorsIB p n T f v u _ hp hn0 hn hTp hT0 hf hv hu  hc)), fun a w2 b g hF hS hb hd => by have hF := hF.ext1 28 (hd 6 rfl rfl rfl); exact pg_val hS rfl (g_move hF rfl), fun a w2 b g hF hS hb hd => by have hF := hF.ext1 21 (hd 7 rfl rfl rfl); exact pg_val hS rfl (g_extract hF rfl rfl), fun a w2 b g hF hS hb hd => by have hF := hF.ext1 21 (hd 7 rfl rfl rfl); exact pg_val hS rfl (g_extract hF rfl rfl), fun a w2 b g hF hS hb hd => by obtain rfl := hb rfl; exact pg_own hS rfl rfl rfl rfl (d_alloc 4 hS.1.1 ty_ze_28), fun a w2 g hF hS hd => by have hF := hF.ext1 29 (hd 8 rfl rfl rfl); exact pg_store (ia := 10) hS rfl rfl rfl (hd 10 rfl rfl rfl) (fun b hptr hM hL => by have hF := hF.ext1 9 hptr; exact d_storeAgg 4 hM hL ty_sz_28 hF rfl rfl (by first | exact vecC_one | exact cells_one | (refine fnC_one fun _ _ => ?_; first | rfl | (split <;> rfl))) (by simp only [fnC_size, cells_size, vecC_size, tabC_size, planeC_size]) (by simp only [fnC_size, cells_size, vecC_size, tabC_size, planeC_size] <;> omega) (splice_whole _ _ (by simp only [fnC_size, cells_size, vecC_size, tabC_size, planeC_size]))), trivial⟩ ?_
  intro a w' L hF hS hq
  have hF := hF.ext1 22 (hq 0 rfl rfl rfl)
  have hF := hF.ext1 23 (hq 1 rfl rfl rfl)
  have hF := hF.ext1 24 (hq 2 rfl rfl rfl)
  have hF := hF.ext1 25 (hq 3 rfl rfl rfl)
  have hF := hF.ext1 26 (hq 4 rfl rfl rfl)
  have hF := hF.ext1 27 (hq 5 rfl rfl rfl)
  have hF := hF.ext1 28 (hq 6 rfl rfl rfl)
  have hF := hF.ext1 21 (hq 7 rfl rfl rfl)
  have hF := hF.ext1 29 (hq 8 rfl rfl rfl)
  have hF := hF.ext1 30 (hq 9 rfl rfl rfl)
  obtain ⟨b6, cs7, hptr, hkk⟩ := hq 10 rfl rfl rfl
  obtain rfl : cs7 = vecC (timesV p n T v u) := hS.2 _ _ hkk
  have hF := hF.ext1 9 hptr
  obtain ⟨⟨hM, hL⟩, -⟩ := hS
  have hL := hL.take hkk
  obtain rfl := hL.eq
  change Mem w w' [some (b1, algC (p : Int) (n : Int) T f), some (b2, vecC v), some (b3, vecC u), some (b4, vecC (timesS p n T v u)), some (b6, vecC (timesV p n T v u))] [] at hM
  change wpList Try.prog _ _ [_] _ _
  refine st hF (g_assign hF rfl) rfl fun a hF => ?_
  refine wpList_nil ?_
  refine tN ?_
  refine sq ?_
  refine sq ?_
  refine wp_region_lit ?_
  refine st hF (g_loadAgg ty_ag_28 hF rfl (hM.row 4 rfl) (by simp only [fnC_size, cells_size, vecC_size, tabC_size, planeC_size] <;> omega) (whole (by simp only [fnC_size, cells_size, vecC_size, tabC_size, planeC_size]))) rfl fun a hF => st hF (g_loadAgg ty_ag_28 hF rfl (hM.row 3 rfl) (by simp only [fnC_size, cells_size, vecC_size, tabC_size, planeC_size] <;> omega) (whole (by simp only [fnC_size, cells_size, vecC_size, tabC_size, planeC_size]))) rfl fun a hF => ?_
  refine stR hF (d_call Try.call25 hF (.cons rfl (.cons rfl .nil)) (eqVector_ok (timesV p n T v u) (timesS p n T v u) _)) rfl ?_
  rintro _ w' a ⟨hx, rfl⟩ hF
  have hM := hM.ext hx
  refine st hF (g_notP hF rfl) rfl fun a hF => st hF (g_move hF rfl) rfl fun a hF => ?_
  by_cases g8 : ¬ (eqV 6 (timesV p n T v u) (timesS p n T v u))
  ·
    simp only [decide_eq_true g8] at hF
    first | exact absurd rfl g8 | exact absurd eqlaw g8 | exact g8 eqlaw | (exfalso; omega)
  ·
    simp only [decide_eq_false g8] at hF
    refine stY hF rfl rfl rfl (g_move hF rfl) rfl fun a hF => stY hF rfl rfl rfl (g_move hF rfl) rfl fun a hF => stY hF rfl rfl rfl (g_neq hF rfl rfl) rfl fun a hF => st hF (g_pickF hF rfl rfl) rfl fun a hF => ?_
    refine wpList_nil ?_
    refine tN ?_
    refine c_kF hF rfl (by decide) ?_
    refine wp_skip ?_
    refine tN ?_
    refine sq ?_
    refine wp_region_lit ?_
    refine st hF (g_assign hF rfl) rfl fun a hF => ?_
    refine wpList_nil ?_
    refine tN ?_
    refine wp_ret ?_
    refine fin1 rfl hF.defers (res_tmp hF rfl) ⟨_, rfl, hM.below, ?_⟩
    show _ = _
    rfl

theorem law_MultiplyVectors (p n : Int) (T : Nat → Nat → Nat → Nat) (f : Nat → Nat) (v : Nat → Nat) (u : Nat → Nat) (w : World) (hT : ∀ i j k, T i j k ≤ 255) (hf : ∀ i, f i ≤ 255) (hv : ∀ i, v i ≤ 255) (hu : ∀ i, u i ≤ 255) : CallsV Try.prog 6 #[.agg (algC p n T f), .agg (vecC v), .agg (vecC u)] w (.bool true) := by
  by_cases hc : CodeP p n T f 2 (vAtL [v, u])
  · have hs := hc.1.1
    have hp0 := primeP_pos hs.1
    have hn := hs.2.1
    have e1 : ((p.toNat : Nat) : Int) = p := by omega
    have e2 : ((n.toNat : Nat) : Int) = n := by omega
    have h := law_MultiplyVectorsB p.toNat n.toNat (trunc n.toNat T) f v u w (primeN_of hs.1) (by omega) (by omega) (trunc_lt hs) trunc_out hf hv hu (by rw [e1, e2]; exact code_trunc hc)
    rw [e1, e2, ← algC_trunc hs] at h
    exact h
  · exact law_MultiplyVectorsA p n T f v u w hT hf hv hu hc

theorem law_PairVectorsA (p n : Int) (T : Nat → Nat → Nat → Nat) (f : Nat → Nat) (v : Nat → Nat) (u : Nat → Nat) (w : World) (hT : ∀ i j k, T i j k ≤ 255) (hf : ∀ i, f i ≤ 255) (hv : ∀ i, v i ≤ 255) (hu : ∀ i, u i ≤ 255) (hc : ¬ CodeP p n T f 2 (vAtL [v, u])) :
    CallsR Try.prog 13 #[.agg (algC p n T f), .agg (vecC v), .agg (vecC u)] w (fun res _ => res = .bool true) := by
  refine calls_fr [.agg (algC p n T f), .agg (vecC v), .agg (vecC u)] Try.func13 rfl Try.ntmps13 rfl fun a hF => ?_
  have hM : Mem w w [none, none, none] [] := MemX.start w 3
  change Fr 39 a [(0, .agg (algC p n T f)), (1, .agg (vecC v)), (2, .agg (vecC u))] at hF
  have eqlaw : eqV 6 (fun _ => 0) (fun _ => 0) := fun _ _ => rfl
  refine sq ?_
  refine wp_region_lit ?_
  refine stR hF (d_box 0 hM hF rfl) rfl ?_
  rintro _ w' a ⟨b1, rfl, hM, -⟩ hF
  change Mem w w' [some (b1, algC p n T f), none, none] [] at hM
  refine stR hF (d_box 1 hM hF rfl) rfl ?_
  rintro _ w' a ⟨b2, rfl, hM, -⟩ hF
  change Mem w w' [some (b1, algC p n T f), some (b2, vecC v), none] [] at hM
  refine stR hF (d_box 2 hM hF rfl) rfl ?_
  rintro _ w' a ⟨b3, rfl, hM, -⟩ hF
  change Mem w w' [some (b1, algC p n T f), some (b2, vecC v), some (b3, vecC u)] [] at hM
  refine st hF (g_assign hF rfl) rfl fun a hF => ?_
  refine wpList_nil ?_
  refine tN ?_
  refine sq ?_
  refine c_par 11 [] [.val (.agg (algC p n T f)), .val (.agg (algC p n T f)), .val (.agg (vecC v)), .val (.agg (vecC v)), .val (.agg (vecC u)), .val (.agg (vecC u)), .val (.tuple #[.int .i64 (0), .int .i64 (1)]), .val (.tuple #[.int .i64 (0), .int .i64 (1)]), .val (.int .i64 (0)), .val (.int .i64 (1)), .val (.int .i64 (0))] hmix rfl hF rfl hM ⟨fun a w g hF hS hd => by have hM := hS.mem rfl; exact par_val hS rfl (g_loadAgg ty_ag_26 hF rfl (hM.row 0 rfl) (by simp only [fnC_size, cells_size, vecC_size, tabC_size, planeC_size] <;> omega) (whole cells_size)), fun a w g hF hS hd => by have hF := hF.ext1 12 (hd 0 rfl rfl); exact par_call (by repeat constructor) hS rfl (d_call Try.call16 hF (.cons rfl .nil) (toAlgebra_ok p n T f _)), fun a w g hF hS hd => by have hM := hS.mem rfl; exact par_val hS rfl (g_loadAgg ty_ag_22 hF rfl (hM.row 1 rfl) (by simp only [fnC_size, cells_size, vecC_size, tabC_size, planeC_size] <;> omega) (whole (by simp only [fnC_size, cells_size, vecC_size, tabC_size, planeC_size]))), fun a w g hF hS hd => by have hF := hF.ext1 14 (hd 2 rfl rfl); exact par_call (by repeat constructor) hS rfl (d_call Try.call23 hF (.cons rfl .nil) (toVector_ok v _)), fun a w g hF hS hd => by have hM := hS.mem rfl; exact par_val hS rfl (g_loadAgg ty_ag_22 hF rfl (hM.row 2 rfl) (by simp only [fnC_size, cells_size, vecC_size, tabC_size, planeC_size] <;> omega) (whole (by simp only [fnC_size, cells_size, vecC_size, tabC_size, planeC_size]))), fun a w g hF hS hd => by have hF := hF.ext1 16 (hd 4 rfl rfl); exact par_call (by repeat constructor) hS rfl (d_call Try.call23 hF (.cons rfl .nil) (toVector_ok u _)), fun a w g hF hS hd => by have hF := hF.ext1 13 (hd 1 rfl rfl); have hF := hF.ext1 15 (hd 3 rfl rfl); have hF := hF.ext1 17 (hd 5 rfl rfl); exact par_call (by repeat constructor) hS rfl (d_call Try.call39 hF (.cons rfl (.cons rfl (.cons rfl .nil))) (PairVectorsSA p n T f v u _ hT hf hv hu  hc)), fun a w g hF hS hd => by have hF := hF.ext1 18 (hd 6 rfl rfl); exact par_val hS rfl (g_move hF rfl), fun a w g hF hS hd => by have hF := hF.ext1 11 (hd 7 rfl rfl); exact par_val hS rfl (g_extract hF rfl rfl), fun a w g hF hS hd => by have hF := hF.ext1 11 (hd 7 rfl rfl); exact par_val hS rfl (g_extract hF rfl rfl), fun a w g hF hS hd => by have hF := hF.ext1 19 (hd 8 rfl rfl); exact par_val hS rfl (g_assign hF rfl), trivial⟩ ?_
  intro a w' L hF hS hq
  have hF := hF.ext1 12 (hq 0 rfl rfl)
  have hF := hF.ext1 13 (hq 1 rfl rfl)
  have hF := hF.ext1 14 (hq 2 rfl rfl)
  have hF := hF.ext1 15 (hq 3 rfl rfl)
  have hF := hF.ext1 16 (hq 4 rfl rfl)
  have hF := hF.ext1 17 (hq 5 rfl rfl)
  have hF := hF.ext1 18 (hq 6 rfl rfl)
  have hF := hF.ext1 11 (hq 7 rfl rfl)
  have hF := hF.ext1 19 (hq 8 rfl rfl)
  have hF := hF.ext1 20 (hq 9 rfl rfl)
  have hF := hF.ext1 7 (hq 10 rfl rfl)
  have hM := hS.mem rfl
  change wpList Try.prog _ _ [_] _ _
  refine st hF (g_assign hF rfl) rfl fun a hF => ?_
  refine wpList_nil ?_
  refine tN ?_
  refine sq ?_
  refine c_par 11 [] [.val (.agg (algC p n T f)), .val (.agg (algC p n T f)), .val (.agg (vecC v)), .val (.agg (vecC v)), .val (.agg (vecC u)), .val (.agg (vecC u)), .val (.tuple #[.int .i64 (0), .int .i64 (1)]), .val (.tuple #[.int .i64 (0), .int .i64 (1)]), .val (.int .i64 (0)), .val (.int .i64 (1)), .val (.int .i64 (0))] hmix rfl hF rfl hM ⟨fun a w g hF hS hd => by have hM := hS.mem rfl; exact par_val hS rfl (g_loadAgg ty_ag_26 hF rfl (hM.row 0 rfl) (by simp only [fnC_size, cells_size, vecC_size, tabC_size, planeC_size] <;> omega) (whole cells_size)), fun a w g hF hS hd => by have hF := hF.ext1 22 (hd 0 rfl rfl); exact par_call (by repeat constructor) hS rfl (d_call Try.call16 hF (.cons rfl .nil) (toAlgebra_ok p n T f _)), fun a w g hF hS hd => by have hM := hS.mem rfl; exact par_val hS rfl (g_loadAgg ty_ag_22 hF rfl (hM.row 1 rfl) (by simp only [fnC_size, cells_size, vecC_size, tabC_size, planeC_size] <;> omega) (whole (by simp only [fnC_size, cells_size, vecC_size, tabC_size, planeC_size]))), fun a w g hF hS hd => by have hF := hF.ext1 24 (hd 2 rfl rfl); exact par_call (by repeat constructor) hS rfl (d_call Try.call23 hF (.cons rfl .nil) (toVector_ok v _)), fun a w g hF hS hd => by have hM := hS.mem rfl; exact par_val hS rfl (g_loadAgg ty_ag_22 hF rfl (hM.row 2 rfl) (by simp only [fnC_size, cells_size, vecC_size, tabC_size, planeC_size] <;> omega) (whole (by simp only [fnC_size, cells_size, vecC_size, tabC_size, planeC_size]))), fun a w g hF hS hd => by have hF := hF.ext1 26 (hd 4 rfl rfl); exact par_call (by repeat constructor) hS rfl (d_call Try.call23 hF (.cons rfl .nil) (toVector_ok u _)), fun a w g hF hS hd => by have hF := hF.ext1 23 (hd 1 rfl rfl); have hF := hF.ext1 25 (hd 3 rfl rfl); have hF := hF.ext1 27 (hd 5 rfl rfl); exact par_call (by repeat constructor) hS rfl (d_call Try.call40 hF (.cons rfl (.cons rfl (.cons rfl .nil))) (PairVectorsIA p n T f v u _ hT hf hv hu  hc)), fun a w g hF hS hd => by have hF := hF.ext1 28 (hd 6 rfl rfl); exact par_val hS rfl (g_move hF rfl), fun a w g hF hS hd => by have hF := hF.ext1 21 (hd 7 rfl rfl); exact par_val hS rfl (g_extract hF rfl rfl), fun a w g hF hS hd => by have hF := hF.ext1 21 (hd 7 rfl rfl); exact par_val hS rfl (g_extract hF rfl rfl), fun a w g hF hS hd => by have hF := hF.ext1 29 (hd 8 rfl rfl); exact par_val hS rfl (g_assign hF rfl), trivial⟩ ?_
  intro a w' L hF hS hq
  have hF := hF.ext1 22 (hq 0 rfl rfl)
  have hF := hF.ext1 23 (hq 1 rfl rfl)
  have hF := hF.ext1 24 (hq 2 rfl rfl)
  have hF := hF.ext1 25 (hq 3 rfl rfl)
  have hF := hF.ext1 26 (hq 4 rfl rfl)
  have hF := hF.ext1 27 (hq 5 rfl rfl)
  have hF := hF.ext1 28 (hq 6 rfl rfl)
  have hF := hF.ext1 21 (hq 7 rfl rfl)
  have hF := hF.ext1 29 (hq 8 rfl rfl)
  have hF := hF.ext1 30 (hq 9 rfl rfl)
  have hF := hF.ext1 9 (hq 10 rfl rfl)
  have hM := hS.mem rfl
  change wpList Try.prog _ _ [_] _ _
  refine st hF (g_assign hF rfl) rfl fun a hF => ?_
  refine wpList_nil ?_
  refine tN ?_
  refine sq ?_
  refine sq ?_
  refine wp_region_lit ?_
  refine st hF (g_move hF rfl) rfl fun a hF => st hF (g_move hF rfl) rfl fun a hF => st hF (g_neq hF rfl rfl) rfl fun a hF => st hF (g_move hF rfl) rfl fun a hF => ?_
  by_cases g4 : (0 : Int) ≠ 0
  ·
    simp only [decide_eq_true g4] at hF
    first | exact absurd rfl g4 | exact absurd eqlaw g4 | exact g4 eqlaw | (exfalso; omega)
  ·
    simp only [decide_eq_false g4] at hF
    refine stY hF rfl rfl rfl (g_move hF rfl) rfl fun a hF => stY hF rfl rfl rfl (g_move hF rfl) rfl fun a hF => stY hF rfl rfl rfl (g_neq hF rfl rfl) rfl fun a hF => st hF (g_pickF hF rfl rfl) rfl fun a hF => ?_
    refine wpList_nil ?_
    refine tN ?_
    refine c_kF hF rfl (by decide) ?_
    refine wp_skip ?_
    refine tN ?_
    refine sq ?_
    refine wp_region_lit ?_
    refine st hF (g_assign hF rfl) rfl fun a hF => ?_
    refine wpList_nil ?_
    refine tN ?_
    refine wp_ret ?_
    refine fin1 rfl hF.defers (res_tmp hF rfl) ⟨_, rfl, hM.below, ?_⟩
    show _ = _
    rfl

theorem law_PairVectorsB (p n : Nat) (T : Nat → Nat → Nat → Nat) (f : Nat → Nat) (v : Nat → Nat) (u : Nat → Nat) (w : World) (hp : primeN p) (hn0 : 0 < n) (hn : n ≤ 6) (hTp : ∀ i j k, T i j k < p) (hT0 : ∀ i j k, n ≤ k → T i j k = 0) (hf : ∀ i, f i ≤ 255) (hv : ∀ i, v i ≤ 255) (hu : ∀ i, u i ≤ 255) (hc : CodeP (p : Int) (n : Int) T f 2 (vAtL [v, u])) :
    CallsR Try.prog 13 #[.agg (algC (p : Int) (n : Int) T f), .agg (vecC v), .agg (vecC u)] w (fun res _ => res = .bool true) := by
  refine calls_fr [.agg (algC (p : Int) (n : Int) T f), .agg (vecC v), .agg (vecC u)] Try.func13 rfl Try.ntmps13 rfl fun a hF => ?_
  have hM : Mem w w [none, none, none] [] := MemX.start w 3
  change Fr 39 a [(0, .agg (algC (p : Int) (n : Int) T f)), (1, .agg (vecC v)), (2, .agg (vecC u))] at hF
  have hp2 := hp.two
  have hp13 := hp.le
  have hT : ∀ i j k, T i j k ≤ 255 := fun i j k => by have := hTp i j k; omega
  have eqlaw : ((sumTo (fun i => (timesV p n T v u) i * f i) 6 % p : Nat) : Int) = ((sumTo (fun i => f i * (timesS p n T v u) i) 6 % p : Nat) : Int) := by rw [times_eq hT0]; simp only [Nat.mul_comm]
  refine sq ?_
  refine wp_region_lit ?_
  refine stR hF (d_box 0 hM hF rfl) rfl ?_
  rintro _ w' a ⟨b1, rfl, hM, -⟩ hF
  change Mem w w' [some (b1, algC (p : Int) (n : Int) T f), none, none] [] at hM
  refine stR hF (d_box 1 hM hF rfl) rfl ?_
  rintro _ w' a ⟨b2, rfl, hM, -⟩ hF
  change Mem w w' [some (b1, algC (p : Int) (n : Int) T f), some (b2, vecC v), none] [] at hM
  refine stR hF (d_box 2 hM hF rfl) rfl ?_
  rintro _ w' a ⟨b3, rfl, hM, -⟩ hF
  change Mem w w' [some (b1, algC (p : Int) (n : Int) T f), some (b2, vecC v), some (b3, vecC u)] [] at hM
  refine st hF (g_assign hF rfl) rfl fun a hF => ?_
  refine wpList_nil ?_
  refine tN ?_
  refine sq ?_
  refine c_par 11 [] [.val (.agg (algC (p : Int) (n : Int) T f)), .val (.agg (algC (p : Int) (n : Int) T f)), .val (.agg (vecC v)), .val (.agg (vecC v)), .val (.agg (vecC u)), .val (.agg (vecC u)), .val (.tuple #[.int .i64 (((sumTo (fun i => f i * (timesS p n T v u) i) 6 % p : Nat) : Int)), .int .i64 (0)]), .val (.tuple #[.int .i64 (((sumTo (fun i => f i * (timesS p n T v u) i) 6 % p : Nat) : Int)), .int .i64 (0)]), .val (.int .i64 (((sumTo (fun i => f i * (timesS p n T v u) i) 6 % p : Nat) : Int))), .val (.int .i64 (0)), .val (.int .i64 (((sumTo (fun i => f i * (timesS p n T v u) i) 6 % p : Nat) : Int)))] hmix rfl hF rfl hM ⟨fun a w g hF hS hd => by have hM := hS.mem rfl; exact par_val hS rfl (g_loadAgg ty_ag_26 hF rfl (hM.row 0 rfl) (by simp only [fnC_size, cells_size, vecC_size, tabC_size, planeC_size] <;> omega) (whole cells_size)), fun a w g hF hS hd => by have hF := hF.ext1 12 (hd 0 rfl rfl); exact par_call (by repeat constructor) hS rfl (d_call Try.call16 hF (.cons rfl .nil) (toAlgebra_ok (p : Int) (n : Int) T f _)), fun a w g hF hS hd => by have hM := hS.mem rfl; exact par_val hS rfl (g_loadAgg ty_ag_22 hF rfl (hM.row 1 rfl) (by simp only [fnC_size, cells_size, vecC_size, tabC_size, planeC_size] <;> omega) (whole (by simp only [fnC_size, cells_size, vecC_size, tabC_size, planeC_size]))), fun a w g hF hS hd => by have hF := hF.ext1 14 (hd 2 rfl rfl); exact par_call (by repeat constructor) hS rfl (d_call Try.call23 hF (.cons rfl .nil) (toVector_ok v _)), fun a w g hF hS hd => by have hM := hS.mem rfl; exact par_val hS rfl (g_loadAgg ty_ag_22 hF rfl (hM.row 2 rfl) (by simp only [fnC_size, cells_size, vecC_size, tabC_size, planeC_size] <;> omega) (whole (by simp only [fnC_size, cells_size, vecC_size, tabC_size, planeC_size]))), fun a w g hF hS hd => by have hF := hF.ext1 16 (hd 4 rfl rfl); exact par_call (by repeat constructor) hS rfl (d_call Try.call23 hF (.cons rfl .nil) (toVector_ok u _)), fun a w g hF hS hd => by have hF := hF.ext1 13 (hd 1 rfl rfl); have hF := hF.ext1 15 (hd 3 rfl rfl); have hF := hF.ext1 17 (hd 5 rfl rfl); exact par_call (by repeat constructor) hS rfl (d_call Try.call39 hF (.cons rfl (.cons rfl (.cons rfl .nil))) (PairVectorsSB p n T f v u _ hp hn0 hn hTp hT0 hf hv hu  hc)), fun a w g hF hS hd => by have hF := hF.ext1 18 (hd 6 rfl rfl); exact par_val hS rfl (g_move hF rfl), fun a w g hF hS hd => by have hF := hF.ext1 11 (hd 7 rfl rfl); exact par_val hS rfl (g_extract hF rfl rfl), fun a w g hF hS hd => by have hF := hF.ext1 11 (hd 7 rfl rfl); exact par_val hS rfl (g_extract hF rfl rfl), fun a w g hF hS hd => by have hF := hF.ext1 19 (hd 8 rfl rfl); exact par_val hS rfl (g_assign hF rfl), trivial⟩ ?_
  intro a w' L hF hS hq
  have hF := hF.ext1 12 (hq 0 rfl rfl)
  have hF := hF.ext1 13 (hq 1 rfl rfl)
  have hF := hF.ext1 14 (hq 2 rfl rfl)
  have hF := hF.ext1 15 (hq 3 rfl rfl)
  have hF := hF.ext1 16 (hq 4 rfl rfl)
  have hF := hF.ext1 17 (hq 5 rfl rfl)
  have hF := hF.ext1 18 (hq 6 rfl rfl)
  have hF := hF.ext1 11 (hq 7 rfl rfl)
  have hF := hF.ext1 19 (hq 8 rfl rfl)
  have hF := hF.ext1 20 (hq 9 rfl rfl)
  have hF := hF.ext1 7 (hq 10 rfl rfl)
  have hM := hS.mem rfl
  change wpList Try.prog _ _ [_] _ _
  refine st hF (g_assign hF rfl) rfl fun a hF => ?_
  refine wpList_nil ?_
  refine tN ?_
  refine sq ?_
  refine c_par 11 [] [.val (.agg (algC (p : Int) (n : Int) T f)), .val (.agg (algC (p : Int) (n : Int) T f)), .val (.agg (vecC v)), .val (.agg (vecC v)), .val (.agg (vecC u)), .val (.agg (vecC u)), .val (.tuple #[.int .i64 (((sumTo (fun i => (timesV p n T v u) i * f i) 6 % p : Nat) : Int)), .int .i64 (0)]), .val (.tuple #[.int .i64 (((sumTo (fun i => (timesV p n T v u) i * f i) 6 % p : Nat) : Int)), .int .i64 (0)]), .val (.int .i64 (((sumTo (fun i => (timesV p n T v u) i * f i) 6 % p : Nat) : Int))), .val (.int .i64 (0)), .val (.int .i64 (((sumTo (fun i => (timesV p n T v u) i * f i) 6 % p : Nat) : Int)))] hmix rfl hF rfl hM ⟨fun a w g hF hS hd => by have hM := hS.mem rfl; exact par_val hS rfl (g_loadAgg ty_ag_26 hF rfl (hM.row 0 rfl) (by simp only [fnC_size, cells_size, vecC_size, tabC_size, planeC_size] <;> omega) (whole cells_size)), fun a w g hF hS hd => by have hF := hF.ext1 22 (hd 0 rfl rfl); exact par_call (by repeat constructor) hS rfl (d_call Try.call16 hF (.cons rfl .nil) (toAlgebra_ok (p : Int) (n : Int) T f _)), fun a w g hF hS hd => by have hM := hS.mem rfl; exact par_val hS rfl (g_loadAgg ty_ag_22 hF rfl (hM.row 1 rfl) (by simp only [fnC_size, cells_size, vecC_size, tabC_size, planeC_size] <;> omega) (whole (by simp only [fnC_size, cells_size, vecC_size, tabC_size, planeC_size]))), fun a w g hF hS hd => by have hF := hF.ext1 24 (hd 2 rfl rfl); exact par_call (by repeat constructor) hS rfl (d_call Try.call23 hF (.cons rfl .nil) (toVector_ok v _)), fun a w g hF hS hd => by have hM := hS.mem rfl; exact par_val hS rfl (g_loadAgg ty_ag_22 hF rfl (hM.row 2 rfl) (by simp only [fnC_size, cells_size, vecC_size, tabC_size, planeC_size] <;> omega) (whole (by simp only [fnC_size, cells_size, vecC_size, tabC_size, planeC_size]))), fun a w g hF hS hd => by have hF := hF.ext1 26 (hd 4 rfl rfl); exact par_call (by repeat constructor) hS rfl (d_call Try.call23 hF (.cons rfl .nil) (toVector_ok u _)), fun a w g hF hS hd => by have hF := hF.ext1 23 (hd 1 rfl rfl); have hF := hF.ext1 25 (hd 3 rfl rfl); have hF := hF.ext1 27 (hd 5 rfl rfl); exact par_call (by repeat constructor) hS rfl (d_call Try.call40 hF (.cons rfl (.cons rfl (.cons rfl .nil))) (PairVectorsIB p n T f v u _ hp hn0 hn hTp hT0 hf hv hu  hc)), fun a w g hF hS hd => by have hF := hF.ext1 28 (hd 6 rfl rfl); exact par_val hS rfl (g_move hF rfl), fun a w g hF hS hd => by have hF := hF.ext1 21 (hd 7 rfl rfl); exact par_val hS rfl (g_extract hF rfl rfl), fun a w g hF hS hd => by have hF := hF.ext1 21 (hd 7 rfl rfl); exact par_val hS rfl (g_extract hF rfl rfl), fun a w g hF hS hd => by have hF := hF.ext1 29 (hd 8 rfl rfl); exact par_val hS rfl (g_assign hF rfl), trivial⟩ ?_
  intro a w' L hF hS hq
  have hF := hF.ext1 22 (hq 0 rfl rfl)
  have hF := hF.ext1 23 (hq 1 rfl rfl)
  have hF := hF.ext1 24 (hq 2 rfl rfl)
  have hF := hF.ext1 25 (hq 3 rfl rfl)
  have hF := hF.ext1 26 (hq 4 rfl rfl)
  have hF := hF.ext1 27 (hq 5 rfl rfl)
  have hF := hF.ext1 28 (hq 6 rfl rfl)
  have hF := hF.ext1 21 (hq 7 rfl rfl)
  have hF := hF.ext1 29 (hq 8 rfl rfl)
  have hF := hF.ext1 30 (hq 9 rfl rfl)
  have hF := hF.ext1 9 (hq 10 rfl rfl)
  have hM := hS.mem rfl
  change wpList Try.prog _ _ [_] _ _
  refine st hF (g_assign hF rfl) rfl fun a hF => ?_
  refine wpList_nil ?_
  refine tN ?_
  refine sq ?_
  refine sq ?_
  refine wp_region_lit ?_
  refine st hF (g_move hF rfl) rfl fun a hF => st hF (g_move hF rfl) rfl fun a hF => st hF (g_neq hF rfl rfl) rfl fun a hF => st hF (g_move hF rfl) rfl fun a hF => ?_
  by_cases g4 : (((sumTo (fun i => (timesV p n T v u) i * f i) 6 % p : Nat) : Int) : Int) ≠ ((sumTo (fun i => f i * (timesS p n T v u) i) 6 % p : Nat) : Int)
  ·
    simp only [decide_eq_true g4] at hF
    first | exact absurd rfl g4 | exact absurd eqlaw g4 | exact g4 eqlaw | (exfalso; omega)
  ·
    simp only [decide_eq_false g4] at hF
    refine stY hF rfl rfl rfl (g_move hF rfl) rfl fun a hF => stY hF rfl rfl rfl (g_move hF rfl) rfl fun a hF => stY hF rfl rfl rfl (g_neq hF rfl rfl) rfl fun a hF => st hF (g_pickF hF rfl rfl) rfl fun a hF => ?_
    refine wpList_nil ?_
    refine tN ?_
    refine c_kF hF rfl (by decide) ?_
    refine wp_skip ?_
    refine tN ?_
    refine sq ?_
    refine wp_region_lit ?_
    refine st hF (g_assign hF rfl) rfl fun a hF => ?_
    refine wpList_nil ?_
    refine tN ?_
    refine wp_ret ?_
    refine fin1 rfl hF.defers (res_tmp hF rfl) ⟨_, rfl, hM.below, ?_⟩
    show _ = _
    rfl

theorem law_PairVectors (p n : Int) (T : Nat → Nat → Nat → Nat) (f : Nat → Nat) (v : Nat → Nat) (u : Nat → Nat) (w : World) (hT : ∀ i j k, T i j k ≤ 255) (hf : ∀ i, f i ≤ 255) (hv : ∀ i, v i ≤ 255) (hu : ∀ i, u i ≤ 255) : CallsV Try.prog 13 #[.agg (algC p n T f), .agg (vecC v), .agg (vecC u)] w (.bool true) := by
  by_cases hc : CodeP p n T f 2 (vAtL [v, u])
  · have hs := hc.1.1
    have hp0 := primeP_pos hs.1
    have hn := hs.2.1
    have e1 : ((p.toNat : Nat) : Int) = p := by omega
    have e2 : ((n.toNat : Nat) : Int) = n := by omega
    have h := law_PairVectorsB p.toNat n.toNat (trunc n.toNat T) f v u w (primeN_of hs.1) (by omega) (by omega) (trunc_lt hs) trunc_out hf hv hu (by rw [e1, e2]; exact code_trunc hc)
    rw [e1, e2, ← algC_trunc hs] at h
    exact h
  · exact law_PairVectorsA p n T f v u w hT hf hv hu hc

theorem law_TraceOfA (p n : Int) (T : Nat → Nat → Nat → Nat) (f : Nat → Nat) (v : Nat → Nat) (w : World) (hT : ∀ i j k, T i j k ≤ 255) (hf : ∀ i, f i ≤ 255) (hv : ∀ i, v i ≤ 255) (hc : ¬ CodeP p n T f 1 (vAtL [v])) :
    CallsR Try.prog 14 #[.agg (algC p n T f), .agg (vecC v)] w (fun res _ => res = .bool true) := by
  refine calls_fr [.agg (algC p n T f), .agg (vecC v)] Try.func14 rfl Try.ntmps14 rfl fun a hF => ?_
  have hM : Mem w w [none, none] [] := MemX.start w 2
  change Fr 33 a [(0, .agg (algC p n T f)), (1, .agg (vecC v))] at hF
  have eqlaw : eqV 6 (fun _ => 0) (fun _ => 0) := fun _ _ => rfl
  refine sq ?_
  refine wp_region_lit ?_
  refine stR hF (d_box 0 hM hF rfl) rfl ?_
  rintro _ w' a ⟨b1, rfl, hM, -⟩ hF
  change Mem w w' [some (b1, algC p n T f), none] [] at hM
  refine stR hF (d_box 1 hM hF rfl) rfl ?_
  rintro _ w' a ⟨b2, rfl, hM, -⟩ hF
  change Mem w w' [some (b1, algC p n T f), some (b2, vecC v)] [] at hM
  refine st hF (g_assign hF rfl) rfl fun a hF => ?_
  refine wpList_nil ?_
  refine tN ?_
  refine sq ?_
  refine c_par 9 [] [.val (.agg (algC p n T f)), .val (.agg (algC p n T f)), .val (.agg (vecC v)), .val (.agg (vecC v)), .val (.tuple #[.int .i64 (0), .int .i64 (1)]), .val (.tuple #[.int .i64 (0), .int .i64 (1)]), .val (.int .i64 (0)), .val (.int .i64 (1)), .val (.int .i64 (0))] hmix rfl hF rfl hM ⟨fun a w g hF hS hd => by have hM := hS.mem rfl; exact par_val hS rfl (g_loadAgg ty_ag_26 hF rfl (hM.row 0 rfl) (by simp only [fnC_size, cells_size, vecC_size, tabC_size, planeC_size] <;> omega) (whole cells_size)), fun a w g hF hS hd => by have hF := hF.ext1 10 (hd 0 rfl rfl); exact par_call (by repeat constructor) hS rfl (d_call Try.call16 hF (.cons rfl .nil) (toAlgebra_ok p n T f _)), fun a w g hF hS hd => by have hM := hS.mem rfl; exact par_val hS rfl (g_loadAgg ty_ag_22 hF rfl (hM.row 1 rfl) (by simp only [fnC_size, cells_size, vecC_size, tabC_size, planeC_size] <;> omega) (whole (by simp only [fnC_size, cells_size, vecC_size, tabC_size, planeC_size]))), fun a w g hF hS hd => by have hF := hF.ext1 12 (hd 2 rfl rfl); exact par_call (by repeat constructor) hS rfl (d_call Try.call23 hF (.cons rfl .nil) (toVector_ok v _)), fun a w g hF hS hd => by have hF := hF.ext1 11 (hd 1 rfl rfl); have hF := hF.ext1 13 (hd 3 rfl rfl); exact par_call (by repeat constructor) hS rfl (d_call Try.call41 hF (.cons rfl (.cons rfl .nil)) (TraceOfSA p n T f v _ hT hf hv  hc)), fun a w g hF hS hd => by have hF := hF.ext1 14 (hd 4 rfl rfl); exact par_val hS rfl (g_move hF rfl), fun a w g hF hS hd => by have hF := hF.ext1 9 (hd 5 rfl rfl); exact par_val hS rfl (g_extract hF rfl rfl), fun a w g hF hS hd => by have hF := hF.ext1 9 (hd 5 rfl rfl); exact par_val hS rfl (g_extract hF rfl rfl), fun a w g hF hS hd => by have hF := hF.ext1 15 (hd 6 rfl rfl); exact par_val hS rfl (g_assign hF rfl), trivial⟩ ?_
  intro a w' L hF hS hq
  have hF := hF.ext1 10 (hq 0 rfl rfl)
  have hF := hF.ext1 11 (hq 1 rfl rfl)
  have hF := hF.ext1 12 (hq 2 rfl rfl)
  have hF := hF.ext1 13 (hq 3 rfl rfl)
  have hF := hF.ext1 14 (hq 4 rfl rfl)
  have hF := hF.ext1 9 (hq 5 rfl rfl)
  have hF := hF.ext1 15 (hq 6 rfl rfl)
  have hF := hF.ext1 16 (hq 7 rfl rfl)
  have hF := hF.ext1 5 (hq 8 rfl rfl)
  have hM := hS.mem rfl
  change wpList Try.prog _ _ [_] _ _
  refine st hF (g_assign hF rfl) rfl fun a hF => ?_
  refine wpList_nil ?_
  refine tN ?_
  refine sq ?_
  refine c_par 9 [] [.val (.agg (algC p n T f)), .val (.agg (algC p n T f)), .val (.agg (vecC v)), .val (.agg (vecC v)), .val (.tuple #[.int .i64 (0), .int .i64 (1)]), .val (.tuple #[.int .i64 (0), .int .i64 (1)]), .val (.int .i64 (0)), .val (.int .i64 (1)), .val (.int .i64 (0))] hmix rfl hF rfl hM ⟨fun a w g hF hS hd => by have hM := hS.mem rfl; exact par_val hS rfl (g_loadAgg ty_ag_26 hF rfl (hM.row 0 rfl) (by simp only [fnC_size, cells_size, vecC_size, tabC_size, planeC_size] <;> omega) (whole cells_size)), fun a w g hF hS hd => by have hF := hF.ext1 18 (hd 0 rfl rfl); exact par_call (by repeat constructor) hS rfl (d_call Try.call16 hF (.cons rfl .nil) (toAlgebra_ok p n T f _)), fun a w g hF hS hd => by have hM := hS.mem rfl; exact par_val hS rfl (g_loadAgg ty_ag_22 hF rfl (hM.row 1 rfl) (by simp only [fnC_size, cells_size, vecC_size, tabC_size, planeC_size] <;> omega) (whole (by simp only [fnC_size, cells_size, vecC_size, tabC_size, planeC_size]))), fun a w g hF hS hd => by have hF := hF.ext1 20 (hd 2 rfl rfl); exact par_call (by repeat constructor) hS rfl (d_call Try.call23 hF (.cons rfl .nil) (toVector_ok v _)), fun a w g hF hS hd => by have hF := hF.ext1 19 (hd 1 rfl rfl); have hF := hF.ext1 21 (hd 3 rfl rfl); exact par_call (by repeat constructor) hS rfl (d_call Try.call42 hF (.cons rfl (.cons rfl .nil)) (TraceOfIA p n T f v _ hT hf hv  hc)), fun a w g hF hS hd => by have hF := hF.ext1 22 (hd 4 rfl rfl); exact par_val hS rfl (g_move hF rfl), fun a w g hF hS hd => by have hF := hF.ext1 17 (hd 5 rfl rfl); exact par_val hS rfl (g_extract hF rfl rfl), fun a w g hF hS hd => by have hF := hF.ext1 17 (hd 5 rfl rfl); exact par_val hS rfl (g_extract hF rfl rfl), fun a w g hF hS hd => by have hF := hF.ext1 23 (hd 6 rfl rfl); exact par_val hS rfl (g_assign hF rfl), trivial⟩ ?_
  intro a w' L hF hS hq
  have hF := hF.ext1 18 (hq 0 rfl rfl)
  have hF := hF.ext1 19 (hq 1 rfl rfl)
  have hF := hF.ext1 20 (hq 2 rfl rfl)
  have hF := hF.ext1 21 (hq 3 rfl rfl)
  have hF := hF.ext1 22 (hq 4 rfl rfl)
  have hF := hF.ext1 17 (hq 5 rfl rfl)
  have hF := hF.ext1 23 (hq 6 rfl rfl)
  have hF := hF.ext1 24 (hq 7 rfl rfl)
  have hF := hF.ext1 7 (hq 8 rfl rfl)
  have hM := hS.mem rfl
  change wpList Try.prog _ _ [_] _ _
  refine st hF (g_assign hF rfl) rfl fun a hF => ?_
  refine wpList_nil ?_
  refine tN ?_
  refine sq ?_
  refine sq ?_
  refine wp_region_lit ?_
  refine st hF (g_move hF rfl) rfl fun a hF => st hF (g_move hF rfl) rfl fun a hF => st hF (g_neq hF rfl rfl) rfl fun a hF => st hF (g_move hF rfl) rfl fun a hF => ?_
  by_cases g3 : (0 : Int) ≠ 0
  ·
    simp only [decide_eq_true g3] at hF
    first | exact absurd rfl g3 | exact absurd eqlaw g3 | exact g3 eqlaw | (exfalso; omega)
  ·
    simp only [decide_eq_false g3] at hF
    refine stY hF rfl rfl rfl (g_move hF rfl) rfl fun a hF => stY hF rfl rfl rfl (g_move hF rfl) rfl fun a hF => stY hF rfl rfl rfl (g_neq hF rfl rfl) rfl fun a hF => st hF (g_pickF hF rfl rfl) rfl fun a hF => ?_
    refine wpList_nil ?_
    refine tN ?_
    refine c_kF hF rfl (by decide) ?_
    refine wp_skip ?_
    refine tN ?_
    refine sq ?_
    refine wp_region_lit ?_
    refine st hF (g_assign hF rfl) rfl fun a hF => ?_
    refine wpList_nil ?_
    refine tN ?_
    refine wp_ret ?_
    refine fin1 rfl hF.defers (res_tmp hF rfl) ⟨_, rfl, hM.below, ?_⟩
    show _ = _
    rfl

theorem law_TraceOfB (p n : Nat) (T : Nat → Nat → Nat → Nat) (f : Nat → Nat) (v : Nat → Nat) (w : World) (hp : primeN p) (hn0 : 0 < n) (hn : n ≤ 6) (hTp : ∀ i j k, T i j k < p) (hT0 : ∀ i j k, n ≤ k → T i j k = 0) (hf : ∀ i, f i ≤ 255) (hv : ∀ i, v i ≤ 255) (hc : CodeP (p : Int) (n : Int) T f 1 (vAtL [v])) :
    CallsR Try.prog 14 #[.agg (algC (p : Int) (n : Int) T f), .agg (vecC v)] w (fun res _ => res = .bool true) := by
  refine calls_fr [.agg (algC (p : Int) (n : Int) T f), .agg (vecC v)] Try.func14 rfl Try.ntmps14 rfl fun a hF => ?_
  have hM : Mem w w [none, none] [] := MemX.start w 2
  change Fr 33 a [(0, .agg (algC (p : Int) (n : Int) T f)), (1, .agg (vecC v))] at hF
  have hp2 := hp.two
  have hp13 := hp.le
  have hT : ∀ i j k, T i j k ≤ 255 := fun i j k => by have := hTp i j k; omega
  have eqlaw : ((sumTo (fun i => timesV p n T v (fun c => if c = i then 1 else 0) i) n % p : Nat) : Int) = ((sumTo (fun i => timesS p n T v (fun c => if c = i then 1 else 0) i) n % p : Nat) : Int) := by simp only [times_eq hT0]
  refine sq ?_
  refine wp_region_lit ?_
  refine stR hF (d_box 0 hM hF rfl) rfl ?_
  rintro _ w' a ⟨b1, rfl, hM, -⟩ hF
  change Mem w w' [some (b1, algC (p : Int) (n : Int) T f), none] [] at hM
  refine stR hF (d_box 1 hM hF rfl) rfl ?_
  rintro _ w' a ⟨b2, rfl, hM, -⟩ hF
  change Mem w w' [some (b1, algC (p : Int) (n : Int) T f), some (b2, vecC v)] [] at hM
  refine st hF (g_assign hF rfl) rfl fun a hF => ?_
  refine wpList_nil ?_
  refine tN ?_
  refine sq ?_
  refine c_par 9 [] [.val (.agg (algC (p : Int) (n : Int) T f)), .val (.agg (algC (p : Int) (n : Int) T f)), .val (.agg (vecC v)), .val (.agg (vecC v)), .val (.tuple #[.int .i64 (((sumTo (fun i => timesS p n T v (fun c => if c = i then 1 else 0) i) n % p : Nat) : Int)), .int .i64 (0)]), .val (.tuple #[.int .i64 (((sumTo (fun i => timesS p n T v (fun c => if c = i then 1 else 0) i) n % p : Nat) : Int)), .int .i64 (0)]), .val (.int .i64 (((sumTo (fun i => timesS p n T v (fun c => if c = i then 1 else 0) i) n % p : Nat) : Int))), .val (.int .i64 (0)), .val (.int .i64 (((sumTo (fun i => timesS p n T v (fun c => if c = i then 1 else 0) i) n % p : Nat) : Int)))] hmix rfl hF rfl hM ⟨fun a w g hF hS hd => by have hM := hS.mem rfl; exact par_val hS rfl (g_loadAgg ty_ag_26 hF rfl (hM.row 0 rfl) (by simp only [fnC_size, cells_size, vecC_size, tabC_size, planeC_size] <;> omega) (whole cells_size)), fun a w g hF hS hd => by have hF := hF.ext1 10 (hd 0 rfl rfl); exact par_call (by repeat constructor) hS rfl (d_call Try.call16 hF (.cons rfl .nil) (toAlgebra_ok (p : Int) (n : Int) T f _)), fun a w g hF hS hd => by have hM := hS.mem rfl; exact par_val hS rfl (g_loadAgg ty_ag_22 hF rfl (hM.row 1 rfl) (by simp only [fnC_size, cells_size, vecC_size, tabC_size, planeC_size] <;> omega) (whole (by simp only [fnC_size, cells_size, vecC_size, tabC_size, planeC_size]))), fun a w g hF hS hd => by have hF := hF.ext1 12 (hd 2 rfl rfl); exact par_call (by repeat constructor) hS rfl (d_call Try.call23 hF (.cons rfl .nil) (toVector_ok v _)), fun a w g hF hS hd => by have hF := hF.ext1 11 (hd 1 rfl rfl); have hF := hF.ext1 13 (hd 3 rfl rfl); exact par_call (by repeat constructor) hS rfl (d_call Try.call41 hF (.cons rfl (.cons rfl .nil)) (TraceOfSB p n T f v _ hp hn0 hn hTp hT0 hf hv  hc)), fun a w g hF hS hd => by have hF := hF.ext1 14 (hd 4 rfl rfl); exact par_val hS rfl (g_move hF rfl), fun a w g hF hS hd => by have hF := hF.ext1 9 (hd 5 rfl rfl); exact par_val hS rfl (g_extract hF rfl rfl), fun a w g hF hS hd => by have hF := hF.ext1 9 (hd 5 rfl rfl); exact par_val hS rfl (g_extract hF rfl rfl), fun a w g hF hS hd => by have hF := hF.ext1 15 (hd 6 rfl rfl); exact par_val hS rfl (g_assign hF rfl), trivial⟩ ?_
  intro a w' L hF hS hq
  have hF := hF.ext1 10 (hq 0 rfl rfl)
  have hF := hF.ext1 11 (hq 1 rfl rfl)
  have hF := hF.ext1 12 (hq 2 rfl rfl)
  have hF := hF.ext1 13 (hq 3 rfl rfl)
  have hF := hF.ext1 14 (hq 4 rfl rfl)
  have hF := hF.ext1 9 (hq 5 rfl rfl)
  have hF := hF.ext1 15 (hq 6 rfl rfl)
  have hF := hF.ext1 16 (hq 7 rfl rfl)
  have hF := hF.ext1 5 (hq 8 rfl rfl)
  have hM := hS.mem rfl
  change wpList Try.prog _ _ [_] _ _
  refine st hF (g_assign hF rfl) rfl fun a hF => ?_
  refine wpList_nil ?_
  refine tN ?_
  refine sq ?_
  refine c_par 9 [] [.val (.agg (algC (p : Int) (n : Int) T f)), .val (.agg (algC (p : Int) (n : Int) T f)), .val (.agg (vecC v)), .val (.agg (vecC v)), .val (.tuple #[.int .i64 (((sumTo (fun i => timesV p n T v (fun c => if c = i then 1 else 0) i) n % p : Nat) : Int)), .int .i64 (0)]), .val (.tuple #[.int .i64 (((sumTo (fun i => timesV p n T v (fun c => if c = i then 1 else 0) i) n % p : Nat) : Int)), .int .i64 (0)]), .val (.int .i64 (((sumTo (fun i => timesV p n T v (fun c => if c = i then 1 else 0) i) n % p : Nat) : Int))), .val (.int .i64 (0)), .val (.int .i64 (((sumTo (fun i => timesV p n T v (fun c => if c = i then 1 else 0) i) n % p : Nat) : Int)))] hmix rfl hF rfl hM ⟨fun a w g hF hS hd => by have hM := hS.mem rfl; exact par_val hS rfl (g_loadAgg ty_ag_26 hF rfl (hM.row 0 rfl) (by simp only [fnC_size, cells_size, vecC_size, tabC_size, planeC_size] <;> omega) (whole cells_size)), fun a w g hF hS hd => by have hF := hF.ext1 18 (hd 0 rfl rfl); exact par_call (by repeat constructor) hS rfl (d_call Try.call16 hF (.cons rfl .nil) (toAlgebra_ok (p : Int) (n : Int) T f _)), fun a w g hF hS hd => by have hM := hS.mem rfl; exact par_val hS rfl (g_loadAgg ty_ag_22 hF rfl (hM.row 1 rfl) (by simp only [fnC_size, cells_size, vecC_size, tabC_size, planeC_size] <;> omega) (whole (by simp only [fnC_size, cells_size, vecC_size, tabC_size, planeC_size]))), fun a w g hF hS hd => by have hF := hF.ext1 20 (hd 2 rfl rfl); exact par_call (by repeat constructor) hS rfl (d_call Try.call23 hF (.cons rfl .nil) (toVector_ok v _)), fun a w g hF hS hd => by have hF := hF.ext1 19 (hd 1 rfl rfl); have hF := hF.ext1 21 (hd 3 rfl rfl); exact par_call (by repeat constructor) hS rfl (d_call Try.call42 hF (.cons rfl (.cons rfl .nil)) (TraceOfIB p n T f v _ hp hn0 hn hTp hT0 hf hv  hc)), fun a w g hF hS hd => by have hF := hF.ext1 22 (hd 4 rfl rfl); exact par_val hS rfl (g_move hF rfl), fun a w g hF hS hd => by have hF := hF.ext1 17 (hd 5 rfl rfl); exact par_val hS rfl (g_extract hF rfl rfl), fun a w g hF hS hd => by have hF := hF.ext1 17 (hd 5 rfl rfl); exact par_val hS rfl (g_extract hF rfl rfl), fun a w g hF hS hd => by have hF := hF.ext1 23 (hd 6 rfl rfl); exact par_val hS rfl (g_assign hF rfl), trivial⟩ ?_
  intro a w' L hF hS hq
  have hF := hF.ext1 18 (hq 0 rfl rfl)
  have hF := hF.ext1 19 (hq 1 rfl rfl)
  have hF := hF.ext1 20 (hq 2 rfl rfl)
  have hF := hF.ext1 21 (hq 3 rfl rfl)
  have hF := hF.ext1 22 (hq 4 rfl rfl)
  have hF := hF.ext1 17 (hq 5 rfl rfl)
  have hF := hF.ext1 23 (hq 6 rfl rfl)
  have hF := hF.ext1 24 (hq 7 rfl rfl)
  have hF := hF.ext1 7 (hq 8 rfl rfl)
  have hM := hS.mem rfl
  change wpList Try.prog _ _ [_] _ _
  refine st hF (g_assign hF rfl) rfl fun a hF => ?_
  refine wpList_nil ?_
  refine tN ?_
  refine sq ?_
  refine sq ?_
  refine wp_region_lit ?_
  refine st hF (g_move hF rfl) rfl fun a hF => st hF (g_move hF rfl) rfl fun a hF => st hF (g_neq hF rfl rfl) rfl fun a hF => st hF (g_move hF rfl) rfl fun a hF => ?_
  by_cases g3 : (((sumTo (fun i => timesV p n T v (fun c => if c = i then 1 else 0) i) n % p : Nat) : Int) : Int) ≠ ((sumTo (fun i => timesS p n T v (fun c => if c = i then 1 else 0) i) n % p : Nat) : Int)
  ·
    simp only [decide_eq_true g3] at hF
    first | exact absurd rfl g3 | exact absurd eqlaw g3 | exact g3 eqlaw | (exfalso; omega)
  ·
    simp only [decide_eq_false g3] at hF
    refine stY hF rfl rfl rfl (g_move hF rfl) rfl fun a hF => stY hF rfl rfl rfl (g_move hF rfl) rfl fun a hF => stY hF rfl rfl rfl (g_neq hF rfl rfl) rfl fun a hF => st hF (g_pickF hF rfl rfl) rfl fun a hF => ?_
    refine wpList_nil ?_
    refine tN ?_
    refine c_kF hF rfl (by decide) ?_
    refine wp_skip ?_
    refine tN ?_
    refine sq ?_
    refine wp_region_lit ?_
    refine st hF (g_assign hF rfl) rfl fun a hF => ?_
    refine wpList_nil ?_
    refine tN ?_
    refine wp_ret ?_
    refine fin1 rfl hF.defers (res_tmp hF rfl) ⟨_, rfl, hM.below, ?_⟩
    show _ = _
    rfl

theorem law_TraceOf (p n : Int) (T : Nat → Nat → Nat → Nat) (f : Nat → Nat) (v : Nat → Nat) (w : World) (hT : ∀ i j k, T i j k ≤ 255) (hf : ∀ i, f i ≤ 255) (hv : ∀ i, v i ≤ 255) : CallsV Try.prog 14 #[.agg (algC p n T f), .agg (vecC v)] w (.bool true) := by
  by_cases hc : CodeP p n T f 1 (vAtL [v])
  · have hs := hc.1.1
    have hp0 := primeP_pos hs.1
    have hn := hs.2.1
    have e1 : ((p.toNat : Nat) : Int) = p := by omega
    have e2 : ((n.toNat : Nat) : Int) = n := by omega
    have h := law_TraceOfB p.toNat n.toNat (trunc n.toNat T) f v w (primeN_of hs.1) (by omega) (by omega) (trunc_lt hs) trunc_out hf hv (by rw [e1, e2]; exact code_trunc hc)
    rw [e1, e2, ← algC_trunc hs] at h
    exact h
  · exact law_TraceOfA p n T f v w hT hf hv hc

end Go.Proofs.Ytipnploakbdaiaa
