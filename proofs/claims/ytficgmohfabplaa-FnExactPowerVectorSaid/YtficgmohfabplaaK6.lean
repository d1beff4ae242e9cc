/- What functions of the program return, as walks over their operations; no statement of the seat is proved here. -/
import Derived.Test.YtficgmohfabplaaK5
set_option linter.unusedVariables false
set_option linter.unusedSimpArgs false
namespace Go.Proofs.Ytficgmohfabplaa
open Go Go.RowKit Go.Sw Go.Ech
open Classical
theorem ty_ag_26 : aggP Try.prog 26 = some 224 := by kernel_rfl
theorem law_PowerVectorA (p n : Int) (T : Nat → Nat → Nat → Nat) (f : Nat → Nat) (v : Nat → Nat) (x : Int) (w : World) (hT : ∀ i j k, T i j k ≤ 255) (hf : ∀ i, f i ≤ 255) (hv : ∀ i, v i ≤ 255) (hc : ¬ CodeP p n T f 1 (vAtL [v])) :
    CallsR Try.prog 3 #[.agg (algC p n T f), .agg (vecC v), .int .i64 (x)] w (fun res _ => res = .bool true) := by
  refine calls_fr [.agg (algC p n T f), .agg (vecC v), .int .i64 (x)] Try.func3 rfl Try.ntmps3 rfl fun a hF => ?_
  have hM : Mem w w [none, none, none, none] [] := MemX.start w 4
  change Fr 38 a [(0, .agg (algC p n T f)), (1, .agg (vecC v)), (2, .int .i64 (x))] at hF
  have eqlaw : eqV 6 (fun _ => 0) (fun _ => 0) := fun _ _ => rfl
  refine sq ?_
  refine wp_region_lit ?_
  refine stR hF (d_box 0 hM hF rfl) rfl ?_
  rintro _ w' a ⟨b1, rfl, hM, -⟩ hF
  change Mem w w' [some (b1, algC p n T f), none, none, none] [] at hM
  refine stR hF (d_box 1 hM hF rfl) rfl ?_
  rintro _ w' a ⟨b2, rfl, hM, -⟩ hF
  change Mem w w' [some (b1, algC p n T f), some (b2, vecC v), none, none] [] at hM
  refine st hF (g_assign hF rfl) rfl fun a hF => ?_
  refine wpList_nil ?_
  refine tN ?_
  refine sq ?_
  refine c_drawG (S := ParG [] w [] [2] [some (b1, algC p n T f), some (b2, vecC v), none, none] 2 (fnC 6 (fun _ => .int .u8 (0))) (vecC (fun _ => 0))) 11 10 hmix rfl rfl rfl hF rfl (fun j o hj hne => dstAll_spec (s := 10) (i := 0) rfl j o hj (by omega)) [some (b1, algC p n T f), some (b2, vecC v), none, none] ⟨⟨hM, Same.refl _ _⟩, fun b cs h => by simp at h⟩ (fun b g w h => ⟨⟨h.1.1.ext (Below.drew (Below.refl _ _)), h.1.2⟩, h.2⟩) (factsG 2 [.val (.agg (algC p n T f)), .val (.agg (algC p n T f)), .val (.agg (vecC v)), .val (.agg (vecC v)), .val (.int .i64 (x)), .val (.tuple #[.agg (vecC (fun _ => 0)), .int .i64 (1)]), .val (.tuple #[.agg (vecC (fun _ => 0)), .int .i64 (1)]), .val (.agg (vecC (fun _ => 0))), .val (.int .i64 (1)), .own 2 (fnC 6 (fun _ => .int .u8 (0))) (fun b => ptr b 0), .val undef]) ⟨fun a w2 fB gE hF hS hb hd => by have hM := hS.1.mem rfl; exact pg_val hS rfl (g_loadAgg ty_ag_26 hF rfl (hM.row 0 rfl) (by simp only [fnC_size, cells_size, vecC_size, tabC_size, planeC_size] <;> omega) (whole cells_size)), fun a w2 fB gE hF hS hb hd => by have hF := hF.ext1 12 (hd 0 rfl rfl rfl); exact pg_call hS rfl (d_call Try.call10 hF (.cons rfl .nil) (toAlgebra_ok p n T f _)), fun a w2 fB gE hF hS hb hd => by have hM := hS.1.mem rfl; exact pg_val hS rfl (g_loadAgg ty_ag_22 hF rfl (hM.row 1 rfl) (by simp only [fnC_size, cells_size, vecC_size, tabC_size, planeC_size] <;> omega) (whole (by simp only [fnC_size, cells_size, vecC_size, tabC_size, planeC_size]))), fun a w2 fB gE hF hS hb hd => by have hF := hF.ext1 14 (hd 2 rfl rfl rfl); exact pg_call hS rfl (d_call Try.call11 hF (.cons rfl .nil) (toVector_ok v _)), fun a w2 fB gE hF hS hb hd => by exact pg_val hS rfl (g_move hF rfl), fun a w2 fB gE hF hS hb hd => by have hF := hF.ext1 13 (hd 1 rfl rfl rfl); have hF := hF.ext1 15 (hd 3 rfl rfl rfl); have hF := hF.ext1 16 (hd 4 rfl rfl rfl); exact pg_call hS rfl (d_call Try.call9 hF (.cons rfl (.cons rfl (.cons rfl .nil))) (PowerVectorSA p n T f v (x) _ hT hf hv hc)), fun a w2 fB gE hF hS hb hd => by have hF := hF.ext1 17 (hd 5 rfl rfl rfl); exact pg_val hS rfl (g_move hF rfl), fun a w2 fB gE hF hS hb hd => by have hF := hF.ext1 11 (hd 6 rfl rfl rfl); exact pg_val hS rfl (g_extract hF rfl rfl), fun a w2 fB gE hF hS hb hd => by have hF := hF.ext1 11 (hd 6 rfl rfl rfl); exact pg_val hS rfl (g_extract hF rfl rfl), fun a w2 fB gE hF hS hb hd => by obtain rfl := hb rfl; exact pg_own hS rfl rfl rfl rfl (d_alloc 2 hS.1.1 ty_ze_27), fun a w2 gE hF hS hd => by have hF := hF.ext1 18 (hd 7 rfl rfl rfl); exact pg_store (ia := 9) hS rfl rfl rfl (hd 9 rfl rfl rfl) (fun b hptr hM hL => by have hF := hF.ext1 7 hptr; exact d_storeAgg 2 hM hL ty_sz_27 hF rfl rfl (by first | exact vecC_one | exact cells_one | (refine fnC_one fun _ _ => ?_; first | rfl | (split <;> rfl))) (by simp only [fnC_size, cells_size, vecC_size, tabC_size, planeC_size]) (by simp only [fnC_size, cells_size, vecC_size, tabC_size, planeC_size] <;> omega) (splice_whole _ _ (by simp only [fnC_size, cells_size, vecC_size, tabC_size, planeC_size]))), trivial⟩ ?_
  intro a w' L hF hS hq
  have hF := hF.ext1 12 (hq 0 rfl rfl rfl)
  have hF := hF.ext1 13 (hq 1 rfl rfl rfl)
  have hF := hF.ext1 14 (hq 2 rfl rfl rfl)
  have hF := hF.ext1 15 (hq 3 rfl rfl rfl)
  have hF := hF.ext1 16 (hq 4 rfl rfl rfl)
  have hF := hF.ext1 17 (hq 5 rfl rfl rfl)
  have hF := hF.ext1 11 (hq 6 rfl rfl rfl)
  have hF := hF.ext1 18 (hq 7 rfl rfl rfl)
  have hF := hF.ext1 19 (hq 8 rfl rfl rfl)
  obtain ⟨b3, cs4, hptr, hkk⟩ := hq 9 rfl rfl rfl
  obtain rfl : cs4 = vecC (fun _ => 0) := hS.2 _ _ hkk
  have hF := hF.ext1 7 hptr
  obtain ⟨⟨hM, hL⟩, -⟩ := hS
  have hL := hL.take hkk
  obtain rfl := hL.eq
  change Mem w w' [some (b1, algC p n T f), some (b2, vecC v), some (b3, vecC (fun _ => 0)), none] [] at hM
  change wpList Try.prog _ _ [_] _ _
  refine st hF (g_assign hF rfl) rfl fun a hF => ?_
  refine wpList_nil ?_
  refine tN ?_
  refine sq ?_
  refine c_drawG (S := ParG [] w [] [3] [some (b1, algC p n T f), some (b2, vecC v), some (b3, vecC (fun _ => 0)), none] 3 (fnC 6 (fun _ => .int .u8 (0))) (vecC (fun _ => 0))) 11 10 hmix rfl rfl rfl hF rfl (fun j o hj hne => dstAll_spec (s := 10) (i := 0) rfl j o hj (by omega)) [some (b1, algC p n T f), some (b2, vecC v), some (b3, vecC (fun _ => 0)), none] ⟨⟨hM, Same.refl _ _⟩, fun b cs h => by simp at h⟩ (fun b g w h => ⟨⟨h.1.1.ext (Below.drew (Below.refl _ _)), h.1.2⟩, h.2⟩) (factsG 3 [.val (.agg (algC p n T f)), .val (.agg (algC p n T f)), .val (.agg (vecC v)), .val (.agg (vecC v)), .val (.int .i64 (x)), .val (.tuple #[.agg (vecC (fun _ => 0)), .int .i64 (1)]), .val (.tuple #[.agg (vecC (fun _ => 0)), .int .i64 (1)]), .val (.agg (vecC (fun _ => 0))), .val (.int .i64 (1)), .own 3 (fnC 6 (fun _ => .int .u8 (0))) (fun b => ptr b 0), .val undef]) ⟨fun a w2 fB gE hF hS hb hd => by have hM := hS.1.mem rfl; exact pg_val hS rfl (g_loadAgg ty_ag_26 hF rfl (hM.row 0 rfl) (by simp only [fnC_size, cells_size, vecC_size, tabC_size, planeC_size] <;> omega) (whole cells_size)), fun a w2 fB gE hF hS hb hd => by have hF := hF.ext1 21 (hd 0 rfl rfl rfl); exact pg_call hS rfl (d_call Try.call10 hF (.cons rfl .nil) (toAlgebra_ok p n T f _)), fun a w2 fB gE hF hS hb hd => by have hM := hS.1.mem rfl; exact pg_val hS rfl (g_loadAgg ty_ag_22 hF rfl (hM.row 1 rfl) (by simp only [fnC_size, cells_size, vecC_size, tabC_size, planeC_size] <;> omega) (whole (by simp only [fnC_size, cells_size, vecC_size, tabC_size, planeC_size]))), fun a w2 fB gE hF hS hb hd => by have hF := hF.ext1 23 (hd 2 rfl rfl rfl); exact pg_call hS rfl (d_call Try.call11 hF (.cons rfl .nil) (toVector_ok v _)), fun a w2 fB gE hF hS hb hd => by exact pg_val hS rfl (g_move hF rfl), fun a w2 fB gE hF hS hb hd => by have hF := hF.ext1 22 (hd 1 rfl rfl rfl); have hF := hF.ext1 24 (hd 3 rfl rfl rfl); have hF := hF.ext1 25 (hd 4 rfl rfl rfl); exact pg_call hS rfl (d_call Try.call12 hF (.cons rfl (.cons rfl (.cons rfl .nil))) (PowerVectorIA p n T f v (x) _ hT hf hv hc)), fun a w2 fB gE hF hS hb hd => by have hF := hF.ext1 26 (hd 5 rfl rfl rfl); exact pg_val hS rfl (g_move hF rfl), fun a w2 fB gE hF hS hb hd => by have hF := hF.ext1 20 (hd 6 rfl rfl rfl); exact pg_val hS rfl (g_extract hF rfl rfl), fun a w2 fB gE hF hS hb hd => by have hF := hF.ext1 20 (hd 6 rfl rfl rfl); exact pg_val hS rfl (g_extract hF rfl rfl), fun a w2 fB gE hF hS hb hd => by obtain rfl := hb rfl; exact pg_own hS rfl rfl rfl rfl (d_alloc 3 hS.1.1 ty_ze_27), fun a w2 gE hF hS hd => by have hF := hF.ext1 27 (hd 7 rfl rfl rfl); exact pg_store (ia := 9) hS rfl rfl rfl (hd 9 rfl rfl rfl) (fun b hptr hM hL => by have hF := hF.ext1 9 hptr; exact d_storeAgg 3 hM hL ty_sz_27 hF rfl rfl (by first | exact vecC_one | exact cells_one | (refine fnC_one fun _ _ => ?_; first | rfl | (split <;> rfl))) (by simp only [fnC_size, cells_size, vecC_size, tabC_size, planeC_size]) (by simp only [fnC_size, cells_size, vecC_size, tabC_size, planeC_size] <;> omega) (splice_whole _ _ (by simp only [fnC_size, cells_size, vecC_size, tabC_size, planeC_size]))), trivial⟩ ?_
  intro a w' L hF hS hq
  have hF := hF.ext1 21 (hq 0 rfl rfl rfl)
  have hF := hF.ext1 22 (hq 1 rfl rfl rfl)
  have hF := hF.ext1 23 (hq 2 rfl rfl rfl)
  have hF := hF.ext1 24 (hq 3 rfl rfl rfl)
  have hF := hF.ext1 25 (hq 4 rfl rfl rfl)
  have hF := hF.ext1 26 (hq 5 rfl rfl rfl)
  have hF := hF.ext1 20 (hq 6 rfl rfl rfl)
  have hF := hF.ext1 27 (hq 7 rfl rfl rfl)
  have hF := hF.ext1 28 (hq 8 rfl rfl rfl)
  obtain ⟨b5, cs6, hptr, hkk⟩ := hq 9 rfl rfl rfl
  obtain rfl : cs6 = vecC (fun _ => 0) := hS.2 _ _ hkk
  have hF := hF.ext1 9 hptr
  obtain ⟨⟨hM, hL⟩, -⟩ := hS
  have hL := hL.take hkk
  obtain rfl := hL.eq
  change Mem w w' [some (b1, algC p n T f), some (b2, vecC v), some (b3, vecC (fun _ => 0)), some (b5, vecC (fun _ => 0))] [] at hM
  change wpList Try.prog _ _ [_] _ _
  refine st hF (g_assign hF rfl) rfl fun a hF => ?_
  refine wpList_nil ?_
  refine tN ?_
  refine sq ?_
  refine sq ?_
  refine wp_region_lit ?_
  refine st hF (g_loadAgg ty_ag_27 hF rfl (hM.row 3 rfl) (by simp only [fnC_size, cells_size, vecC_size, tabC_size, planeC_size] <;> omega) (whole (by simp only [fnC_size, cells_size, vecC_size, tabC_size, planeC_size]))) rfl fun a hF => st hF (g_loadAgg ty_ag_27 hF rfl (hM.row 2 rfl) (by simp only [fnC_size, cells_size, vecC_size, tabC_size, planeC_size] <;> omega) (whole (by simp only [fnC_size, cells_size, vecC_size, tabC_size, planeC_size]))) rfl fun a hF => ?_
  refine stR hF (d_call Try.call13 hF (.cons rfl (.cons rfl .nil)) (eqVector_ok (fun _ => 0) (fun _ => 0) _)) rfl ?_
  rintro _ w' a ⟨hx, rfl⟩ hF
  have hM := hM.ext hx
  refine st hF (g_notP hF rfl) rfl fun a hF => st hF (g_move hF rfl) rfl fun a hF => ?_
  by_cases g7 : ¬ (eqV 6 (fun _ => 0) (fun _ => 0))
  ·
    first | rw [decide_eq_true g7] at hF | simp only [decide_eq_true g7] at hF
    first | exact absurd rfl g7 | exact absurd eqlaw g7 | exact absurd (by exact ⟨rfl, rfl, fun _ _ _ _ _ _ => rfl, fun _ _ => rfl⟩) g7 | (exfalso; omega)
  ·
    first | rw [decide_eq_false g7] at hF | simp only [decide_eq_false g7] at hF
    refine stY hF rfl rfl rfl (g_move hF rfl) rfl fun a hF => stY hF rfl rfl rfl (g_move hF rfl) rfl fun a hF => stY hF rfl rfl rfl (g_neq hF rfl rfl) rfl fun a hF => st hF (g_pickF hF rfl rfl) rfl fun a hF => ?_
    refine wpList_nil ?_
    refine tN ?_
    refine c_kF hF rfl (by decide) ?_
    refine wp_skip ?_
    refine tN ?_
    refine sq ?_
    refine wp_region_lit ?_
    refine st hF (g_assign hF rfl) rfl fun a hF => ?_
    refine wpList_nil ?_
    refine tN ?_
    refine wp_ret ?_
    refine fin1 rfl hF.defers (res_tmp hF rfl) ⟨_, rfl, hM.below, ?_⟩
    show _ = _
    rfl

theorem law_PowerVectorR (p n : Nat) (T : Nat → Nat → Nat → Nat) (f : Nat → Nat) (v : Nat → Nat) (x : Int) (w : World) (hp : primeN p) (hn0 : 0 < n) (hn : n ≤ 6) (hTp : ∀ i j k, T i j k < p) (hT0 : ∀ i j k, n ≤ k → T i j k = 0) (hf : ∀ i, f i ≤ 255) (hv : ∀ i, v i ≤ 255) (hk : ¬ (0 ≤ x ∧ x ≤ 1000)) (hc : CodeP (p : Int) (n : Int) T f 1 (vAtL [v])) :
    CallsR Try.prog 3 #[.agg (algC (p : Int) (n : Int) T f), .agg (vecC v), .int .i64 (x)] w (fun res _ => res = .bool true) := by
  refine calls_fr [.agg (algC (p : Int) (n : Int) T f), .agg (vecC v), .int .i64 (x)] Try.func3 rfl Try.ntmps3 rfl fun a hF => ?_
  have hM : Mem w w [none, none, none, none] [] := MemX.start w 4
  change Fr 38 a [(0, .agg (algC (p : Int) (n : Int) T f)), (1, .agg (vecC v)), (2, .int .i64 (x))] at hF
  have hp2 := hp.two
  have hp13 := hp.le
  have hT : ∀ i j k, T i j k ≤ 255 := fun i j k => by have := hTp i j k; omega
  have eqlaw : eqV 6 (fun _ => 0) (fun _ => 0) := fun _ _ => rfl
  refine sq ?_
  refine wp_region_lit ?_
  refine stR hF (d_box 0 hM hF rfl) rfl ?_
  rintro _ w' a ⟨b1, rfl, hM, -⟩ hF
  change Mem w w' [some (b1, algC (p : Int) (n : Int) T f), none, none, none] [] at hM
  refine stR hF (d_box 1 hM hF rfl) rfl ?_
  rintro _ w' a ⟨b2, rfl, hM, -⟩ hF
  change Mem w w' [some (b1, algC (p : Int) (n : Int) T f), some (b2, vecC v), none, none] [] at hM
  refine st hF (g_assign hF rfl) rfl fun a hF => ?_
  refine wpList_nil ?_
  refine tN ?_
  refine sq ?_
  refine c_drawG (S := ParG [] w [] [2] [some (b1, algC (p : Int) (n : Int) T f), some (b2, vecC v), none, none] 2 (fnC 6 (fun _ => .int .u8 (0))) (vecC (fun _ => 0))) 11 10 hmix rfl rfl rfl hF rfl (fun j o hj hne => dstAll_spec (s := 10) (i := 0) rfl j o hj (by omega)) [some (b1, algC (p : Int) (n : Int) T f), some (b2, vecC v), none, none] ⟨⟨hM, Same.refl _ _⟩, fun b cs h => by simp at h⟩ (fun b g w h => ⟨⟨h.1.1.ext (Below.drew (Below.refl _ _)), h.1.2⟩, h.2⟩) (factsG 2 [.val (.agg (algC (p : Int) (n : Int) T f)), .val (.agg (algC (p : Int) (n : Int) T f)), .val (.agg (vecC v)), .val (.agg (vecC v)), .val (.int .i64 (x)), .val (.tuple #[.agg (vecC (fun _ => 0)), .int .i64 (2)]), .val (.tuple #[.agg (vecC (fun _ => 0)), .int .i64 (2)]), .val (.agg (vecC (fun _ => 0))), .val (.int .i64 (2)), .own 2 (fnC 6 (fun _ => .int .u8 (0))) (fun b => ptr b 0), .val undef]) ⟨fun a w2 fB gE hF hS hb hd => by have hM := hS.1.mem rfl; exact pg_val hS rfl (g_loadAgg ty_ag_26 hF rfl (hM.row 0 rfl) (by simp only [fnC_size, cells_size, vecC_size, tabC_size, planeC_size] <;> omega) (whole cells_size)), fun a w2 fB gE hF hS hb hd => by have hF := hF.ext1 12 (hd 0 rfl rfl rfl); exact pg_call hS rfl (d_call Try.call10 hF (.cons rfl .nil) (toAlgebra_ok (p : Int) (n : Int) T f _)), fun a w2 fB gE hF hS hb hd => by have hM := hS.1.mem rfl; exact pg_val hS rfl (g_loadAgg ty_ag_22 hF rfl (hM.row 1 rfl) (by simp only [fnC_size, cells_size, vecC_size, tabC_size, planeC_size] <;> omega) (whole (by simp only [fnC_size, cells_size, vecC_size, tabC_size, planeC_size]))), fun a w2 fB gE hF hS hb hd => by have hF := hF.ext1 14 (hd 2 rfl rfl rfl); exact pg_call hS rfl (d_call Try.call11 hF (.cons rfl .nil) (toVector_ok v _)), fun a w2 fB gE hF hS hb hd => by exact pg_val hS rfl (g_move hF rfl), fun a w2 fB gE hF hS hb hd => by have hF := hF.ext1 13 (hd 1 rfl rfl rfl); have hF := hF.ext1 15 (hd 3 rfl rfl rfl); have hF := hF.ext1 16 (hd 4 rfl rfl rfl); exact pg_call hS rfl (d_call Try.call9 hF (.cons rfl (.cons rfl (.cons rfl .nil))) (PowerVectorSR p n T f v (x) _ hp hn0 hn hTp hT0 hf hv hk hc)), fun a w2 fB gE hF hS hb hd => by have hF := hF.ext1 17 (hd 5 rfl rfl rfl); exact pg_val hS rfl (g_move hF rfl), fun a w2 fB gE hF hS hb hd => by have hF := hF.ext1 11 (hd 6 rfl rfl rfl); exact pg_val hS rfl (g_extract hF rfl rfl), fun a w2 fB gE hF hS hb hd => by have hF := hF.ext1 11 (hd 6 rfl rfl rfl); exact pg_val hS rfl (g_extract hF rfl rfl), fun a w2 fB gE hF hS hb hd => by obtain rfl := hb rfl; exact pg_own hS rfl rfl rfl rfl (d_alloc 2 hS.1.1 ty_ze_27), fun a w2 gE hF hS hd => by have hF := hF.ext1 18 (hd 7 rfl rfl rfl); exact pg_store (ia := 9) hS rfl rfl rfl (hd 9 rfl rfl rfl) (fun b hptr hM hL => by have hF := hF.ext1 7 hptr; exact d_storeAgg 2 hM hL ty_sz_27 hF rfl rfl (by first | exact vecC_one | exact cells_one | (refine fnC_one fun _ _ => ?_; first | rfl | (split <;> rfl))) (by simp only [fnC_size, cells_size, vecC_size, tabC_size, planeC_size]) (by simp only [fnC_size, cells_size, vecC_size, tabC_size, planeC_size] <;> omega) (splice_whole _ _ (by simp only [fnC_size, cells_size, vecC_size, tabC_size, planeC_size]))), trivial⟩ ?_
  intro a w' L hF hS hq
  have hF := hF.ext1 12 (hq 0 rfl rfl rfl)
  have hF := hF.ext1 13 (hq 1 rfl rfl rfl)
  have hF := hF.ext1 14 (hq 2 rfl rfl rfl)
  have hF := hF.ext1 15 (hq 3 rfl rfl rfl)
  have hF := hF.ext1 16 (hq 4 rfl rfl rfl)
  have hF := hF.ext1 17 (hq 5 rfl rfl rfl)
  have hF := hF.ext1 11 (hq 6 rfl rfl rfl)
  have hF := hF.ext1 18 (hq 7 rfl rfl rfl)
  have hF := hF.ext1 19 (hq 8 rfl rfl rfl)
  obtain ⟨b3, cs4, hptr, hkk⟩ := hq 9 rfl rfl rfl
  obtain rfl : cs4 = vecC (fun _ => 0) := hS.2 _ _ hkk
  have hF := hF.ext1 7 hptr
  obtain ⟨⟨hM, hL⟩, -⟩ := hS
  have hL := hL.take hkk
  obtain rfl := hL.eq
  change Mem w w' [some (b1, algC (p : Int) (n : Int) T f), some (b2, vecC v), some (b3, vecC (fun _ => 0)), none] [] at hM
  change wpList Try.prog _ _ [_] _ _
  refine st hF (g_assign hF rfl) rfl fun a hF => ?_
  refine wpList_nil ?_
  refine tN ?_
  refine sq ?_
  refine c_drawG (S := ParG [] w [] [3] [some (b1, algC (p : Int) (n : Int) T f), some (b2, vecC v), some (b3, vecC (fun _ => 0)), none] 3 (fnC 6 (fun _ => .int .u8 (0))) (vecC (fun _ => 0))) 11 10 hmix rfl rfl rfl hF rfl (fun j o hj hne => dstAll_spec (s := 10) (i := 0) rfl j o hj (by omega)) [some (b1, algC (p : Int) (n : Int) T f), some (b2, vecC v), some (b3, vecC (fun _ => 0)), none] ⟨⟨hM, Same.refl _ _⟩, fun b cs h => by simp at h⟩ (fun b g w h => ⟨⟨h.1.1.ext (Below.drew (Below.refl _ _)), h.1.2⟩, h.2⟩) (factsG 3 [.val (.agg (algC (p : Int) (n : Int) T f)), .val (.agg (algC (p : Int) (n : Int) T f)), .val (.agg (vecC v)), .val (.agg (vecC v)), .val (.int .i64 (x)), .val (.tuple #[.agg (vecC (fun _ => 0)), .int .i64 (2)]), .val (.tuple #[.agg (vecC (fun _ => 0)), .int .i64 (2)]), .val (.agg (vecC (fun _ => 0))), .val (.int .i64 (2)), .own 3 (fnC 6 (fun _ => .int .u8 (0))) (fun b => ptr b 0), .val undef]) ⟨fun a w2 fB gE hF hS hb hd => by have hM := hS.1.mem rfl; exact pg_val hS rfl (g_loadAgg ty_ag_26 hF rfl (hM.row 0 rfl) (by simp only [fnC_size, cells_size, vecC_size, tabC_size, planeC_size] <;> omega) (whole cells_size)), fun a w2 fB gE hF hS hb hd => by have hF := hF.ext1 21 (hd 0 rfl rfl rfl); exact pg_call hS rfl (d_call Try.call10 hF (.cons rfl .nil) (toAlgebra_ok (p : Int) (n : Int) T f _)), fun a w2 fB gE hF hS hb hd => by have hM := hS.1.mem rfl; exact pg_val hS rfl (g_loadAgg ty_ag_22 hF rfl (hM.row 1 rfl) (by simp only [fnC_size, cells_size, vecC_size, tabC_size, planeC_size] <;> omega) (whole (by simp only [fnC_size, cells_size, vecC_size, tabC_size, planeC_size]))), fun a w2 fB gE hF hS hb hd => by have hF := hF.ext1 23 (hd 2 rfl rfl rfl); exact pg_call hS rfl (d_call Try.call11 hF (.cons rfl .nil) (toVector_ok v _)), fun a w2 fB gE hF hS hb hd => by exact pg_val hS rfl (g_move hF rfl), fun a w2 fB gE hF hS hb hd => by have hF := hF.ext1 22 (hd 1 rfl rfl rfl); have hF := hF.ext1 24 (hd 3 rfl rfl rfl); have hF := hF.ext1 25 (hd 4 rfl rfl rfl); exact pg_call hS rfl (d_call Try.call12 hF (.cons rfl (.cons rfl (.cons rfl .nil))) (PowerVectorIR p n T f v (x) _ hp hn0 hn hTp hT0 hf hv hk hc)), fun a w2 fB gE hF hS hb hd => by have hF := hF.ext1 26 (hd 5 rfl rfl rfl); exact pg_val hS rfl (g_move hF rfl), fun a w2 fB gE hF hS hb hd => by have hF := hF.ext1 20 (hd 6 rfl rfl rfl); exact pg_val hS rfl (g_extract hF rfl rfl), fun a w2 fB gE hF hS hb hd => by have hF := hF.ext1 20 (hd 6 rfl rfl rfl); exact pg_val hS rfl (g_extract hF rfl rfl), fun a w2 fB gE hF hS hb hd => by obtain rfl := hb rfl; exact pg_own hS rfl rfl rfl rfl (d_alloc 3 hS.1.1 ty_ze_27), fun a w2 gE hF hS hd => by have hF := hF.ext1 27 (hd 7 rfl rfl rfl); exact pg_store (ia := 9) hS rfl rfl rfl (hd 9 rfl rfl rfl) (fun b hptr hM hL => by have hF := hF.ext1 9 hptr; exact d_storeAgg 3 hM hL ty_sz_27 hF rfl rfl (by first | exact vecC_one | exact cells_one | (refine fnC_one fun _ _ => ?_; first | rfl | (split <;> rfl))) (by simp only [fnC_size, cells_size, vecC_size, tabC_size, planeC_size]) (by simp only [fnC_size, cells_size, vecC_size, tabC_size, planeC_size] <;> omega) (splice_whole _ _ (by simp only [fnC_size, cells_size, vecC_size, tabC_size, planeC_size]))), trivial⟩ ?_
  intro a w' L hF hS hq
  have hF := hF.ext1 21 (hq 0 rfl rfl rfl)
  have hF := hF.ext1 22 (hq 1 rfl rfl rfl)
  have hF := hF.ext1 23 (hq 2 rfl rfl rfl)
  have hF := hF.ext1 24 (hq 3 rfl rfl rfl)
  have hF := hF.ext1 25 (hq 4 rfl rfl rfl)
  have hF := hF.ext1 26 (hq 5 rfl rfl rfl)
  have hF := hF.ext1 20 (hq 6 rfl rfl rfl)
  have hF := hF.ext1 27 (hq 7 rfl rfl rfl)
  have hF := hF.ext1 28 (hq 8 rfl rfl rfl)
  obtain ⟨b5, cs6, hptr, hkk⟩ := hq 9 rfl rfl rfl
  obtain rfl : cs6 = vecC (fun _ => 0) := hS.2 _ _ hkk
  have hF := hF.ext1 9 hptr
  obtain ⟨⟨hM, hL⟩, -⟩ := hS
  have hL := hL.take hkk
  obtain rfl := hL.eq
  change Mem w w' [some (b1, algC (p : Int) (n : Int) T f), some (b2, vecC v), some (b3, vecC (fun _ => 0)), some (b5, vecC (fun _ => 0))] [] at hM
  change wpList Try.prog _ _ [_] _ _
  refine st hF (g_assign hF rfl) rfl fun a hF => ?_
  refine wpList_nil ?_
  refine tN ?_
  refine sq ?_
  refine sq ?_
  refine wp_region_lit ?_
  refine st hF (g_loadAgg ty_ag_27 hF rfl (hM.row 3 rfl) (by simp only [fnC_size, cells_size, vecC_size, tabC_size, planeC_size] <;> omega) (whole (by simp only [fnC_size, cells_size, vecC_size, tabC_size, planeC_size]))) rfl fun a hF => st hF (g_loadAgg ty_ag_27 hF rfl (hM.row 2 rfl) (by simp only [fnC_size, cells_size, vecC_size, tabC_size, planeC_size] <;> omega) (whole (by simp only [fnC_size, cells_size, vecC_size, tabC_size, planeC_size]))) rfl fun a hF => ?_
  refine stR hF (d_call Try.call13 hF (.cons rfl (.cons rfl .nil)) (eqVector_ok (fun _ => 0) (fun _ => 0) _)) rfl ?_
  rintro _ w' a ⟨hx, rfl⟩ hF
  have hM := hM.ext hx
  refine st hF (g_notP hF rfl) rfl fun a hF => st hF (g_move hF rfl) rfl fun a hF => ?_
  by_cases g7 : ¬ (eqV 6 (fun _ => 0) (fun _ => 0))
  ·
    first | rw [decide_eq_true g7] at hF | simp only [decide_eq_true g7] at hF
    first | exact absurd rfl g7 | exact absurd eqlaw g7 | exact absurd (by exact ⟨rfl, rfl, fun _ _ _ _ _ _ => rfl, fun _ _ => rfl⟩) g7 | (exfalso; omega)
  ·
    first | rw [decide_eq_false g7] at hF | simp only [decide_eq_false g7] at hF
    refine stY hF rfl rfl rfl (g_move hF rfl) rfl fun a hF => stY hF rfl rfl rfl (g_move hF rfl) rfl fun a hF => stY hF rfl rfl rfl (g_neq hF rfl rfl) rfl fun a hF => st hF (g_pickF hF rfl rfl) rfl fun a hF => ?_
    refine wpList_nil ?_
    refine tN ?_
    refine c_kF hF rfl (by decide) ?_
    refine wp_skip ?_
    refine tN ?_
    refine sq ?_
    refine wp_region_lit ?_
    refine st hF (g_assign hF rfl) rfl fun a hF => ?_
    refine wpList_nil ?_
    refine tN ?_
    refine wp_ret ?_
    refine fin1 rfl hF.defers (res_tmp hF rfl) ⟨_, rfl, hM.below, ?_⟩
    show _ = _
    rfl

theorem law_PowerVectorB (p n : Nat) (T : Nat → Nat → Nat → Nat) (f : Nat → Nat) (v : Nat → Nat) (x : Nat) (w : World) (hp : primeN p) (hn0 : 0 < n) (hn : n ≤ 6) (hTp : ∀ i j k, T i j k < p) (hT0 : ∀ i j k, n ≤ k → T i j k = 0) (hf : ∀ i, f i ≤ 255) (hv : ∀ i, v i ≤ 255) (hk : x ≤ 1000) (uu : Nat → Nat) (huu : UnitI p n T uu) (hc : CodeP (p : Int) (n : Int) T f 1 (vAtL [v])) :
    CallsR Try.prog 3 #[.agg (algC (p : Int) (n : Int) T f), .agg (vecC v), .int .i64 (((x : Nat) : Int))] w (fun res _ => res = .bool true) := by
  refine calls_fr [.agg (algC (p : Int) (n : Int) T f), .agg (vecC v), .int .i64 (((x : Nat) : Int))] Try.func3 rfl Try.ntmps3 rfl fun a hF => ?_
  have hM : Mem w w [none, none, none, none] [] := MemX.start w 4
  change Fr 38 a [(0, .agg (algC (p : Int) (n : Int) T f)), (1, .agg (vecC v)), (2, .int .i64 (((x : Nat) : Int)))] at hF
  have hp2 := hp.two
  have hp13 := hp.le
  have hT : ∀ i j k, T i j k ≤ 255 := fun i j k => by have := hTp i j k; omega
  have eqlaw : eqV 6 (powW (timesV p n T) uu v x) (powW (timesS p n T) uu v x) := fun i _ => by rw [show timesV p n T = timesS p n T from funext fun a => funext fun b => times_eq hT0 a b]
  refine sq ?_
  refine wp_region_lit ?_
  refine stR hF (d_box 0 hM hF rfl) rfl ?_
  rintro _ w' a ⟨b1, rfl, hM, -⟩ hF
  change Mem w w' [some (b1, algC (p : Int) (n : Int) T f), none, none, none] [] at hM
  refine stR hF (d_box 1 hM hF rfl) rfl ?_
  rintro _ w' a ⟨b2, rfl, hM, -⟩ hF
  change Mem w w' [some (b1, algC (p : Int) (n : Int) T f), some (b2, vecC v), none, none] [] at hM
  refine st hF (g_assign hF rfl) rfl fun a hF => ?_
  refine wpList_nil ?_
  refine tN ?_
  refine sq ?_
  refine c_drawG (S := ParG [] w [] [2] [some (b1, algC (p : Int) (n : Int) T f), some (b2, vecC v), none, none] 2 (fnC 6 (fun _ => .int .u8 (0))) (vecC (powW (timesS p n T) uu v x))) 11 10 hmix rfl rfl rfl hF rfl (fun j o hj hne => dstAll_spec (s := 10) (i := 0) rfl j o hj (by omega)) [some (b1, algC (p : Int) (n : Int) T f), some (b2, vecC v), none, none] ⟨⟨hM, Same.refl _ _⟩, fun b cs h => by simp at h⟩ (fun b g w h => ⟨⟨h.1.1.ext (Below.drew (Below.refl _ _)), h.1.2⟩, h.2⟩) (factsG 2 [.val (.agg (algC (p : Int) (n : Int) T f)), .val (.agg (algC (p : Int) (n : Int) T f)), .val (.agg (vecC v)), .val (.agg (vecC v)), .val (.int .i64 (((x : Nat) : Int))), .val (.tuple #[.agg (vecC (powW (timesS p n T) uu v x)), .int .i64 (0)]), .val (.tuple #[.agg (vecC (powW (timesS p n T) uu v x)), .int .i64 (0)]), .val (.agg (vecC (powW (timesS p n T) uu v x))), .val (.int .i64 (0)), .own 2 (fnC 6 (fun _ => .int .u8 (0))) (fun b => ptr b 0), .val undef]) ⟨fun a w2 fB gE hF hS hb hd => by have hM := hS.1.mem rfl; exact pg_val hS rfl (g_loadAgg ty_ag_26 hF rfl (hM.row 0 rfl) (by simp only [fnC_size, cells_size, vecC_size, tabC_size, planeC_size] <;> omega) (whole cells_size)), fun a w2 fB gE hF hS hb hd => by have hF := hF.ext1 12 (hd 0 rfl rfl rfl); exact pg_call hS rfl (d_call Try.call10 hF (.cons rfl .nil) (toAlgebra_ok (p : Int) (n : Int) T f _)), fun a w2 fB gE hF hS hb hd => by have hM := hS.1.mem rfl; exact pg_val hS rfl (g_loadAgg ty_ag_22 hF rfl (hM.row 1 rfl) (by simp only [fnC_size, cells_size, vecC_size, tabC_size, planeC_size] <;> omega) (whole (by simp only [fnC_size, cells_size, vecC_size, tabC_size, planeC_size]))), fun a w2 fB gE hF hS hb hd => by have hF := hF.ext1 14 (hd 2 rfl rfl rfl); exact pg_call hS rfl (d_call Try.call11 hF (.cons rfl .nil) (toVector_ok v _)), fun a w2 fB gE hF hS hb hd => by exact pg_val hS rfl (g_move hF rfl), fun a w2 fB gE hF hS hb hd => by have hF := hF.ext1 13 (hd 1 rfl rfl rfl); have hF := hF.ext1 15 (hd 3 rfl rfl rfl); have hF := hF.ext1 16 (hd 4 rfl rfl rfl); exact pg_call hS rfl (d_call Try.call9 hF (.cons rfl (.cons rfl (.cons rfl .nil))) (PowerVectorSB p n T f v (x) _ hp hn0 hn hTp hT0 hf hv hk uu huu hc)), fun a w2 fB gE hF hS hb hd => by have hF := hF.ext1 17 (hd 5 rfl rfl rfl); exact pg_val hS rfl (g_move hF rfl), fun a w2 fB gE hF hS hb hd => by have hF := hF.ext1 11 (hd 6 rfl rfl rfl); exact pg_val hS rfl (g_extract hF rfl rfl), fun a w2 fB gE hF hS hb hd => by have hF := hF.ext1 11 (hd 6 rfl rfl rfl); exact pg_val hS rfl (g_extract hF rfl rfl), fun a w2 fB gE hF hS hb hd => by obtain rfl := hb rfl; exact pg_own hS rfl rfl rfl rfl (d_alloc 2 hS.1.1 ty_ze_27), fun a w2 gE hF hS hd => by have hF := hF.ext1 18 (hd 7 rfl rfl rfl); exact pg_store (ia := 9) hS rfl rfl rfl (hd 9 rfl rfl rfl) (fun b hptr hM hL => by have hF := hF.ext1 7 hptr; exact d_storeAgg 2 hM hL ty_sz_27 hF rfl rfl (by first | exact vecC_one | exact cells_one | (refine fnC_one fun _ _ => ?_; first | rfl | (split <;> rfl))) (by simp only [fnC_size, cells_size, vecC_size, tabC_size, planeC_size]) (by simp only [fnC_size, cells_size, vecC_size, tabC_size, planeC_size] <;> omega) (splice_whole _ _ (by simp only [fnC_size, cells_size, vecC_size, tabC_size, planeC_size]))), trivial⟩ ?_
  intro a w' L hF hS hq
  have hF := hF.ext1 12 (hq 0 rfl rfl rfl)
  have hF := hF.ext1 13 (hq 1 rfl rfl rfl)
  have hF := hF.ext1 14 (hq 2 rfl rfl rfl)
  have hF := hF.ext1 15 (hq 3 rfl rfl rfl)
  have hF := hF.ext1 16 (hq 4 rfl rfl rfl)
  have hF := hF.ext1 17 (hq 5 rfl rfl rfl)
  have hF := hF.ext1 11 (hq 6 rfl rfl rfl)
  have hF := hF.ext1 18 (hq 7 rfl rfl rfl)
  have hF := hF.ext1 19 (hq 8 rfl rfl rfl)
  obtain ⟨b3, cs4, hptr, hkk⟩ := hq 9 rfl rfl rfl
  obtain rfl : cs4 = vecC (powW (timesS p n T) uu v x) := hS.2 _ _ hkk
  have hF := hF.ext1 7 hptr
  obtain ⟨⟨hM, hL⟩, -⟩ := hS
  have hL := hL.take hkk
  obtain rfl := hL.eq
  change Mem w w' [some (b1, algC (p : Int) (n : Int) T f), some (b2, vecC v), some (b3, vecC (powW (timesS p n T) uu v x)), none] [] at hM
  change wpList Try.prog _ _ [_] _ _
  refine st hF (g_assign hF rfl) rfl fun a hF => ?_
  refine wpList_nil ?_
  refine tN ?_
  refine sq ?_
  refine c_drawG (S := ParG [] w [] [3] [some (b1, algC (p : Int) (n : Int) T f), some (b2, vecC v), some (b3, vecC (powW (timesS p n T) uu v x)), none] 3 (fnC 6 (fun _ => .int .u8 (0))) (vecC (powW (timesV p n T) uu v x))) 11 10 hmix rfl rfl rfl hF rfl (fun j o hj hne => dstAll_spec (s := 10) (i := 0) rfl j o hj (by omega)) [some (b1, algC (p : Int) (n : Int) T f), some (b2, vecC v), some (b3, vecC (powW (timesS p n T) uu v x)), none] ⟨⟨hM, Same.refl _ _⟩, fun b cs h => by simp at h⟩ (fun b g w h => ⟨⟨h.1.1.ext (Below.drew (Below.refl _ _)), h.1.2⟩, h.2⟩) (factsG 3 [.val (.agg (algC (p : Int) (n : Int) T f)), .val (.agg (algC (p : Int) (n : Int) T f)), .val (.agg (vecC v)), .val (.agg (vecC v)), .val (.int .i64 (((x : Nat) : Int))), .val (.tuple #[.agg (vecC (powW (timesV p n T) uu v x)), .int .i64 (0)]), .val (.tuple #[.agg (vecC (powW (timesV p n T) uu v x)), .int .i64 (0)]), .val (.agg (vecC (powW (timesV p n T) uu v x))), .val (.int .i64 (0)), .own 3 (fnC 6 (fun _ => .int .u8 (0))) (fun b => ptr b 0), .val undef]) ⟨fun a w2 fB gE hF hS hb hd => by have hM := hS.1.mem rfl; exact pg_val hS rfl (g_loadAgg ty_ag_26 hF rfl (hM.row 0 rfl) (by simp only [fnC_size, cells_size, vecC_size, tabC_size, planeC_size] <;> omega) (whole cells_size)), fun a w2 fB gE hF hS hb hd => by have hF := hF.ext1 21 (hd 0 rfl rfl rfl); exact pg_call hS rfl (d_call Try.call10 hF (.cons rfl .nil) (toAlgebra_ok (p : Int) (n : Int) T f _)), fun a w2 fB gE hF hS hb hd => by have hM := hS.1.mem rfl; exact pg_val hS rfl (g_loadAgg ty_ag_22 hF rfl (hM.row 1 rfl) (by simp only [fnC_size, cells_size, vecC_size, tabC_size, planeC_size] <;> omega) (whole (by simp only [fnC_size, cells_size, vecC_size, tabC_size, planeC_size]))), fun a w2 fB gE hF hS hb hd => by have hF := hF.ext1 23 (hd 2 rfl rfl rfl); exact pg_call hS rfl (d_call Try.call11 hF (.cons rfl .nil) (toVector_ok v _)), fun a w2 fB gE hF hS hb hd => by exact pg_val hS rfl (g_move hF rfl), fun a w2 fB gE hF hS hb hd => by have hF := hF.ext1 22 (hd 1 rfl rfl rfl); have hF := hF.ext1 24 (hd 3 rfl rfl rfl); have hF := hF.ext1 25 (hd 4 rfl rfl rfl); exact pg_call hS rfl (d_call Try.call12 hF (.cons rfl (.cons rfl (.cons rfl .nil))) (PowerVectorIB p n T f v (x) _ hp hn0 hn hTp hT0 hf hv hk uu huu hc)), fun a w2 fB gE hF hS hb hd => by have hF := hF.ext1 26 (hd 5 rfl rfl rfl); exact pg_val hS rfl (g_move hF rfl), fun a w2 fB gE hF hS hb hd => by have hF := hF.ext1 20 (hd 6 rfl rfl rfl); exact pg_val hS rfl (g_extract hF rfl rfl), fun a w2 fB gE hF hS hb hd => by have hF := hF.ext1 20 (hd 6 rfl rfl rfl); exact pg_val hS rfl (g_extract hF rfl rfl), fun a w2 fB gE hF hS hb hd => by obtain rfl := hb rfl; exact pg_own hS rfl rfl rfl rfl (d_alloc 3 hS.1.1 ty_ze_27), fun a w2 gE hF hS hd => by have hF := hF.ext1 27 (hd 7 rfl rfl rfl); exact pg_store (ia := 9) hS rfl rfl rfl (hd 9 rfl rfl rfl) (fun b hptr hM hL => by have hF := hF.ext1 9 hptr; exact d_storeAgg 3 hM hL ty_sz_27 hF rfl rfl (by first | exact vecC_one | exact cells_one | (refine fnC_one fun _ _ => ?_; first | rfl | (split <;> rfl))) (by simp only [fnC_size, cells_size, vecC_size, tabC_size, planeC_size]) (by simp only [fnC_size, cells_size, vecC_size, tabC_size, planeC_size] <;> omega) (splice_whole _ _ (by simp only [fnC_size, cells_size, vecC_size, tabC_size, planeC_size]))), trivial⟩ ?_
  intro a w' L hF hS hq
  have hF := hF.ext1 21 (hq 0 rfl rfl rfl)
  have hF := hF.ext1 22 (hq 1 rfl rfl rfl)
  have hF := hF.ext1 23 (hq 2 rfl rfl rfl)
  have hF := hF.ext1 24 (hq 3 rfl rfl rfl)
  have hF := hF.ext1 25 (hq 4 rfl rfl rfl)
  have hF := hF.ext1 26 (hq 5 rfl rfl rfl)
  have hF := hF.ext1 20 (hq 6 rfl rfl rfl)
  have hF := hF.ext1 27 (hq 7 rfl rfl rfl)
  have hF := hF.ext1 28 (hq 8 rfl rfl rfl)
  obtain ⟨b5, cs6, hptr, hkk⟩ := hq 9 rfl rfl rfl
  obtain rfl : cs6 = vecC (powW (timesV p n T) uu v x) := hS.2 _ _ hkk
  have hF := hF.ext1 9 hptr
  obtain ⟨⟨hM, hL⟩, -⟩ := hS
  have hL := hL.take hkk
  obtain rfl := hL.eq
  change Mem w w' [some (b1, algC (p : Int) (n : Int) T f), some (b2, vecC v), some (b3, vecC (powW (timesS p n T) uu v x)), some (b5, vecC (powW (timesV p n T) uu v x))] [] at hM
  change wpList Try.prog _ _ [_] _ _
  refine st hF (g_assign hF rfl) rfl fun a hF => ?_
  refine wpList_nil ?_
  refine tN ?_
  refine sq ?_
  refine sq ?_
  refine wp_region_lit ?_
  refine st hF (g_loadAgg ty_ag_27 hF rfl (hM.row 3 rfl) (by simp only [fnC_size, cells_size, vecC_size, tabC_size, planeC_size] <;> omega) (whole (by simp only [fnC_size, cells_size, vecC_size, tabC_size, planeC_size]))) rfl fun a hF => st hF (g_loadAgg ty_ag_27 hF rfl (hM.row 2 rfl) (by simp only [fnC_size, cells_size, vecC_size, tabC_size, planeC_size] <;> omega) (whole (by simp only [fnC_size, cells_size, vecC_size, tabC_size, planeC_size]))) rfl fun a hF => ?_
  refine stR hF (d_call Try.call13 hF (.cons rfl (.cons rfl .nil)) (eqVector_ok (powW (timesV p n T) uu v x) (powW (timesS p n T) uu v x) _)) rfl ?_
  rintro _ w' a ⟨hx, rfl⟩ hF
  have hM := hM.ext hx
  refine st hF (g_notP hF rfl) rfl fun a hF => st hF (g_move hF rfl) rfl fun a hF => ?_
  by_cases g7 : ¬ (eqV 6 (powW (timesV p n T) uu v x) (powW (timesS p n T) uu v x))
  ·
    first | rw [decide_eq_true g7] at hF | simp only [decide_eq_true g7] at hF
    first | exact absurd rfl g7 | exact absurd eqlaw g7 | exact absurd (by exact ⟨rfl, rfl, fun _ _ _ _ _ _ => rfl, fun _ _ => rfl⟩) g7 | (exfalso; omega)
  ·
    first | rw [decide_eq_false g7] at hF | simp only [decide_eq_false g7] at hF
    refine stY hF rfl rfl rfl (g_move hF rfl) rfl fun a hF => stY hF rfl rfl rfl (g_move hF rfl) rfl fun a hF => stY hF rfl rfl rfl (g_neq hF rfl rfl) rfl fun a hF => st hF (g_pickF hF rfl rfl) rfl fun a hF => ?_
    refine wpList_nil ?_
    refine tN ?_
    refine c_kF hF rfl (by decide) ?_
    refine wp_skip ?_
    refine tN ?_
    refine sq ?_
    refine wp_region_lit ?_
    refine st hF (g_assign hF rfl) rfl fun a hF => ?_
    refine wpList_nil ?_
    refine tN ?_
    refine wp_ret ?_
    refine fin1 rfl hF.defers (res_tmp hF rfl) ⟨_, rfl, hM.below, ?_⟩
    show _ = _
    rfl

theorem law_PowerVector (p n : Int) (T : Nat → Nat → Nat → Nat) (f : Nat → Nat) (v : Nat → Nat) (x : Int) (w : World) (hT : ∀ i j k, T i j k ≤ 255) (hf : ∀ i, f i ≤ 255) (hv : ∀ i, v i ≤ 255) (_hx : -9223372036854775808 ≤ x ∧ x ≤ 9223372036854775807) : CallsV Try.prog 3 #[.agg (algC p n T f), .agg (vecC v), .int .i64 (x)] w (.bool true) := by
  by_cases hc : CodeP p n T f 1 (vAtL [v])
  · have hs := hc.1.1
    have hp0 := primeP_pos hs.1
    have hn := hs.2.1
    have e1 : ((p.toNat : Nat) : Int) = p := by omega
    have e2 : ((n.toNat : Nat) : Int) = n := by omega
    have hc2 : CodeP ((p.toNat : Nat) : Int) ((n.toNat : Nat) : Int) (trunc n.toNat T) f 1 (vAtL [v]) := by rw [e1, e2]; exact code_trunc hc
    by_cases hk : 0 ≤ x ∧ x ≤ 1000
    · obtain ⟨uu, huu⟩ := hc.1.2.2
      have h := law_PowerVectorB p.toNat n.toNat (trunc n.toNat T) f v x.toNat w (primeN_of hs.1) (by omega) (by omega) (trunc_lt hs) trunc_out hf hv (by omega) uu huu hc2
      rw [e1, e2, ← algC_trunc hs, show ((x.toNat : Nat) : Int) = x by omega] at h
      exact h
    · have h := law_PowerVectorR p.toNat n.toNat (trunc n.toNat T) f v x w (primeN_of hs.1) (by omega) (by omega) (trunc_lt hs) trunc_out hf hv hk hc2
      rw [e1, e2, ← algC_trunc hs] at h
      exact h
  · exact law_PowerVectorA p n T f v x w hT hf hv hc

end Go.Proofs.Ytficgmohfabplaa
