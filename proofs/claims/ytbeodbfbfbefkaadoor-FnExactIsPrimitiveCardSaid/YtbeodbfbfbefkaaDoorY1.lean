/- What functions of the program return, as walks over their operations; no statement of the seat is proved here. -/
import Derived.Test.YtbeodbfbfbefkaaDoorQ10
set_option linter.unusedVariables false
set_option linter.unusedSimpArgs false
namespace Go.Proofs.YtbeodbfbfbefkaaDoor
open Go Go.RowKit Go.Sw Go.Ech
open Classical
theorem addN_cast {p : Nat} {v u : Nat → Nat} {x : Int} {i : Nat} (hp : 0 < p) : ((v i : Nat) : Int) + x * ((u i : Nat) : Int) = ((v i : Nat) : Int) + x * ((u i : Nat) : Int) ∧ (((v i : Nat) : Int) + x * ((u i : Nat) : Int)) % (p : Int) = ((addN p v u x i : Nat) : Int) :=
  ⟨rfl, by unfold addN; exact (Int.toNat_of_nonneg (Int.emod_nonneg _ (by omega))).symm⟩
theorem mul_bdI {x : Int} {k : Nat} (h1 : -100 < x) (h2 : x < 100) (hk : k ≤ 255) : -25500 ≤ x * (k : Int) ∧ x * (k : Int) ≤ 25500 := by
  constructor
  · have := Int.mul_le_mul_of_nonneg_right (show (-100 : Int) ≤ x by omega) (show (0 : Int) ≤ (k : Int) by omega); omega
  · have := Int.mul_le_mul_of_nonneg_right (show x ≤ (100 : Int) by omega) (show (0 : Int) ≤ (k : Int) by omega); omega

theorem l01AddI_ok (p : Nat) (v u : Nat → Nat) (x : Int) (w : World) (hp : 0 < p) (hp2 : p < 100) (hx1 : -100 < x) (hx2 : x < 100) (hv : ∀ i, v i ≤ 255) (hu : ∀ i, u i ≤ 255) :
    CallsR Tryd.prog 38 #[.int .i64 (((p : Nat) : Int)), .agg (vecC v), .agg (vecC u), .int .i64 (x)] w (fun res _ => res = .agg (vecC (addN p v u x))) := by
  refine calls_fr [.int .i64 (((p : Nat) : Int)), .agg (vecC v), .agg (vecC u), .int .i64 (x)] Tryd.func38 rfl Tryd.ntmps38 rfl fun a hF => ?_
  have hM : Mem w w [none, none, none] [] := MemX.start w 3
  change Fr 31 a [(0, .int .i64 (((p : Nat) : Int))), (1, .agg (vecC v)), (2, .agg (vecC u)), (3, .int .i64 (x))] at hF
  refine sq (wp_region_lit ?_)
  refine stR hF (d_box 0 hM hF rfl) rfl ?_
  rintro _ w' a ⟨b1, rfl, hM, -⟩ hF
  change Mem w w' [some (b1, vecC v), none, none] [] at hM
  refine stR hF (d_box 1 hM hF rfl) rfl ?_
  rintro _ w' a ⟨b2, rfl, hM, -⟩ hF
  change Mem w w' [some (b1, vecC v), some (b2, vecC u), none] [] at hM
  refine stR hF (d_alloc 2 hM ty_ze_30) rfl ?_
  rintro _ w' a ⟨b3, rfl, hM, -⟩ hF
  change Mem w w' [some (b1, vecC v), some (b2, vecC u), some (b3, fnC 6 (fun _ => .int .u8 (0)))] [] at hM
  refine wpList_nil (tN (sq (sq (wp_region_lit ?_))))
  refine st hF (g_assign hF rfl) rfl fun a hF => ?_
  refine wpList_nil (tN (wp_block ?_))
  change Mem w _ [some (b1, vecC v), some (b2, vecC u), some (b3, fnC 6 (fun _ => .int .u8 (0)))] [] at hM
  refine c_loop (fun (kk : Nat) a w' => kk ≤ 6 ∧ (True) ∧ Fr 31 a [(0, .int .i64 (((p : Nat) : Int))), (1, .agg (vecC v)), (2, .agg (vecC u)), (3, .int .i64 (x)), (5, ptr b1 (0)), (6, ptr b2 (0)), (8, ptr b3 (0)), (9, .int .i64 (((kk : Nat) : Int)))] ∧ Mem w w' [some (b1, fnC 6 (fun c => .int .u8 ((if c < kk then addN p v u x c else v c : Nat) : Int))), some (b2, vecC u), some (b3, fnC 6 (fun _ => .int .u8 (0)))] []) (fun kk => 6 - kk) 0 ?_ ?_
  ·
   refine ⟨by omega, trivial, hF.sub _ (by repeat' constructor), ?_⟩
   refine hM.rowc 0 rfl (fnC_congr fun c hc => by simp)
  ·
   clear hF hM
   rintro gk a w' ⟨hgk, hinv1, hF, hM⟩
   have hvk := hv gk
   have huk := hu gk
   have hxu := mul_bdI hx1 hx2 huk
   refine sq (sq (wp_region_lit ?_))
   refine st hF (g_move hF rfl) rfl fun a hF => st hF (g_lss hF rfl rfl) rfl fun a hF => ?_
   refine wpList_nil (tN ?_)
   refine c_cond hF rfl (fun h4 => ?_) (fun h4 => ?_)
   ·
    refine wp_skip (tN (sq (wp_block ?_)))
    refine c_par 15 [] [.val (.int .i64 (((gk : Nat) : Int))), .val (.int .i64 (((p : Nat) : Int))), .val (.int .i64 (((gk : Nat) : Int))), .val (ptr b1 (0 + (gk) * 1)), .val (.int .u8 (((v (gk) : Nat) : Int))), .val (.int .i64 (((v (gk) : Nat) : Int))), .val (.int .i64 (x)), .val (.int .i64 (((gk : Nat) : Int))), .val (ptr b2 (0 + (gk) * 1)), .val (.int .u8 (((u (gk) : Nat) : Int))), .val (.int .i64 (((u (gk) : Nat) : Int))), .val (.int .i64 ((x) * (((u (gk) : Nat) : Int)))), .val (.int .i64 (((v (gk) : Nat) : Int) + (x) * (((u (gk) : Nat) : Int)))), .val (.int .i64 (((addN p v u x gk : Nat) : Int))), .val (.int .u8 (((addN p v u x gk : Nat) : Int)))] hmix rfl hF rfl hM ⟨fun a w gG hF hS hd => by exact par_val hS rfl (g_move hF rfl), fun a w gG hF hS hd => by exact par_val hS rfl (g_move hF rfl), fun a w gG hF hS hd => by exact par_val hS rfl (g_move hF rfl), fun a w gG hF hS hd => by have hF := hF.ext1 16 (hd 2 rfl rfl); exact par_val hS rfl (g_indexAddr ty_ar_30 hF rfl rfl rfl (by omega)), fun a w gG hF hS hd => by have hF := hF.ext1 17 (hd 3 rfl rfl); have hM := hS.mem rfl; exact par_val hS rfl (g_load ty_on_5 hF rfl (hM.row 0 rfl) (fnC_getE gk (by omega) (by omega) (by rw [if_neg (by omega)]))), fun a w gG hF hS hd => by have hF := hF.ext1 18 (hd 4 rfl rfl); exact par_val hS rfl (g_conv ty_un_2 ty_ud_5 hF rfl (wrap_i64 (by omega) (by omega))), fun a w gG hF hS hd => by exact par_val hS rfl (g_move hF rfl), fun a w gG hF hS hd => by exact par_val hS rfl (g_move hF rfl), fun a w gG hF hS hd => by have hF := hF.ext1 21 (hd 7 rfl rfl); exact par_val hS rfl (g_indexAddr ty_ar_30 hF rfl rfl rfl (by omega)), fun a w gG hF hS hd => by have hF := hF.ext1 22 (hd 8 rfl rfl); have hM := hS.mem rfl; exact par_val hS rfl (g_load ty_on_5 hF rfl (hM.row 1 rfl) (vecC_get (gk) (by omega) (by omega))), fun a w gG hF hS hd => by have hF := hF.ext1 23 (hd 9 rfl rfl); exact par_val hS rfl (g_conv ty_un_2 ty_ud_5 hF rfl (wrap_i64 (by omega) (by omega))), fun a w gG hF hS hd => by have hF := hF.ext1 20 (hd 6 rfl rfl); have hF := hF.ext1 24 (hd 10 rfl rfl); exact par_val hS rfl (g_mul hF rfl rfl (wrap_i64 (by omega) (by omega))), fun a w gG hF hS hd => by have hF := hF.ext1 19 (hd 5 rfl rfl); have hF := hF.ext1 25 (hd 11 rfl rfl); exact par_val hS rfl (g_add hF rfl rfl (wrap_i64 (by omega) (by omega))), fun a w gG hF hS hd => by have hF := hF.ext1 15 (hd 1 rfl rfl); have hF := hF.ext1 26 (hd 12 rfl rfl); exact par_call (by repeat constructor) hS rfl (d_call Tryd.call63 hF (.cons rfl (.cons rfl .nil)) ((CallsR.val (l01Mod_ok (((v (gk) : Nat) : Int) + (x) * (((u (gk) : Nat) : Int))) (p) _ (by omega) (by omega) (by omega) (by omega)) (congrArg (Value.int .i64) (addN_cast (p := p) (v := v) (u := u) (x := x) (i := gk) hp).2)))), fun a w gG hF hS hd => by have hF := hF.ext1 27 (hd 13 rfl rfl); exact par_val hS rfl (g_conv ty_un_5 ty_ud_2 hF rfl (wrap_u8 (by omega) (by have := addN_lt (p := p) (f := v) (h := u) (x := x) (i := gk) hp; omega))), trivial⟩ ?_
    intro a w' L hF hS hq
    have hF := hF.ext1 14 (hq 0 rfl rfl)
    have hF := hF.ext1 15 (hq 1 rfl rfl)
    have hF := hF.ext1 16 (hq 2 rfl rfl)
    have hF := hF.ext1 17 (hq 3 rfl rfl)
    have hF := hF.ext1 18 (hq 4 rfl rfl)
    have hF := hF.ext1 19 (hq 5 rfl rfl)
    have hF := hF.ext1 20 (hq 6 rfl rfl)
    have hF := hF.ext1 21 (hq 7 rfl rfl)
    have hF := hF.ext1 22 (hq 8 rfl rfl)
    have hF := hF.ext1 23 (hq 9 rfl rfl)
    have hF := hF.ext1 24 (hq 10 rfl rfl)
    have hF := hF.ext1 25 (hq 11 rfl rfl)
    have hF := hF.ext1 26 (hq 12 rfl rfl)
    have hF := hF.ext1 27 (hq 13 rfl rfl)
    have hF := hF.ext1 28 (hq 14 rfl rfl)
    have hM := hS.mem rfl
    change wpList Tryd.prog _ _ [_, _] _ _
    refine st hF (g_indexAddr ty_ar_30 hF rfl rfl rfl (by omega)) rfl fun a hF => ?_
    refine stN hF (d_store 0 hM rfl ty_on_5 hF rfl rfl rfl (by first | omega | (simp only [fnC_size, cells_size, vecC_size, tabC_size, planeC_size, dgC_size, numC_sz, ldB_size] <;> omega) | simp)) ?_
    intro _ w' a hM hF
    rw [show (fnC 6 (fun c => .int .u8 ((if c < gk then addN p v u x c else v c : Nat) : Int))).setIfInBounds (0 + (gk) * 1) (.int .u8 (((addN p v u x gk : Nat) : Int))) = fnC 6 (fun c => .int .u8 (((if c = gk then addN p v u x gk else if c < gk then addN p v u x c else v c) : Nat) : Int)) from fnC_set (fun c _ => by rw [show 0 + (gk) * 1 = gk by omega]; by_cases hh : c = gk <;> simp [hh])] at hM
    change Mem w w' [some (b1, fnC 6 (fun c => .int .u8 (((if c = gk then addN p v u x gk else if c < gk then addN p v u x c else v c) : Nat) : Int))), some (b2, vecC u), some (b3, fnC 6 (fun _ => .int .u8 (0)))] [] at hM
    refine wpList_nil (iN (tN (wp_region_lit ?_)))
    refine st hF (g_move hF rfl) rfl fun a hF => st hF (g_add hF rfl rfl (add_nat (gk) (1) (by omega))) rfl fun a hF => st hF (g_assign hF rfl) rfl fun a hF => ?_
    refine wpList_nil (tN ?_)
    refine ⟨gk + 1, ⟨by omega, trivial, hF.sub _ (by repeat' constructor), ?_⟩, by omega⟩
    refine hM.rowc 0 rfl (fnC_congr fun c hc => congrArg (Value.int .u8) (congrArg Nat.cast ?_))
    by_cases e1 : c = gk
    · simp [e1]
    · have e0 : (c < gk + 1) = (c < gk) := by apply propext; omega
      simp [e0, e1]
   ·
    obtain rfl : 6 = gk := by omega
    have hM := hM.rowc (cs' := vecC (addN p v u x)) 0 rfl (fnC_congr fun c hc => by simp [show c < 6 by omega])
    refine wp_exit (tX (tX ?_))
    refine ib_same ?_
    refine tN (sq (wp_region_lit ?_))
    refine st hF (g_loadAgg ty_ag_30 hF rfl (hM.row 0 rfl) (by simp only [fnC_size, cells_size, vecC_size, tabC_size, planeC_size, dgC_size, numC_sz, ldB_size] <;> omega) (whole (by simp only [fnC_size, cells_size, vecC_size, tabC_size, planeC_size, dgC_size, numC_sz, ldB_size]))) rfl fun a hF => ?_
    refine stN hF (d_storeAgg 2 hM rfl ty_sz_30 hF rfl rfl (by first | exact vecC_one | exact cells_one | (refine fnC_one fun _ _ => ?_; first | rfl | (split <;> rfl))) (by simp only [fnC_size, cells_size, vecC_size, tabC_size, planeC_size, dgC_size, numC_sz, ldB_size]) (by simp only [fnC_size, cells_size, vecC_size, tabC_size, planeC_size, dgC_size, numC_sz, ldB_size] <;> omega) (splice_whole _ _ (by simp only [fnC_size, cells_size, vecC_size, tabC_size, planeC_size, dgC_size, numC_sz, ldB_size]))) ?_
    intro _ w' a hM hF
    change Mem w w' [some (b1, vecC (addN p v u x)), some (b2, vecC u), some (b3, vecC (addN p v u x))] [] at hM
    refine wpList_nil (tN (wp_ret ?_))
    refine fin1 rfl hF.defers (res_agg ty_ag_30 hF rfl (hM.row 2 rfl) (by simp only [fnC_size, cells_size, vecC_size, tabC_size, planeC_size, dgC_size, numC_sz, ldB_size])) ⟨_, rfl, hM.below, ?_⟩
    show _ = _
    rfl

theorem l05Power_ok (p n : Nat) (T : Nat → Nat → Nat → Nat) (f : Nat → Nat) (v : Nat → Nat) (x : Nat) (w : World) (hp : primeN p) (hn0 : 0 < n) (hn : n ≤ 6) (hTp : ∀ i j k, T i j k < p) (hT0 : ∀ i j k, n ≤ k → T i j k = 0) (hf : ∀ i, f i ≤ 255) (hv : ∀ i, v i ≤ 255) (uu : Nat → Nat) (huu : UnitI p n T uu) (hk : x ≤ 3000) :
    CallsR Tryd.prog 59 #[.agg (algC (p : Int) (n : Int) T f), .agg (vecC v), .int .i64 (((x : Nat) : Int))] w (fun res _ => res = .agg (vecC (powW (timesV p n T) uu v x))) := by
  refine calls_fr [.agg (algC (p : Int) (n : Int) T f), .agg (vecC v), .int .i64 (((x : Nat) : Int))] Tryd.func59 rfl Tryd.ntmps59 rfl fun a hF => ?_
  have hM : Mem w w [none, none, none, none] [] := MemX.start w 4
  change Fr 19 a [(0, .agg (algC (p : Int) (n : Int) T f)), (1, .agg (vecC v)), (2, .int .i64 (((x : Nat) : Int)))] at hF
  have hp2 := hp.two
  have hp13 := hp.le
  have hT : ∀ i j k, T i j k ≤ 255 := fun i j k => by have := hTp i j k; omega
  have hvp : ∀ k c, (powW (timesV p n T) uu v k) c ≤ 255 := powW_le (fun c => by have := huu.small c; omega) (fun x c => timesV_le (by omega) (by omega) x _ c)
  refine sq (wp_region_lit ?_)
  refine stR hF (d_box 0 hM hF rfl) rfl ?_
  rintro _ w' a ⟨b1, rfl, hM, -⟩ hF
  change Mem w w' [some (b1, algC (p : Int) (n : Int) T f), none, none, none] [] at hM
  refine stR hF (d_box 1 hM hF rfl) rfl ?_
  rintro _ w' a ⟨b2, rfl, hM, -⟩ hF
  change Mem w w' [some (b1, algC (p : Int) (n : Int) T f), some (b2, vecC v), none, none] [] at hM
  refine stR hF (d_alloc 2 hM ty_ze_30) rfl ?_
  rintro _ w' a ⟨b3, rfl, hM, -⟩ hF
  change Mem w w' [some (b1, algC (p : Int) (n : Int) T f), some (b2, vecC v), some (b3, fnC 6 (fun _ => .int .u8 (0))), none] [] at hM
  refine wpList_nil (tN (sq (wp_region_lit ?_)))
  refine st hF (g_loadAgg ty_ag_32 hF rfl (hM.row 0 rfl) (by simp only [fnC_size, cells_size, vecC_size, tabC_size, planeC_size, dgC_size, numC_sz, ldB_size] <;> omega) (whole cells_size)) rfl fun a hF => ?_
  refine stR hF (d_call Tryd.call36 hF (.cons rfl .nil) (l01Unit_ok p n T f _ hp hn0 hn hTp uu huu)) rfl ?_
  rintro _ w' a ⟨hx, rfl⟩ hF
  have hM := hM.ext hx
  refine stR hF (d_alloc 3 hM ty_ze_30) rfl ?_
  rintro _ w' a ⟨b4, rfl, hM, -⟩ hF
  change Mem w w' [some (b1, algC (p : Int) (n : Int) T f), some (b2, vecC v), some (b3, fnC 6 (fun _ => .int .u8 (0))), some (b4, fnC 6 (fun _ => .int .u8 (0)))] [] at hM
  refine stN hF (d_storeAgg 3 hM rfl ty_sz_30 hF rfl rfl (by first | exact vecC_one | exact cells_one | (refine fnC_one fun _ _ => ?_; first | rfl | (split <;> rfl))) (by simp only [fnC_size, cells_size, vecC_size, tabC_size, planeC_size, dgC_size, numC_sz, ldB_size]) (by simp only [fnC_size, cells_size, vecC_size, tabC_size, planeC_size, dgC_size, numC_sz, ldB_size] <;> omega) (splice_whole _ _ (by simp only [fnC_size, cells_size, vecC_size, tabC_size, planeC_size, dgC_size, numC_sz, ldB_size]))) ?_
  intro _ w' a hM hF
  change Mem w w' [some (b1, algC (p : Int) (n : Int) T f), some (b2, vecC v), some (b3, fnC 6 (fun _ => .int .u8 (0))), some (b4, vecC uu)] [] at hM
  refine wpList_nil (tN (sq (wp_block ?_)))
  change Mem w _ [some (b1, algC (p : Int) (n : Int) T f), some (b2, vecC v), some (b3, fnC 6 (fun _ => .int .u8 (0))), some (b4, vecC uu)] [] at hM
  refine c_loop (fun (kk : Nat) a w' => kk ≤ x ∧ (True) ∧ Fr 19 a [(0, .agg (algC (p : Int) (n : Int) T f)), (1, .agg (vecC v)), (3, ptr b1 (0)), (4, ptr b2 (0)), (6, ptr b3 (0)), (8, .agg (algC (p : Int) (n : Int) T f)), (9, .agg (vecC uu)), (7, ptr b4 (0)), (2, .int .i64 (((x - kk : Nat) : Int)))] ∧ Mem w w' [some (b1, algC (p : Int) (n : Int) T f), some (b2, vecC v), some (b3, fnC 6 (fun _ => .int .u8 (0))), some (b4, vecC (powW (timesV p n T) uu v kk))] []) (fun kk => x - kk) 0 ?_ ?_
  ·
   refine ⟨by omega, trivial, hF.sub _ (by repeat' constructor), ?_⟩
   exact hM
  ·
   clear hF hM
   rintro gi a w' ⟨hgi, hinv1, hF, hM⟩
   have hvt := hvp gi
   refine sq (sq (wp_region_lit ?_))
   refine st hF (g_move hF rfl) rfl fun a hF => st hF (g_gtr hF rfl rfl) rfl fun a hF => ?_
   refine wpList_nil (tN ?_)
   refine c_cond hF rfl (fun h5 => ?_) (fun h5 => ?_)
   ·
    refine wp_skip (tN (sq (wp_block (wp_region_lit ?_))))
    refine st hF (g_loadAgg ty_ag_32 hF rfl (hM.row 0 rfl) (by simp only [fnC_size, cells_size, vecC_size, tabC_size, planeC_size, dgC_size, numC_sz, ldB_size] <;> omega) (whole cells_size)) rfl fun a hF => st hF (g_loadAgg ty_ag_30 hF rfl (hM.row 3 rfl) (by simp only [fnC_size, cells_size, vecC_size, tabC_size, planeC_size, dgC_size, numC_sz, ldB_size] <;> omega) (whole (by simp only [fnC_size, cells_size, vecC_size, tabC_size, planeC_size, dgC_size, numC_sz, ldB_size]))) rfl fun a hF => st hF (g_loadAgg ty_ag_30 hF rfl (hM.row 1 rfl) (by simp only [fnC_size, cells_size, vecC_size, tabC_size, planeC_size, dgC_size, numC_sz, ldB_size] <;> omega) (whole (by simp only [fnC_size, cells_size, vecC_size, tabC_size, planeC_size, dgC_size, numC_sz, ldB_size]))) rfl fun a hF => ?_
    refine stR hF (d_call Tryd.call39 hF (.cons rfl (.cons rfl (.cons rfl .nil))) ((CallsR.val (l01Times_ok p n T f ((powW (timesV p n T) uu v gi)) (v) _ (by omega) (by omega) (by omega) (fun _ _ _ => hT _ _ _) (fun _ => by first | exact hv _ | exact hvt _ | exact hvs _ | exact hu _ | exact hT _ _ _ | exact hf _ | omega | (split <;> omega) | (dsimp only; split <;> omega) | assumption) (fun _ => by first | exact hv _ | exact hvt _ | exact hvs _ | exact hu _ | exact hT _ _ _ | exact hf _ | omega | (split <;> omega) | (dsimp only; split <;> omega) | assumption)) (congrArg (fun v => Value.agg (vecC v)) (times_eq hT0 ((powW (timesV p n T) uu v gi)) (v)).symm)))) rfl ?_
    rintro _ w' a ⟨hx, rfl⟩ hF
    have hM := hM.ext hx
    refine stN hF (d_storeAgg 3 hM rfl ty_sz_30 hF rfl rfl (by first | exact vecC_one | exact cells_one | (refine fnC_one fun _ _ => ?_; first | rfl | (split <;> rfl))) (by simp only [fnC_size, cells_size, vecC_size, tabC_size, planeC_size, dgC_size, numC_sz, ldB_size]) (by simp only [fnC_size, cells_size, vecC_size, tabC_size, planeC_size, dgC_size, numC_sz, ldB_size] <;> omega) (splice_whole _ _ (by simp only [fnC_size, cells_size, vecC_size, tabC_size, planeC_size, dgC_size, numC_sz, ldB_size]))) ?_
    intro _ w' a hM hF
    change Mem w w' [some (b1, algC (p : Int) (n : Int) T f), some (b2, vecC v), some (b3, fnC 6 (fun _ => .int .u8 (0))), some (b4, vecC (timesV p n T ((powW (timesV p n T) uu v gi)) (v)))] [] at hM
    refine wpList_nil (iN (tN (wp_region_lit ?_)))
    refine st hF (g_move hF rfl) rfl fun a hF => st hF (g_sub hF rfl rfl (show _ = ((x - (gi + 1) : Nat) : Int) from (by rw [wrap_i64] <;> omega))) rfl fun a hF => st hF (g_assign hF rfl) rfl fun a hF => ?_
    refine wpList_nil (tN ?_)
    refine ⟨gi + 1, ⟨by omega, trivial, hF.sub _ (by repeat' constructor), ?_⟩, by omega⟩
    exact hM
   ·
    obtain rfl : x = gi := by omega
    refine wp_exit (tX (tX ?_))
    refine ib_same ?_
    refine tN (sq (wp_region_lit ?_))
    refine st hF (g_loadAgg ty_ag_30 hF rfl (hM.row 3 rfl) (by simp only [fnC_size, cells_size, vecC_size, tabC_size, planeC_size, dgC_size, numC_sz, ldB_size] <;> omega) (whole (by simp only [fnC_size, cells_size, vecC_size, tabC_size, planeC_size, dgC_size, numC_sz, ldB_size]))) rfl fun a hF => ?_
    refine stN hF (d_storeAgg 2 hM rfl ty_sz_30 hF rfl rfl (by first | exact vecC_one | exact cells_one | (refine fnC_one fun _ _ => ?_; first | rfl | (split <;> rfl))) (by simp only [fnC_size, cells_size, vecC_size, tabC_size, planeC_size, dgC_size, numC_sz, ldB_size]) (by simp only [fnC_size, cells_size, vecC_size, tabC_size, planeC_size, dgC_size, numC_sz, ldB_size] <;> omega) (splice_whole _ _ (by simp only [fnC_size, cells_size, vecC_size, tabC_size, planeC_size, dgC_size, numC_sz, ldB_size]))) ?_
    intro _ w' a hM hF
    change Mem w w' [some (b1, algC (p : Int) (n : Int) T f), some (b2, vecC v), some (b3, vecC (powW (timesV p n T) uu v x)), some (b4, vecC (powW (timesV p n T) uu v x))] [] at hM
    refine wpList_nil (tN (wp_ret ?_))
    refine fin1 rfl hF.defers (res_agg ty_ag_30 hF rfl (hM.row 2 rfl) (by simp only [fnC_size, cells_size, vecC_size, tabC_size, planeC_size, dgC_size, numC_sz, ldB_size])) ⟨_, rfl, hM.below, ?_⟩
    show _ = _
    rfl

end Go.Proofs.YtbeodbfbfbefkaaDoor
